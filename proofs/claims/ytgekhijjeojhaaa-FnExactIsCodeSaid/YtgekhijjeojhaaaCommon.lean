/- CommonStart of the model. Condition: texts of at most 2^20 bytes. -/
import Derived.Test.YtgekhijjeojhaaaWordOk
import Derived.Deep.QuietTactic
import Derived.BigQuiet
namespace Go.Proofs.Ytgekhijjeojhaaa
open Go.RowKit

/-- how many bytes at their beginnings two texts share -/
def lcp : List UInt8 → List UInt8 → Nat
  | a :: l, b :: m => if a = b then lcp l m + 1 else 0
  | _, _ => 0
theorem lcp_eq : ∀ (n : Nat) (l m : List UInt8), l.take n = m.take n → n ≤ l.length → n ≤ m.length → (n = l.length ∨ n = m.length ∨ ∀ a b, l[n]? = some a → m[n]? = some b → a ≠ b) → lcp l m = n
  | 0, l, m, _, _, _, h => by
    match l, m, h with
    | [], _, _ => rfl
    | _ :: _, [], _ => rfl
    | a :: l, b :: m, h =>
      have hab : a ≠ b := by
        rcases h with h | h | h
        · simp at h
        · simp at h
        · exact h a b rfl rfl
      show (if a = b then lcp l m + 1 else 0) = 0
      rw [if_neg hab]
  | n + 1, l, m, ht, hl, hm, h => by
    match l, m, ht, hl, hm, h with
    | a :: l, b :: m, ht, hl, hm, h =>
      rw [List.take_succ_cons, List.take_succ_cons] at ht
      injection ht with h1 h2
      show (if a = b then lcp l m + 1 else 0) = n + 1
      rw [if_pos h1, lcp_eq n l m h2 (by simpa using hl) (by simpa using hm) (by simpa using h)]
/-- what CommonStart is to return -/
def commonR (s t : ByteArray) : Int := if wordB s = true ∧ wordB t = true then (lcp s.data.toList t.data.toList : Int) else -1

theorem at_some (s : ByteArray) (k : Nat) (h : k < s.size) : s.data.toList[k]? = some s[k] := List.getElem?_eq_getElem (by simpa using h)

end Go.Proofs.Ytgekhijjeojhaaa
