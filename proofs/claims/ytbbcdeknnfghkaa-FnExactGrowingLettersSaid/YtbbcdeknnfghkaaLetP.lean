/- A letter with an image, and how long the word is that it becomes. No program in it. -/
import Derived.Test.YtbbcdeknnfghkaaCountP
namespace Go.Proofs.Ytbbcdeknnfghkaa
open Go.RowKit

def letN (t : ByteArray) : Nat := (t.data.toList.getD 0 0).toNat - 97
def letOk (l : List ByteArray) (t : ByteArray) : Bool := (decide (t.size = 1) && wordB t) && decide (letN t < l.length)
/-- the index of a letter with an image, or -1 -/
def letR (l : List ByteArray) (t : ByteArray) : Int := if letOk l t = true then (letN t : Int) else -1
theorem letN_eq {t : ByteArray} (h1 : t.size = 1) : letN t = (t[0]'(by omega)).toNat - 97 := by
  unfold letN
  have h0 : 0 < t.data.toList.length := by simp; omega
  rw [List.getD_eq_getElem?_getD, List.getElem?_eq_getElem h0]
  rfl
theorem letN_at {t : ByteArray} (h1 : t.size = 1) (h2 : wordB t = true) : (t[0]'(by omega)).toNat = 97 + letN t ∧ letN t ≤ 3 := by
  obtain ⟨a, b⟩ := word_at h2 0 (by omega)
  rw [letN_eq h1]
  omega
/-- one of one letter, none of the others -/
def unitC (n k : Nat) : List Int := (List.replicate n (0 : Int)).set k 1
theorem unitC_length (n k : Nat) : (unitC n k).length = n := by simp [unitC]
def isum (cs : List Int) : Nat → Int
  | 0 => 0
  | k + 1 => isum cs k + cs.getD k 0
/-- what LengthAfter is to return -/
def lenR (l : List ByteArray) (t : ByteArray) (n : Int) : Int :=
  if (letOk l t && substB l) = true then (if caOk l (unitC l.length (letN t)) n = true then isum (caR l (unitC l.length (letN t)) n) l.length else -1) else -1
theorem caR_small {l : List ByteArray} {cs : List Int} {n : Int} (h : caOk l cs n = true) : (caR l cs n).length = l.length ∧ ∀ k, k < l.length → 0 ≤ (caR l cs n).getD k 0 ∧ (caR l cs n).getD k 0 ≤ 1000000000000 := by
  have e : caR l cs n = itC l cs n.toNat := if_pos h
  have h' := h
  unfold caOk at h'
  simp only [Bool.and_eq_true, decide_eq_true_eq] at h'
  rw [e]
  exact ⟨itC_length h'.1.1.2 _, itC_small h'.1.1.1 h'.1.1.2 h'.2.1 _ h'.2.2⟩
theorem isum_bound {cs : List Int} {n : Nat} (h : ∀ k, k < n → 0 ≤ cs.getD k 0 ∧ cs.getD k 0 ≤ 1000000000000) : ∀ k, k ≤ n → 0 ≤ isum cs k ∧ isum cs k ≤ k * 1000000000000
  | 0, _ => by simp [isum]
  | k + 1, hk => by
    have ih := isum_bound h k (by omega)
    have := h k (by omega)
    unfold isum
    omega
end Go.Proofs.Ytbbcdeknnfghkaa
