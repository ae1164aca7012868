/- Texts put together. -/
import Derived.Test.YtgfhconcmoepcaaChecked
import Derived.Test.YtgfhconcmoepcaaMgb9
import Derived.Test.YtgfhconcmoepcaaMgb13
import Derived.Deep.QuietTactic
import Derived.BigQuiet
import Derived.Test.YtgfhconcmoepcaaMgb23
/- Join of the model. Condition: the elements and their number together at most 2^20, the separator too. -/
namespace Go.Proofs.Ytgfhconcmoepcaa
open Go.RowKit
end Go.Proofs.Ytgfhconcmoepcaa

/- SplitAny and SplitLines of the model and of the program return the same list of strings in a row of their own. Condition: texts of at most 2^20 bytes. -/
namespace Go.Proofs.Ytgfhconcmoepcaa
open Go.RowKit
end Go.Proofs.Ytgfhconcmoepcaa

/- FormatSubst, ParseSubst and NamedSubst of the model. Conditions: lengths of at most 2^20. -/
namespace Go.Proofs.Ytgfhconcmoepcaa
open Go.RowKit

/-- what FormatSubst is to return -/
def fmtR (l : List ByteArray) : ByteArray := if substB l = true then joinS l ⟨#[44]⟩ else ⟨#[]⟩
theorem total_of_all : ∀ (l : List ByteArray) (m : Nat), (∀ x ∈ l, x.size ≤ m) → totalS l ≤ m * l.length
  | [], _, _ => by simp [totalS]
  | x :: l, m, h => by
    have h1 := h x (List.mem_cons_self ..)
    have h2 := total_of_all l m (fun y hy => h y (List.mem_cons_of_mem _ hy))
    unfold totalS at h2 ⊢
    rw [List.map_cons, List.sum_cons, List.length_cons, Nat.mul_succ]
    omega
theorem subst_total {l : List ByteArray} (h : substB l = true) : l.length + totalS l ≤ 36 := by
  obtain ⟨_, h4, hi⟩ := subst_parts h
  have := total_of_all l 8 (fun x hx => by
    obtain ⟨k, hk, rfl⟩ := List.mem_iff_getElem.1 hx
    exact (img_parts (hi k hk)).2.1)
  omega

/-- what ParseSubst is to return -/
noncomputable def parseOk (t : ByteArray) : Bool := decide (t.size ≤ 40) && (substB (splitL t ⟨#[44]⟩) && decide (fmtR (splitL t ⟨#[44]⟩) = t))
noncomputable def parseSub (t : ByteArray) : List ByteArray := if parseOk t = true then splitL t ⟨#[44]⟩ else []

theorem parseSub_le (t : ByteArray) : (parseSub t).length ≤ 41 := by
  unfold parseSub; split
  · rename_i h
    have h1 := splitL_length t ⟨#[44]⟩
    have h2 : t.size ≤ 40 := by
      unfold parseOk at h
      rw [Bool.and_eq_true] at h
      simpa using h.1
    omega
  · simp

end Go.Proofs.Ytgfhconcmoepcaa

/- NamedSubst of the model. No condition. -/
namespace Go.Proofs.Ytgfhconcmoepcaa
open Go.RowKit

/-- SplitAny, reckoned -/
def splitC (s y : ByteArray) : Nat → List ByteArray × Nat
  | 0 => ([], 0)
  | k + 1 => if h : k < s.size then (if y.data.toList.contains s[k] then ((splitC s y k).1 ++ [s.extract (splitC s y k).2 k], k + 1) else splitC s y k) else splitC s y k
theorem isSep_iff (y : ByteArray) (c : UInt8) : isSep y c ↔ y.data.toList.contains c = true := by
  rw [List.contains_iff_mem]
  constructor
  · rintro ⟨i, h, rfl⟩
    have : y[i] = y.data.toList[i]'(by simpa using h) := rfl
    rw [this]; exact List.getElem_mem _
  · intro h
    obtain ⟨i, hi, e⟩ := List.mem_iff_getElem.1 h
    exact ⟨i, by simpa using hi, e⟩
theorem splitC_eq (s y : ByteArray) : ∀ k, splitTo s y k = splitC s y k
  | 0 => rfl
  | k + 1 => by
    have ih := splitC_eq s y k
    rw [splitC]
    by_cases h : k < s.size
    · rw [dif_pos h]
      by_cases hs : isSep y s[k]
      · rw [splitTo_yes h hs, ih, if_pos ((isSep_iff _ _).1 hs)]
      · rw [splitTo_no h hs, ih, if_neg (fun h' => hs ((isSep_iff _ _).2 h'))]
    · rw [dif_neg h, splitTo, if_neg (fun ⟨h', _⟩ => h h'), ih]
theorem splitL_eq (s y : ByteArray) : splitL s y = (splitC s y s.size).1 ++ [s.extract (splitC s y s.size).2 s.size] := by
  unfold splitL
  rw [splitC_eq]
theorem parse_at {t : ByteArray} {l : List ByteArray} (h : (splitC t ⟨#[44]⟩ t.size).1 ++ [t.extract (splitC t ⟨#[44]⟩ t.size).2 t.size] = l) (h1 : t.size ≤ 40) (h2 : substB l = true) (h3 : fmtR l = t) : parseOk t = true ∧ parseSub t = l := by
  have e : splitL t ⟨#[44]⟩ = l := (splitL_eq _ _).trans h
  have a : parseOk t = true := by
    unfold parseOk
    rw [e, h2, decide_eq_true h1, decide_eq_true h3]
    rfl
  exact ⟨a, (if_pos a).trans e⟩
theorem parse_fibonacci : parseOk ⟨#[97, 98, 44, 97]⟩ = true ∧ parseSub ⟨#[97, 98, 44, 97]⟩ = [⟨#[97, 98]⟩, ⟨#[97]⟩] := parse_at (by kernel_rfl) (by decide) (by kernel_rfl) (by kernel_rfl)
theorem parse_thue : parseOk ⟨#[97, 98, 44, 98, 97]⟩ = true ∧ parseSub ⟨#[97, 98, 44, 98, 97]⟩ = [⟨#[97, 98]⟩, ⟨#[98, 97]⟩] := parse_at (by kernel_rfl) (by decide) (by kernel_rfl) (by kernel_rfl)
theorem parse_doubling : parseOk ⟨#[97, 98, 44, 97, 97]⟩ = true ∧ parseSub ⟨#[97, 98, 44, 97, 97]⟩ = [⟨#[97, 98]⟩, ⟨#[97, 97]⟩] := parse_at (by kernel_rfl) (by decide) (by kernel_rfl) (by kernel_rfl)
theorem parse_tribonacci : parseOk ⟨#[97, 98, 44, 97, 99, 44, 97]⟩ = true ∧ parseSub ⟨#[97, 98, 44, 97, 99, 44, 97]⟩ = [⟨#[97, 98]⟩, ⟨#[97, 99]⟩, ⟨#[97]⟩] := parse_at (by kernel_rfl) (by decide) (by kernel_rfl) (by kernel_rfl)
theorem parse_silver : parseOk ⟨#[97, 97, 98, 44, 97]⟩ = true ∧ parseSub ⟨#[97, 97, 98, 44, 97]⟩ = [⟨#[97, 97, 98]⟩, ⟨#[97]⟩] := parse_at (by kernel_rfl) (by decide) (by kernel_rfl) (by kernel_rfl)
theorem parse_squarefree : parseOk ⟨#[97, 98, 99, 44, 97, 99, 44, 98]⟩ = true ∧ parseSub ⟨#[97, 98, 99, 44, 97, 99, 44, 98]⟩ = [⟨#[97, 98, 99]⟩, ⟨#[97, 99]⟩, ⟨#[98]⟩] := parse_at (by kernel_rfl) (by decide) (by kernel_rfl) (by kernel_rfl)
theorem parse_rudin : parseOk ⟨#[97, 98, 44, 97, 99, 44, 100, 98, 44, 100, 99]⟩ = true ∧ parseSub ⟨#[97, 98, 44, 97, 99, 44, 100, 98, 44, 100, 99]⟩ = [⟨#[97, 98]⟩, ⟨#[97, 99]⟩, ⟨#[100, 98]⟩, ⟨#[100, 99]⟩] := parse_at (by kernel_rfl) (by decide) (by kernel_rfl) (by kernel_rfl)
/-- what NamedSubst is to return -/
def namedL (t : ByteArray) : List ByteArray :=
  if t = ⟨#[102, 105, 98, 111, 110, 97, 99, 99, 105]⟩ then [⟨#[97, 98]⟩, ⟨#[97]⟩]
  else if t = ⟨#[116, 104, 117, 101]⟩ then [⟨#[97, 98]⟩, ⟨#[98, 97]⟩]
  else if t = ⟨#[100, 111, 117, 98, 108, 105, 110, 103]⟩ then [⟨#[97, 98]⟩, ⟨#[97, 97]⟩]
  else if t = ⟨#[116, 114, 105, 98, 111, 110, 97, 99, 99, 105]⟩ then [⟨#[97, 98]⟩, ⟨#[97, 99]⟩, ⟨#[97]⟩]
  else if t = ⟨#[115, 105, 108, 118, 101, 114]⟩ then [⟨#[97, 97, 98]⟩, ⟨#[97]⟩]
  else if t = ⟨#[115, 113, 117, 97, 114, 101, 102, 114, 101, 101]⟩ then [⟨#[97, 98, 99]⟩, ⟨#[97, 99]⟩, ⟨#[98]⟩]
  else if t = ⟨#[114, 117, 100, 105, 110]⟩ then [⟨#[97, 98]⟩, ⟨#[97, 99]⟩, ⟨#[100, 98]⟩, ⟨#[100, 99]⟩]
  else []
def namedOk (t : ByteArray) : Bool := decide (namedL t ≠ [])
theorem namedL_le (t : ByteArray) : (namedL t).length ≤ 4 := by
  unfold namedL
  repeat' split
  all_goals decide
theorem eq_toList (t : ByteArray) (l : List UInt8) : (t.toList = l) ↔ t = ⟨l.toArray⟩ := by
  constructor
  · intro h
    apply bytes_ext
    rw [h, ByteArray.toList_eq]
  · intro h
    rw [h, ByteArray.toList_eq]

end Go.Proofs.Ytgfhconcmoepcaa
