/- What a name is. No program in it. -/
import Derived.Test.YtgekhijjeojhaaaDigB
namespace Go.Proofs.Ytgekhijjeojhaaa
open Go.RowKit

def nameB (i : Nat) (c : UInt8) : Bool := isLowB c || (decide (0 < i) && isDigB c)
def NameTo (s : ByteArray) (k : Nat) : Prop := ∀ i (h : i < s.size), i < k → nameB i s[i] = true
noncomputable def nameOk (s : ByteArray) : Bool := @decide (1 ≤ s.size ∧ s.size ≤ 8 ∧ NameTo s s.size) (Classical.propDecidable _)
theorem nameTo_zero (s : ByteArray) : NameTo s 0 := fun _ _ h => absurd h (by omega)
theorem nameTo_succ {s : ByteArray} {k : Nat} (h : NameTo s k) (hk : k < s.size) (hb : nameB k s[k] = true) : NameTo s (k + 1) := by
  intro i hi hlt
  by_cases e : i = k
  · subst e; exact hb
  · exact h i hi (by omega)
theorem nameOk_no {s : ByteArray} {k : Nat} (hk : k < s.size) (hb : nameB k s[k] = false) : nameOk s = false := by
  unfold nameOk
  rw [decide_eq_false_iff_not]
  rintro ⟨_, _, h⟩
  rw [h k hk hk] at hb
  cases hb
theorem nameOk_len {s : ByteArray} (h : s.size < 1 ∨ 8 < s.size) : nameOk s = false := by
  unfold nameOk
  rw [decide_eq_false_iff_not]
  rintro ⟨_, _, _⟩
  omega
theorem nameOk_yes {s : ByteArray} (h : NameTo s s.size) : nameOk s = (decide (1 ≤ s.size) && decide (s.size ≤ 8)) := by
  unfold nameOk
  rw [Bool.eq_iff_iff]
  simp [h]
end Go.Proofs.Ytgekhijjeojhaaa
