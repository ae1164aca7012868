/- Texts put together. -/
import Derived.Test.YtcdchieielpahaaMgE5
import Derived.IntWalk
import Derived.Test.YtcdchieielpahaaMgE13
import Derived.Test.YtcdchieielpahaaMgE9
import Derived.Deep.LoopGhost
import Derived.Deep.RegionHeld3
import Derived.Test.YtcdchieielpahaaMgE11
import Derived.Lib.OthersKept
/- A letter of a text by its index. No program in it. -/
namespace Go.Proofs.Ytcdchieielpahaa
open Go.RowKit

theorem index_at {P : Program} {t : TypeId} (ht : P.underlying t = some .string) (s : ByteArray) (z : Int) (k : Nat) (w : World) (hk : k < s.size) (hz : z = k) : (Instr.index t (.string s) (.int .i64 z)).run P w = .ok (.int .u8 (s[k].toNat : Int)) w := by
  subst hz
  rw [run_index_string _ _ _ _ _ ht]
  simp [hk]
theorem at_list (s : ByteArray) (k : Nat) (hk : k < s.size) : s.data.toList[k]? = some s[k] := by
  rw [Array.getElem?_toList]
  exact Array.getElem?_eq_getElem hk
theorem same_at (s : ByteArray) (i j : Nat) (hi : i < s.size) (hj : j < s.size) : (s.data.toList[i]? = s.data.toList[j]?) ↔ s[i] = s[j] := by
  rw [at_list s i hi, at_list s j hj]
  exact ⟨fun h => Option.some.inj h, fun h => by rw [h]⟩
theorem num_same (a b : UInt8) : (((a.toNat : Int) == (b.toNat : Int)) = true) ↔ a = b := by
  rw [beq_iff_eq]
  exact ⟨fun h => UInt8.toNat.inj (by omega), fun h => by rw [h]⟩
theorem num_other (a b : UInt8) : (((a.toNat : Int) == (b.toNat : Int)) = false) ↔ a ≠ b := by
  rw [← Bool.not_eq_true, num_same]
end Go.Proofs.Ytcdchieielpahaa

/- Chapter 8 of the model: repetitions. Conditions: lengths of at most 2^20. -/
namespace Go.Proofs.Ytcdchieielpahaa
open Go.RowKit

/-- the letters ahead of i that agree with those p further on, as far back as they do -/
def RunOk (s : ByteArray) (p run i : Nat) : Prop := run ≤ i ∧ (∀ j, i - run ≤ j → j < i → s.data.toList[j]? = s.data.toList[j + p]?) ∧ (run < i → s.data.toList[i - run - 1]? ≠ s.data.toList[i - run - 1 + p]?)
def NoRun (s : ByteArray) (m p i : Nat) : Prop := ∀ k, k + m ≤ i → ¬ RunAt s m p k
theorem run_start (s : ByteArray) (p : Nat) : RunOk s p 0 0 := ⟨Nat.le_refl _, fun j _ h => absurd h (by omega), fun h => absurd h (by omega)⟩
theorem norun_start (s : ByteArray) (m p : Nat) (hm : 1 ≤ m) : NoRun s m p 0 := fun k h => absurd h (by omega)
theorem run_yes {s : ByteArray} {p run i : Nat} (h : RunOk s p run i) (he : s.data.toList[i]? = s.data.toList[i + p]?) : RunOk s p (run + 1) (i + 1) := by
  obtain ⟨h1, h2, h3⟩ := h
  refine ⟨by omega, fun j a b => ?_, fun hl => ?_⟩
  · by_cases e : j = i
    · subst e; exact he
    · exact h2 j (by omega) (by omega)
  · rw [show i + 1 - (run + 1) - 1 = i - run - 1 by omega]
    exact h3 (by omega)
theorem run_no {s : ByteArray} {p i : Nat} (he : s.data.toList[i]? ≠ s.data.toList[i + p]?) : RunOk s p 0 (i + 1) :=
  ⟨by omega, fun j a b => absurd b (by omega), fun _ => by rw [show i + 1 - 0 - 1 = i by omega]; exact he⟩
theorem norun_yes {s : ByteArray} {m p run i : Nat} (h : RunOk s p run i) (hn : NoRun s m p i) (hr : run + 1 < m) : NoRun s m p (i + 1) := by
  intro k hk hrn
  by_cases e : k + m ≤ i
  · exact hn k e hrn
  · have hki : k = i + 1 - m := by omega
    have h3 := h.2.2 (by omega)
    have := hrn.2 (i - run - 1 - k) (by omega)
    rw [show k + (i - run - 1 - k) = i - run - 1 by omega, show k + p + (i - run - 1 - k) = i - run - 1 + p by omega] at this
    exact h3 this
theorem norun_no {s : ByteArray} {m p i : Nat} (hm : 1 ≤ m) (hn : NoRun s m p i) (he : s.data.toList[i]? ≠ s.data.toList[i + p]?) : NoRun s m p (i + 1) := by
  intro k hk hrn
  by_cases e : k + m ≤ i
  · exact hn k e hrn
  · have := hrn.2 (i - k) (by omega)
    rw [show k + (i - k) = i by omega, show k + p + (i - k) = i + p by omega] at this
    exact he this
theorem run_found {s : ByteArray} {p run i : Nat} (h : RunOk s p run i) (he : s.data.toList[i]? = s.data.toList[i + p]?) (hi : i + p < s.size) : RunAt s (run + 1) p (i - run) := by
  have h' := run_yes h he
  refine ⟨by have := h.1; omega, fun j hj => ?_⟩
  have := h'.2.1 (i - run + j) (by omega) (by have := h.1; omega)
  rw [this]
  congr 1
  omega

end Go.Proofs.Ytcdchieielpahaa

/- Chapter 8 of the model: IsSquareFree, IsCubeFree, IsOverlapFree, LeastPeriod, LongestRun. Conditions: lengths of at most 2^20. -/
namespace Go.Proofs.Ytcdchieielpahaa
open Go.RowKit
theorem per_size (s : ByteArray) : PerAt s s.size := fun i h => absurd h (by omega)

end Go.Proofs.Ytcdchieielpahaa

/- Chapter 8 of the model: LeastPeriod, LongestRun. Conditions: lengths of at most 2^20. -/
namespace Go.Proofs.Ytcdchieielpahaa
open Go.RowKit Go.Lib

theorem word_low {s : ByteArray} (h : wordB s = true) (k : Nat) (hk : k < s.size) : (s[k]).toNat < 128 := by
  have hm := List.all_eq_true.1 (all_of_word h) s[k] (by rw [ByteArray.getElem_eq_getElem_data]; exact Array.getElem_mem_toList _)
  unfold isAbcd at hm
  simp only [Bool.and_eq_true, decide_eq_true_eq] at hm
  omega

theorem lr_yes {s : ByteArray} {k : Nat} (h0 : 0 < k) (h : s.data.toList[k]? = s.data.toList[k - 1]?) : lrTo s (k + 1) = (max (lrTo s k).1 ((lrTo s k).2 + 1), (lrTo s k).2 + 1) := by
  show (max (lrTo s k).1 (if 0 < k ∧ s.data.toList[k]? = s.data.toList[k - 1]? then (lrTo s k).2 + 1 else 1), if 0 < k ∧ s.data.toList[k]? = s.data.toList[k - 1]? then (lrTo s k).2 + 1 else 1) = _
  rw [if_pos ⟨h0, h⟩]
theorem lr_no {s : ByteArray} {k : Nat} (h : ¬ (0 < k ∧ s.data.toList[k]? = s.data.toList[k - 1]?)) : lrTo s (k + 1) = (max (lrTo s k).1 1, 1) := by
  show (max (lrTo s k).1 (if 0 < k ∧ s.data.toList[k]? = s.data.toList[k - 1]? then (lrTo s k).2 + 1 else 1), if 0 < k ∧ s.data.toList[k]? = s.data.toList[k - 1]? then (lrTo s k).2 + 1 else 1) = _
  rw [if_neg h]
theorem lr_le (s : ByteArray) : ∀ k, (lrTo s k).1 ≤ k ∧ (lrTo s k).2 ≤ k
  | 0 => ⟨Nat.le_refl _, Nat.le_refl _⟩
  | k + 1 => by
    have ih := lr_le s k
    by_cases h : 0 < k ∧ s.data.toList[k]? = s.data.toList[k - 1]?
    · rw [lr_yes h.1 h.2]
      exact ⟨by show max _ _ ≤ _; omega, by show (lrTo s k).2 + 1 ≤ _; omega⟩
    · rw [lr_no h]
      exact ⟨by show max _ _ ≤ _; omega, by show 1 ≤ _; omega⟩
theorem int_val {a b : Int} (h : a = b) : Value.int .i64 a = Value.int .i64 b := by rw [h]
theorem iterPos_at {w : World} {B k : Nat} {s : ByteArray} (h : w.heap[B]? = some (.stringIter s k)) : w.iterPos B = k := by
  simp [World.iterPos, h]

end Go.Proofs.Ytcdchieielpahaa
