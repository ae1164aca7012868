/- Texts put together. -/
import Derived.Test.YtiikledbflgejaaMgC8
import Derived.Test.YtiikledbflgejaaMgC3
import Derived.Deep.LoopGhost
import Derived.Deep.RegionHeld3
import Derived.Test.YtiikledbflgejaaMgC6
import Derived.Lib.OthersKept
import Derived.Test.YtiikledbflgejaaMgC4
/- Chapter 8 of the model: repetitions. Conditions: lengths of at most 2^20. -/
namespace Go.Proofs.Ytiikledbflgejaa
open Go.RowKit

/-- the letters ahead of i that agree with those p further on, as far back as they do -/
def RunOk (s : ByteArray) (p run i : Nat) : Prop := run ≤ i ∧ (∀ j, i - run ≤ j → j < i → s.data.toList[j]? = s.data.toList[j + p]?) ∧ (run < i → s.data.toList[i - run - 1]? ≠ s.data.toList[i - run - 1 + p]?)
def NoRun (s : ByteArray) (m p i : Nat) : Prop := ∀ k, k + m ≤ i → ¬ RunAt s m p k
theorem run_start (s : ByteArray) (p : Nat) : RunOk s p 0 0 := ⟨Nat.le_refl _, fun j _ h => absurd h (by omega), fun h => absurd h (by omega)⟩
theorem norun_start (s : ByteArray) (m p : Nat) (hm : 1 ≤ m) : NoRun s m p 0 := fun k h => absurd h (by omega)
theorem run_yes {s : ByteArray} {p run i : Nat} (h : RunOk s p run i) (he : s.data.toList[i]? = s.data.toList[i + p]?) : RunOk s p (run + 1) (i + 1) := by
  obtain ⟨h1, h2, h3⟩ := h
  refine ⟨by omega, fun j a b => ?_, fun hl => ?_⟩
  · by_cases e : j = i
    · subst e; exact he
    · exact h2 j (by omega) (by omega)
  · rw [show i + 1 - (run + 1) - 1 = i - run - 1 by omega]
    exact h3 (by omega)
theorem run_no {s : ByteArray} {p i : Nat} (he : s.data.toList[i]? ≠ s.data.toList[i + p]?) : RunOk s p 0 (i + 1) :=
  ⟨by omega, fun j a b => absurd b (by omega), fun _ => by rw [show i + 1 - 0 - 1 = i by omega]; exact he⟩
theorem norun_yes {s : ByteArray} {m p run i : Nat} (h : RunOk s p run i) (hn : NoRun s m p i) (hr : run + 1 < m) : NoRun s m p (i + 1) := by
  intro k hk hrn
  by_cases e : k + m ≤ i
  · exact hn k e hrn
  · have hki : k = i + 1 - m := by omega
    have h3 := h.2.2 (by omega)
    have := hrn.2 (i - run - 1 - k) (by omega)
    rw [show k + (i - run - 1 - k) = i - run - 1 by omega, show k + p + (i - run - 1 - k) = i - run - 1 + p by omega] at this
    exact h3 this
theorem norun_no {s : ByteArray} {m p i : Nat} (hm : 1 ≤ m) (hn : NoRun s m p i) (he : s.data.toList[i]? ≠ s.data.toList[i + p]?) : NoRun s m p (i + 1) := by
  intro k hk hrn
  by_cases e : k + m ≤ i
  · exact hn k e hrn
  · have := hrn.2 (i - k) (by omega)
    rw [show k + (i - k) = i by omega, show k + p + (i - k) = i + p by omega] at this
    exact he this
theorem run_found {s : ByteArray} {p run i : Nat} (h : RunOk s p run i) (he : s.data.toList[i]? = s.data.toList[i + p]?) (hi : i + p < s.size) : RunAt s (run + 1) p (i - run) := by
  have h' := run_yes h he
  refine ⟨by have := h.1; omega, fun j hj => ?_⟩
  have := h'.2.1 (i - run + j) (by omega) (by have := h.1; omega)
  rw [this]
  congr 1
  omega

end Go.Proofs.Ytiikledbflgejaa

/- Chapter 8 of the model: IsSquareFree, IsCubeFree, IsOverlapFree, LeastPeriod, LongestRun. Conditions: lengths of at most 2^20. -/
namespace Go.Proofs.Ytiikledbflgejaa
open Go.RowKit
theorem per_size (s : ByteArray) : PerAt s s.size := fun i h => absurd h (by omega)

end Go.Proofs.Ytiikledbflgejaa

/- Chapter 8 of the model: LeastPeriod, LongestRun. Conditions: lengths of at most 2^20. -/
namespace Go.Proofs.Ytiikledbflgejaa
open Go.RowKit Go.Lib

theorem word_low {s : ByteArray} (h : wordB s = true) (k : Nat) (hk : k < s.size) : (s[k]).toNat < 128 := by
  have hm := List.all_eq_true.1 (all_of_word h) s[k] (by rw [ByteArray.getElem_eq_getElem_data]; exact Array.getElem_mem_toList _)
  unfold isAbcd at hm
  simp only [Bool.and_eq_true, decide_eq_true_eq] at hm
  omega

theorem lr_yes {s : ByteArray} {k : Nat} (h0 : 0 < k) (h : s.data.toList[k]? = s.data.toList[k - 1]?) : lrTo s (k + 1) = (max (lrTo s k).1 ((lrTo s k).2 + 1), (lrTo s k).2 + 1) := by
  show (max (lrTo s k).1 (if 0 < k ∧ s.data.toList[k]? = s.data.toList[k - 1]? then (lrTo s k).2 + 1 else 1), if 0 < k ∧ s.data.toList[k]? = s.data.toList[k - 1]? then (lrTo s k).2 + 1 else 1) = _
  rw [if_pos ⟨h0, h⟩]
theorem lr_no {s : ByteArray} {k : Nat} (h : ¬ (0 < k ∧ s.data.toList[k]? = s.data.toList[k - 1]?)) : lrTo s (k + 1) = (max (lrTo s k).1 1, 1) := by
  show (max (lrTo s k).1 (if 0 < k ∧ s.data.toList[k]? = s.data.toList[k - 1]? then (lrTo s k).2 + 1 else 1), if 0 < k ∧ s.data.toList[k]? = s.data.toList[k - 1]? then (lrTo s k).2 + 1 else 1) = _
  rw [if_neg h]
theorem lr_le (s : ByteArray) : ∀ k, (lrTo s k).1 ≤ k ∧ (lrTo s k).2 ≤ k
  | 0 => ⟨Nat.le_refl _, Nat.le_refl _⟩
  | k + 1 => by
    have ih := lr_le s k
    by_cases h : 0 < k ∧ s.data.toList[k]? = s.data.toList[k - 1]?
    · rw [lr_yes h.1 h.2]
      exact ⟨by show max _ _ ≤ _; omega, by show (lrTo s k).2 + 1 ≤ _; omega⟩
    · rw [lr_no h]
      exact ⟨by show max _ _ ≤ _; omega, by show 1 ≤ _; omega⟩
theorem int_val {a b : Int} (h : a = b) : Value.int .i64 a = Value.int .i64 b := by rw [h]
theorem iterPos_at {w : World} {B k : Nat} {s : ByteArray} (h : w.heap[B]? = some (.stringIter s k)) : w.iterPos B = k := by
  simp [World.iterPos, h]

end Go.Proofs.Ytiikledbflgejaa

/- IsFactor and PlacesIn of the model. Condition: texts of at most 2^20 bytes. -/
namespace Go.Proofs.Ytiikledbflgejaa
open Go.RowKit

theorem slice_at {P : Program} {t : TypeId} (ht : P.underlying t = some .string) (s : ByteArray) (k n : Nat) (w : World) (h : k + n ≤ s.size) :
    (Instr.slice t (.string s) (some (.int .i64 (k : Int))) (some (.int .i64 ((k : Int) + (n : Int)))) none).run P w = .ok (.string (s.extract k (k + n))) w := by
  rw [run_slice_string (P := P) w t s .i64 .i64 (k : Int) ((k : Int) + (n : Int)) ht (by omega) (by omega) (by omega)]
  rw [show ((k : Int) + (n : Int)).toNat = k + n from by omega, Int.toNat_natCast]

/-- f begins at i in s -/
def At (s f : ByteArray) (i : Nat) : Prop := i + f.size ≤ s.size ∧ s.extract i (i + f.size) = f
noncomputable def hasR (s f : ByteArray) : Bool := @decide (∃ i, At s f i) (Classical.propDecidable _)
theorem hasR_yes {s f : ByteArray} {i : Nat} (h : At s f i) : hasR s f = true := by
  unfold hasR
  exact @decide_eq_true _ (Classical.propDecidable _) ⟨i, h⟩
theorem hasR_no {s f : ByteArray} {k : Nat} (h : ∀ i, i < k → ¬ At s f i) (hk : ¬ k + f.size ≤ s.size) : hasR s f = false := by
  unfold hasR
  rw [decide_eq_false_iff_not]
  rintro ⟨i, hi⟩
  rcases Nat.lt_or_ge i k with hlt | hge
  · exact h i hlt hi
  · exact hk (by have := hi.1; omega)

/-- what IsFactor is to return -/
noncomputable def factR (s f : ByteArray) : Bool := wordB s && (wordB f && hasR s f)
open Classical in
/-- the places below k at which f begins -/
noncomputable def placesTo (s f : ByteArray) : Nat → List Int
  | 0 => []
  | k + 1 => if At s f k then placesTo s f k ++ [(k : Int)] else placesTo s f k
theorem placesTo_le (s f : ByteArray) : ∀ k, (placesTo s f k).length ≤ k
  | 0 => by simp [placesTo]
  | k + 1 => by
    have := placesTo_le s f k
    unfold placesTo
    split
    · simp; omega
    · omega
open Classical in
/-- what PlacesIn is to return -/
noncomputable def placesR (s f : ByteArray) : List Int := if wordB s = true ∧ wordB f = true ∧ f.size ≠ 0 then placesTo s f (s.size + 1) else []
theorem placesR_le (s f : ByteArray) : (placesR s f).length ≤ s.size + 1 := by
  unfold placesR; split
  · exact placesTo_le s f _
  · simp
theorem placesTo_more {s f : ByteArray} (k : Nat) (hk : ¬ k + f.size ≤ s.size) : ∀ n, placesTo s f (k + n) = placesTo s f k
  | 0 => rfl
  | n + 1 => by
    show placesTo s f ((k + n) + 1) = _
    rw [placesTo, if_neg (fun h => hk (by have := h.1; omega)), placesTo_more k hk n]

end Go.Proofs.Ytiikledbflgejaa
