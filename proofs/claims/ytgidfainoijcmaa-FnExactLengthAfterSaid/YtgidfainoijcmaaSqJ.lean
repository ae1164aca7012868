/- CountAfter of the program. Conditions: lengths of at most 2^20. -/
import Derived.Test.YtgidfainoijcmaaSqG
import Derived.Test.YtgidfainoijcmaaSqF
import Derived.Test.YtgidfainoijcmaaCountM
namespace Go.Proofs.Ytgidfainoijcmaa
open Go.RowKit

theorem lst_ints_at {w : World} {A : Option Addr} {n c : Nat} {cs : List Int} (h : Lst w (.slice A n c) (ints cs)) (h0 : 0 < cs.length) : ∃ b off, A = some ⟨b, off, none⟩ ∧ n = cs.length ∧ ∀ j, j < cs.length → w.cell? ⟨b, off + j, none⟩ = some (.int .i64 (cs.getD j 0)) := by
  obtain ⟨A', c', he, _, _, h1⟩ := h
  injection he with hA hn hc
  subst hA
  replace h1 := h1.resolve_left (by
    intro e
    have := congrArg List.length e
    rw [ints_length] at this
    simp only [List.length_nil] at this
    omega)
  obtain ⟨b, off, rfl, h1⟩ := h1
  refine ⟨b, off, rfl, by rw [hn, ints_length], fun j hj => ?_⟩
  rw [List.getD_eq_getElem?_getD, List.getElem?_eq_getElem hj]
  exact ints_at h1 j hj
theorem minCall {w : World} {A : Option Addr} {n c : Nat} {cs : List Int} (h : Lst w (.slice A n c) (ints cs)) (h0 : 0 < cs.length) (h1 : cs.length ≤ 1048576) :
    Calls Try.prog 76 #[.slice A n c] w fun e w' => e = .returned (.int .i64 (Lib.minOf cs)) ∧ w' = w := by
  obtain ⟨b, off, rfl, rfl, hat⟩ := lst_ints_at h h0
  have := Try.slices_Min_int b off cs.length c cs w h0 (Nat.le_refl _) (by omega) hat
  rwa [List.take_length] at this
theorem maxCall {w : World} {A : Option Addr} {n c : Nat} {cs : List Int} (h : Lst w (.slice A n c) (ints cs)) (h0 : 0 < cs.length) (h1 : cs.length ≤ 1048576) :
    Calls Try.prog 77 #[.slice A n c] w fun e w' => e = .returned (.int .i64 (Lib.maxOf cs)) ∧ w' = w := by
  obtain ⟨b, off, rfl, rfl, hat⟩ := lst_ints_at h h0
  have := Try.slices_Max_int b off cs.length c cs w h0 (Nat.le_refl _) (by omega) hat
  rwa [List.take_length] at this
theorem cntOk_iff (cs : List Int) (h : 0 < cs.length) : cs.all cntOk = true ↔ 0 ≤ Lib.minOf cs ∧ Lib.maxOf cs ≤ 1000 := by
  rw [minOf_ge _ _ h, maxOf_le _ _ h]
  unfold cntOk
  simp only [List.all_eq_true, Bool.and_eq_true, decide_eq_true_eq]
  exact ⟨fun h => ⟨fun x hx => (h x hx).1, fun x hx => (h x hx).2⟩, fun h x hx => ⟨h.1 x hx, h.2 x hx⟩⟩
/-- counts as the cells of a row -/
def vecF (cs : List Int) : Nat → Int := fun i => cs.getD i 0
theorem vecF_out (cs : List Int) (i : Nat) (h : cs.length ≤ i) : vecF cs i = 0 := by
  unfold vecF
  rw [List.getD_eq_getElem?_getD, List.getElem?_eq_none h]
  rfl
theorem rowA_seg (f : Nat → Int) (g : Nat → Int) (n : Nat) (hn : n ≤ 4) : (rowA f).toList.take 0 ++ (numsTo g n ++ (rowA f).toList.drop (0 + n)) = (rowA fun c => if c < n then g c else f c).toList := by
  rcases (by omega : n = 0 ∨ n = 1 ∨ n = 2 ∨ n = 3 ∨ n = 4) with rfl | rfl | rfl | rfl | rfl <;> rfl
theorem vec_seg (cs : List Int) (hn : cs.length ≤ 4) : (rowA fun _ => 0).toList.take 0 ++ (numsTo (vecF cs) cs.length ++ (rowA fun _ => 0).toList.drop (0 + cs.length)) = (rowA (vecF cs)).toList := by
  rw [rowA_seg _ _ _ hn]
  congr 2
  funext c
  by_cases h : c < cs.length
  · rw [if_pos h]
  · rw [if_neg h, vecF_out cs c (by omega)]
theorem cTo_dotF (l : List ByteArray) (cs : List Int) (j : Nat) : ∀ k, cTo l cs j k = dotF (at2 (matL l)) (vecF cs) j k
  | 0 => rfl
  | k + 1 => by
    unfold cTo dotF
    rw [cTo_dotF l cs j k]
    rfl
theorem matL_right (l : List ByteArray) (i k : Nat) (hk : l.length ≤ k) : at2 (matL l) i k = 0 := by
  by_cases hi : i < (matL l).length
  · exact at2_outc (matL l) l.length i k hi (matL_row l i hi) hk
  · exact at2_out _ i k (by omega)
theorem matL_small4 {l : List ByteArray} (hl : substB l = true) (i k : Nat) : -8 ≤ at2 (matL l) i k ∧ at2 (matL l) i k ≤ 8 := by
  by_cases hk : k < l.length
  · by_cases hi : i < l.length
    · have := matL_small hl i k hi hk
      omega
    · rw [at2_out _ i k (by rw [matL_length]; omega)]
      decide
  · rw [matL_right l i k (by omega)]
    decide
theorem dotF_zero (f : Nat → Nat → Int) (c : Nat → Int) (i : Nat) (h : ∀ j, f i j = 0) : ∀ k, dotF f c i k = 0
  | 0 => rfl
  | k + 1 => by
    unfold dotF
    rw [dotF_zero f c i h k, h k]
    simp
theorem step_vec {l : List ByteArray} (hl : substB l = true) (cs : List Int) : rowA (fun i => dotF (at2 (matL l)) (vecF cs) i 4) = rowA (vecF (stepC l cs)) := by
  refine rowA_congr fun i _ => ?_
  by_cases hi : i < l.length
  · rw [dotF_upto _ _ i l.length (subst_parts hl).2.1 (fun j hj => matL_right l i j hj), ← cTo_dotF]
    unfold vecF
    rw [List.getD_eq_getElem?_getD, List.getElem?_eq_getElem (by rw [stepC_length]; exact hi), Option.getD_some, stepC_at]
  · rw [vecF_out _ i (by rw [stepC_length]; omega), dotF_zero _ _ i (fun j => at2_out _ i j (by rw [matL_length]; omega))]
theorem vec_max (cs : List Int) (h4 : cs.length ≤ 4) : Lib.maxOf [vecF cs 0, vecF cs 1, vecF cs 2, vecF cs 3] ≤ 1000000000000 ↔ cs.all smallC = true := by
  rw [maxOf_le _ _ (by simp)]
  unfold smallC
  simp only [List.all_eq_true, decide_eq_true_eq, List.mem_cons, List.not_mem_nil, or_false, forall_eq_or_imp, forall_eq]
  constructor
  · rintro ⟨h0, h1, h2, h3⟩ x hx
    obtain ⟨k, hk, rfl⟩ := List.mem_iff_getElem.1 hx
    have e : vecF cs k = cs[k] := by unfold vecF; rw [List.getD_eq_getElem?_getD, List.getElem?_eq_getElem hk]; rfl
    rw [← e]
    rcases four_cases (show k < 4 by omega) with rfl | rfl | rfl | rfl <;> assumption
  · intro h
    have hv : ∀ k, vecF cs k ≤ 1000000000000 := by
      intro k
      by_cases hk : k < cs.length
      · have e : vecF cs k = cs[k] := by unfold vecF; rw [List.getD_eq_getElem?_getD, List.getElem?_eq_getElem hk]; rfl
        rw [e]
        exact h _ (List.getElem_mem hk)
      · rw [vecF_out cs k (by omega)]
        decide
    exact ⟨hv 0, hv 1, hv 2, hv 3⟩
/-- the cells of a row as a list -/
theorem Arr.vecCells {w : World} {B : Nat} {T : TypeId} {b : Nat} {c : Nat → Int} (h : Arr w B T b (rowA c)) : ∀ j, j < ([c 0, c 1, c 2, c 3] : List Int).length → w.cell? ⟨b, 0 + j, none⟩ = some (.int .i64 (([c 0, c 1, c 2, c 3] : List Int).getD j 0)) := by
  intro j hj
  have hj4 : j < 4 := by simpa using hj
  rw [Nat.zero_add, h.cell _ _ (rowA_get c j hj4)]
  rcases four_cases hj4 with rfl | rfl | rfl | rfl <;> rfl
theorem vec_own (cs : List Int) (n : Nat) (h : cs.length = n) (hn : n ≤ 4) : ([vecF cs 0, vecF cs 1, vecF cs 2, vecF cs 3] : List Int).take n = cs := by
  rw [row_take _ n hn]
  refine List.ext_getElem (by simp [h]) fun k hk hk2 => ?_
  simp only [List.getElem_map, List.getElem_range]
  unfold vecF
  rw [List.getD_eq_getElem?_getD, List.getElem?_eq_getElem hk2]
  rfl
theorem ca_small {l : List ByteArray} {cs : List Int} (hl : substB l = true) (h0 : cs.length = l.length) (hc : cs.all cntOk = true) (n : Nat) (h : itCok l cs n = true) (k : Nat) : -1000000000000 ≤ vecF (itC l cs n) k ∧ vecF (itC l cs n) k ≤ 1000000000000 := by
  by_cases hk : k < l.length
  · have := itC_small hl h0 hc n h k hk
    unfold vecF
    omega
  · rw [vecF_out _ k (by rw [itC_length h0]; omega)]
    decide
end Go.Proofs.Ytgidfainoijcmaa
