/- Texts put together. -/
import Derived.Test.YtbbcdeknnfghkaaMgE20
import Derived.Test.YtbbcdeknnfghkaaMgE8
import Derived.Test.YtbbcdeknnfghkaaMgE11
import Derived.Test.YtbbcdeknnfghkaaMgE21
import Derived.Test.YtbbcdeknnfghkaaMgE12
/- MultiplyMatrices of the model. Conditions: lengths of at most 2^20. -/
namespace Go.Proofs.Ytbbcdeknnfghkaa
open Go.RowKit

/-- a matrix, and whether there is one -/
def MatSaid (r : List (List Int)) (ok : Bool) (w : World) (e : Ending) (w' : World) : Prop := ∃ v, e = .returned (.tuple #[v, .bool ok]) ∧ OwnMat w' w.heap.size w'.heap.size v r ∧ Below w.heap.size w w'
theorem matSaid_no {r : List (List Int)} {ok : Bool} {w w' : World} (h1 : r = []) (h2 : ok = false) (hb : Below w.heap.size w w') : MatSaid r ok w (.returned (.tuple #[.slice none 0 0, .bool false])) w' :=
  ⟨_, by rw [h2], by rw [h1]; exact OwnMat.nil _ _ _, hb⟩
theorem mulR_no {a b : List (List Int)} (h : mulOk a b = false) : mulR a b = [] := if_neg (by rw [h]; decide)

theorem mul_cell {a b : List (List Int)} (ha : sqB a = true) (hb : sqB b = true) (hab : a.length = b.length) (i k : Nat) (hi : i < a.length) (hk : k < b.length) :
    (∀ j, j < b.length → -10000 ≤ at2 a i j * at2 b j k ∧ at2 a i j * at2 b j k ≤ 10000) ∧ ∀ j, j ≤ b.length → -40000 ≤ colTo a b i k j ∧ colTo a b i k j ≤ 40000 := by
  have h1 : ∀ j, j < b.length → -(100 : Int) ≤ at2 a i j ∧ at2 a i j ≤ 100 := fun j hj => at2_small ha i j hi (by omega)
  have h2 : ∀ j, j < b.length → -(100 : Int) ≤ at2 b j k ∧ at2 b j k ≤ 100 := fun j hj => at2_small hb j k hj hk
  have h4 := (sq_parts hb).2.1
  refine ⟨fun j hj => by have := mul_bound (h1 j hj) (h2 j hj); omega, fun j hj => ?_⟩
  have := colTo_bound b.length h1 h2 j hj
  omega

theorem mulR_sum (a b : List (List Int)) : sumN ((mulR a b).map List.length) ≤ 16 := by
  have h1 := mulR_le a b
  have h2 := sum_rect (m := mulR a b) (c := 4) (fun x hx => by
    unfold mulR at hx
    split at hx
    · rename_i h
      unfold mulOk at h
      simp only [Bool.and_eq_true, decide_eq_true_eq] at h
      obtain ⟨i, hi, rfl⟩ := List.mem_iff_getElem.1 hx
      rw [mulM_at, mulRow_length]
      exact (sq_parts h.2.1).2.1
    · simp at hx)
  omega
end Go.Proofs.Ytbbcdeknnfghkaa

/- MultiplyMatrices of the program. Conditions: lengths of at most 2^20. -/
namespace Go.Proofs.Ytbbcdeknnfghkaa
open Go.RowKit

theorem at2_small4 {m : List (List Int)} (hs : sqB m = true) (i k : Nat) : -100 ≤ at2 m i k ∧ at2 m i k ≤ 100 := by
  by_cases hi : i < m.length
  · by_cases hk : k < m.length
    · exact at2_small hs i k hi hk
    · rw [at2_outc m m.length i k hi ((sq_parts hs).2.2.1 i hi) (by omega)]
      decide
  · rw [at2_out m i k (by omega)]
    decide
theorem at2_zero_right {m : List (List Int)} (hs : sqB m = true) (i k : Nat) (hk : m.length ≤ k) : at2 m i k = 0 := by
  by_cases hi : i < m.length
  · exact at2_outc m m.length i k hi ((sq_parts hs).2.2.1 i hi) hk
  · exact at2_out m i k (by omega)
theorem small_of {f : Nat → Nat → Int} {c : Nat → Int} {B C : Int} (hf : ∀ i j, -B ≤ f i j ∧ f i j ≤ B) (hc : ∀ j, -C ≤ c j ∧ c j ≤ C) (h : B * C ≤ 1000000000000000) : Small f c := fun i j _ _ => by
  have := mul_bound (hf i j) (hc j)
  omega
theorem dotF_more (f : Nat → Nat → Int) (c : Nat → Int) (i n : Nat) (h : ∀ j, n ≤ j → f i j = 0) : ∀ k, dotF f c i (n + k) = dotF f c i n
  | 0 => rfl
  | k + 1 => by
    show dotF f c i (n + k) + f i (n + k) * c (n + k) = _
    rw [dotF_more f c i n h k, h (n + k) (by omega)]
    simp
theorem dotF_upto (f : Nat → Nat → Int) (c : Nat → Int) (i n : Nat) (hn : n ≤ 4) (h : ∀ j, n ≤ j → f i j = 0) : dotF f c i 4 = dotF f c i n := by
  have := dotF_more f c i n h (4 - n)
  rwa [Nat.add_sub_cancel' hn] at this
theorem colTo_dotF (a b : List (List Int)) (i k : Nat) : ∀ j, colTo a b i k j = dotF (at2 a) (fun j => at2 b j k) i j
  | 0 => rfl
  | j + 1 => by
    unfold colTo dotF
    rw [colTo_dotF a b i k j]
theorem mulM_of {a b : List (List Int)} (ha : sqB a = true) (hl : a.length = b.length) : matOf a.length (timesF a.length (at2 a) (at2 b)) = mulM a b := by
  unfold matOf mulM mulRow
  refine List.map_congr_left fun i hi => ?_
  rw [← hl]
  refine List.map_congr_left fun k hk => ?_
  unfold timesF
  rw [if_pos (List.mem_range.1 hk), colTo_dotF, dotF_upto _ _ i a.length (sq_parts ha).2.1 (fun j hj => at2_zero_right ha i j hj)]
theorem square_some (m : List (List Int)) : ∃ (n : Int) (f : Nat → Nat → Int), (if sqB m = true then sqA m.length (at2 m) else sqA 0 fun _ _ => 0) = sqA n f := by
  by_cases h : sqB m = true
  · exact ⟨_, _, if_pos h⟩
  · exact ⟨_, _, if_neg h⟩

end Go.Proofs.Ytbbcdeknnfghkaa

/- CountAfter of the program. Conditions: lengths of at most 2^20. -/
namespace Go.Proofs.Ytbbcdeknnfghkaa
open Go.RowKit

theorem lst_ints_at {w : World} {A : Option Addr} {n c : Nat} {cs : List Int} (h : Lst w (.slice A n c) (ints cs)) (h0 : 0 < cs.length) : ∃ b off, A = some ⟨b, off, none⟩ ∧ n = cs.length ∧ ∀ j, j < cs.length → w.cell? ⟨b, off + j, none⟩ = some (.int .i64 (cs.getD j 0)) := by
  obtain ⟨A', c', he, _, _, h1⟩ := h
  injection he with hA hn hc
  subst hA
  replace h1 := h1.resolve_left (by
    intro e
    have := congrArg List.length e
    rw [ints_length] at this
    simp only [List.length_nil] at this
    omega)
  obtain ⟨b, off, rfl, h1⟩ := h1
  refine ⟨b, off, rfl, by rw [hn, ints_length], fun j hj => ?_⟩
  rw [List.getD_eq_getElem?_getD, List.getElem?_eq_getElem hj]
  exact ints_at h1 j hj
theorem minCall {w : World} {A : Option Addr} {n c : Nat} {cs : List Int} (h : Lst w (.slice A n c) (ints cs)) (h0 : 0 < cs.length) (h1 : cs.length ≤ 1048576) :
    Calls Try.prog 61 #[.slice A n c] w fun e w' => e = .returned (.int .i64 (Lib.minOf cs)) ∧ w' = w := by
  obtain ⟨b, off, rfl, rfl, hat⟩ := lst_ints_at h h0
  have := Try.slices_Min_int b off cs.length c cs w h0 (Nat.le_refl _) (by omega) hat
  rwa [List.take_length] at this
theorem maxCall {w : World} {A : Option Addr} {n c : Nat} {cs : List Int} (h : Lst w (.slice A n c) (ints cs)) (h0 : 0 < cs.length) (h1 : cs.length ≤ 1048576) :
    Calls Try.prog 62 #[.slice A n c] w fun e w' => e = .returned (.int .i64 (Lib.maxOf cs)) ∧ w' = w := by
  obtain ⟨b, off, rfl, rfl, hat⟩ := lst_ints_at h h0
  have := Try.slices_Max_int b off cs.length c cs w h0 (Nat.le_refl _) (by omega) hat
  rwa [List.take_length] at this
theorem cntOk_iff (cs : List Int) (h : 0 < cs.length) : cs.all cntOk = true ↔ 0 ≤ Lib.minOf cs ∧ Lib.maxOf cs ≤ 1000 := by
  rw [minOf_ge _ _ h, maxOf_le _ _ h]
  unfold cntOk
  simp only [List.all_eq_true, Bool.and_eq_true, decide_eq_true_eq]
  exact ⟨fun h => ⟨fun x hx => (h x hx).1, fun x hx => (h x hx).2⟩, fun h x hx => ⟨h.1 x hx, h.2 x hx⟩⟩
/-- counts as the cells of a row -/
def vecF (cs : List Int) : Nat → Int := fun i => cs.getD i 0
theorem vecF_out (cs : List Int) (i : Nat) (h : cs.length ≤ i) : vecF cs i = 0 := by
  unfold vecF
  rw [List.getD_eq_getElem?_getD, List.getElem?_eq_none h]
  rfl
theorem rowA_seg (f : Nat → Int) (g : Nat → Int) (n : Nat) (hn : n ≤ 4) : (rowA f).toList.take 0 ++ (numsTo g n ++ (rowA f).toList.drop (0 + n)) = (rowA fun c => if c < n then g c else f c).toList := by
  rcases (by omega : n = 0 ∨ n = 1 ∨ n = 2 ∨ n = 3 ∨ n = 4) with rfl | rfl | rfl | rfl | rfl <;> rfl
theorem vec_seg (cs : List Int) (hn : cs.length ≤ 4) : (rowA fun _ => 0).toList.take 0 ++ (numsTo (vecF cs) cs.length ++ (rowA fun _ => 0).toList.drop (0 + cs.length)) = (rowA (vecF cs)).toList := by
  rw [rowA_seg _ _ _ hn]
  congr 2
  funext c
  by_cases h : c < cs.length
  · rw [if_pos h]
  · rw [if_neg h, vecF_out cs c (by omega)]
theorem cTo_dotF (l : List ByteArray) (cs : List Int) (j : Nat) : ∀ k, cTo l cs j k = dotF (at2 (matL l)) (vecF cs) j k
  | 0 => rfl
  | k + 1 => by
    unfold cTo dotF
    rw [cTo_dotF l cs j k]
    rfl
theorem matL_right (l : List ByteArray) (i k : Nat) (hk : l.length ≤ k) : at2 (matL l) i k = 0 := by
  by_cases hi : i < (matL l).length
  · exact at2_outc (matL l) l.length i k hi (matL_row l i hi) hk
  · exact at2_out _ i k (by omega)
theorem matL_small4 {l : List ByteArray} (hl : substB l = true) (i k : Nat) : -8 ≤ at2 (matL l) i k ∧ at2 (matL l) i k ≤ 8 := by
  by_cases hk : k < l.length
  · by_cases hi : i < l.length
    · have := matL_small hl i k hi hk
      omega
    · rw [at2_out _ i k (by rw [matL_length]; omega)]
      decide
  · rw [matL_right l i k (by omega)]
    decide
theorem dotF_zero (f : Nat → Nat → Int) (c : Nat → Int) (i : Nat) (h : ∀ j, f i j = 0) : ∀ k, dotF f c i k = 0
  | 0 => rfl
  | k + 1 => by
    unfold dotF
    rw [dotF_zero f c i h k, h k]
    simp
theorem step_vec {l : List ByteArray} (hl : substB l = true) (cs : List Int) : rowA (fun i => dotF (at2 (matL l)) (vecF cs) i 4) = rowA (vecF (stepC l cs)) := by
  refine rowA_congr fun i _ => ?_
  by_cases hi : i < l.length
  · rw [dotF_upto _ _ i l.length (subst_parts hl).2.1 (fun j hj => matL_right l i j hj), ← cTo_dotF]
    unfold vecF
    rw [List.getD_eq_getElem?_getD, List.getElem?_eq_getElem (by rw [stepC_length]; exact hi), Option.getD_some, stepC_at]
  · rw [vecF_out _ i (by rw [stepC_length]; omega), dotF_zero _ _ i (fun j => at2_out _ i j (by rw [matL_length]; omega))]
theorem vec_max (cs : List Int) (h4 : cs.length ≤ 4) : Lib.maxOf [vecF cs 0, vecF cs 1, vecF cs 2, vecF cs 3] ≤ 1000000000000 ↔ cs.all smallC = true := by
  rw [maxOf_le _ _ (by simp)]
  unfold smallC
  simp only [List.all_eq_true, decide_eq_true_eq, List.mem_cons, List.not_mem_nil, or_false, forall_eq_or_imp, forall_eq]
  constructor
  · rintro ⟨h0, h1, h2, h3⟩ x hx
    obtain ⟨k, hk, rfl⟩ := List.mem_iff_getElem.1 hx
    have e : vecF cs k = cs[k] := by unfold vecF; rw [List.getD_eq_getElem?_getD, List.getElem?_eq_getElem hk]; rfl
    rw [← e]
    rcases four_cases (show k < 4 by omega) with rfl | rfl | rfl | rfl <;> assumption
  · intro h
    have hv : ∀ k, vecF cs k ≤ 1000000000000 := by
      intro k
      by_cases hk : k < cs.length
      · have e : vecF cs k = cs[k] := by unfold vecF; rw [List.getD_eq_getElem?_getD, List.getElem?_eq_getElem hk]; rfl
        rw [e]
        exact h _ (List.getElem_mem hk)
      · rw [vecF_out cs k (by omega)]
        decide
    exact ⟨hv 0, hv 1, hv 2, hv 3⟩
/-- the cells of a row as a list -/
theorem Arr.vecCells {w : World} {B : Nat} {T : TypeId} {b : Nat} {c : Nat → Int} (h : Arr w B T b (rowA c)) : ∀ j, j < ([c 0, c 1, c 2, c 3] : List Int).length → w.cell? ⟨b, 0 + j, none⟩ = some (.int .i64 (([c 0, c 1, c 2, c 3] : List Int).getD j 0)) := by
  intro j hj
  have hj4 : j < 4 := by simpa using hj
  rw [Nat.zero_add, h.cell _ _ (rowA_get c j hj4)]
  rcases four_cases hj4 with rfl | rfl | rfl | rfl <;> rfl
theorem vec_own (cs : List Int) (n : Nat) (h : cs.length = n) (hn : n ≤ 4) : ([vecF cs 0, vecF cs 1, vecF cs 2, vecF cs 3] : List Int).take n = cs := by
  rw [row_take _ n hn]
  refine List.ext_getElem (by simp [h]) fun k hk hk2 => ?_
  simp only [List.getElem_map, List.getElem_range]
  unfold vecF
  rw [List.getD_eq_getElem?_getD, List.getElem?_eq_getElem hk2]
  rfl
theorem ca_small {l : List ByteArray} {cs : List Int} (hl : substB l = true) (h0 : cs.length = l.length) (hc : cs.all cntOk = true) (n : Nat) (h : itCok l cs n = true) (k : Nat) : -1000000000000 ≤ vecF (itC l cs n) k ∧ vecF (itC l cs n) k ≤ 1000000000000 := by
  by_cases hk : k < l.length
  · have := itC_small hl h0 hc n h k hk
    unfold vecF
    omega
  · rw [vecF_out _ k (by rw [itC_length h0]; omega)]
    decide
end Go.Proofs.Ytbbcdeknnfghkaa
