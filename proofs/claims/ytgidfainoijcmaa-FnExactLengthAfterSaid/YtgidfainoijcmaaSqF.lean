/- MultiplyMatrices of the program. Conditions: lengths of at most 2^20. -/
import Derived.Test.YtgidfainoijcmaaSqB
import Derived.Test.YtgidfainoijcmaaSqD
import Derived.Test.YtgidfainoijcmaaSqE
import Derived.Test.YtgidfainoijcmaaMult
namespace Go.Proofs.Ytgidfainoijcmaa
open Go.RowKit

theorem at2_small4 {m : List (List Int)} (hs : sqB m = true) (i k : Nat) : -100 ≤ at2 m i k ∧ at2 m i k ≤ 100 := by
  by_cases hi : i < m.length
  · by_cases hk : k < m.length
    · exact at2_small hs i k hi hk
    · rw [at2_outc m m.length i k hi ((sq_parts hs).2.2.1 i hi) (by omega)]
      decide
  · rw [at2_out m i k (by omega)]
    decide
theorem at2_zero_right {m : List (List Int)} (hs : sqB m = true) (i k : Nat) (hk : m.length ≤ k) : at2 m i k = 0 := by
  by_cases hi : i < m.length
  · exact at2_outc m m.length i k hi ((sq_parts hs).2.2.1 i hi) hk
  · exact at2_out m i k (by omega)
theorem small_of {f : Nat → Nat → Int} {c : Nat → Int} {B C : Int} (hf : ∀ i j, -B ≤ f i j ∧ f i j ≤ B) (hc : ∀ j, -C ≤ c j ∧ c j ≤ C) (h : B * C ≤ 1000000000000000) : Small f c := fun i j _ _ => by
  have := mul_bound (hf i j) (hc j)
  omega
theorem dotF_more (f : Nat → Nat → Int) (c : Nat → Int) (i n : Nat) (h : ∀ j, n ≤ j → f i j = 0) : ∀ k, dotF f c i (n + k) = dotF f c i n
  | 0 => rfl
  | k + 1 => by
    show dotF f c i (n + k) + f i (n + k) * c (n + k) = _
    rw [dotF_more f c i n h k, h (n + k) (by omega)]
    simp
theorem dotF_upto (f : Nat → Nat → Int) (c : Nat → Int) (i n : Nat) (hn : n ≤ 4) (h : ∀ j, n ≤ j → f i j = 0) : dotF f c i 4 = dotF f c i n := by
  have := dotF_more f c i n h (4 - n)
  rwa [Nat.add_sub_cancel' hn] at this
theorem colTo_dotF (a b : List (List Int)) (i k : Nat) : ∀ j, colTo a b i k j = dotF (at2 a) (fun j => at2 b j k) i j
  | 0 => rfl
  | j + 1 => by
    unfold colTo dotF
    rw [colTo_dotF a b i k j]
theorem mulM_of {a b : List (List Int)} (ha : sqB a = true) (hl : a.length = b.length) : matOf a.length (timesF a.length (at2 a) (at2 b)) = mulM a b := by
  unfold matOf mulM mulRow
  refine List.map_congr_left fun i hi => ?_
  rw [← hl]
  refine List.map_congr_left fun k hk => ?_
  unfold timesF
  rw [if_pos (List.mem_range.1 hk), colTo_dotF, dotF_upto _ _ i a.length (sq_parts ha).2.1 (fun j hj => at2_zero_right ha i j hj)]
theorem square_some (m : List (List Int)) : ∃ (n : Int) (f : Nat → Nat → Int), (if sqB m = true then sqA m.length (at2 m) else sqA 0 fun _ _ => 0) = sqA n f := by
  by_cases h : sqB m = true
  · exact ⟨_, _, if_pos h⟩
  · exact ⟨_, _, if_neg h⟩

set_option maxHeartbeats 1000000 in
theorem implMultiplyMatrices (a b : List (List Int)) (va vb : Value) (w : World) (h1 : Mat w va a) (h2 : Mat w vb b) (hm : a.length ≤ 1048576) (hr : ∀ r ∈ a, r.length ≤ 1048576) (hm2 : b.length ≤ 1048576) (hr2 : ∀ r ∈ b, r.length ≤ 1048576) :
    Calls Try.prog 16 #[va, vb] w (MatSaid (mulR a b) (mulOk a b) w) := by
  have HSQ := Lib.hid (implSquareOf a va w h1 hm hr)
  have HSQ2 : Hid (∀ W : World, Below w.heap.size w W → Calls Try.prog 56 #[vb] W (SquareSaid b W)) := fun W hW => implSquareOf b vb W (h2.below hW) hm2 hr2
  obtain ⟨A, cp, rfl⟩ := mat_slice h1
  obtain ⟨A2, cp2, rfl⟩ := mat_slice h2
  clear h1 h2 hr hr2 hm hm2
  by_cases hsa : sqB a = true
  · by_cases hsb : sqB b = true
    · have HSA := Lib.hid hsa
      have HSB := Lib.hid hsb
      obtain ⟨ha1, ha4, _, _⟩ := sq_parts hsa
      obtain ⟨hb1', hb4, _, _⟩ := sq_parts hsb
      have hza := sqA_zero a.length (at2 a)
      have hzb := sqA_zero b.length (at2 b)
      clear hsa hsb
      go_enter Try.func16, Try.ntmps16
      go_wp2_with fail
      refine HSQ.out.mono ?_
      rintro e w1 ⟨rfl, hb1⟩
      rw [HSA.out, if_pos rfl]
      have HB1 : Hid (Below w.heap.size w (w1.alloc (.cells (sqA a.length (at2 a)) 67))) := hb1.alloc hb1.size _
      have HA1 := Lib.hid (Arr.made w1 w1.heap.size 67 (sqA a.length (at2 a)) (Nat.le_refl _) (by simp [sqA_size, maxLen]))
      have hsz1 : w.heap.size ≤ w1.heap.size := hb1.size
      clear hb1
      go_wp2_with (with_reducible refine store_new rfl 67 (.tmp 6) (.tmp 13) rfl w1.heap.size _ (sqA a.length (at2 a)) rfl rfl rfl 17 sq_ty rfl rfl (sqA_one _ _) ?_)
      refine (HSQ2.out _ HB1.out).mono ?_
      rintro e w2 ⟨rfl, hb2⟩
      rw [HSB.out, if_pos rfl]
      have HB2 : Hid (Below w.heap.size w (w2.alloc (.cells (sqA b.length (at2 b)) 67))) := (HB1.out.trans (hb2.mono (by simp; omega))).alloc (by have := hb2.size; simp at this; omega) _
      have HA2 := Lib.hid (Arr.made w2 w1.heap.size 67 (sqA b.length (at2 b)) (by have := hb2.size; simp at this; omega) (by simp [sqA_size, maxLen]))
      have HA1' := Lib.hid ((HA1.out.below hb2).alloc (.cells (sqA b.length (at2 b)) 67))
      have g1 := HA1'.out.cell 0 _ (sqA_zero _ _)
      have hlt2 : w1.heap.size < w2.heap.size := by have := hb2.size; simp at this; omega
      clear hb2
      by_cases hl : a.length = b.length
      · have b1 : ((a.length : Int) != (b.length : Int)) = false := by rw [hl]; simp
        have HOK : Hid (mulOk a b = true) := by show mulOk a b = true; unfold mulOk; rw [HSA.out, HSB.out, decide_eq_true hl]; rfl
        have HEQ := Lib.hid hl
        clear hl
        go_wp2_with (first
          | (with_reducible refine store_new rfl 67 (.tmp 8) (.tmp 18) rfl w2.heap.size _ (sqA b.length (at2 b)) rfl rfl rfl 17 sq_ty rfl rfl (sqA_one _ _) ?_)
          | (with_reducible refine load_arr rfl 67 (.tmp 6) rfl w1.heap.size _ _ _ rfl HA1'.out 17 sq_ty rfl ?_)
          | (with_reducible refine load_arr rfl 67 (.tmp 8) rfl w2.heap.size _ _ _ rfl HA2.out 17 sq_ty rfl ?_))
        refine (implTimes a.length b.length (at2 a) (at2 b) ha4 (fun k _ => small_of (at2_small4 HSA.out) (fun j => at2_small4 HSB.out j k) (by decide)) _).mono ?_
        rintro e w3 ⟨rfl, hb3⟩
        have HB3 : Hid (Below w.heap.size w w3) := HB2.out.trans (hb3.mono (by simp; omega))
        clear hb3
        go_wp2_with fail
        refine (implLists a.length (timesF a.length (at2 a) (at2 b)) ha1 ha4 _).mono ?_
        rintro e w4 ⟨v, rfl, ho, hb4⟩
        rw [mulM_of HSA.out HEQ.out] at ho
        obtain ⟨A4, cp4, rfl⟩ := mat_slice ho.mat
        have HO := Lib.hid ho
        have hsz3 := HB3.out.size
        have HB4 : Hid (Below w.heap.size w w4) := HB3.out.trans (hb4.mono HB3.out.size)
        clear ho hb4
        go_wp2_with fail
        go_ret2
        refine ⟨_, by rw [HOK.out]; rfl, ?_, HB4.out⟩
        have e : mulR a b = mulM a b := if_pos HOK.out
        rw [e]
        exact HO.out.mono hsz3
      · have b1 : ((a.length : Int) != (b.length : Int)) = true := by rw [bne_iff_ne]; omega
        have HNO : Hid (mulOk a b = false) := by show mulOk a b = false; unfold mulOk; rw [decide_eq_false hl, Bool.and_false, Bool.and_false]
        clear hl
        go_wp2_with (with_reducible refine store_new rfl 67 (.tmp 8) (.tmp 18) rfl w2.heap.size _ (sqA b.length (at2 b)) rfl rfl rfl 17 sq_ty rfl rfl (sqA_one _ _) ?_)
        go_ret2
        exact matSaid_no (mulR_no HNO.out) HNO.out HB2.out
    · have hsb' : sqB b = false := by simpa using hsb
      have HSA := Lib.hid hsa
      have HSB := Lib.hid hsb'
      have HNO : Hid (mulOk a b = false) := by show mulOk a b = false; unfold mulOk; rw [hsb', Bool.false_and, Bool.and_false]
      clear hsa hsb hsb'
      go_enter Try.func16, Try.ntmps16
      go_wp2_with fail
      refine HSQ.out.mono ?_
      rintro e w1 ⟨rfl, hb1⟩
      rw [HSA.out, if_pos rfl]
      have HB1 : Hid (Below w.heap.size w (w1.alloc (.cells (sqA a.length (at2 a)) 67))) := hb1.alloc hb1.size _
      have hsz1 : w.heap.size ≤ w1.heap.size := hb1.size
      clear hb1
      go_wp2_with (with_reducible refine store_new rfl 67 (.tmp 6) (.tmp 13) rfl w1.heap.size _ (sqA a.length (at2 a)) rfl rfl rfl 17 sq_ty rfl rfl (sqA_one _ _) ?_)
      refine (HSQ2.out _ HB1.out).mono ?_
      rintro e w2 ⟨rfl, hb2⟩
      rw [HSB.out, if_neg (by decide)]
      have HB2 : Hid (Below w.heap.size w (w2.alloc (.cells (sqA 0 fun _ _ => 0) 67))) := (HB1.out.trans (hb2.mono (by simp; omega))).alloc (by have := hb2.size; simp at this; omega) _
      clear hb2
      go_wp2_with (with_reducible refine store_new rfl 67 (.tmp 8) (.tmp 18) rfl w2.heap.size _ (sqA 0 fun _ _ => 0) rfl rfl rfl 17 sq_ty rfl rfl (sqA_one _ _) ?_)
      go_ret2
      exact matSaid_no (mulR_no HNO.out) HNO.out HB2.out
  · have hsa' : sqB a = false := by simpa using hsa
    have HSA := Lib.hid hsa'
    have HNO : Hid (mulOk a b = false) := by show mulOk a b = false; unfold mulOk; rw [hsa', Bool.false_and]
    clear hsa hsa'
    go_enter Try.func16, Try.ntmps16
    go_wp2_with fail
    refine HSQ.out.mono ?_
    rintro e w1 ⟨rfl, hb1⟩
    rw [HSA.out, if_neg (by decide)]
    have HB1 : Hid (Below w.heap.size w (w1.alloc (.cells (sqA 0 fun _ _ => 0) 67))) := hb1.alloc hb1.size _
    have hsz1 : w.heap.size ≤ w1.heap.size := hb1.size
    clear hb1
    go_wp2_with (with_reducible refine store_new rfl 67 (.tmp 6) (.tmp 13) rfl w1.heap.size _ (sqA 0 fun _ _ => 0) rfl rfl rfl 17 sq_ty rfl rfl (sqA_one _ _) ?_)
    refine (HSQ2.out _ HB1.out).mono ?_
    rintro e w2 ⟨rfl, hb2⟩
    obtain ⟨nb, fb, hX⟩ := square_some b
    rw [hX]
    have HB2 : Hid (Below w.heap.size w (w2.alloc (.cells (sqA nb fb) 67))) := (HB1.out.trans (hb2.mono (by simp; omega))).alloc (by have := hb2.size; simp at this; omega) _
    clear hb2 hX
    go_wp2_with (with_reducible refine store_new rfl 67 (.tmp 8) (.tmp 18) rfl w2.heap.size _ (sqA nb fb) rfl rfl rfl 17 sq_ty rfl rfl (sqA_one _ _) ?_)
    go_ret2
    exact matSaid_no (mulR_no HNO.out) HNO.out HB2.out
end Go.Proofs.Ytgidfainoijcmaa
