/- Texts put together. -/
import Derived.Test.YtfcbfflkajlhnaaMgT24
import Derived.Test.YtfcbfflkajlhnaaMgT25
import Derived.Test.YtfcbfflkajlhnaaMgT12
/- CountAfter of the program. Conditions: lengths of at most 2^20. -/
namespace Go.Proofs.Ytfcbfflkajlhnaa
open Go.RowKit

theorem lst_ints_at {w : World} {A : Option Addr} {n c : Nat} {cs : List Int} (h : Lst w (.slice A n c) (ints cs)) (h0 : 0 < cs.length) : ∃ b off, A = some ⟨b, off, none⟩ ∧ n = cs.length ∧ ∀ j, j < cs.length → w.cell? ⟨b, off + j, none⟩ = some (.int .i64 (cs.getD j 0)) := by
  obtain ⟨A', c', he, _, _, h1⟩ := h
  injection he with hA hn hc
  subst hA
  replace h1 := h1.resolve_left (by
    intro e
    have := congrArg List.length e
    rw [ints_length] at this
    simp only [List.length_nil] at this
    omega)
  obtain ⟨b, off, rfl, h1⟩ := h1
  refine ⟨b, off, rfl, by rw [hn, ints_length], fun j hj => ?_⟩
  rw [List.getD_eq_getElem?_getD, List.getElem?_eq_getElem hj]
  exact ints_at h1 j hj
theorem minCall {w : World} {A : Option Addr} {n c : Nat} {cs : List Int} (h : Lst w (.slice A n c) (ints cs)) (h0 : 0 < cs.length) (h1 : cs.length ≤ 1048576) :
    Calls Try.prog 71 #[.slice A n c] w fun e w' => e = .returned (.int .i64 (Lib.minOf cs)) ∧ w' = w := by
  obtain ⟨b, off, rfl, rfl, hat⟩ := lst_ints_at h h0
  have := Try.slices_Min_int b off cs.length c cs w h0 (Nat.le_refl _) (by omega) hat
  rwa [List.take_length] at this
theorem maxCall {w : World} {A : Option Addr} {n c : Nat} {cs : List Int} (h : Lst w (.slice A n c) (ints cs)) (h0 : 0 < cs.length) (h1 : cs.length ≤ 1048576) :
    Calls Try.prog 72 #[.slice A n c] w fun e w' => e = .returned (.int .i64 (Lib.maxOf cs)) ∧ w' = w := by
  obtain ⟨b, off, rfl, rfl, hat⟩ := lst_ints_at h h0
  have := Try.slices_Max_int b off cs.length c cs w h0 (Nat.le_refl _) (by omega) hat
  rwa [List.take_length] at this
theorem cntOk_iff (cs : List Int) (h : 0 < cs.length) : cs.all cntOk = true ↔ 0 ≤ Lib.minOf cs ∧ Lib.maxOf cs ≤ 1000 := by
  rw [minOf_ge _ _ h, maxOf_le _ _ h]
  unfold cntOk
  simp only [List.all_eq_true, Bool.and_eq_true, decide_eq_true_eq]
  exact ⟨fun h => ⟨fun x hx => (h x hx).1, fun x hx => (h x hx).2⟩, fun h x hx => ⟨h.1 x hx, h.2 x hx⟩⟩
/-- counts as the cells of a row -/
def vecF (cs : List Int) : Nat → Int := fun i => cs.getD i 0
theorem vecF_out (cs : List Int) (i : Nat) (h : cs.length ≤ i) : vecF cs i = 0 := by
  unfold vecF
  rw [List.getD_eq_getElem?_getD, List.getElem?_eq_none h]
  rfl
theorem rowA_seg (f : Nat → Int) (g : Nat → Int) (n : Nat) (hn : n ≤ 4) : (rowA f).toList.take 0 ++ (numsTo g n ++ (rowA f).toList.drop (0 + n)) = (rowA fun c => if c < n then g c else f c).toList := by
  rcases (by omega : n = 0 ∨ n = 1 ∨ n = 2 ∨ n = 3 ∨ n = 4) with rfl | rfl | rfl | rfl | rfl <;> rfl
theorem vec_seg (cs : List Int) (hn : cs.length ≤ 4) : (rowA fun _ => 0).toList.take 0 ++ (numsTo (vecF cs) cs.length ++ (rowA fun _ => 0).toList.drop (0 + cs.length)) = (rowA (vecF cs)).toList := by
  rw [rowA_seg _ _ _ hn]
  congr 2
  funext c
  by_cases h : c < cs.length
  · rw [if_pos h]
  · rw [if_neg h, vecF_out cs c (by omega)]
theorem cTo_dotF (l : List ByteArray) (cs : List Int) (j : Nat) : ∀ k, cTo l cs j k = dotF (at2 (matL l)) (vecF cs) j k
  | 0 => rfl
  | k + 1 => by
    unfold cTo dotF
    rw [cTo_dotF l cs j k]
    rfl
theorem matL_right (l : List ByteArray) (i k : Nat) (hk : l.length ≤ k) : at2 (matL l) i k = 0 := by
  by_cases hi : i < (matL l).length
  · exact at2_outc (matL l) l.length i k hi (matL_row l i hi) hk
  · exact at2_out _ i k (by omega)
theorem matL_small4 {l : List ByteArray} (hl : substB l = true) (i k : Nat) : -8 ≤ at2 (matL l) i k ∧ at2 (matL l) i k ≤ 8 := by
  by_cases hk : k < l.length
  · by_cases hi : i < l.length
    · have := matL_small hl i k hi hk
      omega
    · rw [at2_out _ i k (by rw [matL_length]; omega)]
      decide
  · rw [matL_right l i k (by omega)]
    decide
theorem dotF_zero (f : Nat → Nat → Int) (c : Nat → Int) (i : Nat) (h : ∀ j, f i j = 0) : ∀ k, dotF f c i k = 0
  | 0 => rfl
  | k + 1 => by
    unfold dotF
    rw [dotF_zero f c i h k, h k]
    simp
theorem step_vec {l : List ByteArray} (hl : substB l = true) (cs : List Int) : rowA (fun i => dotF (at2 (matL l)) (vecF cs) i 4) = rowA (vecF (stepC l cs)) := by
  refine rowA_congr fun i _ => ?_
  by_cases hi : i < l.length
  · rw [dotF_upto _ _ i l.length (subst_parts hl).2.1 (fun j hj => matL_right l i j hj), ← cTo_dotF]
    unfold vecF
    rw [List.getD_eq_getElem?_getD, List.getElem?_eq_getElem (by rw [stepC_length]; exact hi), Option.getD_some, stepC_at]
  · rw [vecF_out _ i (by rw [stepC_length]; omega), dotF_zero _ _ i (fun j => at2_out _ i j (by rw [matL_length]; omega))]
theorem vec_max (cs : List Int) (h4 : cs.length ≤ 4) : Lib.maxOf [vecF cs 0, vecF cs 1, vecF cs 2, vecF cs 3] ≤ 1000000000000 ↔ cs.all smallC = true := by
  rw [maxOf_le _ _ (by simp)]
  unfold smallC
  simp only [List.all_eq_true, decide_eq_true_eq, List.mem_cons, List.not_mem_nil, or_false, forall_eq_or_imp, forall_eq]
  constructor
  · rintro ⟨h0, h1, h2, h3⟩ x hx
    obtain ⟨k, hk, rfl⟩ := List.mem_iff_getElem.1 hx
    have e : vecF cs k = cs[k] := by unfold vecF; rw [List.getD_eq_getElem?_getD, List.getElem?_eq_getElem hk]; rfl
    rw [← e]
    rcases four_cases (show k < 4 by omega) with rfl | rfl | rfl | rfl <;> assumption
  · intro h
    have hv : ∀ k, vecF cs k ≤ 1000000000000 := by
      intro k
      by_cases hk : k < cs.length
      · have e : vecF cs k = cs[k] := by unfold vecF; rw [List.getD_eq_getElem?_getD, List.getElem?_eq_getElem hk]; rfl
        rw [e]
        exact h _ (List.getElem_mem hk)
      · rw [vecF_out cs k (by omega)]
        decide
    exact ⟨hv 0, hv 1, hv 2, hv 3⟩
/-- the cells of a row as a list -/
theorem Arr.vecCells {w : World} {B : Nat} {T : TypeId} {b : Nat} {c : Nat → Int} (h : Arr w B T b (rowA c)) : ∀ j, j < ([c 0, c 1, c 2, c 3] : List Int).length → w.cell? ⟨b, 0 + j, none⟩ = some (.int .i64 (([c 0, c 1, c 2, c 3] : List Int).getD j 0)) := by
  intro j hj
  have hj4 : j < 4 := by simpa using hj
  rw [Nat.zero_add, h.cell _ _ (rowA_get c j hj4)]
  rcases four_cases hj4 with rfl | rfl | rfl | rfl <;> rfl
theorem vec_own (cs : List Int) (n : Nat) (h : cs.length = n) (hn : n ≤ 4) : ([vecF cs 0, vecF cs 1, vecF cs 2, vecF cs 3] : List Int).take n = cs := by
  rw [row_take _ n hn]
  refine List.ext_getElem (by simp [h]) fun k hk hk2 => ?_
  simp only [List.getElem_map, List.getElem_range]
  unfold vecF
  rw [List.getD_eq_getElem?_getD, List.getElem?_eq_getElem hk2]
  rfl
theorem ca_small {l : List ByteArray} {cs : List Int} (hl : substB l = true) (h0 : cs.length = l.length) (hc : cs.all cntOk = true) (n : Nat) (h : itCok l cs n = true) (k : Nat) : -1000000000000 ≤ vecF (itC l cs n) k ∧ vecF (itC l cs n) k ≤ 1000000000000 := by
  by_cases hk : k < l.length
  · have := itC_small hl h0 hc n h k hk
    unfold vecF
    omega
  · rw [vecF_out _ k (by rw [itC_length h0]; omega)]
    decide
end Go.Proofs.Ytfcbfflkajlhnaa

/- CountAfter of the program where it has counts to start from. Conditions: lengths of at most 2^20. -/
namespace Go.Proofs.Ytfcbfflkajlhnaa
open Go.RowKit

theorem itCok_no {l : List ByteArray} {cs : List Int} {k N : Nat} (hk : k < N) (h : (stepC l (itC l cs k)).all smallC = false) : itCok l cs N = false := by
  have h1 : itCok l cs (k + 1) = false := by
    show (itCok l cs k && (stepC l (itC l cs k)).all smallC) = false
    rw [h, Bool.and_false]
  have := itCok_mono h1 (N - (k + 1))
  rwa [show k + 1 + (N - (k + 1)) = N from by omega] at this

set_option maxHeartbeats 4000000 in
set_option maxRecDepth 100000 in
theorem caRun (l : List ByteArray) (A : Option Addr) (cp : Nat) (C : Option Addr) (cq : Nat) (cs : List Int) (n : Int) (w : World) (h : Lst w (.slice A l.length cp) (strs l)) (hz : ∀ x ∈ l, x.size ≤ 1048576) (hn : l.length ≤ 1048576) (hu : Lst w (.slice C cs.length cq) (ints cs)) (hc : cs.length ≤ 1048576)
    (h1 : substB l = true) (h2 : cs.length = l.length) (h3 : ¬ n < 0) (h4 : ¬ 40 < n) (hmin : ¬ Lib.minOf cs < 0) (hmax : ¬ 1000 < Lib.maxOf cs) :
    Calls Try.prog 24 #[.agg #[.slice A l.length cp], .slice C cs.length cq, .int .i64 n] w (IntsSaid (caR l cs n) (caOk l cs n) w) := by
  obtain ⟨N, rfl⟩ : ∃ N : Nat, n = N := ⟨n.toNat, by omega⟩
  obtain ⟨i0, hi0, hz0, hz1, hz2⟩ := info_parts int_info
  have hsz : (Try.prog.info? 3).map (·.size) = some 1 := by rw [hi0, Option.map_some, hz1]
  have HSZ := Lib.hid hsz
  have hb0 : Below w.heap.size w (w.alloc (.cells #[.slice A l.length cp] 25)) := (Below.refl _ _).alloc (Nat.le_refl _) _
  have HL := Lib.hid (h.below hb0)
  have HU := Lib.hid (hu.below hb0)
  have HZ := Lib.hid hz
  have HB0 := Lib.hid hb0
  clear h hz hb0 hu hsz hz0 hz2
  obtain ⟨hl1, hl4, _⟩ := subst_parts h1
  have HSB := Lib.hid h1
  have b2 : ((cs.length : Int) != (l.length : Int)) = false := by rw [h2]; simp
  have H2 := Lib.hid h2
  have d1 : decide ((N : Int) < 0) = false := decide_eq_false h3
  have d2 : decide (40 < (N : Int)) = false := decide_eq_false h4
  have hcs0 : 0 < cs.length := by omega
  have hcs4 : cs.length ≤ 4 := by omega
  have HALL : Hid (cs.all cntOk = true) := (cntOk_iff cs (by omega)).2 ⟨by omega, by omega⟩
  have HPRE : Hid (caOk l cs N = itCok l cs N) := by
    show caOk l cs N = _
    unfold caOk
    rw [h1, HALL.out, decide_eq_true h2, decide_eq_true (show (0 : Int) ≤ N by omega), decide_eq_true (show (N : Int) ≤ 40 by omega), Int.toNat_natCast]
    rfl
  have HRES : Hid (itCok l cs N = true → caR l cs N = itC l cs N) := by
    intro h
    unfold caR
    rw [if_pos (by rw [HPRE.out]; exact h), Int.toNat_natCast]
  have e1 : decide (Lib.minOf cs < 0) = false := decide_eq_false hmin
  have e2 : decide (1000 < Lib.maxOf cs) = false := decide_eq_false hmax
  clear hmax hmin h2 h1 h3
  go_enter Try.func24, Try.ntmps24
  go_wp2_with fail
  refine (implSubstOk l _ _ HL.out HZ.out hn).mono ?_
  rintro e w1 ⟨rfl, hb1⟩
  rw [HSB.out]
  have HB1 : Hid (Below w.heap.size w w1) := HB0.out.trans (hb1.mono (by simp))
  have c0 : w1.cell? ⟨w.heap.size, 0, none⟩ = some (.slice A l.length cp) := (hb1.cell (p := ⟨w.heap.size, 0, none⟩) (by simp)).trans (by go_simp)
  have HL1 := Lib.hid (HL.out.below hb1)
  have HU1 := Lib.hid (HU.out.below hb1)
  clear hb1
  go_wp2_with fail
  refine (minCall HU1.out hcs0 hc).mono ?_
  rintro e w' ⟨rfl, rfl⟩
  go_wp2_with fail
  refine (maxCall HU1.out hcs0 hc).mono ?_
  rintro e w' ⟨rfl, rfl⟩
  go_wp2_with fail
  refine (implMatrix l _ _ HL1.out HSB.out).mono ?_
  rintro e w2 ⟨rfl, hb2⟩
  have HB2 := Lib.hid (HB1.out.trans (hb2.mono HB1.out.size))
  have hsz2 := HB2.out.size
  obtain ⟨bc, oc, hC, _, hat⟩ := lst_ints_at (HU1.out.below hb2) hcs0
  subst hC
  have hbb : Below w2.heap.size w2 ((w2.alloc (.cells (sqA l.length (at2 (matL l))) 78)).alloc (.cells #[.int .i64 0, .int .i64 0, .int .i64 0, .int .i64 0] 75)) := ((Below.refl _ _).alloc (Nat.le_refl _) _).alloc (by simp) _
  have HAT : Hid (∀ j, j < cs.length → ((w2.alloc (.cells (sqA l.length (at2 (matL l))) 78)).alloc (.cells #[.int .i64 0, .int .i64 0, .int .i64 0, .int .i64 0] 75)).cell? ((⟨bc, oc, none⟩ : Addr).add j) = some (.int .i64 (vecF cs j))) := by
    intro j hj
    rw [Addr.add_lit]
    exact ((hbb.cell (p := ⟨bc, oc + j, none⟩) (World.block_lt_of_cell? _ _ (hat j hj))).trans (hat j hj))
  have HSEG := Lib.hid (vec_seg cs hcs4)
  have HQ0 : Hid (Arr ((w2.alloc (.cells (sqA l.length (at2 (matL l))) 78)).alloc (.cells #[.int .i64 0, .int .i64 0, .int .i64 0, .int .i64 0] 75)) w.heap.size 78 w2.heap.size (sqA l.length (at2 (matL l)))) := (Arr.made w2 w.heap.size 78 (sqA l.length (at2 (matL l))) hsz2 (by simp [sqA_size, maxLen])).alloc _
  have HR0 : Hid (Arr ((w2.alloc (.cells (sqA l.length (at2 (matL l))) 78)).alloc (.cells #[.int .i64 0, .int .i64 0, .int .i64 0, .int .i64 0] 75)) w.heap.size 75 (w2.heap.size + 1) (rowA fun _ => 0)) := by
    have := Arr.made (w2.alloc (.cells (sqA l.length (at2 (matL l))) 78)) w.heap.size 75 (rowA fun _ => 0) (by simp; omega) (by simp [rowA_size, maxLen])
    simp only [World.size_alloc] at this
    exact this
  have HBB := Lib.hid (HB2.out.trans (hbb.mono hsz2))
  clear hb2 hat hbb
  go_upto_region 8 with (first
    | (with_reducible refine store_new rfl 78 (.tmp 8) (.tmp 38) rfl w2.heap.size _ (sqA l.length (at2 (matL l))) rfl rfl rfl 17 sq_ty rfl rfl (sqA_one _ _) ?_)
    | (refine copy_arr rfl (.tmp 39) (.tmp 40) 35 35 rfl 3 Try.underlying35 HSZ.out w.heap.size (w2.heap.size + 1) 0 4 4 75 ⟨bc, oc, none⟩ cs.length cq rfl rfl (rowA fun _ => 0) (rowA (vecF cs)) HR0.out (vecF cs) cs.length (Nat.min_eq_left hcs4).symm HAT.out (by simp [rowA_size]; omega) HSEG.out ?_))
  have HQ3 : Hid (Arr (((w2.alloc (.cells (sqA l.length (at2 (matL l))) 78)).alloc (.cells #[.int .i64 0, .int .i64 0, .int .i64 0, .int .i64 0] 75)).setRow (w2.heap.size + 1) (rowA (vecF cs))) w.heap.size 78 w2.heap.size (sqA l.length (at2 (matL l)))) := Arr.otherRow HQ0.out (by omega) _
  have HR3 : Hid (Arr (((w2.alloc (.cells (sqA l.length (at2 (matL l))) 78)).alloc (.cells #[.int .i64 0, .int .i64 0, .int .i64 0, .int .i64 0] 75)).setRow (w2.heap.size + 1) (rowA (vecF cs))) w.heap.size 75 (w2.heap.size + 1) (rowA (vecF cs))) := Arr.row HR0.out rfl
  have HB3 : Hid (Below w.heap.size w (((w2.alloc (.cells (sqA l.length (at2 (matL l))) 78)).alloc (.cells #[.int .i64 0, .int .i64 0, .int .i64 0, .int .i64 0] 75)).setRow (w2.heap.size + 1) (rowA (vecF cs)))) := below_row HBB.out (by omega) _
  generalize (((w2.alloc (.cells (sqA l.length (at2 (matL l))) 78)).alloc (.cells #[.int .i64 0, .int .i64 0, .int .i64 0, .int .i64 0] 75)).setRow (w2.heap.size + 1) (rowA (vecF cs))) = w3 at HQ3 HR3 HB3 ⊢
  clear HQ0 HR0 HBB HAT HSEG HL1 HU1 c0
  go_wp2_with fail
  go_loopw [43] (fun i w' => ∃ k : Nat, k ≤ N ∧ i = .int .i64 k ∧ itCok l cs k = true ∧ Arr w' w.heap.size 78 w2.heap.size (sqA l.length (at2 (matL l))) ∧ Arr w' w.heap.size 75 (w2.heap.size + 1) (rowA (vecF (itC l cs k))) ∧ Below w.heap.size w w') (fun i _ => N - (intOf i).toNat)
  case atStart => exact ⟨0, by omega, rfl, rfl, HQ3.out, HR3.out, HB3.out⟩
  case round =>
    obtain ⟨k, hk, rfl, hok, hq, hr, hb⟩ := hrel
    obtain ⟨wo, rfl⟩ : ∃ x : World, x = wr := ⟨_, rfl⟩
    have HOK := Lib.hid hok
    have HQ := Lib.hid hq
    have HR := Lib.hid hr
    have HB := Lib.hid hb
    clear hok hq hr hb HQ3 HR3 HB3
    by_cases hlt : k < N
    · have HSM := Lib.hid (small_of (B := 8) (C := 1000000000000) (matL_small4 HSB.out) (ca_small HSB.out H2.out HALL.out k HOK.out) (by decide))
      have hlen : (stepC l (itC l cs k)).length ≤ 4 := by rw [stepC_length]; exact hl4
      have HVM := Lib.hid (vec_max (stepC l (itC l cs k)) hlen)
      by_cases hbig : (stepC l (itC l cs k)).all smallC = true
      · have hle := HVM.out.2 hbig
        have dbig : decide (1000000000000 < Lib.maxOf [vecF (stepC l (itC l cs k)) 0, vecF (stepC l (itC l cs k)) 1, vecF (stepC l (itC l cs k)) 2, vecF (stepC l (itC l cs k)) 3]) = false := decide_eq_false (by omega)
        have HBIG := Lib.hid hbig
        clear hbig hle
        go_wp2_with (first
          | (with_reducible refine load_arr rfl 78 (.tmp 8) rfl w2.heap.size _ _ _ rfl HQ.out 17 sq_ty rfl ?_)
          | (with_reducible refine load_arr rfl 75 (.tmp 9) rfl (w2.heap.size + 1) _ _ _ rfl HR.out 4 row_ty rfl ?_))
        refine (implTimesColumn _ _ _ HSM.out _).mono ?_
        rintro e w4 ⟨rfl, hb4⟩
        rw [step_vec HSB.out]
        have HQ4 := Lib.hid (HQ.out.below hb4)
        have HR4 := Lib.hid (HR.out.below hb4)
        have HB4 := Lib.hid (HB.out.trans (hb4.mono HB.out.size))
        have HR5 := Lib.hid (HR4.out.row (c' := rowA (vecF (stepC l (itC l cs k)))) rfl)
        clear hb4
        go_wp2_with (with_reducible refine store_arr rfl 75 (.tmp 9) (.tmp 47) rfl (w2.heap.size + 1) _ _ (rowA (vecF (stepC l (itC l cs k)))) rfl rfl HR4.out 4 row_ty rfl rfl (rowA_one _) ?_)
        refine (Try.slices_Max_int (w2.heap.size + 1) 0 4 4 _ _ (by decide) (Nat.le_refl _) (by decide) HR5.out.vecCells).mono ?_
        rintro e w' ⟨rfl, rfl⟩
        rw [List.take_of_length_le (by simp)]
        go_wp2_with fail
        go_roundw
        case rel =>
          refine ⟨k + 1, by omega, by go_num, ?_, ?_, ?_, ?_⟩
          · show (itCok l cs k && (stepC l (itC l cs k)).all smallC) = true
            rw [HOK.out, HBIG.out]
            rfl
          · exact Arr.otherRow HQ4.out (by omega) _
          · exact HR5.out
          · exact below_row HB4.out (by omega) _
        case measure => simp [intOf]; omega
      · have hgt : ¬ _ := fun h => hbig (HVM.out.1 h)
        have dbig : decide (1000000000000 < Lib.maxOf [vecF (stepC l (itC l cs k)) 0, vecF (stepC l (itC l cs k)) 1, vecF (stepC l (itC l cs k)) 2, vecF (stepC l (itC l cs k)) 3]) = true := decide_eq_true (by omega)
        have HN : Hid (caOk l cs N = false) := by
          show caOk l cs N = false
          rw [HPRE.out]
          exact itCok_no hlt (by simpa using hbig)
        clear hbig hgt
        go_wp2_with (first
          | (with_reducible refine load_arr rfl 78 (.tmp 8) rfl w2.heap.size _ _ _ rfl HQ.out 17 sq_ty rfl ?_)
          | (with_reducible refine load_arr rfl 75 (.tmp 9) rfl (w2.heap.size + 1) _ _ _ rfl HR.out 4 row_ty rfl ?_))
        refine (implTimesColumn _ _ _ HSM.out _).mono ?_
        rintro e w4 ⟨rfl, hb4⟩
        rw [step_vec HSB.out]
        have HR4 := Lib.hid (HR.out.below hb4)
        have HB4 := Lib.hid (HB.out.trans (hb4.mono HB.out.size))
        have HR5 := Lib.hid (HR4.out.row (c' := rowA (vecF (stepC l (itC l cs k)))) rfl)
        clear hb4
        go_wp2_with (with_reducible refine store_arr rfl 75 (.tmp 9) (.tmp 47) rfl (w2.heap.size + 1) _ _ (rowA (vecF (stepC l (itC l cs k)))) rfl rfl HR4.out 4 row_ty rfl rfl (rowA_one _) ?_)
        refine (Try.slices_Max_int (w2.heap.size + 1) 0 4 4 _ _ (by decide) (Nat.le_refl _) (by decide) HR5.out.vecCells).mono ?_
        rintro e w' ⟨rfl, rfl⟩
        rw [List.take_of_length_le (by simp)]
        go_wp2_with fail
        go_ret2
        exact intsSaid_no (caR_no HN.out) HN.out (below_row HB4.out (by omega) _)
    · have hkN : k = N := by omega
      subst hkN
      have g0 : wo.cell? ⟨w2.heap.size, 0, none⟩ = some (.int .i64 l.length) := HQ.out.cell 0 _ rfl
      have hcu := cut_upto (w2.heap.size + 1) 0 l.length hl4
      go_wp2_with fail
      refine (Try.slices_Clone_int (w2.heap.size + 1) 0 l.length 4 _ _ (by simp; omega) (by omega) HR.out.vecCells).mono ?_
      rintro e w4 ⟨v', rfl, ho, _, hb4⟩
      rw [vec_own _ _ (itC_length H2.out k) hl4] at ho
      have HO := Lib.hid ho
      have HB4 := Lib.hid (HB.out.trans (hb4.mono HB.out.size))
      obtain ⟨A4, cp4, rfl⟩ := own_slice ho
      clear hb4 ho
      go_wp2_with fail
      go_ret2
      rw [HPRE.out, HOK.out, HRES.out HOK.out]
      refine ⟨_, rfl, ?_, HB4.out⟩
      have := itC_length H2.out k
      rw [this]
      exact own_mono HO.out HB.out.size
end Go.Proofs.Ytfcbfflkajlhnaa

/- CountAfter of the program, every call. Conditions: lengths of at most 2^20. -/
namespace Go.Proofs.Ytfcbfflkajlhnaa
open Go.RowKit

set_option maxHeartbeats 4000000 in
set_option maxRecDepth 100000 in
theorem implCountAfter (l : List ByteArray) (v : Value) (cs : List Int) (u : Value) (n : Int) (w : World) (h : Lst w v (strs l)) (hz : ∀ x ∈ l, x.size ≤ 1048576) (hn : l.length ≤ 1048576) (hu : Lst w u (ints cs)) (hc : cs.length ≤ 1048576) :
    Calls Try.prog 24 #[.agg #[v], u, .int .i64 n] w (IntsSaid (caR l cs n) (caOk l cs n) w) := by
  obtain ⟨i0, hi0, hz0, hz1, hz2⟩ := info_parts int_info
  have hsz : (Try.prog.info? 3).map (·.size) = some 1 := by rw [hi0, Option.map_some, hz1]
  have HSZ := Lib.hid hsz
  obtain ⟨A, cp, rfl⟩ := lst_slice h
  obtain ⟨C, cq, rfl⟩ := lst_slice hu
  rw [strs_length] at h ⊢
  rw [ints_length] at hu ⊢
  have hb0 : Below w.heap.size w (w.alloc (.cells #[.slice A l.length cp] 25)) := (Below.refl _ _).alloc (Nat.le_refl _) _
  have HRUN := Lib.hid (caRun l A cp C cq cs n w h hz hn hu hc)
  have HL := Lib.hid (h.below hb0)
  have HU := Lib.hid (hu.below hb0)
  have HZ := Lib.hid hz
  have HB0 := Lib.hid hb0
  clear h hz hb0 hu hsz hz0 hz2
  by_cases h1 : substB l = true
  · obtain ⟨hl1, hl4, _⟩ := subst_parts h1
    have HSB := Lib.hid h1
    by_cases h2 : cs.length = l.length
    · have b2 : ((cs.length : Int) != (l.length : Int)) = false := by rw [h2]; simp
      have H2 := Lib.hid h2
      by_cases h3 : n < 0
      · have d1 : decide (n < 0) = true := decide_eq_true h3
        have HN : Hid (caOk l cs n = false) := by show caOk l cs n = false; unfold caOk; rw [decide_eq_false (show ¬ 0 ≤ n by omega)]; simp
        clear h3 h2 h1
        go_enter Try.func24, Try.ntmps24
        go_wp2_with fail
        refine (implSubstOk l _ _ HL.out HZ.out hn).mono ?_
        rintro e w1 ⟨rfl, hb1⟩
        rw [HSB.out]
        have HB1 : Hid (Below w.heap.size w w1) := HB0.out.trans (hb1.mono (by simp))
        have c0 : w1.cell? ⟨w.heap.size, 0, none⟩ = some (.slice A l.length cp) := (hb1.cell (p := ⟨w.heap.size, 0, none⟩) (by simp)).trans (by go_simp)
        have HL1 := Lib.hid (HL.out.below hb1)
        have HU1 := Lib.hid (HU.out.below hb1)
        clear hb1
        go_wp2_with fail
        go_ret2
        exact intsSaid_no (caR_no HN.out) HN.out HB1.out
      · have d1 : decide (n < 0) = false := decide_eq_false h3
        by_cases h3' : 40 < n
        · have d2 : decide (40 < n) = true := decide_eq_true h3'
          have HN : Hid (caOk l cs n = false) := by show caOk l cs n = false; unfold caOk; rw [decide_eq_false (show ¬ n ≤ 40 by omega)]; simp
          clear h3 h3' h2 h1
          go_enter Try.func24, Try.ntmps24
          go_wp2_with fail
          refine (implSubstOk l _ _ HL.out HZ.out hn).mono ?_
          rintro e w1 ⟨rfl, hb1⟩
          rw [HSB.out]
          have HB1 : Hid (Below w.heap.size w w1) := HB0.out.trans (hb1.mono (by simp))
          have c0 : w1.cell? ⟨w.heap.size, 0, none⟩ = some (.slice A l.length cp) := (hb1.cell (p := ⟨w.heap.size, 0, none⟩) (by simp)).trans (by go_simp)
          have HL1 := Lib.hid (HL.out.below hb1)
          have HU1 := Lib.hid (HU.out.below hb1)
          clear hb1
          go_wp2_with fail
          go_ret2
          exact intsSaid_no (caR_no HN.out) HN.out HB1.out
        · have d2 : decide (40 < n) = false := decide_eq_false h3'
          have HPRE : Hid (caOk l cs n = (cs.all cntOk && itCok l cs n.toNat)) := by show caOk l cs n = _; unfold caOk; rw [h1, decide_eq_true h2, decide_eq_true (show 0 ≤ n by omega), decide_eq_true (show n ≤ 40 by omega)]; rfl
          have HIFF := Lib.hid (cntOk_iff cs (by omega))
          have hcs0 : 0 < cs.length := by omega
          have hcs4 : cs.length ≤ 4 := by omega
          clear h2 h1
          by_cases hmin : Lib.minOf cs < 0
          · have e1 : decide (Lib.minOf cs < 0) = true := decide_eq_true hmin
            have HN : Hid (caOk l cs n = false) := by
              have : cs.all cntOk = false := by rw [← Bool.not_eq_true, HIFF.out]; omega
              show caOk l cs n = false
              rw [HPRE.out, this, Bool.false_and]
            clear hmin
            go_enter Try.func24, Try.ntmps24
            go_wp2_with fail
            refine (implSubstOk l _ _ HL.out HZ.out hn).mono ?_
            rintro e w1 ⟨rfl, hb1⟩
            rw [HSB.out]
            have HB1 : Hid (Below w.heap.size w w1) := HB0.out.trans (hb1.mono (by simp))
            have c0 : w1.cell? ⟨w.heap.size, 0, none⟩ = some (.slice A l.length cp) := (hb1.cell (p := ⟨w.heap.size, 0, none⟩) (by simp)).trans (by go_simp)
            have HL1 := Lib.hid (HL.out.below hb1)
            have HU1 := Lib.hid (HU.out.below hb1)
            clear hb1
            go_wp2_with fail
            refine (minCall HU1.out hcs0 hc).mono ?_
            rintro e w' ⟨rfl, rfl⟩
            go_wp2_with fail
            go_ret2
            exact intsSaid_no (caR_no HN.out) HN.out HB1.out
          · have e1 : decide (Lib.minOf cs < 0) = false := decide_eq_false hmin
            by_cases hmax : 1000 < Lib.maxOf cs
            · have e2 : decide (1000 < Lib.maxOf cs) = true := decide_eq_true hmax
              have HN : Hid (caOk l cs n = false) := by
                have : cs.all cntOk = false := by rw [← Bool.not_eq_true, HIFF.out]; omega
                show caOk l cs n = false
                rw [HPRE.out, this, Bool.false_and]
              clear hmax
              go_enter Try.func24, Try.ntmps24
              go_wp2_with fail
              refine (implSubstOk l _ _ HL.out HZ.out hn).mono ?_
              rintro e w1 ⟨rfl, hb1⟩
              rw [HSB.out]
              have HB1 : Hid (Below w.heap.size w w1) := HB0.out.trans (hb1.mono (by simp))
              have c0 : w1.cell? ⟨w.heap.size, 0, none⟩ = some (.slice A l.length cp) := (hb1.cell (p := ⟨w.heap.size, 0, none⟩) (by simp)).trans (by go_simp)
              have HL1 := Lib.hid (HL.out.below hb1)
              have HU1 := Lib.hid (HU.out.below hb1)
              clear hb1
              go_wp2_with fail
              refine (minCall HU1.out hcs0 hc).mono ?_
              rintro e w' ⟨rfl, rfl⟩
              go_wp2_with fail
              refine (maxCall HU1.out hcs0 hc).mono ?_
              rintro e w' ⟨rfl, rfl⟩
              go_wp2_with fail
              go_ret2
              exact intsSaid_no (caR_no HN.out) HN.out HB1.out
            · exact HRUN.out HSB.out H2.out h3 h3' hmin hmax
    · have b2 : ((cs.length : Int) != (l.length : Int)) = true := by rw [bne_iff_ne]; omega
      have HN : Hid (caOk l cs n = false) := by show caOk l cs n = false; unfold caOk; rw [decide_eq_false h2]; simp
      clear h2 h1
      go_enter Try.func24, Try.ntmps24
      go_wp2_with fail
      refine (implSubstOk l _ _ HL.out HZ.out hn).mono ?_
      rintro e w1 ⟨rfl, hb1⟩
      rw [HSB.out]
      have HB1 : Hid (Below w.heap.size w w1) := HB0.out.trans (hb1.mono (by simp))
      have c0 : w1.cell? ⟨w.heap.size, 0, none⟩ = some (.slice A l.length cp) := (hb1.cell (p := ⟨w.heap.size, 0, none⟩) (by simp)).trans (by go_simp)
      have HL1 := Lib.hid (HL.out.below hb1)
      have HU1 := Lib.hid (HU.out.below hb1)
      clear hb1
      go_wp2_with fail
      go_ret2
      exact intsSaid_no (caR_no HN.out) HN.out HB1.out
  · have h1' : substB l = false := by simpa using h1
    have HSB := Lib.hid h1'
    have HN : Hid (caOk l cs n = false) := by show caOk l cs n = false; unfold caOk; rw [h1']; simp
    clear h1 h1'
    go_enter Try.func24, Try.ntmps24
    go_wp2_with fail
    refine (implSubstOk l _ _ HL.out HZ.out hn).mono ?_
    rintro e w1 ⟨rfl, hb1⟩
    rw [HSB.out]
    have HB1 : Hid (Below w.heap.size w w1) := HB0.out.trans (hb1.mono (by simp))
    have c0 : w1.cell? ⟨w.heap.size, 0, none⟩ = some (.slice A l.length cp) := (hb1.cell (p := ⟨w.heap.size, 0, none⟩) (by simp)).trans (by go_simp)
    have HL1 := Lib.hid (HL.out.below hb1)
    have HU1 := Lib.hid (HU.out.below hb1)
    clear hb1
    go_wp2_with fail
    go_ret2
    exact intsSaid_no (caR_no HN.out) HN.out HB1.out
end Go.Proofs.Ytfcbfflkajlhnaa
