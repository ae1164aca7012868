/- Texts put together. -/
import Derived.Test.YtbbcdeknnfghkaaMgE22
import Derived.Test.YtbbcdeknnfghkaaMgE21
import Derived.Test.YtbbcdeknnfghkaaMgE15
import Derived.Test.YtbbcdeknnfghkaaMgE4
/- CountAfter of the program where it has counts to start from. Conditions: lengths of at most 2^20. -/
namespace Go.Proofs.Ytbbcdeknnfghkaa
open Go.RowKit

theorem itCok_no {l : List ByteArray} {cs : List Int} {k N : Nat} (hk : k < N) (h : (stepC l (itC l cs k)).all smallC = false) : itCok l cs N = false := by
  have h1 : itCok l cs (k + 1) = false := by
    show (itCok l cs k && (stepC l (itC l cs k)).all smallC) = false
    rw [h, Bool.and_false]
  have := itCok_mono h1 (N - (k + 1))
  rwa [show k + 1 + (N - (k + 1)) = N from by omega] at this

set_option maxHeartbeats 4000000 in
set_option maxRecDepth 100000 in
theorem caRun (l : List ByteArray) (A : Option Addr) (cp : Nat) (C : Option Addr) (cq : Nat) (cs : List Int) (n : Int) (w : World) (h : Lst w (.slice A l.length cp) (strs l)) (hz : ∀ x ∈ l, x.size ≤ 1048576) (hn : l.length ≤ 1048576) (hu : Lst w (.slice C cs.length cq) (ints cs)) (hc : cs.length ≤ 1048576)
    (h1 : substB l = true) (h2 : cs.length = l.length) (h3 : ¬ n < 0) (h4 : ¬ 40 < n) (hmin : ¬ Lib.minOf cs < 0) (hmax : ¬ 1000 < Lib.maxOf cs) :
    Calls Try.prog 22 #[.agg #[.slice A l.length cp], .slice C cs.length cq, .int .i64 n] w (IntsSaid (caR l cs n) (caOk l cs n) w) := by
  obtain ⟨N, rfl⟩ : ∃ N : Nat, n = N := ⟨n.toNat, by omega⟩
  obtain ⟨i0, hi0, hz0, hz1, hz2⟩ := info_parts int_info
  have hsz : (Try.prog.info? 3).map (·.size) = some 1 := by rw [hi0, Option.map_some, hz1]
  have HSZ := Lib.hid hsz
  have hb0 : Below w.heap.size w (w.alloc (.cells #[.slice A l.length cp] 24)) := (Below.refl _ _).alloc (Nat.le_refl _) _
  have HL := Lib.hid (h.below hb0)
  have HU := Lib.hid (hu.below hb0)
  have HZ := Lib.hid hz
  have HB0 := Lib.hid hb0
  clear h hz hb0 hu hsz hz0 hz2
  obtain ⟨hl1, hl4, _⟩ := subst_parts h1
  have HSB := Lib.hid h1
  have b2 : ((cs.length : Int) != (l.length : Int)) = false := by rw [h2]; simp
  have H2 := Lib.hid h2
  have d1 : decide ((N : Int) < 0) = false := decide_eq_false h3
  have d2 : decide (40 < (N : Int)) = false := decide_eq_false h4
  have hcs0 : 0 < cs.length := by omega
  have hcs4 : cs.length ≤ 4 := by omega
  have HALL : Hid (cs.all cntOk = true) := (cntOk_iff cs (by omega)).2 ⟨by omega, by omega⟩
  have HPRE : Hid (caOk l cs N = itCok l cs N) := by
    show caOk l cs N = _
    unfold caOk
    rw [h1, HALL.out, decide_eq_true h2, decide_eq_true (show (0 : Int) ≤ N by omega), decide_eq_true (show (N : Int) ≤ 40 by omega), Int.toNat_natCast]
    rfl
  have HRES : Hid (itCok l cs N = true → caR l cs N = itC l cs N) := by
    intro h
    unfold caR
    rw [if_pos (by rw [HPRE.out]; exact h), Int.toNat_natCast]
  have e1 : decide (Lib.minOf cs < 0) = false := decide_eq_false hmin
  have e2 : decide (1000 < Lib.maxOf cs) = false := decide_eq_false hmax
  clear hmax hmin h2 h1 h3
  go_enter Try.func22, Try.ntmps22
  go_wp2_with fail
  refine (implSubstOk l _ _ HL.out HZ.out hn).mono ?_
  rintro e w1 ⟨rfl, hb1⟩
  rw [HSB.out]
  have HB1 : Hid (Below w.heap.size w w1) := HB0.out.trans (hb1.mono (by simp))
  have c0 : w1.cell? ⟨w.heap.size, 0, none⟩ = some (.slice A l.length cp) := (hb1.cell (p := ⟨w.heap.size, 0, none⟩) (by simp)).trans (by go_simp)
  have HL1 := Lib.hid (HL.out.below hb1)
  have HU1 := Lib.hid (HU.out.below hb1)
  clear hb1
  go_wp2_with fail
  refine (minCall HU1.out hcs0 hc).mono ?_
  rintro e w' ⟨rfl, rfl⟩
  go_wp2_with fail
  refine (maxCall HU1.out hcs0 hc).mono ?_
  rintro e w' ⟨rfl, rfl⟩
  go_wp2_with fail
  refine (implMatrix l _ _ HL1.out HSB.out).mono ?_
  rintro e w2 ⟨rfl, hb2⟩
  have HB2 := Lib.hid (HB1.out.trans (hb2.mono HB1.out.size))
  have hsz2 := HB2.out.size
  obtain ⟨bc, oc, hC, _, hat⟩ := lst_ints_at (HU1.out.below hb2) hcs0
  subst hC
  have hbb : Below w2.heap.size w2 ((w2.alloc (.cells (sqA l.length (at2 (matL l))) 75)).alloc (.cells #[.int .i64 0, .int .i64 0, .int .i64 0, .int .i64 0] 72)) := ((Below.refl _ _).alloc (Nat.le_refl _) _).alloc (by simp) _
  have HAT : Hid (∀ j, j < cs.length → ((w2.alloc (.cells (sqA l.length (at2 (matL l))) 75)).alloc (.cells #[.int .i64 0, .int .i64 0, .int .i64 0, .int .i64 0] 72)).cell? ((⟨bc, oc, none⟩ : Addr).add j) = some (.int .i64 (vecF cs j))) := by
    intro j hj
    rw [Addr.add_lit]
    exact ((hbb.cell (p := ⟨bc, oc + j, none⟩) (World.block_lt_of_cell? _ _ (hat j hj))).trans (hat j hj))
  have HSEG := Lib.hid (vec_seg cs hcs4)
  have HQ0 : Hid (Arr ((w2.alloc (.cells (sqA l.length (at2 (matL l))) 75)).alloc (.cells #[.int .i64 0, .int .i64 0, .int .i64 0, .int .i64 0] 72)) w.heap.size 75 w2.heap.size (sqA l.length (at2 (matL l)))) := (Arr.made w2 w.heap.size 75 (sqA l.length (at2 (matL l))) hsz2 (by simp [sqA_size, maxLen])).alloc _
  have HR0 : Hid (Arr ((w2.alloc (.cells (sqA l.length (at2 (matL l))) 75)).alloc (.cells #[.int .i64 0, .int .i64 0, .int .i64 0, .int .i64 0] 72)) w.heap.size 72 (w2.heap.size + 1) (rowA fun _ => 0)) := by
    have := Arr.made (w2.alloc (.cells (sqA l.length (at2 (matL l))) 75)) w.heap.size 72 (rowA fun _ => 0) (by simp; omega) (by simp [rowA_size, maxLen])
    simp only [World.size_alloc] at this
    exact this
  have HBB := Lib.hid (HB2.out.trans (hbb.mono hsz2))
  clear hb2 hat hbb
  go_upto_region 8 with (first
    | (with_reducible refine store_new rfl 75 (.tmp 8) (.tmp 38) rfl w2.heap.size _ (sqA l.length (at2 (matL l))) rfl rfl rfl 17 sq_ty rfl rfl (sqA_one _ _) ?_)
    | (refine copy_arr rfl (.tmp 39) (.tmp 40) 32 32 rfl 3 Try.underlying32 HSZ.out w.heap.size (w2.heap.size + 1) 0 4 4 72 ⟨bc, oc, none⟩ cs.length cq rfl rfl (rowA fun _ => 0) (rowA (vecF cs)) HR0.out (vecF cs) cs.length (Nat.min_eq_left hcs4).symm HAT.out (by simp [rowA_size]; omega) HSEG.out ?_))
  have HQ3 : Hid (Arr (((w2.alloc (.cells (sqA l.length (at2 (matL l))) 75)).alloc (.cells #[.int .i64 0, .int .i64 0, .int .i64 0, .int .i64 0] 72)).setRow (w2.heap.size + 1) (rowA (vecF cs))) w.heap.size 75 w2.heap.size (sqA l.length (at2 (matL l)))) := Arr.otherRow HQ0.out (by omega) _
  have HR3 : Hid (Arr (((w2.alloc (.cells (sqA l.length (at2 (matL l))) 75)).alloc (.cells #[.int .i64 0, .int .i64 0, .int .i64 0, .int .i64 0] 72)).setRow (w2.heap.size + 1) (rowA (vecF cs))) w.heap.size 72 (w2.heap.size + 1) (rowA (vecF cs))) := Arr.row HR0.out rfl
  have HB3 : Hid (Below w.heap.size w (((w2.alloc (.cells (sqA l.length (at2 (matL l))) 75)).alloc (.cells #[.int .i64 0, .int .i64 0, .int .i64 0, .int .i64 0] 72)).setRow (w2.heap.size + 1) (rowA (vecF cs)))) := below_row HBB.out (by omega) _
  generalize (((w2.alloc (.cells (sqA l.length (at2 (matL l))) 75)).alloc (.cells #[.int .i64 0, .int .i64 0, .int .i64 0, .int .i64 0] 72)).setRow (w2.heap.size + 1) (rowA (vecF cs))) = w3 at HQ3 HR3 HB3 ⊢
  clear HQ0 HR0 HBB HAT HSEG HL1 HU1 c0
  go_wp2_with fail
  go_loopw [43] (fun i w' => ∃ k : Nat, k ≤ N ∧ i = .int .i64 k ∧ itCok l cs k = true ∧ Arr w' w.heap.size 75 w2.heap.size (sqA l.length (at2 (matL l))) ∧ Arr w' w.heap.size 72 (w2.heap.size + 1) (rowA (vecF (itC l cs k))) ∧ Below w.heap.size w w') (fun i _ => N - (intOf i).toNat)
  case atStart => exact ⟨0, by omega, rfl, rfl, HQ3.out, HR3.out, HB3.out⟩
  case round =>
    obtain ⟨k, hk, rfl, hok, hq, hr, hb⟩ := hrel
    obtain ⟨wo, rfl⟩ : ∃ x : World, x = wr := ⟨_, rfl⟩
    have HOK := Lib.hid hok
    have HQ := Lib.hid hq
    have HR := Lib.hid hr
    have HB := Lib.hid hb
    clear hok hq hr hb HQ3 HR3 HB3
    by_cases hlt : k < N
    · have HSM := Lib.hid (small_of (B := 8) (C := 1000000000000) (matL_small4 HSB.out) (ca_small HSB.out H2.out HALL.out k HOK.out) (by decide))
      have hlen : (stepC l (itC l cs k)).length ≤ 4 := by rw [stepC_length]; exact hl4
      have HVM := Lib.hid (vec_max (stepC l (itC l cs k)) hlen)
      by_cases hbig : (stepC l (itC l cs k)).all smallC = true
      · have hle := HVM.out.2 hbig
        have dbig : decide (1000000000000 < Lib.maxOf [vecF (stepC l (itC l cs k)) 0, vecF (stepC l (itC l cs k)) 1, vecF (stepC l (itC l cs k)) 2, vecF (stepC l (itC l cs k)) 3]) = false := decide_eq_false (by omega)
        have HBIG := Lib.hid hbig
        clear hbig hle
        go_wp2_with (first
          | (with_reducible refine load_arr rfl 75 (.tmp 8) rfl w2.heap.size _ _ _ rfl HQ.out 17 sq_ty rfl ?_)
          | (with_reducible refine load_arr rfl 72 (.tmp 9) rfl (w2.heap.size + 1) _ _ _ rfl HR.out 4 row_ty rfl ?_))
        refine (implTimesColumn _ _ _ HSM.out _).mono ?_
        rintro e w4 ⟨rfl, hb4⟩
        rw [step_vec HSB.out]
        have HQ4 := Lib.hid (HQ.out.below hb4)
        have HR4 := Lib.hid (HR.out.below hb4)
        have HB4 := Lib.hid (HB.out.trans (hb4.mono HB.out.size))
        have HR5 := Lib.hid (HR4.out.row (c' := rowA (vecF (stepC l (itC l cs k)))) rfl)
        clear hb4
        go_wp2_with (with_reducible refine store_arr rfl 72 (.tmp 9) (.tmp 47) rfl (w2.heap.size + 1) _ _ (rowA (vecF (stepC l (itC l cs k)))) rfl rfl HR4.out 4 row_ty rfl rfl (rowA_one _) ?_)
        refine (Try.slices_Max_int (w2.heap.size + 1) 0 4 4 _ _ (by decide) (Nat.le_refl _) (by decide) HR5.out.vecCells).mono ?_
        rintro e w' ⟨rfl, rfl⟩
        rw [List.take_of_length_le (by simp)]
        go_wp2_with fail
        go_roundw
        case rel =>
          refine ⟨k + 1, by omega, by go_num, ?_, ?_, ?_, ?_⟩
          · show (itCok l cs k && (stepC l (itC l cs k)).all smallC) = true
            rw [HOK.out, HBIG.out]
            rfl
          · exact Arr.otherRow HQ4.out (by omega) _
          · exact HR5.out
          · exact below_row HB4.out (by omega) _
        case measure => simp [intOf]; omega
      · have hgt : ¬ _ := fun h => hbig (HVM.out.1 h)
        have dbig : decide (1000000000000 < Lib.maxOf [vecF (stepC l (itC l cs k)) 0, vecF (stepC l (itC l cs k)) 1, vecF (stepC l (itC l cs k)) 2, vecF (stepC l (itC l cs k)) 3]) = true := decide_eq_true (by omega)
        have HN : Hid (caOk l cs N = false) := by
          show caOk l cs N = false
          rw [HPRE.out]
          exact itCok_no hlt (by simpa using hbig)
        clear hbig hgt
        go_wp2_with (first
          | (with_reducible refine load_arr rfl 75 (.tmp 8) rfl w2.heap.size _ _ _ rfl HQ.out 17 sq_ty rfl ?_)
          | (with_reducible refine load_arr rfl 72 (.tmp 9) rfl (w2.heap.size + 1) _ _ _ rfl HR.out 4 row_ty rfl ?_))
        refine (implTimesColumn _ _ _ HSM.out _).mono ?_
        rintro e w4 ⟨rfl, hb4⟩
        rw [step_vec HSB.out]
        have HR4 := Lib.hid (HR.out.below hb4)
        have HB4 := Lib.hid (HB.out.trans (hb4.mono HB.out.size))
        have HR5 := Lib.hid (HR4.out.row (c' := rowA (vecF (stepC l (itC l cs k)))) rfl)
        clear hb4
        go_wp2_with (with_reducible refine store_arr rfl 72 (.tmp 9) (.tmp 47) rfl (w2.heap.size + 1) _ _ (rowA (vecF (stepC l (itC l cs k)))) rfl rfl HR4.out 4 row_ty rfl rfl (rowA_one _) ?_)
        refine (Try.slices_Max_int (w2.heap.size + 1) 0 4 4 _ _ (by decide) (Nat.le_refl _) (by decide) HR5.out.vecCells).mono ?_
        rintro e w' ⟨rfl, rfl⟩
        rw [List.take_of_length_le (by simp)]
        go_wp2_with fail
        go_ret2
        exact intsSaid_no (caR_no HN.out) HN.out (below_row HB4.out (by omega) _)
    · have hkN : k = N := by omega
      subst hkN
      have g0 : wo.cell? ⟨w2.heap.size, 0, none⟩ = some (.int .i64 l.length) := HQ.out.cell 0 _ rfl
      have hcu := cut_upto (w2.heap.size + 1) 0 l.length hl4
      go_wp2_with fail
      refine (Try.slices_Clone_int (w2.heap.size + 1) 0 l.length 4 _ _ (by simp; omega) (by omega) HR.out.vecCells).mono ?_
      rintro e w4 ⟨v', rfl, ho, _, hb4⟩
      rw [vec_own _ _ (itC_length H2.out k) hl4] at ho
      have HO := Lib.hid ho
      have HB4 := Lib.hid (HB.out.trans (hb4.mono HB.out.size))
      obtain ⟨A4, cp4, rfl⟩ := own_slice ho
      clear hb4 ho
      go_wp2_with fail
      go_ret2
      rw [HPRE.out, HOK.out, HRES.out HOK.out]
      refine ⟨_, rfl, ?_, HB4.out⟩
      have := itC_length H2.out k
      rw [this]
      exact own_mono HO.out HB.out.size
end Go.Proofs.Ytbbcdeknnfghkaa

/- CountAfter of the program, every call. Conditions: lengths of at most 2^20. -/
namespace Go.Proofs.Ytbbcdeknnfghkaa
open Go.RowKit

set_option maxHeartbeats 4000000 in
set_option maxRecDepth 100000 in
theorem implCountAfter (l : List ByteArray) (v : Value) (cs : List Int) (u : Value) (n : Int) (w : World) (h : Lst w v (strs l)) (hz : ∀ x ∈ l, x.size ≤ 1048576) (hn : l.length ≤ 1048576) (hu : Lst w u (ints cs)) (hc : cs.length ≤ 1048576) :
    Calls Try.prog 22 #[.agg #[v], u, .int .i64 n] w (IntsSaid (caR l cs n) (caOk l cs n) w) := by
  obtain ⟨i0, hi0, hz0, hz1, hz2⟩ := info_parts int_info
  have hsz : (Try.prog.info? 3).map (·.size) = some 1 := by rw [hi0, Option.map_some, hz1]
  have HSZ := Lib.hid hsz
  obtain ⟨A, cp, rfl⟩ := lst_slice h
  obtain ⟨C, cq, rfl⟩ := lst_slice hu
  rw [strs_length] at h ⊢
  rw [ints_length] at hu ⊢
  have hb0 : Below w.heap.size w (w.alloc (.cells #[.slice A l.length cp] 24)) := (Below.refl _ _).alloc (Nat.le_refl _) _
  have HRUN := Lib.hid (caRun l A cp C cq cs n w h hz hn hu hc)
  have HL := Lib.hid (h.below hb0)
  have HU := Lib.hid (hu.below hb0)
  have HZ := Lib.hid hz
  have HB0 := Lib.hid hb0
  clear h hz hb0 hu hsz hz0 hz2
  by_cases h1 : substB l = true
  · obtain ⟨hl1, hl4, _⟩ := subst_parts h1
    have HSB := Lib.hid h1
    by_cases h2 : cs.length = l.length
    · have b2 : ((cs.length : Int) != (l.length : Int)) = false := by rw [h2]; simp
      have H2 := Lib.hid h2
      by_cases h3 : n < 0
      · have d1 : decide (n < 0) = true := decide_eq_true h3
        have HN : Hid (caOk l cs n = false) := by show caOk l cs n = false; unfold caOk; rw [decide_eq_false (show ¬ 0 ≤ n by omega)]; simp
        clear h3 h2 h1
        go_enter Try.func22, Try.ntmps22
        go_wp2_with fail
        refine (implSubstOk l _ _ HL.out HZ.out hn).mono ?_
        rintro e w1 ⟨rfl, hb1⟩
        rw [HSB.out]
        have HB1 : Hid (Below w.heap.size w w1) := HB0.out.trans (hb1.mono (by simp))
        have c0 : w1.cell? ⟨w.heap.size, 0, none⟩ = some (.slice A l.length cp) := (hb1.cell (p := ⟨w.heap.size, 0, none⟩) (by simp)).trans (by go_simp)
        have HL1 := Lib.hid (HL.out.below hb1)
        have HU1 := Lib.hid (HU.out.below hb1)
        clear hb1
        go_wp2_with fail
        go_ret2
        exact intsSaid_no (caR_no HN.out) HN.out HB1.out
      · have d1 : decide (n < 0) = false := decide_eq_false h3
        by_cases h3' : 40 < n
        · have d2 : decide (40 < n) = true := decide_eq_true h3'
          have HN : Hid (caOk l cs n = false) := by show caOk l cs n = false; unfold caOk; rw [decide_eq_false (show ¬ n ≤ 40 by omega)]; simp
          clear h3 h3' h2 h1
          go_enter Try.func22, Try.ntmps22
          go_wp2_with fail
          refine (implSubstOk l _ _ HL.out HZ.out hn).mono ?_
          rintro e w1 ⟨rfl, hb1⟩
          rw [HSB.out]
          have HB1 : Hid (Below w.heap.size w w1) := HB0.out.trans (hb1.mono (by simp))
          have c0 : w1.cell? ⟨w.heap.size, 0, none⟩ = some (.slice A l.length cp) := (hb1.cell (p := ⟨w.heap.size, 0, none⟩) (by simp)).trans (by go_simp)
          have HL1 := Lib.hid (HL.out.below hb1)
          have HU1 := Lib.hid (HU.out.below hb1)
          clear hb1
          go_wp2_with fail
          go_ret2
          exact intsSaid_no (caR_no HN.out) HN.out HB1.out
        · have d2 : decide (40 < n) = false := decide_eq_false h3'
          have HPRE : Hid (caOk l cs n = (cs.all cntOk && itCok l cs n.toNat)) := by show caOk l cs n = _; unfold caOk; rw [h1, decide_eq_true h2, decide_eq_true (show 0 ≤ n by omega), decide_eq_true (show n ≤ 40 by omega)]; rfl
          have HIFF := Lib.hid (cntOk_iff cs (by omega))
          have hcs0 : 0 < cs.length := by omega
          have hcs4 : cs.length ≤ 4 := by omega
          clear h2 h1
          by_cases hmin : Lib.minOf cs < 0
          · have e1 : decide (Lib.minOf cs < 0) = true := decide_eq_true hmin
            have HN : Hid (caOk l cs n = false) := by
              have : cs.all cntOk = false := by rw [← Bool.not_eq_true, HIFF.out]; omega
              show caOk l cs n = false
              rw [HPRE.out, this, Bool.false_and]
            clear hmin
            go_enter Try.func22, Try.ntmps22
            go_wp2_with fail
            refine (implSubstOk l _ _ HL.out HZ.out hn).mono ?_
            rintro e w1 ⟨rfl, hb1⟩
            rw [HSB.out]
            have HB1 : Hid (Below w.heap.size w w1) := HB0.out.trans (hb1.mono (by simp))
            have c0 : w1.cell? ⟨w.heap.size, 0, none⟩ = some (.slice A l.length cp) := (hb1.cell (p := ⟨w.heap.size, 0, none⟩) (by simp)).trans (by go_simp)
            have HL1 := Lib.hid (HL.out.below hb1)
            have HU1 := Lib.hid (HU.out.below hb1)
            clear hb1
            go_wp2_with fail
            refine (minCall HU1.out hcs0 hc).mono ?_
            rintro e w' ⟨rfl, rfl⟩
            go_wp2_with fail
            go_ret2
            exact intsSaid_no (caR_no HN.out) HN.out HB1.out
          · have e1 : decide (Lib.minOf cs < 0) = false := decide_eq_false hmin
            by_cases hmax : 1000 < Lib.maxOf cs
            · have e2 : decide (1000 < Lib.maxOf cs) = true := decide_eq_true hmax
              have HN : Hid (caOk l cs n = false) := by
                have : cs.all cntOk = false := by rw [← Bool.not_eq_true, HIFF.out]; omega
                show caOk l cs n = false
                rw [HPRE.out, this, Bool.false_and]
              clear hmax
              go_enter Try.func22, Try.ntmps22
              go_wp2_with fail
              refine (implSubstOk l _ _ HL.out HZ.out hn).mono ?_
              rintro e w1 ⟨rfl, hb1⟩
              rw [HSB.out]
              have HB1 : Hid (Below w.heap.size w w1) := HB0.out.trans (hb1.mono (by simp))
              have c0 : w1.cell? ⟨w.heap.size, 0, none⟩ = some (.slice A l.length cp) := (hb1.cell (p := ⟨w.heap.size, 0, none⟩) (by simp)).trans (by go_simp)
              have HL1 := Lib.hid (HL.out.below hb1)
              have HU1 := Lib.hid (HU.out.below hb1)
              clear hb1
              go_wp2_with fail
              refine (minCall HU1.out hcs0 hc).mono ?_
              rintro e w' ⟨rfl, rfl⟩
              go_wp2_with fail
              refine (maxCall HU1.out hcs0 hc).mono ?_
              rintro e w' ⟨rfl, rfl⟩
              go_wp2_with fail
              go_ret2
              exact intsSaid_no (caR_no HN.out) HN.out HB1.out
            · exact HRUN.out HSB.out H2.out h3 h3' hmin hmax
    · have b2 : ((cs.length : Int) != (l.length : Int)) = true := by rw [bne_iff_ne]; omega
      have HN : Hid (caOk l cs n = false) := by show caOk l cs n = false; unfold caOk; rw [decide_eq_false h2]; simp
      clear h2 h1
      go_enter Try.func22, Try.ntmps22
      go_wp2_with fail
      refine (implSubstOk l _ _ HL.out HZ.out hn).mono ?_
      rintro e w1 ⟨rfl, hb1⟩
      rw [HSB.out]
      have HB1 : Hid (Below w.heap.size w w1) := HB0.out.trans (hb1.mono (by simp))
      have c0 : w1.cell? ⟨w.heap.size, 0, none⟩ = some (.slice A l.length cp) := (hb1.cell (p := ⟨w.heap.size, 0, none⟩) (by simp)).trans (by go_simp)
      have HL1 := Lib.hid (HL.out.below hb1)
      have HU1 := Lib.hid (HU.out.below hb1)
      clear hb1
      go_wp2_with fail
      go_ret2
      exact intsSaid_no (caR_no HN.out) HN.out HB1.out
  · have h1' : substB l = false := by simpa using h1
    have HSB := Lib.hid h1'
    have HN : Hid (caOk l cs n = false) := by show caOk l cs n = false; unfold caOk; rw [h1']; simp
    clear h1 h1'
    go_enter Try.func22, Try.ntmps22
    go_wp2_with fail
    refine (implSubstOk l _ _ HL.out HZ.out hn).mono ?_
    rintro e w1 ⟨rfl, hb1⟩
    rw [HSB.out]
    have HB1 : Hid (Below w.heap.size w w1) := HB0.out.trans (hb1.mono (by simp))
    have c0 : w1.cell? ⟨w.heap.size, 0, none⟩ = some (.slice A l.length cp) := (hb1.cell (p := ⟨w.heap.size, 0, none⟩) (by simp)).trans (by go_simp)
    have HL1 := Lib.hid (HL.out.below hb1)
    have HU1 := Lib.hid (HU.out.below hb1)
    clear hb1
    go_wp2_with fail
    go_ret2
    exact intsSaid_no (caR_no HN.out) HN.out HB1.out
end Go.Proofs.Ytbbcdeknnfghkaa

/- hasLetter of the program. Conditions: lengths of at most 2^20. -/
namespace Go.Proofs.Ytbbcdeknnfghkaa
open Go.RowKit

theorem letter_list {t : ByteArray} (h1 : t.size = 1) (h2 : wordB t = true) : ∃ c : UInt8, t.data.toList = [c] ∧ c.toNat = 97 + letN t ∧ letN t ≤ 3 := by
  obtain ⟨a, b⟩ := letN_at h1 h2
  have hl : t.data.toList.length = 1 := by simpa using h1
  obtain ⟨c, hc⟩ := List.length_eq_one_iff.1 hl
  refine ⟨c, hc, ?_, b⟩
  have e : letN t = c.toNat - 97 := by
    unfold letN
    rw [hc]
    rfl
  have e2 : t[0]'(by omega) = c := by
    have : t.data.toList[0]'(by omega) = c := by simp [hc]
    rw [Array.getElem_toList] at this
    exact this
  rw [e2] at a
  exact a
theorem within_letter {t : ByteArray} (h1 : t.size = 1) (h2 : wordB t = true) (n : Nat) : withinB n t = decide (letN t < n) := by
  obtain ⟨c, hc, h3, h4⟩ := letter_list h1 h2
  unfold withinB
  rw [hc]
  simp only [List.all_cons, List.all_nil, Bool.and_true]
  rw [h3]
  by_cases h : letN t < n
  · rw [decide_eq_true h, decide_eq_true (by omega)]
  · rw [decide_eq_false h, decide_eq_false (by omega)]
theorem letter_counts {t : ByteArray} (h1 : t.size = 1) (h2 : wordB t = true) (n : Nat) (hn : n ≤ 4) (hl : letN t < n) : (countsR t).take n = unitC n (letN t) := by
  obtain ⟨c, hc, h3, h4⟩ := letter_list h1 h2
  have hcr : countsR t = [(cnt t.data.toList 97 : Int), (cnt t.data.toList 98 : Int), (cnt t.data.toList 99 : Int), (cnt t.data.toList 100 : Int)] := if_pos h2
  have hcc : c = 97 ∨ c = 98 ∨ c = 99 ∨ c = 100 := by
    rcases four_cases (show letN t < 4 by omega) with e | e | e | e <;> rw [e] at h3
    · exact .inl (UInt8.toNat_inj.1 h3)
    · exact .inr (.inl (UInt8.toNat_inj.1 h3))
    · exact .inr (.inr (.inl (UInt8.toNat_inj.1 h3)))
    · exact .inr (.inr (.inr (UInt8.toNat_inj.1 h3)))
  rw [hcr, hc]
  unfold cnt unitC
  rcases hcc with rfl | rfl | rfl | rfl
  · have : letN t = 0 := by have : (97 : UInt8).toNat = 97 := rfl; omega
    rw [this]
    rcases (by omega : n = 1 ∨ n = 2 ∨ n = 3 ∨ n = 4) with rfl | rfl | rfl | rfl <;> rfl
  · have : letN t = 1 := by have : (98 : UInt8).toNat = 98 := rfl; omega
    rw [this] at hl ⊢
    rcases (by omega : n = 2 ∨ n = 3 ∨ n = 4) with rfl | rfl | rfl <;> rfl
  · have : letN t = 2 := by have : (99 : UInt8).toNat = 99 := rfl; omega
    rw [this] at hl ⊢
    rcases (by omega : n = 3 ∨ n = 4) with rfl | rfl <;> rfl
  · have : letN t = 3 := by have : (100 : UInt8).toNat = 100 := rfl; omega
    rw [this] at hl ⊢
    rcases (by omega : n = 4) with rfl <;> rfl
theorem lst_take {w : World} {A : Option Addr} {n c : Nat} {xs : List Value} (h : Lst w (.slice A n c) xs) (k : Nat) (hk : k ≤ xs.length) : Lst w (.slice A k c) (xs.take k) := by
  obtain ⟨A', c', he, h1, h2, h3⟩ := h
  injection he with hA hn hc
  subst hA
  subst hc
  refine ⟨A, c, by rw [List.length_take, Nat.min_eq_left hk], by rw [List.length_take]; omega, h2, ?_⟩
  rcases h3 with h3 | ⟨b, off, hb, h3⟩
  · left
    rw [h3, List.take_nil]
  · right
    refine ⟨b, off, hb, fun i u hu => h3 i u ?_⟩
    rw [List.getElem?_take] at hu
    split at hu
    · exact hu
    · cases hu
theorem cut_slice (a : Addr) (n c k : Nat) (hk : k ≤ c) (w : World) : (Instr.sliceAt 32 (.slice (some a) n c) none (some (.int .i64 (k : Int))) none).run Try.prog w = .ok (.slice (some a) k c) w := by
  have h1 : (0 : Int) ≤ k ∧ (k : Int) ≤ (c : Nat) := by omega
  simp [Instr.sliceAt, Instr.slice, Instr.sliceBounds, Instr.sliceBound, asIntOf, run_underlying Try.underlying32, Instr.sureAddr, hk, Addr.add]

theorem implHasLetter (A : Option Addr) (l : List ByteArray) (cp : Nat) (t : ByteArray) (w : World) (h : Lst w (.slice A l.length cp) (strs l)) (hz : ∀ x ∈ l, x.size ≤ 1048576) (hn : l.length ≤ 1048576) (ht : t.size ≤ 1048576) :
    Calls Try.prog 66 #[.agg #[.slice A l.length cp], .string t] w fun e w' => e = .returned (.bool (letOk l t && substB l)) ∧ Below w.heap.size w w' := by
  have hb0 : Below w.heap.size w (w.alloc (.cells #[.slice A l.length cp] 24)) := (Below.refl _ _).alloc (Nat.le_refl _) _
  have HL := Lib.hid (h.below hb0)
  have HZ := Lib.hid hz
  have HB0 := Lib.hid hb0
  clear h hz hb0
  by_cases h1 : substB l = true
  · have HSB := Lib.hid h1
    by_cases h2 : (decide (t.size = 1) && wordB t) = true
    · have H2 := Lib.hid h2
      rw [Bool.and_eq_true, decide_eq_true_eq] at h2
      have HW := Lib.hid (within_letter h2.1 h2.2 l.length)
      have HWB := Lib.hid h2.2
      clear h1 h2
      go_enter Try.func66, Try.ntmps66
      go_wp2_with fail
      refine (implSubstOk l _ _ HL.out HZ.out hn).mono ?_
      rintro e w1 ⟨rfl, hb1⟩
      rw [HSB.out]
      have HB1 : Hid (Below w.heap.size w w1) := HB0.out.trans (hb1.mono (by simp))
      have c0 : w1.cell? ⟨w.heap.size, 0, none⟩ = some (.slice A l.length cp) := (hb1.cell (p := ⟨w.heap.size, 0, none⟩) (by simp)).trans (by go_simp)
      have hlt1 : w.heap.size < w1.heap.size := by have := hb1.size; simp at this; omega
      clear hb1
      go_wp2_with fail
      refine (implIsLetterWord t _ ht).mono ?_
      rintro e w2 ⟨rfl, hb2⟩
      rw [H2.out]
      have HB2 : Hid (Below w.heap.size w w2) := HB1.out.trans (hb2.mono HB1.out.size)
      have c2 : w2.cell? ⟨w.heap.size, 0, none⟩ = some (.slice A l.length cp) := (hb2.cell (p := ⟨w.heap.size, 0, none⟩) hlt1).trans c0
      clear hb2 c0
      go_wp2_with fail
      refine (implHasImages A l.length cp t _ hn ht).mono ?_
      rintro e w3 ⟨rfl, hb3⟩
      have HB3 : Hid (Below w.heap.size w w3) := HB2.out.trans (hb3.mono HB2.out.size)
      clear hb3
      go_wp2_with fail
      go_ret
      refine ⟨ret_bool ?_, HB3.out⟩
      unfold letOk
      rw [HW.out, H2.out, HSB.out, HWB.out, Bool.and_true, Bool.true_and]
    · have h2' : (decide (t.size = 1) && wordB t) = false := by simpa only [Bool.not_eq_true] using h2
      have H2 := Lib.hid h2'
      clear h1 h2 h2'
      go_enter Try.func66, Try.ntmps66
      go_wp2_with fail
      refine (implSubstOk l _ _ HL.out HZ.out hn).mono ?_
      rintro e w1 ⟨rfl, hb1⟩
      rw [HSB.out]
      have HB1 : Hid (Below w.heap.size w w1) := HB0.out.trans (hb1.mono (by simp))
      clear hb1
      go_wp2_with fail
      refine (implIsLetterWord t _ ht).mono ?_
      rintro e w2 ⟨rfl, hb2⟩
      rw [H2.out]
      have HB2 : Hid (Below w.heap.size w w2) := HB1.out.trans (hb2.mono HB1.out.size)
      clear hb2
      go_wp2_with fail
      go_ret
      refine ⟨ret_bool ?_, HB2.out⟩
      unfold letOk
      rw [H2.out]
      rfl
  · have h1' : substB l = false := by simpa using h1
    have HSB := Lib.hid h1'
    clear h1 h1'
    go_enter Try.func66, Try.ntmps66
    go_wp2_with fail
    refine (implSubstOk l _ _ HL.out HZ.out hn).mono ?_
    rintro e w1 ⟨rfl, hb1⟩
    rw [HSB.out]
    have HB1 : Hid (Below w.heap.size w w1) := HB0.out.trans (hb1.mono (by simp))
    clear hb1
    go_wp2_with fail
    go_ret
    exact ⟨ret_bool (by rw [HSB.out, Bool.and_false]), HB1.out⟩
end Go.Proofs.Ytbbcdeknnfghkaa
