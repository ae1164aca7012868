/- FnMatrices: for every argument the law returns true and its arguments read as before. No condition but the row's own (the library's variable that its row lists). -/
import Derived.Test.YtgidfainoijcmaaMg1
import Derived.Test.YtgidfainoijcmaaMg2
import Derived.Test.YtgidfainoijcmaaMg13
import Derived.Test.YtgidfainoijcmaaMg14
import Derived.Test.YtgidfainoijcmaaMg8
import Derived.Test.YtgidfainoijcmaaMg16
import Derived.Test.YtgidfainoijcmaaMg10
import Derived.Test.YtgidfainoijcmaaMg18
import Derived.Test.YtgidfainoijcmaaMg19
import Derived.Test.YtgidfainoijcmaaMg20
import Derived.Test.YtgidfainoijcmaaMg21
import Derived.Deep.DeepCutAuto
import Derived.Deep.CutBlock
import Derived.Deep.RegionWith
namespace Go.Proofs.Ytgidfainoijcmaa
open Go.ChangeShapes Go.WideShapes Go.ChangeAt Go.RowKit
open Go.ChangeMaps (open_string shut_string)

theorem matC {l : List ByteArray} (hl : substB l = true) (v : Value) (w : World) (h : Lst w v (strs l)) :
    Calls Try.prog 13 #[.agg #[v]] w fun e w' => ∃ v', e = .returned v' ∧ OwnMat w' w.heap.size w'.heap.size v' (matL l) ∧ Below w.heap.size w w' := by
  have h1 := subst_parts hl
  have e : matR l = matL l := if_pos hl
  have := implMatrixOf l v w h (fun x hx => by obtain ⟨k, hk, rfl⟩ := List.mem_iff_getElem.1 hx; have := (img_parts (h1.2.2 k hk)).2.1; omega) (by omega)
  rwa [e] at this
theorem mulC {a b : List (List Int)} (hok : mulOk a b = true) (va vb : Value) (w : World) (h1 : Mat w va a) (h2 : Mat w vb b) :
    Calls Try.prog 16 #[va, vb] w fun e w' => ∃ v, e = .returned (.tuple #[v, .bool true]) ∧ OwnMat w' w.heap.size w'.heap.size v (mulM a b) ∧ Below w.heap.size w w' := by
  have hq := hok
  unfold mulOk at hq
  simp only [Bool.and_eq_true, decide_eq_true_eq] at hq
  obtain ⟨ha, hb, _⟩ := hq
  have pa := sq_parts ha
  have pb := sq_parts hb
  have e : mulR a b = mulM a b := if_pos hok
  have := implMultiplyMatrices a b va vb w h1 h2 (by omega) (fun r hr => by obtain ⟨k, hk, rfl⟩ := List.mem_iff_getElem.1 hr; rw [pa.2.2.1 k hk]; omega) (by omega) (fun r hr => by obtain ⟨k, hk, rfl⟩ := List.mem_iff_getElem.1 hr; rw [pb.2.2.1 k hk]; omega)
  rw [e, hok] at this
  exact this
theorem detC {m : List (List Int)} (hs : sqB m = true) (v : Value) (w : World) (h : Mat w v m) :
    Calls Try.prog 20 #[v] w fun e w' => e = .returned (.int .i64 (detS m.length m)) ∧ Below w.heap.size w w' := by
  have p := sq_parts hs
  have e : detR m = detS m.length m := if_pos hs
  have := implDeterminantOf m v w h (by omega) (fun r hr => by obtain ⟨k, hk, rfl⟩ := List.mem_iff_getElem.1 hr; rw [p.2.2.1 k hk]; omega)
  rwa [e] at this
theorem trC {m : List (List Int)} (hs : sqB m = true) (v : Value) (w : World) (h : Mat w v m) :
    Calls Try.prog 21 #[v] w fun e w' => e = .returned (.int .i64 (trTo m m.length)) ∧ Below w.heap.size w w' := by
  have p := sq_parts hs
  have e : trR m = trTo m m.length := if_pos hs
  have := implTraceOf m v w h (by omega) (fun r hr => by obtain ⟨k, hk, rfl⟩ := List.mem_iff_getElem.1 hr; rw [p.2.2.1 k hk]; omega)
  rwa [e] at this
theorem small_imgs {l : List ByteArray} (hl : substB l = true) : ∀ x ∈ l, x.size ≤ 1048576 := fun x hx => by
  obtain ⟨k, hk, rfl⟩ := List.mem_iff_getElem.1 hx
  have := (img_parts ((subst_parts hl).2.2 k hk)).2.1
  omega

set_option maxHeartbeats 8000000 in
set_option maxRecDepth 100000 in
theorem fnMatrices_walk0 (zs : List Int) (v : Value) (w : World) (mx : Int) (hmx : w.cell? ⟨0, 0, none⟩ = some (.int .i64 mx)) (hl : Lst w v (bytesV zs)) (hzs : ∀ z ∈ zs, 0 ≤ z ∧ z ≤ 255) :
    Calls Try.prog 3 #[v] w fun e w' => e = .returned (.bool true) ∧ Below w.heap.size w w' := by
  have HMX := Lib.hid hmx
  have HLC := Lib.hid hl
  obtain ⟨Ac, cc, rfl, hcc1, hcc2, _⟩ := hl
  rw [bytesV_length] at hcc1 HLC ⊢
  have hmax : zs.length ≤ 9223372036854775807 := by unfold maxLen at hcc2; omega
  clear hmx hcc1 hcc2
  by_cases hlen : ¬ zs.length ≤ 1048576
  · have hgt : 1048576 < zs.length := by omega
    go_enter Try.func3, Try.ntmps3
    go_wp2_with fail
    go_ret
    exact ⟨rfl, Below.refl _ _⟩
  have hlen : zs.length ≤ 1048576 := by omega
  have HZ : Hid (IsBytes zs) := ⟨hlen, hzs⟩
  clear hzs
  go_enter Try.func3, Try.ntmps3
  go_wp2_with fail
  refine (makeSubst_any _ zs 0 _ HZ.out HLC.out (by omega) (by omega)).mono ?_
  rintro e w1 ⟨u, l, rfl, hsb, ho, hb1⟩
  obtain ⟨A, cp, rfl⟩ := own_slice ho
  obtain ⟨hl1, hl4, hl5⟩ := subst_parts hsb
  have HSB := Lib.hid hsb
  have HI := Lib.hid hl5
  have hba : Below w1.heap.size w1 (w1.alloc (.cells #[.slice A l.length cp] 25)) := (Below.refl _ _).alloc (Nat.le_refl _) _
  have HS1 := Lib.hid ((Lst.of_own ho).below hba)
  have HB1 := Lib.hid (hb1.trans (hba.mono hb1.size))
  clear ho hb1 hba hl5 hsb
  go_wp2_with fail
  refine (matC HSB.out _ _ HS1.out).mono ?_
  rintro e w2 ⟨vm, rfl, hom, hb2⟩
  obtain ⟨Am, cm, rfl⟩ := mat_slice hom.mat
  have hml := matL_length l
  rw [hml]
  rw [hml] at hom
  have c2 : w2.cell? ⟨w1.heap.size, 0, none⟩ = some (.slice A l.length cp) := (hb2.cell (p := ⟨w1.heap.size, 0, none⟩) (by simp)).trans (by go_simp)
  have hz2 : w1.heap.size < w2.heap.size := by have := hb2.size; simp at this; omega
  have HS2 := Lib.hid (HS1.out.below hb2)
  have HM2 := Lib.hid hom.mat
  have HB2 := Lib.hid (HB1.out.trans (hb2.mono HB1.out.size))
  have b2 : ((l.length : Int) != (l.length : Int)) = false := by simp
  clear hom hb2 hml
  go_wp2_with fail
  refine (implSubstOk l _ _ HS2.out (small_imgs HSB.out) (by omega)).mono ?_
  rintro e w3 ⟨rfl, hb3⟩
  rw [HSB.out]
  have c3 : w3.cell? ⟨w1.heap.size, 0, none⟩ = some (.slice A l.length cp) := (hb3.cell (p := ⟨w1.heap.size, 0, none⟩) hz2).trans c2
  have hz3 : w1.heap.size < w3.heap.size := by have := hb3.size; omega
  have HS3 := Lib.hid (HS2.out.below hb3)
  have HM3 := Lib.hid (HM2.out.below hb3)
  have HB3 := Lib.hid (HB2.out.trans (hb3.mono HB2.out.size))
  clear hb3 c2
  obtain ⟨b, off, cp', hv, hat⟩ := lst_at HS3.out (by omega)
  injection hv with hA _ hcp
  subst hA; subst hcp
  have HAT := Lib.hid hat
  obtain ⟨bm, om, cm', hvm, hrows⟩ := rect_cells HM3.out (matL_rect l) (by omega)
  injection hvm with hA _ hcp
  subst hA; subst hcp
  have HROWS := Lib.hid hrows
  clear hat hrows
  go_upto_block 0 with (fail)
  go_cut [8] (fun _ wx => wx = w3)
  case first =>
    go_wp2_with fail
    go_loop [49] (fun i => ∃ k : Nat, k ≤ l.length ∧ i = .int .i64 k) (fun i => l.length - (intOf i).toNat)
    case atStart => exact ⟨0, by omega, rfl⟩
    case round =>
      obtain ⟨k, hk, rfl⟩ := hrel
      by_cases hlt : k < l.length
      · have g1 := HAT.out k hlt
        have hs8 := (img_parts (HI.out k hlt)).2.1
        have HCS := Lib.hid (colSum_small HSB.out k hlt)
        have bk : ((l[k].size : Int) != (l[k].size : Int)) = false := by simp
        have HCE := Lib.hid (colSum_size HSB.out k hlt)
        go_wp2_with fail
        go_loop [8, 56] (fun t i => ∃ q : Nat, q ≤ l.length ∧ i = .int .i64 q ∧ t = .int .i64 (colSum (matL l) k q)) (fun _ i => l.length - (intOf i).toNat)
        case atStart => exact ⟨0, by omega, rfl, rfl⟩
        case round =>
          obtain ⟨q, hq, rfl, rfl⟩ := hrel
          obtain ⟨t1, t2⟩ := HCS.out q hq
          by_cases hltq : q < l.length
          · obtain ⟨b3, o3, c3', r1, r2⟩ := HROWS.out q hltq
            have r3 := r2 k hlt
            obtain ⟨s1, s2⟩ := matL_small HSB.out q k hltq hlt
            clear r2
            go_wp2_with fail
            go_round
            case rel => exact ⟨q + 1, by omega, by go_num, rfl⟩
            case measure => simp [intOf]; omega
          · have hql : q = l.length := by omega
            have e1 : colSum (matL l) k q = (l[k].size : Int) := by rw [hql]; exact HCE.out
            rw [e1]
            clear hql t1 t2 e1
            go_wp2_with fail
            go_round
            case rel => exact ⟨k + 1, by omega, by go_num⟩
            case measure => simp [intOf]; omega
      · go_wp2_with fail
        go_meet
        exact rfl
  case rest =>
    subst hcut
    go_wp2_with fail
    refine (implComposeSubst l l _ _ _ HS3.out HS3.out (small_imgs HSB.out) (small_imgs HSB.out) (by omega) (by omega)).mono ?_
    rintro e w4 ⟨uq, rfl, hoq, hb4⟩
    obtain ⟨Aq, cq, rfl⟩ := own_slice hoq
    have hb4a : Below w4.heap.size w4 (w4.alloc (.cells #[.slice Aq (compSub l l).length cq] 25)) := (Below.refl _ _).alloc (Nat.le_refl _) _
    have HQ4 := Lib.hid ((Lst.of_own hoq).below hb4a)
    have HA4 := Lib.hid (hb4.trans (hb4a.mono hb4.size))
    have hz4 : w1.heap.size < w4.heap.size := by have := hb4.size; omega
    have HM4 := Lib.hid (HM3.out.below HA4.out)
    clear hoq hb4 hb4a
    have HMO : Hid (mulOk (matL l) (matL l) = true) := by show mulOk _ _ = true; unfold mulOk; rw [matL_sq HSB.out]; simp
    go_wp2_with fail
    refine (mulC HMO.out _ _ _ HM4.out HM4.out).mono ?_
    rintro e w5 ⟨vp, rfl, hop, hb5⟩
    obtain ⟨Ap, cpp, rfl⟩ := mat_slice hop.mat
    have hpl : (mulM (matL l) (matL l)).length = l.length := by rw [mulM_length, matL_length]
    have HP5 := Lib.hid hop.mat
    rw [hpl]
    have HA5 := Lib.hid (HA4.out.trans (hb5.mono HA4.out.size))
    have c5 : w5.cell? ⟨w4.heap.size, 0, none⟩ = some (.slice Aq (compSub l l).length cq) := (hb5.cell (p := ⟨w4.heap.size, 0, none⟩) (by simp)).trans (by go_simp)
    have HQ5 := Lib.hid (HQ4.out.below hb5)
    have HBW5 := Lib.hid (HB3.out.trans (HA5.out.mono HB3.out.size))
    have hz5 : w4.heap.size < w5.heap.size := by have := hb5.size; simp at this; omega
    clear hop hb5 hpl HQ4
    go_upto_if 101 with (fail)
    go_cut [11] (fun _ wx => Below w5.heap.size w5 wx)
    case first =>
      by_cases hok : compOk l l = true
      · have hcs : compSub l l = compR l l := if_pos hok
        have hcv : substB (compR l l) = true := by unfold compOk at hok; rw [Bool.and_eq_true] at hok; exact hok.2
        have HCL : Hid ((compR l l).length = l.length) := by show (compR l l).length = l.length; simp [compR]
        have HCV := Lib.hid hcv
        rw [hok]
        rw [hcs] at c5 HQ5 ⊢
        clear hok hcs hcv
        go_wp2_with fail
        refine (matC HCV.out _ _ HQ5.out).mono ?_
        rintro e w6 ⟨vr, rfl, hor, hb6⟩
        obtain ⟨Ar, cr, rfl⟩ := mat_slice hor.mat
        have hmr := hor.mat
        rw [comp_mul HSB.out] at hmr
        have hrl : (matL (compR l l)).length = l.length := by rw [matL_length]; exact HCL.out
        rw [hrl]
        have hmm : (mulM (matL l) (matL l)).length = l.length := by rw [mulM_length, matL_length]
        rw [hmm] at hmr
        have HB6 := Lib.hid hb6
        have hpr := HP5.out.below hb6
        obtain ⟨bp, op, cpq, hvp, _, _, hrp⟩ := mat_rows hpr (by omega)
        obtain ⟨br, or, crq, hvr, _, _, hrr⟩ := mat_rows hmr (by omega)
        injection hvp with hA hq1 hcp
        subst hA; subst hcp
        injection hvr with hA hq2 hcp
        subst hA; subst hcp
        clear hq1 hq2
        have HRP := Lib.hid hrp
        have HRR := Lib.hid hrr
        have HMM := Lib.hid hmm
        clear hor hb6 hmr hpr hrp hrr hmm hrl c5
        go_wp2_with fail
        go_loop [106] (fun i => ∃ k : Nat, k ≤ l.length ∧ i = .int .i64 k) (fun i => l.length - (intOf i).toNat)
        case atStart => exact ⟨0, by omega, rfl⟩
        case round =>
          obtain ⟨k, hk, rfl⟩ := hrel
          by_cases hltp : k < l.length
          · have hkm : k < (mulM (matL l) (matL l)).length := by rw [HMM.out]; exact hltp
            obtain ⟨u1, g1, l1⟩ := HRP.out k hkm
            obtain ⟨u2, g2, l2⟩ := HRR.out k hkm
            have L1 := Lib.hid l1
            have L2 := Lib.hid l2
            obtain ⟨U1, d1, rfl⟩ := lst_slice l1
            obtain ⟨U2, d2, rfl⟩ := lst_slice l2
            have dk : decide ((l.length : Int) ≤ (k : Int)) = false := by simp; omega
            clear l1 l2
            go_wp2_with fail
            refine (same_ints _ _ _ _ L1.out L2.out).mono ?_
            rintro e w' ⟨rfl, rfl⟩
            go_wp2_with fail
            go_round
            case rel => exact ⟨k + 1, by omega, by go_num⟩
            case measure => simp [intOf]; omega
          · skip
            go_wp2_with fail
            go_meet
            exact HB6.out
      · have hok' : compOk l l = false := by simpa using hok
        rw [hok']
        clear hok hok'
        go_wp2_with fail
        go_meet
        exact Below.refl _ _
    case rest =>
      obtain ⟨wt, rfl⟩ : ∃ x : World, x = wc := ⟨_, rfl⟩
      have HTA := Lib.hid (HA5.out.trans (hcut.mono HA5.out.size))
      have HTB := Lib.hid (HBW5.out.trans (hcut.mono HBW5.out.size))
      clear hcut
      have c6 : wt.cell? ⟨w1.heap.size, 0, none⟩ = some (.slice (some ⟨b, off, none⟩) l.length cp) := (HTA.out.cell (p := ⟨w1.heap.size, 0, none⟩) hz3).trans c3
      have hz6 : w1.heap.size < wt.heap.size := by have := HTA.out.size; omega
      go_wp2_with fail
      refine (makeSize_any _ zs 40 _ HZ.out (HLC.out.below HTB.out) (by omega) (by omega)).mono ?_
      rintro e w7 ⟨x, rfl, x1, x3, hb7⟩
      obtain ⟨n, rfl⟩ := Int.eq_ofNat_of_zero_le (show 0 ≤ x by omega)
      have hn1 : 1 ≤ n := by omega
      have hn3 : n ≤ 3 := by omega
      have HA7 := Lib.hid (HTA.out.trans (hb7.mono HTA.out.size))
      have HB7 := Lib.hid (HTB.out.trans (hb7.mono HTB.out.size))
      clear hb7 x1 x3
      go_wp2_with fail
      refine (makeMatrix_any _ zs 41 n _ HZ.out (HLC.out.below HB7.out) (by omega) (by omega) (by omega)).mono ?_
      rintro e w8 ⟨va, a, rfl, hsa, hoa, hb8⟩
      obtain ⟨Aa, ca, rfl⟩ := mat_slice hoa.mat
      have HSA := Lib.hid hsa
      have hla := hsa.1
      rw [hla]
      have HMA8 := Lib.hid hoa.mat
      rw [hla] at HMA8
      have HLA := Lib.hid hla
      have HA8 := Lib.hid (HA7.out.trans (hb8.mono HA7.out.size))
      have HB8 := Lib.hid (HB7.out.trans (hb8.mono HB7.out.size))
      clear hsa hoa hb8 hla
      go_wp2_with fail
      refine (makeMatrix_any _ zs 60 n _ HZ.out (HLC.out.below HB8.out) (by omega) (by omega) (by omega)).mono ?_
      rintro e w9 ⟨vb, bq, rfl, hsb2, hob, hb9⟩
      obtain ⟨Ab, cbb, rfl⟩ := mat_slice hob.mat
      have HSB2 := Lib.hid hsb2
      have hlb := hsb2.1
      rw [hlb]
      have HMB9 := Lib.hid hob.mat
      rw [hlb] at HMB9
      have HLB := Lib.hid hlb
      have HMA9 := Lib.hid (HMA8.out.below hb9)
      have HA9 := Lib.hid (HA8.out.trans (hb9.mono HA8.out.size))
      have HB9 := Lib.hid (HB8.out.trans (hb9.mono HB8.out.size))
      clear hsb2 hob hb9 hlb
      have HQA := Lib.hid (small_sq HSA.out hn1 (by omega))
      have HQB := Lib.hid (small_sq HSB2.out hn1 (by omega))
      have HQC := Lib.hid (mul_small HSA.out HSB2.out hn1 hn3)
      have HQD := Lib.hid (mul_small HSB2.out HSA.out hn1 hn3)
      have HOAB : Hid (mulOk a bq = true) := by show mulOk a bq = true; unfold mulOk; rw [HQA.out, HQB.out, HLA.out, HLB.out]; simp
      have HOBA : Hid (mulOk bq a = true) := by show mulOk bq a = true; unfold mulOk; rw [HQA.out, HQB.out, HLA.out, HLB.out]; simp
      have HLCC : Hid ((mulM a bq).length = n) := by show (mulM a bq).length = n; rw [mulM_length]; exact HLA.out
      have HLDD : Hid ((mulM bq a).length = n) := by show (mulM bq a).length = n; rw [mulM_length]; exact HLB.out
      have HRA := Lib.hid (rect_of_small HSA.out)
      have HRB := Lib.hid (rect_of_small HSB2.out)
      have hda := det_bound n a ⟨HRA.out.1, HRA.out.2, fun i k hi hk => by have := small_at2 HSA.out i k hi hk; omega⟩
      have hdb := det_bound n bq ⟨HRB.out.1, HRB.out.2, fun i k hi hk => by have := small_at2 HSB2.out i k hi hk; omega⟩
      have hdm := detMax_le hn3
      have hpr := mul_bound (x := detS n a) (y := detS n bq) (B := 6000000) (C := 6000000) (by omega) (by omega)
      obtain ⟨p1, p2⟩ := hpr
      clear hda hdb hdm
      have e1 : (detS n (mulM a bq) != detS n a * detS n bq) = false := by rw [det_mul HRA.out HRB.out hn1 hn3]; simp
      have e2 : (trTo (mulM a bq) n != trTo (mulM bq a) n) = false := by rw [trace_mul HRA.out HRB.out hn3]; simp
      have e3 : (detS n (mulM bq a) != detS n (mulM a bq)) = false := by rw [det_mul HRA.out HRB.out hn1 hn3, det_mul HRB.out HRA.out hn1 hn3, Int.mul_comm]; simp
      go_wp2_with fail
      refine (mulC HOAB.out _ _ _ HMA9.out HMB9.out).mono ?_
      rintro e w10 ⟨vc, rfl, hoc, hb10⟩
      obtain ⟨Ac2, cc2, rfl⟩ := mat_slice hoc.mat
      rw [HLCC.out]
      have HMC10 := Lib.hid hoc.mat
      rw [HLCC.out] at HMC10
      have HMA10 := Lib.hid (HMA9.out.below hb10)
      have HMB10 := Lib.hid (HMB9.out.below hb10)
      have HA10 := Lib.hid (HA9.out.trans (hb10.mono HA9.out.size))
      have HB10 := Lib.hid (HB9.out.trans (hb10.mono HB9.out.size))
      clear hoc hb10
      go_wp2_with fail
      refine (mulC HOBA.out _ _ _ HMB10.out HMA10.out).mono ?_
      rintro e w11 ⟨vd, rfl, hod, hb11⟩
      obtain ⟨Ad, cd, rfl⟩ := mat_slice hod.mat
      rw [HLDD.out]
      have HMD11 := Lib.hid hod.mat
      rw [HLDD.out] at HMD11
      have HMA11 := Lib.hid (HMA10.out.below hb11)
      have HMB11 := Lib.hid (HMB10.out.below hb11)
      have HMC11 := Lib.hid (HMC10.out.below hb11)
      have HA11 := Lib.hid (HA10.out.trans (hb11.mono HA10.out.size))
      have HB11 := Lib.hid (HB10.out.trans (hb11.mono HB10.out.size))
      clear hod hb11
      go_wp2_with fail
      refine (detC HQC.out _ _ HMC11.out).mono ?_
      rintro e w12 ⟨rfl, hb12⟩
      rw [HLCC.out]
      have HMA12 := Lib.hid (HMA11.out.below hb12)
      have HMB12 := Lib.hid (HMB11.out.below hb12)
      have HMC12 := Lib.hid (HMC11.out.below hb12)
      have HMD12 := Lib.hid (HMD11.out.below hb12)
      have HA12 := Lib.hid (HA11.out.trans (hb12.mono HA11.out.size))
      have HB12 := Lib.hid (HB11.out.trans (hb12.mono HB11.out.size))
      clear hb12
      go_wp2_with fail
      refine (detC HQA.out _ _ HMA12.out).mono ?_
      rintro e w13 ⟨rfl, hb13⟩
      rw [HLA.out]
      have HMB13 := Lib.hid (HMB12.out.below hb13)
      have HMC13 := Lib.hid (HMC12.out.below hb13)
      have HMD13 := Lib.hid (HMD12.out.below hb13)
      have HA13 := Lib.hid (HA12.out.trans (hb13.mono HA12.out.size))
      have HB13 := Lib.hid (HB12.out.trans (hb13.mono HB12.out.size))
      clear hb13
      go_wp2_with fail
      refine (detC HQB.out _ _ HMB13.out).mono ?_
      rintro e w14 ⟨rfl, hb14⟩
      rw [HLB.out]
      have HMC14 := Lib.hid (HMC13.out.below hb14)
      have HMD14 := Lib.hid (HMD13.out.below hb14)
      have HA14 := Lib.hid (HA13.out.trans (hb14.mono HA13.out.size))
      have HB14 := Lib.hid (HB13.out.trans (hb14.mono HB13.out.size))
      clear hb14
      go_wp2_with fail
      refine (trC HQC.out _ _ HMC14.out).mono ?_
      rintro e w15 ⟨rfl, hb15⟩
      rw [HLCC.out]
      have HMC15 := Lib.hid (HMC14.out.below hb15)
      have HMD15 := Lib.hid (HMD14.out.below hb15)
      have HA15 := Lib.hid (HA14.out.trans (hb15.mono HA14.out.size))
      have HB15 := Lib.hid (HB14.out.trans (hb15.mono HB14.out.size))
      clear hb15
      go_wp2_with fail
      refine (trC HQD.out _ _ HMD15.out).mono ?_
      rintro e w16 ⟨rfl, hb16⟩
      rw [HLDD.out]
      have HMC16 := Lib.hid (HMC15.out.below hb16)
      have HMD16 := Lib.hid (HMD15.out.below hb16)
      have HA16 := Lib.hid (HA15.out.trans (hb16.mono HA15.out.size))
      have HB16 := Lib.hid (HB15.out.trans (hb16.mono HB15.out.size))
      clear hb16
      go_wp2_with fail
      refine (detC HQD.out _ _ HMD16.out).mono ?_
      rintro e w17 ⟨rfl, hb17⟩
      rw [HLDD.out]
      have HMC17 := Lib.hid (HMC16.out.below hb17)
      have HA17 := Lib.hid (HA16.out.trans (hb17.mono HA16.out.size))
      have HB17 := Lib.hid (HB16.out.trans (hb17.mono HB16.out.size))
      clear hb17
      go_wp2_with fail
      refine (detC HQC.out _ _ HMC17.out).mono ?_
      rintro e w18 ⟨rfl, hb18⟩
      rw [HLCC.out]
      have HA18 := Lib.hid (HA17.out.trans (hb18.mono HA17.out.size))
      have HB18 := Lib.hid (HB17.out.trans (hb18.mono HB17.out.size))
      clear hb18
      have c18 : w18.cell? ⟨w1.heap.size, 0, none⟩ = some (.slice (some ⟨b, off, none⟩) l.length cp) := (HA18.out.cell (p := ⟨w1.heap.size, 0, none⟩) hz3).trans c3
      have hz18 : w1.heap.size < w18.heap.size := by have := HA18.out.size; omega
      clear c6 hz6
      go_wp2_with fail
      refine (implIsPrimitiveSubst l _ _ (HS3.out.below HA18.out) (small_imgs HSB.out) (by omega)).mono ?_
      rintro e w19 ⟨rfl, hb19⟩
      have HA19 := Lib.hid (HA18.out.trans (hb19.mono HA18.out.size))
      have HB19 := Lib.hid (HB18.out.trans (hb19.mono HB18.out.size))
      clear hb19 c18 hz18
      by_cases hp : primR l = true
      · have HP := Lib.hid hp
        rw [hp]
        clear hp
        go_wp2_with fail
        go_loopw [25] (fun i w' => ∃ k : Nat, k ≤ l.length ∧ i = .int .i64 k ∧ Below w19.heap.size w19 w') (fun i _ => l.length - (intOf i).toNat)
        case atStart => exact ⟨0, by omega, rfl, Below.refl _ _⟩
        case round =>
          obtain ⟨k, hk, rfl, hbr⟩ := hrel
          have HA20 := Lib.hid (HA19.out.trans (hbr.mono HA19.out.size))
          have HB20 := Lib.hid (HB19.out.trans (hbr.mono HB19.out.size))
          have HBR := Lib.hid hbr
          have c20 : wr.cell? ⟨w1.heap.size, 0, none⟩ = some (.slice (some ⟨b, off, none⟩) l.length cp) := (HA20.out.cell (p := ⟨w1.heap.size, 0, none⟩) hz3).trans c3
          have hz20 : w1.heap.size < wr.heap.size := by have := HA20.out.size; omega
          clear hbr
          by_cases hltk : k < l.length
          · have hsl : ∀ w : World, (Instr.slice 9 (.string ⟨#[97, 98, 99, 100]⟩) (some (.int .i64 (k : Int))) (some (.int .i64 ((k : Int) + 1))) none).run Try.prog w = .ok (.string (oneL k)) w := fun w => letterN_slice Try.prog Try.underlying9 k (by omega) w
            have hup : ∀ w : World, (Instr.slice 9 (.string ⟨#[97, 98, 99, 100]⟩) none (some (.int .i64 (l.length : Int))) none).run Try.prog w = .ok (.string ((⟨#[97, 98, 99, 100]⟩ : ByteArray).extract 0 l.length)) w := fun w => letters_upto Try.prog Try.underlying9 l.length hl4 w
            have hwk : IntKind.i64.wrap ((k : Int) + 1) = (k : Int) + 1 := IntWalk.i64_in _ (by omega)
            go_wp2_with fail
            go_region_with (go_at_call 23
                            refine (implReachedBy l _ (oneL k) _ ((HS3.out.below HA20.out).drewN 1) (small_imgs HSB.out) (by omega) (by rw [oneL_size]; omega)).mono ?_
                            rintro e w21 ⟨rfl, hb21⟩)
            all_goals
              have HR21 : Hid (Below wr.heap.size wr w21) := (below_drewN (Below.refl _ _) 1).trans (hb21.mono (Nat.le_refl _))
              have HBR2 := Lib.hid (HBR.out.trans (HR21.out.mono HBR.out.size))
              have HB21 := Lib.hid (HB20.out.trans (HR21.out.mono HB20.out.size))
              have hmx21 : Hid (w21.cell? ⟨0, 0, none⟩ = some (.int .i64 mx)) := (HB21.out.cell (World.block_lt_of_cell? w _ HMX.out)).trans HMX.out
              have HHAS := Lib.hid (reach_has HSB.out hltk)
              have hrs := reach_size HSB.out hltk
              have bf : ((reachR l (oneL k)).toList != ((⟨#[97, 98, 99, 100]⟩ : ByteArray).extract 0 l.length).toList) = false := by rw [reach_full HSB.out HP.out hltk]; simp
              have bf2 : ((reachR l (oneL k)).toList == ((⟨#[97, 98, 99, 100]⟩ : ByteArray).extract 0 l.length).toList) = true := by rw [reach_full HSB.out HP.out hltk]; simp
              have drs : decide ((l.length : Int) < ((reachR l (oneL k)).size : Int)) = false := by simp; omega
              clear hb21
              go_wp2_with fail
              refine (implIsFactor (reachR l (oneL k)) (oneL k) mx _ hmx21.out (by omega) (by rw [oneL_size]; omega)).mono ?_
              rintro e w22 ⟨rfl, hb22⟩
              rw [HHAS.out]
              have HBR3 := Lib.hid (HBR2.out.trans (hb22.mono HBR2.out.size))
              clear hb22
              go_wp2_with fail
              go_roundw
              case rel => exact ⟨k + 1, by omega, by go_num, HBR3.out⟩
              case measure => simp [intOf]; omega
          · go_wp2_with fail
            refine (implReachedBy l _ ⟨#[101]⟩ _ (HS3.out.below HA20.out) (small_imgs HSB.out) (by omega) (by decide)).mono ?_
            rintro e w21 ⟨rfl, hb21⟩
            rw [reachR_e]
            have HB21 := Lib.hid (HB20.out.trans (hb21.mono HB20.out.size))
            clear hb21
            go_wp2_with fail
            go_ret
            exact ⟨rfl, HB21.out⟩
      · have hp' : primR l = false := by simpa using hp
        rw [hp']
        clear hp hp'
        go_wp2_with fail
        go_loopw [25] (fun i w' => ∃ k : Nat, k ≤ l.length ∧ i = .int .i64 k ∧ Below w19.heap.size w19 w') (fun i _ => l.length - (intOf i).toNat)
        case atStart => exact ⟨0, by omega, rfl, Below.refl _ _⟩
        case round =>
          obtain ⟨k, hk, rfl, hbr⟩ := hrel
          have HA20 := Lib.hid (HA19.out.trans (hbr.mono HA19.out.size))
          have HB20 := Lib.hid (HB19.out.trans (hbr.mono HB19.out.size))
          have HBR := Lib.hid hbr
          have c20 : wr.cell? ⟨w1.heap.size, 0, none⟩ = some (.slice (some ⟨b, off, none⟩) l.length cp) := (HA20.out.cell (p := ⟨w1.heap.size, 0, none⟩) hz3).trans c3
          have hz20 : w1.heap.size < wr.heap.size := by have := HA20.out.size; omega
          clear hbr
          by_cases hltk : k < l.length
          · have hsl : ∀ w : World, (Instr.slice 9 (.string ⟨#[97, 98, 99, 100]⟩) (some (.int .i64 (k : Int))) (some (.int .i64 ((k : Int) + 1))) none).run Try.prog w = .ok (.string (oneL k)) w := fun w => letterN_slice Try.prog Try.underlying9 k (by omega) w
            have hup : ∀ w : World, (Instr.slice 9 (.string ⟨#[97, 98, 99, 100]⟩) none (some (.int .i64 (l.length : Int))) none).run Try.prog w = .ok (.string ((⟨#[97, 98, 99, 100]⟩ : ByteArray).extract 0 l.length)) w := fun w => letters_upto Try.prog Try.underlying9 l.length hl4 w
            have hwk : IntKind.i64.wrap ((k : Int) + 1) = (k : Int) + 1 := IntWalk.i64_in _ (by omega)
            go_wp2_with fail
            go_region_with (go_at_call 23
                            refine (implReachedBy l _ (oneL k) _ ((HS3.out.below HA20.out).drewN 1) (small_imgs HSB.out) (by omega) (by rw [oneL_size]; omega)).mono ?_
                            rintro e w21 ⟨rfl, hb21⟩)
            all_goals
              have HR21 : Hid (Below wr.heap.size wr w21) := (below_drewN (Below.refl _ _) 1).trans (hb21.mono (Nat.le_refl _))
              have HBR2 := Lib.hid (HBR.out.trans (HR21.out.mono HBR.out.size))
              have HB21 := Lib.hid (HB20.out.trans (HR21.out.mono HB20.out.size))
              have hmx21 : Hid (w21.cell? ⟨0, 0, none⟩ = some (.int .i64 mx)) := (HB21.out.cell (World.block_lt_of_cell? w _ HMX.out)).trans HMX.out
              have HHAS := Lib.hid (reach_has HSB.out hltk)
              have hrs := reach_size HSB.out hltk
              have drs : decide ((l.length : Int) < ((reachR l (oneL k)).size : Int)) = false := by simp; omega
              clear hb21
              go_wp2_with fail
              refine (implIsFactor (reachR l (oneL k)) (oneL k) mx _ hmx21.out (by omega) (by rw [oneL_size]; omega)).mono ?_
              rintro e w22 ⟨rfl, hb22⟩
              rw [HHAS.out]
              have HBR3 := Lib.hid (HBR2.out.trans (hb22.mono HBR2.out.size))
              clear hb22
              go_wp2_with fail
              go_roundw
              case rel => exact ⟨k + 1, by omega, by go_num, HBR3.out⟩
              case measure => simp [intOf]; omega
          · go_wp2_with fail
            refine (implReachedBy l _ ⟨#[101]⟩ _ (HS3.out.below HA20.out) (small_imgs HSB.out) (by omega) (by decide)).mono ?_
            rintro e w21 ⟨rfl, hb21⟩
            rw [reachR_e]
            have HB21 := Lib.hid (HB20.out.trans (hb21.mono HB20.out.size))
            clear hb21
            go_wp2_with fail
            go_ret
            exact ⟨rfl, HB21.out⟩

set_option maxRecDepth 100000 in
theorem fnMatrices_walk {H : Type} {enc : TypeId × Value → H} {base : Nat} {r : Reach} {b0 : Nat} {d0 : DataW H} {ps0 : List MemPlace} (v0 : Value) (w : World) (m : Int) (hm : w.cell? ⟨0, 0, none⟩ = some (.int .i64 m)) (hval0 : Value.okWide Try.prog w r b0 22 v0) (h0 : DataW.Trod enc Try.prog w base (fun _ => true) true 22 v0 d0 ps0) :
    Calls Try.prog 3 #[v0] w fun e w' => e = .returned (.bool true) ∧ Below w.heap.size w w' := by
  obtain ⟨zs, hl, hz⟩ := bytes_arg Try.underlying22 Try.underlying5 (by kernel_rfl) hval0 h0
  exact fnMatrices_walk0 zs v0 w m hm hl hz

set_option maxRecDepth 100000 in
theorem fnMatrices_row (os : Os) (started : os.Started) (H : Type) (enc : TypeId × Value → H) :
    ReturnsInHanded {} Try.checked os 3 .any (Rows.fnMatricesSpec.pre6 enc Try.prog Try.f3 Rows.fnMatricesRow.domain false) (Rows.fnMatricesSpec.post enc Try.prog Try.f3 false true false false) :=
  lawLiftedS (C := Try.checked) ownKnobs started (by kernel_rfl) Try.func3 laidOut (by kernel_rfl) (by kernel_rfl) Try.underlying4 rfl
    (fun ds h => by match ds, h with | [_], _ => rfl)
    (ChangeSpec.witness6 (enc := enc) (C := Try.checked) false ⟨#[], #[.slice none 0 0], []⟩ 8 (by kernel_rfl) (by kernel_rfl) (by kernel_rfl) (by kernel_rfl))
    (fun W base args ds p hsh hval0 hA0 hlt => by
      have hval : ∀ (j : Nat) t v, Try.f3.params[j]? = some t → args[j]? = some v → Value.okWide Try.prog W .any base t v := hval0
      have hA : DataW.TrodAll enc Try.prog W 0 (fun _ => true) true Try.f3.params.toList args.toList ds p := hA0
      clear hval0 hA0
      rw [Try.params3] at hA hval
      obtain ⟨v0, d0, rfl, rfl, h0⟩ := trodAll_one hA
      obtain ⟨m, hm⟩ := Try.laysM144.s1_3 W hsh
      exact fnMatrices_walk v0 W m hm (hval 0 22 v0 rfl rfl) h0)

theorem fnMatrices_holds : Rows.FnMatricesSaid :=
  OpenClaim.holds_of_wide 3 Try.f3 rfl rfl rfl rfl rfl rfl rfl ⟨rfl, rfl, rfl, rfl, rfl⟩ rfl rfl rfl rfl rfl (by kernel_rfl) Try.func3 (by kernel_rfl)
    (of_decide_eq_true (by kernel_rfl)) (by unfold Func.isWrapper; first | (rw [if_pos (by decide +kernel)]; kernel_rfl) | (rw [if_neg (by decide +kernel)]; exact ⟨rfl, rfl⟩))
    (fun os started H enc _ => fnMatrices_row os started H enc)

end Go.Proofs.Ytgidfainoijcmaa
