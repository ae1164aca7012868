/- FnExactMultiplyMatrices: for every argument the law returns true and its arguments read as before. No condition. -/
import Derived.Test.YtgidfainoijcmaaOwn
import Derived.Test.YtgidfainoijcmaaSubstArgs
import Derived.Test.YtgidfainoijcmaaMatLaw
import Derived.Deep.RegionWith
import Derived.Test.YtgidfainoijcmaaMult
import Derived.Test.YtgidfainoijcmaaSqF
namespace Go.Proofs.Ytgidfainoijcmaa
open Go.ChangeShapes Go.WideShapes Go.ChangeAt Go.RowKit
open Go.ChangeMaps (open_string shut_string)

set_option maxHeartbeats 4000000 in
set_option maxRecDepth 100000 in
theorem fnExactMultiplyMatrices_walk0 (l0 : List (List Int)) (v0 : Value) (l1 : List (List Int)) (v1 : Value) (w : World) (q0 : Mat w v0 l0) (y0 : ∀ r ∈ l0, ∀ z ∈ r, (Lit.int .i64 z).wf = true) (z0 : l0.length ≤ 9223372036854775807) (q1 : Mat w v1 l1) (y1 : ∀ r ∈ l1, ∀ z ∈ r, (Lit.int .i64 z).wf = true) (z1 : l1.length ≤ 9223372036854775807) :
    Calls Try.prog 11 #[v0, v1] w fun e w' => e = .returned (.bool true) ∧ Below w.heap.size w w' := by
  obtain ⟨A0, cp0, rfl⟩ := mat_slice q0
  obtain ⟨A1, cp1, rfl⟩ := mat_slice q1
  have HM0 := Lib.hid q0
  have HY0 := Lib.hid y0
  have HW0 := HY0
  have HM1 := Lib.hid q1
  have HY1 := Lib.hid y1
  have HW1 := HY1
  clear q0 y0 q1 y1
  have HB : Hid (Below w.heap.size w w) := (Below.refl w.heap.size w)
  have hres0 := mulR_le l0 l1
  have hres1 := mulR_sum l0 l1
  go_enter Try.func11, Try.ntmps11
  go_wp2_with fail
  refine (szIntSS_any l0 _ 1048576 _ (HM0.out.below HB.out) (by omega) (by omega) z0).mono ?_
  rintro e w1 ⟨hw, r0, rfl, hr1, hr2, hr3⟩
  have hb : Below w.heap.size w w1 := by rw [← hw]; exact Below.refl _ _
  clear hw
  replace HB : Hid (Below w.heap.size w w1) := HB.out.trans (hb.mono HB.out.size)
  have hs3 : w.heap.size ≤ w1.heap.size := by have hsz := hb.size; (try simp at hsz); omega
  have HR00 := Lib.hid hr3
  clear hb hr3
  by_cases hneg0 : r0 < 0
  · go_wp2_with fail
    go_ret
    exact ⟨rfl, HB.out⟩
  have hge0 : 0 ≤ r0 := by omega
  obtain ⟨hn0, hrr0, hsum0⟩ := szM_use (HR00.out hge0) hge0 (by omega)
  have HR0 := Lib.hid hrr0
  clear hrr0
  have hle0 : r0 ≤ 1048576 := by omega
  clear hr1 hr2
  go_wp2_with fail
  refine (szIntSS_any l1 _ r0 _ (HM1.out.below HB.out) (by omega) (by omega) z1).mono ?_
  rintro e w2 ⟨hw, r1, rfl, hr1, hr2, hr3⟩
  have hb : Below w1.heap.size w1 w2 := by rw [← hw]; exact Below.refl _ _
  clear hw
  replace HB : Hid (Below w.heap.size w w2) := HB.out.trans (hb.mono HB.out.size)
  have hs4 : w1.heap.size ≤ w2.heap.size := by have hsz := hb.size; (try simp at hsz); omega
  have HR01 := Lib.hid hr3
  clear hb hr3
  by_cases hneg1 : r1 < 0
  · go_wp2_with fail
    go_ret
    exact ⟨rfl, HB.out⟩
  have hge1 : 0 ≤ r1 := by omega
  obtain ⟨hn1, hrr1, hsum1⟩ := szM_use (HR01.out hge1) hge1 (by omega)
  have HR1 := Lib.hid hrr1
  clear hrr1
  have hle1 : r1 ≤ 1048576 := by omega
  clear hr1 hr2
  go_wp2_with fail
  refine (toIntSS_any l0 _ _ (HM0.out.below HB.out) hn0 HR0.out).mono ?_
  rintro e w3 ⟨vt0, rfl, ho, hb⟩
  obtain ⟨At0, ct0, rfl⟩ := mat_slice (OwnMat.mat ho)
  have HXt0 : Hid (OwnMat w3 (w2.heap.size) (w3.heap.size) (.slice At0 (l0).length ct0) (l0)) := ho
  replace HB : Hid (Below w.heap.size w w3) := HB.out.trans (hb.mono HB.out.size)
  have hs5 : w2.heap.size ≤ w3.heap.size := by have hsz := hb.size; (try simp at hsz); omega
  have HAt0 : Hid (Below w3.heap.size w3 w3) := Below.refl _ _
  clear hb ho
  go_wp2_with fail
  refine (toIntSS_any l1 _ _ (HM1.out.below HB.out) hn1 HR1.out).mono ?_
  rintro e w4 ⟨vt1, rfl, ho, hb⟩
  obtain ⟨At1, ct1, rfl⟩ := mat_slice (OwnMat.mat ho)
  have HXt1 : Hid (OwnMat w4 (w3.heap.size) (w4.heap.size) (.slice At1 (l1).length ct1) (l1)) := ho
  replace HB : Hid (Below w.heap.size w w4) := HB.out.trans (hb.mono HB.out.size)
  replace HAt0 : Hid (Below w3.heap.size w3 w4) := HAt0.out.trans (hb.mono HAt0.out.size)
  have hs6 : w3.heap.size ≤ w4.heap.size := by have hsz := hb.size; (try simp at hsz); omega
  have HAt1 : Hid (Below w4.heap.size w4 w4) := Below.refl _ _
  clear hb ho
  go_wp2_with fail
  refine (specMultiplyMatrices l0 l1 _ _ _ (Mat.below (OwnMat.mat HXt0.out) HAt0.out) (Mat.below (OwnMat.mat HXt1.out) HAt1.out) hn0 HR0.out hn1 HR1.out).mono ?_
  rintro e w5 ⟨vw, rfl, ho, hb⟩
  obtain ⟨Aw, cw, rfl⟩ := mat_slice (OwnMat.mat ho)
  have HXw : Hid (OwnMat w5 (w4.heap.size) (w5.heap.size) (.slice Aw (mulR l0 l1).length cw) (mulR l0 l1)) := ho
  replace HB : Hid (Below w.heap.size w w5) := HB.out.trans (hb.mono HB.out.size)
  replace HAt0 : Hid (Below w3.heap.size w3 w5) := HAt0.out.trans (hb.mono HAt0.out.size)
  replace HAt1 : Hid (Below w4.heap.size w4 w5) := HAt1.out.trans (hb.mono HAt1.out.size)
  have hs7 : w4.heap.size ≤ w5.heap.size := by have hsz := hb.size; (try simp at hsz); omega
  have HAw : Hid (Below w5.heap.size w5 w5) := Below.refl _ _
  clear hb ho
  clear HXt0 HAt0
  clear HXt1 HAt1
  go_wp2_with fail
  refine (toIntSS_any l0 _ _ (HM0.out.below HB.out) hn0 HR0.out).mono ?_
  rintro e w6 ⟨vx0, rfl, ho, hb⟩
  obtain ⟨Ax0, cx0, rfl⟩ := mat_slice (OwnMat.mat ho)
  have HXx0 : Hid (OwnMat w6 (w5.heap.size) (w6.heap.size) (.slice Ax0 (l0).length cx0) (l0)) := ho
  replace HB : Hid (Below w.heap.size w w6) := HB.out.trans (hb.mono HB.out.size)
  replace HAw : Hid (Below w5.heap.size w5 w6) := HAw.out.trans (hb.mono HAw.out.size)
  have hs8 : w5.heap.size ≤ w6.heap.size := by have hsz := hb.size; (try simp at hsz); omega
  have HAx0 : Hid (Below w6.heap.size w6 w6) := Below.refl _ _
  clear hb ho
  go_wp2_with fail
  refine (toIntSS_any l1 _ _ (HM1.out.below HB.out) hn1 HR1.out).mono ?_
  rintro e w7 ⟨vx1, rfl, ho, hb⟩
  obtain ⟨Ax1, cx1, rfl⟩ := mat_slice (OwnMat.mat ho)
  have HXx1 : Hid (OwnMat w7 (w6.heap.size) (w7.heap.size) (.slice Ax1 (l1).length cx1) (l1)) := ho
  replace HB : Hid (Below w.heap.size w w7) := HB.out.trans (hb.mono HB.out.size)
  replace HAw : Hid (Below w5.heap.size w5 w7) := HAw.out.trans (hb.mono HAw.out.size)
  replace HAx0 : Hid (Below w6.heap.size w6 w7) := HAx0.out.trans (hb.mono HAx0.out.size)
  have hs9 : w6.heap.size ≤ w7.heap.size := by have hsz := hb.size; (try simp at hsz); omega
  have HAx1 : Hid (Below w7.heap.size w7 w7) := Below.refl _ _
  clear hb ho
  go_wp2_with fail
  refine (implMultiplyMatrices l0 l1 _ _ _ (Mat.below (OwnMat.mat HXx0.out) HAx0.out) (Mat.below (OwnMat.mat HXx1.out) HAx1.out) hn0 HR0.out hn1 HR1.out).mono ?_
  rintro e w8 ⟨vg, rfl, ho, hb⟩
  obtain ⟨Ag, cg, rfl⟩ := mat_slice (OwnMat.mat ho)
  have HXg : Hid (OwnMat w8 (w7.heap.size) (w8.heap.size) (.slice Ag (mulR l0 l1).length cg) (mulR l0 l1)) := ho
  replace HB : Hid (Below w.heap.size w w8) := HB.out.trans (hb.mono HB.out.size)
  replace HAw : Hid (Below w5.heap.size w5 w8) := HAw.out.trans (hb.mono HAw.out.size)
  replace HAx0 : Hid (Below w6.heap.size w6 w8) := HAx0.out.trans (hb.mono HAx0.out.size)
  replace HAx1 : Hid (Below w7.heap.size w7 w8) := HAx1.out.trans (hb.mono HAx1.out.size)
  have hs10 : w7.heap.size ≤ w8.heap.size := by have hsz := hb.size; (try simp at hsz); omega
  have HAg : Hid (Below w8.heap.size w8 w8) := Below.refl _ _
  clear hb ho
  go_wp2_with fail
  refine (eqIntSS_b (mulR l0 l1) _ _ _ (Mat.below (OwnMat.mat HXg.out) HAg.out) (Mat.below (OwnMat.mat HXw.out) HAw.out)).mono ?_
  rintro e w9 ⟨rfl, hb⟩
  replace HB : Hid (Below w.heap.size w w9) := HB.out.trans (hb.mono HB.out.size)
  replace HAw : Hid (Below w5.heap.size w5 w9) := HAw.out.trans (hb.mono HAw.out.size)
  replace HAx0 : Hid (Below w6.heap.size w6 w9) := HAx0.out.trans (hb.mono HAx0.out.size)
  replace HAx1 : Hid (Below w7.heap.size w7 w9) := HAx1.out.trans (hb.mono HAx1.out.size)
  replace HAg : Hid (Below w8.heap.size w8 w9) := HAg.out.trans (hb.mono HAg.out.size)
  have hs11 : w8.heap.size ≤ w9.heap.size := by have hsz := hb.size; (try simp at hsz); omega
  clear hb
  go_wp2_with fail
  refine (toIntSS_any l0 _ _ (HM0.out.below HB.out) hn0 HR0.out).mono ?_
  rintro e w10 ⟨vy0, rfl, ho, hb⟩
  obtain ⟨Ay0, cy0, rfl⟩ := mat_slice (OwnMat.mat ho)
  have HXy0 : Hid (OwnMat w10 (w9.heap.size) (w10.heap.size) (.slice Ay0 (l0).length cy0) (l0)) := ho
  replace HB : Hid (Below w.heap.size w w10) := HB.out.trans (hb.mono HB.out.size)
  replace HAw : Hid (Below w5.heap.size w5 w10) := HAw.out.trans (hb.mono HAw.out.size)
  replace HAx0 : Hid (Below w6.heap.size w6 w10) := HAx0.out.trans (hb.mono HAx0.out.size)
  replace HAx1 : Hid (Below w7.heap.size w7 w10) := HAx1.out.trans (hb.mono HAx1.out.size)
  replace HAg : Hid (Below w8.heap.size w8 w10) := HAg.out.trans (hb.mono HAg.out.size)
  have hs12 : w9.heap.size ≤ w10.heap.size := by have hsz := hb.size; (try simp at hsz); omega
  have HAy0 : Hid (Below w10.heap.size w10 w10) := Below.refl _ _
  clear hb ho
  go_wp2_with fail
  refine (eqIntSS_b (l0) _ _ _ (Mat.below (OwnMat.mat HXx0.out) HAx0.out) (Mat.below (OwnMat.mat HXy0.out) HAy0.out)).mono ?_
  rintro e w11 ⟨rfl, hb⟩
  replace HB : Hid (Below w.heap.size w w11) := HB.out.trans (hb.mono HB.out.size)
  replace HAw : Hid (Below w5.heap.size w5 w11) := HAw.out.trans (hb.mono HAw.out.size)
  replace HAx0 : Hid (Below w6.heap.size w6 w11) := HAx0.out.trans (hb.mono HAx0.out.size)
  replace HAx1 : Hid (Below w7.heap.size w7 w11) := HAx1.out.trans (hb.mono HAx1.out.size)
  replace HAg : Hid (Below w8.heap.size w8 w11) := HAg.out.trans (hb.mono HAg.out.size)
  replace HAy0 : Hid (Below w10.heap.size w10 w11) := HAy0.out.trans (hb.mono HAy0.out.size)
  have hs13 : w10.heap.size ≤ w11.heap.size := by have hsz := hb.size; (try simp at hsz); omega
  clear hb
  clear HXy0 HAy0
  go_wp2_with fail
  refine (toIntSS_any l1 _ _ (HM1.out.below HB.out) hn1 HR1.out).mono ?_
  rintro e w12 ⟨vy1, rfl, ho, hb⟩
  obtain ⟨Ay1, cy1, rfl⟩ := mat_slice (OwnMat.mat ho)
  have HXy1 : Hid (OwnMat w12 (w11.heap.size) (w12.heap.size) (.slice Ay1 (l1).length cy1) (l1)) := ho
  replace HB : Hid (Below w.heap.size w w12) := HB.out.trans (hb.mono HB.out.size)
  replace HAw : Hid (Below w5.heap.size w5 w12) := HAw.out.trans (hb.mono HAw.out.size)
  replace HAx0 : Hid (Below w6.heap.size w6 w12) := HAx0.out.trans (hb.mono HAx0.out.size)
  replace HAx1 : Hid (Below w7.heap.size w7 w12) := HAx1.out.trans (hb.mono HAx1.out.size)
  replace HAg : Hid (Below w8.heap.size w8 w12) := HAg.out.trans (hb.mono HAg.out.size)
  have hs14 : w11.heap.size ≤ w12.heap.size := by have hsz := hb.size; (try simp at hsz); omega
  have HAy1 : Hid (Below w12.heap.size w12 w12) := Below.refl _ _
  clear hb ho
  go_wp2_with fail
  refine (eqIntSS_b (l1) _ _ _ (Mat.below (OwnMat.mat HXx1.out) HAx1.out) (Mat.below (OwnMat.mat HXy1.out) HAy1.out)).mono ?_
  rintro e w13 ⟨rfl, hb⟩
  replace HB : Hid (Below w.heap.size w w13) := HB.out.trans (hb.mono HB.out.size)
  replace HAw : Hid (Below w5.heap.size w5 w13) := HAw.out.trans (hb.mono HAw.out.size)
  replace HAx0 : Hid (Below w6.heap.size w6 w13) := HAx0.out.trans (hb.mono HAx0.out.size)
  replace HAx1 : Hid (Below w7.heap.size w7 w13) := HAx1.out.trans (hb.mono HAx1.out.size)
  replace HAg : Hid (Below w8.heap.size w8 w13) := HAg.out.trans (hb.mono HAg.out.size)
  replace HAy1 : Hid (Below w12.heap.size w12 w13) := HAy1.out.trans (hb.mono HAy1.out.size)
  have hs15 : w12.heap.size ≤ w13.heap.size := by have hsz := hb.size; (try simp at hsz); omega
  clear hb
  clear HXy1 HAy1
  go_wp2_with fail
  refine (markIntSS_own (w5.heap.size) (w6.heap.size) _ 1 (l0) _ (by omega) (by omega) (by omega) (OwnMat.below HXx0.out HAx0.out)).mono ?_
  rintro e w14 ⟨rfl, ho, hk⟩
  have hs16 : w13.heap.size ≤ w14.heap.size := by have hsz := hk.size; (try simp at hsz); omega
  replace HXx1 : Hid (OwnMat w14 (w6.heap.size) (w7.heap.size) (.slice Ax1 (l1).length cx1) (l1)) := OwnMat.keeps (OwnMat.below HXx1.out HAx1.out) hk (by omega)
  replace HXg : Hid (OwnMat w14 (w7.heap.size) (w8.heap.size) (.slice Ag (mulR l0 l1).length cg) (mulR l0 l1)) := OwnMat.keeps (OwnMat.below HXg.out HAg.out) hk (by omega)
  replace HB : Hid (Below w.heap.size w w14) := KeepsOut.below HB.out hk HB.out.size (by omega)
  replace HAw : Hid (Below w5.heap.size w5 w14) := KeepsOut.below HAw.out hk HAw.out.size (by omega)
  replace HAx1 : Hid (Below w14.heap.size w14 w14) := Below.refl _ _
  replace HAg : Hid (Below w14.heap.size w14 w14) := Below.refl _ _
  clear hk ho HXx0 HAx0
  go_wp2_with fail
  refine (markIntSS_own (w6.heap.size) (w7.heap.size) _ (1 + ((sumN ((l0).map List.length) : Nat) : Int)) (l1) _ (by omega) (by omega) (by omega) (OwnMat.below HXx1.out HAx1.out)).mono ?_
  rintro e w15 ⟨rfl, ho, hk⟩
  have hs17 : w14.heap.size ≤ w15.heap.size := by have hsz := hk.size; (try simp at hsz); omega
  replace HXg : Hid (OwnMat w15 (w7.heap.size) (w8.heap.size) (.slice Ag (mulR l0 l1).length cg) (mulR l0 l1)) := OwnMat.keeps (OwnMat.below HXg.out HAg.out) hk (by omega)
  replace HB : Hid (Below w.heap.size w w15) := KeepsOut.below HB.out hk HB.out.size (by omega)
  replace HAw : Hid (Below w5.heap.size w5 w15) := KeepsOut.below HAw.out hk HAw.out.size (by omega)
  replace HAg : Hid (Below w15.heap.size w15 w15) := Below.refl _ _
  clear hk ho HXx1 HAx1
  go_wp2_with fail
  refine (eqIntSS_b (mulR l0 l1) _ _ _ (Mat.below (OwnMat.mat HXg.out) HAg.out) (Mat.below (OwnMat.mat HXw.out) HAw.out)).mono ?_
  rintro e w16 ⟨rfl, hb⟩
  replace HB : Hid (Below w.heap.size w w16) := HB.out.trans (hb.mono HB.out.size)
  replace HAw : Hid (Below w5.heap.size w5 w16) := HAw.out.trans (hb.mono HAw.out.size)
  replace HAg : Hid (Below w15.heap.size w15 w16) := HAg.out.trans (hb.mono HAg.out.size)
  have hs18 : w15.heap.size ≤ w16.heap.size := by have hsz := hb.size; (try simp at hsz); omega
  clear hb
  go_wp2_with fail
  refine (markIntSS_own (w7.heap.size) (w8.heap.size) _ 1 (mulR l0 l1) _ (by omega) (by omega) (by omega) (OwnMat.below HXg.out HAg.out)).mono ?_
  rintro e w17 ⟨rfl, ho, hk⟩
  have hs19 : w16.heap.size ≤ w17.heap.size := by have hsz := hk.size; (try simp at hsz); omega
  replace HB : Hid (Below w.heap.size w w17) := KeepsOut.below HB.out hk HB.out.size (by omega)
  replace HAw : Hid (Below w5.heap.size w5 w17) := KeepsOut.below HAw.out hk HAw.out.size (by omega)
  have HM : Hid (Mat w17 (.slice Ag (mulR l0 l1).length cg) (marksM 1 ((mulR l0 l1).map List.length))) := OwnMat.mat ho
  clear hk ho HXg HAg
  have HAm : Hid (Below w17.heap.size w17 w17) := Below.refl _ _
  go_wp2_with fail
  refine (heldIntSS_b _ 1 ((mulR l0 l1).map List.length) _ (by omega) (by omega) (by simp; omega) (Mat.below HM.out HAm.out)).mono ?_
  rintro e w18 ⟨rfl, hb⟩
  replace HB : Hid (Below w.heap.size w w18) := HB.out.trans (hb.mono HB.out.size)
  replace HAw : Hid (Below w5.heap.size w5 w18) := HAw.out.trans (hb.mono HAw.out.size)
  replace HAm : Hid (Below w17.heap.size w17 w18) := HAm.out.trans (hb.mono HAm.out.size)
  have hs20 : w17.heap.size ≤ w18.heap.size := by have hsz := hb.size; (try simp at hsz); omega
  clear hb
  go_wp2_with fail
  refine (toIntSS_any l0 _ _ (HM0.out.below HB.out) hn0 HR0.out).mono ?_
  rintro e w19 ⟨vh0, rfl, ho, hb⟩
  obtain ⟨Ah0, ch0, rfl⟩ := mat_slice (OwnMat.mat ho)
  have HXh0 : Hid (OwnMat w19 (w18.heap.size) (w19.heap.size) (.slice Ah0 (l0).length ch0) (l0)) := ho
  replace HB : Hid (Below w.heap.size w w19) := HB.out.trans (hb.mono HB.out.size)
  replace HAw : Hid (Below w5.heap.size w5 w19) := HAw.out.trans (hb.mono HAw.out.size)
  replace HAm : Hid (Below w17.heap.size w17 w19) := HAm.out.trans (hb.mono HAm.out.size)
  have hs21 : w18.heap.size ≤ w19.heap.size := by have hsz := hb.size; (try simp at hsz); omega
  have HAh0 : Hid (Below w19.heap.size w19 w19) := Below.refl _ _
  clear hb ho
  go_wp2_with fail
  refine (toIntSS_any l1 _ _ (HM1.out.below HB.out) hn1 HR1.out).mono ?_
  rintro e w20 ⟨vh1, rfl, ho, hb⟩
  obtain ⟨Ah1, ch1, rfl⟩ := mat_slice (OwnMat.mat ho)
  have HXh1 : Hid (OwnMat w20 (w19.heap.size) (w20.heap.size) (.slice Ah1 (l1).length ch1) (l1)) := ho
  replace HB : Hid (Below w.heap.size w w20) := HB.out.trans (hb.mono HB.out.size)
  replace HAw : Hid (Below w5.heap.size w5 w20) := HAw.out.trans (hb.mono HAw.out.size)
  replace HAm : Hid (Below w17.heap.size w17 w20) := HAm.out.trans (hb.mono HAm.out.size)
  replace HAh0 : Hid (Below w19.heap.size w19 w20) := HAh0.out.trans (hb.mono HAh0.out.size)
  have hs22 : w19.heap.size ≤ w20.heap.size := by have hsz := hb.size; (try simp at hsz); omega
  have HAh1 : Hid (Below w20.heap.size w20 w20) := Below.refl _ _
  clear hb ho
  go_wp2_with fail
  refine (implMultiplyMatrices l0 l1 _ _ _ (Mat.below (OwnMat.mat HXh0.out) HAh0.out) (Mat.below (OwnMat.mat HXh1.out) HAh1.out) hn0 HR0.out hn1 HR1.out).mono ?_
  rintro e w21 ⟨vh, rfl, ho, hb⟩
  obtain ⟨Ah, ch, rfl⟩ := mat_slice (OwnMat.mat ho)
  have HXh : Hid (OwnMat w21 (w20.heap.size) (w21.heap.size) (.slice Ah (mulR l0 l1).length ch) (mulR l0 l1)) := ho
  replace HB : Hid (Below w.heap.size w w21) := HB.out.trans (hb.mono HB.out.size)
  replace HAw : Hid (Below w5.heap.size w5 w21) := HAw.out.trans (hb.mono HAw.out.size)
  replace HAm : Hid (Below w17.heap.size w17 w21) := HAm.out.trans (hb.mono HAm.out.size)
  replace HAh0 : Hid (Below w19.heap.size w19 w21) := HAh0.out.trans (hb.mono HAh0.out.size)
  replace HAh1 : Hid (Below w20.heap.size w20 w21) := HAh1.out.trans (hb.mono HAh1.out.size)
  have hs23 : w20.heap.size ≤ w21.heap.size := by have hsz := hb.size; (try simp at hsz); omega
  have HAh : Hid (Below w21.heap.size w21 w21) := Below.refl _ _
  clear hb ho
  clear HXh0 HAh0
  clear HXh1 HAh1
  go_wp2_with fail
  refine (eqIntSS_b (mulR l0 l1) _ _ _ (Mat.below (OwnMat.mat HXh.out) HAh.out) (Mat.below (OwnMat.mat HXw.out) HAw.out)).mono ?_
  rintro e w22 ⟨rfl, hb⟩
  replace HB : Hid (Below w.heap.size w w22) := HB.out.trans (hb.mono HB.out.size)
  replace HAw : Hid (Below w5.heap.size w5 w22) := HAw.out.trans (hb.mono HAw.out.size)
  replace HAm : Hid (Below w17.heap.size w17 w22) := HAm.out.trans (hb.mono HAm.out.size)
  replace HAh : Hid (Below w21.heap.size w21 w22) := HAh.out.trans (hb.mono HAh.out.size)
  have hs24 : w21.heap.size ≤ w22.heap.size := by have hsz := hb.size; (try simp at hsz); omega
  clear hb
  go_wp2_with fail
  refine (heldIntSS_b _ 1 ((mulR l0 l1).map List.length) _ (by omega) (by omega) (by simp; omega) (Mat.below HM.out HAm.out)).mono ?_
  rintro e w23 ⟨rfl, hb⟩
  replace HB : Hid (Below w.heap.size w w23) := HB.out.trans (hb.mono HB.out.size)
  replace HAw : Hid (Below w5.heap.size w5 w23) := HAw.out.trans (hb.mono HAw.out.size)
  replace HAm : Hid (Below w17.heap.size w17 w23) := HAm.out.trans (hb.mono HAm.out.size)
  replace HAh : Hid (Below w21.heap.size w21 w23) := HAh.out.trans (hb.mono HAh.out.size)
  have hs25 : w22.heap.size ≤ w23.heap.size := by have hsz := hb.size; (try simp at hsz); omega
  clear hb
  go_wp2_with fail
  go_ret
  exact ⟨rfl, HB.out⟩

set_option maxRecDepth 100000 in
theorem fnExactMultiplyMatrices_walk {H : Type} {enc : TypeId × Value → H} {base : Nat} {r : Reach} {b0 : Nat} {d0 : DataW H} {ps0 : List MemPlace} (v0 : Value) {d1 : DataW H} {ps1 : List MemPlace} (v1 : Value) (w : World) (hval0 : Value.okWide Try.prog w r b0 27 v0) (h0 : DataW.Trod enc Try.prog w base (fun _ => true) true 27 v0 d0 ps0) (hval1 : Value.okWide Try.prog w r b0 27 v1) (h1 : DataW.Trod enc Try.prog w base (fun _ => true) true 27 v1 d1 ps1) :
    Calls Try.prog 11 #[v0, v1] w fun e w' => e = .returned (.bool true) ∧ Below w.heap.size w w' := by
  obtain ⟨l0, hl0, hz0, hx0⟩ := mat_arg Try.underlying27 Try.underlying30 Try.underlying3 (by kernel_rfl) cellsOf_int hval0 h0
  obtain ⟨l1, hl1, hz1, hx1⟩ := mat_arg Try.underlying27 Try.underlying30 Try.underlying3 (by kernel_rfl) cellsOf_int hval1 h1
  exact fnExactMultiplyMatrices_walk0 l0 v0 l1 v1 w hl0 hz0 hx0 hl1 hz1 hx1

set_option maxRecDepth 100000 in
theorem fnExactMultiplyMatrices_row (os : Os) (started : os.Started) (H : Type) (enc : TypeId × Value → H) :
    ReturnsInHanded {} Try.checked os 11 .any (Rows.fnExactMultiplyMatricesSpec.pre6 enc Try.prog Try.f11 Rows.fnExactMultiplyMatricesRow.domain false) (Rows.fnExactMultiplyMatricesSpec.post enc Try.prog Try.f11 false true false false) :=
  lawLifted (C := Try.checked) ownKnobs started (by kernel_rfl) Try.func11 laidOut (by kernel_rfl) (by kernel_rfl) Try.underlying4 rfl
    (fun ds h => by match ds, h with | [_, _], _ => rfl)
    (ChangeSpec.witness6 (enc := enc) (C := Try.checked) false ⟨#[], #[.slice none 0 0, .slice none 0 0], []⟩ 8 (by kernel_rfl) (by kernel_rfl) (by kernel_rfl) (by kernel_rfl))
    (fun W base args ds p hval0 hA0 hlt => by
      have hval : ∀ (j : Nat) t v, Try.f11.params[j]? = some t → args[j]? = some v → Value.okWide Try.prog W .any base t v := hval0
      have hA : DataW.TrodAll enc Try.prog W 0 (fun _ => true) true Try.f11.params.toList args.toList ds p := hA0
      clear hval0 hA0
      rw [Try.params11] at hA hval
      obtain ⟨v0, v1, d0, d1, p0, p1, rfl, rfl, rfl, h0, h1⟩ := trodAll_two hA
      exact fnExactMultiplyMatrices_walk v0 v1 W (hval 0 27 v0 rfl rfl) h0 (hval 1 27 v1 rfl rfl) h1)

theorem fnExactMultiplyMatrices_holds : Rows.FnExactMultiplyMatricesSaid :=
  OpenClaim.holds_of_wide 11 Try.f11 rfl rfl rfl rfl rfl rfl rfl ⟨rfl, rfl, rfl, rfl, rfl⟩ rfl rfl rfl rfl rfl (by kernel_rfl) Try.func11 (by kernel_rfl)
    (of_decide_eq_true (by kernel_rfl)) (by unfold Func.isWrapper; first | (rw [if_pos (by decide +kernel)]; kernel_rfl) | (rw [if_neg (by decide +kernel)]; exact ⟨rfl, rfl⟩))
    (fun os started H enc _ => fnExactMultiplyMatrices_row os started H enc)


end Go.Proofs.Ytgidfainoijcmaa
