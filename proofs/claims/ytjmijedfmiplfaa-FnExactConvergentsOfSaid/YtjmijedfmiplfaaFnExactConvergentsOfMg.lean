/- FnExactConvergentsOf: for every argument the law returns true and its arguments read as before. No condition. -/
import Derived.Test.YtjmijedfmiplfaaMgA1
import Derived.Test.YtjmijedfmiplfaaMgA2
import Derived.Test.YtjmijedfmiplfaaMgA5
import Derived.Deep.RegionWith
import Derived.Test.YtjmijedfmiplfaaMgA18
namespace Go.Proofs.Ytjmijedfmiplfaa
open Go.ChangeShapes Go.WideShapes Go.ChangeAt Go.RowKit
open Go.ChangeMaps (open_string shut_string)

set_option maxHeartbeats 4000000 in
set_option maxRecDepth 100000 in
theorem fnExactConvergentsOf_walk0 (l0 : List Int) (v0 : Value) (w : World) (q0 : Lst w v0 (ints l0)) (y0 : ∀ z ∈ l0, (Lit.int .i64 z).wf = true) :
    Calls Try.prog 5 #[v0] w fun e w' => e = .returned (.bool true) ∧ Below w.heap.size w w' := by
  obtain ⟨A0, cp0, rfl⟩ := lst_slice q0
  simp only [ints_length] at q0 ⊢
  have hmx0 : l0.length ≤ 9223372036854775807 := by obtain ⟨_, _, e, h1, h2, _⟩ := q0; rw [ints_length] at h1; unfold maxLen at h2; omega
  have HL0 := Lib.hid q0
  have HY0 := Lib.hid y0
  have HW0 := HY0
  clear q0 y0
  have HB : Hid (Below w.heap.size w w) := (Below.refl w.heap.size w)
  have hres0 := cvR_few l0
  have hres1 := cvR_sum l0
  by_cases hn0 : l0.length ≤ 1048576
  · skip
    go_enter Try.func5, Try.ntmps5
    go_wp2_with fail
    refine (toIntS_any l0 _ _ (HL0.out.below HB.out) hn0).mono ?_
    rintro e w1 ⟨vt0, rfl, ho, hb⟩
    obtain ⟨At0, ct0, rfl⟩ := own_slice ho
    have HXt0 : Hid (w1.ownsRow (w.heap.size) 3 1 (.slice At0 (l0).length ct0) (l0).length (ints (l0))) := ho
    have HTt0 : Hid (∀ k, Value.ownBlock (.slice At0 (l0).length ct0) = some k → k < w1.heap.size) := fun k hk => (HXt0.out.lt k hk).2
    replace HB : Hid (Below w.heap.size w w1) := HB.out.trans (hb.mono HB.out.size)
    have hs3 : w.heap.size ≤ w1.heap.size := by have hsz := hb.size; (try simp at hsz); omega
    have HAt0 : Hid (Below w1.heap.size w1 w1) := Below.refl _ _
    clear hb ho
    go_wp2_with fail
    refine (specConvergentsOf l0 _ _ ((Lst.of_own HXt0.out).below HAt0.out)).mono ?_
    rintro e w2 ⟨vw, rfl, ho, hb⟩
    obtain ⟨Aw, cw, rfl⟩ := mat_slice (OwnMat.mat ho)
    have HXw : Hid (OwnMat w2 (w1.heap.size) (w2.heap.size) (.slice Aw (cvR l0).length cw) (cvR l0)) := ho
    replace HB : Hid (Below w.heap.size w w2) := HB.out.trans (hb.mono HB.out.size)
    replace HAt0 : Hid (Below w1.heap.size w1 w2) := HAt0.out.trans (hb.mono HAt0.out.size)
    have hs4 : w1.heap.size ≤ w2.heap.size := by have hsz := hb.size; (try simp at hsz); omega
    have HAw : Hid (Below w2.heap.size w2 w2) := Below.refl _ _
    clear hb ho
    clear HXt0 HAt0 HTt0
    go_wp2_with fail
    refine (toIntS_any l0 _ _ (HL0.out.below HB.out) hn0).mono ?_
    rintro e w3 ⟨vx0, rfl, ho, hb⟩
    obtain ⟨Ax0, cx0, rfl⟩ := own_slice ho
    have HXx0 : Hid (w3.ownsRow (w2.heap.size) 3 1 (.slice Ax0 (l0).length cx0) (l0).length (ints (l0))) := ho
    have HTx0 : Hid (∀ k, Value.ownBlock (.slice Ax0 (l0).length cx0) = some k → k < w3.heap.size) := fun k hk => (HXx0.out.lt k hk).2
    replace HB : Hid (Below w.heap.size w w3) := HB.out.trans (hb.mono HB.out.size)
    replace HAw : Hid (Below w2.heap.size w2 w3) := HAw.out.trans (hb.mono HAw.out.size)
    have hs5 : w2.heap.size ≤ w3.heap.size := by have hsz := hb.size; (try simp at hsz); omega
    have HAx0 : Hid (Below w3.heap.size w3 w3) := Below.refl _ _
    clear hb ho
    go_wp2_with fail
    refine (implConvergentsOf l0 _ _ ((Lst.of_own HXx0.out).below HAx0.out)).mono ?_
    rintro e w4 ⟨vg, rfl, ho, hb⟩
    obtain ⟨Ag, cg, rfl⟩ := mat_slice (OwnMat.mat ho)
    have HXg : Hid (OwnMat w4 (w3.heap.size) (w4.heap.size) (.slice Ag (cvR l0).length cg) (cvR l0)) := ho
    replace HB : Hid (Below w.heap.size w w4) := HB.out.trans (hb.mono HB.out.size)
    replace HAw : Hid (Below w2.heap.size w2 w4) := HAw.out.trans (hb.mono HAw.out.size)
    replace HAx0 : Hid (Below w3.heap.size w3 w4) := HAx0.out.trans (hb.mono HAx0.out.size)
    have hs6 : w3.heap.size ≤ w4.heap.size := by have hsz := hb.size; (try simp at hsz); omega
    have HAg : Hid (Below w4.heap.size w4 w4) := Below.refl _ _
    clear hb ho
    go_wp2_with fail
    refine (eqIntSS_b (cvR l0) _ _ _ (Mat.below (OwnMat.mat HXg.out) HAg.out) (Mat.below (OwnMat.mat HXw.out) HAw.out)).mono ?_
    rintro e w5 ⟨rfl, hb⟩
    replace HB : Hid (Below w.heap.size w w5) := HB.out.trans (hb.mono HB.out.size)
    replace HAw : Hid (Below w2.heap.size w2 w5) := HAw.out.trans (hb.mono HAw.out.size)
    replace HAx0 : Hid (Below w3.heap.size w3 w5) := HAx0.out.trans (hb.mono HAx0.out.size)
    replace HAg : Hid (Below w4.heap.size w4 w5) := HAg.out.trans (hb.mono HAg.out.size)
    have hs7 : w4.heap.size ≤ w5.heap.size := by have hsz := hb.size; (try simp at hsz); omega
    clear hb
    go_wp2_with fail
    refine (toIntS_any l0 _ _ (HL0.out.below HB.out) hn0).mono ?_
    rintro e w6 ⟨vy0, rfl, ho, hb⟩
    obtain ⟨Ay0, cy0, rfl⟩ := own_slice ho
    have HXy0 : Hid (w6.ownsRow (w5.heap.size) 3 1 (.slice Ay0 (l0).length cy0) (l0).length (ints (l0))) := ho
    have HTy0 : Hid (∀ k, Value.ownBlock (.slice Ay0 (l0).length cy0) = some k → k < w6.heap.size) := fun k hk => (HXy0.out.lt k hk).2
    replace HB : Hid (Below w.heap.size w w6) := HB.out.trans (hb.mono HB.out.size)
    replace HAw : Hid (Below w2.heap.size w2 w6) := HAw.out.trans (hb.mono HAw.out.size)
    replace HAx0 : Hid (Below w3.heap.size w3 w6) := HAx0.out.trans (hb.mono HAx0.out.size)
    replace HAg : Hid (Below w4.heap.size w4 w6) := HAg.out.trans (hb.mono HAg.out.size)
    have hs8 : w5.heap.size ≤ w6.heap.size := by have hsz := hb.size; (try simp at hsz); omega
    have HAy0 : Hid (Below w6.heap.size w6 w6) := Below.refl _ _
    clear hb ho
    go_wp2_with fail
    refine (eqIntS_b (l0) _ _ _ ((Lst.of_own HXx0.out).below HAx0.out) ((Lst.of_own HXy0.out).below HAy0.out)).mono ?_
    rintro e w7 ⟨rfl, hb⟩
    replace HB : Hid (Below w.heap.size w w7) := HB.out.trans (hb.mono HB.out.size)
    replace HAw : Hid (Below w2.heap.size w2 w7) := HAw.out.trans (hb.mono HAw.out.size)
    replace HAx0 : Hid (Below w3.heap.size w3 w7) := HAx0.out.trans (hb.mono HAx0.out.size)
    replace HAg : Hid (Below w4.heap.size w4 w7) := HAg.out.trans (hb.mono HAg.out.size)
    replace HAy0 : Hid (Below w6.heap.size w6 w7) := HAy0.out.trans (hb.mono HAy0.out.size)
    have hs9 : w6.heap.size ≤ w7.heap.size := by have hsz := hb.size; (try simp at hsz); omega
    clear hb
    clear HXy0 HAy0 HTy0
    go_wp2_with fail
    refine (markIntS_own (w2.heap.size) _ 1 (l0).length _ _ (by omega) (by omega) (own_below HXx0.out HAx0.out)).mono ?_
    rintro e w8 ⟨rfl, ho, hg⟩
    have hk : KeepsOut (w2.heap.size) (w3.heap.size) w7 w8 := KeepsOut.of_grown hg (fun k hk => ⟨(HXx0.out.lt k hk).1, HTx0.out k hk⟩)
    clear hg
    have hs10 : w7.heap.size ≤ w8.heap.size := by have hsz := hk.size; (try simp at hsz); omega
    replace HXg : Hid (OwnMat w8 (w3.heap.size) (w4.heap.size) (.slice Ag (cvR l0).length cg) (cvR l0)) := OwnMat.keeps (OwnMat.below HXg.out HAg.out) hk (by omega)
    replace HB : Hid (Below w.heap.size w w8) := KeepsOut.below HB.out hk HB.out.size (by omega)
    replace HAw : Hid (Below w2.heap.size w2 w8) := KeepsOut.below HAw.out hk HAw.out.size (by omega)
    replace HAg : Hid (Below w8.heap.size w8 w8) := Below.refl _ _
    clear hk ho HXx0 HAx0
    go_wp2_with fail
    refine (eqIntSS_b (cvR l0) _ _ _ (Mat.below (OwnMat.mat HXg.out) HAg.out) (Mat.below (OwnMat.mat HXw.out) HAw.out)).mono ?_
    rintro e w9 ⟨rfl, hb⟩
    replace HB : Hid (Below w.heap.size w w9) := HB.out.trans (hb.mono HB.out.size)
    replace HAw : Hid (Below w2.heap.size w2 w9) := HAw.out.trans (hb.mono HAw.out.size)
    replace HAg : Hid (Below w8.heap.size w8 w9) := HAg.out.trans (hb.mono HAg.out.size)
    have hs11 : w8.heap.size ≤ w9.heap.size := by have hsz := hb.size; (try simp at hsz); omega
    clear hb
    go_wp2_with fail
    refine (markIntSS_own (w3.heap.size) (w4.heap.size) _ 1 (cvR l0) _ (by omega) (by omega) (by omega) (OwnMat.below HXg.out HAg.out)).mono ?_
    rintro e w10 ⟨rfl, ho, hk⟩
    have hs12 : w9.heap.size ≤ w10.heap.size := by have hsz := hk.size; (try simp at hsz); omega
    replace HB : Hid (Below w.heap.size w w10) := KeepsOut.below HB.out hk HB.out.size (by omega)
    replace HAw : Hid (Below w2.heap.size w2 w10) := KeepsOut.below HAw.out hk HAw.out.size (by omega)
    have HM : Hid (Mat w10 (.slice Ag (cvR l0).length cg) (marksM 1 ((cvR l0).map List.length))) := OwnMat.mat ho
    clear hk ho HXg HAg
    have HAm : Hid (Below w10.heap.size w10 w10) := Below.refl _ _
    go_wp2_with fail
    refine (heldIntSS_b _ 1 ((cvR l0).map List.length) _ (by omega) (by omega) (by simp; omega) (Mat.below HM.out HAm.out)).mono ?_
    rintro e w11 ⟨rfl, hb⟩
    replace HB : Hid (Below w.heap.size w w11) := HB.out.trans (hb.mono HB.out.size)
    replace HAw : Hid (Below w2.heap.size w2 w11) := HAw.out.trans (hb.mono HAw.out.size)
    replace HAm : Hid (Below w10.heap.size w10 w11) := HAm.out.trans (hb.mono HAm.out.size)
    have hs13 : w10.heap.size ≤ w11.heap.size := by have hsz := hb.size; (try simp at hsz); omega
    clear hb
    go_wp2_with fail
    refine (toIntS_any l0 _ _ (HL0.out.below HB.out) hn0).mono ?_
    rintro e w12 ⟨vh0, rfl, ho, hb⟩
    obtain ⟨Ah0, ch0, rfl⟩ := own_slice ho
    have HXh0 : Hid (w12.ownsRow (w11.heap.size) 3 1 (.slice Ah0 (l0).length ch0) (l0).length (ints (l0))) := ho
    have HTh0 : Hid (∀ k, Value.ownBlock (.slice Ah0 (l0).length ch0) = some k → k < w12.heap.size) := fun k hk => (HXh0.out.lt k hk).2
    replace HB : Hid (Below w.heap.size w w12) := HB.out.trans (hb.mono HB.out.size)
    replace HAw : Hid (Below w2.heap.size w2 w12) := HAw.out.trans (hb.mono HAw.out.size)
    replace HAm : Hid (Below w10.heap.size w10 w12) := HAm.out.trans (hb.mono HAm.out.size)
    have hs14 : w11.heap.size ≤ w12.heap.size := by have hsz := hb.size; (try simp at hsz); omega
    have HAh0 : Hid (Below w12.heap.size w12 w12) := Below.refl _ _
    clear hb ho
    go_wp2_with fail
    refine (implConvergentsOf l0 _ _ ((Lst.of_own HXh0.out).below HAh0.out)).mono ?_
    rintro e w13 ⟨vh, rfl, ho, hb⟩
    obtain ⟨Ah, ch, rfl⟩ := mat_slice (OwnMat.mat ho)
    have HXh : Hid (OwnMat w13 (w12.heap.size) (w13.heap.size) (.slice Ah (cvR l0).length ch) (cvR l0)) := ho
    replace HB : Hid (Below w.heap.size w w13) := HB.out.trans (hb.mono HB.out.size)
    replace HAw : Hid (Below w2.heap.size w2 w13) := HAw.out.trans (hb.mono HAw.out.size)
    replace HAm : Hid (Below w10.heap.size w10 w13) := HAm.out.trans (hb.mono HAm.out.size)
    replace HAh0 : Hid (Below w12.heap.size w12 w13) := HAh0.out.trans (hb.mono HAh0.out.size)
    have hs15 : w12.heap.size ≤ w13.heap.size := by have hsz := hb.size; (try simp at hsz); omega
    have HAh : Hid (Below w13.heap.size w13 w13) := Below.refl _ _
    clear hb ho
    clear HXh0 HAh0 HTh0
    go_wp2_with fail
    refine (eqIntSS_b (cvR l0) _ _ _ (Mat.below (OwnMat.mat HXh.out) HAh.out) (Mat.below (OwnMat.mat HXw.out) HAw.out)).mono ?_
    rintro e w14 ⟨rfl, hb⟩
    replace HB : Hid (Below w.heap.size w w14) := HB.out.trans (hb.mono HB.out.size)
    replace HAw : Hid (Below w2.heap.size w2 w14) := HAw.out.trans (hb.mono HAw.out.size)
    replace HAm : Hid (Below w10.heap.size w10 w14) := HAm.out.trans (hb.mono HAm.out.size)
    replace HAh : Hid (Below w13.heap.size w13 w14) := HAh.out.trans (hb.mono HAh.out.size)
    have hs16 : w13.heap.size ≤ w14.heap.size := by have hsz := hb.size; (try simp at hsz); omega
    clear hb
    go_wp2_with fail
    refine (heldIntSS_b _ 1 ((cvR l0).map List.length) _ (by omega) (by omega) (by simp; omega) (Mat.below HM.out HAm.out)).mono ?_
    rintro e w15 ⟨rfl, hb⟩
    replace HB : Hid (Below w.heap.size w w15) := HB.out.trans (hb.mono HB.out.size)
    replace HAw : Hid (Below w2.heap.size w2 w15) := HAw.out.trans (hb.mono HAw.out.size)
    replace HAm : Hid (Below w10.heap.size w10 w15) := HAm.out.trans (hb.mono HAm.out.size)
    replace HAh : Hid (Below w13.heap.size w13 w15) := HAh.out.trans (hb.mono HAh.out.size)
    have hs17 : w14.heap.size ≤ w15.heap.size := by have hsz := hb.size; (try simp at hsz); omega
    clear hb
    go_wp2_with fail
    go_ret
    exact ⟨rfl, HB.out⟩
  · go_enter Try.func5, Try.ntmps5
    go_wp2_with fail
    go_ret
    exact ⟨rfl, HB.out⟩

set_option maxRecDepth 100000 in
theorem fnExactConvergentsOf_walk {H : Type} {enc : TypeId × Value → H} {base : Nat} {r : Reach} {b0 : Nat} {d0 : DataW H} {ps0 : List MemPlace} (v0 : Value) (w : World) (hval0 : Value.okWide Try.prog w r b0 22 v0) (h0 : DataW.Trod enc Try.prog w base (fun _ => true) true 22 v0 d0 ps0) :
    Calls Try.prog 5 #[v0] w fun e w' => e = .returned (.bool true) ∧ Below w.heap.size w w' := by
  obtain ⟨l0, hl0, hz0⟩ := ints_arg Try.underlying22 Try.underlying3 cellsOf_int hval0 h0
  exact fnExactConvergentsOf_walk0 l0 v0 w hl0 hz0

set_option maxRecDepth 100000 in
theorem fnExactConvergentsOf_row (os : Os) (started : os.Started) (H : Type) (enc : TypeId × Value → H) :
    ReturnsInHanded {} Try.checked os 5 .any (Rows.fnExactConvergentsOfSpec.pre6 enc Try.prog Try.f5 Rows.fnExactConvergentsOfRow.domain false) (Rows.fnExactConvergentsOfSpec.post enc Try.prog Try.f5 false true false false) :=
  lawLifted (C := Try.checked) ownKnobs started (by kernel_rfl) Try.func5 laidOut (by kernel_rfl) (by kernel_rfl) Try.underlying4 rfl
    (fun ds h => by match ds, h with | [_], _ => rfl)
    (ChangeSpec.witness6 (enc := enc) (C := Try.checked) false ⟨#[], #[.slice none 0 0], []⟩ 8 (by kernel_rfl) (by kernel_rfl) (by kernel_rfl) (by kernel_rfl))
    (fun W base args ds p hval0 hA0 hlt => by
      have hval : ∀ (j : Nat) t v, Try.f5.params[j]? = some t → args[j]? = some v → Value.okWide Try.prog W .any base t v := hval0
      have hA : DataW.TrodAll enc Try.prog W 0 (fun _ => true) true Try.f5.params.toList args.toList ds p := hA0
      clear hval0 hA0
      rw [Try.params5] at hA hval
      obtain ⟨v0, d0, rfl, rfl, h0⟩ := trodAll_one hA
      exact fnExactConvergentsOf_walk v0 W (hval 0 22 v0 rfl rfl) h0)

theorem fnExactConvergentsOf_holds : Rows.FnExactConvergentsOfSaid :=
  OpenClaim.holds_of_wide 5 Try.f5 rfl rfl rfl rfl rfl rfl rfl ⟨rfl, rfl, rfl, rfl, rfl⟩ rfl rfl rfl rfl rfl (by kernel_rfl) Try.func5 (by kernel_rfl)
    (of_decide_eq_true (by kernel_rfl)) (by unfold Func.isWrapper; first | (rw [if_pos (by decide +kernel)]; kernel_rfl) | (rw [if_neg (by decide +kernel)]; exact ⟨rfl, rfl⟩))
    (fun os started H enc _ => fnExactConvergentsOf_row os started H enc)


end Go.Proofs.Ytjmijedfmiplfaa
