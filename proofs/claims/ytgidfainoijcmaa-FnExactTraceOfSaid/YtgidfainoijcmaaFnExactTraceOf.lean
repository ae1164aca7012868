/- FnExactTraceOf: for every argument the law returns true and its arguments read as before. No condition. -/
import Derived.Test.YtgidfainoijcmaaOwn
import Derived.Test.YtgidfainoijcmaaSubstArgs
import Derived.Test.YtgidfainoijcmaaMatLaw
import Derived.Deep.RegionWith
import Derived.Test.YtgidfainoijcmaaSquare
import Derived.Test.YtgidfainoijcmaaSqE
namespace Go.Proofs.Ytgidfainoijcmaa
open Go.ChangeShapes Go.WideShapes Go.ChangeAt Go.RowKit
open Go.ChangeMaps (open_string shut_string)

set_option maxHeartbeats 4000000 in
set_option maxRecDepth 100000 in
theorem fnExactTraceOf_walk0 (l0 : List (List Int)) (v0 : Value) (w : World) (q0 : Mat w v0 l0) (y0 : ∀ r ∈ l0, ∀ z ∈ r, (Lit.int .i64 z).wf = true) (z0 : l0.length ≤ 9223372036854775807) :
    Calls Try.prog 10 #[v0] w fun e w' => e = .returned (.bool true) ∧ Below w.heap.size w w' := by
  obtain ⟨A0, cp0, rfl⟩ := mat_slice q0
  have HM0 := Lib.hid q0
  have HY0 := Lib.hid y0
  have HW0 := HY0
  clear q0 y0
  have HB : Hid (Below w.heap.size w w) := (Below.refl w.heap.size w)
  go_enter Try.func10, Try.ntmps10
  go_wp2_with fail
  refine (szIntSS_any l0 _ 1048576 _ (HM0.out.below HB.out) (by omega) (by omega) z0).mono ?_
  rintro e w1 ⟨hw, r0, rfl, hr1, hr2, hr3⟩
  have hb : Below w.heap.size w w1 := by rw [← hw]; exact Below.refl _ _
  clear hw
  replace HB : Hid (Below w.heap.size w w1) := HB.out.trans (hb.mono HB.out.size)
  have hs1 : w.heap.size ≤ w1.heap.size := by have hsz := hb.size; (try simp at hsz); omega
  have HR00 := Lib.hid hr3
  clear hb hr3
  by_cases hneg0 : r0 < 0
  · go_wp2_with fail
    go_ret
    exact ⟨rfl, HB.out⟩
  have hge0 : 0 ≤ r0 := by omega
  obtain ⟨hn0, hrr0, hsum0⟩ := szM_use (HR00.out hge0) hge0 (by omega)
  have HR0 := Lib.hid hrr0
  clear hrr0
  have hle0 : r0 ≤ 1048576 := by omega
  clear hr1 hr2
  go_wp2_with fail
  refine (toIntSS_any l0 _ _ (HM0.out.below HB.out) hn0 HR0.out).mono ?_
  rintro e w2 ⟨vt0, rfl, ho, hb⟩
  obtain ⟨At0, ct0, rfl⟩ := mat_slice (OwnMat.mat ho)
  have HXt0 : Hid (OwnMat w2 (w1.heap.size) (w2.heap.size) (.slice At0 (l0).length ct0) (l0)) := ho
  replace HB : Hid (Below w.heap.size w w2) := HB.out.trans (hb.mono HB.out.size)
  have hs2 : w1.heap.size ≤ w2.heap.size := by have hsz := hb.size; (try simp at hsz); omega
  have HAt0 : Hid (Below w2.heap.size w2 w2) := Below.refl _ _
  clear hb ho
  go_wp2_with fail
  refine (specTraceOf l0 _ _ (Mat.below (OwnMat.mat HXt0.out) HAt0.out) hn0 HR0.out).mono ?_
  rintro e w3 ⟨rfl, hb⟩
  replace HB : Hid (Below w.heap.size w w3) := HB.out.trans (hb.mono HB.out.size)
  replace HAt0 : Hid (Below w2.heap.size w2 w3) := HAt0.out.trans (hb.mono HAt0.out.size)
  have hs3 : w2.heap.size ≤ w3.heap.size := by have hsz := hb.size; (try simp at hsz); omega
  clear hb
  clear HXt0 HAt0
  go_wp2_with fail
  refine (toIntSS_any l0 _ _ (HM0.out.below HB.out) hn0 HR0.out).mono ?_
  rintro e w4 ⟨vx0, rfl, ho, hb⟩
  obtain ⟨Ax0, cx0, rfl⟩ := mat_slice (OwnMat.mat ho)
  have HXx0 : Hid (OwnMat w4 (w3.heap.size) (w4.heap.size) (.slice Ax0 (l0).length cx0) (l0)) := ho
  replace HB : Hid (Below w.heap.size w w4) := HB.out.trans (hb.mono HB.out.size)
  have hs4 : w3.heap.size ≤ w4.heap.size := by have hsz := hb.size; (try simp at hsz); omega
  have HAx0 : Hid (Below w4.heap.size w4 w4) := Below.refl _ _
  clear hb ho
  go_wp2_with fail
  refine (implTraceOf l0 _ _ (Mat.below (OwnMat.mat HXx0.out) HAx0.out) hn0 HR0.out).mono ?_
  rintro e w5 ⟨rfl, hb⟩
  replace HB : Hid (Below w.heap.size w w5) := HB.out.trans (hb.mono HB.out.size)
  replace HAx0 : Hid (Below w4.heap.size w4 w5) := HAx0.out.trans (hb.mono HAx0.out.size)
  have hs5 : w4.heap.size ≤ w5.heap.size := by have hsz := hb.size; (try simp at hsz); omega
  clear hb
  go_wp2_with fail
  refine (toIntSS_any l0 _ _ (HM0.out.below HB.out) hn0 HR0.out).mono ?_
  rintro e w6 ⟨vy0, rfl, ho, hb⟩
  obtain ⟨Ay0, cy0, rfl⟩ := mat_slice (OwnMat.mat ho)
  have HXy0 : Hid (OwnMat w6 (w5.heap.size) (w6.heap.size) (.slice Ay0 (l0).length cy0) (l0)) := ho
  replace HB : Hid (Below w.heap.size w w6) := HB.out.trans (hb.mono HB.out.size)
  replace HAx0 : Hid (Below w4.heap.size w4 w6) := HAx0.out.trans (hb.mono HAx0.out.size)
  have hs6 : w5.heap.size ≤ w6.heap.size := by have hsz := hb.size; (try simp at hsz); omega
  have HAy0 : Hid (Below w6.heap.size w6 w6) := Below.refl _ _
  clear hb ho
  go_wp2_with fail
  refine (eqIntSS_b (l0) _ _ _ (Mat.below (OwnMat.mat HXx0.out) HAx0.out) (Mat.below (OwnMat.mat HXy0.out) HAy0.out)).mono ?_
  rintro e w7 ⟨rfl, hb⟩
  replace HB : Hid (Below w.heap.size w w7) := HB.out.trans (hb.mono HB.out.size)
  replace HAx0 : Hid (Below w4.heap.size w4 w7) := HAx0.out.trans (hb.mono HAx0.out.size)
  replace HAy0 : Hid (Below w6.heap.size w6 w7) := HAy0.out.trans (hb.mono HAy0.out.size)
  have hs7 : w6.heap.size ≤ w7.heap.size := by have hsz := hb.size; (try simp at hsz); omega
  clear hb
  clear HXy0 HAy0
  go_wp2_with fail
  go_ret
  exact ⟨rfl, HB.out⟩

set_option maxRecDepth 100000 in
theorem fnExactTraceOf_walk {H : Type} {enc : TypeId × Value → H} {base : Nat} {r : Reach} {b0 : Nat} {d0 : DataW H} {ps0 : List MemPlace} (v0 : Value) (w : World) (hval0 : Value.okWide Try.prog w r b0 27 v0) (h0 : DataW.Trod enc Try.prog w base (fun _ => true) true 27 v0 d0 ps0) :
    Calls Try.prog 10 #[v0] w fun e w' => e = .returned (.bool true) ∧ Below w.heap.size w w' := by
  obtain ⟨l0, hl0, hz0, hx0⟩ := mat_arg Try.underlying27 Try.underlying30 Try.underlying3 (by kernel_rfl) cellsOf_int hval0 h0
  exact fnExactTraceOf_walk0 l0 v0 w hl0 hz0 hx0

set_option maxRecDepth 100000 in
theorem fnExactTraceOf_row (os : Os) (started : os.Started) (H : Type) (enc : TypeId × Value → H) :
    ReturnsInHanded {} Try.checked os 10 .any (Rows.fnExactTraceOfSpec.pre6 enc Try.prog Try.f10 Rows.fnExactTraceOfRow.domain false) (Rows.fnExactTraceOfSpec.post enc Try.prog Try.f10 false true false false) :=
  lawLifted (C := Try.checked) ownKnobs started (by kernel_rfl) Try.func10 laidOut (by kernel_rfl) (by kernel_rfl) Try.underlying4 rfl
    (fun ds h => by match ds, h with | [_], _ => rfl)
    (ChangeSpec.witness6 (enc := enc) (C := Try.checked) false ⟨#[], #[.slice none 0 0], []⟩ 8 (by kernel_rfl) (by kernel_rfl) (by kernel_rfl) (by kernel_rfl))
    (fun W base args ds p hval0 hA0 hlt => by
      have hval : ∀ (j : Nat) t v, Try.f10.params[j]? = some t → args[j]? = some v → Value.okWide Try.prog W .any base t v := hval0
      have hA : DataW.TrodAll enc Try.prog W 0 (fun _ => true) true Try.f10.params.toList args.toList ds p := hA0
      clear hval0 hA0
      rw [Try.params10] at hA hval
      obtain ⟨v0, d0, rfl, rfl, h0⟩ := trodAll_one hA
      exact fnExactTraceOf_walk v0 W (hval 0 27 v0 rfl rfl) h0)

theorem fnExactTraceOf_holds : Rows.FnExactTraceOfSaid :=
  OpenClaim.holds_of_wide 10 Try.f10 rfl rfl rfl rfl rfl rfl rfl ⟨rfl, rfl, rfl, rfl, rfl⟩ rfl rfl rfl rfl rfl (by kernel_rfl) Try.func10 (by kernel_rfl)
    (of_decide_eq_true (by kernel_rfl)) (by unfold Func.isWrapper; first | (rw [if_pos (by decide +kernel)]; kernel_rfl) | (rw [if_neg (by decide +kernel)]; exact ⟨rfl, rfl⟩))
    (fun os started H enc _ => fnExactTraceOf_row os started H enc)


end Go.Proofs.Ytgidfainoijcmaa
