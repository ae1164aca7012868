/- FnExactQuotientsOf: for every argument the law returns true and its arguments read as before. No condition. -/
import Derived.Test.YtjmijedfmiplfaaMgA1
import Derived.Test.YtjmijedfmiplfaaMgA2
import Derived.Test.YtjmijedfmiplfaaMgA5
import Derived.Deep.RegionWith
import Derived.Test.YtjmijedfmiplfaaMgA16
import Derived.Test.YtjmijedfmiplfaaMgA17
namespace Go.Proofs.Ytjmijedfmiplfaa
open Go.ChangeShapes Go.WideShapes Go.ChangeAt Go.RowKit
open Go.ChangeMaps (open_string shut_string)

set_option maxHeartbeats 4000000 in
set_option maxRecDepth 100000 in
theorem fnExactQuotientsOf_walk0 (a0 : Int) (a1 : Int) (w : World) (_ : (Lit.int .i64 a0).wf = true) (_ : (Lit.int .i64 a1).wf = true) :
    Calls Try.prog 3 #[.int .i64 a0, .int .i64 a1] w fun e w' => e = .returned (.bool true) ∧ Below w.heap.size w w' := by
  have HB : Hid (Below w.heap.size w w) := (Below.refl w.heap.size w)
  have hres0 := quR_len a0 a1
  go_enter Try.func3, Try.ntmps3
  go_wp2_with fail
  refine (specQuotientsOf a0 a1 _).mono ?_
  rintro e w1 ⟨vw, rfl, ho, hb⟩
  obtain ⟨Aw, cw, rfl⟩ := own_slice ho
  have HXw : Hid (w1.ownsRow (w.heap.size) 3 1 (.slice Aw (quR a0 a1).length cw) (quR a0 a1).length (ints (quR a0 a1))) := ho
  have HTw : Hid (∀ k, Value.ownBlock (.slice Aw (quR a0 a1).length cw) = some k → k < w1.heap.size) := fun k hk => (HXw.out.lt k hk).2
  replace HB : Hid (Below w.heap.size w w1) := HB.out.trans (hb.mono HB.out.size)
  have hs2 : w.heap.size ≤ w1.heap.size := by have hsz := hb.size; (try simp at hsz); omega
  have HAw : Hid (Below w1.heap.size w1 w1) := Below.refl _ _
  clear hb ho
  go_wp2_with fail
  refine (implQuotientsOf a0 a1 _).mono ?_
  rintro e w2 ⟨vg, rfl, ho, hb⟩
  obtain ⟨Ag, cg, rfl⟩ := own_slice ho
  have HXg : Hid (w2.ownsRow (w1.heap.size) 3 1 (.slice Ag (quR a0 a1).length cg) (quR a0 a1).length (ints (quR a0 a1))) := ho
  have HTg : Hid (∀ k, Value.ownBlock (.slice Ag (quR a0 a1).length cg) = some k → k < w2.heap.size) := fun k hk => (HXg.out.lt k hk).2
  replace HB : Hid (Below w.heap.size w w2) := HB.out.trans (hb.mono HB.out.size)
  replace HAw : Hid (Below w1.heap.size w1 w2) := HAw.out.trans (hb.mono HAw.out.size)
  have hs3 : w1.heap.size ≤ w2.heap.size := by have hsz := hb.size; (try simp at hsz); omega
  have HAg : Hid (Below w2.heap.size w2 w2) := Below.refl _ _
  clear hb ho
  go_wp2_with fail
  refine (eqIntS_b (quR a0 a1) _ _ _ ((Lst.of_own HXg.out).below HAg.out) ((Lst.of_own HXw.out).below HAw.out)).mono ?_
  rintro e w3 ⟨rfl, hb⟩
  replace HB : Hid (Below w.heap.size w w3) := HB.out.trans (hb.mono HB.out.size)
  replace HAw : Hid (Below w1.heap.size w1 w3) := HAw.out.trans (hb.mono HAw.out.size)
  replace HAg : Hid (Below w2.heap.size w2 w3) := HAg.out.trans (hb.mono HAg.out.size)
  have hs4 : w2.heap.size ≤ w3.heap.size := by have hsz := hb.size; (try simp at hsz); omega
  clear hb
  go_wp2_with fail
  refine (markIntS_own (w1.heap.size) _ 1 (quR a0 a1).length _ _ (by omega) (by omega) (own_below HXg.out HAg.out)).mono ?_
  rintro e w4 ⟨rfl, ho, hg⟩
  have hk : KeepsOut (w1.heap.size) (w2.heap.size) w3 w4 := KeepsOut.of_grown hg (fun k hk => ⟨(HXg.out.lt k hk).1, HTg.out k hk⟩)
  clear hg
  have hs5 : w3.heap.size ≤ w4.heap.size := by have hsz := hk.size; (try simp at hsz); omega
  replace HB : Hid (Below w.heap.size w w4) := KeepsOut.below HB.out hk HB.out.size (by omega)
  replace HAw : Hid (Below w1.heap.size w1 w4) := KeepsOut.below HAw.out hk HAw.out.size (by omega)
  have HM : Hid (Lst w4 (.slice Ag (quR a0 a1).length cg) (ints (upto 1 (quR a0 a1).length))) := Lst.of_own ho
  clear hk ho HXg HAg
  have HAm : Hid (Below w4.heap.size w4 w4) := Below.refl _ _
  go_wp2_with fail
  refine (heldIntS_b _ 1 (quR a0 a1).length _ (by omega) (by omega) (Lst.below HM.out HAm.out)).mono ?_
  rintro e w5 ⟨rfl, hb⟩
  replace HB : Hid (Below w.heap.size w w5) := HB.out.trans (hb.mono HB.out.size)
  replace HAw : Hid (Below w1.heap.size w1 w5) := HAw.out.trans (hb.mono HAw.out.size)
  replace HAm : Hid (Below w4.heap.size w4 w5) := HAm.out.trans (hb.mono HAm.out.size)
  have hs6 : w4.heap.size ≤ w5.heap.size := by have hsz := hb.size; (try simp at hsz); omega
  clear hb
  go_wp2_with fail
  refine (implQuotientsOf a0 a1 _).mono ?_
  rintro e w6 ⟨vh, rfl, ho, hb⟩
  obtain ⟨Ah, ch, rfl⟩ := own_slice ho
  have HXh : Hid (w6.ownsRow (w5.heap.size) 3 1 (.slice Ah (quR a0 a1).length ch) (quR a0 a1).length (ints (quR a0 a1))) := ho
  have HTh : Hid (∀ k, Value.ownBlock (.slice Ah (quR a0 a1).length ch) = some k → k < w6.heap.size) := fun k hk => (HXh.out.lt k hk).2
  replace HB : Hid (Below w.heap.size w w6) := HB.out.trans (hb.mono HB.out.size)
  replace HAw : Hid (Below w1.heap.size w1 w6) := HAw.out.trans (hb.mono HAw.out.size)
  replace HAm : Hid (Below w4.heap.size w4 w6) := HAm.out.trans (hb.mono HAm.out.size)
  have hs7 : w5.heap.size ≤ w6.heap.size := by have hsz := hb.size; (try simp at hsz); omega
  have HAh : Hid (Below w6.heap.size w6 w6) := Below.refl _ _
  clear hb ho
  go_wp2_with fail
  refine (eqIntS_b (quR a0 a1) _ _ _ ((Lst.of_own HXh.out).below HAh.out) ((Lst.of_own HXw.out).below HAw.out)).mono ?_
  rintro e w7 ⟨rfl, hb⟩
  replace HB : Hid (Below w.heap.size w w7) := HB.out.trans (hb.mono HB.out.size)
  replace HAw : Hid (Below w1.heap.size w1 w7) := HAw.out.trans (hb.mono HAw.out.size)
  replace HAm : Hid (Below w4.heap.size w4 w7) := HAm.out.trans (hb.mono HAm.out.size)
  replace HAh : Hid (Below w6.heap.size w6 w7) := HAh.out.trans (hb.mono HAh.out.size)
  have hs8 : w6.heap.size ≤ w7.heap.size := by have hsz := hb.size; (try simp at hsz); omega
  clear hb
  go_wp2_with fail
  refine (heldIntS_b _ 1 (quR a0 a1).length _ (by omega) (by omega) (Lst.below HM.out HAm.out)).mono ?_
  rintro e w8 ⟨rfl, hb⟩
  replace HB : Hid (Below w.heap.size w w8) := HB.out.trans (hb.mono HB.out.size)
  replace HAw : Hid (Below w1.heap.size w1 w8) := HAw.out.trans (hb.mono HAw.out.size)
  replace HAm : Hid (Below w4.heap.size w4 w8) := HAm.out.trans (hb.mono HAm.out.size)
  replace HAh : Hid (Below w6.heap.size w6 w8) := HAh.out.trans (hb.mono HAh.out.size)
  have hs9 : w7.heap.size ≤ w8.heap.size := by have hsz := hb.size; (try simp at hsz); omega
  clear hb
  go_wp2_with fail
  go_ret
  exact ⟨rfl, HB.out⟩

set_option maxRecDepth 100000 in
theorem fnExactQuotientsOf_walk  (a0 : Int) (a1 : Int) (w : World) (b0 : (Lit.int .i64 a0).wf = true) (b1 : (Lit.int .i64 a1).wf = true) :
    Calls Try.prog 3 #[.int .i64 a0, .int .i64 a1] w fun e w' => e = .returned (.bool true) ∧ Below w.heap.size w w' := by

  exact fnExactQuotientsOf_walk0 a0 a1 w b0 b1

set_option maxRecDepth 100000 in
theorem fnExactQuotientsOf_row (os : Os) (started : os.Started) (H : Type) (enc : TypeId × Value → H) :
    ReturnsInHanded {} Try.checked os 3 .any (Rows.fnExactQuotientsOfSpec.pre6 enc Try.prog Try.f3 Rows.fnExactQuotientsOfRow.domain false) (Rows.fnExactQuotientsOfSpec.post enc Try.prog Try.f3 false true false false) :=
  lawLifted (C := Try.checked) ownKnobs started (by kernel_rfl) Try.func3 laidOut (by kernel_rfl) (by kernel_rfl) Try.underlying4 rfl
    (fun ds h => by match ds, h with | [_, _], _ => rfl)
    (ChangeSpec.witness6 (enc := enc) (C := Try.checked) false ⟨#[], #[.int .i64 0, .int .i64 0], []⟩ 8 (by kernel_rfl) (by kernel_rfl) (by kernel_rfl) (by kernel_rfl))
    (fun W base args ds p hval0 hA0 hlt => by
      have hval : ∀ (j : Nat) t v, Try.f3.params[j]? = some t → args[j]? = some v → Value.okWide Try.prog W .any base t v := hval0
      have hA : DataW.TrodAll enc Try.prog W 0 (fun _ => true) true Try.f3.params.toList args.toList ds p := hA0
      clear hval0 hA0
      rw [Try.params3] at hA hval
      obtain ⟨v0, v1, d0, d1, p0, p1, rfl, rfl, rfl, h0, h1⟩ := trodAll_two hA
      obtain ⟨a0, rfl, rfl, rfl, b0⟩ := open_int Try.underlying3 (hval 0 3 v0 rfl rfl) h0
      obtain ⟨a1, rfl, rfl, rfl, b1⟩ := open_int Try.underlying3 (hval 1 3 v1 rfl rfl) h1
      exact fnExactQuotientsOf_walk a0 a1 W b0 b1)

theorem fnExactQuotientsOf_holds : Rows.FnExactQuotientsOfSaid :=
  OpenClaim.holds_of_wide 3 Try.f3 rfl rfl rfl rfl rfl rfl rfl ⟨rfl, rfl, rfl, rfl, rfl⟩ rfl rfl rfl rfl rfl (by kernel_rfl) Try.func3 (by kernel_rfl)
    (of_decide_eq_true (by kernel_rfl)) (by unfold Func.isWrapper; first | (rw [if_pos (by decide +kernel)]; kernel_rfl) | (rw [if_neg (by decide +kernel)]; exact ⟨rfl, rfl⟩))
    (fun os started H enc _ => fnExactQuotientsOf_row os started H enc)


end Go.Proofs.Ytjmijedfmiplfaa
