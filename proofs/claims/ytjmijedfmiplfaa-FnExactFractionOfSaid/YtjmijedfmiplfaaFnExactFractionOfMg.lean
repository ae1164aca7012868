/- FnExactFractionOf: for every argument the law returns true and its arguments read as before. No condition. -/
import Derived.Test.YtjmijedfmiplfaaMgA1
import Derived.Test.YtjmijedfmiplfaaMgA2
import Derived.Test.YtjmijedfmiplfaaMgA5
import Derived.Deep.RegionWith
import Derived.Test.YtjmijedfmiplfaaMgA16
import Derived.Test.YtjmijedfmiplfaaMgA18
namespace Go.Proofs.Ytjmijedfmiplfaa
open Go.ChangeShapes Go.WideShapes Go.ChangeAt Go.RowKit
open Go.ChangeMaps (open_string shut_string)

set_option maxHeartbeats 4000000 in
set_option maxRecDepth 100000 in
theorem fnExactFractionOf_walk0 (l0 : List Int) (v0 : Value) (w : World) (q0 : Lst w v0 (ints l0)) (y0 : ∀ z ∈ l0, (Lit.int .i64 z).wf = true) :
    Calls Try.prog 4 #[v0] w fun e w' => e = .returned (.bool true) ∧ Below w.heap.size w w' := by
  obtain ⟨A0, cp0, rfl⟩ := lst_slice q0
  simp only [ints_length] at q0 ⊢
  have hmx0 : l0.length ≤ 9223372036854775807 := by obtain ⟨_, _, e, h1, h2, _⟩ := q0; rw [ints_length] at h1; unfold maxLen at h2; omega
  have HL0 := Lib.hid q0
  have HY0 := Lib.hid y0
  have HW0 := HY0
  clear q0 y0
  have HB : Hid (Below w.heap.size w w) := (Below.refl w.heap.size w)
  by_cases hn0 : l0.length ≤ 1048576
  · skip
    go_enter Try.func4, Try.ntmps4
    go_wp2_with fail
    refine (toIntS_any l0 _ _ (HL0.out.below HB.out) hn0).mono ?_
    rintro e w1 ⟨vt0, rfl, ho, hb⟩
    obtain ⟨At0, ct0, rfl⟩ := own_slice ho
    have HXt0 : Hid (w1.ownsRow (w.heap.size) 3 1 (.slice At0 (l0).length ct0) (l0).length (ints (l0))) := ho
    have HTt0 : Hid (∀ k, Value.ownBlock (.slice At0 (l0).length ct0) = some k → k < w1.heap.size) := fun k hk => (HXt0.out.lt k hk).2
    replace HB : Hid (Below w.heap.size w w1) := HB.out.trans (hb.mono HB.out.size)
    have hs1 : w.heap.size ≤ w1.heap.size := by have hsz := hb.size; (try simp at hsz); omega
    have HAt0 : Hid (Below w1.heap.size w1 w1) := Below.refl _ _
    clear hb ho
    go_wp2_with fail
    refine (specFractionOf l0 _ _ ((Lst.of_own HXt0.out).below HAt0.out)).mono ?_
    rintro e w2 ⟨rfl, hb⟩
    replace HB : Hid (Below w.heap.size w w2) := HB.out.trans (hb.mono HB.out.size)
    replace HAt0 : Hid (Below w1.heap.size w1 w2) := HAt0.out.trans (hb.mono HAt0.out.size)
    have hs2 : w1.heap.size ≤ w2.heap.size := by have hsz := hb.size; (try simp at hsz); omega
    clear hb
    clear HXt0 HAt0 HTt0
    go_wp2_with fail
    refine (toIntS_any l0 _ _ (HL0.out.below HB.out) hn0).mono ?_
    rintro e w3 ⟨vx0, rfl, ho, hb⟩
    obtain ⟨Ax0, cx0, rfl⟩ := own_slice ho
    have HXx0 : Hid (w3.ownsRow (w2.heap.size) 3 1 (.slice Ax0 (l0).length cx0) (l0).length (ints (l0))) := ho
    have HTx0 : Hid (∀ k, Value.ownBlock (.slice Ax0 (l0).length cx0) = some k → k < w3.heap.size) := fun k hk => (HXx0.out.lt k hk).2
    replace HB : Hid (Below w.heap.size w w3) := HB.out.trans (hb.mono HB.out.size)
    have hs3 : w2.heap.size ≤ w3.heap.size := by have hsz := hb.size; (try simp at hsz); omega
    have HAx0 : Hid (Below w3.heap.size w3 w3) := Below.refl _ _
    clear hb ho
    go_wp2_with fail
    refine (implFractionOf l0 _ _ ((Lst.of_own HXx0.out).below HAx0.out)).mono ?_
    rintro e w4 ⟨rfl, hb⟩
    replace HB : Hid (Below w.heap.size w w4) := HB.out.trans (hb.mono HB.out.size)
    replace HAx0 : Hid (Below w3.heap.size w3 w4) := HAx0.out.trans (hb.mono HAx0.out.size)
    have hs4 : w3.heap.size ≤ w4.heap.size := by have hsz := hb.size; (try simp at hsz); omega
    clear hb
    go_wp2_with fail
    refine (toIntS_any l0 _ _ (HL0.out.below HB.out) hn0).mono ?_
    rintro e w5 ⟨vy0, rfl, ho, hb⟩
    obtain ⟨Ay0, cy0, rfl⟩ := own_slice ho
    have HXy0 : Hid (w5.ownsRow (w4.heap.size) 3 1 (.slice Ay0 (l0).length cy0) (l0).length (ints (l0))) := ho
    have HTy0 : Hid (∀ k, Value.ownBlock (.slice Ay0 (l0).length cy0) = some k → k < w5.heap.size) := fun k hk => (HXy0.out.lt k hk).2
    replace HB : Hid (Below w.heap.size w w5) := HB.out.trans (hb.mono HB.out.size)
    replace HAx0 : Hid (Below w3.heap.size w3 w5) := HAx0.out.trans (hb.mono HAx0.out.size)
    have hs5 : w4.heap.size ≤ w5.heap.size := by have hsz := hb.size; (try simp at hsz); omega
    have HAy0 : Hid (Below w5.heap.size w5 w5) := Below.refl _ _
    clear hb ho
    go_wp2_with fail
    refine (eqIntS_b (l0) _ _ _ ((Lst.of_own HXx0.out).below HAx0.out) ((Lst.of_own HXy0.out).below HAy0.out)).mono ?_
    rintro e w6 ⟨rfl, hb⟩
    replace HB : Hid (Below w.heap.size w w6) := HB.out.trans (hb.mono HB.out.size)
    replace HAx0 : Hid (Below w3.heap.size w3 w6) := HAx0.out.trans (hb.mono HAx0.out.size)
    replace HAy0 : Hid (Below w5.heap.size w5 w6) := HAy0.out.trans (hb.mono HAy0.out.size)
    have hs6 : w5.heap.size ≤ w6.heap.size := by have hsz := hb.size; (try simp at hsz); omega
    clear hb
    clear HXy0 HAy0 HTy0
    go_wp2_with fail
    go_ret
    exact ⟨rfl, HB.out⟩
  · go_enter Try.func4, Try.ntmps4
    go_wp2_with fail
    go_ret
    exact ⟨rfl, HB.out⟩

set_option maxRecDepth 100000 in
theorem fnExactFractionOf_walk {H : Type} {enc : TypeId × Value → H} {base : Nat} {r : Reach} {b0 : Nat} {d0 : DataW H} {ps0 : List MemPlace} (v0 : Value) (w : World) (hval0 : Value.okWide Try.prog w r b0 22 v0) (h0 : DataW.Trod enc Try.prog w base (fun _ => true) true 22 v0 d0 ps0) :
    Calls Try.prog 4 #[v0] w fun e w' => e = .returned (.bool true) ∧ Below w.heap.size w w' := by
  obtain ⟨l0, hl0, hz0⟩ := ints_arg Try.underlying22 Try.underlying3 cellsOf_int hval0 h0
  exact fnExactFractionOf_walk0 l0 v0 w hl0 hz0

set_option maxRecDepth 100000 in
theorem fnExactFractionOf_row (os : Os) (started : os.Started) (H : Type) (enc : TypeId × Value → H) :
    ReturnsInHanded {} Try.checked os 4 .any (Rows.fnExactFractionOfSpec.pre6 enc Try.prog Try.f4 Rows.fnExactFractionOfRow.domain false) (Rows.fnExactFractionOfSpec.post enc Try.prog Try.f4 false true false false) :=
  lawLifted (C := Try.checked) ownKnobs started (by kernel_rfl) Try.func4 laidOut (by kernel_rfl) (by kernel_rfl) Try.underlying4 rfl
    (fun ds h => by match ds, h with | [_], _ => rfl)
    (ChangeSpec.witness6 (enc := enc) (C := Try.checked) false ⟨#[], #[.slice none 0 0], []⟩ 8 (by kernel_rfl) (by kernel_rfl) (by kernel_rfl) (by kernel_rfl))
    (fun W base args ds p hval0 hA0 hlt => by
      have hval : ∀ (j : Nat) t v, Try.f4.params[j]? = some t → args[j]? = some v → Value.okWide Try.prog W .any base t v := hval0
      have hA : DataW.TrodAll enc Try.prog W 0 (fun _ => true) true Try.f4.params.toList args.toList ds p := hA0
      clear hval0 hA0
      rw [Try.params4] at hA hval
      obtain ⟨v0, d0, rfl, rfl, h0⟩ := trodAll_one hA
      exact fnExactFractionOf_walk v0 W (hval 0 22 v0 rfl rfl) h0)

theorem fnExactFractionOf_holds : Rows.FnExactFractionOfSaid :=
  OpenClaim.holds_of_wide 4 Try.f4 rfl rfl rfl rfl rfl rfl rfl ⟨rfl, rfl, rfl, rfl, rfl⟩ rfl rfl rfl rfl rfl (by kernel_rfl) Try.func4 (by kernel_rfl)
    (of_decide_eq_true (by kernel_rfl)) (by unfold Func.isWrapper; first | (rw [if_pos (by decide +kernel)]; kernel_rfl) | (rw [if_neg (by decide +kernel)]; exact ⟨rfl, rfl⟩))
    (fun os started H enc _ => fnExactFractionOf_row os started H enc)


end Go.Proofs.Ytjmijedfmiplfaa
