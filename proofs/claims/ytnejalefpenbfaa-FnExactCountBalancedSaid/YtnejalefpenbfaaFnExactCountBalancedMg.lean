/- FnExactCountBalanced: for every argument the law returns true and its arguments read as before. No condition. -/
import Derived.Test.YtnejalefpenbfaaMgA1
import Derived.Test.YtnejalefpenbfaaMgA2
import Derived.Test.YtnejalefpenbfaaMgA5
import Derived.Deep.RegionWith
import Derived.Test.YtnejalefpenbfaaMgA21
import Derived.Test.YtnejalefpenbfaaMgA23
namespace Go.Proofs.Ytnejalefpenbfaa
open Go.ChangeShapes Go.WideShapes Go.ChangeAt Go.RowKit
open Go.ChangeMaps (open_string shut_string)

set_option maxHeartbeats 4000000 in
set_option maxRecDepth 100000 in
theorem fnExactCountBalanced_walk0 (a0 : Int) (w : World) (_ : (Lit.int .i64 a0).wf = true) :
    Calls Try.prog 9 #[.int .i64 a0] w fun e w' => e = .returned (.bool true) ∧ Below w.heap.size w w' := by
  have HB : Hid (Below w.heap.size w w) := (Below.refl w.heap.size w)
  go_enter Try.func9, Try.ntmps9
  go_wp2_with fail
  refine (specCountBalanced a0 _).mono ?_
  rintro e w1 ⟨rfl, hb⟩
  replace HB : Hid (Below w.heap.size w w1) := HB.out.trans (hb.mono HB.out.size)
  have hs1 : w.heap.size ≤ w1.heap.size := by have hsz := hb.size; (try simp at hsz); omega
  clear hb
  go_wp2_with fail
  refine (implCountBalanced a0 _).mono ?_
  rintro e w2 ⟨rfl, hb⟩
  replace HB : Hid (Below w.heap.size w w2) := HB.out.trans (hb.mono HB.out.size)
  have hs2 : w1.heap.size ≤ w2.heap.size := by have hsz := hb.size; (try simp at hsz); omega
  clear hb
  go_wp2_with fail
  go_ret
  exact ⟨rfl, HB.out⟩

set_option maxRecDepth 100000 in
theorem fnExactCountBalanced_walk  (a0 : Int) (w : World) (b0 : (Lit.int .i64 a0).wf = true) :
    Calls Try.prog 9 #[.int .i64 a0] w fun e w' => e = .returned (.bool true) ∧ Below w.heap.size w w' := by

  exact fnExactCountBalanced_walk0 a0 w b0

set_option maxRecDepth 100000 in
theorem fnExactCountBalanced_row (os : Os) (started : os.Started) (H : Type) (enc : TypeId × Value → H) :
    ReturnsInHanded {} Try.checked os 9 .any (Rows.fnExactCountBalancedSpec.pre6 enc Try.prog Try.f9 Rows.fnExactCountBalancedRow.domain false) (Rows.fnExactCountBalancedSpec.post enc Try.prog Try.f9 false true false false) :=
  lawLifted (C := Try.checked) ownKnobs started (by kernel_rfl) Try.func9 laidOut (by kernel_rfl) (by kernel_rfl) Try.underlying4 rfl
    (fun ds h => by match ds, h with | [_], _ => rfl)
    (ChangeSpec.witness6 (enc := enc) (C := Try.checked) false ⟨#[], #[.int .i64 0], []⟩ 8 (by kernel_rfl) (by kernel_rfl) (by kernel_rfl) (by kernel_rfl))
    (fun W base args ds p hval0 hA0 hlt => by
      have hval : ∀ (j : Nat) t v, Try.f9.params[j]? = some t → args[j]? = some v → Value.okWide Try.prog W .any base t v := hval0
      have hA : DataW.TrodAll enc Try.prog W 0 (fun _ => true) true Try.f9.params.toList args.toList ds p := hA0
      clear hval0 hA0
      rw [Try.params9] at hA hval
      obtain ⟨v0, d0, rfl, rfl, h0⟩ := trodAll_one hA
      obtain ⟨a0, rfl, rfl, rfl, b0⟩ := open_int Try.underlying3 (hval 0 3 v0 rfl rfl) h0
      exact fnExactCountBalanced_walk a0 W b0)

theorem fnExactCountBalanced_holds : Rows.FnExactCountBalancedSaid :=
  OpenClaim.holds_of_wide 9 Try.f9 rfl rfl rfl rfl rfl rfl rfl ⟨rfl, rfl, rfl, rfl, rfl⟩ rfl rfl rfl rfl rfl (by kernel_rfl) Try.func9 (by kernel_rfl)
    (of_decide_eq_true (by kernel_rfl)) (by unfold Func.isWrapper; first | (rw [if_pos (by decide +kernel)]; kernel_rfl) | (rw [if_neg (by decide +kernel)]; exact ⟨rfl, rfl⟩))
    (fun os started H enc _ => fnExactCountBalanced_row os started H enc)


end Go.Proofs.Ytnejalefpenbfaa
