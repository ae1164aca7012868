/- FnExactIsFactor: for every argument the law returns true and its arguments read as before. No condition. -/
import Derived.Test.YtbgoajdfhgjgdaaOwn
import Derived.Test.YtbgoajdfhgjgdaaPlaces
import Derived.Test.YtbgoajdfhgjgdaaFactI
import Derived.Test.YtbgoajdfhgjgdaaLiftS
namespace Go.Proofs.Ytbgoajdfhgjgdaa
open Go.ChangeShapes Go.WideShapes Go.ChangeAt Go.RowKit
open Go.ChangeMaps (open_string shut_string)

set_option maxHeartbeats 400000 in
theorem fnExactIsFactor_walk (a0 : ByteArray) (a1 : ByteArray) (w : World) (m : Int) (hm : w.cell? ⟨0, 0, none⟩ = some (.int .i64 m)) (b0 : a0.size ≤ maxLen) (b1 : a1.size ≤ maxLen) :
    Calls Try.prog 9 #[.string a0, .string a1] w fun e w' => e = .returned (.bool true) ∧ Below w.heap.size w w' := by
  unfold maxLen at b0
  have HM := Lib.hid hm
  clear hm
  unfold maxLen at b1
  by_cases h0 : a0.size ≤ 1048576
  · skip
    by_cases h1 : a1.size ≤ 1048576
    · skip
      go_enter Try.func9, Try.ntmps9
      go_wp2_with fail
      refine (specIsFactor a0 a1 _ h0 h1).mono ?_
      rintro e w1 ⟨rfl, rfl⟩
      go_wp2_with fail
      refine (implIsFactor a0 a1 m _ HM.out h0 h1).mono ?_
      rintro e w2 ⟨rfl, hb1⟩
      go_wp2_with fail
      go_ret
      refine ⟨rfl, ?_⟩
      exact (Below.refl w.heap.size w).trans (hb1.mono ((Below.refl w.heap.size w)).size)
    · go_enter Try.func9, Try.ntmps9
      go_wp2_with fail
      go_ret
      exact ⟨rfl, Below.refl _ _⟩
  · go_enter Try.func9, Try.ntmps9
    go_wp2_with fail
    go_ret
    exact ⟨rfl, Below.refl _ _⟩

set_option maxRecDepth 100000 in
theorem fnExactIsFactor_row (os : Os) (started : os.Started) (H : Type) (enc : TypeId × Value → H) :
    ReturnsInHanded {} Try.checked os 9 .any (Rows.fnExactIsFactorSpec.pre6 enc Try.prog Try.f9 Rows.fnExactIsFactorRow.domain false) (Rows.fnExactIsFactorSpec.post enc Try.prog Try.f9 false true false false) :=
  lawLiftedS (C := Try.checked) ownKnobs started (by kernel_rfl) Try.func9 laidOut (by kernel_rfl) (by kernel_rfl) Try.underlying4 rfl
    (fun ds h => by match ds, h with | [_, _], _ => rfl)
    (ChangeSpec.witness6 (enc := enc) (C := Try.checked) false ⟨#[], #[.string ⟨#[]⟩, .string ⟨#[]⟩], []⟩ 8 (by kernel_rfl) (by kernel_rfl) (by kernel_rfl) (by kernel_rfl))
    (fun W base args ds p hsh hval0 hA0 hlt => by
      have hval : ∀ (j : Nat) t v, Try.f9.params[j]? = some t → args[j]? = some v → Value.okWide Try.prog W .any base t v := hval0
      have hA : DataW.TrodAll enc Try.prog W 0 (fun _ => true) true Try.f9.params.toList args.toList ds p := hA0
      clear hval0 hA0
      rw [Try.params9] at hA hval
      obtain ⟨v0, v1, d0, d1, p0, p1, rfl, rfl, rfl, h0, h1⟩ := trodAll_two hA
      obtain ⟨a0, rfl, rfl, rfl, b0⟩ := open_string Try.underlying9 (hval 0 9 v0 rfl rfl) h0
      obtain ⟨a1, rfl, rfl, rfl, b1⟩ := open_string Try.underlying9 (hval 1 9 v1 rfl rfl) h1
      obtain ⟨m, hm⟩ := Try.laysM144.s1_3 W hsh
      exact fnExactIsFactor_walk a0 a1 W m hm b0 b1)

theorem fnExactIsFactor_holds : Rows.FnExactIsFactorSaid :=
  OpenClaim.holds_of_wide 9 Try.f9 rfl rfl rfl rfl rfl rfl rfl ⟨rfl, rfl, rfl, rfl, rfl⟩ rfl rfl rfl rfl rfl (by kernel_rfl) Try.func9 (by kernel_rfl)
    (of_decide_eq_true (by kernel_rfl)) (by unfold Func.isWrapper; first | (rw [if_pos (by decide +kernel)]; kernel_rfl) | (rw [if_neg (by decide +kernel)]; exact ⟨rfl, rfl⟩))
    (fun os started H enc _ => fnExactIsFactor_row os started H enc)


end Go.Proofs.Ytbgoajdfhgjgdaa
