/- FnExactAreConjugate: for every argument the law returns true and its arguments read as before. No condition. -/
import Derived.Test.YtgfhconcmoepcaaMga1
import Derived.Test.YtgfhconcmoepcaaMga2
import Derived.Test.YtgfhconcmoepcaaMga5
import Derived.Deep.RegionWith
import Derived.Test.YtgfhconcmoepcaaMga22
import Derived.Test.YtgfhconcmoepcaaMga27
namespace Go.Proofs.Ytgfhconcmoepcaa
open Go.ChangeShapes Go.WideShapes Go.ChangeAt Go.RowKit
open Go.ChangeMaps (open_string shut_string)

set_option maxHeartbeats 4000000 in
set_option maxRecDepth 100000 in
theorem fnExactAreConjugate_walk0 (a0 : ByteArray) (a1 : ByteArray) (w : World) (m : Int) (hm : w.cell? ⟨0, 0, none⟩ = some (.int .i64 m)) (b0 : a0.size ≤ maxLen) (b1 : a1.size ≤ maxLen) :
    Calls Try.prog 12 #[.string a0, .string a1] w fun e w' => e = .returned (.bool true) ∧ Below w.heap.size w w' := by
  have HMX := Lib.hid hm
  clear hm
  unfold maxLen at b0
  unfold maxLen at b1
  have HB : Hid (Below w.heap.size w w) := (Below.refl w.heap.size w)
  by_cases h0 : a0.size ≤ 1048576
  · skip
    by_cases h1 : a1.size ≤ 1048576
    · skip
      go_enter Try.func12, Try.ntmps12
      go_wp2_with fail
      refine (specAreConjugate a0 a1 _ h0 h1).mono ?_
      rintro e w1 ⟨rfl, hb⟩
      replace HB : Hid (Below w.heap.size w w1) := HB.out.trans (hb.mono HB.out.size)
      have hs1 : w.heap.size ≤ w1.heap.size := by have hsz := hb.size; (try simp at hsz); omega
      clear hb
      go_wp2_with fail
      refine (implAreConjugate a0 a1 m _ ((HB.out.cell (World.block_lt_of_cell? w _ HMX.out)).trans HMX.out) h0 h1).mono ?_
      rintro e w2 ⟨rfl, hb⟩
      replace HB : Hid (Below w.heap.size w w2) := HB.out.trans (hb.mono HB.out.size)
      have hs2 : w1.heap.size ≤ w2.heap.size := by have hsz := hb.size; (try simp at hsz); omega
      clear hb
      go_wp2_with fail
      go_ret
      exact ⟨rfl, HB.out⟩
    · go_enter Try.func12, Try.ntmps12
      go_wp2_with fail
      go_ret
      exact ⟨rfl, HB.out⟩
  · go_enter Try.func12, Try.ntmps12
    go_wp2_with fail
    go_ret
    exact ⟨rfl, HB.out⟩

set_option maxRecDepth 100000 in
theorem fnExactAreConjugate_walk  (a0 : ByteArray) (a1 : ByteArray) (w : World) (m : Int) (hm : w.cell? ⟨0, 0, none⟩ = some (.int .i64 m)) (b0 : a0.size ≤ maxLen) (b1 : a1.size ≤ maxLen) :
    Calls Try.prog 12 #[.string a0, .string a1] w fun e w' => e = .returned (.bool true) ∧ Below w.heap.size w w' := by

  exact fnExactAreConjugate_walk0 a0 a1 w m hm b0 b1

set_option maxRecDepth 100000 in
theorem fnExactAreConjugate_row (os : Os) (started : os.Started) (H : Type) (enc : TypeId × Value → H) :
    ReturnsInHanded {} Try.checked os 12 .any (Rows.fnExactAreConjugateSpec.pre6 enc Try.prog Try.f12 Rows.fnExactAreConjugateRow.domain false) (Rows.fnExactAreConjugateSpec.post enc Try.prog Try.f12 false true false false) :=
  lawLiftedS (C := Try.checked) ownKnobs started (by kernel_rfl) Try.func12 laidOut (by kernel_rfl) (by kernel_rfl) Try.underlying4 rfl
    (fun ds h => by match ds, h with | [_, _], _ => rfl)
    (ChangeSpec.witness6 (enc := enc) (C := Try.checked) false ⟨#[], #[.string ⟨#[]⟩, .string ⟨#[]⟩], []⟩ 8 (by kernel_rfl) (by kernel_rfl) (by kernel_rfl) (by kernel_rfl))
    (fun W base args ds p hsh hval0 hA0 hlt => by
      have hval : ∀ (j : Nat) t v, Try.f12.params[j]? = some t → args[j]? = some v → Value.okWide Try.prog W .any base t v := hval0
      have hA : DataW.TrodAll enc Try.prog W 0 (fun _ => true) true Try.f12.params.toList args.toList ds p := hA0
      clear hval0 hA0
      rw [Try.params12] at hA hval
      obtain ⟨v0, v1, d0, d1, p0, p1, rfl, rfl, rfl, h0, h1⟩ := trodAll_two hA
      obtain ⟨a0, rfl, rfl, rfl, b0⟩ := open_string Try.underlying9 (hval 0 9 v0 rfl rfl) h0
      obtain ⟨a1, rfl, rfl, rfl, b1⟩ := open_string Try.underlying9 (hval 1 9 v1 rfl rfl) h1
      obtain ⟨m, hm⟩ := Try.laysM144.s1_3 W hsh
      exact fnExactAreConjugate_walk a0 a1 W m hm b0 b1)

theorem fnExactAreConjugate_holds : Rows.FnExactAreConjugateSaid :=
  OpenClaim.holds_of_wide 12 Try.f12 rfl rfl rfl rfl rfl rfl rfl ⟨rfl, rfl, rfl, rfl, rfl⟩ rfl rfl rfl rfl rfl (by kernel_rfl) Try.func12 (by kernel_rfl)
    (of_decide_eq_true (by kernel_rfl)) (by unfold Func.isWrapper; first | (rw [if_pos (by decide +kernel)]; kernel_rfl) | (rw [if_neg (by decide +kernel)]; exact ⟨rfl, rfl⟩))
    (fun os started H enc _ => fnExactAreConjugate_row os started H enc)


end Go.Proofs.Ytgfhconcmoepcaa
