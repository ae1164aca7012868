/- FnExactPlacesIn: for every argument the law returns true and its arguments read as before. No condition. -/
import Derived.Test.YtbgoajdfhgjgdaaOwn
import Derived.Test.YtbgoajdfhgjgdaaPlaces
import Derived.Test.YtbgoajdfhgjgdaaPlacesI
namespace Go.Proofs.Ytbgoajdfhgjgdaa
open Go.ChangeShapes Go.WideShapes Go.ChangeAt Go.RowKit
open Go.ChangeMaps (open_string shut_string)

set_option maxHeartbeats 400000 in
theorem fnExactPlacesIn_walk (a0 : ByteArray) (a1 : ByteArray) (w : World) (b0 : a0.size ≤ maxLen) (b1 : a1.size ≤ maxLen) :
    Calls Try.prog 8 #[.string a0, .string a1] w fun e w' => e = .returned (.bool true) ∧ Below w.heap.size w w' := by
  unfold maxLen at b0
  unfold maxLen at b1
  by_cases h0 : a0.size ≤ 1048576
  · skip
    by_cases h1 : a1.size ≤ 1048576
    · skip
      have hn := placesR_le a0 a1
      have hlt : ¬ ((1 : Int) + (placesR a0 a1).length < 0) := by omega
      have hne : ((1 : Int) + (placesR a0 a1).length != 1 + (placesR a0 a1).length) = false := by simp
      go_enter Try.func8, Try.ntmps8
      go_wp2_with fail
      refine (specPlacesIn a0 a1 _ h0 h1).mono ?_
      rintro e w1 ⟨v0, rfl, ho0, hb0⟩
      go_wp2_with fail
      refine (implPlacesIn a0 a1 _ h0 h1).mono ?_
      rintro e w2 ⟨v1, rfl, ho1, hb1⟩
      have l0 := (Lst.of_own ho0).below hb1
      go_wp2_with fail
      refine (eqIntS_same (placesR a0 a1) v1 v0 _ (Lst.of_own ho1) l0).mono ?_
      rintro e w3 ⟨rfl, n3, rfl⟩
      go_wp2_with fail
      refine (markIntS_own w1.heap.size v1 1 (placesR a0 a1).length _ _ (by omega) (by omega) (own_drewN ho1 n3)).mono ?_
      rintro e w4 ⟨rfl, ho4, hg4⟩
      go_wp2_with fail
      refine (heldIntS_marks v1 1 (placesR a0 a1).length _ (by omega) (by omega) (Lst.of_own ho4)).mono ?_
      rintro e w5 ⟨rfl, n5, rfl⟩
      have ho5 := own_drewN ho4 n5
      go_wp2_with fail
      refine (implPlacesIn a0 a1 _ h0 h1).mono ?_
      rintro e w6 ⟨v2, rfl, ho6, hb6⟩
      have ho6' := ho5.kept (grown_of_below hb6 none) (by cases v1.ownBlock <;> simp)
      have l0' : Lst w6 v0 (ints (placesR a0 a1)) := (((l0.drewN n3).grown hg4 (by
        rcases hv : v0.ownBlock with _ | b
        · exact .inl rfl
        · refine .inr (fun e => ?_)
          have := (ho0.lt b hv).2
          have := (ho1.lt b e.symm).1
          omega)).drewN n5).below hb6
      go_wp2_with fail
      refine (eqIntS_same (placesR a0 a1) v2 v0 _ (Lst.of_own ho6) l0').mono ?_
      rintro e w7 ⟨rfl, n7, rfl⟩
      go_wp2_with fail
      refine (heldIntS_marks v1 1 (placesR a0 a1).length _ (by omega) (by omega) ((Lst.of_own ho6').drewN n7)).mono ?_
      rintro e w8 ⟨rfl, n8, rfl⟩
      go_wp2_with fail
      go_ret
      refine ⟨rfl, ?_⟩
      have hb2 : Below w.heap.size w w2 := hb0.trans (hb1.mono hb0.size)
      have hb4 : Below w.heap.size w w4 := (below_drewN hb2 n3).grown hg4 hb2.size (fun k hk => Nat.le_trans hb0.size (ho1.lt k hk).1)
      have hb5 : Below w.heap.size w (w4.drewN n5) := below_drewN hb4 n5
      have hb6' : Below w.heap.size w w6 := hb5.trans (hb6.mono hb5.size)
      exact below_drewN hb6' (n7 + n8)
    · go_enter Try.func8, Try.ntmps8
      go_wp2_with fail
      go_ret
      exact ⟨rfl, Below.refl _ _⟩
  · go_enter Try.func8, Try.ntmps8
    go_wp2_with fail
    go_ret
    exact ⟨rfl, Below.refl _ _⟩

set_option maxRecDepth 100000 in
theorem fnExactPlacesIn_row (os : Os) (started : os.Started) (H : Type) (enc : TypeId × Value → H) :
    ReturnsInHanded {} Try.checked os 8 .any (Rows.fnExactPlacesInSpec.pre6 enc Try.prog Try.f8 Rows.fnExactPlacesInRow.domain false) (Rows.fnExactPlacesInSpec.post enc Try.prog Try.f8 false true false false) :=
  lawLifted (C := Try.checked) ownKnobs started (by kernel_rfl) Try.func8 laidOut (by kernel_rfl) (by kernel_rfl) Try.underlying4 rfl
    (fun ds h => by match ds, h with | [_, _], _ => rfl)
    (ChangeSpec.witness6 (enc := enc) (C := Try.checked) false ⟨#[], #[.string ⟨#[]⟩, .string ⟨#[]⟩], []⟩ 8 (by kernel_rfl) (by kernel_rfl) (by kernel_rfl) (by kernel_rfl))
    (fun W base args ds p hval0 hA0 hlt => by
      have hval : ∀ (j : Nat) t v, Try.f8.params[j]? = some t → args[j]? = some v → Value.okWide Try.prog W .any base t v := hval0
      have hA : DataW.TrodAll enc Try.prog W 0 (fun _ => true) true Try.f8.params.toList args.toList ds p := hA0
      clear hval0 hA0
      rw [Try.params8] at hA hval
      obtain ⟨v0, v1, d0, d1, p0, p1, rfl, rfl, rfl, h0, h1⟩ := trodAll_two hA
      obtain ⟨a0, rfl, rfl, rfl, b0⟩ := open_string Try.underlying9 (hval 0 9 v0 rfl rfl) h0
      obtain ⟨a1, rfl, rfl, rfl, b1⟩ := open_string Try.underlying9 (hval 1 9 v1 rfl rfl) h1
      exact fnExactPlacesIn_walk a0 a1 W b0 b1)

theorem fnExactPlacesIn_holds : Rows.FnExactPlacesInSaid :=
  OpenClaim.holds_of_wide 8 Try.f8 rfl rfl rfl rfl rfl rfl rfl ⟨rfl, rfl, rfl, rfl, rfl⟩ rfl rfl rfl rfl rfl (by kernel_rfl) Try.func8 (by kernel_rfl)
    (of_decide_eq_true (by kernel_rfl)) (by unfold Func.isWrapper; first | (rw [if_pos (by decide +kernel)]; kernel_rfl) | (rw [if_neg (by decide +kernel)]; exact ⟨rfl, rfl⟩))
    (fun os started H enc _ => fnExactPlacesIn_row os started H enc)


end Go.Proofs.Ytbgoajdfhgjgdaa
