/- FnExactSplitAny: for every two strings the law returns true and its arguments read as before. No condition. -/
import Derived.Test.YtpocfbhbllphdaaOwn
import Derived.Test.YtpocfbhbllphdaaSplitI
namespace Go.Proofs.Ytpocfbhbllphdaa
open Go.ChangeShapes Go.WideShapes Go.ChangeAt Go.RowKit
open Go.ChangeMaps (open_string shut_string)

theorem splitL_le (s y : ByteArray) : (splitL s y).length ≤ s.size + 1 := by
  have := splitTo_le s y s.size
  unfold splitL
  simp
  omega

set_option maxHeartbeats 400000 in
theorem fnExactSplitAny_walk (s y : ByteArray) (w : World) (hs : s.size ≤ maxLen) (hy : y.size ≤ maxLen) :
    Calls Try.prog 5 #[.string s, .string y] w fun e w' => e = .returned (.bool true) ∧ Below w.heap.size w w' := by
  unfold maxLen at hs hy
  by_cases h1 : s.size ≤ 1048576
  · by_cases h2 : y.size ≤ 1048576
    · have hn := splitL_le s y
      have hlt : ¬ ((1 : Int) + (splitL s y).length < 0) := by omega
      have hne : ((1 : Int) + (splitL s y).length != 1 + (splitL s y).length) = false := by simp
      go_enter Try.func5, Try.ntmps5
      go_wp2_with fail
      refine (specSplitAny s y _ h1 h2).mono ?_
      rintro e w1 ⟨v0, rfl, ho0, hb0⟩
      go_wp2_with fail
      refine (implSplitAny s y _ h1).mono ?_
      rintro e w2 ⟨v1, rfl, ho1, hb1⟩
      have l0 := (Lst.of_own ho0).below hb1
      go_wp2_with fail
      refine (eqStringS_same (splitL s y) v1 v0 _ (Lst.of_own ho1) l0).mono ?_
      rintro e w3 ⟨rfl, n3, rfl⟩
      go_wp2_with fail
      refine (markStringS_own w1.heap.size v1 1 (splitL s y).length _ _ (by omega) (by omega) (own_drewN ho1 n3)).mono ?_
      rintro e w4 ⟨rfl, ho4, hg4⟩
      go_wp2_with fail
      refine (heldStringS_marks v1 1 (splitL s y).length _ (by omega) (by omega) (Lst.of_own ho4)).mono ?_
      rintro e w5 ⟨rfl, hb5⟩
      have ho5 := ho4.kept (grown_of_below hb5 none) (by cases v1.ownBlock <;> simp)
      go_wp2_with fail
      refine (implSplitAny s y _ h1).mono ?_
      rintro e w6 ⟨v2, rfl, ho6, hb6⟩
      have ho6' := ho5.kept (grown_of_below hb6 none) (by cases v1.ownBlock <;> simp)
      have l0' : Lst w6 v0 (strs (splitL s y)) := (((l0.drewN n3).grown hg4 (by
        rcases hv : v0.ownBlock with _ | b
        · exact .inl rfl
        · refine .inr (fun e => ?_)
          have := (ho0.lt b hv).2
          have := (ho1.lt b e.symm).1
          omega)).below hb5).below hb6
      go_wp2_with fail
      refine (eqStringS_same (splitL s y) v2 v0 _ (Lst.of_own ho6) l0').mono ?_
      rintro e w7 ⟨rfl, n7, rfl⟩
      go_wp2_with fail
      refine (heldStringS_marks v1 1 (splitL s y).length _ (by omega) (by omega) ((Lst.of_own ho6').drewN n7)).mono ?_
      rintro e w8 ⟨rfl, hb8⟩
      go_wp2_with fail
      go_ret
      refine ⟨rfl, ?_⟩
      have hb2 : Below w.heap.size w w2 := hb0.trans (hb1.mono hb0.size)
      have hb4 : Below w.heap.size w w4 := (below_drewN hb2 n3).grown hg4 hb2.size (fun k hk => Nat.le_trans hb0.size (ho1.lt k hk).1)
      have hb6' : Below w.heap.size w w6 := (hb4.trans (hb5.mono hb4.size)).trans (hb6.mono (Nat.le_trans hb4.size hb5.size))
      exact (below_drewN hb6' n7).trans (hb8.mono hb6'.size)
    · go_enter Try.func5, Try.ntmps5
      go_wp2_with fail
      go_ret
      exact ⟨rfl, Below.refl _ _⟩
  · go_enter Try.func5, Try.ntmps5
    go_wp2_with fail
    go_ret
    exact ⟨rfl, Below.refl _ _⟩

set_option maxRecDepth 100000 in
theorem fnExactSplitAny_row (os : Os) (started : os.Started) (H : Type) (enc : TypeId × Value → H) :
    ReturnsInHanded {} Try.checked os 5 .any (Rows.fnExactSplitAnySpec.pre6 enc Try.prog Try.f5 Rows.fnExactSplitAnyRow.domain false) (Rows.fnExactSplitAnySpec.post enc Try.prog Try.f5 false true false false) :=
  lawLifted (C := Try.checked) ownKnobs started (by kernel_rfl) Try.func5 laidOut (by kernel_rfl) (by kernel_rfl) Try.underlying4 rfl
    (fun ds h => by match ds, h with | [_, _], _ => rfl)
    (ChangeSpec.witness6 (enc := enc) (C := Try.checked) false ⟨#[], #[.string ⟨#[]⟩, .string ⟨#[]⟩], []⟩ 8 (by kernel_rfl) (by kernel_rfl) (by kernel_rfl) (by kernel_rfl))
    (fun W base args ds p hval0 hA0 hlt => by
      have hval : ∀ (j : Nat) t v, Try.f5.params[j]? = some t → args[j]? = some v → Value.okWide Try.prog W .any base t v := hval0
      have hA : DataW.TrodAll enc Try.prog W 0 (fun _ => true) true Try.f5.params.toList args.toList ds p := hA0
      clear hval0 hA0
      rw [Try.params5] at hA hval
      obtain ⟨v0, v1, d0, d1, p0, p1, rfl, rfl, rfl, h0, h1⟩ := trodAll_two hA
      obtain ⟨a0, rfl, rfl, rfl, b0⟩ := open_string Try.underlying9 (hval 0 9 v0 rfl rfl) h0
      obtain ⟨a1, rfl, rfl, rfl, b1⟩ := open_string Try.underlying9 (hval 1 9 v1 rfl rfl) h1
      exact fnExactSplitAny_walk a0 a1 W b0 b1)

theorem fnExactSplitAny_holds : Rows.FnExactSplitAnySaid :=
  OpenClaim.holds_of_wide 5 Try.f5 rfl rfl rfl rfl rfl rfl rfl ⟨rfl, rfl, rfl, rfl, rfl⟩ rfl rfl rfl rfl rfl (by kernel_rfl) Try.func5 (by kernel_rfl)
    (of_decide_eq_true (by kernel_rfl)) (by unfold Func.isWrapper; first | (rw [if_pos (by decide +kernel)]; kernel_rfl) | (rw [if_neg (by decide +kernel)]; exact ⟨rfl, rfl⟩))
    (fun os started H enc _ => fnExactSplitAny_row os started H enc)

end Go.Proofs.Ytpocfbhbllphdaa
