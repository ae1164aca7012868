/- FnExactJoin: for every slice of strings and every string the law returns true and its arguments read as before. No condition. -/
import Derived.Test.YtpocfbhbllphdaaOwn
import Derived.Test.YtpocfbhbllphdaaJoin
namespace Go.Proofs.Ytpocfbhbllphdaa
open Go.ChangeShapes Go.WideShapes Go.ChangeAt Go.RowKit
open Go.ChangeMaps (open_string shut_string)

theorem cellsOf_str : Try.prog.cellsOf 9 = 1 := by kernel_rfl

set_option maxHeartbeats 400000 in
theorem fnExactJoin_walk0 (l : List ByteArray) (v : Value) (y : ByteArray) (w : World) (hl : Lst w v (strs l)) (hz : ∀ x ∈ l, x.size ≤ maxLen) (hy : y.size ≤ maxLen) :
    Calls Try.prog 7 #[v, .string y] w fun e w' => e = .returned (.bool true) ∧ Below w.heap.size w w' := by
  unfold maxLen at hy
  have HL := Lib.hid hl
  have HZ := Lib.hid hz
  obtain ⟨A, c, rfl, -, -, -⟩ := hl
  clear hz
  by_cases h1 : y.size ≤ 1048576
  · go_enter Try.func7, Try.ntmps7
    go_wp2_with fail
    refine (szStringS_any l _ 1048576 _ HL.out HZ.out (by omega) (by omega)).mono ?_
    rintro e w1 ⟨rfl, r, rfl, hr1, hr2, hr3⟩
    by_cases hr : r < 0
    · clear hr3
      go_wp2_with fail
      go_ret
      exact ⟨rfl, Below.refl _ _⟩
    · have hn : l.length + totalS l ≤ 1048576 := by have := hr3 (by omega); omega
      have HN := Lib.hid hn
      have hn1 : l.length ≤ 1048576 := by omega
      have hj : (joinS l y).size ≤ 140737488355328 := by
        have := joinS_small l y hn h1 l.length
        rw [List.take_length] at this
        omega
      have HJ := Lib.hid hj
      clear hr3 hn hj
      go_wp2_with fail
      refine (toStringS_any l _ _ HL.out hn1).mono ?_
      rintro e w2 ⟨v2, rfl, ho2, hb2⟩
      go_wp2_with fail
      refine (specJoin_any l y v2 _ (Lst.of_own ho2) HN.out h1).mono ?_
      rintro e w3 ⟨rfl, rfl⟩
      go_wp2_with fail
      refine (toStringS_any l _ _ (HL.out.below hb2) hn1).mono ?_
      rintro e w4 ⟨v4, rfl, ho4, hb4⟩
      go_wp2_with fail
      refine (implJoin_any l y v4 _ (Lst.of_own ho4) (by omega) HJ.out).mono ?_
      rintro e w5 ⟨rfl, hb5⟩
      have hb24 : Below w.heap.size w w4 := hb2.trans (hb4.mono hb2.size)
      have hb25 : Below w.heap.size w w5 := hb24.trans (hb5.mono hb24.size)
      go_wp2_with fail
      refine (toStringS_any l _ _ (HL.out.below hb25) hn1).mono ?_
      rintro e w6 ⟨v6, rfl, ho6, hb6⟩
      go_wp2_with fail
      refine (eqStringS_same l v4 v6 _ (((Lst.of_own ho4).below hb5).below hb6) (Lst.of_own ho6)).mono ?_
      rintro e w7 ⟨rfl, n7, rfl⟩
      go_wp2_with fail
      go_ret
      exact ⟨rfl, below_drewN (hb25.trans (hb6.mono hb25.size)) n7⟩
  · go_enter Try.func7, Try.ntmps7
    go_wp2_with fail
    go_ret
    exact ⟨rfl, Below.refl _ _⟩

theorem fnExactJoin_walk {H : Type} {enc : TypeId × Value → H} {base : Nat} {r : Reach} {b0 : Nat} {d : DataW H} {ps : List MemPlace} (v : Value) (y : ByteArray) (w : World)
    (hval : Value.okWide Try.prog w r b0 23 v) (h : DataW.Trod enc Try.prog w base (fun _ => true) true 23 v d ps) (hy : y.size ≤ maxLen) :
    Calls Try.prog 7 #[v, .string y] w fun e w' => e = .returned (.bool true) ∧ Below w.heap.size w w' := by
  obtain ⟨l, hl, hz⟩ := lst_arg Try.underlying23 Try.underlying9 cellsOf_str hval h
  exact fnExactJoin_walk0 l v y w hl hz hy

set_option maxRecDepth 100000 in
theorem fnExactJoin_row (os : Os) (started : os.Started) (H : Type) (enc : TypeId × Value → H) :
    ReturnsInHanded {} Try.checked os 7 .any (Rows.fnExactJoinSpec.pre6 enc Try.prog Try.f7 Rows.fnExactJoinRow.domain false) (Rows.fnExactJoinSpec.post enc Try.prog Try.f7 false true false false) :=
  lawLifted (C := Try.checked) ownKnobs started (by kernel_rfl) Try.func7 laidOut (by kernel_rfl) (by kernel_rfl) Try.underlying4 rfl
    (fun ds h => by match ds, h with | [_, _], _ => rfl)
    (ChangeSpec.witness6 (enc := enc) (C := Try.checked) false ⟨#[], #[.slice none 0 0, .string ⟨#[]⟩], []⟩ 8 (by kernel_rfl) (by kernel_rfl) (by kernel_rfl) (by kernel_rfl))
    (fun W base args ds p hval0 hA0 hlt => by
      have hval : ∀ (j : Nat) t v, Try.f7.params[j]? = some t → args[j]? = some v → Value.okWide Try.prog W .any base t v := hval0
      have hA : DataW.TrodAll enc Try.prog W 0 (fun _ => true) true Try.f7.params.toList args.toList ds p := hA0
      clear hval0 hA0
      rw [Try.params7] at hA hval
      obtain ⟨v0, v1, d0, d1, p0, p1, rfl, rfl, rfl, h0, h1⟩ := trodAll_two hA
      obtain ⟨a1, rfl, rfl, rfl, b1⟩ := open_string Try.underlying9 (hval 1 9 v1 rfl rfl) h1
      exact fnExactJoin_walk v0 a1 W (hval 0 23 v0 rfl rfl) h0 b1)

theorem fnExactJoin_holds : Rows.FnExactJoinSaid :=
  OpenClaim.holds_of_wide 7 Try.f7 rfl rfl rfl rfl rfl rfl rfl ⟨rfl, rfl, rfl, rfl, rfl⟩ rfl rfl rfl rfl rfl (by kernel_rfl) Try.func7 (by kernel_rfl)
    (of_decide_eq_true (by kernel_rfl)) (by unfold Func.isWrapper; first | (rw [if_pos (by decide +kernel)]; kernel_rfl) | (rw [if_neg (by decide +kernel)]; exact ⟨rfl, rfl⟩))
    (fun os started H enc _ => fnExactJoin_row os started H enc)

end Go.Proofs.Ytpocfbhbllphdaa
