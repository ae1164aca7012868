/- FnExactNearestTo, in company: for every argument the law returns true. No condition. -/
import Derived.Test.YtcdchieielpahaaMgC23
import Derived.Test.YtcdchieielpahaaMgC7
import Derived.Test.YtcdchieielpahaaMgC22
namespace Go.Proofs.Ytcdchieielpahaa
open Go.Conc Go.RowKit Go.ChangeShapes Go.WideShapes Go.ChangeAt
open Go.ChangeMaps (open_string shut_string)

noncomputable def lnrBody : Code := Try.f6.body.getD .skip
noncomputable def lnrC0 : Code := match lnrBody with | .seq a _ => a | _ => .skip
noncomputable def lnrT1 : Code := match lnrBody with | .seq _ r => r | _ => .skip
noncomputable def lnrC1 : Code := match lnrT1 with | .seq a _ => a | _ => .skip
noncomputable def lnrT2 : Code := match lnrT1 with | .seq _ r => r | _ => .skip
noncomputable def lnrOps : Array Oper := match lnrT2 with | .seq (.region _ ops _) _ => ops | _ => #[]
noncomputable def lnrT3 : Code := match lnrT2 with | .seq _ r => r | _ => .skip
theorem lnrBody_eq : lnrBody = .seq lnrC0 (.seq lnrC1 (.seq (.region 2 lnrOps false) lnrT3)) := by
  simp only [lnrC0, lnrC1, lnrOps, lnrT3, lnrT2, lnrT1, lnrBody, Try.f6, Option.getD_some]

set_option maxRecDepth 100000 in
set_option maxHeartbeats 2000000 in
theorem fnExactNearestTo_cwalk (p q n : Int) (W : World) (_ : (Lit.int .i64 p).wf = true) (_ : (Lit.int .i64 q).wf = true) (_ : (Lit.int .i64 n).wf = true) :
    CCalls Try.prog 6 #[.int .i64 p, .int .i64 q, .int .i64 n] W fun v w' => v = .bool true ∧ Bl W.heap.size W w' := by
  intro Fin cs hK
  have henter : Frame.enter Try.prog 6 #[.int .i64 p, .int .i64 q, .int .i64 n] .normal = ({ (default : Frame) with fn := 6, kind := .normal } : Frame).at ⟨#[.int .i64 p, .int .i64 q, .int .i64 n, undef, undef, undef, undef, undef, undef, undef, undef, undef, undef, undef, undef, undef, undef, undef, undef, undef, undef, undef, undef, undef, undef, undef, undef, undef, undef, undef, undef, undef, undef], []⟩ [.code lnrBody] := by
    simp [Frame.enter, Frame.at, Try.func6, lnrBody, Try.f6]
  rw [henter, lnrBody_eq]
  have leave := can_leave (cs := cs) Try.func6 (t := 6) (by simp [Try.f6]) hK
  refine Can.silent rfl (fun _ => stepG_seq) ?_
  refine (CWp.of (c := lnrC0) (R := fun e a' w => e = .normal ∧ a' = ⟨#[.int .i64 p, .int .i64 q, .int .i64 n, undef, undef, undef, .bool false, undef, undef, undef, undef, undef, undef, undef, undef, undef, undef, undef, undef, undef, undef, undef, undef, undef, undef, undef, undef, undef, undef, undef, undef, undef, undef], []⟩ ∧ Bl W.heap.size W w)
    closedS noEarlyS (by kernel_rfl) rfl (fun τ d => ?_) (fun e a w h => .inl h.1)) Fin _ _ cs rfl ?_
  · simp only [lnrC0, lnrBody, Try.f6, Option.getD_some]
    go_wp2_with fail
    exact ⟨rfl, rfl, rfl, Nat.le_refl _, fun _ _ => rfl⟩
  rintro e a' w0 ⟨τ0, d0, rfl, rfl, hb0⟩
  replace hb0 := hb0.un
  show Can Try.prog Fin (G (Frame.at _ _ (.code (.seq lnrC1 (.seq (.region 2 lnrOps false) lnrT3)) :: [])) cs) w0
  refine Can.silent rfl (fun _ => stepG_seq) ?_
  refine (CWp.of (c := lnrC1) (R := fun e a' w => e = .normal ∧ a' = ⟨#[.int .i64 p, .int .i64 q, .int .i64 n, undef, undef, undef, .bool false, .int .i64 (nrA p q n), .int .i64 (nrB p q n), undef, undef, .tuple #[.int .i64 (nrA p q n), .int .i64 (nrB p q n)], .int .i64 p, .int .i64 q, .int .i64 n, .tuple #[.int .i64 (nrA p q n), .int .i64 (nrB p q n)], .int .i64 (nrA p q n), .int .i64 (nrB p q n), undef, undef, undef, undef, undef, undef, undef, undef, undef, undef, undef, undef, undef, undef, undef], []⟩ ∧ Bl W.heap.size W w)
    closedS noEarlyS (by kernel_rfl) rfl (fun τ d => ?_) (fun e a w h => .inl h.1)) Fin _ _ cs rfl ?_
  · simp only [lnrC1, lnrT1, lnrBody, Try.f6, Option.getD_some]
    go_wp2_with fail
    refine (specNearestTo p q n _).mono ?_
    rintro e w1 ⟨rfl, hb⟩
    have hbb : Bl W.heap.size W w1 := hb0.trans ((Bl.tp' (Bl.ofBelow hb)).mono hb0.size)
    clear hb
    go_wp2_with fail
  rintro e a' w1 ⟨τ1, d1, rfl, rfl, hb1⟩
  replace hb1 := hb1.un
  show Can Try.prog Fin (G (Frame.at _ _ (.code (.seq (.region 2 lnrOps false) lnrT3) :: [])) cs) w1
  refine Can.silent rfl (fun _ => stepG_seq) ?_
  refine Can.silent rfl (fun _ => stepG_region) ?_
  have hrange : List.range lnrOps.size = [0, 1, 2, 3, 4, 5, 6, 7, 8] := by simp [lnrOps, lnrT2, lnrT1, lnrBody, Try.f6, List.range, List.range.loop]
  rw [hrange]
  simp only [lnrOps, lnrT2, lnrT1, lnrBody, Try.f6, Option.getD_some]
  refine Can.op rfl rfl rfl (fun _ => rfl) (fun _ => rfl) ?_
  refine Can.op rfl rfl rfl (fun _ => rfl) (fun _ => rfl) ?_
  refine Can.op rfl rfl rfl (fun _ => rfl) (fun _ => rfl) ?_
  walk_nrm
  refine Can.call rfl rfl rfl (run_direct rfl rfl Try.func21 nrt_body nrt_name (by simp [Act.eval])) (cNearestTo p q n w1) fun v w2 hR => ?_
  obtain ⟨rfl, hb2⟩ := hR
  walk_nrm
  refine Can.op rfl rfl rfl (fun _ => rfl) (fun _ => rfl) ?_
  refine Can.op rfl rfl rfl (fun _ => rfl) (fun _ => rfl) ?_
  refine Can.op rfl rfl rfl (fun _ => rfl) (fun _ => rfl) ?_
  refine Can.op rfl rfl rfl (fun _ => rfl) (fun _ => rfl) ?_
  refine Can.op rfl rfl rfl (fun _ => rfl) (fun _ => rfl) ?_
  walk_nrm
  refine Can.silent rfl (fun _ => stepG_region_end) ?_
  have hb : Bl W.heap.size W w2 := hb1.trans (hb2.mono hb1.size)
  refine (CWp.of (R := fun e a' w => (e = .ret ∧ a'.defers = [] ∧ a'.tmps[6]? = some (.bool true)) ∧ Bl W.heap.size W w) closedS noEarlyS (c := lnrT3) (by kernel_rfl) rfl (fun τ d => ?_) (fun e a w h => .inr h.1.1)) Fin _ _ cs rfl ?_
  · have hbt : Bl W.heap.size W (tp w2 τ d) := hb.trans ⟨rfl, rfl, rfl, Nat.le_refl _, fun _ _ => rfl⟩
    generalize tp w2 τ d = wx at *
    simp only [lnrT3, lnrT2, lnrT1, lnrBody, Try.f6, Option.getD_some]
    go_wp2_with fail
  rintro e a' w3 ⟨τ2, d2, ⟨rfl, hd, hv⟩, hb3⟩
  exact fun todo => leave a' todo w3 _ hd hv ⟨rfl, hb3.un⟩

set_option maxRecDepth 100000 in
theorem fnExactNearestTo_row (os : Os) (started : os.Started) (H : Type) (enc : TypeId × Value → H) :
    ReturnsInLeavingWide {} Try.checked os 6 .any (Rows.fnExactNearestToSpec.pre6 enc Try.prog Try.f6 Rows.fnExactNearestToRow.domain false) (Rows.fnExactNearestToSpec.post enc Try.prog Try.f6 false true false false) :=
  lawLiftedG (C := Try.checked) ownKnobs started (by kernel_rfl) Try.func6 laidOut (by kernel_rfl) (by kernel_rfl) Try.underlying4 rfl
    (fun ds h => by match ds, h with | [_, _, _], _ => rfl)
    (ChangeSpec.witness6 (enc := enc) (C := Try.checked) false ⟨#[], #[.int .i64 0, .int .i64 0, .int .i64 0], []⟩ 8 (by kernel_rfl) (by kernel_rfl) (by kernel_rfl) (by kernel_rfl))
    (fun W base args ds p hval0 hA0 hlt => by
      have hval : ∀ (j : Nat) t v, Try.f6.params[j]? = some t → args[j]? = some v → Value.okWide Try.prog W .any base t v := hval0
      have hA : DataW.TrodAll enc Try.prog W 0 (fun _ => true) true Try.f6.params.toList args.toList ds p := hA0
      clear hval0 hA0
      rw [Try.params6] at hA hval
      obtain ⟨v0, v1, v2, d0, d1, d2, p0, p1, p2, rfl, rfl, rfl, h0, h1, h2⟩ := trodAll_three hA
      obtain ⟨a0, rfl, rfl, rfl, b0⟩ := open_int Try.underlying3 (hval 0 3 v0 rfl rfl) h0
      obtain ⟨a1, rfl, rfl, rfl, b1⟩ := open_int Try.underlying3 (hval 1 3 v1 rfl rfl) h1
      obtain ⟨a2, rfl, rfl, rfl, b2⟩ := open_int Try.underlying3 (hval 2 3 v2 rfl rfl) h2
      exact fnExactNearestTo_cwalk a0 a1 a2 W b0 b1 b2)

theorem fnExactNearestTo_holds : Rows.FnExactNearestToSaid :=
  OpenClaim.holds_of_wide_leaving 6 Try.f6 rfl rfl rfl rfl rfl rfl rfl ⟨rfl, rfl, rfl, rfl, rfl⟩ rfl rfl rfl rfl rfl (by kernel_rfl) Try.func6 (by kernel_rfl)
    (of_decide_eq_true (by kernel_rfl)) (by unfold Func.isWrapper; first | (rw [if_pos (by decide +kernel)]; kernel_rfl) | (rw [if_neg (by decide +kernel)]; exact ⟨rfl, rfl⟩))
    (fun os started H enc _ => fnExactNearestTo_row os started H enc)


end Go.Proofs.Ytcdchieielpahaa
