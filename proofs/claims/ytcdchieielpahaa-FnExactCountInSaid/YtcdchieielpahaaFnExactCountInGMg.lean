/- FnExactCountIn, in company: for every argument the law returns true. No condition. -/
import Derived.Test.YtcdchieielpahaaMgC7
import Derived.Test.YtcdchieielpahaaMgC22
namespace Go.Proofs.Ytcdchieielpahaa
open Go.Conc Go.RowKit Go.ChangeShapes Go.WideShapes Go.ChangeAt
open Go.ChangeMaps (open_string shut_string)

noncomputable def lciBody : Code := Try.f9.body.getD .skip
noncomputable def lciC0 : Code := match lciBody with | .seq a _ => a | _ => .skip
noncomputable def lciT1 : Code := match lciBody with | .seq _ r => r | _ => .skip
noncomputable def lciC1 : Code := match lciT1 with | .seq a _ => a | _ => .skip
noncomputable def lciT2 : Code := match lciT1 with | .seq _ r => r | _ => .skip
noncomputable def lciOps : Array Oper := match lciT2 with | .seq (.region _ ops _) _ => ops | _ => #[]
noncomputable def lciT3 : Code := match lciT2 with | .seq _ r => r | _ => .skip
theorem lciBody_eq : lciBody = .seq lciC0 (.seq lciC1 (.seq (.region 2 lciOps false) lciT3)) := by
  simp only [lciC0, lciC1, lciOps, lciT3, lciT2, lciT1, lciBody, Try.f9, Option.getD_some]

set_option maxRecDepth 100000 in
set_option maxHeartbeats 2000000 in
theorem cLawCountIn (p q n a b : Int) (W : World) : CCalls Try.prog 9 #[.int .i64 p, .int .i64 q, .int .i64 n, .int .i64 a, .int .i64 b] W fun v w' => v = .bool true ∧ Bl W.heap.size W w' := by
  intro Fin cs hK
  have henter : Frame.enter Try.prog 9 #[.int .i64 p, .int .i64 q, .int .i64 n, .int .i64 a, .int .i64 b] .normal = ({ (default : Frame) with fn := 9, kind := .normal } : Frame).at ⟨#[.int .i64 p, .int .i64 q, .int .i64 n, .int .i64 a, .int .i64 b, undef, undef, undef, undef, undef, undef, undef, undef, undef, undef, undef, undef, undef, undef, undef, undef, undef, undef, undef, undef, undef, undef, undef], []⟩ [.code lciBody] := by
    simp [Frame.enter, Frame.at, Try.func9, lciBody, Try.f9]
  rw [henter, lciBody_eq]
  have leave := can_leave (cs := cs) Try.func9 (t := 10) (by simp [Try.f9]) hK
  refine Can.silent rfl (fun _ => stepG_seq) ?_
  refine (CWp.of (c := lciC0) (R := fun e a' w => e = .normal ∧ a' = ⟨#[.int .i64 p, .int .i64 q, .int .i64 n, .int .i64 a, .int .i64 b, undef, undef, undef, undef, undef, .bool false, undef, undef, undef, undef, undef, undef, undef, undef, undef, undef, undef, undef, undef, undef, undef, undef, undef], []⟩ ∧ Bl W.heap.size W w)
    closedS noEarlyS (by kernel_rfl) rfl (fun τ d => ?_) (fun e a w h => .inl h.1)) Fin _ _ cs rfl ?_
  · simp only [lciC0, lciBody, Try.f9, Option.getD_some]
    go_wp2_with fail
    exact ⟨rfl, rfl, rfl, Nat.le_refl _, fun _ _ => rfl⟩
  rintro e a' w0 ⟨τ0, d0, rfl, rfl, hb0⟩
  replace hb0 := hb0.un
  show Can Try.prog Fin (G (Frame.at _ _ (.code (.seq lciC1 (.seq (.region 2 lciOps false) lciT3)) :: [])) cs) w0
  refine Can.silent rfl (fun _ => stepG_seq) ?_
  refine (CWp.of (c := lciC1) (R := fun e a' w => e = .normal ∧ a' = ⟨#[.int .i64 p, .int .i64 q, .int .i64 n, .int .i64 a, .int .i64 b, undef, undef, undef, undef, undef, .bool false, .int .i64 (ciR p q n a b), undef, .int .i64 p, .int .i64 q, .int .i64 n, .int .i64 a, .int .i64 b, .int .i64 (ciR p q n a b), undef, undef, undef, undef, undef, undef, undef, undef, undef], []⟩ ∧ Bl W.heap.size W w)
    closedS noEarlyS (by kernel_rfl) rfl (fun τ d => ?_) (fun e a w h => .inl h.1)) Fin _ _ cs rfl ?_
  · simp only [lciC1, lciT1, lciBody, Try.f9, Option.getD_some]
    go_wp2_with fail
    refine (specCountInQ p q n a b _).mono ?_
    rintro e w1 ⟨rfl, rfl⟩
    go_wp2_with fail
    exact hb0.trans ⟨rfl, rfl, rfl, Nat.le_refl _, fun _ _ => rfl⟩
  rintro e a' w1 ⟨τ1, d1, rfl, rfl, hb1⟩
  replace hb1 := hb1.un
  show Can Try.prog Fin (G (Frame.at _ _ (.code (.seq (.region 2 lciOps false) lciT3) :: [])) cs) w1
  refine Can.silent rfl (fun _ => stepG_seq) ?_
  refine Can.silent rfl (fun _ => stepG_region) ?_
  have hrange : List.range lciOps.size = [0, 1, 2, 3, 4, 5, 6] := by simp [lciOps, lciT2, lciT1, lciBody, Try.f9, List.range, List.range.loop]
  rw [hrange]
  simp only [lciOps, lciT2, lciT1, lciBody, Try.f9, Option.getD_some]
  refine Can.op rfl rfl rfl (fun _ => rfl) (fun _ => rfl) ?_
  refine Can.op rfl rfl rfl (fun _ => rfl) (fun _ => rfl) ?_
  refine Can.op rfl rfl rfl (fun _ => rfl) (fun _ => rfl) ?_
  refine Can.op rfl rfl rfl (fun _ => rfl) (fun _ => rfl) ?_
  refine Can.op rfl rfl rfl (fun _ => rfl) (fun _ => rfl) ?_
  walk_nrm
  refine Can.call rfl rfl rfl (run_direct rfl rfl Try.func27 cnt_body cnt_name (by simp [Act.eval])) (cCountIn p q n a b w1) fun v w2 hR => ?_
  obtain ⟨rfl, hb2⟩ := hR
  walk_nrm
  refine Can.op rfl rfl rfl (fun _ => rfl) (fun _ => rfl) ?_
  walk_nrm
  refine Can.silent rfl (fun _ => stepG_region_end) ?_
  have hb : Bl W.heap.size W w2 := hb1.trans (hb2.mono hb1.size)
  refine (CWp.of (R := fun e a' w => (e = .ret ∧ a'.defers = [] ∧ a'.tmps[10]? = some (.bool true)) ∧ Bl W.heap.size W w) closedS noEarlyS (c := lciT3) (by kernel_rfl) rfl (fun τ d => ?_) (fun e a w h => .inr h.1.1)) Fin _ _ cs rfl ?_
  · have hbt : Bl W.heap.size W (tp w2 τ d) := hb.trans ⟨rfl, rfl, rfl, Nat.le_refl _, fun _ _ => rfl⟩
    generalize tp w2 τ d = wx at *
    simp only [lciT3, lciT2, lciT1, lciBody, Try.f9, Option.getD_some]
    go_wp2_with fail
  rintro e a' w3 ⟨τ2, d2, ⟨rfl, hd, hv⟩, hb3⟩
  exact fun todo => leave a' todo w3 _ hd hv ⟨rfl, hb3.un⟩
theorem fnExactCountIn_cwalk (p q n a b : Int) (W : World) (_ : (Lit.int .i64 p).wf = true) (_ : (Lit.int .i64 q).wf = true) (_ : (Lit.int .i64 n).wf = true) (_ : (Lit.int .i64 a).wf = true) (_ : (Lit.int .i64 b).wf = true) :
    CCalls Try.prog 9 #[.int .i64 p, .int .i64 q, .int .i64 n, .int .i64 a, .int .i64 b] W fun v w' => v = .bool true ∧ Bl W.heap.size W w' := cLawCountIn p q n a b W

set_option maxRecDepth 100000 in
theorem fnExactCountIn_row (os : Os) (started : os.Started) (H : Type) (enc : TypeId × Value → H) :
    ReturnsInLeavingWide {} Try.checked os 9 .any (Rows.fnExactCountInSpec.pre6 enc Try.prog Try.f9 Rows.fnExactCountInRow.domain false) (Rows.fnExactCountInSpec.post enc Try.prog Try.f9 false true false false) :=
  lawLiftedG (C := Try.checked) ownKnobs started (by kernel_rfl) Try.func9 laidOut (by kernel_rfl) (by kernel_rfl) Try.underlying4 rfl
    (fun ds h => by match ds, h with | [_, _, _, _, _], _ => rfl)
    (ChangeSpec.witness6 (enc := enc) (C := Try.checked) false ⟨#[], #[.int .i64 0, .int .i64 0, .int .i64 0, .int .i64 0, .int .i64 0], []⟩ 8 (by kernel_rfl) (by kernel_rfl) (by kernel_rfl) (by kernel_rfl))
    (fun W base args ds p hval0 hA0 hlt => by
      have hval : ∀ (j : Nat) t v, Try.f9.params[j]? = some t → args[j]? = some v → Value.okWide Try.prog W .any base t v := hval0
      have hA : DataW.TrodAll enc Try.prog W 0 (fun _ => true) true Try.f9.params.toList args.toList ds p := hA0
      clear hval0 hA0
      rw [Try.params9] at hA hval
      obtain ⟨v0, v1, v2, v3, v4, d0, d1, d2, d3, d4, p0, p1, p2, p3, p4, rfl, rfl, rfl, h0, h1, h2, h3, h4⟩ := trodFive hA
      obtain ⟨a0, rfl, rfl, rfl, b0⟩ := open_int Try.underlying3 (hval 0 3 v0 rfl rfl) h0
      obtain ⟨a1, rfl, rfl, rfl, b1⟩ := open_int Try.underlying3 (hval 1 3 v1 rfl rfl) h1
      obtain ⟨a2, rfl, rfl, rfl, b2⟩ := open_int Try.underlying3 (hval 2 3 v2 rfl rfl) h2
      obtain ⟨a3, rfl, rfl, rfl, b3⟩ := open_int Try.underlying3 (hval 3 3 v3 rfl rfl) h3
      obtain ⟨a4, rfl, rfl, rfl, b4⟩ := open_int Try.underlying3 (hval 4 3 v4 rfl rfl) h4
      exact fnExactCountIn_cwalk a0 a1 a2 a3 a4 W b0 b1 b2 b3 b4)

theorem fnExactCountIn_holds : Rows.FnExactCountInSaid :=
  OpenClaim.holds_of_wide_leaving 9 Try.f9 rfl rfl rfl rfl rfl rfl rfl ⟨rfl, rfl, rfl, rfl, rfl⟩ rfl rfl rfl rfl rfl (by kernel_rfl) Try.func9 (by kernel_rfl)
    (of_decide_eq_true (by kernel_rfl)) (by unfold Func.isWrapper; first | (rw [if_pos (by decide +kernel)]; kernel_rfl) | (rw [if_neg (by decide +kernel)]; exact ⟨rfl, rfl⟩))
    (fun os started H enc _ => fnExactCountIn_row os started H enc)


end Go.Proofs.Ytcdchieielpahaa
