/- FnExactGapLengths, in company: for every argument the law returns true. No condition. -/
import Derived.Test.YtcdchieielpahaaMgE23
namespace Go.Proofs.Ytcdchieielpahaa
open Go.Conc Go.RowKit Go.ChangeShapes Go.WideShapes Go.ChangeAt
open Go.ChangeMaps (open_string shut_string)

noncomputable def lglBody : Code := Try.f5.body.getD .skip
noncomputable def lglC0 : Code := match lglBody with | .seq a _ => a | _ => .skip
noncomputable def lglT1 : Code := match lglBody with | .seq _ r => r | _ => .skip
noncomputable def lglC1 : Code := match lglT1 with | .seq a _ => a | _ => .skip
noncomputable def lglT2 : Code := match lglT1 with | .seq _ r => r | _ => .skip
noncomputable def lglT3 : Code := match lglT2 with | .seq _ (.seq _ (.seq _ (.seq _ (.seq _ (.seq _ (.seq _ (.seq _ (.seq _ r)))))))) => r | _ => .skip
theorem lglBody_eq : lglBody = .seq lglC0 (.seq lglC1 lglT2) := by
  simp only [lglC0, lglC1, lglT2, lglT1, lglBody, Try.f5, Option.getD_some]

set_option maxRecDepth 100000 in
set_option maxHeartbeats 2000000 in
theorem lgl_rest (vw vg vh : Value) (l : List Int) (m : Nat) (hl : l.length ≤ 1000) (hm : m = l.length) (w0 : World) (a : Act) (W : World) (L1 : Lst w0 vh (ints l)) (L2 : Lst w0 vw (ints l)) (L3 : Lst w0 vg (ints (upto 1 m))) (hb0 : Bl W.heap.size W w0)
    (ha : ∃ (u0 u1 u2 u12 u13 u14 u15 u16 u17 u18 u19 u20 u21 u22 u23 u24 u25 u26 u27 u28 u29 u30 u31 u32 u33 u34 u35 u36 u37 u38 : Value), a = ⟨#[u0, u1, u2, undef, undef, undef, .bool false, vw, vg, .int .i64 (1 + (m : Int)), .int .i64 (1 + (m : Int)), vh, u12, u13, u14, u15, u16, u17, u18, u19, u20, u21, u22, u23, u24, u25, u26, u27, u28, u29, u30, u31, u32, u33, u34, u35, u36, u37, u38, undef, undef, undef, undef, undef, undef, undef, undef, undef, undef, undef, undef], []⟩) :
    lglT3.wp Try.prog (fun e a' w' => (e = .ret ∧ a'.defers = [] ∧ a'.tmps[6]? = some (.bool true)) ∧ Bl W.heap.size W w') a w0 := by
  obtain ⟨u0, u1, u2, u12, u13, u14, u15, u16, u17, u18, u19, u20, u21, u22, u23, u24, u25, u26, u27, u28, u29, u30, u31, u32, u33, u34, u35, u36, u37, u38, rfl⟩ := ha
  have HL1 := Lib.hid L1
  have HL2 := Lib.hid L2
  have HL3 := Lib.hid L3
  have HB := Lib.hid hb0
  have hm1 : m ≤ 1000 := by omega
  clear L1 L2 L3 hb0 hm
  simp only [lglT3, lglT2, lglT1, lglBody, Try.f5, Option.getD_some]
  go_wp2_with fail
  refine (eqIntS_b l _ _ _ HL1.out HL2.out).mono ?_
  rintro e w7 ⟨rfl, hb⟩
  have HL4 := Lib.hid (Lst.below HL3.out hb)
  have HB1 : Hid (Bl W.heap.size W w7) := HB.out.trans ((Bl.ofBelow hb).mono HB.out.size)
  clear hb HL1 HL2 HL3 HB
  go_wp2_with fail
  refine (heldIntS_b _ 1 m _ (by omega) (by omega) HL4.out).mono ?_
  rintro e w8 ⟨rfl, hb⟩
  have HB2 : Hid (Bl W.heap.size W w8) := HB1.out.trans ((Bl.ofBelow hb).mono HB1.out.size)
  have hn0 : ¬ (1 + (m : Int) < 0) := by omega
  clear hb HL4 HB1
  go_wp2_with fail
  exact HB2.out

set_option maxRecDepth 100000 in
set_option maxHeartbeats 4000000 in
theorem fnExactGapLengths_cwalk (p q n : Int) (W : World) (_ : (Lit.int .i64 p).wf = true) (_ : (Lit.int .i64 q).wf = true) (_ : (Lit.int .i64 n).wf = true) :
    CCalls Try.prog 5 #[.int .i64 p, .int .i64 q, .int .i64 n] W fun v w' => v = .bool true ∧ Bl W.heap.size W w' := by
  intro Fin cs hK
  have hres := glnR_len p q n
  have henter : Frame.enter Try.prog 5 #[.int .i64 p, .int .i64 q, .int .i64 n] .normal = ({ (default : Frame) with fn := 5, kind := .normal } : Frame).at ⟨#[.int .i64 p, .int .i64 q, .int .i64 n, undef, undef, undef, undef, undef, undef, undef, undef, undef, undef, undef, undef, undef, undef, undef, undef, undef, undef, undef, undef, undef, undef, undef, undef, undef, undef, undef, undef, undef, undef, undef, undef, undef, undef, undef, undef, undef, undef, undef, undef, undef, undef, undef, undef, undef, undef, undef, undef], []⟩ [.code lglBody] := by
    simp [Frame.enter, Frame.at, Try.func5, lglBody, Try.f5]
  rw [henter, lglBody_eq]
  have leave := can_leave (cs := cs) Try.func5 (t := 6) (by simp [Try.f5]) hK
  refine Can.seq ?_
  refine (CWp.of (c := lglC0) (R := fun e a' w => e = .normal ∧ a' = ⟨#[.int .i64 p, .int .i64 q, .int .i64 n, undef, undef, undef, .bool false, undef, undef, undef, undef, undef, undef, undef, undef, undef, undef, undef, undef, undef, undef, undef, undef, undef, undef, undef, undef, undef, undef, undef, undef, undef, undef, undef, undef, undef, undef, undef, undef, undef, undef, undef, undef, undef, undef, undef, undef, undef, undef, undef, undef], []⟩ ∧ Bl W.heap.size W w)
    closedS noEarlyS (by kernel_rfl) rfl (fun τ d => ?_) (fun e a w h => .inl h.1)) Fin _ _ cs rfl ?_
  · simp only [lglC0, lglBody, Try.f5, Option.getD_some]
    go_wp2_with fail
    exact ⟨rfl, rfl, rfl, Nat.le_refl _, fun _ _ => rfl⟩
  rintro e a' w0 ⟨τ0, d0, rfl, rfl, hb0⟩
  replace hb0 := hb0.un
  show Can Try.prog Fin (G (Frame.at _ _ (.code (.seq lglC1 lglT2) :: [])) cs) w0
  refine Can.seq ?_
  refine (CWp.of (c := lglC1) (R := fun e a' w => e = .normal ∧ ∃ vw, a' = ⟨#[.int .i64 p, .int .i64 q, .int .i64 n, undef, undef, undef, .bool false, vw, undef, undef, undef, undef, .int .i64 p, .int .i64 q, .int .i64 n, vw, undef, undef, undef, undef, undef, undef, undef, undef, undef, undef, undef, undef, undef, undef, undef, undef, undef, undef, undef, undef, undef, undef, undef, undef, undef, undef, undef, undef, undef, undef, undef, undef, undef, undef, undef], []⟩ ∧ w.ownsRow w0.heap.size 3 1 vw (glnR p q n).length (ints (glnR p q n)) ∧ Bl w0.heap.size w0 w)
    closedS noEarlyS (by kernel_rfl) rfl (fun τ d => ?_) (fun e a w h => .inl h.1)) Fin _ _ cs rfl ?_
  · simp only [lglC1, lglT1, lglBody, Try.f5, Option.getD_some]
    go_wp2_with fail
    refine (specGapLengths p q n _).mono ?_
    rintro e w1 ⟨v, rfl, ho, hb⟩
    have hbb : Bl w0.heap.size w0 w1 := Bl.tp' (Bl.ofBelow hb)
    have HO := Lib.hid ho
    clear hb ho
    go_wp2_with fail
    exact HO.out
  rintro e a' w1 ⟨τ1, d1, rfl, vw, rfl, how, hb1⟩
  have how : w1.ownsRow w0.heap.size 3 1 vw (glnR p q n).length (ints (glnR p q n)) := how
  replace hb1 := hb1.un
  have HB1 : Bl W.heap.size W w1 := hb0.trans (hb1.mono hb0.size)
  have Lw : Lst w1 vw (ints (glnR p q n)) := Lst.of_own how
  clear hb1 hb0 how
  show Can Try.prog Fin (G (Frame.at _ _ (.code lglT2 :: [])) cs) w1
  simp only [lglT2, lglT1, lglBody, Try.f5, Option.getD_some]
  -- the call
  refine Can.seq ?_
  refine Can.region (l := [0, 1, 2, 3, 4]) rfl ?_
  refine Can.op rfl rfl rfl (fun _ => rfl) (fun _ => rfl) ?_
  refine Can.op rfl rfl rfl (fun _ => rfl) (fun _ => rfl) ?_
  refine Can.op rfl rfl rfl (fun _ => rfl) (fun _ => rfl) ?_
  walk_nrm
  refine Can.call rfl rfl rfl (run_direct rfl rfl Try.func19 gln_body gln_name (by simp [Act.eval])) (c_gln p q n w1) fun vg w2 hR => ?_
  obtain ⟨hog, hb2⟩ := hR
  walk_nrm
  refine Can.op rfl rfl rfl (fun _ => rfl) (fun _ => rfl) ?_
  walk_nrm
  refine Can.regionEnd ?_
  have HB2 : Bl W.heap.size W w2 := HB1.trans (hb2.mono HB1.size)
  have hW1 : W.heap.size ≤ w1.heap.size := HB1.size
  have h12 : w1.heap.size ≤ w2.heap.size := hb2.size
  have hgt : ∀ j, vg.ownBlock = some j → j < w2.heap.size := fun j hj => (hog.lt j hj).2
  -- equal
  refine Can.seq (Can.seq (Can.region (l := [0, 1, 2, 3]) rfl ?_))
  refine Can.op rfl rfl rfl (fun _ => rfl) (fun _ => rfl) ?_
  refine Can.op rfl rfl rfl (fun _ => rfl) (fun _ => rfl) ?_
  walk_nrm
  obtain ⟨c1, hc1⟩ := eqI_body
  refine Can.call rfl rfl rfl (run_direct rfl rfl Try.func13 hc1 eqI_name (by simp [Act.eval])) (cEqI (glnR p q n) vg vw w2 (Lst.of_own hog) (Lst.bl Lw hb2)) fun v3 w3 hR => ?_
  obtain ⟨rfl, hb3⟩ := hR
  walk_nrm
  refine Can.op rfl rfl rfl (fun _ => rfl) (fun _ => rfl) ?_
  walk_nrm
  refine Can.regionEnd (Can.condF (t := false) rfl rfl ?_)
  have HB3 : Bl W.heap.size W w3 := HB2.trans (hb3.mono (by omega))
  have hw3 : Bl w1.heap.size w1 w3 := hb2.trans (hb3.mono h12)
  have h23 : w2.heap.size ≤ w3.heap.size := hb3.size
  have hog3 := own_bl hog hb3
  -- marked
  refine Can.seq (Can.region (l := [0]) rfl ?_)
  refine Can.op rfl rfl rfl (fun _ => rfl) (fun _ => rfl) ?_
  refine Can.regionEnd ?_
  walk_nrm
  refine Can.seq (Can.region (l := [0, 1, 2, 3]) rfl ?_)
  refine Can.op rfl rfl rfl (fun _ => rfl) (fun _ => rfl) ?_
  refine Can.op rfl rfl rfl (fun _ => rfl) (fun _ => rfl) ?_
  walk_nrm
  obtain ⟨c2, hc2⟩ := markI_body
  refine Can.call rfl rfl rfl (run_direct rfl rfl Try.func14 hc2 markI_name (by simp [Act.eval])) (cMarkI w1.heap.size w2.heap.size vg 1 (glnR p q n).length _ w3 (by omega) (by omega) hog3 hgt) fun v4 w4 hR => ?_
  obtain ⟨rfl, hog4, hk4⟩ := hR
  walk_nrm
  refine Can.op rfl rfl rfl (fun _ => rfl) (fun _ => rfl) ?_
  walk_nrm
  refine Can.regionEnd ?_
  have HB4 : Bl W.heap.size W w4 := HB3.keeps hk4 (by omega) hW1
  have hw4 : Bl w1.heap.size w1 w4 := hw3.keeps hk4 (by omega) (Nat.le_refl _)
  have Lg : Lst w4 vg (ints (upto 1 (glnR p q n).length)) := Lst.of_own hog4
  -- held
  refine Can.seq (Can.region (l := [0]) rfl ?_)
  refine Can.op rfl rfl rfl (fun _ => rfl) (fun _ => rfl) ?_
  refine Can.regionEnd ?_
  walk_nrm
  refine Can.seq (Can.region (l := [0, 1, 2, 3]) rfl ?_)
  refine Can.op rfl rfl rfl (fun _ => rfl) (fun _ => rfl) ?_
  refine Can.op rfl rfl rfl (fun _ => rfl) (fun _ => rfl) ?_
  walk_nrm
  obtain ⟨c3, hc3⟩ := heldI_body
  refine Can.call rfl rfl rfl (run_direct rfl rfl Try.func15 hc3 heldI_name (by simp [Act.eval])) (cHeldI vg 1 (glnR p q n).length w4 (by omega) (by omega) Lg) fun v5 w5 hR => ?_
  obtain ⟨rfl, hb5⟩ := hR
  walk_nrm
  refine Can.op rfl rfl rfl (fun _ => rfl) (fun _ => rfl) ?_
  walk_nrm
  refine Can.regionEnd ?_
  have HB5 : Bl W.heap.size W w5 := HB4.trans (hb5.mono HB4.size)
  have hw5 : Bl w1.heap.size w1 w5 := hw4.trans (hb5.mono hw4.size)
  have Lg5 : Lst w5 vg (ints (upto 1 (glnR p q n).length)) := Lst.bl Lg hb5
  refine Can.seq (Can.seq (Can.region (l := [0, 1]) rfl ?_))
  refine Can.op rfl rfl rfl (fun _ => rfl) (fun _ => rfl) ?_
  refine Can.op rfl rfl rfl (fun _ => rfl) (fun _ => rfl) ?_
  refine Can.regionEnd ?_
  walk_nrm
  refine Can.condF rfl (decide_eq_false (by omega)) ?_
  refine Can.seq (Can.seq (Can.region (l := [0, 1, 2]) rfl ?_))
  refine Can.op rfl rfl rfl (fun _ => rfl) (fun _ => rfl) ?_
  refine Can.op rfl rfl rfl (fun _ => rfl) (fun _ => rfl) ?_
  refine Can.op rfl rfl rfl (fun _ => rfl) (fun _ => rfl) ?_
  refine Can.regionEnd ?_
  walk_nrm
  refine Can.condF rfl (by simp) ?_
  -- the second call
  refine Can.seq ?_
  refine Can.region (l := [0, 1, 2, 3, 4]) rfl ?_
  refine Can.op rfl rfl rfl (fun _ => rfl) (fun _ => rfl) ?_
  refine Can.op rfl rfl rfl (fun _ => rfl) (fun _ => rfl) ?_
  refine Can.op rfl rfl rfl (fun _ => rfl) (fun _ => rfl) ?_
  walk_nrm
  refine Can.call rfl rfl rfl (run_direct rfl rfl Try.func19 gln_body gln_name (by simp [Act.eval])) (c_gln p q n w5) fun vh w6 hR => ?_
  obtain ⟨hoh, hb6⟩ := hR
  walk_nrm
  refine Can.op rfl rfl rfl (fun _ => rfl) (fun _ => rfl) ?_
  walk_nrm
  refine Can.regionEnd ?_
  have HB6 : Bl W.heap.size W w6 := HB5.trans (hb6.mono HB5.size)
  have hw6 : Bl w1.heap.size w1 w6 := hw5.trans (hb6.mono hw5.size)
  refine (CWp.of (c := lglT3) closedS noEarlyS (by kernel_rfl) rfl (fun τ d => lgl_rest vw vg vh (glnR p q n) (glnR p q n).length hres rfl (tp w6 τ d) _ W (Lst.of_own hoh) (Lst.bl (w' := w6) Lw hw6) (Lst.bl (w' := w6) Lg5 hb6) (HB6.trans ⟨rfl, rfl, rfl, Nat.le_refl _, fun _ _ => rfl⟩)
    ⟨_, _, _, _, _, _, _, _, _, _, _, _, _, _, _, _, _, _, _, _, _, _, _, _, _, _, _, _, _, _, rfl⟩) (fun e a w h => .inr h.1.1)) Fin _ _ cs rfl ?_
  rintro e a' w9 ⟨τ2, d2, ⟨rfl, hd, hv⟩, hb9⟩
  exact fun todo => leave a' todo w9 _ hd hv ⟨rfl, hb9.un⟩


set_option maxRecDepth 100000 in
theorem fnExactGapLengths_row (os : Os) (started : os.Started) (H : Type) (enc : TypeId × Value → H) :
    ReturnsInLeavingWide {} Try.checked os 5 .any (Rows.fnExactGapLengthsSpec.pre6 enc Try.prog Try.f5 Rows.fnExactGapLengthsRow.domain false) (Rows.fnExactGapLengthsSpec.post enc Try.prog Try.f5 false true false false) :=
  lawLiftedG (C := Try.checked) ownKnobs started (by kernel_rfl) Try.func5 laidOut (by kernel_rfl) (by kernel_rfl) Try.underlying4 rfl
    (fun ds h => by match ds, h with | [_, _, _], _ => rfl)
    (ChangeSpec.witness6 (enc := enc) (C := Try.checked) false ⟨#[], #[.int .i64 0, .int .i64 0, .int .i64 0], []⟩ 8 (by kernel_rfl) (by kernel_rfl) (by kernel_rfl) (by kernel_rfl))
    (fun W base args ds p hval0 hA0 hlt => by
      have hval : ∀ (j : Nat) t v, Try.f5.params[j]? = some t → args[j]? = some v → Value.okWide Try.prog W .any base t v := hval0
      have hA : DataW.TrodAll enc Try.prog W 0 (fun _ => true) true Try.f5.params.toList args.toList ds p := hA0
      clear hval0 hA0
      rw [Try.params5] at hA hval
      obtain ⟨v0, v1, v2, d0, d1, d2, p0, p1, p2, rfl, rfl, rfl, h0, h1, h2⟩ := trodAll_three hA
      obtain ⟨a0, rfl, rfl, rfl, b0⟩ := open_int Try.underlying3 (hval 0 3 v0 rfl rfl) h0
      obtain ⟨a1, rfl, rfl, rfl, b1⟩ := open_int Try.underlying3 (hval 1 3 v1 rfl rfl) h1
      obtain ⟨a2, rfl, rfl, rfl, b2⟩ := open_int Try.underlying3 (hval 2 3 v2 rfl rfl) h2
      exact fnExactGapLengths_cwalk a0 a1 a2 W b0 b1 b2)

theorem fnExactGapLengths_holds : Rows.FnExactGapLengthsSaid :=
  OpenClaim.holds_of_wide_leaving 5 Try.f5 rfl rfl rfl rfl rfl rfl rfl ⟨rfl, rfl, rfl, rfl, rfl⟩ rfl rfl rfl rfl rfl (by kernel_rfl) Try.func5 (by kernel_rfl)
    (of_decide_eq_true (by kernel_rfl)) (by unfold Func.isWrapper; first | (rw [if_pos (by decide +kernel)]; kernel_rfl) | (rw [if_neg (by decide +kernel)]; exact ⟨rfl, rfl⟩))
    (fun os started H enc _ => fnExactGapLengths_row os started H enc)


end Go.Proofs.Ytcdchieielpahaa
