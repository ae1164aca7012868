/- Texts put together. -/
import Derived.Test.YtiikledbflgejaaMgC36
import Derived.Test.YtiikledbflgejaaMgC19
/- The program's GapsOf and GapLengths, in company. No condition. -/
namespace Go.Proofs.Ytiikledbflgejaa
open Go.Conc Go.RowKit Go.Lib

noncomputable def gpsBody : Code := Try.f6.body.getD .skip
noncomputable def gpsC0 : Code := match gpsBody with | .seq a _ => a | _ => .skip
noncomputable def gpsT1 : Code := match gpsBody with | .seq _ r => r | _ => .skip
noncomputable def gpsOps1 : Array Oper := match gpsT1 with | .seq (.region _ ops _) _ => ops | _ => #[]
noncomputable def gpsT2 : Code := match gpsT1 with | .seq _ r => r | _ => .skip
theorem gpsBody_eq : gpsBody = .seq gpsC0 (.seq (.region 1 gpsOps1 false) gpsT2) := by
  simp only [gpsC0, gpsOps1, gpsT2, gpsT1, gpsBody, Try.f6, Option.getD_some]

set_option maxRecDepth 100000 in
set_option maxHeartbeats 2000000 in
theorem gps_rest (p q n : Int) (l : List Int) (N : Nat) (v u12 u13 u14 : Value) (w : World) (ho : w.ownsRow N 3 1 v l.length (ints l)) (hl : l.length ≤ 1000) (hx : ∀ x ∈ l, 0 ≤ x ∧ x < q ∧ q ≤ 1000) (h0 : 0 < l.length → l.getD 0 0 = 0) :
    gpsT2.wp Try.prog (fun e a' w' => e = .ret ∧ a'.defers = [] ∧ ∃ v', a'.tmps[6]? = some v' ∧ w'.ownsRow w.heap.size 3 1 v' l.length (ints (dsTo q l l.length)) ∧ Below w.heap.size w w') ⟨#[.int .i64 p, .int .i64 q, .int .i64 n, undef, undef, undef, .slice none 0 0, v, undef, undef, undef, undef, u12, u13, u14, v, undef, undef, undef, undef, undef, undef, undef, undef, undef, undef, undef, undef, undef, undef, undef, undef, undef, undef, undef, undef, undef, undef, undef, undef, undef, undef], []⟩ w := by
  obtain ⟨i0, hi0, hz0, hz1, hz2⟩ := info_parts int_info
  obtain ⟨A, cp, rfl⟩ := own_slice ho
  have HO := Lib.hid ho
  have HX := Lib.hid hx
  have HH := Lib.hid h0
  have HNX := Lib.hid (ds_next q l)
  have H0 : Hid (dsTo q l 0 = []) := rfl
  clear ho hx h0
  generalize dsTo q l = T at *
  simp only [gpsT2, gpsT1, gpsBody, Try.f6, Option.getD_some]
  go_wp2_with fail
  go_loopw [8, 18] (fun lv iv w' => ∃ k : Nat, k ≤ l.length ∧ iv = .int .i64 (k : Int) ∧ (∃ A cp, lv = .slice A k cp) ∧ w'.ownsRow w.heap.size 3 1 lv k (ints (T k)) ∧ Below w.heap.size w w') (fun _ iv _ => l.length - (RowKit.intOf iv).toNat)
  case atStart =>
    refine ⟨0, Nat.zero_le _, rfl, ⟨_, _, rfl⟩, ?_, Below.refl _ _⟩
    rw [H0.out]
    exact ⟨rfl, .inl ⟨rfl, rfl⟩⟩
  case round =>
    obtain ⟨k, hk, rfl, ⟨A3, cp3, rfl⟩, ho3, hb3⟩ := hrel
    have HO3 := Lib.hid ho3
    have HB3 := Lib.hid hb3
    have hbz := hb3.size
    clear ho3 hb3
    by_cases hlt : k < l.length
    · obtain ⟨g, cp', he, _⟩ := own_some HO.out (by omega)
      injection he with he _ he2
      subst he; subst he2
      have hgl := (HO.out.lt g rfl).2
      have hlt' : (k : Int) < (l.length : Int) := by omega
      have ck : wr.cell? ⟨g, k, none⟩ = some (.int .i64 (l.getD k 0)) := (HB3.out.cell (p := ⟨g, k, none⟩) hgl).trans ((World.ownsRow.cellAt HO.out k (by omega)).trans (ints_getD hlt))
      have bk := HX.out _ (getD_mem hlt)
      have HN := Lib.hid (HNX.out k)
      by_cases hnx : k + 1 < l.length
      · have ck1 : wr.cell? ⟨g, k + 1, none⟩ = some (.int .i64 (l.getD (k + 1) 0)) := (HB3.out.cell (p := ⟨g, k + 1, none⟩) hgl).trans ((World.ownsRow.cellAt HO.out (k + 1) (by omega)).trans (ints_getD hnx))
        have bk1 := HX.out _ (getD_mem hnx)
        rw [if_pos hnx] at HN
        have hnx' : (k : Int) + 1 < (l.length : Int) := by omega
        generalize l.getD (k + 1) 0 = y at *
        generalize l.getD k 0 = x at *
        go_wp2_with (at_builtin
                     refine wpList_append1 _ rfl (.tmp 34) (.tmp 38) _ rfl w.heap.size 3 i0 _ 8 Try.underlying24 hi0 hz0 hz1 hz2 rfl (.slice A3 k cp3) k (ints (T k)) rfl HO3.out (.int .i64 (y - x)) rfl rfl (by unfold maxLen; omega) (by omega) hbz ?_
                     intro v' w4 hown4 hbel4)
        have ho4 : w4.ownsRow w.heap.size 3 1 v' (k + 1) (ints (T (k + 1))) := by rw [HN.out, ints_snoc]; exact hown4
        obtain ⟨A5, cp5, rfl⟩ := own_slice ho4
        go_roundw
        case rel => exact ⟨k + 1, by omega, by go_num, ⟨A5, cp5, rfl⟩, ho4, HB3.out.trans hbel4⟩
        case measure => simp [RowKit.intOf]; omega
      · rw [if_neg hnx, HH.out (by omega), Int.add_zero] at HN
        have hnx' : ¬ (k : Int) + 1 < (l.length : Int) := by omega
        generalize l.getD k 0 = x at *
        go_wp2_with (at_builtin
                     refine wpList_append1 _ rfl (.tmp 34) (.tmp 38) _ rfl w.heap.size 3 i0 _ 8 Try.underlying24 hi0 hz0 hz1 hz2 rfl (.slice A3 k cp3) k (ints (T k)) rfl HO3.out (.int .i64 (q - x)) rfl rfl (by unfold maxLen; omega) (by omega) hbz ?_
                     intro v' w4 hown4 hbel4)
        have ho4 : w4.ownsRow w.heap.size 3 1 v' (k + 1) (ints (T (k + 1))) := by rw [HN.out, ints_snoc]; exact hown4
        obtain ⟨A5, cp5, rfl⟩ := own_slice ho4
        go_roundw
        case rel => exact ⟨k + 1, by omega, by go_num, ⟨A5, cp5, rfl⟩, ho4, HB3.out.trans hbel4⟩
        case measure => simp [RowKit.intOf]; omega
    · have hkl : k = l.length := by omega
      subst hkl
      have hlt' : ¬ (l.length : Int) < (l.length : Int) := by omega
      go_wp2_with fail
      exact ⟨HO3.out, HB3.out⟩

set_option maxRecDepth 100000 in
set_option maxHeartbeats 2000000 in
theorem c_gps (p q n : Int) (W : World) : CCalls Try.prog 6 #[.int .i64 p, .int .i64 q, .int .i64 n] W fun v w' => w'.ownsRow W.heap.size 3 1 v (gpR p q n).length (ints (gpR p q n)) ∧ Bl W.heap.size W w' := by
  intro Fin cs hK
  have henter : Frame.enter Try.prog 6 #[.int .i64 p, .int .i64 q, .int .i64 n] .normal = ({ (default : Frame) with fn := 6, kind := .normal } : Frame).at ⟨#[.int .i64 p, .int .i64 q, .int .i64 n, undef, undef, undef, undef, undef, undef, undef, undef, undef, undef, undef, undef, undef, undef, undef, undef, undef, undef, undef, undef, undef, undef, undef, undef, undef, undef, undef, undef, undef, undef, undef, undef, undef, undef, undef, undef, undef, undef, undef], []⟩ [.code gpsBody] := by
    simp [Frame.enter, Frame.at, Try.func6, gpsBody, Try.f6]
  rw [henter, gpsBody_eq]
  have leave := can_leave (cs := cs) Try.func6 (t := 6) (by simp [Try.f6]) hK
  refine Can.silent rfl (fun _ => stepG_seq) ?_
  refine (CWp.of (c := gpsC0) (R := fun e a' w => e = .normal ∧ a' = ⟨#[.int .i64 p, .int .i64 q, .int .i64 n, undef, undef, undef, .slice none 0 0, undef, undef, undef, undef, undef, undef, undef, undef, undef, undef, undef, undef, undef, undef, undef, undef, undef, undef, undef, undef, undef, undef, undef, undef, undef, undef, undef, undef, undef, undef, undef, undef, undef, undef, undef], []⟩ ∧ Bl W.heap.size W w)
    closedS noEarlyS (by kernel_rfl) rfl (fun τ d => ?_) (fun e a w h => .inl h.1)) Fin _ _ cs rfl ?_
  · simp only [gpsC0, gpsBody, Try.f6, Option.getD_some]
    go_wp2_with fail
    exact ⟨rfl, rfl, rfl, Nat.le_refl _, fun _ _ => rfl⟩
  rintro e a' w0 ⟨τ0, d0, rfl, rfl, hb0⟩
  replace hb0 := hb0.un
  show Can Try.prog Fin (G (Frame.at _ _ (.code (.seq (.region 1 gpsOps1 false) gpsT2) :: [])) cs) w0
  refine Can.silent rfl (fun _ => stepG_seq) ?_
  refine Can.silent rfl (fun _ => stepG_region) ?_
  have hrange : List.range gpsOps1.size = [0, 1, 2, 3, 4] := by simp [gpsOps1, gpsT1, gpsBody, Try.f6, List.range, List.range.loop]
  rw [hrange]
  simp only [gpsOps1, gpsT1, gpsBody, Try.f6, Option.getD_some]
  refine Can.op rfl rfl rfl (fun _ => rfl) (fun _ => rfl) ?_
  refine Can.op rfl rfl rfl (fun _ => rfl) (fun _ => rfl) ?_
  refine Can.op rfl rfl rfl (fun _ => rfl) (fun _ => rfl) ?_
  walk_nrm
  refine Can.call rfl rfl rfl (run_direct rfl rfl Try.func5 pts_body pts_name (by simp [Act.eval])) (c_pts p q n w0) fun v w1 hR => ?_
  obtain ⟨ho, hb1⟩ := hR
  walk_nrm
  refine Can.op rfl rfl rfl (fun _ => rfl) (fun _ => rfl) ?_
  walk_nrm
  refine Can.silent rfl (fun _ => stepG_region_end) ?_
  have hb : Bl W.heap.size W w1 := hb0.trans (hb1.mono hb0.size)
  have hrest := fun τ d => gps_rest p q n (ptR p q n) w0.heap.size v (.int .i64 p) (.int .i64 q) (.int .i64 n) (tp w1 τ d) (own_tp ho τ d) (pt_facts p q n).1 (pt_facts p q n).2 (ptR_head p q n)
  have hlen : (gpR p q n).length = (ptR p q n).length := ds_len _ _ _
  refine (CWp.of (R := fun e a' w => e = .ret ∧ a'.defers = [] ∧ ∃ v', a'.tmps[6]? = some v' ∧ w.ownsRow W.heap.size 3 1 v' (gpR p q n).length (ints (gpR p q n)) ∧ Bl W.heap.size W w) closedS noEarlyS (c := gpsT2) (by kernel_rfl) rfl (fun τ d => wp_mono (hrest τ d) (fun e a' w ⟨h1, h2, v', h3, h4, h5⟩ => ⟨h1, h2, v', h3, ?_, ?_⟩)) (fun e a w h => .inr h.1)) Fin _ _ cs rfl ?_
  · rw [hlen]
    exact own_mono h4 hb.size
  · exact hb.trans ((Bl.tp' (Bl.ofBelow h5)).mono hb.size)
  rintro e a' w2 ⟨τ2, d2, rfl, hd, v', hv, ho2, hb2⟩
  exact fun todo => leave a' todo w2 _ hd hv ⟨ho2, hb2.un⟩
theorem gps_name : (Try.f6.name == "runtime.NumGoroutine") = false := by kernel_rfl
theorem gps_body : Try.f6.body = some gpsBody := by simp only [gpsBody, Try.f6, Option.getD_some]

noncomputable def glnBody : Code := Try.f7.body.getD .skip
noncomputable def glnC0 : Code := match glnBody with | .seq a _ => a | _ => .skip
noncomputable def glnT1 : Code := match glnBody with | .seq _ r => r | _ => .skip
noncomputable def glnOps1 : Array Oper := match glnT1 with | .seq (.region _ ops _) _ => ops | _ => #[]
noncomputable def glnT2 : Code := match glnT1 with | .seq _ r => r | _ => .skip
theorem glnBody_eq : glnBody = .seq glnC0 (.seq (.region 1 glnOps1 false) glnT2) := by
  simp only [glnC0, glnOps1, glnT2, glnT1, glnBody, Try.f7, Option.getD_some]

set_option maxRecDepth 100000 in
set_option maxHeartbeats 2000000 in
theorem c_gln (p q n : Int) (W : World) : CCalls Try.prog 7 #[.int .i64 p, .int .i64 q, .int .i64 n] W fun v w' => w'.ownsRow W.heap.size 3 1 v (glnR p q n).length (ints (glnR p q n)) ∧ Bl W.heap.size W w' := by
  intro Fin cs hK
  have henter : Frame.enter Try.prog 7 #[.int .i64 p, .int .i64 q, .int .i64 n] .normal = ({ (default : Frame) with fn := 7, kind := .normal } : Frame).at ⟨#[.int .i64 p, .int .i64 q, .int .i64 n, undef, undef, undef, undef, undef, undef, undef, undef, undef], []⟩ [.code glnBody] := by
    simp [Frame.enter, Frame.at, Try.func7, glnBody, Try.f7]
  rw [henter, glnBody_eq]
  have leave := can_leave (cs := cs) Try.func7 (t := 6) (by simp [Try.f7]) hK
  refine Can.silent rfl (fun _ => stepG_seq) ?_
  refine (CWp.of (c := glnC0) (R := fun e a' w => e = .normal ∧ a' = ⟨#[.int .i64 p, .int .i64 q, .int .i64 n, undef, undef, undef, .slice none 0 0, undef, undef, undef, undef, undef], []⟩ ∧ Bl W.heap.size W w)
    closedS noEarlyS (by kernel_rfl) rfl (fun τ d => ?_) (fun e a w h => .inl h.1)) Fin _ _ cs rfl ?_
  · simp only [glnC0, glnBody, Try.f7, Option.getD_some]
    go_wp2_with fail
    exact ⟨rfl, rfl, rfl, Nat.le_refl _, fun _ _ => rfl⟩
  rintro e a' w0 ⟨τ0, d0, rfl, rfl, hb0⟩
  replace hb0 := hb0.un
  show Can Try.prog Fin (G (Frame.at _ _ (.code (.seq (.region 1 glnOps1 false) glnT2) :: [])) cs) w0
  refine Can.silent rfl (fun _ => stepG_seq) ?_
  refine Can.silent rfl (fun _ => stepG_region) ?_
  have hrange : List.range glnOps1.size = [0, 1, 2, 3, 4, 5] := by simp [glnOps1, glnT1, glnBody, Try.f7, List.range, List.range.loop]
  rw [hrange]
  simp only [glnOps1, glnT1, glnBody, Try.f7, Option.getD_some]
  refine Can.op rfl rfl rfl (fun _ => rfl) (fun _ => rfl) ?_
  refine Can.op rfl rfl rfl (fun _ => rfl) (fun _ => rfl) ?_
  refine Can.op rfl rfl rfl (fun _ => rfl) (fun _ => rfl) ?_
  walk_nrm
  refine Can.call rfl rfl rfl (run_direct rfl rfl Try.func6 gps_body gps_name (by simp [Act.eval])) (c_gps p q n w0) fun v w1 hR => ?_
  obtain ⟨ho, hb1⟩ := hR
  walk_nrm
  obtain ⟨sc, hsc⟩ := srt_body
  refine Can.call rfl rfl rfl (run_direct rfl rfl Try.func16 hsc srt_name (by simp [Act.eval])) (cSortedOnce (gpR p q n) (glnR p q n) v w0.heap.size w1 ho (Nat.le_trans (gpR_len p q n) (by omega)) (glTo_asc _ _) (gl_mem _)) fun v2 w2 hR => ?_
  obtain ⟨ho2, hb2⟩ := hR
  walk_nrm
  refine Can.op rfl rfl rfl (fun _ => rfl) (fun _ => rfl) ?_
  walk_nrm
  refine Can.silent rfl (fun _ => stepG_region_end) ?_
  have hb : Bl W.heap.size W w2 := hb0.trans ((hb1.trans hb2).mono hb0.size)
  have hown : w2.ownsRow W.heap.size 3 1 v2 (glnR p q n).length (ints (glnR p q n)) := own_mono ho2 hb0.size
  refine (CWp.of (R := fun e a' w => (e = .ret ∧ a'.defers = [] ∧ a'.tmps[6]? = some v2) ∧ (w.ownsRow W.heap.size 3 1 v2 (glnR p q n).length (ints (glnR p q n)) ∧ Bl W.heap.size W w)) closedS noEarlyS (c := glnT2) (by kernel_rfl) rfl (fun τ d => ?_) (fun e a w h => .inr h.1.1)) Fin _ _ cs rfl ?_
  · have hbt : Bl W.heap.size W (tp w2 τ d) := hb.trans ⟨rfl, rfl, rfl, Nat.le_refl _, fun _ _ => rfl⟩
    have hot := own_tp hown τ d
    generalize tp w2 τ d = wx at *
    simp only [glnT2, glnT1, glnBody, Try.f7, Option.getD_some]
    go_wp2_with fail
  rintro e a' w3 ⟨τ2, d2, ⟨rfl, hd, hv⟩, ho3, hb3⟩
  exact fun todo => leave a' todo w3 _ hd hv ⟨ho3, hb3.un⟩
theorem gln_name : (Try.f7.name == "runtime.NumGoroutine") = false := by kernel_rfl
theorem gln_body : Try.f7.body = some glnBody := by simp only [glnBody, Try.f7, Option.getD_some]
end Go.Proofs.Ytiikledbflgejaa

/- The program's NearestTo, in company. No condition. -/
namespace Go.Proofs.Ytiikledbflgejaa
open Go.Conc Go.RowKit

/-! ### the first of the least, the first of the greatest -/
theorem nrTo_min (P Q : Nat) : ∀ k, (1 ≤ (nrTo P Q (k + 1)).1 ∧ (nrTo P Q (k + 1)).1 ≤ k + 1) ∧ (∀ j, 1 ≤ j → j ≤ k + 1 → dpN P Q (nrTo P Q (k + 1)).1 ≤ dpN P Q j) ∧ (∀ j, 1 ≤ j → j < (nrTo P Q (k + 1)).1 → dpN P Q (nrTo P Q (k + 1)).1 < dpN P Q j)
  | 0 => by
    have e : (nrTo P Q (0 + 1)).1 = 1 := by
      show (if dpN P Q 1 < dpN P Q 1 then 1 else 1) = 1
      split <;> rfl
    rw [e]
    refine ⟨by omega, fun j h1 h2 => ?_, fun j h1 h2 => by omega⟩
    have : j = 1 := by omega
    rw [this]
    exact Nat.le_refl _
  | k + 1 => by
    obtain ⟨⟨h1, h2⟩, h3, h4⟩ := nrTo_min P Q k
    have e : (nrTo P Q (k + 1 + 1)).1 = if dpN P Q (k + 1 + 1) < dpN P Q (nrTo P Q (k + 1)).1 then k + 1 + 1 else (nrTo P Q (k + 1)).1 := rfl
    rw [e]
    generalize (nrTo P Q (k + 1)).1 = a at *
    by_cases hc : dpN P Q (k + 1 + 1) < dpN P Q a
    · rw [if_pos hc]
      refine ⟨by omega, fun j j1 j2 => ?_, fun j j1 j2 => ?_⟩
      · by_cases hj : j = k + 1 + 1
        · rw [hj]; exact Nat.le_refl _
        · have := h3 j j1 (by omega); omega
      · have := h3 j j1 (by omega); omega
    · rw [if_neg hc]
      refine ⟨by omega, fun j j1 j2 => ?_, h4⟩
      by_cases hj : j = k + 1 + 1
      · rw [hj]; omega
      · exact h3 j j1 (by omega)
theorem nrTo_max (P Q : Nat) : ∀ k, (1 ≤ (nrTo P Q (k + 1)).2 ∧ (nrTo P Q (k + 1)).2 ≤ k + 1) ∧ (∀ j, 1 ≤ j → j ≤ k + 1 → dpN P Q j ≤ dpN P Q (nrTo P Q (k + 1)).2) ∧ (∀ j, 1 ≤ j → j < (nrTo P Q (k + 1)).2 → dpN P Q j < dpN P Q (nrTo P Q (k + 1)).2)
  | 0 => by
    have e : (nrTo P Q (0 + 1)).2 = 1 := by
      show (if dpN P Q 1 < dpN P Q 1 then 1 else 1) = 1
      split <;> rfl
    rw [e]
    refine ⟨by omega, fun j h1 h2 => ?_, fun j h1 h2 => by omega⟩
    have : j = 1 := by omega
    rw [this]
    exact Nat.le_refl _
  | k + 1 => by
    obtain ⟨⟨h1, h2⟩, h3, h4⟩ := nrTo_max P Q k
    have e : (nrTo P Q (k + 1 + 1)).2 = if dpN P Q (nrTo P Q (k + 1)).2 < dpN P Q (k + 1 + 1) then k + 1 + 1 else (nrTo P Q (k + 1)).2 := rfl
    rw [e]
    generalize (nrTo P Q (k + 1)).2 = a at *
    by_cases hc : dpN P Q a < dpN P Q (k + 1 + 1)
    · rw [if_pos hc]
      refine ⟨by omega, fun j j1 j2 => ?_, fun j j1 j2 => ?_⟩
      · by_cases hj : j = k + 1 + 1
        · rw [hj]; exact Nat.le_refl _
        · have := h3 j j1 (by omega); omega
      · have := h3 j j1 (by omega); omega
    · rw [if_neg hc]
      refine ⟨by omega, fun j j1 j2 => ?_, h4⟩
      by_cases hj : j = k + 1 + 1
      · rw [hj]; omega
      · exact h3 j j1 (by omega)

/-- the multiples behind the first one -/
def nzs (P Q K : Nat) : List Int := (List.range K).map fun i => ((dpN P Q (i + 1) : Nat) : Int)
theorem nzs_len (P Q K : Nat) : (nzs P Q K).length = K := by simp [nzs]
theorem nzs_at (P Q K j : Nat) (h : j < K) : (nzs P Q K).getD j 0 = ((dpN P Q (j + 1) : Nat) : Int) := by simp [nzs, List.getD, h]
theorem nzs_min (P Q K : Nat) : ∀ k, k < K → Lib.minOf ((nzs P Q K).take (k + 1)) = ((dpN P Q (nrTo P Q (k + 1)).1 : Nat) : Int)
  | 0, h => by
    have e : (nrTo P Q (0 + 1)).1 = 1 := by
      show (if dpN P Q 1 < dpN P Q 1 then 1 else 1) = 1
      split <;> rfl
    rw [Lib.minOf_one, nzs_at _ _ _ _ h, e]
  | k + 1, h => by
    have e : (nrTo P Q (k + 1 + 1)).1 = if dpN P Q (k + 1 + 1) < dpN P Q (nrTo P Q (k + 1)).1 then k + 1 + 1 else (nrTo P Q (k + 1)).1 := rfl
    rw [Lib.minOf_step _ _ (by omega) (by rw [nzs_len]; omega), nzs_min P Q K k (by omega), nzs_at _ _ _ _ h, e]
    split <;> omega
theorem nzs_max (P Q K : Nat) : ∀ k, k < K → Lib.maxOf ((nzs P Q K).take (k + 1)) = ((dpN P Q (nrTo P Q (k + 1)).2 : Nat) : Int)
  | 0, h => by
    have e : (nrTo P Q (0 + 1)).2 = 1 := by
      show (if dpN P Q 1 < dpN P Q 1 then 1 else 1) = 1
      split <;> rfl
    rw [Lib.maxOf_one, nzs_at _ _ _ _ h, e]
  | k + 1, h => by
    have e : (nrTo P Q (k + 1 + 1)).2 = if dpN P Q (nrTo P Q (k + 1)).2 < dpN P Q (k + 1 + 1) then k + 1 + 1 else (nrTo P Q (k + 1)).2 := rfl
    rw [Lib.maxOf_step _ _ (by omega) (by rw [nzs_len]; omega), nzs_max P Q K k (by omega), nzs_at _ _ _ _ h, e]
    split <;> omega
theorem nzs_lo (P Q K : Nat) (h : 1 ≤ K) : Lib.idxOf ((nzs P Q K).take K) (Lib.minOf ((nzs P Q K).take K)) = (((nrTo P Q K).1 - 1 : Nat) : Int) := by
  obtain ⟨k, rfl⟩ : ∃ k, K = k + 1 := ⟨K - 1, by omega⟩
  obtain ⟨⟨h1, h2⟩, h3, h4⟩ := nrTo_min P Q k
  rw [nzs_min P Q (k + 1) k (by omega)]
  refine Lib.idxOf_hit _ _ _ _ (by omega) (by rw [nzs_len]; exact Nat.le_refl _) ?_ fun j hj => ?_
  · rw [nzs_at _ _ _ _ (by omega), show (nrTo P Q (k + 1)).1 - 1 + 1 = (nrTo P Q (k + 1)).1 by omega]
  · rw [nzs_at _ _ _ _ (by omega)]
    have := h4 (j + 1) (by omega) (by omega)
    omega
theorem nzs_hi (P Q K : Nat) (h : 1 ≤ K) : Lib.idxOf ((nzs P Q K).take K) (Lib.maxOf ((nzs P Q K).take K)) = (((nrTo P Q K).2 - 1 : Nat) : Int) := by
  obtain ⟨k, rfl⟩ : ∃ k, K = k + 1 := ⟨K - 1, by omega⟩
  obtain ⟨⟨h1, h2⟩, h3, h4⟩ := nrTo_max P Q k
  rw [nzs_max P Q (k + 1) k (by omega)]
  refine Lib.idxOf_hit _ _ _ _ (by omega) (by rw [nzs_len]; exact Nat.le_refl _) ?_ fun j hj => ?_
  · rw [nzs_at _ _ _ _ (by omega), show (nrTo P Q (k + 1)).2 - 1 + 1 = (nrTo P Q (k + 1)).2 by omega]
  · rw [nzs_at _ _ _ _ (by omega)]
    have := h4 (j + 1) (by omega) (by omega)
    omega


/-- the leaving of a frame with two results in slots -/
theorem can_leave2 {P : Program} {Fin : Goroutine → World → Prop} {f : FuncId} {fn : Func} {cs : List Frame} {R : Value → World → Prop} {t u : Tmp} (hf : P.funcs[f]? = some fn) (hr : fn.results = #[.tmp t, .tmp u])
    (hK : ∀ fr v w', R v w' → fr.leaving P w' (.returned v) → fr.fn = f → Can P Fin (G fr cs) w') (a : Act) (todo : List Item) (w' : World) (v v' : Value) (hd : a.defers = []) (hv : a.tmps[t]? = some v) (hv' : a.tmps[u]? = some v') (h : R (.tuple #[v, v']) w') :
    Can P Fin (G { ({ (default : Frame) with fn := f, kind := .normal } : Frame).at a todo with mode := .returning } cs) w' :=
  hK _ _ w' h ⟨rfl, hd, rfl, fn, hf, by
    show (results fn a.tmps).run P w' = _
    rw [results_tmp2 hr]
    simp [Array.getD_eq_getD_getElem?, hv, hv']⟩ rfl

noncomputable def nrtBody : Code := Try.f10.body.getD .skip
noncomputable def nrtC0 : Code := match nrtBody with | .seq a _ => a | _ => .skip
noncomputable def nrtT1 : Code := match nrtBody with | .seq _ r => r | _ => .skip
noncomputable def nrtOps1 : Array Oper := match nrtT1 with | .seq (.region _ ops _) _ => ops | _ => #[]
noncomputable def nrtT2 : Code := match nrtT1 with | .seq _ r => r | _ => .skip
theorem nrtBody_eq : nrtBody = .seq nrtC0 (.seq (.region 1 nrtOps1 false) nrtT2) := by
  simp only [nrtC0, nrtOps1, nrtT2, nrtT1, nrtBody, Try.f10, Option.getD_some]

set_option maxRecDepth 100000 in
set_option maxHeartbeats 2000000 in
theorem nrt_rest (p q n : Int) (N : Nat) (v u10 u11 u12 u13 : Value) (w : World) (ho : w.ownsRow N 3 1 v (muR p q n).length (ints (muR p q n))) (hnil : muR p q n = [] → v = .slice none 0 0) :
    nrtT2.wp Try.prog (fun e a' w' => e = .ret ∧ a'.defers = [] ∧ a'.tmps[6]? = some (.int .i64 (nrA p q n)) ∧ a'.tmps[7]? = some (.int .i64 (nrB p q n)) ∧ w = w')
      ⟨#[.int .i64 p, .int .i64 q, .int .i64 n, undef, undef, undef, .int .i64 0, .int .i64 0, v, undef, u10, u11, u12, u13, undef, undef, undef, undef, undef, undef, undef, undef, undef, undef, undef, undef, undef, undef, undef], []⟩ w := by
  cases h1 : gpOk p q n
  · have HA : Hid (nrA p q n = -1) := if_neg (by unfold nrOk; rw [h1]; simp)
    have HB : Hid (nrB p q n = -1) := if_neg (by unfold nrOk; rw [h1]; simp)
    obtain rfl := hnil (if_neg (by rw [h1]; decide))
    clear ho hnil h1
    generalize nrA p q n = r at *
    generalize nrB p q n = s at *
    obtain rfl : r = -1 := HA.out
    obtain rfl : s = -1 := HB.out
    simp only [nrtT2, nrtT1, nrtBody, Try.f10, Option.getD_some]
    go_wp2_with fail
  · obtain ⟨P, Q, M, rfl, rfl, rfl, hQ1, hQ2, hPQ, hM1, hM2⟩ := gp_parts h1
    have HG := Lib.hid (muR_get h1)
    have hlen := muR_len h1
    rw [hlen] at ho
    obtain ⟨g, cp, rfl, hcp⟩ := own_some ho hM1
    have HO := Lib.hid ho
    have hok : nrOk (P : Int) Q M = !((M : Int) == 1) := by unfold nrOk; rw [h1]; rfl
    by_cases hM : M = 1
    · have HA : Hid (nrA (P : Int) Q M = -1) := if_neg (by rw [hok, hM]; decide)
      have HB : Hid (nrB (P : Int) Q M = -1) := if_neg (by rw [hok, hM]; decide)
      clear ho hnil h1 hok
      generalize nrA (P : Int) Q M = r at *
      generalize nrB (P : Int) Q M = s at *
      obtain rfl : r = -1 := HA.out
      obtain rfl : s = -1 := HB.out
      subst hM
      simp only [nrtT2, nrtT1, nrtBody, Try.f10, Option.getD_some]
      go_wp2_with fail
    · have hb : ((M : Int) == 1) = false := by simp; omega
      have HA : Hid (nrA (P : Int) Q M = ((nrTo P Q (M - 1)).1 : Int)) := if_pos (by rw [hok, hb]; rfl)
      have HB : Hid (nrB (P : Int) Q M = ((nrTo P Q (M - 1)).2 : Int)) := if_pos (by rw [hok, hb]; rfl)
      have HLE := nrTo_le P Q (M - 1)
      have HLO := Lib.hid (nzs_lo P Q (M - 1) (by omega))
      have HHI := Lib.hid (nzs_hi P Q (M - 1) (by omega))
      have hz : (nzs P Q (M - 1)).length = M - 1 := nzs_len P Q (M - 1)
      have HC : Hid (∀ j, j < (nzs P Q (M - 1)).length → w.cell? ⟨g, 1 + j, none⟩ = some (.int .i64 ((nzs P Q (M - 1)).getD j 0))) := fun j hj => by
        rw [hz] at hj
        rw [nzs_at _ _ _ _ hj, show 1 + j = j + 1 by omega]
        exact (World.ownsRow.cellAt HO.out (j + 1) (by omega)).trans (HG.out (j + 1) (by omega))
      clear ho hnil h1 hok HG HO
      generalize nrA (P : Int) Q M = r at *
      generalize nrB (P : Int) Q M = s at *
      generalize nzs P Q (M - 1) = Z at *
      generalize nrTo P Q (M - 1) = y at *
      have hge : ¬ ((M : Int) < 2) := by omega
      simp only [nrtT2, nrtT1, nrtBody, Try.f10, Option.getD_some]
      go_wp2_with fail
      refine (Try.slices_Min_int g 1 (M - 1) _ Z w (by omega) (by omega) (by omega) HC.out).mono ?_
      rintro e w' ⟨rfl, rfl⟩
      go_wp2_with fail
      refine (Try.slices_Index_int g 1 (M - 1) _ Z _ _ (by omega) (by omega) HC.out).mono ?_
      rintro e w' ⟨rfl, rfl⟩
      rw [HLO.out]
      go_wp2_with fail
      refine (Try.slices_Max_int g 1 (M - 1) _ Z _ (by omega) (by omega) (by omega) HC.out).mono ?_
      rintro e w' ⟨rfl, rfl⟩
      go_wp2_with fail
      refine (Try.slices_Index_int g 1 (M - 1) _ Z _ _ (by omega) (by omega) HC.out).mono ?_
      rintro e w' ⟨rfl, rfl⟩
      rw [HHI.out]
      go_wp2_with fail
      exact ⟨by rw [HA.out]; go_num, by rw [HB.out]; go_num⟩

set_option maxRecDepth 100000 in
set_option maxHeartbeats 2000000 in
theorem cNearestTo (p q n : Int) (W : World) : CCalls Try.prog 10 #[.int .i64 p, .int .i64 q, .int .i64 n] W fun v w' => v = .tuple #[.int .i64 (nrA p q n), .int .i64 (nrB p q n)] ∧ Bl W.heap.size W w' := by
  intro Fin cs hK
  have henter : Frame.enter Try.prog 10 #[.int .i64 p, .int .i64 q, .int .i64 n] .normal = ({ (default : Frame) with fn := 10, kind := .normal } : Frame).at ⟨#[.int .i64 p, .int .i64 q, .int .i64 n, undef, undef, undef, undef, undef, undef, undef, undef, undef, undef, undef, undef, undef, undef, undef, undef, undef, undef, undef, undef, undef, undef, undef, undef, undef, undef], []⟩ [.code nrtBody] := by
    simp [Frame.enter, Frame.at, Try.func10, nrtBody, Try.f10]
  rw [henter, nrtBody_eq]
  have leave := can_leave2 (cs := cs) Try.func10 (t := 6) (u := 7) (by simp [Try.f10]) hK
  refine Can.silent rfl (fun _ => stepG_seq) ?_
  refine (CWp.of (c := nrtC0) (R := fun e a' w => e = .normal ∧ a' = ⟨#[.int .i64 p, .int .i64 q, .int .i64 n, undef, undef, undef, .int .i64 0, .int .i64 0, undef, undef, undef, undef, undef, undef, undef, undef, undef, undef, undef, undef, undef, undef, undef, undef, undef, undef, undef, undef, undef], []⟩ ∧ Bl W.heap.size W w)
    closedS noEarlyS (by kernel_rfl) rfl (fun τ d => ?_) (fun e a w h => .inl h.1)) Fin _ _ cs rfl ?_
  · simp only [nrtC0, nrtBody, Try.f10, Option.getD_some]
    go_wp2_with fail
    exact ⟨rfl, rfl, rfl, Nat.le_refl _, fun _ _ => rfl⟩
  rintro e a' w0 ⟨τ0, d0, rfl, rfl, hb0⟩
  replace hb0 := hb0.un
  show Can Try.prog Fin (G (Frame.at _ _ (.code (.seq (.region 1 nrtOps1 false) nrtT2) :: [])) cs) w0
  refine Can.silent rfl (fun _ => stepG_seq) ?_
  refine Can.silent rfl (fun _ => stepG_region) ?_
  have hrange : List.range nrtOps1.size = [0, 1, 2, 3, 4] := by simp [nrtOps1, nrtT1, nrtBody, Try.f10, List.range, List.range.loop]
  rw [hrange]
  simp only [nrtOps1, nrtT1, nrtBody, Try.f10, Option.getD_some]
  refine Can.op rfl rfl rfl (fun _ => rfl) (fun _ => rfl) ?_
  refine Can.op rfl rfl rfl (fun _ => rfl) (fun _ => rfl) ?_
  refine Can.op rfl rfl rfl (fun _ => rfl) (fun _ => rfl) ?_
  walk_nrm
  refine Can.call rfl rfl rfl (run_direct rfl rfl Try.func17 mul_body mul_name (by simp [Act.eval])) (cMultiplesOf p q n w0) fun v w1 hR => ?_
  obtain ⟨hb1, ho, hnil⟩ := hR
  walk_nrm
  refine Can.op rfl rfl rfl (fun _ => rfl) (fun _ => rfl) ?_
  walk_nrm
  refine Can.silent rfl (fun _ => stepG_region_end) ?_
  have hb : Bl W.heap.size W w1 := hb0.trans (hb1.mono hb0.size)
  have hrest := fun τ d => nrt_rest p q n w0.heap.size v (.int .i64 p) (.int .i64 q) (.int .i64 n) v (tp w1 τ d) (own_tp ho τ d) hnil
  refine (CWp.of (R := fun e a' w => (e = .ret ∧ a'.defers = [] ∧ a'.tmps[6]? = some (.int .i64 (nrA p q n)) ∧ a'.tmps[7]? = some (.int .i64 (nrB p q n))) ∧ Bl W.heap.size W w) closedS noEarlyS (c := nrtT2) (by kernel_rfl) rfl (fun τ d => wp_mono (hrest τ d) (fun e a' w h => ⟨⟨h.1, h.2.1, h.2.2.1, h.2.2.2.1⟩, ?_⟩)) (fun e a w h => .inr h.1.1)) Fin _ _ cs rfl ?_
  · rw [← h.2.2.2.2]
    exact hb.trans ⟨rfl, rfl, rfl, Nat.le_refl _, fun _ _ => rfl⟩
  rintro e a' w2 ⟨τ2, d2, ⟨rfl, hd, hv, hv'⟩, hb2⟩
  exact fun todo => leave a' todo w2 _ _ hd hv hv' ⟨rfl, hb2.un⟩
theorem nrt_name : (Try.f10.name == "runtime.NumGoroutine") = false := by kernel_rfl
theorem nrt_body : Try.f10.body = some nrtBody := by simp only [nrtBody, Try.f10, Option.getD_some]
end Go.Proofs.Ytiikledbflgejaa
