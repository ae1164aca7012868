/- Texts put together. -/
import Derived.Test.YtcdchieielpahaaMgE5
import Derived.Test.YtcdchieielpahaaMgE6
import Derived.Conc.LoneCalls
import Derived.Conc.WalkWords
import Derived.Laws.Cover3
import Derived.RegionTactic
import Derived.Test.YtcdchieielpahaaRows
/- The program's multiplesOf in company: with fine arguments its points in a row of its own, in their order; otherwise nothing. No condition. -/
namespace Go.Proofs.Ytcdchieielpahaa
open Go.Conc Go.RowKit

/-- 'Below', on whatever tape -/
def Bl (N : Nat) (W w : World) : Prop := Below N W (tp w W.tape w.drawn)
theorem Bl.of {N : Nat} {W w : World} {τ τ' : Tp} {d d' : Nat} (h : Below N (tp W τ d) (tp w τ' d')) : Bl N W w := ⟨h.os, rfl, h.output, h.size, h.block⟩
theorem Bl.at {N : Nat} {W w : World} (h : Bl N W w) (d : Nat) : Bl N W (w.at d) := ⟨h.os, rfl, h.output, h.size, h.block⟩
theorem Bl.refl (N : Nat) (W : World) : Bl N W W := ⟨rfl, rfl, rfl, Nat.le_refl _, fun _ _ => rfl⟩
theorem Bl.trans {N : Nat} {A B C : World} (h : Bl N A B) (k : Bl N B C) : Bl N A C := ⟨k.os.trans h.os, rfl, k.output.trans h.output, Nat.le_trans h.size k.size, fun b hb => (k.block b hb).trans (h.block b hb)⟩
theorem Bl.mono {N M : Nat} {A B : World} (h : Bl N A B) (hm : M ≤ N) : Bl M A B := ⟨h.os, rfl, h.output, h.size, fun b hb => h.block b (Nat.lt_of_lt_of_le hb hm)⟩
theorem Bl.ofBelow {N : Nat} {W w : World} (h : Below N W w) : Bl N W w := ⟨h.os, rfl, h.output, h.size, h.block⟩
theorem Bl.tp {N : Nat} {W w : World} (h : Bl N W w) (τ : Tp) (d : Nat) : Bl N (tp W τ d) w := ⟨h.os, rfl, h.output, h.size, h.block⟩
theorem Bl.tp' {N : Nat} {W w : World} {τ : Tp} {d : Nat} (h : Bl N (Go.Proofs.Ytcdchieielpahaa.tp W τ d) w) : Bl N W w := ⟨h.os, rfl, h.output, h.size, h.block⟩

/-- valid: the list of its points; else nothing -/
def muR (p q n : Int) : List Int := if gpOk p q n = true then (List.range n.toNat).map fun i => ((i * p.toNat % q.toNat : Nat) : Int) else []

/-- the call's answer -/
def MulPost (p q n : Int) (W : World) (v : Value) (w' : World) : Prop :=
  Bl W.heap.size W w' ∧ w'.ownsRow W.heap.size 3 1 v (muR p q n).length (ints (muR p q n)) ∧ (muR p q n = [] → v = .slice none 0 0)
def mulS (p q n : Value) (u10 u11 u12 u13 u14 u15 u16 u17 u18 u19 u20 u21 u22 : Value) : MS :=
  ⟨p, q, n, undef, undef, undef, .slice none 0 0, u10, u11, u12, u13, u14, u15, u16, u17, u18, u19, u20, u21, u22, undef⟩

noncomputable def mulC0 : Code := match mulBody with | .seq a _ => a | _ => .skip
noncomputable def mulC1 : Code := match mulBody with | .seq _ (.seq a _) => a | _ => .skip
noncomputable def mulC3 : Code := match mulT3 with | .seq a _ => a | _ => .skip

/-- behind the test -/
def MulA (p q n : Int) (W : World) (e : Exit) (a : Act) (w : World) : Prop :=
  Bl W.heap.size W w ∧ ∃ u10 u11 u12 u13 u14 u15 u16 u17 u18 u19 u20 u21 u22 : Value,
    a = ⟨#[.int .i64 p, .int .i64 q, .int .i64 n, undef, undef, undef, .slice none 0 0, undef, undef, undef, u10, u11, u12, u13, u14, u15, u16, u17, u18, u19, u20, u21, u22, undef, undef, undef, undef, undef, undef, undef, undef, undef, undef, undef, undef, undef, undef], []⟩ ∧
    ((gpOk p q n = true ∧ e = .normal) ∨ (gpOk p q n = false ∧ e = .ret))

set_option maxRecDepth 100000 in
set_option maxHeartbeats 1000000 in
theorem mul_test (p q n : Int) (W : World) :
    mulC1.wp Try.prog (MulA p q n W) ⟨#[.int .i64 p, .int .i64 q, .int .i64 n, undef, undef, undef, .slice none 0 0, undef, undef, undef, undef, undef, undef, undef, undef, undef, undef, undef, undef, undef, undef, undef, undef, undef, undef, undef, undef, undef, undef, undef, undef, undef, undef, undef, undef, undef, undef], []⟩ W := by
  have HV : Hid (gpOk p q n = (cirB q [p] && (decide (1 ≤ n) && decide (n ≤ 400)))) := by
    show _ = _
    rw [Bool.eq_iff_iff]
    simp [gpOk, cirB, onB]
    omega
  have HC : Hid (∀ w : World, w.cell? ⟨W.heap.size, 0, none⟩ = some (.int .i64 p) → Calls Try.prog 40 #[.int .i64 q, .slice (some ⟨W.heap.size, 0, none⟩) 1 1] w fun e w' => e = .returned (.bool (cirB q [p])) ∧ w = w') := fun w h =>
    implIsCircle q [p] W.heap.size 1 w (by simp) (by intro j hj; simp at hj; subst hj; exact h)
  have hnew : (W.alloc (.cells #[.int .i64 p] 3)).cell? ⟨W.heap.size, 0, none⟩ = some (.int .i64 p) := by
    rw [World.cell?_alloc_at _ _ _ _ rfl]; rfl
  have HN := Lib.hid hnew
  clear hnew
  have HB : Hid (Bl W.heap.size W (W.alloc (.cells #[.int .i64 p] 3))) := Bl.ofBelow ((Below.refl _ _).alloc (Nat.le_refl _) _)
  simp only [mulC1, mulBody, Try.f33, Option.getD_some]
  cases hcb : cirB q [p]
  · have HV1 : Hid (gpOk p q n = false) := by show _ = _; rw [HV.out, hcb, Bool.false_and]
    go_wp2_with fail
    refine (HC.out _ HN.out).mono ?_
    rintro e w' ⟨rfl, rfl⟩
    rw [hcb]
    clear hcb
    go_wp2_with fail
    exact ⟨HB.out, _, _, _, _, _, _, _, _, _, _, _, _, _, rfl, .inr ⟨HV1.out, rfl⟩⟩
  · have HV1 : Hid (gpOk p q n = (decide (1 ≤ n) && decide (n ≤ 400))) := by show _ = _; rw [HV.out, hcb, Bool.true_and]
    by_cases h1 : n < 1
    · have HV2 : Hid (gpOk p q n = false) := by show _ = _; rw [HV1.out]; simp; omega
      go_wp2_with fail
      refine (HC.out _ HN.out).mono ?_
      rintro e w' ⟨rfl, rfl⟩
      rw [hcb]
      clear hcb
      go_wp2_with fail
      exact ⟨HB.out, _, _, _, _, _, _, _, _, _, _, _, _, _, rfl, .inr ⟨HV2.out, rfl⟩⟩
    · by_cases h2 : n > 400
      · have HV2 : Hid (gpOk p q n = false) := by show _ = _; rw [HV1.out]; simp; omega
        go_wp2_with fail
        refine (HC.out _ HN.out).mono ?_
        rintro e w' ⟨rfl, rfl⟩
        rw [hcb]
        clear hcb
        go_wp2_with fail
        exact ⟨HB.out, _, _, _, _, _, _, _, _, _, _, _, _, _, rfl, .inr ⟨HV2.out, rfl⟩⟩
      · have HV2 : Hid (gpOk p q n = true) := by show _ = _; rw [HV1.out]; simp; omega
        go_wp2_with fail
        refine (HC.out _ HN.out).mono ?_
        rintro e w' ⟨rfl, rfl⟩
        rw [hcb]
        clear hcb
        go_wp2_with fail
        exact ⟨HB.out, _, _, _, _, _, _, _, _, _, _, _, _, _, rfl, .inl ⟨HV2.out, rfl⟩⟩

theorem Bl.un {N : Nat} {W w : World} {τ : Tp} {d : Nat} (h : Bl N W (Go.Proofs.Ytcdchieielpahaa.tp w τ d)) : Bl N W w := ⟨h.os, rfl, h.output, h.size, h.block⟩

/-- one operation that yields a value in whatever world -/
theorem Can.op {P : Program} {Fin : Goroutine → World → Prop} {b : Frame} {a : Act} {k : List Item} {cs : List Frame} {w : World} {ops : Array Oper} {i : Nat} {rest : List Nat} {o : Oper} {v : Value} (hb : b.kind = .normal) (ho : ops[i]? = some o)
    (hw : Region.wanted o (yielded ops a.tmps) = true) (hr : ∀ w, (execOp a.eval o).run P w = .ok (.value v) w) (he : ∀ w, (execOp a.eval o).events P w #[] = #[]) (h : Can P Fin (G (b.at (a.put o.dst v) (.inRegion ops rest :: k)) cs) w) :
    Can P Fin (G (b.at a (.inRegion ops (i :: rest) :: k)) cs) w := by
  refine Can.silent rfl (fun w => ?_) h
  rw [stepG_value (v := v) (w' := w) ho hw (by rw [hb]; simp) (hr w)]
  unfold listed
  rw [he w, seen_none]

theorem mulsV_ints (p q : Nat) : ∀ (m k : Nat), mulsV p q k m = ints ((List.range m).map fun i => (((k + i) * p % q : Nat) : Int)) := by
  intro m
  induction m with
  | zero => exact fun k => rfl
  | succ m ih =>
    intro k
    rw [mulsV_snoc, ih k, List.range_succ, List.map_append]
    simp [ints]

set_option maxRecDepth 100000 in
set_option maxHeartbeats 2000000 in
theorem cMultiplesOf (p q n : Int) (W : World) : CCalls Try.prog 33 #[.int .i64 p, .int .i64 q, .int .i64 n] W (MulPost p q n W) := by
  intro Fin cs hK
  have henter : Frame.enter Try.prog 33 #[.int .i64 p, .int .i64 q, .int .i64 n] .normal = mulB.at ⟨#[.int .i64 p, .int .i64 q, .int .i64 n, undef, undef, undef, undef, undef, undef, undef, undef, undef, undef, undef, undef, undef, undef, undef, undef, undef, undef, undef, undef, undef, undef, undef, undef, undef, undef, undef, undef, undef, undef, undef, undef, undef, undef], []⟩ [.code mulBody] := by
    simp [Frame.enter, Frame.at, Try.func33, mulB, mulBody, Try.f33]
  rw [henter]
  -- its return
  have leave : ∀ (a : Act) (todo : List Item) (w' : World) (v : Value), a.defers = [] → a.tmps[6]? = some v → MulPost p q n W v w' → Can Try.prog Fin (G { mulB.at a todo with mode := .returning } cs) w' := fun a todo w' v hd hv hR =>
    hK _ v w' hR ⟨rfl, hd, rfl, Try.f33, Try.func33, by
      rw [show (mulB.at a todo).tmps = a.tmps from rfl]
      have hres : Try.f33.results = #[.tmp 6] := by simp [Try.f33]
      rw [results_tmp hres]
      simp [Array.getD_eq_getD_getElem?, hv]⟩ rfl
  have hbody : mulBody = .seq mulC0 (.seq mulC1 mulT3) := by simp only [mulC0, mulC1, mulT3, mulBody, Try.f33, Option.getD_some]
  have hT3 : mulT3 = .seq mulC3 mulT4 := by simp only [mulC3, mulT4, mulT3, mulBody, Try.f33, Option.getD_some]
  rw [hbody]
  refine Can.silent rfl (fun _ => stepG_seq) ?_
  refine (CWp.of (c := mulC0) (R := fun e a w => e = .normal ∧ a = ⟨#[.int .i64 p, .int .i64 q, .int .i64 n, undef, undef, undef, .slice none 0 0, undef, undef, undef, undef, undef, undef, undef, undef, undef, undef, undef, undef, undef, undef, undef, undef, undef, undef, undef, undef, undef, undef, undef, undef, undef, undef, undef, undef, undef, undef], []⟩ ∧ Bl W.heap.size W w)
    closedS noEarlyS (by kernel_rfl) rfl (fun τ d => ?_) (fun e a w h => .inl h.1)) Fin mulB _ cs rfl ?_
  · simp only [mulC0, mulBody, Try.f33, Option.getD_some]
    go_wp2_with fail
    exact ⟨rfl, rfl, rfl, Nat.le_refl _, fun _ _ => rfl⟩
  rintro e a w0 ⟨τ0, d0, rfl, rfl, hb0⟩
  replace hb0 := hb0.un
  clear τ0 d0
  refine Can.silent rfl (fun _ => stepG_seq) ?_
  refine (CWp.of (c := mulC1) (R := fun e a w => MulA p q n w0 e a w) closedS noEarlyS (by kernel_rfl) rfl (fun τ d => wp_mono (mul_test p q n (tp w0 τ d)) (fun e a w h => ⟨Bl.tp' h.1, h.2⟩)) (fun e a w h => ?_)) Fin mulB _ cs rfl ?_
  · obtain ⟨_, _, _, _, _, _, _, _, _, _, _, _, _, _, _, h | h⟩ := h
    · exact .inl h.2
    · exact .inr h.2
  rintro e a w1 ⟨τ1, d1, hb1, u10, u11, u12, u13, u14, u15, u16, u17, u18, u19, u20, u21, u22, rfl, ⟨hok, rfl⟩ | ⟨hok, rfl⟩⟩
  rotate_left
  · -- nothing
    intro todo
    have hm : muR p q n = [] := if_neg (by rw [hok]; decide)
    refine leave _ todo w1 (.slice none 0 0) rfl rfl ⟨hb0.trans (hb1.un.mono hb0.size), ?_, fun _ => rfl⟩
    rw [hm]
    exact World.ownsRow_nil _ _ _ _
  have hb1' : Bl W.heap.size W w1 := hb0.trans (hb1.un.mono hb0.size)
  clear hb0 hb1
  obtain ⟨P, Q, M, rfl, rfl, rfl, hQ1, hQ2, hPQ, hM1, hM2⟩ := gp_parts hok
  show Can Try.prog Fin (G (mulB.at _ (.code mulT3 :: [])) cs) w1
  rw [hT3]
  refine Can.silent rfl (fun _ => stepG_seq) ?_
  -- the channel
  have hmc : ∀ w : World, (Instr.makeChan 46 (.int .i64 0)).run Try.prog w = .ok (.chan (some w.heap.size)) (w.alloc (.chan 0 #[] false 0 0 false)) := fun w => by
    obtain ⟨i, hi, hb⟩ : ∃ i, Try.prog.info? 3 = some i ∧ i.bytes = 8 := by
      have h : (Try.prog.info? 3).map (·.bytes) = some 8 := by kernel_rfl
      obtain ⟨i, hi, hb⟩ := Option.map_eq_some_iff.1 h
      exact ⟨i, hi, hb⟩
    simpa using run_makeChan (P := Try.prog) (w := w) Try.underlying46 hi .i64 0 (by omega) (by rw [hb]; omega)
  refine (CWp.of (c := mulC3) (R := fun e a w => e = .normal ∧ a = ⟨#[.int .i64 (P : Int), .int .i64 (Q : Int), .int .i64 (M : Int), undef, undef, undef, .slice none 0 0, .chan (some w1.heap.size), undef, undef, u10, u11, u12, u13, u14, u15, u16, u17, u18, u19, u20, u21, u22, .chan (some w1.heap.size), undef, undef, undef, undef, undef, undef, undef, undef, undef, undef, undef, undef, undef], []⟩ ∧
    Bl w1.heap.size w1 w ∧ w.heap[w1.heap.size]? = some (.chan 0 #[] false 0 0 false) ∧ w.heap.size = w1.heap.size + 1) closedS noEarlyS (by kernel_rfl) rfl (fun τ d => ?_) (fun e a w h => .inl h.1)) Fin mulB _ cs rfl ?_
  · simp only [mulC3, mulT3, mulBody, Try.f33, Option.getD_some]
    go_wp2_with fail
    exact ⟨rfl, Bl.tp' (τ := τ) (d := d) (Bl.ofBelow ((Below.refl w1.heap.size (tp w1 τ d)).alloc (Nat.le_refl _) _)), heap_alloc_new _ _, rfl⟩
  rintro e a w2 ⟨τ2, d2, rfl, rfl, hb2, hch, hsz⟩
  replace hb2 := hb2.un
  replace hch : w2.heap[w1.heap.size]? = some (.chan 0 #[] false 0 0 false) := hch
  replace hsz : w2.heap.size = w1.heap.size + 1 := hsz
  clear hmc
  have hT4 : mulT4 = .seq (.region 4 mulOps4 false) mulT5 := by simp only [mulT4, mulOps4, mulT5, mulT3, mulBody, Try.f33, Option.getD_some]
  have hrange : List.range mulOps4.size = [0, 1, 2, 3, 4] := by simp [mulOps4, mulT4, mulT3, mulBody, Try.f33, List.range, List.range.loop]
  show Can Try.prog Fin (G (mulB.at _ (.code mulT4 :: [])) cs) w2
  rw [hT4]
  refine Can.silent rfl (fun _ => stepG_seq) ?_
  refine Can.silent rfl (fun _ => stepG_region) ?_
  rw [hrange]
  generalize hc : w1.heap.size = c at *
  have hR := mul_recvs c w2 (mulS (.int .i64 (P : Int)) (.int .i64 (Q : Int)) (.int .i64 (M : Int)) u10 u11 u12 u13 u14 u15 u16 u17 u18 u19 u20 u21 u22) cs P Q M hM2 undef undef undef undef undef undef undef undef undef undef w2
    ⟨World.ownsRow_nil _ _ _ _, Below.refl _ _, by omega, fun _ => rfl⟩
  have hEnd : ∀ (g : Goroutine) (w : World), MulFin c w2 (mulS (.int .i64 (P : Int)) (.int .i64 (Q : Int)) (.int .i64 (M : Int)) u10 u11 u12 u13 u14 u15 u16 u17 u18 u19 u20 u21 u22) cs P Q M g w → Can Try.prog Fin g w := by
    rintro g w3 ⟨out, u9, u30, u31, u32, u33, u34, u35, rfl, hF⟩
    have hm : muR (P : Int) (Q : Int) (M : Int) = (List.range M).map fun i => ((i * P % Q : Nat) : Int) := if_pos hok
    have hml : mulsV P Q 0 M = ints (muR (P : Int) (Q : Int) (M : Int)) := by
      rw [mulsV_ints, hm]
      simp
    have hpost : MulPost (P : Int) (Q : Int) (M : Int) W out w3 := by
      have hso := hb1'.size
      have hso : W.heap.size ≤ w1.heap.size := hso
      refine ⟨hb1'.trans ((hb2.trans (Bl.ofBelow hF.below)).mono (by omega)), ?_, fun h => hF.nil0 (by rw [hml, h]; rfl)⟩
      have ho := hF.own
      rw [hml] at ho
      have hle : (ints (muR (P : Int) (Q : Int) (M : Int))).length = (muR (P : Int) (Q : Int) (M : Int)).length := by simp [ints]
      rw [hle] at ho
      obtain ⟨o1, o2⟩ := ho
      exact ⟨o1, o2.imp id fun ⟨g, cp, cur, e, hg, r⟩ => ⟨g, cp, cur, e, by omega, r⟩⟩
    have hl := fun (a : Act) (todo : List Item) (hd : a.defers = []) (hv : a.tmps[6]? = some out) => leave a todo w3 out hd hv hpost
    simp only [mulAt, mulOps7, mulL2, mulL, mulEnd, mulT5, mulT4, mulT3, mulBody, mulS, Try.f33, Option.getD_some]
    refine Can.op rfl rfl rfl (fun _ => rfl) (fun _ => rfl) ?_
    walk_nrm
    refine Can.silent rfl (fun _ => stepG_region_end) ?_
    refine Can.silent rfl (fun _ => stepG_seq) ?_
    refine Can.silent rfl (fun _ => stepG_cond (t := false) rfl) ?_
    refine Can.silent rfl (fun _ => stepG_exit (k' := [.code mulEnd]) (by simp only [mulEnd, mulT5, mulT4, mulT3, mulBody, Try.f33, Option.getD_some]; rfl)) ?_
    simp only [mulEnd, mulT5, mulT4, mulT3, mulBody, Try.f33, Option.getD_some]
    refine Can.silent rfl (fun _ => stepG_seq) ?_
    refine Can.silent rfl (fun _ => stepG_region) ?_
    simp only [List.size_toArray, List.length_cons, List.length_nil, Nat.reduceAdd, Nat.zero_add, List.range, List.range.loop]
    refine Can.op rfl rfl rfl (fun _ => rfl) (fun _ => rfl) ?_
    walk_nrm
    refine Can.op rfl rfl rfl (fun _ => rfl) (fun _ => rfl) ?_
    walk_nrm
    refine Can.silent rfl (fun _ => stepG_region_end) ?_
    refine Can.silent rfl (fun _ => stepG_ret') ?_
    exact hl _ _ rfl rfl
  have hgo := Can.phase (P := Try.prog) (Fin := Fin) (g := G (mulB.at ⟨#[.int .i64 (P : Int), .int .i64 (Q : Int), .int .i64 (M : Int), undef, undef, undef, .slice none 0 0, .chan (some c), undef, undef, u10, u11, u12, u13, u14, u15, u16, u17, u18, u19, u20, u21, u22, .chan (some c), .chan (some c), .int .i64 (P : Int), .int .i64 (Q : Int), .int .i64 (M : Int), undef, undef, undef, undef, undef, undef, undef, undef, undef], []⟩ [.inRegion mulOps4 [4], .code mulT5]) cs)
    rfl (fun w => ?_) hch hR (snd_all c P Q M hM2 hPQ hQ2) hEnd
  rotate_left
  · simp only [mulS, mulOps4, mulT4, mulT3, mulBody, Try.f33, Option.getD_some]
    rw [stepG_spawn (d := sndCall c P Q M) (w' := w) (f := .func 46) (c := #[]) rfl rfl (by decide) (by simp [go_sem, sndCall, Deferred.ofValue]) rfl]
    simp [listed, go_sem, seen, Deferred.ofValue]
    rfl
  simp only [mulOps4, mulT4, mulT3, mulBody, Try.f33, Option.getD_some] at hgo ⊢
  refine Can.op rfl rfl rfl (fun _ => rfl) (fun _ => rfl) ?_
  refine Can.op rfl rfl rfl (fun _ => rfl) (fun _ => rfl) ?_
  refine Can.op rfl rfl rfl (fun _ => rfl) (fun _ => rfl) ?_
  refine Can.op rfl rfl rfl (fun _ => rfl) (fun _ => rfl) ?_
  walk_nrm
  exact hgo
theorem mul_name : (Try.f33.name == "runtime.NumGoroutine") = false := by kernel_rfl
theorem mul_body : Try.f33.body = some mulBody := by simp only [mulBody, Try.f33, Option.getD_some]
end Go.Proofs.Ytcdchieielpahaa

/- A call in company, as a step of the walk; what a row of one's own is on another tape. -/
namespace Go.Proofs.Ytcdchieielpahaa
open Go.Conc Go.RowKit

/-- a call -/
theorem Can.call {P : Program} {Fin : Goroutine → World → Prop} {b : Frame} {a : Act} {k : List Item} {cs : List Frame} {w : World} {ops : Array Oper} {i : Nat} {rest : List Nat} {o : Oper} {f : FuncId} {args : Array Value} {R : Value → World → Prop} (hb : b.kind = .normal)
    (ho : ops[i]? = some o) (hw : Region.wanted o (yielded ops a.tmps) = true) (hr : ∀ w, (execOp a.eval o).runT P w #[] = (.ok (.enter f args) w, #[])) (hc : CCalls P f args w R)
    (h : ∀ v w', R v w' → Can P Fin (G (b.at (a.put o.dst v) (.inRegion ops rest :: k)) cs) w') : Can P Fin (G (b.at a (.inRegion ops (i :: rest) :: k)) cs) w := by
  have hk' : (b.kind == CallKind.early) = false := by rw [hb]; rfl
  refine Can.silent (g' := G (Frame.enter P f args .normal) (b.at a (.inRegion ops (i :: rest) :: k) :: cs)) rfl (fun w => ?_) (hc Fin _ fun fr v w' hR hl _ => ?_)
  · rw [stepG_oper ho hw]
    unfold stepG.apply
    simp only [if_true, hr w]
    simp [G, Frame.at, hk', GStep.after, seen_none]
  · obtain ⟨l1, l2, l3, fn, l4, l5⟩ := hl
    have hfin : (b.at a (.inRegion ops (i :: rest) :: k)).finish v = b.at (a.put o.dst v) (.inRegion ops rest :: k) := by rw [Frame.finish_at, ho]; rfl
    have key : ∀ d, ∃ es, stepG P true (G fr (b.at a (.inRegion ops (i :: rest) :: k) :: cs)) (w'.at d) = .go (G (b.at (a.put o.dst v) (.inRegion ops rest :: k)) cs) (w'.at d) es ∧ ∀ e ∈ es, EvOk e := fun d => by
      have hl2 : fr.leaving P (w'.at d) (.returned v) := leaving_tp ⟨l1, l2, l3, fn, l4, l5⟩ w'.tape d
      obtain ⟨_, _, _, fn2, l6, l7⟩ := hl2
      rcases e : (results fn2 fr.tmps).runT P (w'.at d) #[] with ⟨r, es⟩
      have h1 := Sem.runT_fst P (results fn2 fr.tmps) (w'.at d) #[]
      rw [e, l7] at h1
      have h1 : r = .ok v (w'.at d) := h1
      subst h1
      have hev := mild_events P _ (mild_results fn2 fr.tmps) (w'.at d) #[] (by simp)
      rw [e] at hev
      refine ⟨seen P fr.fn es, ?_, seen_ok P _ _ hev⟩
      rw [← hfin]
      simp [G, stepG, unwind, doReturn, l1, l2, l3, l6, e, GStep.after, -Sem.runT_eq]
    refine Can.go rfl fun d => ?_
    obtain ⟨es, h1, h2⟩ := key d
    exact ⟨_, _, es, h1, h2, (h v w' hR).drawn d⟩
/-- the entry of a call of a function by its number -/
theorem run_direct {P : Program} {ρ : Operand → Value} {o : Oper} {f : FuncId} {fn : Func} {c : Code} {args : Array Operand} {ats : Array TypeId} (ho : o.op = .call { callee := .value (.func f), args := args, argTypes := ats }) (hρ : ρ (.func f) = .func (.func f) #[] #[])
    (hf : P.funcs[f]? = some fn) (hb : fn.body = some c) (hn : (fn.name == "runtime.NumGoroutine") = false) {vs : Array Value} (hv : args.map ρ = vs) (w : World) : (execOp ρ o).runT P w #[] = (.ok (.enter f vs) w, #[]) := by
  have e : execOp ρ o = callFunc f (#[] ++ args.map ρ ++ #[]) := by
    unfold execOp
    simp only [ho]
    unfold resolve
    simp only [hρ]
    rfl
  rw [e, run_callFunc hf hb hn, hv]
  simp

/-- the leaving of a frame with one result in a slot -/
theorem can_leave {P : Program} {Fin : Goroutine → World → Prop} {f : FuncId} {fn : Func} {cs : List Frame} {R : Value → World → Prop} {t : Tmp} (hf : P.funcs[f]? = some fn) (hr : fn.results = #[.tmp t])
    (hK : ∀ fr v w', R v w' → fr.leaving P w' (.returned v) → fr.fn = f → Can P Fin (G fr cs) w') (a : Act) (todo : List Item) (w' : World) (v : Value) (hd : a.defers = []) (hv : a.tmps[t]? = some v) (h : R v w') :
    Can P Fin (G { ({ (default : Frame) with fn := f, kind := .normal } : Frame).at a todo with mode := .returning } cs) w' :=
  hK _ v w' h ⟨rfl, hd, rfl, fn, hf, by
    show (results fn a.tmps).run P w' = _
    rw [results_tmp hr]
    simp [Array.getD_eq_getD_getElem?, hv]⟩ rfl
end Go.Proofs.Ytcdchieielpahaa

/- The program's CountIn in company. No condition. -/
namespace Go.Proofs.Ytcdchieielpahaa
open Go.Conc Go.RowKit

noncomputable def cntBody : Code := Try.f27.body.getD .skip
noncomputable def cntC0 : Code := match cntBody with | .seq a _ => a | _ => .skip
noncomputable def cntT1 : Code := match cntBody with | .seq _ r => r | _ => .skip
noncomputable def cntOps1 : Array Oper := match cntT1 with | .seq (.region _ ops _) _ => ops | _ => #[]
noncomputable def cntT2 : Code := match cntT1 with | .seq _ r => r | _ => .skip

theorem muR_at {P Q M : Nat} (hok : gpOk (P : Int) Q M = true) : muR (P : Int) Q M = (List.range M).map fun i => ((i * P % Q : Nat) : Int) := if_pos hok
theorem muR_get {P Q M : Nat} (hok : gpOk (P : Int) Q M = true) (i : Nat) (hi : i < M) : (ints (muR (P : Int) Q M))[i]? = some (.int .i64 ((dpN P Q i : Nat) : Int)) := by
  rw [muR_at hok]
  simp [ints, hi, dpN]
theorem muR_len {P Q M : Nat} (hok : gpOk (P : Int) Q M = true) : (muR (P : Int) Q M).length = M := by
  rw [muR_at hok]; simp

set_option maxRecDepth 100000 in
set_option maxHeartbeats 2000000 in
theorem cnt_rest (p q n a b : Int) (N : Nat) (v u15 u16 u17 u18 : Value) (w : World) (ho : w.ownsRow N 3 1 v (muR p q n).length (ints (muR p q n))) (hnil : muR p q n = [] → v = .slice none 0 0) :
    cntT2.wp Try.prog (fun e a' w' => e = .ret ∧ a'.defers = [] ∧ a'.tmps[10]? = some (.int .i64 (ciR p q n a b)) ∧ w = w')
      ⟨#[.int .i64 p, .int .i64 q, .int .i64 n, .int .i64 a, .int .i64 b, undef, undef, undef, undef, undef, .int .i64 0, v, undef, undef, undef, u15, u16, u17, u18, undef, undef, undef, undef, undef, undef, undef, undef, undef, undef, undef, undef, undef, undef, undef, undef], []⟩ w := by
  have HBT := Lib.hid (fun x w => implIsBetween x a b w)
  have hnl : ∀ (A : Option Addr) (l c : Nat) (w : World), (binOp .eql 22 (.slice A l c) (.slice none 0 0)).run Try.prog w = .ok (.bool A.isNone) w := fun A l c w => by
    simp [binOp, run_equal_slice_nil w 22 _ A l c Try.underlying22]
  cases h1 : gpOk p q n
  · have HV : Hid (ciR p q n a b = -1) := if_neg (by rw [h1]; decide)
    obtain rfl := hnil (if_neg (by rw [h1]; decide))
    clear ho hnil h1
    generalize ciR p q n a b = r at *
    obtain rfl : r = -1 := HV.out
    simp only [cntT2, cntT1, cntBody, Try.f27, Option.getD_some]
    go_wp2_with fail
  · obtain ⟨P, Q, M, rfl, rfl, rfl, hQ1, hQ2, hPQ, hM1, hM2⟩ := gp_parts h1
    have HV : Hid (ciR (P : Int) Q M a b = (ciTo P Q a b M : Int)) := if_pos h1
    have HG := Lib.hid (muR_get h1)
    have hlen := muR_len h1
    rw [hlen] at ho
    obtain ⟨g, cp, rfl, _⟩ := own_some ho hM1
    have HO := Lib.hid ho
    clear ho hnil h1
    generalize ciR (P : Int) Q M a b = r at *
    generalize muR (P : Int) Q M = L at *
    have HLE := Lib.hid (ciTo_le P Q a b)
    have HS : Hid (∀ k, ciTo P Q a b (k + 1) = ciTo P Q a b k + if (decide (a ≤ (dpN P Q k : Int)) && decide ((dpN P Q k : Int) ≤ b)) = true then 1 else 0) := fun k => rfl
    have H0 : Hid (ciTo P Q a b 0 = 0) := rfl
    generalize ciTo P Q a b = F at *
    generalize dpN P Q = D at *
    simp only [cntT2, cntT1, cntBody, Try.f27, Option.getD_some]
    go_wp2_with fail
    go_loopw [12, 23] (fun cv iv wr => ∃ i : Nat, i ≤ M ∧ cv = .int .i64 (F i : Int) ∧ iv = .int .i64 (i : Int) ∧ w = wr) (fun _ iv _ => M - (intOf iv).toNat)
    case atStart => exact ⟨0, Nat.zero_le _, by rw [H0.out]; rfl, rfl, rfl⟩
    case round =>
      obtain ⟨i, hi, rfl, rfl, rfl⟩ := hrel
      by_cases hlt : i < M
      · have hlt' : (i : Int) < (M : Int) := by omega
        have hci : w.cell? ⟨g, i, none⟩ = some (.int .i64 (D i : Int)) := (World.ownsRow.cellAt HO.out i (by omega)).trans (HG.out i hlt)
        have hle := HLE.out i
        have HS1 := Lib.hid (HS.out i)
        generalize D i = x at *
        by_cases hb : (decide (a ≤ (x : Int)) && decide ((x : Int) ≤ b)) = true
        · rw [if_pos hb] at HS1
          go_wp2_with fail
          refine (HBT.out _ _).mono ?_
          rintro e w' ⟨rfl, rfl⟩
          rw [hb]
          clear hb
          go_wp2_with fail
          go_roundw
          case rel => exact ⟨i + 1, by omega, by rw [HS1.out]; go_num, by go_num, trivial⟩
          case measure => simp [intOf]; omega
        · have hb' : (decide (a ≤ (x : Int)) && decide ((x : Int) ≤ b)) = false := by simpa using hb
          rw [if_neg hb] at HS1
          clear hb
          go_wp2_with fail
          refine (HBT.out _ _).mono ?_
          rintro e w' ⟨rfl, rfl⟩
          rw [hb']
          clear hb'
          go_wp2_with fail
          go_roundw
          case rel => exact ⟨i + 1, by omega, by rw [HS1.out]; rfl, by go_num, trivial⟩
          case measure => simp [intOf]; omega
      · have hil : i = M := by omega
        subst hil
        have hlt' : ¬ (i : Int) < (i : Int) := by omega
        go_wp2_with fail
        exact HV.out.symm

/-- a row of one's own lies in the heap: the tape is nothing to it -/
theorem own_tp {w : World} {B s : Nat} {e : TypeId} {v : Value} {n : Nat} {xs : List Value} (h : w.ownsRow B e s v n xs) (τ : Tp) (d : Nat) : (tp w τ d).ownsRow B e s v n xs := h

theorem cntBody_eq : cntBody = .seq cntC0 (.seq (.region 1 cntOps1 false) cntT2) := by
  simp only [cntC0, cntOps1, cntT2, cntT1, cntBody, Try.f27, Option.getD_some]

set_option maxRecDepth 100000 in
set_option maxHeartbeats 2000000 in
theorem cCountIn (p q n a b : Int) (W : World) : CCalls Try.prog 27 #[.int .i64 p, .int .i64 q, .int .i64 n, .int .i64 a, .int .i64 b] W fun v w' => v = .int .i64 (ciR p q n a b) ∧ Bl W.heap.size W w' := by
  intro Fin cs hK
  have henter : Frame.enter Try.prog 27 #[.int .i64 p, .int .i64 q, .int .i64 n, .int .i64 a, .int .i64 b] .normal = ({ (default : Frame) with fn := 27, kind := .normal } : Frame).at ⟨#[.int .i64 p, .int .i64 q, .int .i64 n, .int .i64 a, .int .i64 b, undef, undef, undef, undef, undef, undef, undef, undef, undef, undef, undef, undef, undef, undef, undef, undef, undef, undef, undef, undef, undef, undef, undef, undef, undef, undef, undef, undef, undef, undef], []⟩ [.code cntBody] := by
    simp [Frame.enter, Frame.at, Try.func27, cntBody, Try.f27]
  rw [henter, cntBody_eq]
  have leave := can_leave (cs := cs) Try.func27 (t := 10) (by simp [Try.f27]) hK
  refine Can.silent rfl (fun _ => stepG_seq) ?_
  refine (CWp.of (c := cntC0) (R := fun e a' w => e = .normal ∧ a' = ⟨#[.int .i64 p, .int .i64 q, .int .i64 n, .int .i64 a, .int .i64 b, undef, undef, undef, undef, undef, .int .i64 0, undef, undef, undef, undef, undef, undef, undef, undef, undef, undef, undef, undef, undef, undef, undef, undef, undef, undef, undef, undef, undef, undef, undef, undef], []⟩ ∧ Bl W.heap.size W w)
    closedS noEarlyS (by kernel_rfl) rfl (fun τ d => ?_) (fun e a w h => .inl h.1)) Fin _ _ cs rfl ?_
  · simp only [cntC0, cntBody, Try.f27, Option.getD_some]
    go_wp2_with fail
    exact ⟨rfl, rfl, rfl, Nat.le_refl _, fun _ _ => rfl⟩
  rintro e a' w0 ⟨τ0, d0, rfl, rfl, hb0⟩
  replace hb0 := hb0.un
  show Can Try.prog Fin (G (Frame.at _ _ (.code (.seq (.region 1 cntOps1 false) cntT2) :: [])) cs) w0
  refine Can.silent rfl (fun _ => stepG_seq) ?_
  refine Can.silent rfl (fun _ => stepG_region) ?_
  have hrange : List.range cntOps1.size = [0, 1, 2, 3, 4] := by simp [cntOps1, cntT1, cntBody, Try.f27, List.range, List.range.loop]
  rw [hrange]
  simp only [cntOps1, cntT1, cntBody, Try.f27, Option.getD_some]
  refine Can.op rfl rfl rfl (fun _ => rfl) (fun _ => rfl) ?_
  refine Can.op rfl rfl rfl (fun _ => rfl) (fun _ => rfl) ?_
  refine Can.op rfl rfl rfl (fun _ => rfl) (fun _ => rfl) ?_
  walk_nrm
  refine Can.call rfl rfl rfl (run_direct rfl rfl Try.func33 mul_body mul_name (by simp [Act.eval])) (cMultiplesOf p q n w0) fun v w1 hR => ?_
  obtain ⟨hb1, ho, hnil⟩ := hR
  walk_nrm
  refine Can.op rfl rfl rfl (fun _ => rfl) (fun _ => rfl) ?_
  walk_nrm
  refine Can.silent rfl (fun _ => stepG_region_end) ?_
  have hb : Bl W.heap.size W w1 := hb0.trans (hb1.mono hb0.size)
  have hrest := fun τ d => cnt_rest p q n a b w0.heap.size v (.int .i64 p) (.int .i64 q) (.int .i64 n) v (tp w1 τ d) (own_tp ho τ d) hnil
  refine (CWp.of (R := fun e a' w => (e = .ret ∧ a'.defers = [] ∧ a'.tmps[10]? = some (.int .i64 (ciR p q n a b))) ∧ Bl W.heap.size W w) closedS noEarlyS (c := cntT2) (by kernel_rfl) rfl (fun τ d => wp_mono (hrest τ d) (fun e a' w h => ⟨⟨h.1, h.2.1, h.2.2.1⟩, ?_⟩)) (fun e a w h => .inr h.1.1)) Fin _ _ cs rfl ?_
  · rw [← h.2.2.2]
    exact hb.trans ⟨rfl, rfl, rfl, Nat.le_refl _, fun _ _ => rfl⟩
  rintro e a' w2 ⟨τ2, d2, ⟨rfl, hd, hv⟩, hb2⟩
  exact fun todo => leave a' todo w2 _ hd hv ⟨rfl, hb2.un⟩
theorem cnt_name : (Try.f27.name == "runtime.NumGoroutine") = false := by kernel_rfl
theorem cnt_body : Try.f27.body = some cntBody := by simp only [cntBody, Try.f27, Option.getD_some]
end Go.Proofs.Ytcdchieielpahaa

/- Two closed facts on the program that every row asks for. -/
namespace Go.Proofs.Ytcdchieielpahaa
theorem ownKnobs : ownKnob Try.prog.godebug = none := by kernel_rfl
theorem laidOut : laidOutB Try.prog = true := by kernel_rfl
end Go.Proofs.Ytcdchieielpahaa
