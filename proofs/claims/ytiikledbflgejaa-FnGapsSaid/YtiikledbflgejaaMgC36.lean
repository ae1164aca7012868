/- Texts put together. -/
import Derived.Test.YtiikledbflgejaaMgC35
import Derived.Test.YtiikledbflgejaaMgC1
import Derived.Conc.LeavingOf
import Derived.Laws.Cover3
import Derived.RegionTactic
import Derived.Test.YtiikledbflgejaaMgC20
import Derived.Test.YtiikledbflgejaaMgC17
/- A call in company, as a step of the walk; what a row of one's own is on another tape. -/
namespace Go.Proofs.Ytiikledbflgejaa
open Go.Conc Go.RowKit

/-- a call -/
theorem Can.call {P : Program} {Fin : Goroutine → World → Prop} {b : Frame} {a : Act} {k : List Item} {cs : List Frame} {w : World} {ops : Array Oper} {i : Nat} {rest : List Nat} {o : Oper} {f : FuncId} {args : Array Value} {R : Value → World → Prop} (hb : b.kind = .normal)
    (ho : ops[i]? = some o) (hw : Region.wanted o (yielded ops a.tmps) = true) (hr : ∀ w, (execOp a.eval o).runT P w #[] = (.ok (.enter f args) w, #[])) (hc : CCalls P f args w R)
    (h : ∀ v w', R v w' → Can P Fin (G (b.at (a.put o.dst v) (.inRegion ops rest :: k)) cs) w') : Can P Fin (G (b.at a (.inRegion ops (i :: rest) :: k)) cs) w := by
  have hk' : (b.kind == CallKind.early) = false := by rw [hb]; rfl
  refine Can.silent (g' := G (Frame.enter P f args .normal) (b.at a (.inRegion ops (i :: rest) :: k) :: cs)) rfl (fun w => ?_) (hc Fin _ fun fr v w' hR hl _ => ?_)
  · rw [stepG_oper ho hw]
    unfold stepG.apply
    simp only [if_true, hr w]
    simp [G, Frame.at, hk', GStep.after, seen_none]
  · obtain ⟨l1, l2, l3, fn, l4, l5⟩ := hl
    have hfin : (b.at a (.inRegion ops (i :: rest) :: k)).finish v = b.at (a.put o.dst v) (.inRegion ops rest :: k) := by rw [Frame.finish_at, ho]; rfl
    have key : ∀ d, ∃ es, stepG P true (G fr (b.at a (.inRegion ops (i :: rest) :: k) :: cs)) (w'.at d) = .go (G (b.at (a.put o.dst v) (.inRegion ops rest :: k)) cs) (w'.at d) es ∧ ∀ e ∈ es, EvOk e := fun d => by
      have hl2 : fr.leaving P (w'.at d) (.returned v) := leaving_tp ⟨l1, l2, l3, fn, l4, l5⟩ w'.tape d
      obtain ⟨_, _, _, fn2, l6, l7⟩ := hl2
      rcases e : (results fn2 fr.tmps).runT P (w'.at d) #[] with ⟨r, es⟩
      have h1 := Sem.runT_fst P (results fn2 fr.tmps) (w'.at d) #[]
      rw [e, l7] at h1
      have h1 : r = .ok v (w'.at d) := h1
      subst h1
      have hev := mild_events P _ (mild_results fn2 fr.tmps) (w'.at d) #[] (by simp)
      rw [e] at hev
      refine ⟨seen P fr.fn es, ?_, seen_ok P _ _ hev⟩
      rw [← hfin]
      simp [G, stepG, unwind, doReturn, l1, l2, l3, l6, e, GStep.after, -Sem.runT_eq]
    refine Can.go rfl fun d => ?_
    obtain ⟨es, h1, h2⟩ := key d
    exact ⟨_, _, es, h1, h2, (h v w' hR).drawn d⟩
/-- the entry of a call of a function by its number -/
theorem run_direct {P : Program} {ρ : Operand → Value} {o : Oper} {f : FuncId} {fn : Func} {c : Code} {args : Array Operand} {ats : Array TypeId} (ho : o.op = .call { callee := .value (.func f), args := args, argTypes := ats }) (hρ : ρ (.func f) = .func (.func f) #[] #[])
    (hf : P.funcs[f]? = some fn) (hb : fn.body = some c) (hn : (fn.name == "runtime.NumGoroutine") = false) {vs : Array Value} (hv : args.map ρ = vs) (w : World) : (execOp ρ o).runT P w #[] = (.ok (.enter f vs) w, #[]) := by
  have e : execOp ρ o = callFunc f (#[] ++ args.map ρ ++ #[]) := by
    unfold execOp
    simp only [ho]
    unfold resolve
    simp only [hρ]
    rfl
  rw [e, run_callFunc hf hb hn, hv]
  simp

/-- the leaving of a frame with one result in a slot -/
theorem can_leave {P : Program} {Fin : Goroutine → World → Prop} {f : FuncId} {fn : Func} {cs : List Frame} {R : Value → World → Prop} {t : Tmp} (hf : P.funcs[f]? = some fn) (hr : fn.results = #[.tmp t])
    (hK : ∀ fr v w', R v w' → fr.leaving P w' (.returned v) → fr.fn = f → Can P Fin (G fr cs) w') (a : Act) (todo : List Item) (w' : World) (v : Value) (hd : a.defers = []) (hv : a.tmps[t]? = some v) (h : R v w') :
    Can P Fin (G { ({ (default : Frame) with fn := f, kind := .normal } : Frame).at a todo with mode := .returning } cs) w' :=
  hK _ v w' h ⟨rfl, hd, rfl, fn, hf, by
    show (results fn a.tmps).run P w' = _
    rw [results_tmp hr]
    simp [Array.getD_eq_getD_getElem?, hv]⟩ rfl
end Go.Proofs.Ytiikledbflgejaa

/- The row's step for a law that starts goroutines that only leave: from the walk in company. No project text. -/
namespace Go.Proofs.Ytiikledbflgejaa
open Go.Conc Go.ChangeShapes Go.WideShapes Go.ChangeAt

section
variable {H : Type} {enc : TypeId × Value → H}

theorem post_tp {P : Program} {f : Func} {s : ChangeSpec} {W w : World} {args : Array Value} {v : Value} {τ : Tp} {d : Nat} (h : s.post enc P f false true false false W args v (tp w τ d)) : s.post enc P f false true false false W args v w := by
  obtain ⟨ds, gs, before, pr, pa, pv, h1, h2, h3, h4, h5, h6⟩ := h
  exact ⟨ds, gs, before, pr, pa, pv, h1, h2.of_heap (by rfl), h3.of_heap (by rfl), h4.of_heap (by rfl), h5, fun ha => by cases ha⟩

theorem lawLiftedG {C : Checked} {os : Os} {f : FuncId} {fn : Func} {s : ChangeSpec} {tb : TypeId}
    (own : ownKnob C.prog.godebug = none) (started : os.Started) (noInit : C.prog.inits.idxOf? f = none) (hfn : C.prog.funcs[f]? = some fn)
    (hl : laidOutB C.prog = true) (hts : fn.params.toList.all (fun t => C.prog.readableRec t && decide (t < C.prog.types.size)) = true) (hres : fn.resultTypes = #[tb]) (htb : C.prog.underlying tb = some .bool)
    (hsv : s.vars = []) (hsp : ∀ ds : List (DataW H), ds.length = fn.params.size → s.fn H ds = { results := [.lit (.bool true)], args := ds })
    (witness : ∃ (w : World) (tape : Tape) (i : Input), w.os = os ∧ (w.forCall tape i).Shaped C.prog ∧ i.vars = [] ∧ Input.okWide C.prog (w.forCall tape i) .any w.heap.size f i ∧
      s.pre6 enc C.prog fn [] false (w.forCall tape i).memory i.args ∧ ({} : Assume).holds C.prog (lone (Frame.enter C.prog f i.args .normal) [] (w.forCall tape i)))
    (walk : ∀ (W : World) (base : Nat) (args : Array Value) (ds : List (DataW H)) (p : List MemPlace),
      (∀ (j : Nat) t v, fn.params[j]? = some t → args[j]? = some v → Value.okWide C.prog W .any base t v) →
      DataW.TrodAll enc C.prog W 0 (fun _ => true) true fn.params.toList args.toList ds p → (∀ x ∈ p, x.block < W.heap.size) →
      CCalls C.prog f args W fun v W' => v = .bool true ∧ Bl W.heap.size W W') :
    ReturnsInLeavingWide {} C os f .any (s.pre6 enc C.prog fn [] false) (s.post enc C.prog fn false true false false) := by
  refine returnsInLeavingWide_of_change_sized own started hfn witness ?_
  intro W base args ds gs before hval hW _ _ _
  have hW' := hW
  obtain ⟨p, q, hA, hV, rfl, _, _⟩ := hW
  rw [hsv] at hV
  obtain ⟨rfl, rfl⟩ := trodVars_none hV
  have hlen : ds.length = fn.params.size := by simpa using trodAll_length hA
  have hc := walk W base args ds p hval hA (fun x hx => hW'.lt x (by simpa using hx))
  obtain ⟨M, last, o, w', t', h1, h2, h3, h4⟩ := run_of_can (Post := fun v w => ∃ d, v = .bool true ∧ Bl W.heap.size W (w.at d)) (fun v w d ⟨d', hv, hb⟩ => ⟨d', hv, hb.at d'⟩) noInit (can_of_ccalls hc)
  refine ⟨M, last, o, w', t', h1, h2, h3, h4.mono ?_⟩
  rintro v ⟨d', rfl, hb⟩
  refine post_tp (τ := W.tape) (d := W.drawn) (lawPost hl (fun t ht => ?_) hres htb hsv (by rw [List.append_nil]; exact hsp ds hlen) hW' ⟨hb.os, rfl, hb.output, hb.size, hb.block⟩)
  have := List.all_eq_true.1 hts t ht
  simpa using this
end
end Go.Proofs.Ytiikledbflgejaa

/- The program's CountIn in company. No condition. -/
namespace Go.Proofs.Ytiikledbflgejaa
open Go.Conc Go.RowKit

noncomputable def cntBody : Code := Try.f13.body.getD .skip
noncomputable def cntC0 : Code := match cntBody with | .seq a _ => a | _ => .skip
noncomputable def cntT1 : Code := match cntBody with | .seq _ r => r | _ => .skip
noncomputable def cntOps1 : Array Oper := match cntT1 with | .seq (.region _ ops _) _ => ops | _ => #[]
noncomputable def cntT2 : Code := match cntT1 with | .seq _ r => r | _ => .skip

theorem muR_at {P Q M : Nat} (hok : gpOk (P : Int) Q M = true) : muR (P : Int) Q M = (List.range M).map fun i => ((i * P % Q : Nat) : Int) := if_pos hok
theorem muR_get {P Q M : Nat} (hok : gpOk (P : Int) Q M = true) (i : Nat) (hi : i < M) : (ints (muR (P : Int) Q M))[i]? = some (.int .i64 ((dpN P Q i : Nat) : Int)) := by
  rw [muR_at hok]
  simp [ints, hi, dpN]
theorem muR_len {P Q M : Nat} (hok : gpOk (P : Int) Q M = true) : (muR (P : Int) Q M).length = M := by
  rw [muR_at hok]; simp

set_option maxRecDepth 100000 in
set_option maxHeartbeats 2000000 in
theorem cnt_rest (p q n a b : Int) (N : Nat) (v u15 u16 u17 u18 : Value) (w : World) (ho : w.ownsRow N 3 1 v (muR p q n).length (ints (muR p q n))) (hnil : muR p q n = [] → v = .slice none 0 0) :
    cntT2.wp Try.prog (fun e a' w' => e = .ret ∧ a'.defers = [] ∧ a'.tmps[10]? = some (.int .i64 (ciR p q n a b)) ∧ w = w')
      ⟨#[.int .i64 p, .int .i64 q, .int .i64 n, .int .i64 a, .int .i64 b, undef, undef, undef, undef, undef, .int .i64 0, v, undef, undef, undef, u15, u16, u17, u18, undef, undef, undef, undef, undef, undef, undef, undef, undef, undef, undef, undef, undef, undef, undef, undef], []⟩ w := by
  have HBT := Lib.hid (fun x w => implIsBetween x a b w)
  have hnl : ∀ (A : Option Addr) (l c : Nat) (w : World), (binOp .eql 24 (.slice A l c) (.slice none 0 0)).run Try.prog w = .ok (.bool A.isNone) w := fun A l c w => by
    simp [binOp, run_equal_slice_nil w 24 _ A l c Try.underlying24]
  cases h1 : gpOk p q n
  · have HV : Hid (ciR p q n a b = -1) := if_neg (by rw [h1]; decide)
    obtain rfl := hnil (if_neg (by rw [h1]; decide))
    clear ho hnil h1
    generalize ciR p q n a b = r at *
    obtain rfl : r = -1 := HV.out
    simp only [cntT2, cntT1, cntBody, Try.f13, Option.getD_some]
    go_wp2_with fail
  · obtain ⟨P, Q, M, rfl, rfl, rfl, hQ1, hQ2, hPQ, hM1, hM2⟩ := gp_parts h1
    have HV : Hid (ciR (P : Int) Q M a b = (ciTo P Q a b M : Int)) := if_pos h1
    have HG := Lib.hid (muR_get h1)
    have hlen := muR_len h1
    rw [hlen] at ho
    obtain ⟨g, cp, rfl, _⟩ := own_some ho hM1
    have HO := Lib.hid ho
    clear ho hnil h1
    generalize ciR (P : Int) Q M a b = r at *
    generalize muR (P : Int) Q M = L at *
    have HLE := Lib.hid (ciTo_le P Q a b)
    have HS : Hid (∀ k, ciTo P Q a b (k + 1) = ciTo P Q a b k + if (decide (a ≤ (dpN P Q k : Int)) && decide ((dpN P Q k : Int) ≤ b)) = true then 1 else 0) := fun k => rfl
    have H0 : Hid (ciTo P Q a b 0 = 0) := rfl
    generalize ciTo P Q a b = F at *
    generalize dpN P Q = D at *
    simp only [cntT2, cntT1, cntBody, Try.f13, Option.getD_some]
    go_wp2_with fail
    go_loopw [12, 23] (fun cv iv wr => ∃ i : Nat, i ≤ M ∧ cv = .int .i64 (F i : Int) ∧ iv = .int .i64 (i : Int) ∧ w = wr) (fun _ iv _ => M - (intOf iv).toNat)
    case atStart => exact ⟨0, Nat.zero_le _, by rw [H0.out]; rfl, rfl, rfl⟩
    case round =>
      obtain ⟨i, hi, rfl, rfl, rfl⟩ := hrel
      by_cases hlt : i < M
      · have hlt' : (i : Int) < (M : Int) := by omega
        have hci : w.cell? ⟨g, i, none⟩ = some (.int .i64 (D i : Int)) := (World.ownsRow.cellAt HO.out i (by omega)).trans (HG.out i hlt)
        have hle := HLE.out i
        have HS1 := Lib.hid (HS.out i)
        generalize D i = x at *
        by_cases hb : (decide (a ≤ (x : Int)) && decide ((x : Int) ≤ b)) = true
        · rw [if_pos hb] at HS1
          go_wp2_with fail
          refine (HBT.out _ _).mono ?_
          rintro e w' ⟨rfl, rfl⟩
          rw [hb]
          clear hb
          go_wp2_with fail
          go_roundw
          case rel => exact ⟨i + 1, by omega, by rw [HS1.out]; go_num, by go_num, trivial⟩
          case measure => simp [intOf]; omega
        · have hb' : (decide (a ≤ (x : Int)) && decide ((x : Int) ≤ b)) = false := by simpa using hb
          rw [if_neg hb] at HS1
          clear hb
          go_wp2_with fail
          refine (HBT.out _ _).mono ?_
          rintro e w' ⟨rfl, rfl⟩
          rw [hb']
          clear hb'
          go_wp2_with fail
          go_roundw
          case rel => exact ⟨i + 1, by omega, by rw [HS1.out]; rfl, by go_num, trivial⟩
          case measure => simp [intOf]; omega
      · have hil : i = M := by omega
        subst hil
        have hlt' : ¬ (i : Int) < (i : Int) := by omega
        go_wp2_with fail
        exact HV.out.symm

/-- a row of one's own lies in the heap: the tape is nothing to it -/
theorem own_tp {w : World} {B s : Nat} {e : TypeId} {v : Value} {n : Nat} {xs : List Value} (h : w.ownsRow B e s v n xs) (τ : Tp) (d : Nat) : (tp w τ d).ownsRow B e s v n xs := h

theorem cntBody_eq : cntBody = .seq cntC0 (.seq (.region 1 cntOps1 false) cntT2) := by
  simp only [cntC0, cntOps1, cntT2, cntT1, cntBody, Try.f13, Option.getD_some]

set_option maxRecDepth 100000 in
set_option maxHeartbeats 2000000 in
theorem cCountIn (p q n a b : Int) (W : World) : CCalls Try.prog 13 #[.int .i64 p, .int .i64 q, .int .i64 n, .int .i64 a, .int .i64 b] W fun v w' => v = .int .i64 (ciR p q n a b) ∧ Bl W.heap.size W w' := by
  intro Fin cs hK
  have henter : Frame.enter Try.prog 13 #[.int .i64 p, .int .i64 q, .int .i64 n, .int .i64 a, .int .i64 b] .normal = ({ (default : Frame) with fn := 13, kind := .normal } : Frame).at ⟨#[.int .i64 p, .int .i64 q, .int .i64 n, .int .i64 a, .int .i64 b, undef, undef, undef, undef, undef, undef, undef, undef, undef, undef, undef, undef, undef, undef, undef, undef, undef, undef, undef, undef, undef, undef, undef, undef, undef, undef, undef, undef, undef, undef], []⟩ [.code cntBody] := by
    simp [Frame.enter, Frame.at, Try.func13, cntBody, Try.f13]
  rw [henter, cntBody_eq]
  have leave := can_leave (cs := cs) Try.func13 (t := 10) (by simp [Try.f13]) hK
  refine Can.silent rfl (fun _ => stepG_seq) ?_
  refine (CWp.of (c := cntC0) (R := fun e a' w => e = .normal ∧ a' = ⟨#[.int .i64 p, .int .i64 q, .int .i64 n, .int .i64 a, .int .i64 b, undef, undef, undef, undef, undef, .int .i64 0, undef, undef, undef, undef, undef, undef, undef, undef, undef, undef, undef, undef, undef, undef, undef, undef, undef, undef, undef, undef, undef, undef, undef, undef], []⟩ ∧ Bl W.heap.size W w)
    closedS noEarlyS (by kernel_rfl) rfl (fun τ d => ?_) (fun e a w h => .inl h.1)) Fin _ _ cs rfl ?_
  · simp only [cntC0, cntBody, Try.f13, Option.getD_some]
    go_wp2_with fail
    exact ⟨rfl, rfl, rfl, Nat.le_refl _, fun _ _ => rfl⟩
  rintro e a' w0 ⟨τ0, d0, rfl, rfl, hb0⟩
  replace hb0 := hb0.un
  show Can Try.prog Fin (G (Frame.at _ _ (.code (.seq (.region 1 cntOps1 false) cntT2) :: [])) cs) w0
  refine Can.silent rfl (fun _ => stepG_seq) ?_
  refine Can.silent rfl (fun _ => stepG_region) ?_
  have hrange : List.range cntOps1.size = [0, 1, 2, 3, 4] := by simp [cntOps1, cntT1, cntBody, Try.f13, List.range, List.range.loop]
  rw [hrange]
  simp only [cntOps1, cntT1, cntBody, Try.f13, Option.getD_some]
  refine Can.op rfl rfl rfl (fun _ => rfl) (fun _ => rfl) ?_
  refine Can.op rfl rfl rfl (fun _ => rfl) (fun _ => rfl) ?_
  refine Can.op rfl rfl rfl (fun _ => rfl) (fun _ => rfl) ?_
  walk_nrm
  refine Can.call rfl rfl rfl (run_direct rfl rfl Try.func17 mul_body mul_name (by simp [Act.eval])) (cMultiplesOf p q n w0) fun v w1 hR => ?_
  obtain ⟨hb1, ho, hnil⟩ := hR
  walk_nrm
  refine Can.op rfl rfl rfl (fun _ => rfl) (fun _ => rfl) ?_
  walk_nrm
  refine Can.silent rfl (fun _ => stepG_region_end) ?_
  have hb : Bl W.heap.size W w1 := hb0.trans (hb1.mono hb0.size)
  have hrest := fun τ d => cnt_rest p q n a b w0.heap.size v (.int .i64 p) (.int .i64 q) (.int .i64 n) v (tp w1 τ d) (own_tp ho τ d) hnil
  refine (CWp.of (R := fun e a' w => (e = .ret ∧ a'.defers = [] ∧ a'.tmps[10]? = some (.int .i64 (ciR p q n a b))) ∧ Bl W.heap.size W w) closedS noEarlyS (c := cntT2) (by kernel_rfl) rfl (fun τ d => wp_mono (hrest τ d) (fun e a' w h => ⟨⟨h.1, h.2.1, h.2.2.1⟩, ?_⟩)) (fun e a w h => .inr h.1.1)) Fin _ _ cs rfl ?_
  · rw [← h.2.2.2]
    exact hb.trans ⟨rfl, rfl, rfl, Nat.le_refl _, fun _ _ => rfl⟩
  rintro e a' w2 ⟨τ2, d2, ⟨rfl, hd, hv⟩, hb2⟩
  exact fun todo => leave a' todo w2 _ hd hv ⟨rfl, hb2.un⟩
theorem cnt_name : (Try.f13.name == "runtime.NumGoroutine") = false := by kernel_rfl
theorem cnt_body : Try.f13.body = some cntBody := by simp only [cntBody, Try.f13, Option.getD_some]
end Go.Proofs.Ytiikledbflgejaa

/- The program's PointsOf, GapsOf, GapLengths, in company. No condition. -/
namespace Go.Proofs.Ytiikledbflgejaa
open Go.Conc Go.RowKit Go.Lib

theorem CCalls.mono {P : Program} {f : FuncId} {args : Array Value} {w : World} {R R' : Value → World → Prop} (h : CCalls P f args w R) (hr : ∀ v w', R v w' → R' v w') : CCalls P f args w R' :=
  fun Fin cs hK => h Fin cs fun fr v w' hR => hK fr v w' (hr _ _ hR)
theorem cSortedOnce (l m : List Int) (v : Value) (B : Nat) (W : World) (ho : W.ownsRow B 3 1 v l.length (ints l)) (hl : l.length ≤ 100000) (hm : AscI m) (hmem : ∀ x, x ∈ l ↔ x ∈ m) :
    CCalls Try.prog 16 #[v] W fun v' w' => w'.ownsRow B 3 1 v' m.length (ints m) ∧ Bl B W w' :=
  (CCalls.of closedS noEarlyS (by kernel_rfl) (R := fun v' w' => w'.ownsRow B 3 1 v' m.length (ints m) ∧ Bl B W w')
    (fun τ d => (implSortedOnce l m v B (tp W τ d) (own_tp ho τ d) hl hm hmem).mono fun e w' ⟨v', he, ho', hb⟩ => ⟨v', he, ho', Bl.tp' (Bl.ofBelow hb)⟩)).mono fun v' w' ⟨τ, d, ho', hb⟩ => ⟨ho', hb.un⟩
theorem srt_name : (Try.f16.name == "runtime.NumGoroutine") = false := by kernel_rfl
theorem srt_body : ∃ c, Try.f16.body = some c := ⟨_, rfl⟩

/-! ### the points -/
theorem ptTo_mem (P Q M : Nat) (x : Int) : ∀ k, x ∈ ptTo P Q M k ↔ ∃ j : Nat, j < k ∧ ptB P Q M j = true ∧ x = (j : Int)
  | 0 => by simp [ptTo]
  | k + 1 => by
    have ih := ptTo_mem P Q M x k
    unfold ptTo
    by_cases hk : ptB P Q M k = true
    · rw [if_pos hk, List.mem_append, ih, List.mem_singleton]
      constructor
      · rintro (⟨j, h1, h2, h3⟩ | h)
        · exact ⟨j, by omega, h2, h3⟩
        · exact ⟨k, by omega, hk, h⟩
      · rintro ⟨j, h1, h2, h3⟩
        by_cases e : j = k
        · subst e; exact .inr h3
        · exact .inl ⟨j, by omega, h2, h3⟩
    · rw [if_neg hk, ih]
      constructor
      · rintro ⟨j, h1, h2, h3⟩
        exact ⟨j, by omega, h2, h3⟩
      · rintro ⟨j, h1, h2, h3⟩
        have e : j ≠ k := fun e => hk (e ▸ h2)
        exact ⟨j, by omega, h2, h3⟩
theorem ptTo_asc (P Q M : Nat) : ∀ k, AscI (ptTo P Q M k)
  | 0 => List.Pairwise.nil
  | k + 1 => by
    unfold ptTo
    split
    · refine List.pairwise_append.2 ⟨ptTo_asc P Q M k, List.pairwise_singleton _ _, fun a ha b hb => ?_⟩
      rw [List.mem_singleton] at hb
      have := (ptTo_range P Q M k a ha).2
      omega
    · exact ptTo_asc P Q M k
theorem ptR_asc (p q n : Int) : AscI (ptR p q n) := by
  unfold ptR
  split
  · exact ptTo_asc _ _ _ _
  · exact List.Pairwise.nil
theorem mu_pt (p q n : Int) (x : Int) : x ∈ muR p q n ↔ x ∈ ptR p q n := by
  cases h1 : gpOk p q n
  · have e1 : muR p q n = [] := if_neg (by rw [h1]; decide)
    have e2 : ptR p q n = [] := if_neg (by rw [h1]; decide)
    rw [e1, e2]
  · have e2 : ptR p q n = ptTo p.toNat q.toNat n.toNat q.toNat := if_pos h1
    obtain ⟨P, Q, M, rfl, rfl, rfl, hQ1, hQ2, hPQ, hM1, hM2⟩ := gp_parts h1
    rw [e2, muR_at h1, Int.toNat_natCast, Int.toNat_natCast, Int.toNat_natCast, ptTo_mem, List.mem_map]
    constructor
    · rintro ⟨i, hi, rfl⟩
      exact ⟨dpN P Q i, dp_lt hQ1 i, ptB_iff.2 ⟨i, List.mem_range.1 hi, rfl⟩, rfl⟩
    · rintro ⟨j, h2, h3, rfl⟩
      obtain ⟨i, hi, h4⟩ := ptB_iff.1 h3
      exact ⟨i, List.mem_range.2 hi, by rw [← h4]; rfl⟩
theorem muR_le (p q n : Int) : (muR p q n).length ≤ 400 := by
  cases h1 : gpOk p q n
  · have e1 : muR p q n = [] := if_neg (by rw [h1]; decide)
    rw [e1]; exact Nat.zero_le _
  · obtain ⟨P, Q, M, rfl, rfl, rfl, hQ1, hQ2, hPQ, hM1, hM2⟩ := gp_parts h1
    rw [muR_len h1]; exact hM2
/-- the first point is 0 -/
theorem ptTo_head (P Q M : Nat) (hM : 1 ≤ M) : ∀ k, (ptTo P Q M (k + 1)).getD 0 0 = 0
  | 0 => by
    have hb : ptB P Q M 0 = true := ptB_iff.2 ⟨0, hM, dp_zero P Q⟩
    unfold ptTo
    rw [if_pos hb]
    rfl
  | k + 1 => by
    have ih := ptTo_head P Q M hM k
    have e : ptTo P Q M (k + 1 + 1) = if ptB P Q M (k + 1) = true then ptTo P Q M (k + 1) ++ [((k + 1 : Nat) : Int)] else ptTo P Q M (k + 1) := rfl
    rw [e]
    split
    · have hne : 0 < (ptTo P Q M (k + 1)).length := by
        have hb : ptB P Q M 0 = true := ptB_iff.2 ⟨0, hM, dp_zero P Q⟩
        exact List.length_pos_of_mem ((ptTo_mem P Q M 0 (k + 1)).2 ⟨0, by omega, hb, rfl⟩)
      rw [List.getD_eq_getElem?_getD, List.getElem?_append_left hne, ← List.getD_eq_getElem?_getD]
      exact ih
    · exact ih
theorem ptR_head (p q n : Int) (h : 0 < (ptR p q n).length) : (ptR p q n).getD 0 0 = 0 := by
  cases h1 : gpOk p q n
  · have e2 : ptR p q n = [] := if_neg (by rw [h1]; decide)
    rw [e2] at h
    exact absurd h (by simp)
  · have e2 : ptR p q n = ptTo p.toNat q.toNat n.toNat q.toNat := if_pos h1
    obtain ⟨P, Q, M, rfl, rfl, rfl, hQ1, hQ2, hPQ, hM1, hM2⟩ := gp_parts h1
    rw [e2, Int.toNat_natCast, Int.toNat_natCast, Int.toNat_natCast]
    obtain ⟨k, rfl⟩ : ∃ k, Q = k + 1 := ⟨Q - 1, by omega⟩
    exact ptTo_head P (k + 1) M hM1 k
theorem glTo_mem (l : List Int) (x : Int) : ∀ k, x ∈ glTo l k ↔ ∃ j, j < k ∧ l.getD j 0 = x
  | 0 => by simp [glTo]
  | k + 1 => by
    show x ∈ inI (glTo l k) (l.getD k 0) ↔ _
    rw [inI_mem, glTo_mem l x k]
    constructor
    · rintro (h | ⟨j, h1, h2⟩)
      · exact ⟨k, by omega, h.symm⟩
      · exact ⟨j, by omega, h2⟩
    · rintro ⟨j, h1, h2⟩
      by_cases e : j = k
      · subst e; exact .inl h2.symm
      · exact .inr ⟨j, by omega, h2⟩
theorem gl_mem (l : List Int) (x : Int) : x ∈ l ↔ x ∈ glTo l l.length := by
  rw [glTo_mem]
  constructor
  · intro h
    obtain ⟨j, hj, rfl⟩ := List.mem_iff_getElem.1 h
    exact ⟨j, hj, by rw [List.getD_eq_getElem?_getD, List.getElem?_eq_getElem hj]; rfl⟩
  · rintro ⟨j, hj, rfl⟩
    exact getD_mem hj


noncomputable def ptsBody : Code := Try.f5.body.getD .skip
noncomputable def ptsC0 : Code := match ptsBody with | .seq a _ => a | _ => .skip
noncomputable def ptsT1 : Code := match ptsBody with | .seq _ r => r | _ => .skip
noncomputable def ptsOps1 : Array Oper := match ptsT1 with | .seq (.region _ ops _) _ => ops | _ => #[]
noncomputable def ptsT2 : Code := match ptsT1 with | .seq _ r => r | _ => .skip
theorem ptsBody_eq : ptsBody = .seq ptsC0 (.seq (.region 1 ptsOps1 false) ptsT2) := by
  simp only [ptsC0, ptsOps1, ptsT2, ptsT1, ptsBody, Try.f5, Option.getD_some]

set_option maxRecDepth 100000 in
set_option maxHeartbeats 2000000 in
theorem c_pts (p q n : Int) (W : World) : CCalls Try.prog 5 #[.int .i64 p, .int .i64 q, .int .i64 n] W fun v w' => w'.ownsRow W.heap.size 3 1 v (ptR p q n).length (ints (ptR p q n)) ∧ Bl W.heap.size W w' := by
  intro Fin cs hK
  have henter : Frame.enter Try.prog 5 #[.int .i64 p, .int .i64 q, .int .i64 n] .normal = ({ (default : Frame) with fn := 5, kind := .normal } : Frame).at ⟨#[.int .i64 p, .int .i64 q, .int .i64 n, undef, undef, undef, undef, undef, undef, undef, undef, undef], []⟩ [.code ptsBody] := by
    simp [Frame.enter, Frame.at, Try.func5, ptsBody, Try.f5]
  rw [henter, ptsBody_eq]
  have leave := can_leave (cs := cs) Try.func5 (t := 6) (by simp [Try.f5]) hK
  refine Can.silent rfl (fun _ => stepG_seq) ?_
  refine (CWp.of (c := ptsC0) (R := fun e a' w => e = .normal ∧ a' = ⟨#[.int .i64 p, .int .i64 q, .int .i64 n, undef, undef, undef, .slice none 0 0, undef, undef, undef, undef, undef], []⟩ ∧ Bl W.heap.size W w)
    closedS noEarlyS (by kernel_rfl) rfl (fun τ d => ?_) (fun e a w h => .inl h.1)) Fin _ _ cs rfl ?_
  · simp only [ptsC0, ptsBody, Try.f5, Option.getD_some]
    go_wp2_with fail
    exact ⟨rfl, rfl, rfl, Nat.le_refl _, fun _ _ => rfl⟩
  rintro e a' w0 ⟨τ0, d0, rfl, rfl, hb0⟩
  replace hb0 := hb0.un
  show Can Try.prog Fin (G (Frame.at _ _ (.code (.seq (.region 1 ptsOps1 false) ptsT2) :: [])) cs) w0
  refine Can.silent rfl (fun _ => stepG_seq) ?_
  refine Can.silent rfl (fun _ => stepG_region) ?_
  have hrange : List.range ptsOps1.size = [0, 1, 2, 3, 4, 5] := by simp [ptsOps1, ptsT1, ptsBody, Try.f5, List.range, List.range.loop]
  rw [hrange]
  simp only [ptsOps1, ptsT1, ptsBody, Try.f5, Option.getD_some]
  refine Can.op rfl rfl rfl (fun _ => rfl) (fun _ => rfl) ?_
  refine Can.op rfl rfl rfl (fun _ => rfl) (fun _ => rfl) ?_
  refine Can.op rfl rfl rfl (fun _ => rfl) (fun _ => rfl) ?_
  walk_nrm
  refine Can.call rfl rfl rfl (run_direct rfl rfl Try.func17 mul_body mul_name (by simp [Act.eval])) (cMultiplesOf p q n w0) fun v w1 hR => ?_
  obtain ⟨hb1, ho, hnil⟩ := hR
  walk_nrm
  obtain ⟨sc, hsc⟩ := srt_body
  refine Can.call rfl rfl rfl (run_direct rfl rfl Try.func16 hsc srt_name (by simp [Act.eval])) (cSortedOnce (muR p q n) (ptR p q n) v w0.heap.size w1 ho (Nat.le_trans (muR_le p q n) (by omega)) (ptR_asc p q n) (mu_pt p q n)) fun v2 w2 hR => ?_
  obtain ⟨ho2, hb2⟩ := hR
  walk_nrm
  refine Can.op rfl rfl rfl (fun _ => rfl) (fun _ => rfl) ?_
  walk_nrm
  refine Can.silent rfl (fun _ => stepG_region_end) ?_
  have hb : Bl W.heap.size W w2 := hb0.trans ((hb1.trans hb2).mono hb0.size)
  have hown : w2.ownsRow W.heap.size 3 1 v2 (ptR p q n).length (ints (ptR p q n)) := own_mono ho2 hb0.size
  refine (CWp.of (R := fun e a' w => (e = .ret ∧ a'.defers = [] ∧ a'.tmps[6]? = some v2) ∧ (w.ownsRow W.heap.size 3 1 v2 (ptR p q n).length (ints (ptR p q n)) ∧ Bl W.heap.size W w)) closedS noEarlyS (c := ptsT2) (by kernel_rfl) rfl (fun τ d => ?_) (fun e a w h => .inr h.1.1)) Fin _ _ cs rfl ?_
  · have hbt : Bl W.heap.size W (tp w2 τ d) := hb.trans ⟨rfl, rfl, rfl, Nat.le_refl _, fun _ _ => rfl⟩
    have hot := own_tp hown τ d
    generalize tp w2 τ d = wx at *
    simp only [ptsT2, ptsT1, ptsBody, Try.f5, Option.getD_some]
    go_wp2_with fail
  rintro e a' w3 ⟨τ2, d2, ⟨rfl, hd, hv⟩, ho3, hb3⟩
  exact fun todo => leave a' todo w3 _ hd hv ⟨ho3, hb3.un⟩
theorem pts_name : (Try.f5.name == "runtime.NumGoroutine") = false := by kernel_rfl
theorem pts_body : Try.f5.body = some ptsBody := by simp only [ptsBody, Try.f5, Option.getD_some]
end Go.Proofs.Ytiikledbflgejaa
