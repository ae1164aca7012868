/- Texts put together. -/
import Derived.Test.YtcdchieielpahaaMgE3
import Derived.Test.YtcdchieielpahaaChecked
import Derived.KernelRfl
import Derived.Conc.PipeWords
import Derived.IntWalk
/- Walks in the company of goroutines that only leave, piece by piece: plain code by its lone walk on every tape; calls of plain functions by their lone contracts; a go statement whose goroutine sends over a channel without a buffer. -/
namespace Go.Proofs.Ytcdchieielpahaa
open Go.Conc
open Go.ConcN (sumTo upd sumTo_upd upd_ne upd_same)

/-- goroutine 0 at g in world w, beside whatever goroutines that only leave: Fin is reached -/
def Can (P : Program) (Fin : Goroutine → World → Prop) (g : Goroutine) (w : World) : Prop :=
  ∀ (d : Nat) (gs : Array Goroutine) (sl : Option (Nat × Nat)) (t : Trace) (q : Nat → Nat), gs[0]? = some g → Leavers P t gs q → Calm0 t → Reach9 P Fin gs (w.at d) sl t

theorem Calm0.comm' {t : Trace} (u : Trace) (h : Calm0 t) (hu : ∀ op ∈ u, op.act.touch? = none ∧ Quiet op) : Calm0 (t ++ u) := by
  obtain ⟨l⟩ := u
  exact Calm0.comm l h (by simpa using hu)

section
variable {P : Program} {Fin : Goroutine → World → Prop} {g : Goroutine} {w : World}

theorem Can.fin (h : ∀ d, Fin g (w.at d)) : Can P Fin g w := fun d gs sl t q h0 hL hP => ⟨0, gs, g, w.at d, sl, t, q, rfl, h0, h d, hL, hP⟩
theorem Can.walk {Stop : Goroutine → World → Prop} (h : GoesW P Stop g w) (hk : ∀ g' w', Stop g' w' → Can P Fin g' w') : Can P Fin g w := fun d gs sl t q h0 hL hP =>
  reach_then (walk_w h gs d sl t q h0 hL hP) fun gs' a w' sl' t' q' h0' hs hL' hP' => hk a w' hs w'.drawn gs' sl' t' q' h0' hL' hP'
theorem Can.drawn (h : Can P Fin g w) (d : Nat) : Can P Fin g (w.at d) := fun d' gs sl t q h0 hL hP => h d' gs sl t q h0 hL hP
/-- one own step -/
theorem Can.go (hs : g.status = .running) (h : ∀ d, ∃ g' w' es, stepG P true g (w.at d) = .go g' w' es ∧ (∀ e ∈ es, EvOk e) ∧ Can P Fin g' w') : Can P Fin g w := by
  refine Can.walk (Stop := Can P Fin) (.step _ _ hs (fun d => Classical.choose (h d)) (fun d => Classical.choose (Classical.choose_spec (h d))) (fun d => Classical.choose (Classical.choose_spec (Classical.choose_spec (h d))))
    (fun d => (Classical.choose_spec (Classical.choose_spec (Classical.choose_spec (h d)))).1) (fun d => (Classical.choose_spec (Classical.choose_spec (Classical.choose_spec (h d)))).2.1)
    (fun d => .stop _ _ fun d' => ((Classical.choose_spec (Classical.choose_spec (Classical.choose_spec (h d)))).2.2).drawn d')) fun _ _ h => h
theorem Can.silent {g' : Goroutine} (hs : g.status = .running) (h : ∀ w, stepG P true g w = .go g' w) (hk : Can P Fin g' w) : Can P Fin g w :=
  .go hs fun d => ⟨g', w.at d, #[], h _, by simp, hk.drawn d⟩

/-- THE GO STATEMENT: its goroutine sends, this one receives. -/
theorem Can.phase {c : Nat} {z : Value} {Fin1 : Goroutine → World → Prop} {vs : List Value} {g' child : Goroutine} {s r : Nat} {tm : Bool} (hs : g.status = .running) (hgo : ∀ w, stepG P true g w = .spawn g' child w #[])
    (hc : w.heap[c]? = some (.chan 0 #[] false s r tm)) (hA : Recvs P c TT MM z Fin1 vs g' w) (hB : SendsC P c vs child) (hk : ∀ g2 w2, Fin1 g2 w2 → Can P Fin g2 w2) : Can P Fin g w := by
  intro d gs sl t q h0 hL hP
  refine slip_then (w := w) hs (fun gs d sl t q h0 hL hP => ?_) gs d sl t q h0 hL hP
  have hlt : 0 < gs.size := (Array.getElem?_eq_some_iff.1 h0).1
  have hrun := runT_crowd_spawn (P := P) (sl := sl) (i := 0) h0 (show stepG P (0 == 0) g (w.at d) = _ from hgo _)
  refine ⟨_, _, _, _, hrun, ?_⟩
  obtain ⟨na, hna⟩ := (recvs_iff P c TT MM z _ vs _ _).1 hA
  obtain ⟨nb, hnb⟩ := (sendsC_iff P c vs _).1 hB
  have hops : ∀ op ∈ ((MemOp.ofEvents 0 g.frame.fn g.frame.place (#[] : Array Event)).push { g := 0, fn := g.frame.fn, pos := g.frame.place, act := .go gs.size }).push { g := gs.size, fn := child.frame.fn, pos := g.frame.place, act := .start }, op.act.touch? = none ∧ Quiet op := by
    intro op hop
    rw [ofEvents_eq] at hop
    simp only [Array.map_empty, Array.mem_push] at hop
    rcases hop with (hop | rfl) | rfl
    · simp at hop
    · simp [MemAct.touch?, Quiet]
    · simp [MemAct.touch?, Quiet]
  refine reach_then (phase_open (c := c) (z := z) (Fin := Fin1) vs (na + 1 + (nb + 1) + sumTo (gs.size + 1) q + 1) _ gs.size g' child (w.at d) sl _ q s r tm (na + 1) (nb + 1) ?_ ⟨?_, hlt, ?_, fun i x hi hne hx => ?_, ?_, fun i hi => ?_, ?_⟩ ?_ hc
    (.inl ⟨na, rfl, Goes.rely (R := Aside c) (fun _ _ _ h h' => Aside.trans h h') hna (Aside.at c w d)⟩) (.inl ⟨nb, rfl, hnb⟩) (by omega)) fun gs' a w' sl' t' q' h0' hf hL' hP' => hk a w' hf w'.drawn gs' sl' t' q' h0' hL' hP'
  · simp only [Array.size_push, Array.size_setIfInBounds]; omega
  · rw [Array.getElem?_push_lt (by simpa using hlt), Array.getElem_setIfInBounds_self]
  · rw [Array.getElem?_push]
    simp
  · rw [deaf_quiet' _ _ _ fun op hop => (hops op hop).2]
    have hx' : gs[i]? = some x := by
      rw [Array.getElem?_push] at hx
      simp only [Array.size_setIfInBounds] at hx
      split at hx
      · exact absurd ‹_› hne
      · exact set_other (by omega) hx
    exact hL.old i x hi hx'
  · rw [deaf_quiet' _ _ _ fun op hop => (hops op hop).2]
    exact hL.above _ (Nat.le_refl _)
  · rw [deaf_quiet' _ _ _ fun op hop => (hops op hop).2]
    exact hL.above i (by simp at hi; omega)
  · -- what was touched is known to the new goroutine
    have e : ((MemOp.ofEvents 0 g.frame.fn g.frame.place (#[] : Array Event)).push { g := 0, fn := g.frame.fn, pos := g.frame.place, act := .go gs.size }).push { g := gs.size, fn := child.frame.fn, pos := g.frame.place, act := .start } =
        #[{ g := 0, fn := g.frame.fn, pos := g.frame.place, act := .go gs.size }, { g := gs.size, fn := child.frame.fn, pos := g.frame.place, act := .start }] := by
      rw [ofEvents_eq]
      simp
    rw [e] at hops ⊢
    generalize hu : (#[{ g := 0, fn := g.frame.fn, pos := g.frame.place, act := .go gs.size }, { g := gs.size, fn := child.frame.fn, pos := g.frame.place, act := .start }] : Trace) = u at hops ⊢
    have g1 : (t ++ u)[t.size]? = some { g := 0, fn := g.frame.fn, pos := g.frame.place, act := .go gs.size } := by
      rw [← hu, Array.getElem?_append_right (Nat.le_refl _)]; simp
    have g2 : (t ++ u)[t.size + 1]? = some { g := gs.size, fn := child.frame.fn, pos := g.frame.place, act := .start } := by
      rw [← hu, Array.getElem?_append_right (Nat.le_succ _)]; simp
    obtain ⟨B, hPB⟩ := hP
    intro i a ha hl _
    obtain ⟨op, hop, hox⟩ := touch_of ha
    rcases getElem?_append_cases hop with ⟨_, hop'⟩ | ⟨_, hou⟩
    · have hk := (hPB.known i a (by rw [touchAt_of hop']; exact hox) (by rw [hl]; rfl)).resolve_right (fun h => h.1)
      have h1 : HappensBefore (t ++ u) i t.size := hk.hb_new (Nat.le_refl _) g1 rfl
      have d1 : (t ++ u).deaf 0 t.size = 0 := by rw [deaf_old (Nat.le_refl _)]; exact hPB.hears
      have d2 : (t ++ u).deaf gs.size (t.size + 1) = 0 := by
        rw [deaf_succ g1, deaf_old (Nat.le_refl _)]
        exact hL.above _ (Nat.le_refl _)
      have h2 : HappensBefore (t ++ u) t.size (t.size + 1) := .single (.inr ⟨.spawn (child := gs.size) (by rw [act?_of g1]) (by rw [act?_of g2]) (by simp [Trace.g?, g2]), heard_of g1 d1, heard_of g2 d2⟩)
      exact ⟨t.size + 1, _, g2, rfl, .inr (h1.trans h2)⟩
    · rw [(hops op hou).1] at hox
      cases hox
  · exact Calm0.comm' _ hP hops
end

/-! ### code -/
/-- where an exit leads -/
def CanE (P : Program) (Fin : Goroutine → World → Prop) (b : Frame) (k : List Item) (cs : List Frame) (e : Exit) (a : Act) (w : World) : Prop :=
  match e with
  | .normal => Can P Fin (G (b.at a k) cs) w
  | .exit id => ∀ k', exitTo id k = some k' → Can P Fin (G (b.at a k') cs) w
  | .ret => ∀ todo, Can P Fin (G { b.at a todo with mode := .returning } cs) w
  | _ => False
def CWp (P : Program) (c : Code) (Q : Exit → Act → World → Prop) (a : Act) (w : World) : Prop :=
  ∀ (Fin : Goroutine → World → Prop) (b : Frame) (k : List Item) (cs : List Frame), b.kind = .normal → (∀ e a' w', Q e a' w' → CanE P Fin b k cs e a' w') → Can P Fin (G (b.at a (.code c :: k)) cs) w
/-- the operations l of a region that are still to come -/
def COps (P : Program) (ops : Array Oper) (Q : Exit → Act → World → Prop) (l : List Nat) (a : Act) (w : World) : Prop :=
  ∀ (Fin : Goroutine → World → Prop) (b : Frame) (k : List Item) (cs : List Frame), b.kind = .normal → (∀ e a' w', Q e a' w' → CanE P Fin b k cs e a' w') → Can P Fin (G (b.at a (.inRegion ops l :: k)) cs) w
/-- a call in company -/
def CCalls (P : Program) (f : FuncId) (args : Array Value) (w : World) (R : Value → World → Prop) : Prop :=
  ∀ (Fin : Goroutine → World → Prop) (cs : List Frame), (∀ fr v w', R v w' → fr.leaving P w' (.returned v) → fr.fn = f → Can P Fin (G fr cs) w') → Can P Fin (G (Frame.enter P f args .normal) cs) w

section
variable {P : Program} {Q : Exit → Act → World → Prop} {a : Act} {w : World}

theorem CWp.mono {c : Code} {Q' : Exit → Act → World → Prop} (h : CWp P c Q a w) (hq : ∀ e a w, Q e a w → Q' e a w) : CWp P c Q' a w := fun Fin b k cs hb hK => h Fin b k cs hb fun e a' w' hQ => hK e a' w' (hq e a' w' hQ)
theorem CWp.seq {x y : Code} (h : CWp P x (Exit.then (CWp P y Q) Q) a w) : CWp P (.seq x y) Q a w := by
  intro Fin b k cs hb hK
  refine Can.silent rfl (fun _ => stepG_seq) (h Fin b (.code y :: k) cs hb fun e a' w' hq => ?_)
  cases e with
  | normal => exact hq Fin b k cs hb hK
  | exit id => exact fun k' hk' => hK _ _ _ hq k' (by simpa [exitTo] using hk')
  | ret => exact hK _ _ _ hq
  | goto l => exact hK _ _ _ hq
  | panic ch => exact hK _ _ _ hq
  | outgrown => exact hK _ _ _ hq
theorem CWp.cond {c : Operand} {x y : Code} {t : Bool} (hc : a.eval c = .bool t) (h : CWp P (if t then x else y) Q a w) : CWp P (.cond c x y) Q a w := fun Fin b k cs hb hK =>
  Can.silent rfl (fun _ => stepG_cond hc) (h Fin b k cs hb hK)
theorem CWp.block {id : Nat} {c : Code} (h : CWp P c (Exit.inBlock id Q) a w) : CWp P (.block id c) Q a w := by
  intro Fin b k cs hb hK
  refine Can.silent rfl (fun _ => stepG_block) (h Fin b (.inBlock id :: k) cs hb fun e a' w' hq => ?_)
  cases e with
  | normal => exact Can.silent rfl (fun _ => stepG_inBlock) (hK .normal _ _ hq)
  | exit j =>
    intro k' hk'
    simp only [exitTo] at hk'
    by_cases hj : j = id
    · have hq2 : Q .normal a' w' := by simpa only [Exit.inBlock, hj, if_true] using hq
      rw [if_pos (by simp [hj])] at hk'
      injection hk' with hk'
      subst hk'
      exact hK .normal _ _ hq2
    · have hq2 : Q (.exit j) a' w' := by simpa only [Exit.inBlock, hj, if_false] using hq
      rw [if_neg (by simp only [beq_iff_eq]; exact fun h => hj h.symm)] at hk'
      exact hK _ _ _ hq2 k' hk'
  | ret => exact hK .ret _ _ hq
  | goto l => exact hK (.goto l) _ _ hq
  | panic ch => exact hK (.panic ch) _ _ hq
  | outgrown => exact hK .outgrown _ _ hq
theorem CWp.region {id : Nat} {ops : Array Oper} (h : COps P ops Q (List.range ops.size) a w) : CWp P (.region id ops false) Q a w := fun Fin b k cs hb hK =>
  Can.silent rfl (fun _ => stepG_region) (h Fin b k cs hb hK)
theorem COps.nil {ops : Array Oper} (h : Q .normal a w) : COps P ops Q [] a w := fun _ _ _ _ _ hK => Can.silent rfl (fun _ => stepG_region_end) (hK .normal _ _ h)
/-- an operation that yields a value in whatever world -/
theorem COps.plain {ops : Array Oper} {i : Nat} {rest : List Nat} {o : Oper} (ho : ops[i]? = some o) (hw : Region.wanted o (yielded ops a.tmps) = true) {v : Value}
    (hr : ∀ w, (execOp a.eval o).run P w = .ok (.value v) w) (he : ∀ w, (execOp a.eval o).events P w #[] = #[]) (h : COps P ops Q rest (a.put o.dst v) w) : COps P ops Q (i :: rest) a w := by
  intro Fin b k cs hb hK
  refine Can.silent rfl (fun w => ?_) (h Fin b k cs hb hK)
  rw [stepG_value (v := v) (w' := w) ho hw (by rw [hb]; simp) (hr w)]
  unfold listed
  rw [he w, seen_none]
/-- a call -/
theorem COps.call {ops : Array Oper} {i : Nat} {rest : List Nat} {o : Oper} {f : FuncId} {args : Array Value} {R : Value → World → Prop} (ho : ops[i]? = some o) (hw : Region.wanted o (yielded ops a.tmps) = true)
    (hr : ∀ w, (execOp a.eval o).run P w = .ok (.enter f args) w) (he : ∀ w, (execOp a.eval o).events P w #[] = #[]) (hc : CCalls P f args w R) (h : ∀ v w', R v w' → COps P ops Q rest (a.put o.dst v) w') : COps P ops Q (i :: rest) a w := by
  intro Fin b k cs hb hK
  have hk' : (b.kind == CallKind.early) = false := by rw [hb]; rfl
  refine Can.silent (g' := G (Frame.enter P f args .normal) (b.at a (.inRegion ops (i :: rest) :: k) :: cs)) rfl (fun w => ?_) (hc Fin _ fun fr v w' hR hl _ => ?_)
  · rw [stepG_oper ho hw]
    have he' := he w
    unfold Sem.events at he'
    have hrt : (execOp a.eval o).runT P w #[] = (.ok (.enter f args) w, #[]) := by
      have h1 := Sem.runT_fst P (execOp a.eval o) w #[]
      rw [hr w] at h1
      exact Prod.ext h1 he'
    unfold stepG.apply
    simp only [if_true, hrt]
    simp [G, Frame.at, hk', GStep.after, seen_none]
  · -- its return
    obtain ⟨l1, l2, l3, fn, l4, l5⟩ := hl
    have hfin : (b.at a (.inRegion ops (i :: rest) :: k)).finish v = b.at (a.put o.dst v) (.inRegion ops rest :: k) := by rw [Frame.finish_at, ho]; rfl
    have key : ∀ d, ∃ es, stepG P true (G fr (b.at a (.inRegion ops (i :: rest) :: k) :: cs)) (w'.at d) = .go (G (b.at (a.put o.dst v) (.inRegion ops rest :: k)) cs) (w'.at d) es ∧ ∀ e ∈ es, EvOk e := fun d => by
      have hl2 : fr.leaving P (w'.at d) (.returned v) := leaving_tp ⟨l1, l2, l3, fn, l4, l5⟩ w'.tape d
      obtain ⟨_, _, _, fn2, l6, l7⟩ := hl2
      rcases e : (results fn2 fr.tmps).runT P (w'.at d) #[] with ⟨r, es⟩
      have h1 := Sem.runT_fst P (results fn2 fr.tmps) (w'.at d) #[]
      rw [e, l7] at h1
      have h1 : r = .ok v (w'.at d) := h1
      subst h1
      have hev := mild_events P _ (mild_results fn2 fr.tmps) (w'.at d) #[] (by simp)
      rw [e] at hev
      refine ⟨seen P fr.fn es, ?_, seen_ok P _ _ hev⟩
      rw [← hfin]
      simp [G, stepG, unwind, doReturn, l1, l2, l3, l6, e, GStep.after, -Sem.runT_eq]
    refine Can.go rfl fun d => ?_
    obtain ⟨es, h1, h2⟩ := key d
    exact ⟨_, _, es, h1, h2, (h v w' hR Fin b k cs hb hK).drawn d⟩

/-- plain code, by its lone walk on every tape -/
theorem CWp.of {S : FuncId → Bool} (hS : Closed P S) (hE : NoEarly P) {c : Code} (ht : tameCode S c = true) (hd : a.defers = []) {R : Exit → Act → World → Prop} (h : ∀ τ d, c.wp P R a (tp w τ d))
    (hR : ∀ e a w, R e a w → e = .normal ∨ e = .ret) : CWp P c (fun e a' w' => ∃ τ d, R e a' (tp w' τ d)) a w := by
  intro Fin b k cs hb hK
  let x : Pl := ⟨b.at a [.code c], [], w⟩
  have hT : TameL S x.fr x.cs := ⟨⟨fun y hy => by
    simp only [x, Frame.at, List.mem_singleton] at hy
    subst hy
    exact ht, hd, hb, rfl⟩, by simp [x]⟩
  let Qf : Frame → World → Prop := fun fr w' => ∃ a' τ d, (fr = b.at a' dead ∧ R .normal a' (tp w' τ d)) ∨ ((∃ todo, fr = { b.at a' todo with mode := .returning }) ∧ R .ret a' (tp w' τ d))
  have hX : ReturnsL P Qf x := by
    intro σ
    obtain ⟨e, a', w', hq, harr⟩ := h σ 0 b dead [trap P, trap P]
    rcases hR e a' w' hq with rfl | rfl
    · exact ⟨σ, 0, b.at a' dead, w', fun j => by rw [Nat.zero_add], harr, .inl ⟨rfl, rfl⟩, a', w'.tape, w'.drawn, .inl ⟨rfl, hq⟩⟩
    · obtain ⟨todo, hs⟩ := harr
      exact ⟨σ, 0, { b.at a' todo with mode := .returning }, w', fun j => by rw [Nat.zero_add], hs, .inr rfl, a', w'.tape, w'.drawn, .inr ⟨⟨todo, rfl⟩, hq⟩⟩
  have hG := goesW_of_returnsL (Q := Qf) hS hE (fun fr w' τ d ⟨a', τ', d', h⟩ => ⟨a', τ', d', h⟩) k cs x hT hX w.tape w.drawn
  refine Can.walk hG fun g' w' ⟨fr, hg, _, a', τ, d, hq⟩ => ?_
  subst hg
  rcases hq with ⟨hfr, hq⟩ | ⟨⟨todo, hfr⟩, hq⟩
  · have e : ext k fr = b.at a' k := by
      obtain ⟨fn, tmps, td, df, md, kd, ro⟩ := fr
      simp only [ext, Frame.at, Frame.mk.injEq] at hfr ⊢
      obtain ⟨h1, h2, h3, h4, h5, h6, h7⟩ := hfr
      have htd : td = [] := by
        have := congrArg List.length h3
        simp only [List.length_append] at this
        exact List.eq_nil_of_length_eq_zero (by omega)
      subst htd
      simp [h1, h2, h4, h5, h6, h7]
    rw [e]
    exact hK .normal a' w' ⟨τ, d, hq⟩
  · have e : ext k fr = { b.at a' (fr.todo ++ k) with mode := .returning } := by
      obtain ⟨fn, tmps, td, df, md, kd, ro⟩ := fr
      simp only [ext, Frame.at, Frame.mk.injEq] at hfr ⊢
      obtain ⟨h1, h2, _, h4, h5, h6, h7⟩ := hfr
      simp [h1, h2, h4, h5, h6, h7]
    rw [e]
    exact hK .ret a' w' ⟨τ, d, hq⟩ _

/-- a plain function, by its lone contract on every tape -/
theorem CCalls.of {S : FuncId → Bool} (hS : Closed P S) (hE : NoEarly P) {f : FuncId} (hf : S f = true) {args : Array Value} {R : Value → World → Prop} (h : ∀ τ d, Calls P f args (tp w τ d) fun e w' => ∃ v, e = .returned v ∧ R v w') :
    CCalls P f args w fun v w' => ∃ τ d, R v (tp w' τ d) := by
  intro Fin cs hK
  let x : Pl := ⟨Frame.enter P f args .normal, [], w⟩
  have hT : x.tame S := ⟨tame_enter hS hf args, by simp [x]⟩
  let Qf : Frame → Value → World → Prop := fun fr v w' => fr.fn = f ∧ ∃ τ d, R v (tp w' τ d)
  have hX : Returns1 P Qf x := by
    intro σ
    obtain ⟨e, w', fr, ⟨v, rfl, hR⟩, hst, hfn, hl⟩ := h σ 0 [trap P, trap P]
    exact ⟨σ, 0, fr, v, w', fun j => by rw [Nat.zero_add], hst, hl, hfn, w'.tape, w'.drawn, hR⟩
  have hG := goesW_of_returns (Q := Qf) hS hE (fun fr v w' τ d ⟨h1, τ', d', h2⟩ => ⟨h1, τ', d', h2⟩) cs x hT hX w.tape w.drawn
  refine Can.walk hG fun g' w' ⟨fr, v, hg, hl, hfn, hq⟩ => ?_
  subst hg
  exact hK fr v w' hq hl hfn
/-- a function by the walk of its body -/
theorem CCalls.body {f : FuncId} {fn : Func} {c : Code} {args : Array Value} {R : Value → World → Prop} (hf : P.funcs[f]? = some fn) (hb : fn.body = some c)
    (h : CWp P c (fun e a' w' => (e = .normal ∨ e = .ret) ∧ a'.defers = [] ∧ ∃ v, (results fn a'.tmps).run P w' = .ok v w' ∧ R v w') { tmps := args ++ Array.replicate (fn.ntmps - args.size) undef, defers := [] } w) : CCalls P f args w R := by
  intro Fin cs hK
  have henter : Frame.enter P f args .normal = ({ (default : Frame) with fn := f, kind := .normal } : Frame).at { tmps := args ++ Array.replicate (fn.ntmps - args.size) undef, defers := [] } [.code c] := by
    simp [Frame.enter, Frame.at, hf, hb]
  rw [henter]
  refine h Fin _ [] cs rfl fun e a' w' ⟨he, hd, v, hv, hR⟩ => ?_
  have leave : ∀ todo, Can P Fin (G { ({ (default : Frame) with fn := f, kind := .normal } : Frame).at a' todo with mode := .returning } cs) w' := fun todo => hK _ v w' hR ⟨rfl, hd, rfl, fn, hf, hv⟩ rfl
  rcases he with rfl | rfl
  · exact Can.silent rfl (fun _ => stepG_end) (leave [])
  · exact leave
end
end Go.Proofs.Ytcdchieielpahaa

/- From the walk in company to the good run that the row asks for; and when no variable waits for its initialiser. -/
namespace Go.Proofs.Ytcdchieielpahaa
open Go.Conc

theorem noEarly_of {P : Program} (hf : P.follows .staticDataAhead = true) (hr : P.funcs.all (fun f => (f.body.map readies).all (·.isEmpty)) = true) : NoEarly P := by
  intro fr callers dying g w
  have hs : P.stepOf g = none := by
    unfold Program.stepOf
    rw [Array.findIdx?_eq_none_iff]
    intro f hm
    have h := Array.all_eq_true'.1 hr f hm
    cases hb : f.body.map readies with
    | none => rfl
    | some l =>
      rw [hb] at h
      simp only [Option.all_some, List.isEmpty_iff] at h
      subst h
      rfl
  unfold early
  simp only [hf, hs]
  exact ⟨_, _, _, rfl⟩

section
variable {P : Program} {Post : Value → World → Prop}

/-- goroutine 0 at the return of its lowest frame -/
def AtRet (P : Program) (f : FuncId) (Post : Value → World → Prop) (g : Goroutine) (w : World) : Prop :=
  ∃ fr v, g = G fr [] ∧ fr.leaving P w (.returned v) ∧ fr.fn = f ∧ Post v w

theorem can_of_ccalls {f : FuncId} {args : Array Value} {w : World} {R : Value → World → Prop} (h : CCalls P f args w R) : Can P (AtRet P f fun v w' => ∃ d, R v (w'.at d)) (G (Frame.enter P f args .normal) []) w :=
  h _ [] fun fr v w' hR hl hf => Can.fin fun d => ⟨fr, v, rfl, leaving_tp hl w'.tape d, hf, w'.drawn, hR⟩

theorem run_of_can {f : FuncId} {args : Array Value} {W : World} (hPost : ∀ v w d, Post v w → Post v (w.at d)) (hini : P.inits.idxOf? f = none) (h : Can P (AtRet P f Post) (G (Frame.enter P f args .normal) []) W) :
    ∃ M last o w' t', runNT P (M + 1) (solo (G (Frame.enter P f args .normal) []) W) #[] = (.ended o w', t') ∧ runN P M (solo (G (Frame.enter P f args .normal) []) W) = .next last ∧ step P last = .ended o w' ∧ Conc.Good P Post last o w' t' := by
  obtain ⟨N, gs, a, w, sl, t, q, hr, h0, ⟨fr, v, rfl, hl, hfn, hp⟩, hL, B, hP⟩ := h W.drawn #[G (Frame.enter P f args .normal) []] none #[] (fun _ => 0) rfl (leavers_one P _) ⟨0, past_nil⟩
  obtain ⟨l1, l2, l3, fn, l4, l5⟩ := hl
  rcases e : (results fn fr.tmps).runT P w #[] with ⟨r, es⟩
  have hloc := local_of_mild P _ (mild_results fn fr.tmps) w #[] r es e
  have h1 := Sem.runT_fst P (results fn fr.tmps) w #[]
  rw [e, l5] at h1
  have h1 : r = .ok v w := h1
  subst h1
  have hev := mild_events P _ (mild_results fn fr.tmps) w #[] (by simp)
  rw [e] at hev
  obtain ⟨C, hC⟩ := lows_some (seen P fr.fn es)
  have hP' := hP.mono (Nat.le_max_left B C)
  have hEnd : ∀ d, AtEnd P NoShun (max B C) Post (G fr []) (w.at d) := fun d => by
    refine ⟨rfl, v, seen P fr.fn es, ?_, evL_of (seen_ok P _ _ hev) (fun x hx => MemAct.low_mono (Nat.le_max_right _ _) (hC x hx)), hPost _ _ _ hp⟩
    have e2 := hloc.2.2 w.tape d (fun j hlt => by simp only [wof] at hlt; omega)
    have e2 : (results fn fr.tmps).runT P (w.at d) #[] = (.ok v (w.at d), es) := by
      rw [show w.at d = tp w w.tape d from rfl, e2]
      simp [rtp, wof]
    have l4' : P.funcs[f]? = some fn := hfn ▸ l4
    simp only [G, stepG, unwind, l1, l2, e2, doReturn, l3, Bool.not_true, Bool.false_eq_true, if_false, hfn, hini, l4']
    simp [GStep.after]
  have hG : Goes P true AtRel (fun _ _ es => ∀ e ∈ es, EvL NoShun (max B C) e) (AtEnd P NoShun (max B C) Post) 0 (G fr []) w := by
    rintro w₁ ⟨d, rfl⟩
    exact hEnd d
  obtain ⟨M, last, o, w', t', r1, r2, r3, r4⟩ := beside_ends (sl := sl) (fun _ _ _ h => h) h0 hL hP' hG
  have hr' : runNT P N (solo (G (Frame.enter P f args .normal) []) W) #[] = (.next (crowd gs w sl), t) := hr
  refine ⟨N + M, last, o, w', t', ?_, ?_, r3, r4⟩
  · rw [Nat.add_assoc, runNT_add, hr']; exact r1
  · rw [runN_add, ← runNT_fst P N _ #[], hr']; exact r2
end
end Go.Proofs.Ytcdchieielpahaa

/- The plain functions of this seat. -/
namespace Go.Proofs.Ytcdchieielpahaa

/-- functions that neither start nor send nor receive, nor call one that does -/
def plainL : List Nat := [13, 14, 15, 11, 16, 18, 20, 22, 23, 24, 25, 26, 28, 29, 30, 31, 32, 34, 35, 36, 37, 38, 39, 40, 41, 42, 43, 44, 45, 47, 48, 49, 50, 51, 52, 53, 54, 55, 56, 57, 58, 59, 60, 61, 62, 63, 64, 65, 66, 67, 68]
def plainS : FuncId → Bool := fun g => plainL.contains g
theorem closedS : Closed Try.prog plainS := closed_of _ plainL (by kernel_rfl)
theorem noEarlyS : NoEarly Try.prog := noEarly_of (by kernel_rfl) (by kernel_rfl)
end Go.Proofs.Ytcdchieielpahaa

/- The program's sendMultiples, as a goroutine of its own: it sends the n points i * p % q, one after the other, closes the channel, and only leaves behind that. Conditions: 1 ≤ q ≤ 1000, p < q, n ≤ 400. -/
namespace Go.Proofs.Ytcdchieielpahaa
open Go.Conc Go.RowKit

/-- the points i * p % q from i = k on, m of them -/
def mulsV (p q : Nat) : Nat → Nat → List Value
  | _, 0 => []
  | k, m + 1 => .int .i64 ((k * p % q : Nat) : Int) :: mulsV p q (k + 1) m

noncomputable def sndBody : Code := Try.f46.body.getD .skip
noncomputable def sndL : Code := match sndBody with | .seq (.seq _ (.block _ (.loop c))) _ => c | _ => .skip
noncomputable def sndR : Code := match sndBody with | .seq _ r => r | _ => .skip
noncomputable def sndL4 : Code := match sndL with | .seq _ (.seq _ (.seq _ r)) => r | _ => .skip
noncomputable def sndOps3 : Array Oper := match sndL with | .seq _ (.seq _ (.seq (.block _ (.seq _ (.region _ ops _))) _)) => ops | _ => #[]
noncomputable def sndOps5 : Array Oper := match sndR with | .region _ ops _ => ops | _ => #[]
def sndB : Frame := { (default : Frame) with fn := 46, kind := .deferred }
/-- the lowest frame, its one call taken off it -/
noncomputable def sndBot : Frame := { (default : Frame) with fn := Try.prog.funcs.size, defers := [], mode := .panicking [goexitEntry] }

section
variable (c p q n : Nat)

noncomputable def sndHead (k : Nat) (u8 u11 u12 u13 u14 u15 u16 u17 u18 u19 u20 : Value) : Goroutine :=
  G (sndB.at ⟨#[.chan (some c), .int .i64 (p : Int), .int .i64 (q : Int), .int .i64 (n : Int), undef, undef, undef, undef, u8, .int .i64 (n : Int), .int .i64 (k : Int), u11, u12, u13, u14, u15, u16, u17, u18, u19, u20], []⟩ [.code sndL, .inLoop sndL, .inBlock 0, .code sndR]) [sndBot]
noncomputable def sndAt (k : Nat) (v : Value) (u8 u11 u12 u14 u15 u16 u17 u19 u20 : Value) (rest : List Nat) : Goroutine :=
  G (sndB.at ⟨#[.chan (some c), .int .i64 (p : Int), .int .i64 (q : Int), .int .i64 (n : Int), undef, undef, undef, undef, u8, .int .i64 (n : Int), .int .i64 (k : Int), u11, u12, .chan (some c), u14, u15, u16, u17, v, u19, u20], []⟩ [.inRegion sndOps3 rest, .inBlock 1, .code sndL4, .inLoop sndL, .inBlock 0, .code sndR]) [sndBot]
noncomputable def sndShut (u8 u11 u12 u13 u14 u15 u16 u17 u18 u19 : Value) (rest : List Nat) : Goroutine :=
  G (sndB.at ⟨#[.chan (some c), .int .i64 (p : Int), .int .i64 (q : Int), .int .i64 (n : Int), undef, undef, undef, undef, u8, .int .i64 (n : Int), .int .i64 (n : Int), u11, u12, u13, u14, u15, u16, u17, u18, u19, .chan (some c)], []⟩ [.inRegion sndOps5 rest]) [sndBot]

set_option maxRecDepth 100000 in
theorem snd_send (Stop : Goroutine → World → Prop) (n₀ k : Nat) (hk : k < n) (hn : n ≤ 400) (hp : p < q) (hq : q ≤ 1000) (u8 u11 u12 u13 u14 u15 u16 u17 u18 u19 u20 : Value) (w : World)
    (next : ∀ (u8 u11 u12 u14 u15 u16 u17 u19 u20 : Value) w', Goes Try.prog false (fun _ _ => True) (DB AllL) Stop n₀ (sndAt c p q n k (.int .i64 ((k * p % q : Nat) : Int)) u8 u11 u12 u14 u15 u16 u17 u19 u20 [6]) w') :
    Goes Try.prog false (fun _ _ => True) (DB AllL) Stop (n₀ + 21) (sndHead c p q n k u8 u11 u12 u13 u14 u15 u16 u17 u18 u19 u20) w := by
  have hlt : (k : Int) < (n : Int) := by omega
  have hm : k * p ≤ 400 * 1000 := Nat.mul_le_mul (by omega) (by omega)
  have hme : ((k * p : Nat) : Int) = (k : Int) * (p : Int) := Int.natCast_mul _ _
  have e1 : IntKind.i64.wrap ((k : Int) * (p : Int)) = ((k * p : Nat) : Int) := by rw [← hme]; exact IntWalk.i64_in _ (by omega)
  have q0 : ¬ (q : Int) = 0 := by omega
  have e3 : ((k * p : Nat) : Int).tmod (q : Int) = ((k * p % q : Nat) : Int) := rfl
  have q0' : ¬ q = 0 := by omega
  have e4 : ((k * p : Nat) : Int) % (q : Int) = ((k * p % q : Nat) : Int) := rfl
  clear hme
  simp only [sndHead, sndAt, sndOps3, sndL4, sndL, sndR, sndBody, Try.f46, Option.getD_some] at next ⊢
  generalize hrr : k * p % q = y at *
  generalize hmm : k * p = z at *
  clear hrr hmm
  repeat (first | b_ctl | b_op [] (by simp))
  b_cond true
  repeat (first | b_ctl | b_op [] (by simp))
  exact next ..

set_option maxRecDepth 100000 in
theorem snd_next (Stop : Goroutine → World → Prop) (n₀ k : Nat) (hk : k < n) (hn : n ≤ 400) (v : Value) (u8 u11 u12 u14 u15 u16 u17 u19 u20 : Value) (w : World)
    (next : ∀ (u8 u11 u12 u13 u14 u15 u16 u17 u18 u19 u20 : Value) w', Goes Try.prog false (fun _ _ => True) (DB AllL) Stop n₀ (sndHead c p q n (k + 1) u8 u11 u12 u13 u14 u15 u16 u17 u18 u19 u20) w') :
    Goes Try.prog false (fun _ _ => True) (DB AllL) Stop (n₀ + 7) (sndAt c p q n k v u8 u11 u12 u14 u15 u16 u17 u19 u20 []) w := by
  have hwr : IntKind.i64.wrap ((k : Int) + 1) = ((k + 1 : Nat) : Int) := IntWalk.i64_in _ (by omega)
  simp only [sndHead, sndAt, sndOps3, sndL4, sndL, sndR, sndBody, Try.f46, Option.getD_some] at next ⊢
  repeat (first | b_ctl | b_op [] (by simp))
  exact next ..

set_option maxRecDepth 100000 in
theorem snd_shut (Stop : Goroutine → World → Prop) (n₀ : Nat) (u8 u11 u12 u13 u14 u15 u16 u17 u18 u19 u20 : Value) (w : World)
    (next : ∀ (u8 u11 u12 u13 u14 u15 u16 u17 u18 u19 : Value) w', Goes Try.prog false (fun _ _ => True) (DB AllL) Stop n₀ (sndShut c p q n u8 u11 u12 u13 u14 u15 u16 u17 u18 u19 [1]) w') :
    Goes Try.prog false (fun _ _ => True) (DB AllL) Stop (n₀ + 9) (sndHead c p q n n u8 u11 u12 u13 u14 u15 u16 u17 u18 u19 u20) w := by
  simp only [sndHead, sndShut, sndOps5, sndL, sndR, sndBody, Try.f46, Option.getD_some] at next ⊢
  repeat (first | b_ctl | b_op [] (by simp))
  b_cond false
  b_exit
  repeat (first | b_ctl | b_op [] (by simp))
  exact next ..

set_option maxRecDepth 100000 in
theorem snd_entry (Stop : Goroutine → World → Prop) (n₀ : Nat) (w : World)
    (next : ∀ (u8 u11 u12 u13 u14 u15 u16 u17 u18 u19 u20 : Value) w', Goes Try.prog false (fun _ _ => True) (DB AllL) Stop n₀ (sndHead c p q n 0 u8 u11 u12 u13 u14 u15 u16 u17 u18 u19 u20) w') :
    Goes Try.prog false (fun _ _ => True) (DB AllL) Stop (n₀ + 8) (G (sndB.at ⟨#[.chan (some c), .int .i64 (p : Int), .int .i64 (q : Int), .int .i64 (n : Int), undef, undef, undef, undef, undef, undef, undef, undef, undef, undef, undef, undef, undef, undef, undef, undef, undef], []⟩ [.code sndBody]) [sndBot]) w := by
  have e0 : ((0 : Nat) : Int) = 0 := rfl
  simp only [sndHead, sndL, sndR, sndBody, Try.f46, Option.getD_some, e0] at next ⊢
  repeat (first | b_ctl | b_op [] (by simp))
  exact next ..

theorem snd_at (k : Nat) (v : Value) (vs : List Value) (u8 u11 u12 u14 u15 u16 u17 u19 u20 : Value) (next : SendsC Try.prog c vs (sndAt c p q n k v u8 u11 u12 u14 u15 u16 u17 u19 u20 [])) :
    AtSend Try.prog c TT AllL v (SendsC Try.prog c vs) (sndAt c p q n k v u8 u11 u12 u14 u15 u16 u17 u19 u20 [6]) := by
  simp only [sndAt, sndOps3, sndL, sndBody, Try.f46, Option.getD_some] at next ⊢
  exact atSend_of (x := .tmp 13) (y := .tmp 18) rfl rfl (by decide) rfl rfl rfl next

theorem snd_quits (u8 u11 u12 u13 u14 u15 u16 u17 u18 u19 : Value) : QuitsIn Try.prog 4 (sndShut c p q n u8 u11 u12 u13 u14 u15 u16 u17 u18 u19 []) := by
  simp only [sndShut]
  refine .inr ⟨rfl, _, fun w => stepG_region_end, ?_⟩
  refine .inr ⟨rfl, _, fun w => stepG_end, ?_⟩
  refine .inr ⟨rfl, G sndBot [], fun w => ?_, ?_⟩
  · simp [G, stepG, unwind, doReturn, results, Frame.at, sndB, sndBot, Try.func46, Try.f46, seen, GStep.after, goexitEntry]
  refine .inr ⟨rfl, { G sndBot [] with status := .finished }, fun w => ?_, rfl⟩
  simp [G, stepG, unwind, sndBot, goexitEntry, Frame.catches]
  rfl

theorem snd_close (u8 u11 u12 u13 u14 u15 u16 u17 u18 u19 : Value) : AtCloseC Try.prog c (sndShut c p q n u8 u11 u12 u13 u14 u15 u16 u17 u18 u19 [1]) := by
  refine ⟨rfl, ?_, sndShut c p q n u8 u11 u12 u13 u14 u15 u16 u17 u18 u19 [], 4, fun w s r tm hc => ?_, snd_quits c p q n ..⟩
  · simp [mayWake, sndShut, sndOps5, sndR, sndBody, Try.f46, G, Frame.at]
  · simp only [sndShut, sndOps5, sndR, sndBody, Try.f46, Option.getD_some]
    have hr := run_close_open (P := Try.prog) #[53] 0 hc
    have he := events_close_open (P := Try.prog) (es := #[]) #[53] 0 hc
    rw [stepG_value (v := .tuple #[]) (w' := w.shut c s r tm) rfl rfl (by decide) (by simp [go_sem, hr, World.shut])]
    have hl : ∀ a o, (execOp a.eval o).events Try.prog w #[] = #[⟨.obj c, false, true⟩, ⟨.obj c, true, true⟩] → listed Try.prog sndB.fn a o w = #[⟨.obj c, false, true⟩, ⟨.obj c, true, true⟩] := by
      intro a o h
      unfold listed
      rw [h]
      exact seen_eq (by simp [sndB, Try.func46, Try.f46]) (by simp)
    rw [hl _ _ (by simp [go_sem, he])]
    rfl

theorem snd_from (hn : n ≤ 400) (hp : p < q) (hq : q ≤ 1000) : ∀ (m k : Nat), k + m = n →
    ∃ n', ∀ (u8 u11 u12 u13 u14 u15 u16 u17 u18 u19 u20 : Value) (w : World), Goes Try.prog false (fun _ _ => True) (DB AllL) (StopC Try.prog c (mulsV p q k m)) n' (sndHead c p q n k u8 u11 u12 u13 u14 u15 u16 u17 u18 u19 u20) w := by
  intro m
  induction m with
  | zero =>
    intro k hk
    obtain rfl : k = n := by omega
    exact ⟨0 + 9, fun u8 u11 u12 u13 u14 u15 u16 u17 u18 u19 u20 w => snd_shut c p q k _ 0 u8 u11 u12 u13 u14 u15 u16 u17 u18 u19 u20 w fun u8 u11 u12 u13 u14 u15 u16 u17 u18 u19 _ => Goes.stop fun _ _ => snd_close c p q k u8 u11 u12 u13 u14 u15 u16 u17 u18 u19⟩
  | succ m ih =>
    intro k hk
    obtain ⟨n₁, h₁⟩ := ih (k + 1) (by omega)
    refine ⟨0 + 21, fun u8 u11 u12 u13 u14 u15 u16 u17 u18 u19 u20 w => snd_send c p q n _ 0 k (by omega) hn hp hq u8 u11 u12 u13 u14 u15 u16 u17 u18 u19 u20 w fun u8 u11 u12 u14 u15 u16 u17 u19 u20 _ => Goes.stop fun _ _ => snd_at c p q n k _ _ u8 u11 u12 u14 u15 u16 u17 u19 u20 ?_⟩
    exact (sendsC_iff ..).2 ⟨n₁ + 7, snd_next c p q n _ n₁ k (by omega) hn _ u8 u11 u12 u14 u15 u16 u17 u19 u20 default h₁⟩

/-- the call that the go statement holds -/
def sndCall : Deferred := { target := .fn (.func 46) #[], args := #[.chan (some c), .int .i64 (p : Int), .int .i64 (q : Int), .int .i64 (n : Int)] }
theorem snd_born (w : World) : stepG Try.prog false (born Try.prog (sndCall c p q n)) w =
    .go (G (sndB.at ⟨#[.chan (some c), .int .i64 (p : Int), .int .i64 (q : Int), .int .i64 (n : Int), undef, undef, undef, undef, undef, undef, undef, undef, undef, undef, undef, undef, undef, undef, undef, undef, undef], []⟩ [.code sndBody]) [sndBot]) w #[] := by
  simp [born, sndCall, stepG, unwind, callDeferred, invoke, callFunc, Try.func46, Try.f46, seen, GStep.after, G, Frame.enter, Frame.at, sndB, sndBot, sndBody]

/-- from its birth on -/
theorem snd_all (hn : n ≤ 400) (hp : p < q) (hq : q ≤ 1000) : SendsC Try.prog c (mulsV p q 0 n) (born Try.prog (sndCall c p q n)) := by
  obtain ⟨n₁, h₁⟩ := snd_from c p q n hn hp hq n 0 (by omega)
  refine (sendsC_iff ..).2 ⟨n₁ + 8 + 1, Goes.step rfl fun w₁ _ => ?_⟩
  rw [snd_born]
  exact ⟨⟨rfl, by simp⟩, snd_entry c p q n _ n₁ w₁ h₁⟩
end
end Go.Proofs.Ytcdchieielpahaa
