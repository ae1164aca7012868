/- Texts put together. -/
import Derived.Test.YtiikledbflgejaaMgC30
import Derived.Test.YtiikledbflgejaaMgC32
/- Walks in the company of goroutines that only leave, piece by piece: plain code by its lone walk on every tape; calls of plain functions by their lone contracts; a go statement whose goroutine sends over a channel without a buffer. -/
namespace Go.Proofs.Ytiikledbflgejaa
open Go.Conc
open Go.ConcN (sumTo upd sumTo_upd upd_ne upd_same)

/-- goroutine 0 at g in world w, beside whatever goroutines that only leave: Fin is reached -/
def Can (P : Program) (Fin : Goroutine → World → Prop) (g : Goroutine) (w : World) : Prop :=
  ∀ (d : Nat) (gs : Array Goroutine) (sl : Option (Nat × Nat)) (t : Trace) (q : Nat → Nat), gs[0]? = some g → Leavers P t gs q → Calm0 t → Reach9 P Fin gs (w.at d) sl t

theorem Calm0.comm' {t : Trace} (u : Trace) (h : Calm0 t) (hu : ∀ op ∈ u, op.act.touch? = none ∧ Quiet op) : Calm0 (t ++ u) := by
  obtain ⟨l⟩ := u
  exact Calm0.comm l h (by simpa using hu)

section
variable {P : Program} {Fin : Goroutine → World → Prop} {g : Goroutine} {w : World}

theorem Can.fin (h : ∀ d, Fin g (w.at d)) : Can P Fin g w := fun d gs sl t q h0 hL hP => ⟨0, gs, g, w.at d, sl, t, q, rfl, h0, h d, hL, hP⟩
theorem Can.walk {Stop : Goroutine → World → Prop} (h : GoesW P Stop g w) (hk : ∀ g' w', Stop g' w' → Can P Fin g' w') : Can P Fin g w := fun d gs sl t q h0 hL hP =>
  reach_then (walk_w h gs d sl t q h0 hL hP) fun gs' a w' sl' t' q' h0' hs hL' hP' => hk a w' hs w'.drawn gs' sl' t' q' h0' hL' hP'
theorem Can.drawn (h : Can P Fin g w) (d : Nat) : Can P Fin g (w.at d) := fun d' gs sl t q h0 hL hP => h d' gs sl t q h0 hL hP
/-- one own step -/
theorem Can.go (hs : g.status = .running) (h : ∀ d, ∃ g' w' es, stepG P true g (w.at d) = .go g' w' es ∧ (∀ e ∈ es, EvOk e) ∧ Can P Fin g' w') : Can P Fin g w := by
  refine Can.walk (Stop := Can P Fin) (.step _ _ hs (fun d => Classical.choose (h d)) (fun d => Classical.choose (Classical.choose_spec (h d))) (fun d => Classical.choose (Classical.choose_spec (Classical.choose_spec (h d))))
    (fun d => (Classical.choose_spec (Classical.choose_spec (Classical.choose_spec (h d)))).1) (fun d => (Classical.choose_spec (Classical.choose_spec (Classical.choose_spec (h d)))).2.1)
    (fun d => .stop _ _ fun d' => ((Classical.choose_spec (Classical.choose_spec (Classical.choose_spec (h d)))).2.2).drawn d')) fun _ _ h => h
theorem Can.silent {g' : Goroutine} (hs : g.status = .running) (h : ∀ w, stepG P true g w = .go g' w) (hk : Can P Fin g' w) : Can P Fin g w :=
  .go hs fun d => ⟨g', w.at d, #[], h _, by simp, hk.drawn d⟩

/-- THE GO STATEMENT: its goroutine sends, this one receives. -/
theorem Can.phase {c : Nat} {z : Value} {Fin1 : Goroutine → World → Prop} {vs : List Value} {g' child : Goroutine} {s r : Nat} {tm : Bool} (hs : g.status = .running) (hgo : ∀ w, stepG P true g w = .spawn g' child w #[])
    (hc : w.heap[c]? = some (.chan 0 #[] false s r tm)) (hA : Recvs P c TT MM z Fin1 vs g' w) (hB : SendsC P c vs child) (hk : ∀ g2 w2, Fin1 g2 w2 → Can P Fin g2 w2) : Can P Fin g w := by
  intro d gs sl t q h0 hL hP
  refine slip_then (w := w) hs (fun gs d sl t q h0 hL hP => ?_) gs d sl t q h0 hL hP
  have hlt : 0 < gs.size := (Array.getElem?_eq_some_iff.1 h0).1
  have hrun := runT_crowd_spawn (P := P) (sl := sl) (i := 0) h0 (show stepG P (0 == 0) g (w.at d) = _ from hgo _)
  refine ⟨_, _, _, _, hrun, ?_⟩
  obtain ⟨na, hna⟩ := (recvs_iff P c TT MM z _ vs _ _).1 hA
  obtain ⟨nb, hnb⟩ := (sendsC_iff P c vs _).1 hB
  have hops : ∀ op ∈ ((MemOp.ofEvents 0 g.frame.fn g.frame.place (#[] : Array Event)).push { g := 0, fn := g.frame.fn, pos := g.frame.place, act := .go gs.size }).push { g := gs.size, fn := child.frame.fn, pos := g.frame.place, act := .start }, op.act.touch? = none ∧ Quiet op := by
    intro op hop
    rw [ofEvents_eq] at hop
    simp only [Array.map_empty, Array.mem_push] at hop
    rcases hop with (hop | rfl) | rfl
    · simp at hop
    · simp [MemAct.touch?, Quiet]
    · simp [MemAct.touch?, Quiet]
  refine reach_then (phase_open (c := c) (z := z) (Fin := Fin1) vs (na + 1 + (nb + 1) + sumTo (gs.size + 1) q + 1) _ gs.size g' child (w.at d) sl _ q s r tm (na + 1) (nb + 1) ?_ ⟨?_, hlt, ?_, fun i x hi hne hx => ?_, ?_, fun i hi => ?_, ?_⟩ ?_ hc
    (.inl ⟨na, rfl, Goes.rely (R := Aside c) (fun _ _ _ h h' => Aside.trans h h') hna (Aside.at c w d)⟩) (.inl ⟨nb, rfl, hnb⟩) (by omega)) fun gs' a w' sl' t' q' h0' hf hL' hP' => hk a w' hf w'.drawn gs' sl' t' q' h0' hL' hP'
  · simp only [Array.size_push, Array.size_setIfInBounds]; omega
  · rw [Array.getElem?_push_lt (by simpa using hlt), Array.getElem_setIfInBounds_self]
  · rw [Array.getElem?_push]
    simp
  · rw [deaf_quiet' _ _ _ fun op hop => (hops op hop).2]
    have hx' : gs[i]? = some x := by
      rw [Array.getElem?_push] at hx
      simp only [Array.size_setIfInBounds] at hx
      split at hx
      · exact absurd ‹_› hne
      · exact set_other (by omega) hx
    exact hL.old i x hi hx'
  · rw [deaf_quiet' _ _ _ fun op hop => (hops op hop).2]
    exact hL.above _ (Nat.le_refl _)
  · rw [deaf_quiet' _ _ _ fun op hop => (hops op hop).2]
    exact hL.above i (by simp at hi; omega)
  · -- what was touched is known to the new goroutine
    have e : ((MemOp.ofEvents 0 g.frame.fn g.frame.place (#[] : Array Event)).push { g := 0, fn := g.frame.fn, pos := g.frame.place, act := .go gs.size }).push { g := gs.size, fn := child.frame.fn, pos := g.frame.place, act := .start } =
        #[{ g := 0, fn := g.frame.fn, pos := g.frame.place, act := .go gs.size }, { g := gs.size, fn := child.frame.fn, pos := g.frame.place, act := .start }] := by
      rw [ofEvents_eq]
      simp
    rw [e] at hops ⊢
    generalize hu : (#[{ g := 0, fn := g.frame.fn, pos := g.frame.place, act := .go gs.size }, { g := gs.size, fn := child.frame.fn, pos := g.frame.place, act := .start }] : Trace) = u at hops ⊢
    have g1 : (t ++ u)[t.size]? = some { g := 0, fn := g.frame.fn, pos := g.frame.place, act := .go gs.size } := by
      rw [← hu, Array.getElem?_append_right (Nat.le_refl _)]; simp
    have g2 : (t ++ u)[t.size + 1]? = some { g := gs.size, fn := child.frame.fn, pos := g.frame.place, act := .start } := by
      rw [← hu, Array.getElem?_append_right (Nat.le_succ _)]; simp
    obtain ⟨B, hPB⟩ := hP
    intro i a ha hl _
    obtain ⟨op, hop, hox⟩ := touch_of ha
    rcases getElem?_append_cases hop with ⟨_, hop'⟩ | ⟨_, hou⟩
    · have hk := (hPB.known i a (by rw [touchAt_of hop']; exact hox) (by rw [hl]; rfl)).resolve_right (fun h => h.1)
      have h1 : HappensBefore (t ++ u) i t.size := hk.hb_new (Nat.le_refl _) g1 rfl
      have d1 : (t ++ u).deaf 0 t.size = 0 := by rw [deaf_old (Nat.le_refl _)]; exact hPB.hears
      have d2 : (t ++ u).deaf gs.size (t.size + 1) = 0 := by
        rw [deaf_succ g1, deaf_old (Nat.le_refl _)]
        exact hL.above _ (Nat.le_refl _)
      have h2 : HappensBefore (t ++ u) t.size (t.size + 1) := .single (.inr ⟨.spawn (child := gs.size) (by rw [act?_of g1]) (by rw [act?_of g2]) (by simp [Trace.g?, g2]), heard_of g1 d1, heard_of g2 d2⟩)
      exact ⟨t.size + 1, _, g2, rfl, .inr (h1.trans h2)⟩
    · rw [(hops op hou).1] at hox
      cases hox
  · exact Calm0.comm' _ hP hops
end

/-! ### code -/
/-- where an exit leads -/
def CanE (P : Program) (Fin : Goroutine → World → Prop) (b : Frame) (k : List Item) (cs : List Frame) (e : Exit) (a : Act) (w : World) : Prop :=
  match e with
  | .normal => Can P Fin (G (b.at a k) cs) w
  | .exit id => ∀ k', exitTo id k = some k' → Can P Fin (G (b.at a k') cs) w
  | .ret => ∀ todo, Can P Fin (G { b.at a todo with mode := .returning } cs) w
  | _ => False
def CWp (P : Program) (c : Code) (Q : Exit → Act → World → Prop) (a : Act) (w : World) : Prop :=
  ∀ (Fin : Goroutine → World → Prop) (b : Frame) (k : List Item) (cs : List Frame), b.kind = .normal → (∀ e a' w', Q e a' w' → CanE P Fin b k cs e a' w') → Can P Fin (G (b.at a (.code c :: k)) cs) w
/-- the operations l of a region that are still to come -/
def COps (P : Program) (ops : Array Oper) (Q : Exit → Act → World → Prop) (l : List Nat) (a : Act) (w : World) : Prop :=
  ∀ (Fin : Goroutine → World → Prop) (b : Frame) (k : List Item) (cs : List Frame), b.kind = .normal → (∀ e a' w', Q e a' w' → CanE P Fin b k cs e a' w') → Can P Fin (G (b.at a (.inRegion ops l :: k)) cs) w
/-- a call in company -/
def CCalls (P : Program) (f : FuncId) (args : Array Value) (w : World) (R : Value → World → Prop) : Prop :=
  ∀ (Fin : Goroutine → World → Prop) (cs : List Frame), (∀ fr v w', R v w' → fr.leaving P w' (.returned v) → fr.fn = f → Can P Fin (G fr cs) w') → Can P Fin (G (Frame.enter P f args .normal) cs) w

section
variable {P : Program} {Q : Exit → Act → World → Prop} {a : Act} {w : World}

theorem CWp.mono {c : Code} {Q' : Exit → Act → World → Prop} (h : CWp P c Q a w) (hq : ∀ e a w, Q e a w → Q' e a w) : CWp P c Q' a w := fun Fin b k cs hb hK => h Fin b k cs hb fun e a' w' hQ => hK e a' w' (hq e a' w' hQ)
theorem CWp.seq {x y : Code} (h : CWp P x (Exit.then (CWp P y Q) Q) a w) : CWp P (.seq x y) Q a w := by
  intro Fin b k cs hb hK
  refine Can.silent rfl (fun _ => stepG_seq) (h Fin b (.code y :: k) cs hb fun e a' w' hq => ?_)
  cases e with
  | normal => exact hq Fin b k cs hb hK
  | exit id => exact fun k' hk' => hK _ _ _ hq k' (by simpa [exitTo] using hk')
  | ret => exact hK _ _ _ hq
  | goto l => exact hK _ _ _ hq
  | panic ch => exact hK _ _ _ hq
  | outgrown => exact hK _ _ _ hq
theorem CWp.cond {c : Operand} {x y : Code} {t : Bool} (hc : a.eval c = .bool t) (h : CWp P (if t then x else y) Q a w) : CWp P (.cond c x y) Q a w := fun Fin b k cs hb hK =>
  Can.silent rfl (fun _ => stepG_cond hc) (h Fin b k cs hb hK)
theorem CWp.block {id : Nat} {c : Code} (h : CWp P c (Exit.inBlock id Q) a w) : CWp P (.block id c) Q a w := by
  intro Fin b k cs hb hK
  refine Can.silent rfl (fun _ => stepG_block) (h Fin b (.inBlock id :: k) cs hb fun e a' w' hq => ?_)
  cases e with
  | normal => exact Can.silent rfl (fun _ => stepG_inBlock) (hK .normal _ _ hq)
  | exit j =>
    intro k' hk'
    simp only [exitTo] at hk'
    by_cases hj : j = id
    · have hq2 : Q .normal a' w' := by simpa only [Exit.inBlock, hj, if_true] using hq
      rw [if_pos (by simp [hj])] at hk'
      injection hk' with hk'
      subst hk'
      exact hK .normal _ _ hq2
    · have hq2 : Q (.exit j) a' w' := by simpa only [Exit.inBlock, hj, if_false] using hq
      rw [if_neg (by simp only [beq_iff_eq]; exact fun h => hj h.symm)] at hk'
      exact hK _ _ _ hq2 k' hk'
  | ret => exact hK .ret _ _ hq
  | goto l => exact hK (.goto l) _ _ hq
  | panic ch => exact hK (.panic ch) _ _ hq
  | outgrown => exact hK .outgrown _ _ hq
theorem CWp.region {id : Nat} {ops : Array Oper} (h : COps P ops Q (List.range ops.size) a w) : CWp P (.region id ops false) Q a w := fun Fin b k cs hb hK =>
  Can.silent rfl (fun _ => stepG_region) (h Fin b k cs hb hK)
theorem COps.nil {ops : Array Oper} (h : Q .normal a w) : COps P ops Q [] a w := fun _ _ _ _ _ hK => Can.silent rfl (fun _ => stepG_region_end) (hK .normal _ _ h)
/-- an operation that yields a value in whatever world -/
theorem COps.plain {ops : Array Oper} {i : Nat} {rest : List Nat} {o : Oper} (ho : ops[i]? = some o) (hw : Region.wanted o (yielded ops a.tmps) = true) {v : Value}
    (hr : ∀ w, (execOp a.eval o).run P w = .ok (.value v) w) (he : ∀ w, (execOp a.eval o).events P w #[] = #[]) (h : COps P ops Q rest (a.put o.dst v) w) : COps P ops Q (i :: rest) a w := by
  intro Fin b k cs hb hK
  refine Can.silent rfl (fun w => ?_) (h Fin b k cs hb hK)
  rw [stepG_value (v := v) (w' := w) ho hw (by rw [hb]; simp) (hr w)]
  unfold listed
  rw [he w, seen_none]
/-- a call -/
theorem COps.call {ops : Array Oper} {i : Nat} {rest : List Nat} {o : Oper} {f : FuncId} {args : Array Value} {R : Value → World → Prop} (ho : ops[i]? = some o) (hw : Region.wanted o (yielded ops a.tmps) = true)
    (hr : ∀ w, (execOp a.eval o).run P w = .ok (.enter f args) w) (he : ∀ w, (execOp a.eval o).events P w #[] = #[]) (hc : CCalls P f args w R) (h : ∀ v w', R v w' → COps P ops Q rest (a.put o.dst v) w') : COps P ops Q (i :: rest) a w := by
  intro Fin b k cs hb hK
  have hk' : (b.kind == CallKind.early) = false := by rw [hb]; rfl
  refine Can.silent (g' := G (Frame.enter P f args .normal) (b.at a (.inRegion ops (i :: rest) :: k) :: cs)) rfl (fun w => ?_) (hc Fin _ fun fr v w' hR hl _ => ?_)
  · rw [stepG_oper ho hw]
    have he' := he w
    unfold Sem.events at he'
    have hrt : (execOp a.eval o).runT P w #[] = (.ok (.enter f args) w, #[]) := by
      have h1 := Sem.runT_fst P (execOp a.eval o) w #[]
      rw [hr w] at h1
      exact Prod.ext h1 he'
    unfold stepG.apply
    simp only [if_true, hrt]
    simp [G, Frame.at, hk', GStep.after, seen_none]
  · -- its return
    obtain ⟨l1, l2, l3, fn, l4, l5⟩ := hl
    have hfin : (b.at a (.inRegion ops (i :: rest) :: k)).finish v = b.at (a.put o.dst v) (.inRegion ops rest :: k) := by rw [Frame.finish_at, ho]; rfl
    have key : ∀ d, ∃ es, stepG P true (G fr (b.at a (.inRegion ops (i :: rest) :: k) :: cs)) (w'.at d) = .go (G (b.at (a.put o.dst v) (.inRegion ops rest :: k)) cs) (w'.at d) es ∧ ∀ e ∈ es, EvOk e := fun d => by
      have hl2 : fr.leaving P (w'.at d) (.returned v) := leaving_tp ⟨l1, l2, l3, fn, l4, l5⟩ w'.tape d
      obtain ⟨_, _, _, fn2, l6, l7⟩ := hl2
      rcases e : (results fn2 fr.tmps).runT P (w'.at d) #[] with ⟨r, es⟩
      have h1 := Sem.runT_fst P (results fn2 fr.tmps) (w'.at d) #[]
      rw [e, l7] at h1
      have h1 : r = .ok v (w'.at d) := h1
      subst h1
      have hev := mild_events P _ (mild_results fn2 fr.tmps) (w'.at d) #[] (by simp)
      rw [e] at hev
      refine ⟨seen P fr.fn es, ?_, seen_ok P _ _ hev⟩
      rw [← hfin]
      simp [G, stepG, unwind, doReturn, l1, l2, l3, l6, e, GStep.after, -Sem.runT_eq]
    refine Can.go rfl fun d => ?_
    obtain ⟨es, h1, h2⟩ := key d
    exact ⟨_, _, es, h1, h2, (h v w' hR Fin b k cs hb hK).drawn d⟩

/-- plain code, by its lone walk on every tape -/
theorem CWp.of {S : FuncId → Bool} (hS : Closed P S) (hE : NoEarly P) {c : Code} (ht : tameCode S c = true) (hd : a.defers = []) {R : Exit → Act → World → Prop} (h : ∀ τ d, c.wp P R a (tp w τ d))
    (hR : ∀ e a w, R e a w → e = .normal ∨ e = .ret) : CWp P c (fun e a' w' => ∃ τ d, R e a' (tp w' τ d)) a w := by
  intro Fin b k cs hb hK
  let x : Pl := ⟨b.at a [.code c], [], w⟩
  have hT : TameL S x.fr x.cs := ⟨⟨fun y hy => by
    simp only [x, Frame.at, List.mem_singleton] at hy
    subst hy
    exact ht, hd, hb, rfl⟩, by simp [x]⟩
  let Qf : Frame → World → Prop := fun fr w' => ∃ a' τ d, (fr = b.at a' dead ∧ R .normal a' (tp w' τ d)) ∨ ((∃ todo, fr = { b.at a' todo with mode := .returning }) ∧ R .ret a' (tp w' τ d))
  have hX : ReturnsL P Qf x := by
    intro σ
    obtain ⟨e, a', w', hq, harr⟩ := h σ 0 b dead [trap P, trap P]
    rcases hR e a' w' hq with rfl | rfl
    · exact ⟨σ, 0, b.at a' dead, w', fun j => by rw [Nat.zero_add], harr, .inl ⟨rfl, rfl⟩, a', w'.tape, w'.drawn, .inl ⟨rfl, hq⟩⟩
    · obtain ⟨todo, hs⟩ := harr
      exact ⟨σ, 0, { b.at a' todo with mode := .returning }, w', fun j => by rw [Nat.zero_add], hs, .inr rfl, a', w'.tape, w'.drawn, .inr ⟨⟨todo, rfl⟩, hq⟩⟩
  have hG := goesW_of_returnsL (Q := Qf) hS hE (fun fr w' τ d ⟨a', τ', d', h⟩ => ⟨a', τ', d', h⟩) k cs x hT hX w.tape w.drawn
  refine Can.walk hG fun g' w' ⟨fr, hg, _, a', τ, d, hq⟩ => ?_
  subst hg
  rcases hq with ⟨hfr, hq⟩ | ⟨⟨todo, hfr⟩, hq⟩
  · have e : ext k fr = b.at a' k := by
      obtain ⟨fn, tmps, td, df, md, kd, ro⟩ := fr
      simp only [ext, Frame.at, Frame.mk.injEq] at hfr ⊢
      obtain ⟨h1, h2, h3, h4, h5, h6, h7⟩ := hfr
      have htd : td = [] := by
        have := congrArg List.length h3
        simp only [List.length_append] at this
        exact List.eq_nil_of_length_eq_zero (by omega)
      subst htd
      simp [h1, h2, h4, h5, h6, h7]
    rw [e]
    exact hK .normal a' w' ⟨τ, d, hq⟩
  · have e : ext k fr = { b.at a' (fr.todo ++ k) with mode := .returning } := by
      obtain ⟨fn, tmps, td, df, md, kd, ro⟩ := fr
      simp only [ext, Frame.at, Frame.mk.injEq] at hfr ⊢
      obtain ⟨h1, h2, _, h4, h5, h6, h7⟩ := hfr
      simp [h1, h2, h4, h5, h6, h7]
    rw [e]
    exact hK .ret a' w' ⟨τ, d, hq⟩ _

/-- a plain function, by its lone contract on every tape -/
theorem CCalls.of {S : FuncId → Bool} (hS : Closed P S) (hE : NoEarly P) {f : FuncId} (hf : S f = true) {args : Array Value} {R : Value → World → Prop} (h : ∀ τ d, Calls P f args (tp w τ d) fun e w' => ∃ v, e = .returned v ∧ R v w') :
    CCalls P f args w fun v w' => ∃ τ d, R v (tp w' τ d) := by
  intro Fin cs hK
  let x : Pl := ⟨Frame.enter P f args .normal, [], w⟩
  have hT : x.tame S := ⟨tame_enter hS hf args, by simp [x]⟩
  let Qf : Frame → Value → World → Prop := fun fr v w' => fr.fn = f ∧ ∃ τ d, R v (tp w' τ d)
  have hX : Returns1 P Qf x := by
    intro σ
    obtain ⟨e, w', fr, ⟨v, rfl, hR⟩, hst, hfn, hl⟩ := h σ 0 [trap P, trap P]
    exact ⟨σ, 0, fr, v, w', fun j => by rw [Nat.zero_add], hst, hl, hfn, w'.tape, w'.drawn, hR⟩
  have hG := goesW_of_returns (Q := Qf) hS hE (fun fr v w' τ d ⟨h1, τ', d', h2⟩ => ⟨h1, τ', d', h2⟩) cs x hT hX w.tape w.drawn
  refine Can.walk hG fun g' w' ⟨fr, v, hg, hl, hfn, hq⟩ => ?_
  subst hg
  exact hK fr v w' hq hl hfn
/-- a function by the walk of its body -/
theorem CCalls.body {f : FuncId} {fn : Func} {c : Code} {args : Array Value} {R : Value → World → Prop} (hf : P.funcs[f]? = some fn) (hb : fn.body = some c)
    (h : CWp P c (fun e a' w' => (e = .normal ∨ e = .ret) ∧ a'.defers = [] ∧ ∃ v, (results fn a'.tmps).run P w' = .ok v w' ∧ R v w') { tmps := args ++ Array.replicate (fn.ntmps - args.size) undef, defers := [] } w) : CCalls P f args w R := by
  intro Fin cs hK
  have henter : Frame.enter P f args .normal = ({ (default : Frame) with fn := f, kind := .normal } : Frame).at { tmps := args ++ Array.replicate (fn.ntmps - args.size) undef, defers := [] } [.code c] := by
    simp [Frame.enter, Frame.at, hf, hb]
  rw [henter]
  refine h Fin _ [] cs rfl fun e a' w' ⟨he, hd, v, hv, hR⟩ => ?_
  have leave : ∀ todo, Can P Fin (G { ({ (default : Frame) with fn := f, kind := .normal } : Frame).at a' todo with mode := .returning } cs) w' := fun todo => hK _ v w' hR ⟨rfl, hd, rfl, fn, hf, hv⟩ rfl
  rcases he with rfl | rfl
  · exact Can.silent rfl (fun _ => stepG_end) (leave [])
  · exact leave
end
end Go.Proofs.Ytiikledbflgejaa
