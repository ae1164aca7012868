/- Texts put together. -/
import Derived.Test.YtcdchieielpahaaMgE1
import Derived.Conc.Own
import Derived.Conc.EntryLaws
import Derived.Conc.Fork
/- The entry of a plain operation is plain; plain code, plain frames; the functions of S are plain. -/
namespace Go.Proofs.Ytcdchieielpahaa
open Go.Conc

def tameOps (S : FuncId → Bool) (ops : Array Oper) : Bool := ops.all fun o => tameOp S o.op
def tameCode (S : FuncId → Bool) : Code → Bool
  | .skip | .ret | .refuse _ | .label _ | .exit _ => true
  | .region _ ops _ => tameOps S ops
  | .seq a b | .cond _ a b => tameCode S a && tameCode S b
  | .block _ c | .loop c | .scope c => tameCode S c
  | .rangeFunc _ _ _ _ | .goto _ => false
def tameItem (S : FuncId → Bool) : Item → Bool
  | .code c | .inLoop c | .inScope c => tameCode S c
  | .inBlock _ => true
  | .inRegion ops _ => tameOps S ops
  | _ => false
structure TameF (S : FuncId → Bool) (fr : Frame) : Prop where
  items : ∀ x ∈ fr.todo, tameItem S x = true
  defers : fr.defers = []
  kind : fr.kind = .normal
  round : fr.roundOf = none
/-- the functions of S have plain bodies and call functions of S alone -/
def Closed (P : Program) (S : FuncId → Bool) : Prop :=
  ∀ f, S f = true → ∃ fn c, P.funcs[f]? = some fn ∧ fn.body = some c ∧ tameCode S c = true ∧ (fn.name == "runtime.NumGoroutine") = false
def closedB (P : Program) (l : List Nat) : Bool :=
  l.all fun f => match P.funcs[f]? with
    | some fn => match fn.body with
      | some c => tameCode (fun g => l.contains g) c && !(fn.name == "runtime.NumGoroutine")
      | none => false
    | none => false
theorem closed_of (P : Program) (l : List Nat) (h : closedB P l = true) : Closed P (fun g => l.contains g) := by
  intro f hf
  have := List.all_eq_true.1 h f (by simpa using hf)
  split at this
  · rename_i fn hfn
    split at this
    · rename_i c hc
      simp only [Bool.and_eq_true, Bool.not_eq_true'] at this
      exact ⟨fn, c, hfn, hc, this.1, this.2⟩
    · cases this
  · cases this

theorem run_callFunc {P : Program} {f : FuncId} {fn : Func} {c : Code} (hf : P.funcs[f]? = some fn) (hb : fn.body = some c) (hn : (fn.name == "runtime.NumGoroutine") = false) (args : Array Value) (w : World) (es : Array Event) :
    (callFunc f args).runT P w es = (.ok (.enter f args) w, es) := by
  unfold callFunc
  simp only [bind, Sem.bind, program, Sem.runT, hf, hn, hb, Option.isNone_some, Bool.false_eq_true, if_false]
  rfl

theorem plain_call {P : Program} {S : FuncId → Bool} (hS : Closed P S) (f : FuncId) (hf : S f = true) (args : Array Value) : Plain P S (callFunc f args) := by
  obtain ⟨fn, c, h1, h2, _, h4⟩ := hS f hf
  refine ⟨fun w es r es' h => ?_, fun w es => ?_, fun w es h => ?_⟩
  · rw [run_callFunc h1 h2 h4] at h
    simp only [Prod.mk.injEq] at h
    obtain ⟨rfl, rfl⟩ := h
    exact ⟨Nat.le_refl _, rfl, fun τ D _ => by rw [run_callFunc h1 h2 h4]; simp [rtp, wof]⟩
  · rw [run_callFunc h1 h2 h4]; exact hf
  · rw [run_callFunc h1 h2 h4]; exact h

theorem plain_exec {P : Program} {S : FuncId → Bool} (hS : Closed P S) (ρ : Operand → Value) (hρ : ∀ f, ρ (.func f) = .func (.func f) #[] #[]) (o : Oper) (h : tameOp S o.op = true) : Plain P S (execOp ρ o) := by
  have V : ∀ {s : Sem Value}, Mild s → Plain P S (s.bind fun v => Pure.pure (.value v)) := fun hs => plain_value Next.value (fun _ _ => trivial) hs
  have U : ∀ {s : Sem Unit}, Mild s → Plain P S (s.bind fun _ => Pure.pure .skip) := fun hs => plain_value (fun _ => Next.skip) (fun _ _ => trivial) hs
  unfold execOp
  cases ho : o.op with
  | call c =>
    obtain ⟨callee, args, ats⟩ := c
    rw [ho] at h
    cases callee with
    | builtin b =>
      cases b <;> first
        | (simp [tameOp] at h; done)
        | exact V (mild_append_ _ _ _)
        | exact V (mild_cap_ _ _ _)
        | exact V (mild_clear_ _ _ _)
        | exact V (mild_copy_ _ _ _)
        | exact V (mild_len_ _ _ _)
        | exact V (mild_max_ _ _ _)
        | exact V (mild_min_ _ _ _)
    | invoke r n => simp [tameOp] at h
    | value f =>
      cases f with
      | func f =>
        have e : (do let d ← resolve ρ { callee := .value (.func f), args := args, argTypes := ats } o.type; invoke d.target d.args : Sem Next) = callFunc f (#[] ++ args.map ρ ++ #[]) := by
          unfold resolve
          simp only [hρ]
          rfl
        have hp := plain_call hS f h (#[] ++ args.map ρ ++ #[])
        rw [← e] at hp
        exact hp
      | _ => simp [tameOp] at h
  | nilCheck x =>
    dsimp only
    refine plain_leaf ?_ ?_
    · repeat' (first | with_reducible (first | exact mild_pure _ | exact mild_unsupported _ | exact mild_runtimePanic _ | exact mild_program | exact mild_nilAhead _ _ _ _) | (with_reducible refine mild_bind ?_ (fun _ => ?_)) | split | (dsimp only))
    · repeat' (first | exact trivial | (refine LeafV.bind (fun _ => ?_)) | split | (dsimp only))
  | _ =>
    rw [ho] at h
    first
      | (simp [tameOp] at h; done)
      | exact plain_pure _ (fun _ => trivial)
      | exact V (mild_bind (mild_asBool _) (fun _ => mild_pure _))
      | exact plain_value _ (fun _ _ => trivial) (mild_asBool _)
      | exact V (mild_alloc _ _ _)
      | exact V (mild_box _ _)
      | exact V (mild_build _ _)
      | exact V (mild_buildSlice _ _ _)
      | exact V (mild_loadAt _ _)
      | exact U (mild_storeAt _ _ _)
      | exact V (mild_bind (mild_eqGuard _ _ _ _ _ _) (fun _ => mild_binOp _ _ _ _))
      | exact V (mild_unary _ _)
      | exact V (mild_convert _ _ _)
      | exact V (mild_makeInterface _ _)
      | exact V (mild_makeFunc _ _ _)
      | exact V (mild_makeChan _ _)
      | exact V (mild_makeSlice _ _ _)
      | exact V (mild_sliceAt _ _ _ _ _)
      | exact V (mild_fieldAt _ _ _)
      | exact V (mild_field _ _ _)
      | exact V (mild_indexAt _ _ _)
      | exact V (mild_index _ _ _)
      | exact V (mild_extract _ _)
      | exact V (mild_panic _)
end Go.Proofs.Ytcdchieielpahaa

/- One step of a goroutine whose frames are plain: it goes on, in plain frames, or the run ends; on every tape that gives the answers that it draws it goes alike; whoever the callers below are. Condition: no variable of the program's waits for an initialiser ('early' ends the run). -/
namespace Go.Proofs.Ytcdchieielpahaa
open Go.Conc

theorem tp_self (w : World) : tp w w.tape w.drawn = w := rfl
theorem tp_tp (w : World) (τ τ' : Tp) (d d' : Nat) : tp (tp w τ d) τ' d' = tp w τ' d' := rfl

theorem seen_ok (P : Program) (fn : FuncId) (es : Array Event) (h : ∀ e ∈ es, EvOk e) : ∀ e ∈ seen P fn es, EvOk e := by
  rw [seen_def]
  obtain ⟨l⟩ := es
  have : ∀ (q : FuncId → Bool) (l : List Event) (b : Bool) (kept : Array Event), (∀ e ∈ l, EvOk e) → (∀ e ∈ kept, EvOk e) → ∀ e ∈ (l.foldl (seenStep q) (b, kept)).2, EvOk e := by
    intro q l
    induction l with
    | nil => exact fun b kept _ h => h
    | cons x l ih =>
      intro b kept hl hk
      rw [List.foldl_cons]
      have hx := hl x (by simp)
      have hl' : ∀ e ∈ l, EvOk e := fun e he => hl e (by simp [he])
      unfold seenStep
      dsimp only
      split
      · exact ih _ _ hl' hk
      · refine ih _ _ hl' ?_
        split
        · exact hk
        · intro e he
          rcases Array.mem_push.1 he with h' | rfl
          · exact hk e h'
          · exact hx
  have h2 := this (fun f => (P.funcs[f]?).any (·.norace)) l ((P.funcs[fn]?).any (·.norace)) #[] (by simpa using h) (by simp)
  simpa using h2

/-- a step that goes on -/
structure Next1 (P : Program) (S : FuncId → Bool) (main : Bool) (fr : Frame) (cs0 : List Frame) (w : World) (fr' : Frame) (cs0' : List Frame) (w' : World) (es : Array Event) : Prop where
  tame : TameF S fr'
  tames : ∀ c ∈ cs0', TameF S c
  evs : ∀ e ∈ es, EvOk e
  drawn : w.drawn ≤ w'.drawn
  tape : w'.tape = w.tape
  go : ∀ (cs : List Frame) (τ : Tp) (D : Nat), (∀ j, w.drawn + j < w'.drawn → τ (D + j) = w.tape (w.drawn + j)) →
    stepG P main (G fr (cs0 ++ cs)) (tp w τ D) = .go (G fr' (cs0' ++ cs)) (tp w' τ (D + (w'.drawn - w.drawn))) es
def Ends1 (P : Program) (main : Bool) (fr : Frame) (cs0 : List Frame) (w : World) : Prop :=
  ∀ cs, ∃ o w' es, stepG P main (G fr (cs0 ++ cs)) w = .ended o w' es
def Step1 (P : Program) (S : FuncId → Bool) (main : Bool) (fr : Frame) (cs0 : List Frame) (w : World) : Prop :=
  Ends1 P main fr cs0 w ∨ ∃ fr' cs0' w' es, Next1 P S main fr cs0 w fr' cs0' w' es

theorem step_silent {P : Program} {S : FuncId → Bool} {main : Bool} {fr fr' : Frame} {cs0 cs0' : List Frame} {w : World} (ht : TameF S fr') (hc : ∀ c ∈ cs0', TameF S c)
    (h : ∀ cs w, stepG P main (G fr (cs0 ++ cs)) w = .go (G fr' (cs0' ++ cs)) w) : Step1 P S main fr cs0 w :=
  .inr ⟨fr', cs0', w, #[], ht, hc, by simp, Nat.le_refl _, rfl, fun cs τ D _ => by rw [h, Nat.sub_self]; rfl⟩

theorem tame_finish {S : FuncId → Bool} {fr : Frame} (h : TameF S fr) (v : Value) : TameF S (fr.finish v) := by
  obtain ⟨fn, tmps, todo, defers, mode, kind, ro⟩ := fr
  obtain ⟨h1, h2, h3, h4⟩ := h
  unfold Frame.finish
  split
  · rename_i ops i rest k e
    simp only at e h1
    subst e
    refine ⟨fun x hx => ?_, h2, h3, h4⟩
    rcases List.mem_cons.1 hx with rfl | hx
    · exact h1 (.inRegion ops (i :: rest)) (by simp)
    · exact h1 x (by simp [hx])
  · rename_i l k e
    simp only at e h1
    subst e
    exact absurd (h1 (.inRangeFunc l) (by simp)) (by simp [tameItem])
  · rename_i k e
    simp only at e h1
    subst e
    exact absurd (h1 .beginRound (by simp)) (by simp [tameItem])
  · rename_i d b r s k e
    simp only at e h1
    subst e
    exact absurd (h1 (.call d b r s) (by simp)) (by simp [tameItem])
  · rename_i r s k e
    simp only at e h1
    subst e
    exact absurd (h1 (.extern r s) (by simp)) (by simp [tameItem])
  · exact ⟨h1, h2, h3, h4⟩
theorem tame_raise {S : FuncId → Bool} {fr : Frame} (h : TameF S fr) (vs : List PanicEntry) : TameF S (fr.raise vs) := by
  obtain ⟨h1, h2, h3, h4⟩ := h
  unfold Frame.raise
  split <;> exact ⟨h1, h2, h3, h4⟩
theorem tame_enter {P : Program} {S : FuncId → Bool} (hS : Closed P S) {f : FuncId} (hf : S f = true) (args : Array Value) : TameF S (Frame.enter P f args .normal) := by
  obtain ⟨fn, c, h1, h2, h3, _⟩ := hS f hf
  refine ⟨fun x hx => ?_, rfl, rfl, rfl⟩
  simp only [Frame.enter, h1, h2, Option.bind_some, Option.getD_some, List.mem_singleton] at hx
  subst hx
  exact h3

/-- no variable waits for its initialiser -/
def NoEarly (P : Program) : Prop := ∀ fr callers dying g w, ∃ o w' es, early P fr callers dying g w = .ended o w' es

theorem apply_tame {P : Program} {S : FuncId → Bool} {main : Bool} (hS : Closed P S) (hE : NoEarly P) {fr : Frame} {cs0 : List Frame} {w : World} {s : Sem Next} (hF : TameF S fr) (hC : ∀ c ∈ cs0, TameF S c) (hs : Plain P S s)
    (h : ∀ cs w, stepG P main (G fr (cs0 ++ cs)) w = stepG.apply P true fr (cs0 ++ cs) none s w) : Step1 P S main fr cs0 w := by
  have hk : (fr.kind == CallKind.early) = false := by rw [hF.kind]; rfl
  have hnc : ∀ d b r sv k, fr.todo ≠ .call d b r sv :: k := fun d b r sv k e => absurd (hF.items (.call d b r sv) (by rw [e]; simp)) (by simp [tameItem])
  rcases e : s.runT P w #[] with ⟨r, es⟩
  have hr := hs.res w #[]
  have hev := hs.evs w #[] (by simp)
  rw [e] at hr hev
  obtain ⟨hd, ht, hl⟩ := hs.loc w #[] r es e
  have hend : ∀ (x : GStep) (es : Array Event), (∃ o w' es', x = .ended o w' es') → ∃ o w' es', GStep.after es x = .ended o w' es' := by
    rintro _ es ⟨o, w', es', rfl⟩
    exact ⟨_, _, _, rfl⟩
  cases r with
  | ok n w' =>
    cases n with
    | value v =>
      refine .inr ⟨fr.finish v, cs0, w', seen P fr.fn es, tame_finish hF v, hC, seen_ok P _ _ (hev), hd, ht, fun cs τ D hj => ?_⟩
      rw [h]
      unfold stepG.apply
      simp only [if_true, hl τ D hj, rtp, hk, Bool.false_eq_true, if_false]
      simp [GStep.after, G, wof]
    | skip =>
      refine .inr ⟨fr.finish undef, cs0, w', seen P fr.fn es, tame_finish hF undef, hC, seen_ok P _ _ (hev), hd, ht, fun cs τ D hj => ?_⟩
      rw [h]
      unfold stepG.apply
      simp only [if_true, hl τ D hj, rtp, hk, Bool.false_eq_true, if_false]
      simp [GStep.after, G, wof]
    | enter f args =>
      refine .inr ⟨Frame.enter P f args .normal, fr :: cs0, w', seen P fr.fn es, tame_enter hS hr args, ?_, seen_ok P _ _ (hev), hd, ht, fun cs τ D hj => ?_⟩
      · intro c hc
        rcases List.mem_cons.1 hc with rfl | hc
        · exact hF
        · exact hC c hc
      rw [h]
      unfold stepG.apply
      simp only [if_true, hl τ D hj, rtp, hk, Bool.false_eq_true, if_false]
      simp only [GStep.after, G, wof, Array.append_empty, List.cons_append]
      congr 1
      congr 1
      split
      · rename_i d r sv k e
        exact absurd e (hnc _ _ _ _ _)
      · rfl
    | _ => exact hr.elim
  | halt x w' =>
    cases x with
    | panic v =>
      refine .inr ⟨fr.raise [{ v, recovered := false }], cs0, w', seen P fr.fn es, tame_raise hF _, hC, seen_ok P _ _ (hev), hd, ht, fun cs τ D hj => ?_⟩
      rw [h]
      unfold stepG.apply
      simp only [if_true, hl τ D hj, rtp, hk, Bool.false_eq_true, if_false]
      simp [GStep.after, G, wof]
    | unsupported u =>
      refine .inl fun cs => ?_
      rw [h]
      unfold stepG.apply
      simp only [if_true, e, hk, Bool.false_eq_true, if_false]
      refine hend _ _ ?_
      cases u <;> first | exact hE _ _ _ _ _ | exact ⟨_, _, _, rfl⟩
    | stuck t =>
      refine .inl fun cs => ?_
      rw [h]
      unfold stepG.apply
      simp only [if_true, e, hk, Bool.false_eq_true, if_false]
      exact hend _ _ ⟨_, _, _, rfl⟩
    | _ => exact hr.elim

theorem tameOps_at {S : FuncId → Bool} {ops : Array Oper} (h : tameOps S ops = true) {i : Nat} {o : Oper} (ho : ops[i]? = some o) : tameOp S o.op = true := by
  unfold tameOps at h
  obtain ⟨hi, rfl⟩ := Array.getElem?_eq_some_iff.1 ho
  exact (Array.all_eq_true.1 h) i hi
theorem exitTo_tame {S : FuncId → Bool} {id : Nat} : ∀ {k k' : List Item}, (∀ x ∈ k, tameItem S x = true) → exitTo id k = some k' → ∀ x ∈ k', tameItem S x = true := by
  intro k
  induction k with
  | nil => intro k' _ h; simp [exitTo] at h
  | cons a k ih =>
    intro k' hk h
    have hk' : ∀ x ∈ k, tameItem S x = true := fun x hx => hk x (by simp [hx])
    unfold exitTo at h
    split at h
    · rename_i e
      injection e with e1 e2
      subst e2
      split at h
      · injection h with h
        subst h
        exact hk'
      · exact ih hk' h
    · rename_i e
      injection e with e1 e2
      subst e2
      exact ih hk' h
    · rename_i e
      cases e

theorem step_run {P : Program} {S : FuncId → Bool} {main : Bool} (hS : Closed P S) (hE : NoEarly P) {fr : Frame} {cs0 : List Frame} {w : World} (hF : TameF S fr) (hC : ∀ c ∈ cs0, TameF S c) (hm : fr.mode = .run) : Step1 P S main fr cs0 w := by
  obtain ⟨fn, tmps, todo, defers, mode, kind, ro⟩ := fr
  obtain ⟨h1, h2, h3, h4⟩ := hF
  simp only at h1 h2 h3 h4 hm
  subst h2 h3 h4 hm
  have hF0 : TameF S ⟨fn, tmps, todo, [], .run, .normal, none⟩ := ⟨h1, rfl, rfl, rfl⟩
  have ended : (∀ cs, ∃ o w' es, stepG P main (G ⟨fn, tmps, todo, [], .run, .normal, none⟩ (cs0 ++ cs)) w = .ended o w' es) → Step1 P S main ⟨fn, tmps, todo, [], .run, .normal, none⟩ cs0 w := .inl
  have to : ∀ td : List Item, (∀ x ∈ td, tameItem S x = true) → (∀ cs w, stepG P main (G ⟨fn, tmps, todo, [], .run, .normal, none⟩ (cs0 ++ cs)) w = .go (G ⟨fn, tmps, td, [], .run, .normal, none⟩ (cs0 ++ cs)) w) →
      Step1 P S main ⟨fn, tmps, todo, [], .run, .normal, none⟩ cs0 w := fun td ht h => step_silent ⟨ht, rfl, rfl, rfl⟩ hC h
  have leave : (∀ cs w, stepG P main (G ⟨fn, tmps, todo, [], .run, .normal, none⟩ (cs0 ++ cs)) w = .go (G ⟨fn, tmps, todo, [], .returning, .normal, none⟩ (cs0 ++ cs)) w) →
      Step1 P S main ⟨fn, tmps, todo, [], .run, .normal, none⟩ cs0 w := fun h => step_silent ⟨h1, rfl, rfl, rfl⟩ hC h
  cases todo with
  | nil => exact leave fun cs w => by simp [G, stepG, stepG.exec]
  | cons x k =>
    have hk : ∀ y ∈ k, tameItem S y = true := fun y hy => h1 y (by simp [hy])
    have hx := h1 x (by simp)
    cases x with
    | code c =>
      cases c with
      | ret => exact leave fun cs w => by simp [G, stepG, stepG.exec]
      | skip => exact to k hk fun cs w => by simp [G, stepG, stepG.exec]
      | label l => exact to k hk fun cs w => by simp [G, stepG, stepG.exec]
      | seq a b =>
        simp only [tameItem, tameCode, Bool.and_eq_true] at hx
        refine to (.code a :: .code b :: k) (fun y hy => ?_) fun cs w => by simp [G, stepG, stepG.exec]
        simp only [List.mem_cons] at hy
        rcases hy with rfl | rfl | hy
        · exact hx.1
        · exact hx.2
        · exact hk y hy
      | cond c a b =>
        simp only [tameItem, tameCode, Bool.and_eq_true] at hx
        cases hc : Frame.eval ⟨fn, tmps, .code (.cond c a b) :: k, [], .run, .normal, none⟩ c with
        | bool t =>
          refine to (.code (if t then a else b) :: k) (fun y hy => ?_) fun cs w => by simp [G, stepG, stepG.exec, hc]
          simp only [List.mem_cons] at hy
          rcases hy with rfl | hy
          · cases t
            · exact hx.2
            · exact hx.1
          · exact hk y hy
        | _ =>
          refine ended fun cs => ?_
          simp [G, stepG, stepG.exec, hc]
      | block id b =>
        refine to (.code b :: .inBlock id :: k) (fun y hy => ?_) fun cs w => by simp [G, stepG, stepG.exec]
        simp only [List.mem_cons] at hy
        rcases hy with rfl | rfl | hy
        · exact hx
        · rfl
        · exact hk y hy
      | loop b =>
        refine to (.code b :: .inLoop b :: k) (fun y hy => ?_) fun cs w => by simp [G, stepG, stepG.exec]
        simp only [List.mem_cons] at hy
        rcases hy with rfl | rfl | hy
        · exact hx
        · exact hx
        · exact hk y hy
      | scope b =>
        refine to (.code b :: .inScope b :: k) (fun y hy => ?_) fun cs w => by simp [G, stepG, stepG.exec]
        simp only [List.mem_cons] at hy
        rcases hy with rfl | rfl | hy
        · exact hx
        · exact hx
        · exact hk y hy
      | exit id =>
        cases he : exitTo id k with
        | some k' => exact to k' (exitTo_tame hk he) fun cs w => by simp [G, stepG, stepG.exec, he]
        | none =>
          refine ended fun cs => ?_
          simp [G, stepG, stepG.exec, he]
      | region id ops draw =>
        cases draw with
        | false =>
          refine to (.inRegion ops (List.range ops.size) :: k) (fun y hy => ?_) fun cs w => by simp [G, stepG, stepG.exec]
          simp only [List.mem_cons] at hy
          rcases hy with rfl | hy
          · exact hx
          · exact hk y hy
        | true =>
          refine .inr ⟨⟨fn, tmps, .inRegion ops (Region.schedule (P.follows .mixedOrders) ops ((Question.order fn id).cut (w.tape w.drawn (.order fn id)))) :: k, [], .run, .normal, none⟩, cs0, { w with drawn := w.drawn + 1 }, #[], ⟨fun y hy => ?_, rfl, rfl, rfl⟩, hC, by simp, by simp, rfl, fun cs τ D hj => ?_⟩
          · simp only [List.mem_cons] at hy
            rcases hy with rfl | hy
            · exact hx
            · exact hk y hy
          · have e0 : τ D = w.tape w.drawn := hj 0 (by simp)
            have e1 : ∀ q, (tp w τ D).tape (tp w τ D).drawn q = w.tape w.drawn q := fun q => congrFun e0 q
            have e2 : D + (w.drawn + 1 - w.drawn) = D + 1 := by omega
            simp only [G, stepG, stepG.exec, choose, Sem.run, Question.forced, e1, e2, Bool.not_true, Bool.false_eq_true, if_false]
            rfl
      | refuse why =>
        refine ended fun cs => ?_
        simp [G, stepG, stepG.exec]
      | rangeFunc f p a b => simp [tameItem, tameCode] at hx
      | goto l => simp [tameItem, tameCode] at hx
    | inBlock id => exact to k hk fun cs w => by simp [G, stepG, stepG.exec]
    | inScope b => exact to k hk fun cs w => by simp [G, stepG, stepG.exec]
    | inLoop b =>
      refine to (.code b :: .inLoop b :: k) (fun y hy => ?_) fun cs w => by simp [G, stepG, stepG.exec]
      simp only [List.mem_cons] at hy
      rcases hy with rfl | rfl | hy
      · exact hx
      · exact hx
      · exact hk y hy
    | inRegion ops is =>
      cases is with
      | nil => exact to k hk fun cs w => by simp [G, stepG, stepG.exec]
      | cons i is =>
        by_cases hw : ((ops[i]?).map (Region.wanted · (yielded ops tmps))).getD false = true
        · cases ho : ops[i]? with
          | none => rw [ho] at hw; simp at hw
          | some o =>
            refine apply_tame hS hE hF0 hC (plain_exec hS (Frame.eval ⟨fn, tmps, .inRegion ops (i :: is) :: k, [], .run, .normal, none⟩) (fun _ => rfl) o (tameOps_at hx ho)) fun cs w => ?_
            rw [ho] at hw
            simp only [G, stepG, stepG.exec, ho, hw, if_true, stepG.oper, Frame.oper?]
        · exact step_silent (tame_finish hF0 undef) hC fun cs w => by
            simp only [G, stepG, stepG.exec, hw]
            rfl
    | inRangeFunc l => simp [tameItem] at hx
    | endRangeFunc l => simp [tameItem] at hx
    | beginRound => simp [tameItem] at hx
    | call d b r s => simp [tameItem] at hx
    | extern r s => simp [tameItem] at hx

theorem mild_results (fn : Func) (tmps : Array Value) : Mild (results fn tmps) := by
  unfold results
  refine mild_bind (mild_mapM (fun r => ?_) _) fun vs => mild_pure _
  cases r with
  | tmp t => exact mild_pure _
  | cell a t => exact mild_bind (mild_asAddr _) fun _ => mild_loadVar _ _

theorem step_unwind {P : Program} {S : FuncId → Bool} {main : Bool} {fr c0 : Frame} {cs1 : List Frame} {w : World} (hF : TameF S fr) (hC0 : TameF S c0) (hC : ∀ c ∈ cs1, TameF S c) (hm : fr.mode ≠ .run) : Step1 P S main fr (c0 :: cs1) w := by
  obtain ⟨fn, tmps, todo, defers, mode, kind, ro⟩ := fr
  obtain ⟨h1, h2, h3, h4⟩ := hF
  simp only at h1 h2 h3 h4 hm
  subst h2 h3 h4
  cases mode with
  | run => exact absurd rfl hm
  | panicking chain =>
    have hcat : Frame.catches P ⟨fn, tmps, todo, [], .panicking chain, .normal, none⟩ = false := by
      unfold Frame.catches
      split
      · rename_i d b r s k _ e
        exact absurd (h1 (.call d b r s) (by simp only at e; rw [e]; simp)) (by simp [tameItem])
      · rfl
    exact step_silent (tame_raise hC0 chain) hC fun cs w => by simp [G, stepG, unwind, hcat]
  | returning =>
    cases hf : P.funcs[fn]? with
    | none => exact step_silent (tame_finish hC0 (tmps.getD 0 undef)) hC fun cs w => by simp [G, stepG, unwind, hf, doReturn]
    | some f =>
      have hmr := mild_results f tmps
      rcases e : (results f tmps).runT P w #[] with ⟨r, es⟩
      obtain ⟨hd, ht, hl⟩ := local_of_mild P _ hmr w #[] r es e
      have hev := mild_events P _ hmr w #[] (by simp)
      rw [e] at hev
      cases r with
      | ok v w' =>
        refine .inr ⟨c0.finish v, cs1, w', seen P fn es, tame_finish hC0 v, hC, seen_ok P _ _ hev, hd, ht, fun cs τ D hj => ?_⟩
        have el := hl τ D hj
        simp only [G, stepG, unwind, hf, el, rtp, doReturn, List.cons_append]
        simp [GStep.after, wof]
      | halt x w' =>
        refine .inl fun cs => ?_
        rcases mild_halts P _ hmr w #[] x w' es e with ⟨v, rfl⟩ | ⟨u, rfl⟩ | ⟨t, rfl⟩ <;> simp [G, stepG, unwind, hf, e, GStep.after, -Sem.runT_eq]

/-- ONE STEP. -/
theorem step_tame {P : Program} {S : FuncId → Bool} {main : Bool} (hS : Closed P S) (hE : NoEarly P) {fr : Frame} {cs0 : List Frame} {w : World} (hF : TameF S fr) (hC : ∀ c ∈ cs0, TameF S c) (hm : fr.mode = .run ∨ cs0 ≠ []) : Step1 P S main fr cs0 w := by
  by_cases h : fr.mode = .run
  · exact step_run hS hE hF hC h
  · cases cs0 with
    | nil => exact absurd rfl (hm.resolve_left h)
    | cons c0 cs1 => exact step_unwind hF (hC c0 (by simp)) (fun c hc => hC c (by simp [hc])) h
end Go.Proofs.Ytcdchieielpahaa

/- From runs of one goroutine alone, on every tape, to its walk in the company of goroutines that only leave (well-founded: the number of steps hangs on the answers). Condition: plain frames. -/
namespace Go.Proofs.Ytcdchieielpahaa
open Go.Conc

/-- a caller at which the run ends, however it is come to -/
def trap (P : Program) : Frame := { fn := P.funcs.size, tmps := #[], todo := [.call default false "fmt's door" #[]], defers := [], mode := .panicking [], kind := .normal }
theorem trap_catches (P : Program) (m : FrameMode) : Frame.catches P { trap P with mode := m } = true := by
  unfold Frame.catches trap
  have h : P.funcs[P.funcs.size]? = none := by simp
  simp only [h]
  simp
theorem trap_raise (P : Program) (chain : List PanicEntry) (cs : List Frame) (w : World) : ∃ o w' es, stepG P true (G ((trap P).raise chain) cs) w = .ended o w' es := by
  have e : (trap P).raise chain = { trap P with mode := .panicking chain } := by
    simp [Frame.raise, trap]
  have hc := trap_catches P (.panicking chain)
  rw [e]
  simp only [trap] at hc ⊢
  simp [G, stepG, unwind, hc]
theorem trap_finish (P : Program) (v : Value) (cs : List Frame) (w : World) : stepG P true (G ((trap P).finish v) (trap P :: cs)) w = .go (G ((trap P).raise []) cs) w := by
  simp [G, stepG, unwind, trap, Frame.finish, Frame.catches]

theorem solo_lone (fr : Frame) (cs : List Frame) (w : World) : lone fr cs w = solo (G fr cs) w := rfl
theorem step_solo_go {P : Program} {a a' : Goroutine} {w w' : World} {es : Array Event} (hs : a.status = .running) (h : stepG P true a w = .go a' w' es) : step P (solo a w) = .next (solo a' w') := by
  unfold step
  rw [stepT_solo hs, runT_solo_go h]
theorem step_solo_ended {P : Program} {a : Goroutine} {o : Outcome} {w w' : World} {es : Array Event} (hs : a.status = .running) (h : stepG P true a w = .ended o w' es) : step P (solo a w) = .ended o w' := by
  unfold step
  rw [stepT_solo hs]
  simp [runT, solo, Array.swapAt!, Array.swapAt, h, GStep.es]
theorem steps_cases {P : Program} {m m' : Machine} (h : Steps P m m') : m = m' ∨ ∃ m₁, step P m = .next m₁ ∧ Steps P m₁ m' := by
  obtain ⟨n, hn⟩ := h
  cases n with
  | zero => exact .inl (by simpa [runN] using hn)
  | succ n =>
    simp only [runN] at hn
    cases hs : step P m with
    | next m₁ => rw [hs] at hn; exact .inr ⟨m₁, rfl, n, hn⟩
    | ended o w => rw [hs] at hn; cases hn

theorem solo_inj {fr fr' : Frame} {cs cs' : List Frame} {w w' : World} (h : solo (G fr cs) w = solo (G fr' cs') w') : fr = fr' ∧ cs = cs' ∧ w = w' := by
  unfold solo G at h
  injection h with h1 h2
  injection h2 with h2
  injection h2 with h2
  injection h2 with h3 h4
  exact ⟨h3, h4, h1⟩

/-- a place in a run: the frame, those above the callers, the world -/
structure Pl where
  fr : Frame
  cs : List Frame
  w : World
def Pl.tame (S : FuncId → Bool) (x : Pl) : Prop := TameF S x.fr ∧ ∀ c ∈ x.cs, TameF S c
def Pl.moves (x : Pl) : Prop := x.fr.mode = .run ∨ x.cs ≠ []
/-- alone, whatever answers are given, it comes to the return, in Q -/
def Returns1 (P : Program) (Q : Frame → Value → World → Prop) (x : Pl) : Prop :=
  ∀ σ : Tp, ∃ (τ : Tp) (d : Nat) (fr' : Frame) (v : Value) (w' : World), (∀ j, τ (d + j) = σ j) ∧ Steps P (solo (G x.fr (x.cs ++ [trap P, trap P])) (tp x.w τ d)) (solo (G fr' [trap P, trap P]) w') ∧ fr'.leaving P w' (.returned v) ∧ Q fr' v w'
def Rel1 (P : Program) (S : FuncId → Bool) (y x : Pl) : Prop := x.moves ∧ ∃ (τ : Tp) (d : Nat) (es : Array Event), Next1 P S true x.fr x.cs (tp x.w τ d) y.fr y.cs y.w es

section
variable {P : Program} {S : FuncId → Bool} {Q : Frame → Value → World → Prop}

/-- a step on a stream of answers -/
theorem next1_on {fr fr' : Frame} {cs cs' : List Frame} {w w' : World} {τ : Tp} {d : Nat} {es : Array Event} (h : Next1 P S true fr cs (tp w τ d) fr' cs' w' es) (τ' : Tp) (D : Nat) (ha : ∀ j, d + j < w'.drawn → τ' (D + j) = τ (d + j)) (cs1 : List Frame) :
    step P (solo (G fr (cs ++ cs1)) (tp w τ' D)) = .next (solo (G fr' (cs' ++ cs1)) (tp w' τ' (D + (w'.drawn - d)))) :=
  step_solo_go rfl (h.go cs1 τ' D ha)

theorem returns_next {x y : Pl} (hx : Returns1 P Q x) (hm : x.moves) {τ : Tp} {d : Nat} {es : Array Event} (h : Next1 P S true x.fr x.cs (tp x.w τ d) y.fr y.cs y.w es) : Returns1 P Q y := by
  intro σ
  have hd : d ≤ y.w.drawn := h.drawn
  obtain ⟨τ', D, fr', v, w', hj, hst, hl, hq⟩ := hx (fun j => if j < y.w.drawn - d then τ (d + j) else σ (j - (y.w.drawn - d)))
  refine ⟨τ', D + (y.w.drawn - d), fr', v, w', fun j => ?_, ?_, hl, hq⟩
  · rw [Nat.add_assoc, hj, if_neg (by omega)]
    congr 1
    omega
  · have hstep := next1_on h τ' D (fun j hlt => by rw [hj, if_pos (by omega)]) [trap P, trap P]
    rcases steps_cases hst with e | ⟨m₁, h1, h2⟩
    · obtain ⟨e1, e2, e3⟩ := solo_inj e
      rcases hm with hm | hm
      · rw [e1] at hm
        rw [hl.1] at hm
        cases hm
      · exfalso
        have := congrArg List.length e2
        simp only [List.length_append, List.length_cons, List.length_nil] at this
        exact hm (List.eq_nil_of_length_eq_zero (by omega))
    · rw [hstep] at h1
      cases h1
      exact h2

theorem not_ends {x : Pl} (hx : Returns1 P Q x) (hm : x.moves) (τ : Tp) (d : Nat) (hloc : ∀ τ' D, (∀ j, τ' (D + j) = τ (d + j)) → Ends1 P true x.fr x.cs (tp x.w τ' D)) : False := by
  obtain ⟨τ', D, fr', v, w', hj, hst, hl, hq⟩ := hx (fun j => τ (d + j))
  obtain ⟨o, w1, es, he⟩ := hloc τ' D hj [trap P, trap P]
  rcases steps_cases hst with e | ⟨m₁, h1, h2⟩
  · obtain ⟨e1, e2, e3⟩ := solo_inj e
    rcases hm with hm | hm
    · rw [e1, hl.1] at hm
      cases hm
    · have := congrArg List.length e2
      simp only [List.length_append, List.length_cons, List.length_nil] at this
      exact hm (List.eq_nil_of_length_eq_zero (by omega))
  · rw [step_solo_ended rfl he] at h1
    cases h1
end
end Go.Proofs.Ytcdchieielpahaa

/- A goroutine that alone comes to its return on every tape comes to it in company too: the walk is well-founded. -/
namespace Go.Proofs.Ytcdchieielpahaa
open Go.Conc

section
variable {P : Program} {S : FuncId → Bool} {Q : Frame → Value → World → Prop}

theorem acc_of_returns {x : Pl} (hx : Returns1 P Q x) : Acc (Rel1 P S) x := by
  apply Classical.byContradiction
  intro h
  have hnext : ∀ z : { x // ¬ Acc (Rel1 P S) x }, ∃ y : { x // ¬ Acc (Rel1 P S) x }, Rel1 P S y.1 z.1 := by
    intro z
    apply Classical.byContradiction
    intro hn
    apply z.2
    refine ⟨_, fun y hy => ?_⟩
    apply Classical.byContradiction
    intro hy'
    exact hn ⟨⟨y, hy'⟩, hy⟩
  obtain ⟨nx, hnx⟩ : ∃ nx : { x // ¬ Acc (Rel1 P S) x } → { x // ¬ Acc (Rel1 P S) x }, ∀ z, Rel1 P S (nx z).1 z.1 := ⟨fun z => Classical.choose (hnext z), fun z => Classical.choose_spec (hnext z)⟩
  let g : Nat → { x // ¬ Acc (Rel1 P S) x } := fun n => Nat.rec ⟨x, h⟩ (fun _ z => nx z) n
  have hg : ∀ n, Rel1 P S (g (n + 1)).1 (g n).1 := fun n => hnx (g n)
  have g0 : (g 0).1 = x := rfl
  generalize hf : (fun n => (g n).1) = f at *
  have hf' : ∀ n, (g n).1 = f n := fun n => congrFun hf n
  simp only [hf'] at hg g0
  clear hf hf' hnx hnext
  have hch : ∀ n, ∃ p : Tp × Nat × Array Event, Next1 P S true (f n).fr (f n).cs (tp (f n).w p.1 p.2.1) (f (n + 1)).fr (f (n + 1)).cs (f (n + 1)).w p.2.2 := fun n => by
    obtain ⟨_, τ, d, es, hn⟩ := hg n
    exact ⟨(τ, d, es), hn⟩
  obtain ⟨p, hp⟩ : ∃ p : Nat → Tp × Nat × Array Event, ∀ n, Next1 P S true (f n).fr (f n).cs (tp (f n).w (p n).1 (p n).2.1) (f (n + 1)).fr (f (n + 1)).cs (f (n + 1)).w (p n).2.2 := ⟨fun n => Classical.choose (hch n), fun n => Classical.choose_spec (hch n)⟩
  let A : Nat → Nat := fun n => Nat.rec 0 (fun n a => a + ((f (n + 1)).w.drawn - (p n).2.1)) n
  have hA : ∀ n, A (n + 1) = A n + ((f (n + 1)).w.drawn - (p n).2.1) := fun n => rfl
  have hA0 : A 0 = 0 := rfl
  generalize A = A at hA hA0
  have mono : ∀ n k, A n ≤ A (n + k) := by
    intro n k
    induction k with
    | zero => exact Nat.le_refl _
    | succ k ih =>
      have := hA (n + k)
      rw [← Nat.add_assoc]
      omega
  have uniq : ∀ n k m, A n ≤ m → m < A (n + 1) → A k ≤ m → m < A (k + 1) → n = k := by
    intro n k m h1 h2 h3 h4
    rcases Nat.lt_trichotomy n k with hlt | he | hlt
    · have := mono (n + 1) (k - (n + 1))
      rw [show n + 1 + (k - (n + 1)) = k by omega] at this
      omega
    · exact he
    · have := mono (k + 1) (n - (k + 1))
      rw [show k + 1 + (n - (k + 1)) = n by omega] at this
      omega
  obtain ⟨T, hT⟩ : ∃ T : Tp, ∀ n m, A n ≤ m → m < A (n + 1) → T m = (p n).1 ((p n).2.1 + (m - A n)) := by
    refine ⟨fun m => Classical.epsilon fun t => ∀ n, A n ≤ m → m < A (n + 1) → t = (p n).1 ((p n).2.1 + (m - A n)), fun n m h1 h2 => ?_⟩
    have := Classical.epsilon_spec (p := fun t => ∀ n, A n ≤ m → m < A (n + 1) → t = (p n).1 ((p n).2.1 + (m - A n)))
      ⟨(p n).1 ((p n).2.1 + (m - A n)), fun k h3 h4 => by rw [uniq n k m h1 h2 h3 h4]⟩
    exact this n h1 h2
  obtain ⟨τ0, D0, fr', v, w', hj, ⟨N, hN⟩, hl, hq⟩ := hx T
  have one : ∀ n, step P (solo (G (f n).fr ((f n).cs ++ [trap P, trap P])) (tp (f n).w τ0 (D0 + A n))) = .next (solo (G (f (n + 1)).fr ((f (n + 1)).cs ++ [trap P, trap P])) (tp (f (n + 1)).w τ0 (D0 + A (n + 1)))) := by
    intro n
    have := next1_on (hp n) τ0 (D0 + A n) (fun j hlt => by
      rw [Nat.add_assoc, hj, hT n (A n + j) (by omega) (by rw [hA]; omega), Nat.add_sub_cancel_left]) [trap P, trap P]
    rw [this, hA, Nat.add_assoc]
  have many : ∀ n k, runN P n (solo (G (f k).fr ((f k).cs ++ [trap P, trap P])) (tp (f k).w τ0 (D0 + A k))) = .next (solo (G (f (k + n)).fr ((f (k + n)).cs ++ [trap P, trap P])) (tp (f (k + n)).w τ0 (D0 + A (k + n)))) := by
    intro n
    induction n with
    | zero => exact fun k => rfl
    | succ n ih =>
      intro k
      simp only [runN, one k, ih (k + 1)]
      rw [show k + 1 + n = k + (n + 1) by omega]
  have e := many N 0
  rw [hA0, g0, Nat.add_zero, hN, Nat.zero_add] at e
  injection e with e
  obtain ⟨e1, e2, _⟩ := solo_inj e
  rcases (hg N).1 with hm | hm
  · rw [← e1, hl.1] at hm
    cases hm
  · have := congrArg List.length e2
    simp only [List.length_append, List.length_cons, List.length_nil] at this
    exact hm (List.eq_nil_of_length_eq_zero (by omega))

/-- goroutine 0 in the company of goroutines that only leave: at each step the count of draws may have turned -/
inductive GoesW (P : Program) (Stop : Goroutine → World → Prop) : Goroutine → World → Prop
  | stop (g : Goroutine) (w : World) (h : ∀ d, Stop g (w.at d)) : GoesW P Stop g w
  | step (g : Goroutine) (w : World) (hs : g.status = .running) (ng : Nat → Goroutine) (nw : Nat → World) (es : Nat → Array Event) (hgo : ∀ d, stepG P true g (w.at d) = .go (ng d) (nw d) (es d))
      (hev : ∀ d, ∀ e ∈ es d, EvOk e) (h : ∀ d, GoesW P Stop (ng d) (nw d)) : GoesW P Stop g w

theorem leaving_tp {fr : Frame} {v : Value} {w : World} (h : fr.leaving P w (.returned v)) (τ : Tp) (d : Nat) : fr.leaving P (tp w τ d) (.returned v) := by
  obtain ⟨h1, h2, h3, fn, h4, h5⟩ := h
  refine ⟨h1, h2, h3, fn, h4, ?_⟩
  rcases e : (results fn fr.tmps).runT P w #[] with ⟨r, es⟩
  obtain ⟨_, _, hl⟩ := local_of_mild P _ (mild_results fn fr.tmps) w #[] r es e
  have e1 : r = .ok v w := by
    have := Sem.runT_fst P (results fn fr.tmps) w #[]
    rw [e, h5] at this
    exact this
  subst e1
  have := hl τ d (fun j hlt => by simp only [wof] at hlt; omega)
  have h6 := Sem.runT_fst P (results fn fr.tmps) (tp w τ d) #[]
  rw [this] at h6
  rw [← h6]
  simp [rtp, wof]

/-- behind its return to the trap the run ends -/
theorem ends_behind {fr fr' : Frame} {w w' : World} (hF : TameF S fr) (hm : fr.mode ≠ .run) (h : Steps P (solo (G fr [trap P, trap P]) w) (solo (G fr' [trap P, trap P]) w')) : fr = fr' ∧ w = w' := by
  rcases steps_cases h with e | ⟨m₁, h1, h2⟩
  · obtain ⟨e1, _, e3⟩ := solo_inj e
    exact ⟨e1, e3⟩
  · exfalso
    have dead1 : ∀ chain w₁, m₁ = solo (G ((trap P).raise chain) [trap P]) w₁ → False := by
      rintro chain w₁ rfl
      obtain ⟨o, w2, es, he⟩ := trap_raise P chain [trap P] w₁
      rcases steps_cases h2 with e | ⟨m₂, h3, _⟩
      · have := (solo_inj e).2.1
        simp at this
      · rw [step_solo_ended rfl he] at h3
        cases h3
    have dead2 : ∀ v w₁, m₁ = solo (G ((trap P).finish v) [trap P]) w₁ → False := by
      rintro v w₁ rfl
      rcases steps_cases h2 with e | ⟨m₂, h3, h4⟩
      · have := (solo_inj e).2.1
        simp at this
      · rw [step_solo_go rfl (trap_finish P v [] w₁)] at h3
        cases h3
        obtain ⟨o, w2, es, he⟩ := trap_raise P [] [] w₁
        rcases steps_cases h4 with e | ⟨m₃, h5, _⟩
        · have := (solo_inj e).2.1
          simp at this
        · rw [step_solo_ended rfl he] at h5
          cases h5
    obtain ⟨fn, tmps, todo, defers, mode, kind, ro⟩ := fr
    obtain ⟨t1, t2, t3, t4⟩ := hF
    simp only at t1 t2 t3 t4 hm
    subst t2 t3 t4
    cases mode with
    | run => exact hm rfl
    | panicking chain =>
      have hcat : Frame.catches P ⟨fn, tmps, todo, [], .panicking chain, .normal, none⟩ = false := by
        unfold Frame.catches
        split
        · rename_i d b r s k _ e
          exact absurd (t1 (.call d b r s) (by simp only at e; rw [e]; simp)) (by simp [tameItem])
        · rfl
      rw [step_solo_go (a' := G ((trap P).raise chain) [trap P]) (w' := w) (es := #[]) rfl (by simp [G, stepG, unwind, hcat])] at h1
      cases h1
      exact dead1 chain w rfl
    | returning =>
      cases hf : P.funcs[fn]? with
      | none =>
        rw [step_solo_go (a' := G ((trap P).finish (tmps.getD 0 undef)) [trap P]) (w' := w) (es := #[]) rfl (by simp [G, stepG, unwind, hf, doReturn])] at h1
        cases h1
        exact dead2 _ w rfl
      | some f =>
        rcases e : (results f tmps).runT P w #[] with ⟨r, es⟩
        cases r with
        | ok v w1 =>
          rw [step_solo_go (a' := G ((trap P).finish v) [trap P]) (w' := w1) (es := seen P fn es) rfl (by simp [G, stepG, unwind, hf, e, doReturn, GStep.after, -Sem.runT_eq])] at h1
          cases h1
          exact dead2 v w1 rfl
        | halt x w1 =>
          obtain ⟨o, w2, es2, he⟩ : ∃ o w' es', stepG P true (G ⟨fn, tmps, todo, [], .returning, .normal, none⟩ [trap P, trap P]) w = .ended o w' es' := by
            rcases mild_halts P _ (mild_results f tmps) w #[] x w1 es e with ⟨v, rfl⟩ | ⟨u, rfl⟩ | ⟨t, rfl⟩ <;> simp [G, stepG, unwind, hf, e, GStep.after, -Sem.runT_eq]
          rw [step_solo_ended rfl he] at h1
          cases h1

/-- the stop: at the return of the lowest of its plain frames, in Q -/
def AtLeave (P : Program) (Q : Frame → Value → World → Prop) (cs1 : List Frame) (g : Goroutine) (w : World) : Prop :=
  ∃ fr v, g = G fr cs1 ∧ fr.leaving P w (.returned v) ∧ Q fr v w

theorem goesW_of_returns (hS : Closed P S) (hE : NoEarly P) (hQ : ∀ fr v w τ d, Q fr v w → Q fr v (tp w τ d)) (cs1 : List Frame) (x : Pl) (ht : x.tame S) (hx : Returns1 P Q x) :
    ∀ (τ : Tp) (d : Nat), GoesW P (AtLeave P Q cs1) (G x.fr (x.cs ++ cs1)) (tp x.w τ d) := by
  have hacc : Acc (Rel1 P S) x := acc_of_returns hx
  induction hacc with
  | intro x _ ih =>
    intro τ d0
    by_cases hm : x.moves
    · have key : ∀ d : Nat, ∃ (y : Pl) (w' : World) (es : Array Event), stepG P true (G x.fr (x.cs ++ cs1)) ((tp x.w τ d0).at d) = .go (G y.fr (y.cs ++ cs1)) w' es ∧ (∀ e ∈ es, EvOk e) ∧ GoesW P (AtLeave P Q cs1) (G y.fr (y.cs ++ cs1)) w' := by
        intro d
        obtain ⟨τ', D, fr', v, w', hj, hst, hl, hq⟩ := hx (fun j => τ (d + j))
        rcases step_tame (main := true) (w := tp x.w τ' D) hS hE ht.1 ht.2 hm with he | ⟨fr1, cs0, w1, es, hn⟩
        · exfalso
          obtain ⟨o, w2, es, he⟩ := he [trap P, trap P]
          rcases steps_cases hst with e | ⟨m₁, h1, h2⟩
          · obtain ⟨e1, e2, e3⟩ := solo_inj e
            rcases hm with hm | hm
            · rw [e1, hl.1] at hm
              cases hm
            · have := congrArg List.length e2
              simp only [List.length_append, List.length_cons, List.length_nil] at this
              exact hm (List.eq_nil_of_length_eq_zero (by omega))
          · rw [step_solo_ended rfl he] at h1
            cases h1
        · have hgo := hn.go cs1 τ d (fun j _ => (hj j).symm)
          refine ⟨⟨fr1, cs0, w1⟩, _, es, hgo, hn.evs, ?_⟩
          exact ih ⟨fr1, cs0, w1⟩ ⟨hm, τ', D, es, hn⟩ ⟨hn.tame, hn.tames⟩ (returns_next (y := ⟨fr1, cs0, w1⟩) hx hm hn) τ _
      exact .step _ _ rfl (fun d => G (Classical.choose (key d)).fr ((Classical.choose (key d)).cs ++ cs1)) (fun d => Classical.choose (Classical.choose_spec (key d))) (fun d => Classical.choose (Classical.choose_spec (Classical.choose_spec (key d))))
        (fun d => (Classical.choose_spec (Classical.choose_spec (Classical.choose_spec (key d)))).1) (fun d => (Classical.choose_spec (Classical.choose_spec (Classical.choose_spec (key d)))).2.1)
        (fun d => (Classical.choose_spec (Classical.choose_spec (Classical.choose_spec (key d)))).2.2)
    · have hm1 : x.fr.mode ≠ .run := fun h => hm (.inl h)
      have hm2 : x.cs = [] := Classical.byContradiction fun h => hm (.inr h)
      refine .stop _ _ fun d => ?_
      obtain ⟨τ', D, fr', v, w', hj, hst, hl, hq⟩ := hx (fun j => τ (d + j))
      rw [hm2] at hst
      obtain ⟨rfl, rfl⟩ := ends_behind ht.1 hm1 hst
      exact ⟨x.fr, v, by rw [hm2]; rfl, leaving_tp hl τ d, hQ x.fr v (tp x.w τ' D) τ d hq⟩
end
end Go.Proofs.Ytcdchieielpahaa
