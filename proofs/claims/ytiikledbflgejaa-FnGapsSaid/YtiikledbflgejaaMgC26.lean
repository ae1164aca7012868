/- Texts put together. -/
import Derived.Test.YtiikledbflgejaaMgC25
import Derived.Conc.Own
import Derived.Conc.EntryLaws
/- One step of a goroutine whose frames are plain: it goes on, in plain frames, or the run ends; on every tape that gives the answers that it draws it goes alike; whoever the callers below are. Condition: no variable of the program's waits for an initialiser ('early' ends the run). -/
namespace Go.Proofs.Ytiikledbflgejaa
open Go.Conc

theorem tp_self (w : World) : tp w w.tape w.drawn = w := rfl
theorem tp_tp (w : World) (τ τ' : Tp) (d d' : Nat) : tp (tp w τ d) τ' d' = tp w τ' d' := rfl

theorem seen_ok (P : Program) (fn : FuncId) (es : Array Event) (h : ∀ e ∈ es, EvOk e) : ∀ e ∈ seen P fn es, EvOk e := by
  rw [seen_def]
  obtain ⟨l⟩ := es
  have : ∀ (q : FuncId → Bool) (l : List Event) (b : Bool) (kept : Array Event), (∀ e ∈ l, EvOk e) → (∀ e ∈ kept, EvOk e) → ∀ e ∈ (l.foldl (seenStep q) (b, kept)).2, EvOk e := by
    intro q l
    induction l with
    | nil => exact fun b kept _ h => h
    | cons x l ih =>
      intro b kept hl hk
      rw [List.foldl_cons]
      have hx := hl x (by simp)
      have hl' : ∀ e ∈ l, EvOk e := fun e he => hl e (by simp [he])
      unfold seenStep
      dsimp only
      split
      · exact ih _ _ hl' hk
      · refine ih _ _ hl' ?_
        split
        · exact hk
        · intro e he
          rcases Array.mem_push.1 he with h' | rfl
          · exact hk e h'
          · exact hx
  have h2 := this (fun f => (P.funcs[f]?).any (·.norace)) l ((P.funcs[fn]?).any (·.norace)) #[] (by simpa using h) (by simp)
  simpa using h2

/-- a step that goes on -/
structure Next1 (P : Program) (S : FuncId → Bool) (main : Bool) (fr : Frame) (cs0 : List Frame) (w : World) (fr' : Frame) (cs0' : List Frame) (w' : World) (es : Array Event) : Prop where
  tame : TameF S fr'
  tames : ∀ c ∈ cs0', TameF S c
  evs : ∀ e ∈ es, EvOk e
  drawn : w.drawn ≤ w'.drawn
  tape : w'.tape = w.tape
  go : ∀ (cs : List Frame) (τ : Tp) (D : Nat), (∀ j, w.drawn + j < w'.drawn → τ (D + j) = w.tape (w.drawn + j)) →
    stepG P main (G fr (cs0 ++ cs)) (tp w τ D) = .go (G fr' (cs0' ++ cs)) (tp w' τ (D + (w'.drawn - w.drawn))) es
def Ends1 (P : Program) (main : Bool) (fr : Frame) (cs0 : List Frame) (w : World) : Prop :=
  ∀ cs, ∃ o w' es, stepG P main (G fr (cs0 ++ cs)) w = .ended o w' es
def Step1 (P : Program) (S : FuncId → Bool) (main : Bool) (fr : Frame) (cs0 : List Frame) (w : World) : Prop :=
  Ends1 P main fr cs0 w ∨ ∃ fr' cs0' w' es, Next1 P S main fr cs0 w fr' cs0' w' es

theorem step_silent {P : Program} {S : FuncId → Bool} {main : Bool} {fr fr' : Frame} {cs0 cs0' : List Frame} {w : World} (ht : TameF S fr') (hc : ∀ c ∈ cs0', TameF S c)
    (h : ∀ cs w, stepG P main (G fr (cs0 ++ cs)) w = .go (G fr' (cs0' ++ cs)) w) : Step1 P S main fr cs0 w :=
  .inr ⟨fr', cs0', w, #[], ht, hc, by simp, Nat.le_refl _, rfl, fun cs τ D _ => by rw [h, Nat.sub_self]; rfl⟩

theorem tame_finish {S : FuncId → Bool} {fr : Frame} (h : TameF S fr) (v : Value) : TameF S (fr.finish v) := by
  obtain ⟨fn, tmps, todo, defers, mode, kind, ro⟩ := fr
  obtain ⟨h1, h2, h3, h4⟩ := h
  unfold Frame.finish
  split
  · rename_i ops i rest k e
    simp only at e h1
    subst e
    refine ⟨fun x hx => ?_, h2, h3, h4⟩
    rcases List.mem_cons.1 hx with rfl | hx
    · exact h1 (.inRegion ops (i :: rest)) (by simp)
    · exact h1 x (by simp [hx])
  · rename_i l k e
    simp only at e h1
    subst e
    exact absurd (h1 (.inRangeFunc l) (by simp)) (by simp [tameItem])
  · rename_i k e
    simp only at e h1
    subst e
    exact absurd (h1 .beginRound (by simp)) (by simp [tameItem])
  · rename_i d b r s k e
    simp only at e h1
    subst e
    exact absurd (h1 (.call d b r s) (by simp)) (by simp [tameItem])
  · rename_i r s k e
    simp only at e h1
    subst e
    exact absurd (h1 (.extern r s) (by simp)) (by simp [tameItem])
  · exact ⟨h1, h2, h3, h4⟩
theorem tame_raise {S : FuncId → Bool} {fr : Frame} (h : TameF S fr) (vs : List PanicEntry) : TameF S (fr.raise vs) := by
  obtain ⟨h1, h2, h3, h4⟩ := h
  unfold Frame.raise
  split <;> exact ⟨h1, h2, h3, h4⟩
theorem tame_enter {P : Program} {S : FuncId → Bool} (hS : Closed P S) {f : FuncId} (hf : S f = true) (args : Array Value) : TameF S (Frame.enter P f args .normal) := by
  obtain ⟨fn, c, h1, h2, h3, _⟩ := hS f hf
  refine ⟨fun x hx => ?_, rfl, rfl, rfl⟩
  simp only [Frame.enter, h1, h2, Option.bind_some, Option.getD_some, List.mem_singleton] at hx
  subst hx
  exact h3

/-- no variable waits for its initialiser -/
def NoEarly (P : Program) : Prop := ∀ fr callers dying g w, ∃ o w' es, early P fr callers dying g w = .ended o w' es

theorem apply_tame {P : Program} {S : FuncId → Bool} {main : Bool} (hS : Closed P S) (hE : NoEarly P) {fr : Frame} {cs0 : List Frame} {w : World} {s : Sem Next} (hF : TameF S fr) (hC : ∀ c ∈ cs0, TameF S c) (hs : Plain P S s)
    (h : ∀ cs w, stepG P main (G fr (cs0 ++ cs)) w = stepG.apply P true fr (cs0 ++ cs) none s w) : Step1 P S main fr cs0 w := by
  have hk : (fr.kind == CallKind.early) = false := by rw [hF.kind]; rfl
  have hnc : ∀ d b r sv k, fr.todo ≠ .call d b r sv :: k := fun d b r sv k e => absurd (hF.items (.call d b r sv) (by rw [e]; simp)) (by simp [tameItem])
  rcases e : s.runT P w #[] with ⟨r, es⟩
  have hr := hs.res w #[]
  have hev := hs.evs w #[] (by simp)
  rw [e] at hr hev
  obtain ⟨hd, ht, hl⟩ := hs.loc w #[] r es e
  have hend : ∀ (x : GStep) (es : Array Event), (∃ o w' es', x = .ended o w' es') → ∃ o w' es', GStep.after es x = .ended o w' es' := by
    rintro _ es ⟨o, w', es', rfl⟩
    exact ⟨_, _, _, rfl⟩
  cases r with
  | ok n w' =>
    cases n with
    | value v =>
      refine .inr ⟨fr.finish v, cs0, w', seen P fr.fn es, tame_finish hF v, hC, seen_ok P _ _ (hev), hd, ht, fun cs τ D hj => ?_⟩
      rw [h]
      unfold stepG.apply
      simp only [if_true, hl τ D hj, rtp, hk, Bool.false_eq_true, if_false]
      simp [GStep.after, G, wof]
    | skip =>
      refine .inr ⟨fr.finish undef, cs0, w', seen P fr.fn es, tame_finish hF undef, hC, seen_ok P _ _ (hev), hd, ht, fun cs τ D hj => ?_⟩
      rw [h]
      unfold stepG.apply
      simp only [if_true, hl τ D hj, rtp, hk, Bool.false_eq_true, if_false]
      simp [GStep.after, G, wof]
    | enter f args =>
      refine .inr ⟨Frame.enter P f args .normal, fr :: cs0, w', seen P fr.fn es, tame_enter hS hr args, ?_, seen_ok P _ _ (hev), hd, ht, fun cs τ D hj => ?_⟩
      · intro c hc
        rcases List.mem_cons.1 hc with rfl | hc
        · exact hF
        · exact hC c hc
      rw [h]
      unfold stepG.apply
      simp only [if_true, hl τ D hj, rtp, hk, Bool.false_eq_true, if_false]
      simp only [GStep.after, G, wof, Array.append_empty, List.cons_append]
      congr 1
      congr 1
      split
      · rename_i d r sv k e
        exact absurd e (hnc _ _ _ _ _)
      · rfl
    | _ => exact hr.elim
  | halt x w' =>
    cases x with
    | panic v =>
      refine .inr ⟨fr.raise [{ v, recovered := false }], cs0, w', seen P fr.fn es, tame_raise hF _, hC, seen_ok P _ _ (hev), hd, ht, fun cs τ D hj => ?_⟩
      rw [h]
      unfold stepG.apply
      simp only [if_true, hl τ D hj, rtp, hk, Bool.false_eq_true, if_false]
      simp [GStep.after, G, wof]
    | unsupported u =>
      refine .inl fun cs => ?_
      rw [h]
      unfold stepG.apply
      simp only [if_true, e, hk, Bool.false_eq_true, if_false]
      refine hend _ _ ?_
      cases u <;> first | exact hE _ _ _ _ _ | exact ⟨_, _, _, rfl⟩
    | stuck t =>
      refine .inl fun cs => ?_
      rw [h]
      unfold stepG.apply
      simp only [if_true, e, hk, Bool.false_eq_true, if_false]
      exact hend _ _ ⟨_, _, _, rfl⟩
    | _ => exact hr.elim

theorem tameOps_at {S : FuncId → Bool} {ops : Array Oper} (h : tameOps S ops = true) {i : Nat} {o : Oper} (ho : ops[i]? = some o) : tameOp S o.op = true := by
  unfold tameOps at h
  obtain ⟨hi, rfl⟩ := Array.getElem?_eq_some_iff.1 ho
  exact (Array.all_eq_true.1 h) i hi
theorem exitTo_tame {S : FuncId → Bool} {id : Nat} : ∀ {k k' : List Item}, (∀ x ∈ k, tameItem S x = true) → exitTo id k = some k' → ∀ x ∈ k', tameItem S x = true := by
  intro k
  induction k with
  | nil => intro k' _ h; simp [exitTo] at h
  | cons a k ih =>
    intro k' hk h
    have hk' : ∀ x ∈ k, tameItem S x = true := fun x hx => hk x (by simp [hx])
    unfold exitTo at h
    split at h
    · rename_i e
      injection e with e1 e2
      subst e2
      split at h
      · injection h with h
        subst h
        exact hk'
      · exact ih hk' h
    · rename_i e
      injection e with e1 e2
      subst e2
      exact ih hk' h
    · rename_i e
      cases e

theorem step_run {P : Program} {S : FuncId → Bool} {main : Bool} (hS : Closed P S) (hE : NoEarly P) {fr : Frame} {cs0 : List Frame} {w : World} (hF : TameF S fr) (hC : ∀ c ∈ cs0, TameF S c) (hm : fr.mode = .run) : Step1 P S main fr cs0 w := by
  obtain ⟨fn, tmps, todo, defers, mode, kind, ro⟩ := fr
  obtain ⟨h1, h2, h3, h4⟩ := hF
  simp only at h1 h2 h3 h4 hm
  subst h2 h3 h4 hm
  have hF0 : TameF S ⟨fn, tmps, todo, [], .run, .normal, none⟩ := ⟨h1, rfl, rfl, rfl⟩
  have ended : (∀ cs, ∃ o w' es, stepG P main (G ⟨fn, tmps, todo, [], .run, .normal, none⟩ (cs0 ++ cs)) w = .ended o w' es) → Step1 P S main ⟨fn, tmps, todo, [], .run, .normal, none⟩ cs0 w := .inl
  have to : ∀ td : List Item, (∀ x ∈ td, tameItem S x = true) → (∀ cs w, stepG P main (G ⟨fn, tmps, todo, [], .run, .normal, none⟩ (cs0 ++ cs)) w = .go (G ⟨fn, tmps, td, [], .run, .normal, none⟩ (cs0 ++ cs)) w) →
      Step1 P S main ⟨fn, tmps, todo, [], .run, .normal, none⟩ cs0 w := fun td ht h => step_silent ⟨ht, rfl, rfl, rfl⟩ hC h
  have leave : (∀ cs w, stepG P main (G ⟨fn, tmps, todo, [], .run, .normal, none⟩ (cs0 ++ cs)) w = .go (G ⟨fn, tmps, todo, [], .returning, .normal, none⟩ (cs0 ++ cs)) w) →
      Step1 P S main ⟨fn, tmps, todo, [], .run, .normal, none⟩ cs0 w := fun h => step_silent ⟨h1, rfl, rfl, rfl⟩ hC h
  cases todo with
  | nil => exact leave fun cs w => by simp [G, stepG, stepG.exec]
  | cons x k =>
    have hk : ∀ y ∈ k, tameItem S y = true := fun y hy => h1 y (by simp [hy])
    have hx := h1 x (by simp)
    cases x with
    | code c =>
      cases c with
      | ret => exact leave fun cs w => by simp [G, stepG, stepG.exec]
      | skip => exact to k hk fun cs w => by simp [G, stepG, stepG.exec]
      | label l => exact to k hk fun cs w => by simp [G, stepG, stepG.exec]
      | seq a b =>
        simp only [tameItem, tameCode, Bool.and_eq_true] at hx
        refine to (.code a :: .code b :: k) (fun y hy => ?_) fun cs w => by simp [G, stepG, stepG.exec]
        simp only [List.mem_cons] at hy
        rcases hy with rfl | rfl | hy
        · exact hx.1
        · exact hx.2
        · exact hk y hy
      | cond c a b =>
        simp only [tameItem, tameCode, Bool.and_eq_true] at hx
        cases hc : Frame.eval ⟨fn, tmps, .code (.cond c a b) :: k, [], .run, .normal, none⟩ c with
        | bool t =>
          refine to (.code (if t then a else b) :: k) (fun y hy => ?_) fun cs w => by simp [G, stepG, stepG.exec, hc]
          simp only [List.mem_cons] at hy
          rcases hy with rfl | hy
          · cases t
            · exact hx.2
            · exact hx.1
          · exact hk y hy
        | _ =>
          refine ended fun cs => ?_
          simp [G, stepG, stepG.exec, hc]
      | block id b =>
        refine to (.code b :: .inBlock id :: k) (fun y hy => ?_) fun cs w => by simp [G, stepG, stepG.exec]
        simp only [List.mem_cons] at hy
        rcases hy with rfl | rfl | hy
        · exact hx
        · rfl
        · exact hk y hy
      | loop b =>
        refine to (.code b :: .inLoop b :: k) (fun y hy => ?_) fun cs w => by simp [G, stepG, stepG.exec]
        simp only [List.mem_cons] at hy
        rcases hy with rfl | rfl | hy
        · exact hx
        · exact hx
        · exact hk y hy
      | scope b =>
        refine to (.code b :: .inScope b :: k) (fun y hy => ?_) fun cs w => by simp [G, stepG, stepG.exec]
        simp only [List.mem_cons] at hy
        rcases hy with rfl | rfl | hy
        · exact hx
        · exact hx
        · exact hk y hy
      | exit id =>
        cases he : exitTo id k with
        | some k' => exact to k' (exitTo_tame hk he) fun cs w => by simp [G, stepG, stepG.exec, he]
        | none =>
          refine ended fun cs => ?_
          simp [G, stepG, stepG.exec, he]
      | region id ops draw =>
        cases draw with
        | false =>
          refine to (.inRegion ops (List.range ops.size) :: k) (fun y hy => ?_) fun cs w => by simp [G, stepG, stepG.exec]
          simp only [List.mem_cons] at hy
          rcases hy with rfl | hy
          · exact hx
          · exact hk y hy
        | true =>
          refine .inr ⟨⟨fn, tmps, .inRegion ops (Region.schedule (P.follows .mixedOrders) ops ((Question.order fn id).cut (w.tape w.drawn (.order fn id)))) :: k, [], .run, .normal, none⟩, cs0, { w with drawn := w.drawn + 1 }, #[], ⟨fun y hy => ?_, rfl, rfl, rfl⟩, hC, by simp, by simp, rfl, fun cs τ D hj => ?_⟩
          · simp only [List.mem_cons] at hy
            rcases hy with rfl | hy
            · exact hx
            · exact hk y hy
          · have e0 : τ D = w.tape w.drawn := hj 0 (by simp)
            have e1 : ∀ q, (tp w τ D).tape (tp w τ D).drawn q = w.tape w.drawn q := fun q => congrFun e0 q
            have e2 : D + (w.drawn + 1 - w.drawn) = D + 1 := by omega
            simp only [G, stepG, stepG.exec, choose, Sem.run, Question.forced, e1, e2, Bool.not_true, Bool.false_eq_true, if_false]
            rfl
      | refuse why =>
        refine ended fun cs => ?_
        simp [G, stepG, stepG.exec]
      | rangeFunc f p a b => simp [tameItem, tameCode] at hx
      | goto l => simp [tameItem, tameCode] at hx
    | inBlock id => exact to k hk fun cs w => by simp [G, stepG, stepG.exec]
    | inScope b => exact to k hk fun cs w => by simp [G, stepG, stepG.exec]
    | inLoop b =>
      refine to (.code b :: .inLoop b :: k) (fun y hy => ?_) fun cs w => by simp [G, stepG, stepG.exec]
      simp only [List.mem_cons] at hy
      rcases hy with rfl | rfl | hy
      · exact hx
      · exact hx
      · exact hk y hy
    | inRegion ops is =>
      cases is with
      | nil => exact to k hk fun cs w => by simp [G, stepG, stepG.exec]
      | cons i is =>
        by_cases hw : ((ops[i]?).map (Region.wanted · (yielded ops tmps))).getD false = true
        · cases ho : ops[i]? with
          | none => rw [ho] at hw; simp at hw
          | some o =>
            refine apply_tame hS hE hF0 hC (plain_exec hS (Frame.eval ⟨fn, tmps, .inRegion ops (i :: is) :: k, [], .run, .normal, none⟩) (fun _ => rfl) o (tameOps_at hx ho)) fun cs w => ?_
            rw [ho] at hw
            simp only [G, stepG, stepG.exec, ho, hw, if_true, stepG.oper, Frame.oper?]
        · exact step_silent (tame_finish hF0 undef) hC fun cs w => by
            simp only [G, stepG, stepG.exec, hw]
            rfl
    | inRangeFunc l => simp [tameItem] at hx
    | endRangeFunc l => simp [tameItem] at hx
    | beginRound => simp [tameItem] at hx
    | call d b r s => simp [tameItem] at hx
    | extern r s => simp [tameItem] at hx

theorem mild_results (fn : Func) (tmps : Array Value) : Mild (results fn tmps) := by
  unfold results
  refine mild_bind (mild_mapM (fun r => ?_) _) fun vs => mild_pure _
  cases r with
  | tmp t => exact mild_pure _
  | cell a t => exact mild_bind (mild_asAddr _) fun _ => mild_loadVar _ _

theorem step_unwind {P : Program} {S : FuncId → Bool} {main : Bool} {fr c0 : Frame} {cs1 : List Frame} {w : World} (hF : TameF S fr) (hC0 : TameF S c0) (hC : ∀ c ∈ cs1, TameF S c) (hm : fr.mode ≠ .run) : Step1 P S main fr (c0 :: cs1) w := by
  obtain ⟨fn, tmps, todo, defers, mode, kind, ro⟩ := fr
  obtain ⟨h1, h2, h3, h4⟩ := hF
  simp only at h1 h2 h3 h4 hm
  subst h2 h3 h4
  cases mode with
  | run => exact absurd rfl hm
  | panicking chain =>
    have hcat : Frame.catches P ⟨fn, tmps, todo, [], .panicking chain, .normal, none⟩ = false := by
      unfold Frame.catches
      split
      · rename_i d b r s k _ e
        exact absurd (h1 (.call d b r s) (by simp only at e; rw [e]; simp)) (by simp [tameItem])
      · rfl
    exact step_silent (tame_raise hC0 chain) hC fun cs w => by simp [G, stepG, unwind, hcat]
  | returning =>
    cases hf : P.funcs[fn]? with
    | none => exact step_silent (tame_finish hC0 (tmps.getD 0 undef)) hC fun cs w => by simp [G, stepG, unwind, hf, doReturn]
    | some f =>
      have hmr := mild_results f tmps
      rcases e : (results f tmps).runT P w #[] with ⟨r, es⟩
      obtain ⟨hd, ht, hl⟩ := local_of_mild P _ hmr w #[] r es e
      have hev := mild_events P _ hmr w #[] (by simp)
      rw [e] at hev
      cases r with
      | ok v w' =>
        refine .inr ⟨c0.finish v, cs1, w', seen P fn es, tame_finish hC0 v, hC, seen_ok P _ _ hev, hd, ht, fun cs τ D hj => ?_⟩
        have el := hl τ D hj
        simp only [G, stepG, unwind, hf, el, rtp, doReturn, List.cons_append]
        simp [GStep.after, wof]
      | halt x w' =>
        refine .inl fun cs => ?_
        rcases mild_halts P _ hmr w #[] x w' es e with ⟨v, rfl⟩ | ⟨u, rfl⟩ | ⟨t, rfl⟩ <;> simp [G, stepG, unwind, hf, e, GStep.after, -Sem.runT_eq]

/-- ONE STEP. -/
theorem step_tame {P : Program} {S : FuncId → Bool} {main : Bool} (hS : Closed P S) (hE : NoEarly P) {fr : Frame} {cs0 : List Frame} {w : World} (hF : TameF S fr) (hC : ∀ c ∈ cs0, TameF S c) (hm : fr.mode = .run ∨ cs0 ≠ []) : Step1 P S main fr cs0 w := by
  by_cases h : fr.mode = .run
  · exact step_run hS hE hF hC h
  · cases cs0 with
    | nil => exact absurd rfl (hm.resolve_left h)
    | cons c0 cs1 => exact step_unwind hF (hC c0 (by simp)) (fun c hc => hC c (by simp [hc])) h
end Go.Proofs.Ytiikledbflgejaa
