/- Texts put together. -/
import Derived.Test.YtiikledbflgejaaMgC28
/- One step of a frame whose next items are plain, whatever items lie behind them; of a stack of frames the lowest of which is such a frame. -/
namespace Go.Proofs.Ytiikledbflgejaa
open Go.Conc

/-- more items behind -/
def ext (k : List Item) (fr : Frame) : Frame := { fr with todo := fr.todo ++ k }
theorem ext_nil (fr : Frame) : ext [] fr = fr := by unfold ext; simp
theorem ext_raise (k : List Item) (fr : Frame) (vs : List PanicEntry) : (ext k fr).raise vs = ext k (fr.raise vs) := by
  unfold Frame.raise ext
  dsimp only
  split <;> rfl
theorem ext_finish (k : List Item) {fr : Frame} (h : fr.todo ≠ []) (v : Value) : (ext k fr).finish v = ext k (fr.finish v) := by
  obtain ⟨fn, tmps, todo, defers, mode, kind, ro⟩ := fr
  cases todo with
  | nil => exact absurd rfl h
  | cons x l =>
    cases x with
    | inRegion ops is => cases is <;> rfl
    | _ => rfl

/-- a step of the top frame, whatever lies behind its items and below it -/
structure NextB (P : Program) (S : FuncId → Bool) (main : Bool) (fr : Frame) (w : World) (fr' : Frame) (up : List Frame) (w' : World) (es : Array Event) : Prop where
  tame : TameF S fr'
  tames : ∀ c ∈ up, TameF S c
  todo : up ≠ [] → fr'.todo ≠ []
  evs : ∀ e ∈ es, EvOk e
  drawn : w.drawn ≤ w'.drawn
  tape : w'.tape = w.tape
  go : ∀ (k : List Item) (cs : List Frame) (τ : Tp) (D : Nat), (∀ j, w.drawn + j < w'.drawn → τ (D + j) = w.tape (w.drawn + j)) →
    stepG P main (G (ext k fr) cs) (tp w τ D) = .go (match up with | [] => G (ext k fr') cs | f :: _ => G f (ext k fr' :: cs)) (tp w' τ (D + (w'.drawn - w.drawn))) es
/-- the items behind at which a run ends -/
def dead : List Item := [.code (.refuse "")]
def EndsB (P : Program) (main : Bool) (fr : Frame) (w : World) : Prop :=
  ∀ cs, (∃ o w' es, stepG P main (G (ext dead fr) cs) w = .ended o w' es) ∧ (∃ o w' es, stepG P main (G (ext [] fr) cs) w = .ended o w' es)
def StepB (P : Program) (S : FuncId → Bool) (main : Bool) (fr : Frame) (w : World) : Prop :=
  EndsB P main fr w ∨ ∃ fr' up w' es, NextB P S main fr w fr' up w' es

theorem silent_base {P : Program} {S : FuncId → Bool} {main : Bool} {fr fr' : Frame} {w : World} (ht : TameF S fr')
    (h : ∀ k cs w, stepG P main (G (ext k fr) cs) w = .go (G (ext k fr') cs) w) : StepB P S main fr w :=
  .inr ⟨fr', [], w, #[], ht, by simp, by simp, by simp, Nat.le_refl _, rfl, fun k cs τ D _ => by rw [h, Nat.sub_self]; rfl⟩

theorem apply_base {P : Program} {S : FuncId → Bool} {main : Bool} (hS : Closed P S) (hE : NoEarly P) {fr : Frame} {w : World} {s : Sem Next} (hF : TameF S fr) (hne : fr.todo ≠ []) (hs : Plain P S s)
    (h : ∀ k cs w, stepG P main (G (ext k fr) cs) w = stepG.apply P true (ext k fr) cs none s w) : StepB P S main fr w := by
  have hk : ∀ k, ((ext k fr).kind == CallKind.early) = false := fun k => by show (fr.kind == CallKind.early) = false; rw [hF.kind]; rfl
  have hnc : ∀ k0 d b r sv k, (ext k0 fr).todo ≠ .call d b r sv :: k := fun k0 d b r sv k e => by
    have e : fr.todo ++ k0 = .call d b r sv :: k := e
    cases hx : fr.todo with
    | nil => exact hne hx
    | cons x l =>
      rw [hx] at e
      injection e with e1 e2
      exact absurd (hF.items (.call d b r sv) (by rw [hx, e1]; simp)) (by simp [tameItem])
  rcases e : s.runT P w #[] with ⟨r, es⟩
  have hr := hs.res w #[]
  have hev := hs.evs w #[] (by simp)
  rw [e] at hr hev
  obtain ⟨hd, ht, hl⟩ := hs.loc w #[] r es e
  have hend : ∀ (x : GStep) (es : Array Event), (∃ o w' es', x = .ended o w' es') → ∃ o w' es', GStep.after es x = .ended o w' es' := by
    rintro _ es ⟨o, w', es', rfl⟩
    exact ⟨_, _, _, rfl⟩
  cases r with
  | ok n w' =>
    cases n with
    | value v =>
      refine .inr ⟨fr.finish v, [], w', seen P fr.fn es, tame_finish hF v, by simp, by simp, seen_ok P _ _ (hev), hd, ht, fun k cs τ D hj => ?_⟩
      rw [h]
      unfold stepG.apply
      simp only [if_true, hl τ D hj, rtp, hk, Bool.false_eq_true, if_false, ext_finish k hne]
      simp [GStep.after, G, wof, ext]
    | skip =>
      refine .inr ⟨fr.finish undef, [], w', seen P fr.fn es, tame_finish hF undef, by simp, by simp, seen_ok P _ _ (hev), hd, ht, fun k cs τ D hj => ?_⟩
      rw [h]
      unfold stepG.apply
      simp only [if_true, hl τ D hj, rtp, hk, Bool.false_eq_true, if_false, ext_finish k hne]
      simp [GStep.after, G, wof, ext]
    | enter f args =>
      refine .inr ⟨fr, [Frame.enter P f args .normal], w', seen P fr.fn es, hF, ?_, fun _ => hne, seen_ok P _ _ (hev), hd, ht, fun k cs τ D hj => ?_⟩
      · intro c hc
        rw [List.mem_singleton] at hc
        subst hc
        exact tame_enter hS hr args
      rw [h]
      unfold stepG.apply
      simp only [if_true, hl τ D hj, rtp, hk, Bool.false_eq_true, if_false]
      simp only [GStep.after, G, wof, Array.append_empty]
      congr 1
      congr 1
      split
      · rename_i d r sv k e
        exact absurd e (hnc _ _ _ _ _ _)
      · rfl
    | _ => exact hr.elim
  | halt x w' =>
    cases x with
    | panic v =>
      refine .inr ⟨fr.raise [{ v, recovered := false }], [], w', seen P fr.fn es, tame_raise hF _, by simp, by simp, seen_ok P _ _ (hev), hd, ht, fun k cs τ D hj => ?_⟩
      rw [h]
      unfold stepG.apply
      simp only [if_true, hl τ D hj, rtp, hk, Bool.false_eq_true, if_false, ext_raise]
      simp [GStep.after, G, wof, ext]
    | unsupported u =>
      have hx : ∀ k cs, ∃ o w' es, stepG P main (G (ext k fr) cs) w = .ended o w' es := fun k cs => by
        rw [h]
        unfold stepG.apply
        simp only [if_true, e, hk, Bool.false_eq_true, if_false]
        refine hend _ _ ?_
        cases u <;> first | exact hE _ _ _ _ _ | exact ⟨_, _, _, rfl⟩
      exact .inl fun cs => ⟨hx _ cs, hx _ cs⟩
    | stuck t =>
      have hx : ∀ k cs, ∃ o w' es, stepG P main (G (ext k fr) cs) w = .ended o w' es := fun k cs => by
        rw [h]
        unfold stepG.apply
        simp only [if_true, e, hk, Bool.false_eq_true, if_false]
        exact hend _ _ ⟨_, _, _, rfl⟩
      exact .inl fun cs => ⟨hx _ cs, hx _ cs⟩
    | _ => exact hr.elim

theorem exitTo_app {id : Nat} : ∀ {k k' : List Item}, exitTo id k = some k' → ∀ k2, exitTo id (k ++ k2) = some (k' ++ k2) := by
  intro k
  induction k with
  | nil => intro k' h; simp [exitTo] at h
  | cons a k ih =>
    intro k' h k2
    cases a with
    | inBlock i =>
      simp only [exitTo, List.cons_append] at h ⊢
      split at h
      · injection h with h
        subst h
        rw [if_pos ‹_›]
      · rw [if_neg ‹_›]
        exact ih h k2
    | _ =>
      simp only [exitTo, List.cons_append] at h ⊢
      exact ih h k2
theorem exitTo_none {id : Nat} : ∀ {k k2 : List Item}, exitTo id k = none → exitTo id (k ++ k2) = exitTo id k2 := by
  intro k
  induction k with
  | nil => intro k2 _; rfl
  | cons a k ih =>
    intro k2 h
    cases a with
    | inBlock i =>
      simp only [exitTo, List.cons_append] at h ⊢
      split at h
      · cases h
      · rw [if_neg ‹_›]
        exact ih h
    | _ =>
      simp only [exitTo, List.cons_append] at h ⊢
      exact ih h

theorem run_base {P : Program} {S : FuncId → Bool} {main : Bool} (hS : Closed P S) (hE : NoEarly P) {fr : Frame} {w : World} (hF : TameF S fr) (hne : fr.todo ≠ []) (hm : fr.mode = .run) : StepB P S main fr w := by
  obtain ⟨fn, tmps, todo, defers, mode, kind, ro⟩ := fr
  obtain ⟨h1, h2, h3, h4⟩ := hF
  simp only at h1 h2 h3 h4 hm
  subst h2 h3 h4 hm
  have hF0 : TameF S ⟨fn, tmps, todo, [], .run, .normal, none⟩ := ⟨h1, rfl, rfl, rfl⟩
  have ended : (∀ k, (k = dead ∨ k = []) → ∀ cs, ∃ o w' es, stepG P main (G (ext k ⟨fn, tmps, todo, [], .run, .normal, none⟩) cs) w = .ended o w' es) → StepB P S main ⟨fn, tmps, todo, [], .run, .normal, none⟩ w := fun h => .inl fun cs => ⟨h dead (.inl rfl) cs, h [] (.inr rfl) cs⟩
  have to : ∀ td : List Item, (∀ x ∈ td, tameItem S x = true) → (∀ k cs w, stepG P main (G (ext k ⟨fn, tmps, todo, [], .run, .normal, none⟩) cs) w = .go (G (ext k ⟨fn, tmps, td, [], .run, .normal, none⟩) cs) w) →
      StepB P S main ⟨fn, tmps, todo, [], .run, .normal, none⟩ w := fun td ht h => silent_base ⟨ht, rfl, rfl, rfl⟩ h
  have leave : (∀ k cs w, stepG P main (G (ext k ⟨fn, tmps, todo, [], .run, .normal, none⟩) cs) w = .go (G (ext k ⟨fn, tmps, todo, [], .returning, .normal, none⟩) cs) w) →
      StepB P S main ⟨fn, tmps, todo, [], .run, .normal, none⟩ w := fun h => silent_base ⟨h1, rfl, rfl, rfl⟩ h
  cases todo with
  | nil => exact absurd rfl hne
  | cons x k =>
    have hk : ∀ y ∈ k, tameItem S y = true := fun y hy => h1 y (by simp [hy])
    have hx := h1 x (by simp)
    cases x with
    | code c =>
      cases c with
      | ret => exact leave fun k' cs w => by simp [G, stepG, stepG.exec, ext]
      | skip => exact to k hk fun k' cs w => by simp [G, stepG, stepG.exec, ext]
      | label l => exact to k hk fun k' cs w => by simp [G, stepG, stepG.exec, ext]
      | seq a b =>
        simp only [tameItem, tameCode, Bool.and_eq_true] at hx
        refine to (.code a :: .code b :: k) (fun y hy => ?_) fun k' cs w => by simp [G, stepG, stepG.exec, ext]
        simp only [List.mem_cons] at hy
        rcases hy with rfl | rfl | hy
        · exact hx.1
        · exact hx.2
        · exact hk y hy
      | cond c a b =>
        simp only [tameItem, tameCode, Bool.and_eq_true] at hx
        have hev0 : ∀ k', Frame.eval (ext k' ⟨fn, tmps, .code (.cond c a b) :: k, [], .run, .normal, none⟩) c = Frame.eval ⟨fn, tmps, .code (.cond c a b) :: k, [], .run, .normal, none⟩ c := fun k' => by cases c <;> rfl
        cases hc : Frame.eval ⟨fn, tmps, .code (.cond c a b) :: k, [], .run, .normal, none⟩ c with
        | bool t =>
          refine to (.code (if t then a else b) :: k) (fun y hy => ?_) fun k' cs w => by
            have hev := (hev0 k').trans hc
            simp only [ext, List.cons_append] at hev
            simp [G, stepG, stepG.exec, ext, hev]
          simp only [List.mem_cons] at hy
          rcases hy with rfl | hy
          · cases t
            · exact hx.2
            · exact hx.1
          · exact hk y hy
        | _ =>
          refine ended fun k' _ cs => ?_
          have hev := (hev0 k').trans hc
          simp only [ext, List.cons_append] at hev
          simp [G, stepG, stepG.exec, ext, hev]
      | block id b =>
        refine to (.code b :: .inBlock id :: k) (fun y hy => ?_) fun k' cs w => by simp [G, stepG, stepG.exec, ext]
        simp only [List.mem_cons] at hy
        rcases hy with rfl | rfl | hy
        · exact hx
        · rfl
        · exact hk y hy
      | loop b =>
        refine to (.code b :: .inLoop b :: k) (fun y hy => ?_) fun k' cs w => by simp [G, stepG, stepG.exec, ext]
        simp only [List.mem_cons] at hy
        rcases hy with rfl | rfl | hy
        · exact hx
        · exact hx
        · exact hk y hy
      | scope b =>
        refine to (.code b :: .inScope b :: k) (fun y hy => ?_) fun k' cs w => by simp [G, stepG, stepG.exec, ext]
        simp only [List.mem_cons] at hy
        rcases hy with rfl | rfl | hy
        · exact hx
        · exact hx
        · exact hk y hy
      | exit id =>
        cases he : exitTo id k with
        | some k' => exact to k' (exitTo_tame hk he) fun k'' cs w => by simp [G, stepG, stepG.exec, ext, exitTo_app he k'']
        | none =>
          refine ended fun k' hk' cs => ?_
          have he' : exitTo id (k ++ k') = none := by
            rcases hk' with rfl | rfl
            · rw [exitTo_none he]; rfl
            · simpa using he
          simp [G, stepG, stepG.exec, ext, he']
      | region id ops draw =>
        cases draw with
        | false =>
          refine to (.inRegion ops (List.range ops.size) :: k) (fun y hy => ?_) fun k' cs w => by simp [G, stepG, stepG.exec, ext]
          simp only [List.mem_cons] at hy
          rcases hy with rfl | hy
          · exact hx
          · exact hk y hy
        | true =>
          refine .inr ⟨⟨fn, tmps, .inRegion ops (Region.schedule (P.follows .mixedOrders) ops ((Question.order fn id).cut (w.tape w.drawn (.order fn id)))) :: k, [], .run, .normal, none⟩, [], { w with drawn := w.drawn + 1 }, #[], ⟨fun y hy => ?_, rfl, rfl, rfl⟩, by simp, by simp, by simp, by simp, rfl, fun k' cs τ D hj => ?_⟩
          · simp only [List.mem_cons] at hy
            rcases hy with rfl | hy
            · exact hx
            · exact hk y hy
          · have e0 : τ D = w.tape w.drawn := hj 0 (by simp)
            have e1 : ∀ q, (tp w τ D).tape (tp w τ D).drawn q = w.tape w.drawn q := fun q => congrFun e0 q
            have e2 : D + (w.drawn + 1 - w.drawn) = D + 1 := by omega
            simp only [G, ext, List.cons_append, stepG, stepG.exec, choose, Sem.run, Question.forced, e1, e2, Bool.not_true, Bool.false_eq_true, if_false]
            rfl
      | refuse why =>
        refine ended fun k' _ cs => ?_
        simp [G, stepG, stepG.exec, ext]
      | rangeFunc f p a b => simp [tameItem, tameCode] at hx
      | goto l => simp [tameItem, tameCode] at hx
    | inBlock id => exact to k hk fun k' cs w => by simp [G, stepG, stepG.exec, ext]
    | inScope b => exact to k hk fun k' cs w => by simp [G, stepG, stepG.exec, ext]
    | inLoop b =>
      refine to (.code b :: .inLoop b :: k) (fun y hy => ?_) fun k' cs w => by simp [G, stepG, stepG.exec, ext]
      simp only [List.mem_cons] at hy
      rcases hy with rfl | rfl | hy
      · exact hx
      · exact hx
      · exact hk y hy
    | inRegion ops is =>
      cases is with
      | nil => exact to k hk fun k' cs w => by simp [G, stepG, stepG.exec, ext]
      | cons i is =>
        by_cases hw : ((ops[i]?).map (Region.wanted · (yielded ops tmps))).getD false = true
        · cases ho : ops[i]? with
          | none => rw [ho] at hw; simp at hw
          | some o =>
            have hev : ∀ k', Frame.eval (ext k' ⟨fn, tmps, .inRegion ops (i :: is) :: k, [], .run, .normal, none⟩) = Frame.eval ⟨fn, tmps, .inRegion ops (i :: is) :: k, [], .run, .normal, none⟩ := fun k' => by funext x; cases x <;> rfl
            refine apply_base hS hE hF0 (by simp) (plain_exec hS (Frame.eval ⟨fn, tmps, .inRegion ops (i :: is) :: k, [], .run, .normal, none⟩) (fun _ => rfl) o (tameOps_at hx ho)) fun k' cs w => ?_
            rw [← hev k']
            rw [ho] at hw
            simp only [G, ext, List.cons_append, stepG, stepG.exec, ho, hw, if_true, stepG.oper, Frame.oper?]
        · refine silent_base (tame_finish hF0 undef) fun k' cs w => ?_
          rw [← ext_finish k' (by simp)]
          simp only [G, ext, List.cons_append, stepG, stepG.exec, hw]
          rfl
    | inRangeFunc l => simp [tameItem] at hx
    | endRangeFunc l => simp [tameItem] at hx
    | beginRound => simp [tameItem] at hx
    | call d b r s => simp [tameItem] at hx
    | extern r s => simp [tameItem] at hx

end Go.Proofs.Ytiikledbflgejaa
