/- Texts put together. -/
import Derived.Test.YtcdchieielpahaaMgE2
import Derived.Conc.Beside
import Derived.Conc.PipeGen
import Derived.Conc.CrowdComm
/- One step of a frame whose next items are plain, whatever items lie behind them; of a stack of frames the lowest of which is such a frame. -/
namespace Go.Proofs.Ytcdchieielpahaa
open Go.Conc

/-- more items behind -/
def ext (k : List Item) (fr : Frame) : Frame := { fr with todo := fr.todo ++ k }
theorem ext_nil (fr : Frame) : ext [] fr = fr := by unfold ext; simp
theorem ext_raise (k : List Item) (fr : Frame) (vs : List PanicEntry) : (ext k fr).raise vs = ext k (fr.raise vs) := by
  unfold Frame.raise ext
  dsimp only
  split <;> rfl
theorem ext_finish (k : List Item) {fr : Frame} (h : fr.todo ≠ []) (v : Value) : (ext k fr).finish v = ext k (fr.finish v) := by
  obtain ⟨fn, tmps, todo, defers, mode, kind, ro⟩ := fr
  cases todo with
  | nil => exact absurd rfl h
  | cons x l =>
    cases x with
    | inRegion ops is => cases is <;> rfl
    | _ => rfl

/-- a step of the top frame, whatever lies behind its items and below it -/
structure NextB (P : Program) (S : FuncId → Bool) (main : Bool) (fr : Frame) (w : World) (fr' : Frame) (up : List Frame) (w' : World) (es : Array Event) : Prop where
  tame : TameF S fr'
  tames : ∀ c ∈ up, TameF S c
  todo : up ≠ [] → fr'.todo ≠ []
  evs : ∀ e ∈ es, EvOk e
  drawn : w.drawn ≤ w'.drawn
  tape : w'.tape = w.tape
  go : ∀ (k : List Item) (cs : List Frame) (τ : Tp) (D : Nat), (∀ j, w.drawn + j < w'.drawn → τ (D + j) = w.tape (w.drawn + j)) →
    stepG P main (G (ext k fr) cs) (tp w τ D) = .go (match up with | [] => G (ext k fr') cs | f :: _ => G f (ext k fr' :: cs)) (tp w' τ (D + (w'.drawn - w.drawn))) es
/-- the items behind at which a run ends -/
def dead : List Item := [.code (.refuse "")]
def EndsB (P : Program) (main : Bool) (fr : Frame) (w : World) : Prop :=
  ∀ cs, (∃ o w' es, stepG P main (G (ext dead fr) cs) w = .ended o w' es) ∧ (∃ o w' es, stepG P main (G (ext [] fr) cs) w = .ended o w' es)
def StepB (P : Program) (S : FuncId → Bool) (main : Bool) (fr : Frame) (w : World) : Prop :=
  EndsB P main fr w ∨ ∃ fr' up w' es, NextB P S main fr w fr' up w' es

theorem silent_base {P : Program} {S : FuncId → Bool} {main : Bool} {fr fr' : Frame} {w : World} (ht : TameF S fr')
    (h : ∀ k cs w, stepG P main (G (ext k fr) cs) w = .go (G (ext k fr') cs) w) : StepB P S main fr w :=
  .inr ⟨fr', [], w, #[], ht, by simp, by simp, by simp, Nat.le_refl _, rfl, fun k cs τ D _ => by rw [h, Nat.sub_self]; rfl⟩

theorem apply_base {P : Program} {S : FuncId → Bool} {main : Bool} (hS : Closed P S) (hE : NoEarly P) {fr : Frame} {w : World} {s : Sem Next} (hF : TameF S fr) (hne : fr.todo ≠ []) (hs : Plain P S s)
    (h : ∀ k cs w, stepG P main (G (ext k fr) cs) w = stepG.apply P true (ext k fr) cs none s w) : StepB P S main fr w := by
  have hk : ∀ k, ((ext k fr).kind == CallKind.early) = false := fun k => by show (fr.kind == CallKind.early) = false; rw [hF.kind]; rfl
  have hnc : ∀ k0 d b r sv k, (ext k0 fr).todo ≠ .call d b r sv :: k := fun k0 d b r sv k e => by
    have e : fr.todo ++ k0 = .call d b r sv :: k := e
    cases hx : fr.todo with
    | nil => exact hne hx
    | cons x l =>
      rw [hx] at e
      injection e with e1 e2
      exact absurd (hF.items (.call d b r sv) (by rw [hx, e1]; simp)) (by simp [tameItem])
  rcases e : s.runT P w #[] with ⟨r, es⟩
  have hr := hs.res w #[]
  have hev := hs.evs w #[] (by simp)
  rw [e] at hr hev
  obtain ⟨hd, ht, hl⟩ := hs.loc w #[] r es e
  have hend : ∀ (x : GStep) (es : Array Event), (∃ o w' es', x = .ended o w' es') → ∃ o w' es', GStep.after es x = .ended o w' es' := by
    rintro _ es ⟨o, w', es', rfl⟩
    exact ⟨_, _, _, rfl⟩
  cases r with
  | ok n w' =>
    cases n with
    | value v =>
      refine .inr ⟨fr.finish v, [], w', seen P fr.fn es, tame_finish hF v, by simp, by simp, seen_ok P _ _ (hev), hd, ht, fun k cs τ D hj => ?_⟩
      rw [h]
      unfold stepG.apply
      simp only [if_true, hl τ D hj, rtp, hk, Bool.false_eq_true, if_false, ext_finish k hne]
      simp [GStep.after, G, wof, ext]
    | skip =>
      refine .inr ⟨fr.finish undef, [], w', seen P fr.fn es, tame_finish hF undef, by simp, by simp, seen_ok P _ _ (hev), hd, ht, fun k cs τ D hj => ?_⟩
      rw [h]
      unfold stepG.apply
      simp only [if_true, hl τ D hj, rtp, hk, Bool.false_eq_true, if_false, ext_finish k hne]
      simp [GStep.after, G, wof, ext]
    | enter f args =>
      refine .inr ⟨fr, [Frame.enter P f args .normal], w', seen P fr.fn es, hF, ?_, fun _ => hne, seen_ok P _ _ (hev), hd, ht, fun k cs τ D hj => ?_⟩
      · intro c hc
        rw [List.mem_singleton] at hc
        subst hc
        exact tame_enter hS hr args
      rw [h]
      unfold stepG.apply
      simp only [if_true, hl τ D hj, rtp, hk, Bool.false_eq_true, if_false]
      simp only [GStep.after, G, wof, Array.append_empty]
      congr 1
      congr 1
      split
      · rename_i d r sv k e
        exact absurd e (hnc _ _ _ _ _ _)
      · rfl
    | _ => exact hr.elim
  | halt x w' =>
    cases x with
    | panic v =>
      refine .inr ⟨fr.raise [{ v, recovered := false }], [], w', seen P fr.fn es, tame_raise hF _, by simp, by simp, seen_ok P _ _ (hev), hd, ht, fun k cs τ D hj => ?_⟩
      rw [h]
      unfold stepG.apply
      simp only [if_true, hl τ D hj, rtp, hk, Bool.false_eq_true, if_false, ext_raise]
      simp [GStep.after, G, wof, ext]
    | unsupported u =>
      have hx : ∀ k cs, ∃ o w' es, stepG P main (G (ext k fr) cs) w = .ended o w' es := fun k cs => by
        rw [h]
        unfold stepG.apply
        simp only [if_true, e, hk, Bool.false_eq_true, if_false]
        refine hend _ _ ?_
        cases u <;> first | exact hE _ _ _ _ _ | exact ⟨_, _, _, rfl⟩
      exact .inl fun cs => ⟨hx _ cs, hx _ cs⟩
    | stuck t =>
      have hx : ∀ k cs, ∃ o w' es, stepG P main (G (ext k fr) cs) w = .ended o w' es := fun k cs => by
        rw [h]
        unfold stepG.apply
        simp only [if_true, e, hk, Bool.false_eq_true, if_false]
        exact hend _ _ ⟨_, _, _, rfl⟩
      exact .inl fun cs => ⟨hx _ cs, hx _ cs⟩
    | _ => exact hr.elim

theorem exitTo_app {id : Nat} : ∀ {k k' : List Item}, exitTo id k = some k' → ∀ k2, exitTo id (k ++ k2) = some (k' ++ k2) := by
  intro k
  induction k with
  | nil => intro k' h; simp [exitTo] at h
  | cons a k ih =>
    intro k' h k2
    cases a with
    | inBlock i =>
      simp only [exitTo, List.cons_append] at h ⊢
      split at h
      · injection h with h
        subst h
        rw [if_pos ‹_›]
      · rw [if_neg ‹_›]
        exact ih h k2
    | _ =>
      simp only [exitTo, List.cons_append] at h ⊢
      exact ih h k2
theorem exitTo_none {id : Nat} : ∀ {k k2 : List Item}, exitTo id k = none → exitTo id (k ++ k2) = exitTo id k2 := by
  intro k
  induction k with
  | nil => intro k2 _; rfl
  | cons a k ih =>
    intro k2 h
    cases a with
    | inBlock i =>
      simp only [exitTo, List.cons_append] at h ⊢
      split at h
      · cases h
      · rw [if_neg ‹_›]
        exact ih h
    | _ =>
      simp only [exitTo, List.cons_append] at h ⊢
      exact ih h

theorem run_base {P : Program} {S : FuncId → Bool} {main : Bool} (hS : Closed P S) (hE : NoEarly P) {fr : Frame} {w : World} (hF : TameF S fr) (hne : fr.todo ≠ []) (hm : fr.mode = .run) : StepB P S main fr w := by
  obtain ⟨fn, tmps, todo, defers, mode, kind, ro⟩ := fr
  obtain ⟨h1, h2, h3, h4⟩ := hF
  simp only at h1 h2 h3 h4 hm
  subst h2 h3 h4 hm
  have hF0 : TameF S ⟨fn, tmps, todo, [], .run, .normal, none⟩ := ⟨h1, rfl, rfl, rfl⟩
  have ended : (∀ k, (k = dead ∨ k = []) → ∀ cs, ∃ o w' es, stepG P main (G (ext k ⟨fn, tmps, todo, [], .run, .normal, none⟩) cs) w = .ended o w' es) → StepB P S main ⟨fn, tmps, todo, [], .run, .normal, none⟩ w := fun h => .inl fun cs => ⟨h dead (.inl rfl) cs, h [] (.inr rfl) cs⟩
  have to : ∀ td : List Item, (∀ x ∈ td, tameItem S x = true) → (∀ k cs w, stepG P main (G (ext k ⟨fn, tmps, todo, [], .run, .normal, none⟩) cs) w = .go (G (ext k ⟨fn, tmps, td, [], .run, .normal, none⟩) cs) w) →
      StepB P S main ⟨fn, tmps, todo, [], .run, .normal, none⟩ w := fun td ht h => silent_base ⟨ht, rfl, rfl, rfl⟩ h
  have leave : (∀ k cs w, stepG P main (G (ext k ⟨fn, tmps, todo, [], .run, .normal, none⟩) cs) w = .go (G (ext k ⟨fn, tmps, todo, [], .returning, .normal, none⟩) cs) w) →
      StepB P S main ⟨fn, tmps, todo, [], .run, .normal, none⟩ w := fun h => silent_base ⟨h1, rfl, rfl, rfl⟩ h
  cases todo with
  | nil => exact absurd rfl hne
  | cons x k =>
    have hk : ∀ y ∈ k, tameItem S y = true := fun y hy => h1 y (by simp [hy])
    have hx := h1 x (by simp)
    cases x with
    | code c =>
      cases c with
      | ret => exact leave fun k' cs w => by simp [G, stepG, stepG.exec, ext]
      | skip => exact to k hk fun k' cs w => by simp [G, stepG, stepG.exec, ext]
      | label l => exact to k hk fun k' cs w => by simp [G, stepG, stepG.exec, ext]
      | seq a b =>
        simp only [tameItem, tameCode, Bool.and_eq_true] at hx
        refine to (.code a :: .code b :: k) (fun y hy => ?_) fun k' cs w => by simp [G, stepG, stepG.exec, ext]
        simp only [List.mem_cons] at hy
        rcases hy with rfl | rfl | hy
        · exact hx.1
        · exact hx.2
        · exact hk y hy
      | cond c a b =>
        simp only [tameItem, tameCode, Bool.and_eq_true] at hx
        have hev0 : ∀ k', Frame.eval (ext k' ⟨fn, tmps, .code (.cond c a b) :: k, [], .run, .normal, none⟩) c = Frame.eval ⟨fn, tmps, .code (.cond c a b) :: k, [], .run, .normal, none⟩ c := fun k' => by cases c <;> rfl
        cases hc : Frame.eval ⟨fn, tmps, .code (.cond c a b) :: k, [], .run, .normal, none⟩ c with
        | bool t =>
          refine to (.code (if t then a else b) :: k) (fun y hy => ?_) fun k' cs w => by
            have hev := (hev0 k').trans hc
            simp only [ext, List.cons_append] at hev
            simp [G, stepG, stepG.exec, ext, hev]
          simp only [List.mem_cons] at hy
          rcases hy with rfl | hy
          · cases t
            · exact hx.2
            · exact hx.1
          · exact hk y hy
        | _ =>
          refine ended fun k' _ cs => ?_
          have hev := (hev0 k').trans hc
          simp only [ext, List.cons_append] at hev
          simp [G, stepG, stepG.exec, ext, hev]
      | block id b =>
        refine to (.code b :: .inBlock id :: k) (fun y hy => ?_) fun k' cs w => by simp [G, stepG, stepG.exec, ext]
        simp only [List.mem_cons] at hy
        rcases hy with rfl | rfl | hy
        · exact hx
        · rfl
        · exact hk y hy
      | loop b =>
        refine to (.code b :: .inLoop b :: k) (fun y hy => ?_) fun k' cs w => by simp [G, stepG, stepG.exec, ext]
        simp only [List.mem_cons] at hy
        rcases hy with rfl | rfl | hy
        · exact hx
        · exact hx
        · exact hk y hy
      | scope b =>
        refine to (.code b :: .inScope b :: k) (fun y hy => ?_) fun k' cs w => by simp [G, stepG, stepG.exec, ext]
        simp only [List.mem_cons] at hy
        rcases hy with rfl | rfl | hy
        · exact hx
        · exact hx
        · exact hk y hy
      | exit id =>
        cases he : exitTo id k with
        | some k' => exact to k' (exitTo_tame hk he) fun k'' cs w => by simp [G, stepG, stepG.exec, ext, exitTo_app he k'']
        | none =>
          refine ended fun k' hk' cs => ?_
          have he' : exitTo id (k ++ k') = none := by
            rcases hk' with rfl | rfl
            · rw [exitTo_none he]; rfl
            · simpa using he
          simp [G, stepG, stepG.exec, ext, he']
      | region id ops draw =>
        cases draw with
        | false =>
          refine to (.inRegion ops (List.range ops.size) :: k) (fun y hy => ?_) fun k' cs w => by simp [G, stepG, stepG.exec, ext]
          simp only [List.mem_cons] at hy
          rcases hy with rfl | hy
          · exact hx
          · exact hk y hy
        | true =>
          refine .inr ⟨⟨fn, tmps, .inRegion ops (Region.schedule (P.follows .mixedOrders) ops ((Question.order fn id).cut (w.tape w.drawn (.order fn id)))) :: k, [], .run, .normal, none⟩, [], { w with drawn := w.drawn + 1 }, #[], ⟨fun y hy => ?_, rfl, rfl, rfl⟩, by simp, by simp, by simp, by simp, rfl, fun k' cs τ D hj => ?_⟩
          · simp only [List.mem_cons] at hy
            rcases hy with rfl | hy
            · exact hx
            · exact hk y hy
          · have e0 : τ D = w.tape w.drawn := hj 0 (by simp)
            have e1 : ∀ q, (tp w τ D).tape (tp w τ D).drawn q = w.tape w.drawn q := fun q => congrFun e0 q
            have e2 : D + (w.drawn + 1 - w.drawn) = D + 1 := by omega
            simp only [G, ext, List.cons_append, stepG, stepG.exec, choose, Sem.run, Question.forced, e1, e2, Bool.not_true, Bool.false_eq_true, if_false]
            rfl
      | refuse why =>
        refine ended fun k' _ cs => ?_
        simp [G, stepG, stepG.exec, ext]
      | rangeFunc f p a b => simp [tameItem, tameCode] at hx
      | goto l => simp [tameItem, tameCode] at hx
    | inBlock id => exact to k hk fun k' cs w => by simp [G, stepG, stepG.exec, ext]
    | inScope b => exact to k hk fun k' cs w => by simp [G, stepG, stepG.exec, ext]
    | inLoop b =>
      refine to (.code b :: .inLoop b :: k) (fun y hy => ?_) fun k' cs w => by simp [G, stepG, stepG.exec, ext]
      simp only [List.mem_cons] at hy
      rcases hy with rfl | rfl | hy
      · exact hx
      · exact hx
      · exact hk y hy
    | inRegion ops is =>
      cases is with
      | nil => exact to k hk fun k' cs w => by simp [G, stepG, stepG.exec, ext]
      | cons i is =>
        by_cases hw : ((ops[i]?).map (Region.wanted · (yielded ops tmps))).getD false = true
        · cases ho : ops[i]? with
          | none => rw [ho] at hw; simp at hw
          | some o =>
            have hev : ∀ k', Frame.eval (ext k' ⟨fn, tmps, .inRegion ops (i :: is) :: k, [], .run, .normal, none⟩) = Frame.eval ⟨fn, tmps, .inRegion ops (i :: is) :: k, [], .run, .normal, none⟩ := fun k' => by funext x; cases x <;> rfl
            refine apply_base hS hE hF0 (by simp) (plain_exec hS (Frame.eval ⟨fn, tmps, .inRegion ops (i :: is) :: k, [], .run, .normal, none⟩) (fun _ => rfl) o (tameOps_at hx ho)) fun k' cs w => ?_
            rw [← hev k']
            rw [ho] at hw
            simp only [G, ext, List.cons_append, stepG, stepG.exec, ho, hw, if_true, stepG.oper, Frame.oper?]
        · refine silent_base (tame_finish hF0 undef) fun k' cs w => ?_
          rw [← ext_finish k' (by simp)]
          simp only [G, ext, List.cons_append, stepG, stepG.exec, hw]
          rfl
    | inRangeFunc l => simp [tameItem] at hx
    | endRangeFunc l => simp [tameItem] at hx
    | beginRound => simp [tameItem] at hx
    | call d b r s => simp [tameItem] at hx
    | extern r s => simp [tameItem] at hx

end Go.Proofs.Ytcdchieielpahaa

/- A stack of plain frames, the lowest of which has more items behind its plain ones: alone, on every tape, it comes to the end of the plain ones (or to its return); then in company too. -/
namespace Go.Proofs.Ytcdchieielpahaa
open Go.Conc

def extL (k : List Item) : List Frame → List Frame
  | [] => []
  | [c] => [ext k c]
  | c :: d :: l => c :: extL k (d :: l)
/-- the goroutine of such a stack over the callers cs -/
def gl (k : List Item) (fr : Frame) (cs0 cs : List Frame) : Goroutine :=
  match cs0 with
  | [] => G (ext k fr) cs
  | c :: l => G fr (extL k (c :: l) ++ cs)
theorem gl_nil (k : List Item) (fr : Frame) (cs : List Frame) : gl k fr [] cs = G (ext k fr) cs := rfl
theorem gl_cons (k : List Item) (fr c : Frame) (l cs : List Frame) : gl k fr (c :: l) cs = G fr (extL k (c :: l) ++ cs) := rfl
theorem extL_length (k : List Item) : ∀ l, (extL k l).length = l.length
  | [] => rfl
  | [c] => rfl
  | c :: d :: l => by simp only [extL, List.length_cons, extL_length k (d :: l)]
theorem gl_running (k : List Item) (fr : Frame) (cs0 cs : List Frame) : (gl k fr cs0 cs).status = .running := by cases cs0 <;> rfl

structure TameL (S : FuncId → Bool) (fr : Frame) (cs0 : List Frame) : Prop where
  top : TameF S fr
  below : ∀ c ∈ cs0, TameF S c ∧ c.todo ≠ []
def MovesL (fr : Frame) (cs0 : List Frame) : Prop := cs0 = [] → fr.mode = .run ∧ fr.todo ≠ []

structure NextL (P : Program) (S : FuncId → Bool) (fr : Frame) (cs0 : List Frame) (w : World) (fr' : Frame) (cs0' : List Frame) (w' : World) (es : Array Event) : Prop where
  tame : TameL S fr' cs0'
  evs : ∀ e ∈ es, EvOk e
  drawn : w.drawn ≤ w'.drawn
  tape : w'.tape = w.tape
  go : ∀ (k : List Item) (cs : List Frame) (τ : Tp) (D : Nat), (∀ j, w.drawn + j < w'.drawn → τ (D + j) = w.tape (w.drawn + j)) →
    stepG P true (gl k fr cs0 cs) (tp w τ D) = .go (gl k fr' cs0' cs) (tp w' τ (D + (w'.drawn - w.drawn))) es
def EndsL (P : Program) (fr : Frame) (cs0 : List Frame) (w : World) : Prop := ∀ cs, ∃ o w' es, stepG P true (gl dead fr cs0 cs) w = .ended o w' es

/-- a frame on its way out -/
theorem unwind_top {P : Program} {S : FuncId → Bool} {fr : Frame} {w : World} (hF : TameF S fr) (hm : fr.mode ≠ .run) :
    (∀ c1 cs, ∃ o w' es, stepG P true (G fr (c1 :: cs)) w = .ended o w' es) ∨
    ∃ (φ : Frame → Frame) (w' : World) (es : Array Event), ((∃ ch, φ = fun c => c.raise ch) ∨ ∃ v, φ = fun c => c.finish v) ∧ (∀ e ∈ es, EvOk e) ∧ w.drawn ≤ w'.drawn ∧ w'.tape = w.tape ∧
      ∀ (c1 : Frame) (cs : List Frame) (τ : Tp) (D : Nat), (∀ j, w.drawn + j < w'.drawn → τ (D + j) = w.tape (w.drawn + j)) →
        stepG P true (G fr (c1 :: cs)) (tp w τ D) = .go (G (φ c1) cs) (tp w' τ (D + (w'.drawn - w.drawn))) es := by
  obtain ⟨fn, tmps, todo, defers, mode, kind, ro⟩ := fr
  obtain ⟨h1, h2, h3, h4⟩ := hF
  simp only at h1 h2 h3 h4 hm
  subst h2 h3 h4
  cases mode with
  | run => exact absurd rfl hm
  | panicking chain =>
    have hcat : Frame.catches P ⟨fn, tmps, todo, [], .panicking chain, .normal, none⟩ = false := by
      unfold Frame.catches
      split
      · rename_i d b r s k _ e
        exact absurd (h1 (.call d b r s) (by simp only at e; rw [e]; simp)) (by simp [tameItem])
      · rfl
    refine .inr ⟨fun c => c.raise chain, w, #[], .inl ⟨chain, rfl⟩, by simp, Nat.le_refl _, rfl, fun c1 cs τ D _ => ?_⟩
    rw [Nat.sub_self]
    simp [G, stepG, unwind, hcat]
  | returning =>
    cases hf : P.funcs[fn]? with
    | none =>
      refine .inr ⟨fun c => c.finish (tmps.getD 0 undef), w, #[], .inr ⟨_, rfl⟩, by simp, Nat.le_refl _, rfl, fun c1 cs τ D _ => ?_⟩
      rw [Nat.sub_self]
      simp [G, stepG, unwind, hf, doReturn]
    | some f =>
      have hmr := mild_results f tmps
      rcases e : (results f tmps).runT P w #[] with ⟨r, es⟩
      obtain ⟨hd, ht, hl⟩ := local_of_mild P _ hmr w #[] r es e
      have hev := mild_events P _ hmr w #[] (by simp)
      rw [e] at hev
      cases r with
      | ok v w' =>
        refine .inr ⟨fun c => c.finish v, w', seen P fn es, .inr ⟨_, rfl⟩, seen_ok P _ _ hev, hd, ht, fun c1 cs τ D hj => ?_⟩
        have el := hl τ D hj
        simp only [G, stepG, unwind, hf, el, rtp, doReturn]
        simp [GStep.after, wof]
      | halt x w' =>
        refine .inl fun c1 cs => ?_
        rcases mild_halts P _ hmr w #[] x w' es e with ⟨v, rfl⟩ | ⟨u, rfl⟩ | ⟨t, rfl⟩ <;> simp [G, stepG, unwind, hf, e, GStep.after, -Sem.runT_eq]

theorem step_L {P : Program} {S : FuncId → Bool} (hS : Closed P S) (hE : NoEarly P) {fr : Frame} {cs0 : List Frame} {w : World} (hT : TameL S fr cs0) (hm : MovesL fr cs0) :
    EndsL P fr cs0 w ∨ ∃ fr' cs0' w' es, NextL P S fr cs0 w fr' cs0' w' es := by
  cases cs0 with
  | nil =>
    obtain ⟨h1, h2⟩ := hm rfl
    rcases run_base (main := true) (w := w) hS hE hT.top h2 h1 with h | ⟨fr', up, w', es, h⟩
    · exact .inl fun cs => (h cs).1
    · cases up with
      | nil => exact .inr ⟨fr', [], w', es, ⟨h.tame, by simp⟩, h.evs, h.drawn, h.tape, fun k cs τ D hj => h.go k cs τ D hj⟩
      | cons f l => exact .inr ⟨f, [fr'], w', es, ⟨h.tames f (by simp), by simpa using ⟨h.tame, h.todo (by simp)⟩⟩, h.evs, h.drawn, h.tape, fun k cs τ D hj => h.go k cs τ D hj⟩
  | cons c rest =>
    by_cases h1 : fr.mode = .run
    · by_cases h2 : fr.todo = []
      · refine .inr ⟨{ fr with mode := .returning }, c :: rest, w, #[], ⟨⟨hT.top.items, hT.top.defers, hT.top.kind, hT.top.round⟩, hT.below⟩, by simp, Nat.le_refl _, rfl, fun k cs τ D _ => ?_⟩
        rw [Nat.sub_self, gl_cons, gl_cons]
        have hr := hT.top.round
        obtain ⟨fn, tmps, todo, defers, mode, kind, ro⟩ := fr
        simp only at h1 h2 hr
        subst h1 h2 hr
        simp [G, stepG, stepG.exec]
      · rcases run_base (main := true) (w := w) hS hE hT.top h2 h1 with h | ⟨fr', up, w', es, h⟩
        · refine .inl fun cs => ?_
          have := (h (extL dead (c :: rest) ++ cs)).2
          rw [ext_nil] at this
          exact this
        · cases up with
          | nil =>
            refine .inr ⟨fr', c :: rest, w', es, ⟨h.tame, hT.below⟩, h.evs, h.drawn, h.tape, fun k cs τ D hj => ?_⟩
            have := h.go [] (extL k (c :: rest) ++ cs) τ D hj
            rw [ext_nil, ext_nil] at this
            exact this
          | cons f l =>
            refine .inr ⟨f, fr' :: c :: rest, w', es, ⟨h.tames f (by simp), fun x hx => ?_⟩, h.evs, h.drawn, h.tape, fun k cs τ D hj => ?_⟩
            · rcases List.mem_cons.1 hx with rfl | hx
              · exact ⟨h.tame, h.todo (by simp)⟩
              · exact hT.below x hx
            · have := h.go [] (extL k (c :: rest) ++ cs) τ D hj
              rw [ext_nil, ext_nil] at this
              exact this
    · have hc := hT.below c (by simp)
      have hrest : ∀ x ∈ rest, TameF S x ∧ x.todo ≠ [] := fun x hx => hT.below x (by simp [hx])
      rcases unwind_top (P := P) (w := w) hT.top h1 with h | ⟨φ, w', es, hφ, he, hd, ht, hgo⟩
      · refine .inl fun cs => ?_
        rw [gl_cons]
        cases rest with
        | nil => exact h (ext dead c) cs
        | cons d l => exact h c (extL dead (d :: l) ++ cs)
      · have tφ : TameF S (φ c) := by
          rcases hφ with ⟨ch, rfl⟩ | ⟨v, rfl⟩
          · exact tame_raise hc.1 ch
          · exact tame_finish hc.1 v
        refine .inr ⟨φ c, rest, w', es, ⟨tφ, hrest⟩, he, hd, ht, fun k cs τ D hj => ?_⟩
        rw [gl_cons]
        cases rest with
        | nil =>
          have e : φ (ext k c) = ext k (φ c) := by
            rcases hφ with ⟨ch, rfl⟩ | ⟨v, rfl⟩
            · exact ext_raise k c ch
            · exact ext_finish k hc.2 v
          have := hgo (ext k c) cs τ D hj
          rw [e] at this
          exact this
        | cons d l => exact hgo c (extL k (d :: l) ++ cs) τ D hj

/-! ### alone -/
def DoneF (fr : Frame) : Prop := (fr.mode = .run ∧ fr.todo = dead) ∨ fr.mode = .returning
def ReturnsL (P : Program) (Q : Frame → World → Prop) (x : Pl) : Prop :=
  ∀ σ : Tp, ∃ (τ : Tp) (d : Nat) (fr' : Frame) (w' : World), (∀ j, τ (d + j) = σ j) ∧ Steps P (solo (gl dead x.fr x.cs [trap P, trap P]) (tp x.w τ d)) (solo (G fr' [trap P, trap P]) w') ∧ DoneF fr' ∧ Q fr' w'
def RelL (P : Program) (S : FuncId → Bool) (y x : Pl) : Prop := MovesL x.fr x.cs ∧ ∃ (τ : Tp) (d : Nat) (es : Array Event), NextL P S x.fr x.cs (tp x.w τ d) y.fr y.cs y.w es

section
variable {P : Program} {S : FuncId → Bool} {Q : Frame → World → Prop}

/-- a place that moves is not the end -/
theorem moves_not {fr fr' : Frame} {cs0 : List Frame} {w w' : World} (hm : MovesL fr cs0) (hd : DoneF fr') (e : solo (gl dead fr cs0 [trap P, trap P]) w = solo (G fr' [trap P, trap P]) w') : False := by
  cases cs0 with
  | nil =>
    obtain ⟨h1, h2⟩ := hm rfl
    obtain ⟨e1, _, _⟩ := solo_inj e
    subst e1
    rcases hd with ⟨_, hd⟩ | hd
    · have hd : fr.todo ++ dead = dead := hd
      have := congrArg List.length hd
      simp only [List.length_append] at this
      exact h2 (List.eq_nil_of_length_eq_zero (by omega))
    · have hd : fr.mode = .returning := hd
      rw [h1] at hd
      cases hd
  | cons c l =>
    obtain ⟨_, e2, _⟩ := solo_inj e
    have := congrArg List.length e2
    rw [List.length_append, extL_length] at this
    simp at this

theorem nextL_on {fr fr' : Frame} {cs cs' : List Frame} {w w' : World} {τ : Tp} {d : Nat} {es : Array Event} (h : NextL P S fr cs (tp w τ d) fr' cs' w' es) (τ' : Tp) (D : Nat) (ha : ∀ j, d + j < w'.drawn → τ' (D + j) = τ (d + j)) (cs1 : List Frame) :
    step P (solo (gl dead fr cs cs1) (tp w τ' D)) = .next (solo (gl dead fr' cs' cs1) (tp w' τ' (D + (w'.drawn - d)))) :=
  step_solo_go (gl_running _ _ _ _) (h.go dead cs1 τ' D ha)

theorem returnsL_next {x y : Pl} (hx : ReturnsL P Q x) (hm : MovesL x.fr x.cs) {τ : Tp} {d : Nat} {es : Array Event} (h : NextL P S x.fr x.cs (tp x.w τ d) y.fr y.cs y.w es) : ReturnsL P Q y := by
  intro σ
  have hd : d ≤ y.w.drawn := h.drawn
  obtain ⟨τ', D, fr', w', hj, hst, hl, hq⟩ := hx (fun j => if j < y.w.drawn - d then τ (d + j) else σ (j - (y.w.drawn - d)))
  refine ⟨τ', D + (y.w.drawn - d), fr', w', fun j => ?_, ?_, hl, hq⟩
  · rw [Nat.add_assoc, hj, if_neg (by omega)]
    congr 1
    omega
  · have hstep := nextL_on h τ' D (fun j hlt => by rw [hj, if_pos (by omega)]) [trap P, trap P]
    rcases steps_cases hst with e | ⟨m₁, h1, h2⟩
    · exact (moves_not hm hl e).elim
    · rw [hstep] at h1
      cases h1
      exact h2

theorem acc_of_returnsL {x : Pl} (hx : ReturnsL P Q x) : Acc (RelL P S) x := by
  apply Classical.byContradiction
  intro h
  have hnext : ∀ z : { x // ¬ Acc (RelL P S) x }, ∃ y : { x // ¬ Acc (RelL P S) x }, RelL P S y.1 z.1 := by
    intro z
    apply Classical.byContradiction
    intro hn
    apply z.2
    refine ⟨_, fun y hy => ?_⟩
    apply Classical.byContradiction
    intro hy'
    exact hn ⟨⟨y, hy'⟩, hy⟩
  obtain ⟨nx, hnx⟩ : ∃ nx : { x // ¬ Acc (RelL P S) x } → { x // ¬ Acc (RelL P S) x }, ∀ z, RelL P S (nx z).1 z.1 := ⟨fun z => Classical.choose (hnext z), fun z => Classical.choose_spec (hnext z)⟩
  let g : Nat → { x // ¬ Acc (RelL P S) x } := fun n => Nat.rec ⟨x, h⟩ (fun _ z => nx z) n
  have hg : ∀ n, RelL P S (g (n + 1)).1 (g n).1 := fun n => hnx (g n)
  have g0 : (g 0).1 = x := rfl
  generalize hf : (fun n => (g n).1) = f at *
  have hf' : ∀ n, (g n).1 = f n := fun n => congrFun hf n
  simp only [hf'] at hg g0
  clear hf hf' hnx hnext
  have hch : ∀ n, ∃ p : Tp × Nat × Array Event, NextL P S (f n).fr (f n).cs (tp (f n).w p.1 p.2.1) (f (n + 1)).fr (f (n + 1)).cs (f (n + 1)).w p.2.2 := fun n => by
    obtain ⟨_, τ, d, es, hn⟩ := hg n
    exact ⟨(τ, d, es), hn⟩
  obtain ⟨p, hp⟩ : ∃ p : Nat → Tp × Nat × Array Event, ∀ n, NextL P S (f n).fr (f n).cs (tp (f n).w (p n).1 (p n).2.1) (f (n + 1)).fr (f (n + 1)).cs (f (n + 1)).w (p n).2.2 := ⟨fun n => Classical.choose (hch n), fun n => Classical.choose_spec (hch n)⟩
  let A : Nat → Nat := fun n => Nat.rec 0 (fun n a => a + ((f (n + 1)).w.drawn - (p n).2.1)) n
  have hA : ∀ n, A (n + 1) = A n + ((f (n + 1)).w.drawn - (p n).2.1) := fun n => rfl
  have hA0 : A 0 = 0 := rfl
  generalize A = A at hA hA0
  have mono : ∀ n k, A n ≤ A (n + k) := by
    intro n k
    induction k with
    | zero => exact Nat.le_refl _
    | succ k ih =>
      have := hA (n + k)
      rw [← Nat.add_assoc]
      omega
  have uniq : ∀ n k m, A n ≤ m → m < A (n + 1) → A k ≤ m → m < A (k + 1) → n = k := by
    intro n k m h1 h2 h3 h4
    rcases Nat.lt_trichotomy n k with hlt | he | hlt
    · have := mono (n + 1) (k - (n + 1))
      rw [show n + 1 + (k - (n + 1)) = k by omega] at this
      omega
    · exact he
    · have := mono (k + 1) (n - (k + 1))
      rw [show k + 1 + (n - (k + 1)) = n by omega] at this
      omega
  obtain ⟨T, hT⟩ : ∃ T : Tp, ∀ n m, A n ≤ m → m < A (n + 1) → T m = (p n).1 ((p n).2.1 + (m - A n)) := by
    refine ⟨fun m => Classical.epsilon fun t => ∀ n, A n ≤ m → m < A (n + 1) → t = (p n).1 ((p n).2.1 + (m - A n)), fun n m h1 h2 => ?_⟩
    have := Classical.epsilon_spec (p := fun t => ∀ n, A n ≤ m → m < A (n + 1) → t = (p n).1 ((p n).2.1 + (m - A n)))
      ⟨(p n).1 ((p n).2.1 + (m - A n)), fun k h3 h4 => by rw [uniq n k m h1 h2 h3 h4]⟩
    exact this n h1 h2
  obtain ⟨τ0, D0, fr', w', hj, ⟨N, hN⟩, hl, hq⟩ := hx T
  have one : ∀ n, step P (solo (gl dead (f n).fr (f n).cs [trap P, trap P]) (tp (f n).w τ0 (D0 + A n))) = .next (solo (gl dead (f (n + 1)).fr (f (n + 1)).cs [trap P, trap P]) (tp (f (n + 1)).w τ0 (D0 + A (n + 1)))) := by
    intro n
    have := nextL_on (hp n) τ0 (D0 + A n) (fun j hlt => by
      rw [Nat.add_assoc, hj, hT n (A n + j) (by omega) (by rw [hA]; omega), Nat.add_sub_cancel_left]) [trap P, trap P]
    rw [this, hA, Nat.add_assoc]
  have many : ∀ n k, runN P n (solo (gl dead (f k).fr (f k).cs [trap P, trap P]) (tp (f k).w τ0 (D0 + A k))) = .next (solo (gl dead (f (k + n)).fr (f (k + n)).cs [trap P, trap P]) (tp (f (k + n)).w τ0 (D0 + A (k + n)))) := by
    intro n
    induction n with
    | zero => exact fun k => rfl
    | succ n ih =>
      intro k
      simp only [runN, one k, ih (k + 1)]
      rw [show k + 1 + n = k + (n + 1) by omega]
  have e := many N 0
  rw [hA0, g0, Nat.add_zero, hN, Nat.zero_add] at e
  injection e with e
  exact moves_not (hg N).1 hl e.symm

/-- behind its end the run ends -/
theorem ends_behindL {fr fr' : Frame} {w w' : World} (hF : TameF S fr) (hm : ¬ MovesL fr []) (h : Steps P (solo (gl dead fr [] [trap P, trap P]) w) (solo (G fr' [trap P, trap P]) w')) : ext dead fr = fr' ∧ w = w' := by
  rw [gl_nil] at h
  by_cases h1 : fr.mode = .run
  · have h2 : fr.todo = [] := Classical.byContradiction fun h2 => hm fun _ => ⟨h1, h2⟩
    rcases steps_cases h with e | ⟨m₁, h3, h4⟩
    · obtain ⟨e1, _, e3⟩ := solo_inj e
      exact ⟨e1, e3⟩
    · exfalso
      obtain ⟨o, w2, es, he⟩ : ∃ o w2 es, stepG P true (G (ext dead fr) [trap P, trap P]) w = .ended o w2 es := by
        obtain ⟨fn, tmps, todo, defers, mode, kind, ro⟩ := fr
        simp only at h1 h2
        subst h1 h2
        simp [G, ext, dead, stepG, stepG.exec]
      rw [step_solo_ended rfl he] at h3
      cases h3
  · -- on its way out
    have hFe : TameF S (ext dead fr) := ⟨fun x hx => by
      rcases List.mem_append.1 hx with hx | hx
      · exact hF.items x hx
      · simp [dead] at hx
        subst hx
        rfl, hF.defers, hF.kind, hF.round⟩
    exact ends_behind hFe h1 h

/-- the place at which it stops -/
def AtDone (Q : Frame → World → Prop) (k : List Item) (cs1 : List Frame) (g : Goroutine) (w : World) : Prop :=
  ∃ fr, g = G (ext k fr) cs1 ∧ DoneF (ext dead fr) ∧ Q (ext dead fr) w

theorem goesW_of_returnsL (hS : Closed P S) (hE : NoEarly P) (hQ : ∀ fr w τ d, Q fr w → Q fr (tp w τ d)) (k : List Item) (cs1 : List Frame) (x : Pl) (ht : TameL S x.fr x.cs) (hx : ReturnsL P Q x) :
    ∀ (τ : Tp) (d : Nat), GoesW P (AtDone Q k cs1) (gl k x.fr x.cs cs1) (tp x.w τ d) := by
  have hacc : Acc (RelL P S) x := acc_of_returnsL hx
  induction hacc with
  | intro x _ ih =>
    intro τ d0
    by_cases hm : MovesL x.fr x.cs
    · have key : ∀ d : Nat, ∃ (y : Pl) (w' : World) (es : Array Event), stepG P true (gl k x.fr x.cs cs1) ((tp x.w τ d0).at d) = .go (gl k y.fr y.cs cs1) w' es ∧ (∀ e ∈ es, EvOk e) ∧ GoesW P (AtDone Q k cs1) (gl k y.fr y.cs cs1) w' := by
        intro d
        obtain ⟨τ', D, fr', w', hj, hst, hl, hq⟩ := hx (fun j => τ (d + j))
        rcases step_L (w := tp x.w τ' D) hS hE ht hm with he | ⟨fr1, cs0, w1, es, hn⟩
        · exfalso
          obtain ⟨o, w2, es, he⟩ := he [trap P, trap P]
          rcases steps_cases hst with e | ⟨m₁, h1, h2⟩
          · exact moves_not hm hl e
          · rw [step_solo_ended (gl_running _ _ _ _) he] at h1
            cases h1
        · have hgo := hn.go k cs1 τ d (fun j _ => (hj j).symm)
          refine ⟨⟨fr1, cs0, w1⟩, _, es, hgo, hn.evs, ?_⟩
          exact ih ⟨fr1, cs0, w1⟩ ⟨hm, τ', D, es, hn⟩ hn.tame (returnsL_next (y := ⟨fr1, cs0, w1⟩) hx hm hn) τ _
      exact .step _ _ (gl_running _ _ _ _) (fun d => gl k (Classical.choose (key d)).fr (Classical.choose (key d)).cs cs1) (fun d => Classical.choose (Classical.choose_spec (key d))) (fun d => Classical.choose (Classical.choose_spec (Classical.choose_spec (key d))))
        (fun d => (Classical.choose_spec (Classical.choose_spec (Classical.choose_spec (key d)))).1) (fun d => (Classical.choose_spec (Classical.choose_spec (Classical.choose_spec (key d)))).2.1)
        (fun d => (Classical.choose_spec (Classical.choose_spec (Classical.choose_spec (key d)))).2.2)
    · have hcs : x.cs = [] := by
        apply Classical.byContradiction
        intro h
        exact hm fun e => absurd e h
      refine .stop _ _ fun d => ?_
      obtain ⟨τ', D, fr', w', hj, hst, hl, hq⟩ := hx (fun j => τ (d + j))
      rw [hcs] at hst hm
      obtain ⟨rfl, rfl⟩ := ends_behindL ht.top hm hst
      exact ⟨x.fr, by rw [hcs]; rfl, hl, hQ _ (tp x.w τ' D) τ d hq⟩
end
end Go.Proofs.Ytcdchieielpahaa

/- The machine carries out goroutine 0's well-founded walk beside goroutines that only leave, on whatever tape. -/
namespace Go.Proofs.Ytcdchieielpahaa
open Go.Conc
open Go.ConcN (sumTo upd sumTo_upd upd_ne upd_same)

def NoShun : Loc → Prop := fun _ => False

theorem low_some : ∀ x : MemAct, ∃ B, x.low B
  | .access ⟨l, _, _⟩ => by cases l <;> first | exact ⟨_, Nat.lt_succ_self _⟩ | exact ⟨0, trivial⟩
  | .mark m => by cases m <;> first | exact ⟨_, Nat.lt_succ_self _⟩ | exact ⟨0, trivial⟩
  | .go _ => ⟨0, trivial⟩
  | .start => ⟨0, trivial⟩
  | .send _ _ => ⟨_, Nat.lt_succ_self _⟩
  | .sendDone _ _ => ⟨_, Nat.lt_succ_self _⟩
  | .recv _ _ _ => ⟨_, Nat.lt_succ_self _⟩
  | .recvDone _ _ => ⟨_, Nat.lt_succ_self _⟩
  | .close _ => ⟨_, Nat.lt_succ_self _⟩
  | .recvClosed _ => ⟨_, Nat.lt_succ_self _⟩

theorem lows_some (es : Array Event) : ∃ B, ∀ e ∈ es, (MemAct.ofEvent e).low B := by
  obtain ⟨l⟩ := es
  induction l with
  | nil => exact ⟨0, by simp⟩
  | cons e l ih =>
    obtain ⟨B, hB⟩ := ih
    obtain ⟨C, hC⟩ := low_some (MemAct.ofEvent e)
    refine ⟨max B C, fun x hx => ?_⟩
    simp only [List.mem_toArray, List.mem_cons] at hx
    rcases hx with rfl | hx
    · exact MemAct.low_mono (Nat.le_max_right _ _) hC
    · exact MemAct.low_mono (Nat.le_max_left _ _) (hB x (by simpa using hx))

theorem evL_of {es : Array Event} {B : Nat} (h : ∀ e ∈ es, EvOk e) (hB : ∀ e ∈ es, (MemAct.ofEvent e).low B) : ∀ e ∈ es, EvL NoShun B e := by
  intro e he
  refine ⟨fun _ _ hs => hs.elim, fun hl => ?_, fun hl => ?_, hB e he⟩
  · have := h e he _ hl
    cases this
  · have := h e he _ hl
    cases this

/-- the trace so far, beside leavers -/
def Calm0 (t : Trace) : Prop := ∃ B, Past NoShun B t

theorem Calm0.own {t : Trace} (h : Calm0 t) {fn : FuncId} {pos : String} {es : Array Event} (hes : ∀ e ∈ es, EvOk e) : Calm0 (t ++ MemOp.ofEvents 0 fn pos es) := by
  obtain ⟨B, hP⟩ := h
  obtain ⟨C, hC⟩ := lows_some es
  exact ⟨max B C, (hP.mono (Nat.le_max_left _ _)).own (evL_of hes fun e he => MemAct.low_mono (Nat.le_max_right _ _) (hC e he))⟩
theorem Calm0.mute {t : Trace} (h : Calm0 t) {g : Nat} (hg : g ≠ 0) {fn : FuncId} {pos : String} {es : Array Event} (hm : ∀ e ∈ es, e.mute = true) : Calm0 (t ++ MemOp.ofEvents g fn pos es) := by
  obtain ⟨B, hP⟩ := h
  exact ⟨B, hP.mute hg hm⟩

theorem g_evs {g : Nat} {fn : FuncId} {pos : String} {es : Array Event} {op : MemOp} (h : op ∈ MemOp.ofEvents g fn pos es) : op.g = g := by
  rw [ofEvents_eq] at h
  obtain ⟨e, _, rfl⟩ := Array.mem_map.1 h
  rfl

section
variable {P : Program} {Stop : Goroutine → World → Prop}

theorem goesW_running {a : Goroutine} {w : World} (hst : ∀ g w, Stop g w → g.status = .running) (h : GoesW P Stop a w) : a.status = .running := by
  cases h with
  | stop _ _ h => exact hst _ _ (h 0)
  | step _ _ hs => exact hs

/-- what is reached -/
def Reach9 (P : Program) (Stop : Goroutine → World → Prop) (gs : Array Goroutine) (w : World) (sl : Option (Nat × Nat)) (t : Trace) : Prop :=
  ∃ (N : Nat) (gs' : Array Goroutine) (a' : Goroutine) (w' : World) (sl' : Option (Nat × Nat)) (t' : Trace) (q' : Nat → Nat),
    runNT P N (crowd gs w sl) t = (.next (crowd gs' w' sl'), t') ∧ gs'[0]? = some a' ∧ Stop a' w' ∧ Leavers P t' gs' q' ∧ Calm0 t'

/-- a step of goroutine 0's, of whatever make: the others may step before -/
theorem slip_then {a : Goroutine} {w : World} (hs : a.status = .running)
    (key : ∀ (gs : Array Goroutine) (d : Nat) (sl : Option (Nat × Nat)) (t : Trace) (q : Nat → Nat), gs[0]? = some a → Leavers P t gs q → Calm0 t → ∃ gs1 w1 sl1 ops, runT P (crowd gs (w.at d) sl) 0 = (.next (crowd gs1 w1 sl1), ops) ∧ Reach9 P Stop gs1 w1 sl1 (t ++ ops)) :
    ∀ (gs : Array Goroutine) (d0 : Nat) (sl : Option (Nat × Nat)) (t : Trace) (q : Nat → Nat), gs[0]? = some a → Leavers P t gs q → Calm0 t → Reach9 P Stop gs (w.at d0) sl t := by
  have inner : ∀ (M : Nat) (gs : Array Goroutine) (d0 : Nat) (sl : Option (Nat × Nat)) (t : Trace) (q : Nat → Nat), sumTo gs.size q < M → gs[0]? = some a → Leavers P t gs q → Calm0 t → Reach9 P Stop gs (w.at d0) sl t := by
    intro M
    induction M with
    | zero => exact fun gs d0 sl t q hM => absurd hM (Nat.not_lt_zero _)
    | succ M ihM =>
      intro gs d0 sl t q hM h0 hL hP
      have haw : ∀ g ∈ gs, awake g := by
        intro g hg
        obtain ⟨i, hi, rfl⟩ := Array.mem_iff_getElem.1 hg
        rcases Nat.eq_zero_or_pos i with rfl | hpos
        · have : gs[0] = a := by simpa [Array.getElem?_eq_getElem hi] using h0
          rw [this]; exact awake_of (.inl hs)
        · exact awake_of ((hL.old i _ hpos (Array.getElem?_eq_getElem hi)).status.elim .inl fun x => .inr (.inr x))
      obtain ⟨i, g, d, sl', hi, hg, hpk⟩ := crowd_pick (P := P) (w := w.at d0) (sl := sl) haw ⟨0, a, h0, hs⟩
      rcases Nat.eq_zero_or_pos i with rfl | hpos
      · obtain ⟨gs1, w1, sl1, ops, hr, N, gs', a'', w'', sl'', t', q', h1, h2, h3, h4, h5⟩ := key gs d sl' t q h0 hL hP
        exact ⟨N + 1, gs', a'', w'', sl'', t', q', by simp only [runNT, hpk.trans hr]; exact h1, h2, h3, h4, h5⟩
      · -- a leaver's step
        have hq := hL.old i g hpos hi
        have hi0 : (i == 0) = false := by simp; omega
        have hlt : i < gs.size := (Array.getElem?_eq_some_iff.1 hi).1
        cases hqi : q i with
        | zero => rw [hqi] at hq; rw [hq.1] at hg; cases hg
        | succ k =>
          rw [hqi] at hq
          rcases hq with ⟨hf, _⟩ | ⟨_, g', es', hm, hstp, hq'⟩
          · rw [hf] at hg; cases hg
          have hrunT := runT_crowd_go (P := P) (sl := sl') (i := i) hi (by rw [hi0]; exact hstp ((w.at d0).at d))
          have hsz : ((gs.map (woken P g g' ((w.at d0).at d))).setIfInBounds i g').size = gs.size := by simp
          have hsum : sumTo gs.size (upd q i k) + (k + 1) = sumTo gs.size q + k := by
            have := sumTo_upd q k id hlt
            simpa [hqi] using this
          obtain ⟨N, gs', a'', w'', sl'', t', q', hr, h0', hS, hL', hP'⟩ := ihM ((gs.map (woken P g g' ((w.at d0).at d))).setIfInBounds i g') d sl' (t ++ MemOp.ofEvents i g.frame.fn g.frame.place es') (upd q i k) (by rw [hsz]; omega)
            (by
              have hne : i ≠ 0 := by omega
              rw [Array.getElem?_setIfInBounds_ne hne, Array.getElem?_map, h0]
              simp [woken_run hs])
            ⟨fun j x hj hx => by
              by_cases hji : i = j
              · subst hji
                rw [Array.getElem?_setIfInBounds_self_of_lt (by simpa using hlt)] at hx
                obtain rfl := Option.some.inj hx
                rw [upd_same, Deaf_own]
                exact hq'
              · rw [Array.getElem?_setIfInBounds_ne hji, Array.getElem?_map] at hx
                obtain ⟨y, hy, rfl⟩ := Option.map_eq_some_iff.1 hx
                have hqj := hL.old j y hj hy
                rw [woken_quitsD hqj, upd_ne q k (Ne.symm hji), Deaf_other t hji _ (fun op hop => g_evs hop)]
                exact hqj, fun j hj => by
              rw [Deaf_other t (g' := i) (by simp at hj; omega) _ (fun op hop => g_evs hop)]
              exact hL.above j (by simpa using hj)⟩
            (hP.mute (by omega) hm)
          exact ⟨N + 1, gs', a'', w'', sl'', t', q', by simp only [runNT, hpk, hrunT]; exact hr, h0', hS, hL', hP'⟩
  exact fun gs d0 sl t q h0 hL hP => inner (sumTo gs.size q + 1) gs d0 sl t q (Nat.lt_succ_self _) h0 hL hP

theorem walk_w {a : Goroutine} {w : World} (hG : GoesW P Stop a w) :
    ∀ (gs : Array Goroutine) (d0 : Nat) (sl : Option (Nat × Nat)) (t : Trace) (q : Nat → Nat), gs[0]? = some a → Leavers P t gs q → Calm0 t → Reach9 P Stop gs (w.at d0) sl t := by
  induction hG with
  | stop a w h => exact fun gs d0 sl t q h0 hL hP => ⟨0, gs, a, w.at d0, sl, t, q, rfl, h0, h d0, hL, hP⟩
  | step a w hs ng nw es hgo hev h ih =>
    refine slip_then hs fun gs d sl t q h0 hL hP => ?_
    have hrunT := runT_crowd_go (P := P) (sl := sl) (i := 0) h0 (show stepG P (0 == 0) a (w.at d) = _ from hgo d)
    refine ⟨_, _, _, _, hrunT, ?_⟩
    have hlt : 0 < gs.size := (Array.getElem?_eq_some_iff.1 h0).1
    exact ih d ((gs.map (woken P a (ng d) (nw d))).setIfInBounds 0 (ng d)) (nw d).drawn sl (t ++ MemOp.ofEvents 0 a.frame.fn a.frame.place (es d)) q (by simp [hlt])
      ⟨fun j x hj hx => by
        have hne : 0 ≠ j := by omega
        rw [Array.getElem?_setIfInBounds_ne hne, Array.getElem?_map] at hx
        obtain ⟨y, hy, rfl⟩ := Option.map_eq_some_iff.1 hx
        have hq := hL.old j y hj hy
        rw [woken_quitsD hq, Deaf_other t (by omega) _ (fun op hop => g_evs hop)]
        exact hq, fun j hj => by
        rw [Deaf_other t (g' := 0) (by simp at hj; omega) _ (fun op hop => g_evs hop)]
        exact hL.above j (by simpa using hj)⟩
      (hP.own (hev d))
theorem reach_then {Stop' : Goroutine → World → Prop} {gs : Array Goroutine} {w : World} {sl : Option (Nat × Nat)} {t : Trace} (h : Reach9 P Stop gs w sl t)
    (h2 : ∀ (gs : Array Goroutine) (a : Goroutine) (w : World) (sl : Option (Nat × Nat)) (t : Trace) (q : Nat → Nat), gs[0]? = some a → Stop a w → Leavers P t gs q → Calm0 t → Reach9 P Stop' gs w sl t) : Reach9 P Stop' gs w sl t := by
  obtain ⟨N, gs1, a1, w1, sl1, t1, q1, r1, z1, s1, l1, c1⟩ := h
  obtain ⟨M, gs2, a2, w2, sl2, t2, q2, r2, z2, s2, l2, c2⟩ := h2 gs1 a1 w1 sl1 t1 q1 z1 s1 l1 c1
  exact ⟨N + M, gs2, a2, w2, sl2, t2, q2, by rw [runNT_add, r1]; exact r2, z2, s2, l2, c2⟩
end
end Go.Proofs.Ytcdchieielpahaa

/- Goroutine 0 receives from one goroutine that sends over a channel without a buffer and closes it, beside goroutines that only leave, on whatever tape: behind the last receive all others only leave. Condition: the sender touches no memory. -/
namespace Go.Proofs.Ytcdchieielpahaa
open Go.Conc
open Go.ConcN (sumTo upd sumTo_upd upd_ne upd_same)

/-! ### the trace -/
def Quiet (op : MemOp) : Prop := op.act ≠ .mark .disable ∧ op.act ≠ .mark .enable
theorem deaf_quiet (t : Trace) (g : Nat) : ∀ (u : List MemOp), (∀ op ∈ u, Quiet op) → Deaf (t ++ u.toArray) g = Deaf t g := by
  intro u hu
  rw [Deaf_append]
  generalize Deaf t g = d
  induction u generalizing d with
  | nil => rfl
  | cons y u ih =>
    rw [List.foldl_cons]
    have h := hu y (by simp)
    have e : deafStep g d y = d := by
      unfold deafStep
      split
      · rename_i hd; exact absurd hd h.1
      · rename_i hd; exact absurd hd h.2
      · rfl
    rw [e]
    exact ih (fun op hop => hu op (by simp [hop])) d
theorem deaf_quiet' (t u : Trace) (g : Nat) (h : ∀ op ∈ u, Quiet op) : Deaf (t ++ u) g = Deaf t g := by
  obtain ⟨l⟩ := u
  exact deaf_quiet t g l (by simpa using h)
theorem quiet_evs {g : Nat} {fn : FuncId} {pos : String} {es : Array Event} (h : ∀ e ∈ es, EvOk e) : ∀ op ∈ MemOp.ofEvents g fn pos es, Quiet op := by
  intro op hop
  rw [ofEvents_eq] at hop
  obtain ⟨e, he, rfl⟩ := Array.mem_map.1 hop
  have := h e he
  obtain ⟨loc, wr, sy⟩ := e
  cases loc with
  | mark m =>
    have hm := this m rfl
    subst hm
    constructor <;> (intro h; cases wr <;> cases sy <;> cases h)
  | _ => constructor <;> (intro h; cases wr <;> cases sy <;> cases h)
/-- operations of the channel's -/
theorem Calm0.one {t : Trace} (h : Calm0 t) (op : MemOp) (hn : op.act.touch? = none) (hq : Quiet op) : Calm0 (t ++ #[op]) := by
  obtain ⟨B, hP⟩ := h
  obtain ⟨C, hC⟩ := low_some op.act
  have hP' := hP.mono (Nat.le_max_left B C)
  have hl : ∀ x ∈ (#[op] : Trace), x.act.low (max B C) := by
    intro x hx
    simp at hx
    subst hx
    exact MemAct.low_mono (Nat.le_max_right _ _) hC
  refine ⟨max B C, ?_⟩
  by_cases h0 : op.g = 0
  · exact hP'.app0 (by simpa using h0) (by intro x hx b hb _; simp at hx; subst hx; rw [hn] at hb; cases hb) (deaf_quiet' t _ 0 (by simpa using hq)) hl
  · exact hP'.appMute h0 (by simp) (by simpa using hn) hl
theorem Calm0.comm {t : Trace} : ∀ (u : List MemOp), Calm0 t → (∀ op ∈ u, op.act.touch? = none ∧ Quiet op) → Calm0 (t ++ u.toArray) := by
  intro u
  induction u generalizing t with
  | nil => intro h _; simpa using h
  | cons y u ih =>
    intro h hu
    have e : t ++ (y :: u).toArray = (t ++ #[y]) ++ u.toArray := by simp
    rw [e]
    have hy := hu y (by simp)
    exact ih (h.one y hy.1 hy.2) fun op hop => hu op (by simp [hop])

/-! ### the machine -/
abbrev TT : World → Prop := fun _ => True
/-- what the receiver may write: cells -/
abbrev MM : Loc → Prop := fun l => ∃ a, l = .cell a
abbrev AllL : Loc → Prop := fun _ => True
theorem evOk_of {e : Event} (h : EvA MM e) : EvOk e := h.1
theorem none_evB {es : Array Event} (h : ∀ e ∈ es, EvB AllL e) : es = #[] := by
  apply Array.eq_empty_of_size_eq_zero
  apply Classical.byContradiction
  intro hne
  exact (h es[0] (Array.getElem_mem (by omega))).2.2 trivial

/-- no write of an object -/
def NoObj (op : MemOp) : Prop := ∀ b, op.act.touch? = some b → b.write = true → ∀ c, b.loc ≠ .obj c
theorem noObj_evs {g : Nat} {fn : FuncId} {pos : String} {es : Array Event} (h : ∀ e ∈ es, EvA MM e) : ∀ op ∈ MemOp.ofEvents g fn pos es, NoObj op := by
  intro op hop b hb hw c hc
  rw [ofEvents_eq] at hop
  obtain ⟨e, he, rfl⟩ := Array.mem_map.1 hop
  obtain ⟨h1, h2⟩ := ofEvent_touch (h e he).1 hb
  obtain ⟨a, ha⟩ := (h e he).2 (h2 ▸ hw)
  rw [h1, ha] at hc
  cases hc

/-- it stands at the close -/
def AtCloseC (P : Program) (c : Nat) (g : Goroutine) : Prop :=
  g.status = .running ∧ mayWake P g = true ∧ ∃ (g₂ : Goroutine) (n : Nat), (∀ w s r tm, w.heap[c]? = some (.chan 0 #[] false s r tm) → stepG P false g w = .go g₂ (w.shut c s r tm) #[⟨.obj c, false, true⟩, ⟨.obj c, true, true⟩]) ∧ QuitsIn P n g₂
/-- it sends these, and closes; it touches no memory -/
def SendsC (P : Program) (c : Nat) : List Value → Goroutine → Prop
  | [], g => ∃ n, Goes P false (fun _ _ => True) (DB AllL) (fun g₁ _ => AtCloseC P c g₁) n g default
  | v :: vs, g => ∃ n, Goes P false (fun _ _ => True) (DB AllL) (fun g₁ _ => AtSend P c TT AllL v (SendsC P c vs) g₁) n g default
def StopC (P : Program) (c : Nat) : List Value → Goroutine → World → Prop
  | [] => fun g₁ _ => AtCloseC P c g₁
  | v :: vs => fun g₁ _ => AtSend P c TT AllL v (SendsC P c vs) g₁
theorem sendsC_iff (P : Program) (c : Nat) (vs : List Value) (g : Goroutine) : SendsC P c vs g ↔ ∃ n, Goes P false (fun _ _ => True) (DB AllL) (StopC P c vs) n g default := by
  cases vs <;> exact Iff.rfl
theorem StopC.running {P : Program} {c : Nat} {vs : List Value} {g : Goroutine} {w : World} (h : StopC P c vs g w) : g.status = .running := by cases vs <;> exact h.1
def SitC (P : Program) (c : Nat) (vs : List Value) (rb : Nat) (b : Goroutine) : Prop :=
  (∃ n, rb = n + 1 ∧ Goes P false (fun _ _ => True) (DB AllL) (StopC P c vs) n b default) ∨
  (rb = 0 ∧ ∃ v vs' g₂ z', vs = v :: vs' ∧ b = parked g₂ #[scase c v z'] .send ∧ SendsC P c vs' (Conc.served g₂ undef))
theorem goesC_running {P : Program} {c : Nat} {vs : List Value} {n : Nat} {b : Goroutine} (h : Goes P false (fun _ _ => True) (DB AllL) (StopC P c vs) n b default) : b.status = .running :=
  Goes.running (R := fun _ _ => True) (fun _ _ => StopC.running) default trivial h
theorem SitC.status {P : Program} {c : Nat} {vs : List Value} {rb : Nat} {b : Goroutine} (h : SitC P c vs rb b) : (b.status = .running ∧ 0 < rb) ∨ (b.status = .blocked ∧ rb = 0) := by
  rcases h with ⟨n, e, hg⟩ | ⟨e, v, vs', g, z', _, rfl, _⟩
  · exact .inl ⟨goesC_running hg, by omega⟩
  · exact .inr ⟨rfl, e⟩
theorem SitC.woken {P : Program} {c : Nat} {vs : List Value} {rb : Nat} {b g g' : Goroutine} {w' : World} {s r : Nat} {tm : Bool} (h : SitC P c vs rb b) (hc : w'.heap[c]? = some (.chan 0 #[] false s r tm)) : Go.Conc.woken P g g' w' b = b := by
  unfold Go.Conc.woken
  split
  · rcases h with ⟨n, e, hg⟩ | ⟨e, v, vs', g, z', _, rfl, _⟩
    · exact again_running _ (.inl (goesC_running hg))
    · exact again_parked_open rfl hc
  · rfl

/-! ### the close, and until it is seen -/
/-- the sender, number j, has looked at the channel and closed it (positions p, p + 1); goroutine 0 has not seen that yet -/
structure Pend (c j : Nat) (t : Trace) (p : Nat) : Prop where
  j0 : j ≠ 0
  clean : ∀ said, ¬ Race said t
  known : ∀ i a, touchAt t i = some a → a.loc.isMemory = true → Knows t 0 i ∨ (i = p ∧ a = ⟨.obj c, false, .atomic⟩)
  over : ∀ i g, t.g? i = some g → g ≠ 0 → t.counts i → (∃ k, t.g? k = some 0 ∧ HappensBefore t i k) ∨ i = p
  hears : Deaf t 0 = 0
  low : ∃ B, ∀ op ∈ t, op.act.low B
  look : ∃ op, t[p]? = some op ∧ op.g = j
  shut : ∃ op, t[p + 1]? = some op ∧ op.g = j ∧ op.act = .close c
  heard : t.deaf j (p + 1) = 0

theorem heard_of {t : Trace} {i : Nat} {op : MemOp} (h : t[i]? = some op) (hd : t.deaf op.g i = 0) : t.heard i := ⟨op.g, by simp [Trace.g?, h], hd⟩

theorem Pend.new {t : Trace} {c j : Nat} (h : Calm0 t) (hj : j ≠ 0) (hd : Deaf t j = 0) (hk : ∀ i a, touchAt t i = some a → a.loc = .obj c → a.write = true → Knows t j i) (fn : FuncId) (pos : String) :
    Pend c j (t ++ MemOp.ofEvents j fn pos #[⟨.obj c, false, true⟩, ⟨.obj c, true, true⟩]) t.size := by
  obtain ⟨B, hP⟩ := h
  have e : MemOp.ofEvents j fn pos #[⟨.obj c, false, true⟩, ⟨.obj c, true, true⟩] = #[{ g := j, fn, pos, act := .access ⟨.obj c, false, true⟩ }, { g := j, fn, pos, act := .close c }] := by
    rw [ofEvents_eq]
    simp [MemAct.ofEvent]
  rw [e]
  have hu : ∀ op ∈ (#[{ g := j, fn, pos, act := .access ⟨.obj c, false, true⟩ }, { g := j, fn, pos, act := .close c }] : Trace), op.g = j := by simp
  have hq : ∀ op ∈ (#[{ g := j, fn, pos, act := .access ⟨.obj c, false, true⟩ }, { g := j, fn, pos, act := .close c }] : Trace), Quiet op := by simp [Quiet]
  have g1 : (t ++ #[({ g := j, fn, pos, act := .access ⟨.obj c, false, true⟩ } : MemOp), { g := j, fn, pos, act := .close c }])[t.size]? = some { g := j, fn, pos, act := .access ⟨.obj c, false, true⟩ } := by
    rw [Array.getElem?_append_right (Nat.le_refl _)]; simp
  have g2 : (t ++ #[({ g := j, fn, pos, act := .access ⟨.obj c, false, true⟩ } : MemOp), { g := j, fn, pos, act := .close c }])[t.size + 1]? = some { g := j, fn, pos, act := .close c } := by
    rw [Array.getElem?_append_right (Nat.le_succ _)]; simp
  refine ⟨hj, fun said => noRace_append (hP.clean said) hu fun i a ha op hop b hb hc => ?_, fun i a ha hm => ?_, fun i g hg hne hcn => ?_, ?_, ⟨max B (c + 1), fun op hop => ?_⟩, ⟨_, g1, rfl⟩, ⟨_, g2, rfl, rfl⟩, ?_⟩
  · simp only [List.mem_toArray, List.mem_cons, List.not_mem_nil, or_false] at hop
    rcases hop with rfl | rfl
    · simp only [MemAct.touch?, if_true, Option.some.injEq] at hb
      subst hb
      obtain ⟨c1, _, c3, _⟩ := hc
      rcases c3 with c3 | c3
      · exact hk i a ha c1 c3
      · cases c3
    · cases hb
  · obtain ⟨x, hx, hxa⟩ := touch_of ha
    rcases getElem?_append_cases hx with ⟨_, hx'⟩ | ⟨hge, hxu⟩
    · rcases hP.known i a (by rw [touchAt_of hx']; exact hxa) hm with h | ⟨h, _⟩
      · exact .inl (h.app _)
      · exact h.elim
    · by_cases hi : i = t.size
      · subst hi
        rw [g1] at hx
        injection hx with hx
        subst hx
        simp only [MemAct.touch?, if_true, Option.some.injEq] at hxa
        exact .inr ⟨rfl, hxa.symm⟩
      · have hlt := lt_size_of_getElem? hx
        simp at hlt
        have : i = t.size + 1 := by omega
        subst this
        rw [g2] at hx
        injection hx with hx
        subst hx
        cases hxa
  · by_cases hi : i < t.size
    · obtain ⟨x, hx, hm⟩ := hcn
      obtain ⟨op, hop, hox⟩ := touch_of hx
      have hop' : t[i]? = some op := by rw [getElem?_append_old hi] at hop; exact hop
      obtain ⟨k, hk1, hk2⟩ := hP.over i g (by simpa [Trace.g?, getElem?_append_old hi] using hg) hne ⟨x, by simp [Trace.act?, hop', hox], hm.1, hm.2.imp id fun hh => (heard_old hi).1 hh⟩
      have hkl : k < t.size := by
        unfold Trace.g? at hk1
        obtain ⟨z, hz, _⟩ := Option.map_eq_some_iff.1 hk1
        exact lt_size_of_getElem? hz
      exact .inl ⟨k, by simpa [Trace.g?, getElem?_append_old hkl] using hk1, hb_app _ hk2⟩
    · by_cases hi2 : i = t.size
      · exact .inr hi2
      · exfalso
        obtain ⟨x, hx, _⟩ := hcn
        obtain ⟨op, hop, hox⟩ := touch_of hx
        have hlt := lt_size_of_getElem? hop
        simp at hlt
        have : i = t.size + 1 := by omega
        subst this
        rw [g2] at hop
        injection hop with hop
        subst hop
        cases hox
  · rw [deaf_quiet' _ _ _ hq]; exact hP.hears
  · rcases Array.mem_append.1 hop with h | h
    · exact MemAct.low_mono (Nat.le_max_left _ _) (hP.seen op h)
    · simp only [List.mem_toArray, List.mem_cons, List.not_mem_nil, or_false] at h
      rcases h with rfl | rfl
      · exact Nat.lt_of_lt_of_le (Nat.lt_succ_self c) (Nat.le_max_right _ _)
      · exact Nat.lt_of_lt_of_le (Nat.lt_succ_self c) (Nat.le_max_right _ _)
  · rw [deaf_succ g1, deaf_old (Nat.le_refl _)]
    exact hd

theorem Pend.grow {t u : Trace} {c j p g : Nat} (h : Pend c j t p) (hu : ∀ op ∈ u, op.g = g) (hg : (g = 0 ∧ ∀ op ∈ u, NoObj op) ∨ ∀ op ∈ u, op.act.touch? = none) (hq : Deaf (t ++ u) 0 = Deaf t 0) (hlow : ∃ B, ∀ op ∈ u, op.act.low B) : Pend c j (t ++ u) p := by
  obtain ⟨lk, hlk, hlkg⟩ := h.look
  obtain ⟨sh, hsh, hshg, hsha⟩ := h.shut
  obtain ⟨B, hB⟩ := h.low
  obtain ⟨C, hC⟩ := hlow
  have hps := lt_size_of_getElem? hsh
  refine ⟨h.j0, fun said => noRace_append (h.clean said) hu fun i a ha op hop b hb hc => ?_, fun i a ha hm => ?_, fun i x hx hne hcn => ?_, hq.trans h.hears, ⟨max B C, fun op hop => ?_⟩, ⟨lk, by rw [getElem?_append_old (by omega)]; exact hlk, hlkg⟩, ⟨sh, by rw [getElem?_append_old hps]; exact hsh, hshg, hsha⟩, by rw [deaf_old (by omega)]; exact h.heard⟩
  · rcases hg with ⟨hg0, hno⟩ | hn
    · subst hg0
      rcases h.known i a ha hc.2.1 with hk | ⟨_, ha'⟩
      · exact hk
      · exfalso
        obtain ⟨c1, _, c3, _⟩ := hc
        subst ha'
        rcases c3 with c3 | c3
        · cases c3
        · exact hno op hop b hb c3 c c1.symm
    · rw [hn op hop] at hb; cases hb
  · obtain ⟨y, hy, hya⟩ := touch_of ha
    rcases getElem?_append_cases hy with ⟨_, hy'⟩ | ⟨_, hyu⟩
    · exact (h.known i a (by rw [touchAt_of hy']; exact hya) hm).imp (·.app u) id
    · rcases hg with ⟨hg0, _⟩ | hn
      · have := knows_own hy
        rw [hu y hyu, hg0] at this
        exact .inl this
      · rw [hn y hyu] at hya; cases hya
  · by_cases hi : i < t.size
    · obtain ⟨y, hy, hm⟩ := hcn
      obtain ⟨op, hop, hox⟩ := touch_of hy
      have hop' : t[i]? = some op := by rw [getElem?_append_old hi] at hop; exact hop
      rcases h.over i x (by simpa [Trace.g?, getElem?_append_old hi] using hx) hne ⟨y, by simp [Trace.act?, hop', hox], hm.1, hm.2.imp id fun hh => (heard_old hi).1 hh⟩ with ⟨k, hk1, hk2⟩ | h'
      · have hkl : k < t.size := by
          unfold Trace.g? at hk1
          obtain ⟨z, hz, _⟩ := Option.map_eq_some_iff.1 hk1
          exact lt_size_of_getElem? hz
        exact .inl ⟨k, by simpa [Trace.g?, getElem?_append_old hkl] using hk1, hb_app _ hk2⟩
      · exact .inr h'
    · exfalso
      obtain ⟨y, hy, _⟩ := hcn
      obtain ⟨op, hop, hox⟩ := touch_of hy
      rcases getElem?_append_cases hop with ⟨h', _⟩ | ⟨_, hou⟩
      · exact hi h'
      · rcases hg with ⟨hg0, _⟩ | hn
        · have : x = 0 := by
            have e : op.g = x := by simpa [Trace.g?, hop] using hx
            rw [← e, hu op hou, hg0]
          exact hne this
        · rw [hn op hou] at hox; cases hox
  · rcases Array.mem_append.1 hop with h' | h'
    · exact MemAct.low_mono (Nat.le_max_left _ _) (hB op h')
    · exact MemAct.low_mono (Nat.le_max_right _ _) (hC op h')

/-- goroutine 0 has seen that the channel is closed -/
theorem Pend.done {t : Trace} {c j p : Nat} (h : Pend c j t p) (fn : FuncId) (pos : String) : Calm0 (t ++ #[{ g := 0, fn, pos, act := .recvClosed c }]) := by
  have hP := h.grow (u := #[{ g := 0, fn, pos, act := .recvClosed c }]) (g := 0) (by simp) (.inr (by simp [MemAct.touch?])) (deaf_quiet' _ _ _ (by simp [Quiet])) ⟨c + 1, by simp [MemAct.low]⟩
  have hlast : (t ++ #[({ g := 0, fn, pos, act := .recvClosed c } : MemOp)])[t.size]? = some { g := 0, fn, pos, act := .recvClosed c } := by
    rw [Array.getElem?_append_right (Nat.le_refl _)]; simp
  obtain ⟨lk, hlk, hlkg⟩ := hP.look
  obtain ⟨sh, hsh, hshg, hsha⟩ := hP.shut
  obtain ⟨B, hB⟩ := hP.low
  have hb1 : HappensBefore (t ++ #[({ g := 0, fn, pos, act := .recvClosed c } : MemOp)]) p (p + 1) := hb_po (Nat.lt_succ_self p) hlk hsh (by rw [hlkg, hshg])
  have hb2 : HappensBefore (t ++ #[({ g := 0, fn, pos, act := .recvClosed c } : MemOp)]) (p + 1) t.size :=
    .single (.inr ⟨.closed (c := c) (by rw [act?_of hsh, hsha]) (by rw [act?_of hlast]), heard_of hsh (by rw [hshg]; exact hP.heard), heard_of hlast (by rw [deaf_old (Nat.le_refl _)]; exact h.hears)⟩)
  have hb := hb1.trans hb2
  refine ⟨B, hP.clean, fun i a ha hm => ?_, fun i g hg hne hcn => ?_, hP.hears, hB⟩
  · rcases hP.known i a ha hm with h' | ⟨rfl, _⟩
    · exact .inl h'
    · exact .inl ⟨t.size, _, hlast, rfl, .inr hb⟩
  · rcases hP.over i g hg hne hcn with h' | rfl
    · exact h'
    · exact ⟨t.size, by simp [Trace.g?], hb⟩

theorem lows_evs {g : Nat} {fn : FuncId} {pos : String} (es : Array Event) : ∃ B, ∀ op ∈ MemOp.ofEvents g fn pos es, op.act.low B := by
  obtain ⟨B, hB⟩ := lows_some es
  refine ⟨B, fun op hop => ?_⟩
  rw [ofEvents_eq] at hop
  obtain ⟨e, he, rfl⟩ := Array.mem_map.1 hop
  exact hB e he
theorem Pend.own {t : Trace} {c j p : Nat} (h : Pend c j t p) {fn : FuncId} {pos : String} {es : Array Event} (hes : ∀ e ∈ es, EvA MM e) : Pend c j (t ++ MemOp.ofEvents 0 fn pos es) p :=
  h.grow (g := 0) (fun _ hop => g_evs hop) (.inl ⟨rfl, noObj_evs hes⟩) (deaf_quiet' _ _ _ (quiet_evs fun e he => evOk_of (hes e he))) (lows_evs es)
theorem Pend.mute {t : Trace} {c j p g : Nat} (h : Pend c j t p) (hg : g ≠ 0) {fn : FuncId} {pos : String} {es : Array Event} (hm : ∀ e ∈ es, e.mute = true) : Pend c j (t ++ MemOp.ofEvents g fn pos es) p :=
  h.grow (g := g) (fun _ hop => g_evs hop) (.inr fun _ hop => by
    rw [ofEvents_eq] at hop
    obtain ⟨e, he, rfl⟩ := Array.mem_map.1 hop
    exact touch_mute (hm e he)) (Deaf_other t hg _ (fun _ hop => g_evs hop)) (lows_evs es)

section
variable {P : Program} {Stop : Goroutine → World → Prop}

theorem reach_step {gs gs1 : Array Goroutine} {w w1 : World} {sl sl1 : Option (Nat × Nat)} {t ops : Trace} (h : stepT P (crowd gs w sl) = (.next (crowd gs1 w1 sl1), ops)) (hr : Reach9 P Stop gs1 w1 sl1 (t ++ ops)) : Reach9 P Stop gs w sl t := by
  obtain ⟨N, gs', a', w', sl', t', q', h1, h2, h3, h4, h5⟩ := hr
  exact ⟨N + 1, gs', a', w', sl', t', q', by simp only [runNT, h]; exact h1, h2, h3, h4, h5⟩

theorem awake_q {g : Goroutine} {n d : Nat} (h : QuitsD P n d g) : awake g := awake_of (h.status.elim .inl fun x => .inr (.inr x))

/-- the one that sends is number j; all others but goroutine 0 only leave -/
structure Pair (P : Program) (c : Nat) (gs : Array Goroutine) (j : Nat) (a b : Goroutine) (t : Trace) (q : Nat → Nat) : Prop where
  zero : gs[0]? = some a
  j0 : 0 < j
  child : gs[j]? = some b
  old : ∀ i g, 0 < i → i ≠ j → gs[i]? = some g → QuitsD P (q i) (Deaf t i) g
  hears : Deaf t j = 0
  above : ∀ i, gs.size ≤ i → Deaf t i = 0
  knows : ∀ i a, touchAt t i = some a → a.loc = .obj c → a.write = true → Knows t j i

theorem Pair.lt {c : Nat} {gs : Array Goroutine} {j : Nat} {a b : Goroutine} {t : Trace} {q : Nat → Nat} (h : Pair P c gs j a b t q) : 0 < gs.size ∧ j < gs.size :=
  ⟨(Array.getElem?_eq_some_iff.1 h.zero).1, (Array.getElem?_eq_some_iff.1 h.child).1⟩
theorem Pair.awakes {c : Nat} {gs : Array Goroutine} {j : Nat} {a b : Goroutine} {t : Trace} {q : Nat → Nat} (h : Pair P c gs j a b t q) (ha : awake a) (hb : awake b) : ∀ g ∈ gs, awake g := by
  intro g hg
  obtain ⟨i, hi, rfl⟩ := Array.mem_iff_getElem.1 hg
  have hi' := Array.getElem?_eq_getElem hi
  by_cases h0 : i = 0
  · subst h0
    have e := hi'.symm.trans h.zero
    injection e with e
    rw [e]; exact ha
  · by_cases hj : i = j
    · subst hj
      have e := hi'.symm.trans h.child
      injection e with e
      rw [e]; exact hb
    · exact awake_q (h.old i _ (by omega) hj hi')

/-- goroutine 0's place and the sender's are laid anew, the others stand; the trace grows by operations that turn nobody's hearing -/
theorem Pair.turn {c : Nat} {gs gs1 : Array Goroutine} {j : Nat} {a b a1 b1 : Goroutine} {t u : Trace} {q : Nat → Nat} (h : Pair P c gs j a b t q) (h0 : gs1[0]? = some a1) (hj : gs1[j]? = some b1) (hs : gs1.size = gs.size)
    (ho : ∀ i g, 0 < i → i ≠ j → gs1[i]? = some g → gs[i]? = some g) (hu : ∀ op ∈ u, Quiet op) (hn : ∀ op ∈ u, NoObj op) : Pair P c gs1 j a1 b1 (t ++ u) q :=
  ⟨h0, h.j0, hj, fun i g hi hne hg => by rw [deaf_quiet' t u i hu]; exact h.old i g hi hne (ho i g hi hne hg), by rw [deaf_quiet' t u j hu]; exact h.hears, fun i hi => by rw [deaf_quiet' t u i hu]; exact h.above i (hs ▸ hi), fun i x hx hl hw => by
    obtain ⟨op, hop, hox⟩ := touch_of hx
    rcases getElem?_append_cases hop with ⟨_, hop'⟩ | ⟨_, hou⟩
    · exact (h.knows i x (by rw [touchAt_of hop']; exact hox) hl hw).app u
    · exact absurd hl (hn op hou x hox hw c)⟩

theorem not_blocked_q {g : Goroutine} {n d : Nat} (h : QuitsD P n d g) : g.status ≠ .blocked := by
  rcases h.status with h | h <;> rw [h] <;> simp

variable {c : Nat} {z : Value} {Fin : Goroutine → World → Prop}

/-- the channel is closed -/
theorem phase_shut {s r : Nat} {tm : Bool} {j : Nat} : ∀ (M n : Nat) (gs : Array Goroutine) (a : Goroutine) (w : World) (sl : Option (Nat × Nat)) (t : Trace) (q : Nat → Nat) (p : Nat), n + sumTo gs.size q < M → gs[0]? = some a → Leavers P t gs q → Pend c j t p →
    w.heap[c]? = some (.chan 0 #[] true s r tm) → Goes P true (Aside c) (DA c TT MM) (StopA P c TT MM z Fin []) n a w → Reach9 P Fin gs w sl t := by
  intro M
  induction M with
  | zero => exact fun n gs a w sl t q p hM => absurd hM (Nat.not_lt_zero _)
  | succ M ih =>
    intro n gs a w sl t q p hM h0 hL hP hc hG
    have hs : a.status = .running := hG.running (fun _ _ => StopA.running) w (Aside.refl c w)
    have haw : ∀ g ∈ gs, awake g := by
      intro g hg
      obtain ⟨i, hi, rfl⟩ := Array.mem_iff_getElem.1 hg
      rcases Nat.eq_zero_or_pos i with rfl | hpos
      · have : gs[0] = a := by simpa [Array.getElem?_eq_getElem hi] using h0
        rw [this]; exact awake_of (.inl hs)
      · exact awake_q (hL.old i _ hpos (Array.getElem?_eq_getElem hi))
    obtain ⟨i, g, d, sl', hi, hg, hpk⟩ := crowd_pick (P := P) (w := w) (sl := sl) haw ⟨0, a, h0, hs⟩
    have hAs : Aside c w (w.at d) := Aside.at c w d
    have hc1 : (w.at d).heap[c]? = some (.chan 0 #[] true s r tm) := hc
    have hlt : 0 < gs.size := (Array.getElem?_eq_some_iff.1 h0).1
    rcases Nat.eq_zero_or_pos i with rfl | hpos
    · obtain rfl : g = a := by rw [h0] at hi; exact (Option.some.inj hi).symm
      rcases hG.cases with hstop | ⟨n', rfl, hstep⟩
      · have hat := hstop _ hAs
        obtain ⟨es, hcomm, hes⟩ := hat.comm
        have hes' : ∀ e ∈ es, EvOk e := fun e he => evOk_of (hes e he)
        have hpart : partners (gs.setIfInBounds 0 ph) c true = [] := by
          refine partners_nil fun i g hi => ?_
          rcases getElem?_stand gs 0 i g hi with ⟨_, rfl⟩ | ⟨hne, hi'⟩
          · exact offersAt_ph _ _
          · exact offersAt_of_not_blocked (not_blocked_q (hL.old i g (by omega) hi')) _ _
        have hrun := crowd_recv_closed (sl := sl') (i := 0) h0 (show stepG P (0 == 0) g (w.at d) = _ from hcomm) hc1 hpart
        rw [finishComm_recv] at hrun
        refine reach_step (hpk.trans hrun) ⟨0, _, _, _, _, _, q, rfl, ?_, hat.nil _ (Aside.refl c _), ⟨fun i g hi hg => ?_, fun i hi => ?_⟩, ?_⟩
        · rw [Array.getElem?_setIfInBounds_self_of_lt hlt]; rfl
        · rw [Array.getElem?_setIfInBounds_ne (by omega)] at hg
          rw [← Array.append_assoc, deaf_quiet' _ _ _ (by simp [Quiet]), deaf_quiet' _ _ _ (quiet_evs hes')]
          exact hL.old i g hi hg
        · rw [← Array.append_assoc, deaf_quiet' _ _ _ (by simp [Quiet]), deaf_quiet' _ _ _ (quiet_evs hes')]
          exact hL.above i (by simpa using hi)
        · rw [← Array.append_assoc]
          exact (hP.own hes).done _ _
      · obtain ⟨a', w', es, hgo, ⟨_, hcc, hes⟩, hg'⟩ := hstep _ hAs
        have hes' : ∀ e ∈ es, EvOk e := fun e he => evOk_of (hes e he)
        have hrun := runT_crowd_go (P := P) (sl := sl') (i := 0) h0 (show stepG P (0 == 0) g (w.at d) = _ from hgo)
        refine reach_step (hpk.trans hrun) (ih n' _ a' w' sl' _ q p ?_ ?_ ⟨fun i x hi hx => ?_, fun i hi => ?_⟩ (hP.own hes) (hcc.trans hc1) hg')
        · simp only [Array.size_setIfInBounds, Array.size_map]; omega
        · rw [Array.getElem?_setIfInBounds_self_of_lt (by simpa using hlt)]
        · rw [Array.getElem?_setIfInBounds_ne (by omega), Array.getElem?_map] at hx
          obtain ⟨y, hy, rfl⟩ := Option.map_eq_some_iff.1 hx
          have hq := hL.old i y hi hy
          rw [woken_quitsD hq, deaf_quiet' _ _ _ (quiet_evs hes')]
          exact hq
        · rw [deaf_quiet' _ _ _ (quiet_evs hes')]
          exact hL.above i (by simpa using hi)
    · have hq := hL.old i g hpos hi
      have hi0 : (i == 0) = false := by simp; omega
      have hlti : i < gs.size := (Array.getElem?_eq_some_iff.1 hi).1
      cases hqi : q i with
      | zero => rw [hqi] at hq; rw [hq.1] at hg; cases hg
      | succ k =>
        rw [hqi] at hq
        rcases hq with ⟨hf, _⟩ | ⟨_, g', es', hm, hstp, hq'⟩
        · rw [hf] at hg; cases hg
        have hrun := runT_crowd_go (P := P) (sl := sl') (i := i) hi (by rw [hi0]; exact hstp (w.at d))
        have hsum : sumTo gs.size (upd q i k) + (k + 1) = sumTo gs.size q + k := by
          have := sumTo_upd q k id hlti
          simpa [hqi] using this
        refine reach_step (hpk.trans hrun) (ih n _ a (w.at d) sl' _ (upd q i k) p ?_ ?_ ⟨fun m x hm0 hx => ?_, fun m hm => ?_⟩ (hP.mute (by omega) hm) hc1 (Goes.rely (R := Aside c) (fun _ _ _ h h' => Aside.trans h h') hG hAs))
        · simp only [Array.size_setIfInBounds, Array.size_map]; omega
        · rw [Array.getElem?_setIfInBounds_ne (by omega), Array.getElem?_map, h0]
          simp [woken_run hs]
        · by_cases hmi : m = i
          · subst hmi
            rw [Array.getElem?_setIfInBounds_self_of_lt (by simpa using hlti)] at hx
            obtain rfl := Option.some.inj hx
            rw [upd_same, Deaf_own]
            exact hq'
          · rw [Array.getElem?_setIfInBounds_ne (by omega), Array.getElem?_map] at hx
            obtain ⟨y, hy, rfl⟩ := Option.map_eq_some_iff.1 hx
            have hqm := hL.old m y hm0 hy
            rw [woken_quitsD hqm, upd_ne q k hmi, Deaf_other t (g' := i) (fun e => hmi e.symm) _ (fun op hop => g_evs hop)]
            exact hqm
        · rw [Deaf_other t (g' := i) (by simp at hm; omega) _ (fun op hop => g_evs hop)]
          exact hL.above m (by simpa using hm)

theorem pair_partners_send {gs : Array Goroutine} {j : Nat} {a b : Goroutine} {t : Trace} {q : Nat → Nat} (h : Pair P c gs j a b t q) (hb : b.status ≠ .blocked) : partners (gs.setIfInBounds 0 ph) c true = [] := by
  refine partners_nil fun i g hi => ?_
  rcases getElem?_stand gs 0 i g hi with ⟨_, rfl⟩ | ⟨hne, hi'⟩
  · exact offersAt_ph _ _
  · by_cases hj : i = j
    · subst hj
      have e := hi'.symm.trans h.child
      injection e with e
      subst e
      exact offersAt_of_not_blocked hb _ _
    · exact offersAt_of_not_blocked (not_blocked_q (h.old i g (by omega) hj hi')) _ _
theorem pair_partners_recv {gs : Array Goroutine} {j : Nat} {a b : Goroutine} {t : Trace} {q : Nat → Nat} (h : Pair P c gs j a b t q) (ha : a.status ≠ .blocked) : partners (gs.setIfInBounds j ph) c false = [] := by
  refine partners_nil fun i g hi => ?_
  rcases getElem?_stand gs j i g hi with ⟨_, rfl⟩ | ⟨hne, hi'⟩
  · exact offersAt_ph _ _
  · by_cases h0 : i = 0
    · subst h0
      have e := hi'.symm.trans h.zero
      injection e with e
      subst e
      exact offersAt_of_not_blocked ha _ _
    · exact offersAt_of_not_blocked (not_blocked_q (h.old i g (by omega) hne hi')) _ _
theorem pair_one_send {gs : Array Goroutine} {j : Nat} {a g₂ : Goroutine} {v z' : Value} {t : Trace} {q : Nat → Nat} (h : Pair P c gs j a (parked g₂ #[scase c v z'] .send) t q) : partners (gs.setIfInBounds 0 ph) c true = [(j, 0)] := by
  have hj0 := h.j0
  rw [partners_one (j := j) (g := parked g₂ #[scase c v z'] .send) (by rw [Array.getElem?_setIfInBounds_ne (by omega)]; exact h.child) fun i g hne hi => by
    rcases getElem?_stand gs 0 i g hi with ⟨_, rfl⟩ | ⟨hne0, hi'⟩
    · exact offersAt_ph _ _
    · exact offersAt_of_not_blocked (not_blocked_q (h.old i g (by omega) hne hi')) _ _]
  rw [offersAt_parked_send]
  simp
theorem pair_one_recv {gs : Array Goroutine} {j : Nat} {g b : Goroutine} {sh : CommShape} {t : Trace} {q : Nat → Nat} (h : Pair P c gs j (parked g #[rcase c z] sh) b t q) : partners (gs.setIfInBounds j ph) c false = [(0, 0)] := by
  have hj0 := h.j0
  rw [partners_one (j := 0) (g := parked g #[rcase c z] sh) (by rw [Array.getElem?_setIfInBounds_ne (by omega)]; exact h.zero) fun i x hne hi => by
    rcases getElem?_stand gs j i x hi with ⟨_, rfl⟩ | ⟨hne0, hi'⟩
    · exact offersAt_ph _ _
    · exact offersAt_of_not_blocked (not_blocked_q (h.old i x (by omega) hne0 hi')) _ _]
  rw [offersAt_parked_recv]
  simp

/-- one place is laid anew -/
theorem set_other {gs : Array Goroutine} {k : Nat} {x : Goroutine} {i : Nat} {g : Goroutine} (hne : i ≠ k) (h : (gs.setIfInBounds k x)[i]? = some g) : gs[i]? = some g := by
  rwa [Array.getElem?_setIfInBounds_ne (by omega)] at h

set_option maxHeartbeats 1000000 in
/-- THE CHANNEL IS OPEN -/
theorem phase_open : ∀ (vs : List Value) (M : Nat) (gs : Array Goroutine) (j : Nat) (a b : Goroutine) (w : World) (sl : Option (Nat × Nat)) (t : Trace) (q : Nat → Nat) (s r : Nat) (tm : Bool) (ra rb : Nat),
    ra + rb + sumTo gs.size q < M → Pair P c gs j a b t q → Calm0 t → w.heap[c]? = some (.chan 0 #[] false s r tm) → SitA P c TT MM z Fin vs ra a w → SitC P c vs rb b → 0 < ra + rb → Reach9 P Fin gs w sl t := by
  intro vs
  induction hn : vs.length using Nat.strongRecOn generalizing vs with
  | ind len ihv =>
  subst hn
  intro M
  induction M with
  | zero => exact fun gs j a b w sl t q s r tm ra rb hM => absurd hM (Nat.not_lt_zero _)
  | succ M ih =>
    intro gs j a b w sl t q s r tm ra rb hM hp hP hc hA hB hpos
    have sA := hA.status
    have sB := hB.status
    have awA : awake a := awake_of (by rcases sA with ⟨h, _⟩ | ⟨h, _⟩ <;> simp [h])
    have awB : awake b := awake_of (by rcases sB with ⟨h, _⟩ | ⟨h, _⟩ <;> simp [h])
    have some1 : ∃ (i : Nat) (g : Goroutine), gs[i]? = some g ∧ g.status = .running := by
      rcases sA with ⟨h, _⟩ | ⟨_, h0⟩
      · exact ⟨0, a, hp.zero, h⟩
      · rcases sB with ⟨h, _⟩ | ⟨_, h1⟩
        · exact ⟨j, b, hp.child, h⟩
        · omega
    obtain ⟨hl0, hlj⟩ := hp.lt
    have hj0 := hp.j0
    have hjf : (j == 0) = false := by simp; omega
    obtain ⟨i, g, d, sl', hi, hg, hpk⟩ := crowd_pick (P := P) (w := w) (sl := sl) (hp.awakes awA awB) some1
    have hAs : Aside c w (w.at d) := Aside.at c w d
    have hc1 : (w.at d).heap[c]? = some (.chan 0 #[] false s r tm) := hc
    by_cases h0 : i = 0
    · -- the receiver moves
      subst h0
      obtain rfl : g = a := Option.some.inj (hi.symm.trans hp.zero)
      rcases hA with ⟨n, rfl, hgo⟩ | ⟨_, x, rfl, _⟩
      · rcases hgo.cases with hstop | ⟨n', rfl, hstep⟩
        · have hat := hstop _ hAs
          obtain ⟨es, hcomm, hes⟩ := hat.comm
          have hes' : ∀ e ∈ es, EvOk e := fun e he => evOk_of (hes e he)
          rcases hB with ⟨k, rfl, hgb⟩ | ⟨rfl, v, vs', g₂, z', rfl, rfl, hnext⟩
          · -- it waits
            have hbs : b.status ≠ .blocked := by rw [goesC_running hgb]; simp
            have hrun := crowd_waits (sl := sl') (i := 0) hp.zero (show stepG P (0 == 0) g (w.at d) = _ from hcomm) (by
              intro cc hcc
              simp at hcc
              subst hcc
              exact ways_recv_none hc1 (pair_partners_send hp hbs))
            refine reach_step (hpk.trans hrun) ?_
            refine ih _ j _ b (w.at d) sl' _ q s r tm 0 (k + 1) ?_ (hp.turn (a1 := parked (core g) #[rcase c z] (.recv true)) (b1 := b) ?_ ?_ (by simp) (fun i x hi0 _ hx => set_other (by omega) hx) (quiet_evs hes') (noObj_evs hes)) (hP.own hes') hc1
              (.inr ⟨rfl, g, rfl, fun w₁ h₁ => hstop w₁ (hAs.trans h₁)⟩) (.inl ⟨k, rfl, hgb⟩) (by omega)
            · simp only [Array.size_setIfInBounds]; omega
            · rw [Array.getElem?_setIfInBounds_self_of_lt hl0]
            · rw [Array.getElem?_setIfInBounds_ne (by omega)]; exact hp.child
          · -- it meets the sender
            obtain ⟨na, hna⟩ := (recvs_iff P c TT MM z _ vs' _ _).1 (hat.cons _ (Aside.put c (w.at d) (.chan 0 #[] false (s + 1) (r + 1) tm)))
            obtain ⟨nb, hnb⟩ := (sendsC_iff P c vs' _).1 hnext
            have hrun := crowd_recv_meets (sl := sl') (i := 0) (j := j) hp.zero (show stepG P (0 == 0) g (w.at d) = _ from hcomm) hc1 (by omega) hp.child (pair_one_send hp)
            rw [finishComm_recv, finishComm_send] at hrun
            refine reach_step (hpk.trans hrun) ?_
            rw [← Array.append_assoc]
            refine ihv vs'.length (by simp) vs' rfl (na + 1 + (nb + 1) + sumTo gs.size q + 1) _ j _ _ _ sl' _ q (s + 1) (r + 1) tm (na + 1) (nb + 1) ?_
              ((hp.turn (a1 := g) (b1 := parked g₂ #[scase c v z'] .send) hp.zero hp.child rfl (fun i x _ _ hx => hx) (quiet_evs hes') (noObj_evs hes)).turn (a1 := Conc.served (core g) (.tuple #[v, .bool true])) (b1 := Conc.served g₂ undef) ?_ ?_ (by simp) (fun i x hi0 hij hx => set_other hij (set_other (by omega) hx)) (by simp [Quiet]) (by simp [NoObj, MemAct.touch?]))
              (Calm0.comm [_, _, _, _] (hP.own hes') (by simp [MemAct.touch?, Quiet])) (heap_put hc1) (.inl ⟨na, rfl, hna⟩) (.inl ⟨nb, rfl, hnb⟩) (by omega)
            · simp only [Array.size_setIfInBounds]; omega
            · rw [Array.getElem?_setIfInBounds_self_of_lt (by simpa using hl0)]; rfl
            · rw [Array.getElem?_setIfInBounds_ne (by omega), Array.getElem?_setIfInBounds_self_of_lt hlj]
        · -- a step of its own
          obtain ⟨a', w', es, hgo', ⟨_, hcc, hes⟩, hg'⟩ := hstep _ hAs
          have hes' : ∀ e ∈ es, EvOk e := fun e he => evOk_of (hes e he)
          have hc' : w'.heap[c]? = some (.chan 0 #[] false s r tm) := hcc.trans hc1
          have hrun := runT_crowd_go (P := P) (sl := sl') (i := 0) hp.zero (show stepG P (0 == 0) g (w.at d) = _ from hgo')
          refine reach_step (hpk.trans hrun) ?_
          refine ih _ j a' b w' sl' _ q s r tm (n' + 1) rb ?_ (hp.turn ?_ ?_ (by simp) (fun i x hi0 hij hx => ?_) (quiet_evs hes') (noObj_evs hes)) (hP.own hes') hc' (.inl ⟨n', rfl, hg'⟩) hB (by omega)
          · simp only [Array.size_setIfInBounds, Array.size_map]; omega
          · rw [Array.getElem?_setIfInBounds_self_of_lt (by simpa using hl0)]
          · rw [Array.getElem?_setIfInBounds_ne (by omega), Array.getElem?_map, hp.child, Option.map_some, hB.woken hc']
          · have hx := set_other (by omega) hx
            rw [Array.getElem?_map] at hx
            obtain ⟨y, hy, rfl⟩ := Option.map_eq_some_iff.1 hx
            rw [woken_quitsD (hp.old i y hi0 hij hy)]
            exact hy
      · simp [parked] at hg
    · by_cases hij : i = j
      · -- the sender moves
        subst hij
        obtain rfl : g = b := Option.some.inj (hi.symm.trans hp.child)
        rcases hB with ⟨k, rfl, hgb⟩ | ⟨_, v, vs', g₂, z', _, rfl, _⟩
        · rcases hgb.cases with hstop | ⟨k', rfl, hstep⟩
          · have hat := hstop (w.at d) trivial
            cases vs with
            | nil =>
              -- it closes the channel
              obtain ⟨_, hwake, g₂, nq, hclose, hq⟩ := hat
              have hgo := hclose _ s r tm hc1
              have hw3 : Aside c (w.at d) ((w.at d).shut c s r tm) := Aside.put c _ _
              have hc2 : ((w.at d).shut c s r tm).heap[c]? = some (.chan 0 #[] true s r tm) := heap_put hc1
              have hwk : ∀ o, woken P g g₂ ((w.at d).shut c s r tm) o = o.again ((w.at d).shut c s r tm) := by
                intro o; unfold Go.Conc.woken; rcases hq.status with h | h <;> simp [hwake, h]
              have hA' : ∃ n, Goes P true (Aside c) (DA c TT MM) (StopA P c TT MM z Fin []) n (a.again ((w.at d).shut c s r tm)) ((w.at d).shut c s r tm) := by
                rcases hA with ⟨n, _, hg⟩ | ⟨_, x, rfl, hs⟩
                · rw [again_running _ (.inl (hg.running (fun _ _ => StopA.running) w (Aside.refl c w)))]
                  exact ⟨n, Goes.rely (R := Aside c) (fun _ _ _ h h' => Aside.trans h h') hg (hAs.trans hw3)⟩
                · rw [again_parked_shut rfl hc2]
                  exact ⟨0, fun w₁ h₁ => (hs w₁ ((hAs.trans hw3).trans h₁)).again⟩
              obtain ⟨na, hna⟩ := hA'
              have hrun := runT_crowd_go (P := P) (sl := sl') (i := i) hp.child (by rw [hjf]; exact hgo)
              have hqt : ∀ op ∈ MemOp.ofEvents i g.frame.fn g.frame.place #[⟨.obj c, false, true⟩, ⟨.obj c, true, true⟩], Quiet op := quiet_evs (by simp [EvOk])
              refine reach_step (hpk.trans hrun) ?_
              refine phase_shut (j := i) (na + sumTo gs.size (upd q i nq) + 1) na _ _ _ sl' _ (upd q i nq) t.size ?_ ?_ ⟨fun m x hm0 hx => ?_, fun m hm => ?_⟩ (Pend.new hP (by omega) hp.hears hp.knows _ _) hc2 hna
              · simp only [Array.size_setIfInBounds, Array.size_map]; omega
              · rw [Array.getElem?_setIfInBounds_ne (by omega), Array.getElem?_map, hp.zero, Option.map_some, hwk]
              · rw [deaf_quiet' _ _ _ hqt]
                by_cases hmi : m = i
                · subst hmi
                  rw [Array.getElem?_setIfInBounds_self_of_lt (by simpa using hlj)] at hx
                  obtain rfl := Option.some.inj hx
                  rw [upd_same, hp.hears]
                  exact QuitsD.of_quitsIn hq
                · have hx := set_other hmi hx
                  rw [Array.getElem?_map] at hx
                  obtain ⟨y, hy, rfl⟩ := Option.map_eq_some_iff.1 hx
                  rw [woken_quitsD (hp.old m y hm0 hmi hy), upd_ne q nq hmi]
                  exact hp.old m y hm0 hmi hy
              · rw [deaf_quiet' _ _ _ hqt]
                exact hp.above m (by simpa using hm)
            | cons v vs' =>
              obtain ⟨_, g₂, z', es, hcomm, hes, hnext⟩ := hat
              obtain rfl := none_evB hes
              have hcm := hcomm (w.at d) trivial
              rcases hA with ⟨n, rfl, hg⟩ | ⟨rfl, x, rfl, hs⟩
              · -- it waits
                have has : a.status ≠ .blocked := by rw [hg.running (fun _ _ => StopA.running) w (Aside.refl c w)]; simp
                have hrun := crowd_waits (sl := sl') (i := i) hp.child (by rw [hjf]; exact hcm) (by
                  intro cc hcc
                  simp at hcc
                  subst hcc
                  exact ways_send_none hc1 (by simp) (pair_partners_recv hp has))
                refine reach_step (hpk.trans hrun) ?_
                refine ih _ i a _ (w.at d) sl' _ q s r tm (n + 1) 0 ?_ (hp.turn (a1 := a) (b1 := parked g₂ #[scase c v z'] .send) ?_ ?_ (by simp) (fun m x hm0 hmi hx => set_other hmi hx) (quiet_evs (by simp)) (noObj_evs (by simp))) ?_ hc1
                  (.inl ⟨n, rfl, Goes.rely (R := Aside c) (fun _ _ _ h h' => Aside.trans h h') hg hAs⟩) (.inr ⟨rfl, v, vs', g₂, z', rfl, rfl, hnext⟩) (by omega)
                · simp only [Array.size_setIfInBounds]; omega
                · rw [Array.getElem?_setIfInBounds_ne (by omega)]; exact hp.zero
                · rw [Array.getElem?_setIfInBounds_self_of_lt hlj]
                · exact hP.mute (by omega) (by simp)
              · -- it meets the receiver
                obtain ⟨na, hna⟩ := (recvs_iff P c TT MM z _ vs' _ _).1 ((hs _ hAs).cons _ (Aside.put c (w.at d) (.chan 0 #[] false (s + 1) (r + 1) tm)))
                obtain ⟨nb, hnb⟩ := (sendsC_iff P c vs' _).1 hnext
                have hrun := crowd_send_meets (sl := sl') (i := i) (j := 0) hp.child (by rw [hjf]; exact hcm) hc1 (by omega) hp.zero (pair_one_recv hp)
                rw [finishComm_recv, finishComm_send] at hrun
                refine reach_step (hpk.trans hrun) ?_
                rw [← Array.append_assoc]
                refine ihv vs'.length (by simp) vs' rfl (na + 1 + (nb + 1) + sumTo gs.size q + 1) _ i _ _ _ sl' _ q (s + 1) (r + 1) tm (na + 1) (nb + 1) ?_
                  ((hp.turn (a1 := parked (core x) #[rcase c z] (.recv true)) (b1 := g) hp.zero hp.child rfl (fun m y _ _ hx => hx) (quiet_evs (by simp)) (noObj_evs (by simp))).turn (a1 := Conc.served (core x) (.tuple #[v, .bool true])) (b1 := Conc.served g₂ undef) ?_ ?_ (by simp) (fun m y hm0 hmi hx => set_other (by omega) (set_other hmi hx)) (by simp [Quiet]) (by simp [NoObj, MemAct.touch?]))
                  (Calm0.comm [_, _, _, _] (hP.mute (by omega) (by simp)) (by simp [MemAct.touch?, Quiet])) (heap_put hc1) (.inl ⟨na, rfl, hna⟩) (.inl ⟨nb, rfl, hnb⟩) (by omega)
                · simp only [Array.size_setIfInBounds]; omega
                · rw [Array.getElem?_setIfInBounds_ne (by omega), Array.getElem?_setIfInBounds_self_of_lt hl0]; rfl
                · rw [Array.getElem?_setIfInBounds_self_of_lt (by simpa using hlj)]
          · -- a step of its own
            obtain ⟨b', w', es, hgo, ⟨rfl, hes⟩, hg'⟩ := hstep (w.at d) trivial
            obtain rfl := none_evB hes
            have hrun := runT_crowd_go (P := P) (sl := sl') (i := i) hp.child (by rw [hjf]; exact hgo)
            refine reach_step (hpk.trans hrun) ?_
            refine ih _ i a b' (w.at d) sl' _ q s r tm ra (k' + 1) ?_ (hp.turn ?_ ?_ (by simp) (fun m x hm0 hmi hx => ?_) (quiet_evs (by simp)) (noObj_evs (by simp))) (hP.mute (by omega) (by simp)) hc1 (hA.rely hAs) (.inl ⟨k', rfl, hg'.anyWorld default⟩) (by omega)
            · simp only [Array.size_setIfInBounds, Array.size_map]; omega
            · rw [Array.getElem?_setIfInBounds_ne (by omega), Array.getElem?_map, hp.zero, Option.map_some, hA.woken hc1]
            · rw [Array.getElem?_setIfInBounds_self_of_lt (by simpa using hlj)]
            · have hx := set_other hmi hx
              rw [Array.getElem?_map] at hx
              obtain ⟨y, hy, rfl⟩ := Option.map_eq_some_iff.1 hx
              rw [woken_quitsD (hp.old m y hm0 hmi hy)]
              exact hy
        · simp [parked] at hg
      · -- a leaver's step
        have hpos' : 0 < i := by omega
        have hq := hp.old i g hpos' hij hi
        have hi0 : (i == 0) = false := by simp; omega
        have hlt : i < gs.size := (Array.getElem?_eq_some_iff.1 hi).1
        cases hqi : q i with
        | zero => rw [hqi] at hq; rw [hq.1] at hg; cases hg
        | succ k =>
          rw [hqi] at hq
          rcases hq with ⟨hf, _⟩ | ⟨_, g', es', hm, hstp, hq'⟩
          · rw [hf] at hg; cases hg
          have hrun := runT_crowd_go (P := P) (sl := sl') (i := i) hi (by rw [hi0]; exact hstp (w.at d))
          have hsum : sumTo gs.size (upd q i k) + (k + 1) = sumTo gs.size q + k := by
            have := sumTo_upd q k id hlt
            simpa [hqi] using this
          refine reach_step (hpk.trans hrun) ?_
          refine ih _ j a b (w.at d) sl' _ (upd q i k) s r tm ra rb ?_ ⟨?_, hj0, ?_, fun m x hm0 hmj hx => ?_, ?_, fun m hm => ?_, fun m x hx hl hw => ?_⟩ (hP.mute (by omega) hm) hc1 (hA.rely hAs) hB hpos
          · simp only [Array.size_setIfInBounds, Array.size_map]; omega
          · rw [Array.getElem?_setIfInBounds_ne (by omega), Array.getElem?_map, hp.zero, Option.map_some, hA.woken hc1]
          · rw [Array.getElem?_setIfInBounds_ne (by omega), Array.getElem?_map, hp.child, Option.map_some, hB.woken hc1]
          · by_cases hmi : m = i
            · subst hmi
              rw [Array.getElem?_setIfInBounds_self_of_lt (by simpa using hlt)] at hx
              obtain rfl := Option.some.inj hx
              rw [upd_same, Deaf_own]
              exact hq'
            · have hx := set_other hmi hx
              rw [Array.getElem?_map] at hx
              obtain ⟨y, hy, rfl⟩ := Option.map_eq_some_iff.1 hx
              have hqj := hp.old m y hm0 hmj hy
              rw [woken_quitsD hqj, upd_ne q k hmi, Deaf_other t (g' := i) (fun e => hmi e.symm) _ (fun op hop => g_evs hop)]
              exact hqj
          · rw [Deaf_other t (g' := i) hij _ (fun op hop => g_evs hop)]
            exact hp.hears
          · rw [Deaf_other t (g' := i) (by simp at hm; omega) _ (fun op hop => g_evs hop)]
            exact hp.above m (by simpa using hm)
          · obtain ⟨op, hop, hox⟩ := touch_of hx
            rcases getElem?_append_cases hop with ⟨_, hop'⟩ | ⟨_, hou⟩
            · exact (hp.knows m x (by rw [touchAt_of hop']; exact hox) hl hw).app _
            · rw [ofEvents_eq] at hou
              obtain ⟨e, he, rfl⟩ := Array.mem_map.1 hou
              rw [touch_mute (hm e he)] at hox
              cases hox
end
end Go.Proofs.Ytcdchieielpahaa
