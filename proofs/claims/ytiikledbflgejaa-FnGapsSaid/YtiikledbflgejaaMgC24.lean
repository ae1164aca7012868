/- Texts put together. -/
import Derived.Test.YtiikledbflgejaaMgC23
/- Plain operations: what they yield, what they list, and that they read of the tape what they draw. -/
namespace Go.Proofs.Ytiikledbflgejaa
open Go.Conc

/-- an operation that starts nothing, sends nothing, receives nothing, and calls the functions of S alone -/
def tameOp (S : FuncId → Bool) : Op → Bool
  | .move _ | .assign _ | .pick _ _ _ | .alloc _ | .box _ _ | .build _ _ | .buildSlice _ _ _ | .load _ _ | .store _ _ _ | .binOp _ _ _ _ _ | .unOp _ _ _ | .convert _ _ _
  | .makeInterface _ _ | .makeFunc _ _ _ | .makeChan _ _ | .makeSlice _ _ _ | .slice _ _ _ _ _ | .fieldAddr _ _ _ | .field _ _ _ | .indexAddr _ _ _ | .index _ _ _ | .extract _ _
  | .nilCheck _ | .panic _ => true
  | .call c => match c.callee with
    | .builtin b => match b with
      | .append | .cap | .clear | .copy | .len | .max | .min => true
      | _ => false
    | .value (.func f) => S f
    | _ => false
  | _ => false

/-- what such an operation may come to -/
def okRes (S : FuncId → Bool) : Result Next → Prop
  | .ok (.value _) _ | .ok .skip _ => True
  | .ok (.enter f _) _ => S f = true
  | .halt (.panic _) _ | .halt (.unsupported _) _ | .halt (.stuck _) _ => True
  | _ => False

/-- an entry of a step's list that bears no mark but 'no room' -/
def EvOk (e : Event) : Prop := ∀ m, e.loc = .mark m → m = .noRoom

theorem mild_halts (P : Program) {α : Type} (s : Sem α) (hs : Mild s) : ∀ (w : World) (es : Array Event) (h : Halt) (w' : World) (es' : Array Event), s.runT P w es = (.halt h w', es') →
    (∃ v, h = .panic v) ∨ (∃ u, h = .unsupported u) ∨ ∃ t, h = .stuck t := by
  induction s with
  | pure a => intro w es h w' es' e; simp [Sem.runT, -Sem.runT_eq] at e
  | halt a =>
    intro w es h w' es' e
    simp only [Sem.runT, Prod.mk.injEq, Result.halt.injEq] at e
    obtain ⟨⟨rfl, _⟩, _⟩ := e
    cases a <;> first | exact .inl ⟨_, rfl⟩ | exact .inr (.inl ⟨_, rfl⟩) | exact .inr (.inr ⟨_, rfl⟩) | exact hs.elim
  | load m a k ih =>
    intro w es h w' es' e
    simp only [Sem.runT] at e
    split at e
    · exact ih _ (hs.2 _) _ _ _ _ _ e
    · split at e
      · exact ih _ (hs.2 _) _ _ _ _ _ e
      · rename_i x hx
        simp only [Prod.mk.injEq, Result.halt.injEq] at e
        obtain ⟨⟨rfl, _⟩, _⟩ := e
        unfold World.farLoad at hx
        unfold World.noCell at hx
        repeat' split at hx
        all_goals first | (cases hx; done) | (injection hx with hx; subst hx; first | exact .inr (.inl ⟨_, rfl⟩) | exact .inr (.inr ⟨_, rfl⟩))
  | store m a v k ih =>
    intro w es h w' es' e
    cases v <;> simp only [Sem.runT] at e
    all_goals first
      | (simp only [Prod.mk.injEq, Result.halt.injEq] at e
         obtain ⟨⟨rfl, _⟩, _⟩ := e
         exact .inr (.inr ⟨_, rfl⟩))
      | (split at e
         · split at e
           · simp only [Prod.mk.injEq, Result.halt.injEq] at e
             obtain ⟨⟨rfl, _⟩, _⟩ := e
             exact .inr (.inl ⟨_, rfl⟩)
           · exact ih hs.2 _ _ _ _ _ e
         · split at e
           · exact ih hs.2 _ _ _ _ _ e
           · rename_i x hx
             simp only [Prod.mk.injEq, Result.halt.injEq] at e
             obtain ⟨⟨rfl, _⟩, _⟩ := e
             unfold World.farStore at hx
             unfold World.noCell at hx
             repeat' split at hx
             all_goals first | (cases hx; done) | (injection hx with hx; subst hx; first | exact .inr (.inl ⟨_, rfl⟩) | exact .inr (.inr ⟨_, rfl⟩)))
  | new o k ih => exact fun w es h w' es' e => ih _ (hs _) _ _ _ _ _ e
  | shape r k ih => exact fun w es h w' es' e => ih _ (hs _) _ _ _ _ _ e
  | freeze a n k ih => exact fun w es h w' es' e => ih hs _ _ _ _ _ e
  | frozen a k ih => exact fun w es h w' es' e => ih _ (hs _) _ _ _ _ _ e
  | getObj r k ih =>
    intro w es h w' es' e
    simp only [Sem.runT] at e
    split at e
    · simp only [Prod.mk.injEq, Result.halt.injEq] at e
      obtain ⟨⟨rfl, _⟩, _⟩ := e
      exact .inr (.inr ⟨_, rfl⟩)
    · exact ih _ (hs _) _ _ _ _ _ e
    · simp only [Prod.mk.injEq, Result.halt.injEq] at e
      obtain ⟨⟨rfl, _⟩, _⟩ := e
      exact .inr (.inr ⟨_, rfl⟩)
  | setObj r o k ih =>
    intro w es h w' es' e
    simp only [Sem.runT] at e
    split at e
    · simp only [Prod.mk.injEq, Result.halt.injEq] at e
      obtain ⟨⟨rfl, _⟩, _⟩ := e
      exact .inr (.inr ⟨_, rfl⟩)
    · exact ih hs _ _ _ _ _ e
    · simp only [Prod.mk.injEq, Result.halt.injEq] at e
      obtain ⟨⟨rfl, _⟩, _⟩ := e
      exact .inr (.inr ⟨_, rfl⟩)
  | choose q k ih =>
    intro w es h w' es' e
    simp only [Sem.runT] at e
    split at e <;> exact ih _ (hs _) _ _ _ _ _ e
  | sys c k ih => exact fun w es h w' es' e => ih _ (hs.2 _) _ _ _ _ _ e
  | program k ih => exact fun w es h w' es' e => ih _ (hs _) _ _ _ _ _ e
  | mark m k ih => exact fun w es h w' es' e => ih hs.2 _ _ _ _ _ e

theorem mild_events (P : Program) {α : Type} (s : Sem α) (hs : Mild s) : ∀ (w : World) (es : Array Event), (∀ e ∈ es, EvOk e) → ∀ e ∈ (s.runT P w es).2, EvOk e := by
  have push : ∀ {es : Array Event} {x : Event}, (∀ e ∈ es, EvOk e) → EvOk x → ∀ e ∈ es.push x, EvOk e := by
    intro es x h hx e he
    rcases Array.mem_push.1 he with h' | rfl
    · exact h e h'
    · exact hx
  have cells : ∀ {es : Array Event} {l : List Addr} {b c : Bool}, (∀ e ∈ es, EvOk e) → ∀ e ∈ es ++ l.toArray.map (fun a => (⟨.cell a, b, c⟩ : Event)), EvOk e := by
    intro es l b c h e he
    rcases Array.mem_append.1 he with h' | h'
    · exact h e h'
    · obtain ⟨a, _, rfl⟩ := Array.mem_map.1 h'
      exact fun m hm => by cases hm
  induction s with
  | pure a => intro w es h; exact h
  | halt a => intro w es h; exact h
  | load m a k ih =>
    intro w es h
    simp only [Sem.runT]
    split
    · exact ih _ (hs.2 _) _ _ (push h fun m hm => by cases hm)
    · split
      · exact ih _ (hs.2 _) _ _ (cells h)
      · exact h
  | store m a v k ih =>
    intro w es h
    cases v <;> simp only [Sem.runT]
    all_goals first
      | exact h
      | (split
         · split
           · exact h
           · exact ih hs.2 _ _ (push h fun m hm => by cases hm)
         · split
           · exact ih hs.2 _ _ (cells h)
           · exact h)
  | new o k ih => exact fun w es h => ih _ (hs _) _ _ h
  | shape r k ih => exact fun w es h => ih _ (hs _) _ _ h
  | freeze a n k ih => exact fun w es h => ih hs _ _ h
  | frozen a k ih => exact fun w es h => ih _ (hs _) _ _ h
  | getObj r k ih =>
    intro w es h
    simp only [Sem.runT]
    split
    · exact h
    · exact ih _ (hs _) _ _ (push h fun m hm => by cases hm)
    · exact h
  | setObj r o k ih =>
    intro w es h
    simp only [Sem.runT]
    split
    · exact h
    · exact ih hs _ _ (push h fun m hm => by cases hm)
    · exact h
  | choose q k ih =>
    intro w es h
    simp only [Sem.runT]
    split <;> exact ih _ (hs _) _ _ h
  | sys c k ih => exact fun w es h => ih _ (hs.2 _) _ _ (push h fun m hm => by cases hm)
  | program k ih => exact fun w es h => ih _ (hs _) _ _ h
  | mark m k ih =>
    exact fun w es h => ih hs.2 _ _ (push h fun m' hm => by cases hm; exact hs.1)

/-- what is asked of a plain operation's entry -/
structure Plain (P : Program) (S : FuncId → Bool) (s : Sem Next) : Prop where
  loc : Local P s
  res : ∀ w es, okRes S (s.runT P w es).1
  evs : ∀ w es, (∀ e ∈ es, EvOk e) → ∀ e ∈ (s.runT P w es).2, EvOk e

theorem plain_value {P : Program} {S : FuncId → Bool} {α : Type} {s : Sem α} (f : α → Next) (hf : ∀ a w, okRes S (.ok (f a) w)) (hs : Mild s) : Plain P S (s.bind fun a => Pure.pure (f a)) := by
  have hm : Mild (s.bind fun a => (Pure.pure (f a) : Sem Next)) := hs.bind fun _ => mild_pure _
  refine ⟨local_of_mild P _ hm, fun w es => ?_, fun w es h => mild_events P _ hm w es h⟩
  rw [Sem.runT_bind']
  rcases e : s.runT P w es with ⟨r, es'⟩
  cases r with
  | ok a w' => exact hf a w'
  | halt h w' =>
    rcases mild_halts P s hs w es h w' es' e with ⟨v, rfl⟩ | ⟨u, rfl⟩ | ⟨t, rfl⟩ <;> trivial
/-- the entry ends in a value or in nothing -/
def LeafV : Sem Next → Prop
  | .pure n => match n with
    | .value _ | .skip => True
    | _ => False
  | .load _ _ k => ∀ v, LeafV (k v)
  | .store _ _ _ k => LeafV k
  | .new _ k => ∀ r, LeafV (k r)
  | .shape _ k => ∀ s, LeafV (k s)
  | .freeze _ _ k => LeafV k
  | .frozen _ k => ∀ b, LeafV (k b)
  | .getObj _ k => ∀ o, LeafV (k o)
  | .setObj _ _ k => LeafV k
  | .choose _ k => ∀ n, LeafV (k n)
  | .sys _ k => ∀ r, LeafV (k r)
  | .program k => ∀ p, LeafV (k p)
  | .mark _ k => LeafV k
  | .halt _ => True
theorem LeafV.bind {α : Type} {s : Sem α} {f : α → Sem Next} (hf : ∀ a, LeafV (f a)) : LeafV (s.bind f) := by
  induction s with
  | pure a => exact hf a
  | load m a k ih => exact fun v => ih v
  | store m a v k ih => exact ih
  | new o k ih => exact fun r => ih r
  | shape r k ih => exact fun x => ih x
  | freeze a n k ih => exact ih
  | frozen a k ih => exact fun x => ih x
  | getObj r k ih => exact fun x => ih x
  | setObj r o k ih => exact ih
  | choose q k ih => exact fun x => ih x
  | sys c k ih => exact fun x => ih x
  | program k ih => exact fun x => ih x
  | mark m k ih => exact ih
  | halt h => trivial
theorem leaf_run (P : Program) (s : Sem Next) (hs : LeafV s) : ∀ (w : World) (es : Array Event) (n : Next) (w' : World) (es' : Array Event), s.runT P w es = (.ok n w', es') → (∃ v, n = .value v) ∨ n = .skip := by
  induction s with
  | pure a =>
    intro w es n w' es' e
    simp only [Sem.runT, Prod.mk.injEq, Result.ok.injEq] at e
    obtain ⟨⟨rfl, _⟩, _⟩ := e
    cases a <;> first | exact .inl ⟨_, rfl⟩ | exact .inr rfl | exact hs.elim
  | halt a => intro w es n w' es' e; simp [Sem.runT, -Sem.runT_eq] at e
  | load m a k ih =>
    intro w es n w' es' e
    simp only [Sem.runT] at e
    split at e
    · exact ih _ (hs _) _ _ _ _ _ e
    · split at e
      · exact ih _ (hs _) _ _ _ _ _ e
      · simp at e
  | store m a v k ih =>
    intro w es n w' es' e
    cases v <;> simp only [Sem.runT] at e
    all_goals first
      | (simp at e; done)
      | (split at e
         · split at e
           · simp at e
           · exact ih hs _ _ _ _ _ e
         · split at e
           · exact ih hs _ _ _ _ _ e
           · simp at e)
  | new o k ih => exact fun w es n w' es' e => ih _ (hs _) _ _ _ _ _ e
  | shape r k ih => exact fun w es n w' es' e => ih _ (hs _) _ _ _ _ _ e
  | freeze a n k ih => exact fun w es n w' es' e => ih hs _ _ _ _ _ e
  | frozen a k ih => exact fun w es n w' es' e => ih _ (hs _) _ _ _ _ _ e
  | getObj r k ih =>
    intro w es n w' es' e
    simp only [Sem.runT] at e
    split at e
    · simp at e
    · exact ih _ (hs _) _ _ _ _ _ e
    · simp at e
  | setObj r o k ih =>
    intro w es n w' es' e
    simp only [Sem.runT] at e
    split at e
    · simp at e
    · exact ih hs _ _ _ _ _ e
    · simp at e
  | choose q k ih =>
    intro w es n w' es' e
    simp only [Sem.runT] at e
    split at e <;> exact ih _ (hs _) _ _ _ _ _ e
  | sys c k ih => exact fun w es n w' es' e => ih _ (hs _) _ _ _ _ _ e
  | program k ih => exact fun w es n w' es' e => ih _ (hs _) _ _ _ _ _ e
  | mark m k ih => exact fun w es n w' es' e => ih hs _ _ _ _ _ e
theorem plain_leaf {P : Program} {S : FuncId → Bool} {s : Sem Next} (hm : Mild s) (hl : LeafV s) : Plain P S s := by
  refine ⟨local_of_mild P _ hm, fun w es => ?_, fun w es h => mild_events P _ hm w es h⟩
  rcases e : s.runT P w es with ⟨r, es'⟩
  cases r with
  | ok n w' => rcases leaf_run P s hl w es n w' es' e with ⟨v, rfl⟩ | rfl <;> trivial
  | halt h w' => rcases mild_halts P s hm w es h w' es' e with ⟨v, rfl⟩ | ⟨u, rfl⟩ | ⟨t, rfl⟩ <;> trivial
theorem plain_pure {P : Program} {S : FuncId → Bool} (n : Next) (h : ∀ w, okRes S (.ok n w)) : Plain P S (Pure.pure n) :=
  ⟨local_of_mild P _ (mild_pure _), fun w _ => h w, fun w es he => mild_events P _ (mild_pure _) w es he⟩
end Go.Proofs.Ytiikledbflgejaa
