/- Texts put together. -/
import Derived.Test.YtiikledbflgejaaMgC27
/- A goroutine that alone comes to its return on every tape comes to it in company too: the walk is well-founded. -/
namespace Go.Proofs.Ytiikledbflgejaa
open Go.Conc

section
variable {P : Program} {S : FuncId → Bool} {Q : Frame → Value → World → Prop}

theorem acc_of_returns {x : Pl} (hx : Returns1 P Q x) : Acc (Rel1 P S) x := by
  apply Classical.byContradiction
  intro h
  have hnext : ∀ z : { x // ¬ Acc (Rel1 P S) x }, ∃ y : { x // ¬ Acc (Rel1 P S) x }, Rel1 P S y.1 z.1 := by
    intro z
    apply Classical.byContradiction
    intro hn
    apply z.2
    refine ⟨_, fun y hy => ?_⟩
    apply Classical.byContradiction
    intro hy'
    exact hn ⟨⟨y, hy'⟩, hy⟩
  obtain ⟨nx, hnx⟩ : ∃ nx : { x // ¬ Acc (Rel1 P S) x } → { x // ¬ Acc (Rel1 P S) x }, ∀ z, Rel1 P S (nx z).1 z.1 := ⟨fun z => Classical.choose (hnext z), fun z => Classical.choose_spec (hnext z)⟩
  let g : Nat → { x // ¬ Acc (Rel1 P S) x } := fun n => Nat.rec ⟨x, h⟩ (fun _ z => nx z) n
  have hg : ∀ n, Rel1 P S (g (n + 1)).1 (g n).1 := fun n => hnx (g n)
  have g0 : (g 0).1 = x := rfl
  generalize hf : (fun n => (g n).1) = f at *
  have hf' : ∀ n, (g n).1 = f n := fun n => congrFun hf n
  simp only [hf'] at hg g0
  clear hf hf' hnx hnext
  have hch : ∀ n, ∃ p : Tp × Nat × Array Event, Next1 P S true (f n).fr (f n).cs (tp (f n).w p.1 p.2.1) (f (n + 1)).fr (f (n + 1)).cs (f (n + 1)).w p.2.2 := fun n => by
    obtain ⟨_, τ, d, es, hn⟩ := hg n
    exact ⟨(τ, d, es), hn⟩
  obtain ⟨p, hp⟩ : ∃ p : Nat → Tp × Nat × Array Event, ∀ n, Next1 P S true (f n).fr (f n).cs (tp (f n).w (p n).1 (p n).2.1) (f (n + 1)).fr (f (n + 1)).cs (f (n + 1)).w (p n).2.2 := ⟨fun n => Classical.choose (hch n), fun n => Classical.choose_spec (hch n)⟩
  let A : Nat → Nat := fun n => Nat.rec 0 (fun n a => a + ((f (n + 1)).w.drawn - (p n).2.1)) n
  have hA : ∀ n, A (n + 1) = A n + ((f (n + 1)).w.drawn - (p n).2.1) := fun n => rfl
  have hA0 : A 0 = 0 := rfl
  generalize A = A at hA hA0
  have mono : ∀ n k, A n ≤ A (n + k) := by
    intro n k
    induction k with
    | zero => exact Nat.le_refl _
    | succ k ih =>
      have := hA (n + k)
      rw [← Nat.add_assoc]
      omega
  have uniq : ∀ n k m, A n ≤ m → m < A (n + 1) → A k ≤ m → m < A (k + 1) → n = k := by
    intro n k m h1 h2 h3 h4
    rcases Nat.lt_trichotomy n k with hlt | he | hlt
    · have := mono (n + 1) (k - (n + 1))
      rw [show n + 1 + (k - (n + 1)) = k by omega] at this
      omega
    · exact he
    · have := mono (k + 1) (n - (k + 1))
      rw [show k + 1 + (n - (k + 1)) = n by omega] at this
      omega
  obtain ⟨T, hT⟩ : ∃ T : Tp, ∀ n m, A n ≤ m → m < A (n + 1) → T m = (p n).1 ((p n).2.1 + (m - A n)) := by
    refine ⟨fun m => Classical.epsilon fun t => ∀ n, A n ≤ m → m < A (n + 1) → t = (p n).1 ((p n).2.1 + (m - A n)), fun n m h1 h2 => ?_⟩
    have := Classical.epsilon_spec (p := fun t => ∀ n, A n ≤ m → m < A (n + 1) → t = (p n).1 ((p n).2.1 + (m - A n)))
      ⟨(p n).1 ((p n).2.1 + (m - A n)), fun k h3 h4 => by rw [uniq n k m h1 h2 h3 h4]⟩
    exact this n h1 h2
  obtain ⟨τ0, D0, fr', v, w', hj, ⟨N, hN⟩, hl, hq⟩ := hx T
  have one : ∀ n, step P (solo (G (f n).fr ((f n).cs ++ [trap P, trap P])) (tp (f n).w τ0 (D0 + A n))) = .next (solo (G (f (n + 1)).fr ((f (n + 1)).cs ++ [trap P, trap P])) (tp (f (n + 1)).w τ0 (D0 + A (n + 1)))) := by
    intro n
    have := next1_on (hp n) τ0 (D0 + A n) (fun j hlt => by
      rw [Nat.add_assoc, hj, hT n (A n + j) (by omega) (by rw [hA]; omega), Nat.add_sub_cancel_left]) [trap P, trap P]
    rw [this, hA, Nat.add_assoc]
  have many : ∀ n k, runN P n (solo (G (f k).fr ((f k).cs ++ [trap P, trap P])) (tp (f k).w τ0 (D0 + A k))) = .next (solo (G (f (k + n)).fr ((f (k + n)).cs ++ [trap P, trap P])) (tp (f (k + n)).w τ0 (D0 + A (k + n)))) := by
    intro n
    induction n with
    | zero => exact fun k => rfl
    | succ n ih =>
      intro k
      simp only [runN, one k, ih (k + 1)]
      rw [show k + 1 + n = k + (n + 1) by omega]
  have e := many N 0
  rw [hA0, g0, Nat.add_zero, hN, Nat.zero_add] at e
  injection e with e
  obtain ⟨e1, e2, _⟩ := solo_inj e
  rcases (hg N).1 with hm | hm
  · rw [← e1, hl.1] at hm
    cases hm
  · have := congrArg List.length e2
    simp only [List.length_append, List.length_cons, List.length_nil] at this
    exact hm (List.eq_nil_of_length_eq_zero (by omega))

/-- goroutine 0 in the company of goroutines that only leave: at each step the count of draws may have turned -/
inductive GoesW (P : Program) (Stop : Goroutine → World → Prop) : Goroutine → World → Prop
  | stop (g : Goroutine) (w : World) (h : ∀ d, Stop g (w.at d)) : GoesW P Stop g w
  | step (g : Goroutine) (w : World) (hs : g.status = .running) (ng : Nat → Goroutine) (nw : Nat → World) (es : Nat → Array Event) (hgo : ∀ d, stepG P true g (w.at d) = .go (ng d) (nw d) (es d))
      (hev : ∀ d, ∀ e ∈ es d, EvOk e) (h : ∀ d, GoesW P Stop (ng d) (nw d)) : GoesW P Stop g w

theorem leaving_tp {fr : Frame} {v : Value} {w : World} (h : fr.leaving P w (.returned v)) (τ : Tp) (d : Nat) : fr.leaving P (tp w τ d) (.returned v) := by
  obtain ⟨h1, h2, h3, fn, h4, h5⟩ := h
  refine ⟨h1, h2, h3, fn, h4, ?_⟩
  rcases e : (results fn fr.tmps).runT P w #[] with ⟨r, es⟩
  obtain ⟨_, _, hl⟩ := local_of_mild P _ (mild_results fn fr.tmps) w #[] r es e
  have e1 : r = .ok v w := by
    have := Sem.runT_fst P (results fn fr.tmps) w #[]
    rw [e, h5] at this
    exact this
  subst e1
  have := hl τ d (fun j hlt => by simp only [wof] at hlt; omega)
  have h6 := Sem.runT_fst P (results fn fr.tmps) (tp w τ d) #[]
  rw [this] at h6
  rw [← h6]
  simp [rtp, wof]

/-- behind its return to the trap the run ends -/
theorem ends_behind {fr fr' : Frame} {w w' : World} (hF : TameF S fr) (hm : fr.mode ≠ .run) (h : Steps P (solo (G fr [trap P, trap P]) w) (solo (G fr' [trap P, trap P]) w')) : fr = fr' ∧ w = w' := by
  rcases steps_cases h with e | ⟨m₁, h1, h2⟩
  · obtain ⟨e1, _, e3⟩ := solo_inj e
    exact ⟨e1, e3⟩
  · exfalso
    have dead1 : ∀ chain w₁, m₁ = solo (G ((trap P).raise chain) [trap P]) w₁ → False := by
      rintro chain w₁ rfl
      obtain ⟨o, w2, es, he⟩ := trap_raise P chain [trap P] w₁
      rcases steps_cases h2 with e | ⟨m₂, h3, _⟩
      · have := (solo_inj e).2.1
        simp at this
      · rw [step_solo_ended rfl he] at h3
        cases h3
    have dead2 : ∀ v w₁, m₁ = solo (G ((trap P).finish v) [trap P]) w₁ → False := by
      rintro v w₁ rfl
      rcases steps_cases h2 with e | ⟨m₂, h3, h4⟩
      · have := (solo_inj e).2.1
        simp at this
      · rw [step_solo_go rfl (trap_finish P v [] w₁)] at h3
        cases h3
        obtain ⟨o, w2, es, he⟩ := trap_raise P [] [] w₁
        rcases steps_cases h4 with e | ⟨m₃, h5, _⟩
        · have := (solo_inj e).2.1
          simp at this
        · rw [step_solo_ended rfl he] at h5
          cases h5
    obtain ⟨fn, tmps, todo, defers, mode, kind, ro⟩ := fr
    obtain ⟨t1, t2, t3, t4⟩ := hF
    simp only at t1 t2 t3 t4 hm
    subst t2 t3 t4
    cases mode with
    | run => exact hm rfl
    | panicking chain =>
      have hcat : Frame.catches P ⟨fn, tmps, todo, [], .panicking chain, .normal, none⟩ = false := by
        unfold Frame.catches
        split
        · rename_i d b r s k _ e
          exact absurd (t1 (.call d b r s) (by simp only at e; rw [e]; simp)) (by simp [tameItem])
        · rfl
      rw [step_solo_go (a' := G ((trap P).raise chain) [trap P]) (w' := w) (es := #[]) rfl (by simp [G, stepG, unwind, hcat])] at h1
      cases h1
      exact dead1 chain w rfl
    | returning =>
      cases hf : P.funcs[fn]? with
      | none =>
        rw [step_solo_go (a' := G ((trap P).finish (tmps.getD 0 undef)) [trap P]) (w' := w) (es := #[]) rfl (by simp [G, stepG, unwind, hf, doReturn])] at h1
        cases h1
        exact dead2 _ w rfl
      | some f =>
        rcases e : (results f tmps).runT P w #[] with ⟨r, es⟩
        cases r with
        | ok v w1 =>
          rw [step_solo_go (a' := G ((trap P).finish v) [trap P]) (w' := w1) (es := seen P fn es) rfl (by simp [G, stepG, unwind, hf, e, doReturn, GStep.after, -Sem.runT_eq])] at h1
          cases h1
          exact dead2 v w1 rfl
        | halt x w1 =>
          obtain ⟨o, w2, es2, he⟩ : ∃ o w' es', stepG P true (G ⟨fn, tmps, todo, [], .returning, .normal, none⟩ [trap P, trap P]) w = .ended o w' es' := by
            rcases mild_halts P _ (mild_results f tmps) w #[] x w1 es e with ⟨v, rfl⟩ | ⟨u, rfl⟩ | ⟨t, rfl⟩ <;> simp [G, stepG, unwind, hf, e, GStep.after, -Sem.runT_eq]
          rw [step_solo_ended rfl he] at h1
          cases h1

/-- the stop: at the return of the lowest of its plain frames, in Q -/
def AtLeave (P : Program) (Q : Frame → Value → World → Prop) (cs1 : List Frame) (g : Goroutine) (w : World) : Prop :=
  ∃ fr v, g = G fr cs1 ∧ fr.leaving P w (.returned v) ∧ Q fr v w

theorem goesW_of_returns (hS : Closed P S) (hE : NoEarly P) (hQ : ∀ fr v w τ d, Q fr v w → Q fr v (tp w τ d)) (cs1 : List Frame) (x : Pl) (ht : x.tame S) (hx : Returns1 P Q x) :
    ∀ (τ : Tp) (d : Nat), GoesW P (AtLeave P Q cs1) (G x.fr (x.cs ++ cs1)) (tp x.w τ d) := by
  have hacc : Acc (Rel1 P S) x := acc_of_returns hx
  induction hacc with
  | intro x _ ih =>
    intro τ d0
    by_cases hm : x.moves
    · have key : ∀ d : Nat, ∃ (y : Pl) (w' : World) (es : Array Event), stepG P true (G x.fr (x.cs ++ cs1)) ((tp x.w τ d0).at d) = .go (G y.fr (y.cs ++ cs1)) w' es ∧ (∀ e ∈ es, EvOk e) ∧ GoesW P (AtLeave P Q cs1) (G y.fr (y.cs ++ cs1)) w' := by
        intro d
        obtain ⟨τ', D, fr', v, w', hj, hst, hl, hq⟩ := hx (fun j => τ (d + j))
        rcases step_tame (main := true) (w := tp x.w τ' D) hS hE ht.1 ht.2 hm with he | ⟨fr1, cs0, w1, es, hn⟩
        · exfalso
          obtain ⟨o, w2, es, he⟩ := he [trap P, trap P]
          rcases steps_cases hst with e | ⟨m₁, h1, h2⟩
          · obtain ⟨e1, e2, e3⟩ := solo_inj e
            rcases hm with hm | hm
            · rw [e1, hl.1] at hm
              cases hm
            · have := congrArg List.length e2
              simp only [List.length_append, List.length_cons, List.length_nil] at this
              exact hm (List.eq_nil_of_length_eq_zero (by omega))
          · rw [step_solo_ended rfl he] at h1
            cases h1
        · have hgo := hn.go cs1 τ d (fun j _ => (hj j).symm)
          refine ⟨⟨fr1, cs0, w1⟩, _, es, hgo, hn.evs, ?_⟩
          exact ih ⟨fr1, cs0, w1⟩ ⟨hm, τ', D, es, hn⟩ ⟨hn.tame, hn.tames⟩ (returns_next (y := ⟨fr1, cs0, w1⟩) hx hm hn) τ _
      exact .step _ _ rfl (fun d => G (Classical.choose (key d)).fr ((Classical.choose (key d)).cs ++ cs1)) (fun d => Classical.choose (Classical.choose_spec (key d))) (fun d => Classical.choose (Classical.choose_spec (Classical.choose_spec (key d))))
        (fun d => (Classical.choose_spec (Classical.choose_spec (Classical.choose_spec (key d)))).1) (fun d => (Classical.choose_spec (Classical.choose_spec (Classical.choose_spec (key d)))).2.1)
        (fun d => (Classical.choose_spec (Classical.choose_spec (Classical.choose_spec (key d)))).2.2)
    · have hm1 : x.fr.mode ≠ .run := fun h => hm (.inl h)
      have hm2 : x.cs = [] := Classical.byContradiction fun h => hm (.inr h)
      refine .stop _ _ fun d => ?_
      obtain ⟨τ', D, fr', v, w', hj, hst, hl, hq⟩ := hx (fun j => τ (d + j))
      rw [hm2] at hst
      obtain ⟨rfl, rfl⟩ := ends_behind ht.1 hm1 hst
      exact ⟨x.fr, v, by rw [hm2]; rfl, leaving_tp hl τ d, hQ x.fr v (tp x.w τ' D) τ d hq⟩
end
end Go.Proofs.Ytiikledbflgejaa
