/- Texts put together. -/
import Derived.Test.YtiikledbflgejaaMgC26
import Derived.Conc.Fork
/- From runs of one goroutine alone, on every tape, to its walk in the company of goroutines that only leave (well-founded: the number of steps hangs on the answers). Condition: plain frames. -/
namespace Go.Proofs.Ytiikledbflgejaa
open Go.Conc

/-- a caller at which the run ends, however it is come to -/
def trap (P : Program) : Frame := { fn := P.funcs.size, tmps := #[], todo := [.call default false "fmt's door" #[]], defers := [], mode := .panicking [], kind := .normal }
theorem trap_catches (P : Program) (m : FrameMode) : Frame.catches P { trap P with mode := m } = true := by
  unfold Frame.catches trap
  have h : P.funcs[P.funcs.size]? = none := by simp
  simp only [h]
  simp
theorem trap_raise (P : Program) (chain : List PanicEntry) (cs : List Frame) (w : World) : ∃ o w' es, stepG P true (G ((trap P).raise chain) cs) w = .ended o w' es := by
  have e : (trap P).raise chain = { trap P with mode := .panicking chain } := by
    simp [Frame.raise, trap]
  have hc := trap_catches P (.panicking chain)
  rw [e]
  simp only [trap] at hc ⊢
  simp [G, stepG, unwind, hc]
theorem trap_finish (P : Program) (v : Value) (cs : List Frame) (w : World) : stepG P true (G ((trap P).finish v) (trap P :: cs)) w = .go (G ((trap P).raise []) cs) w := by
  simp [G, stepG, unwind, trap, Frame.finish, Frame.catches]

theorem solo_lone (fr : Frame) (cs : List Frame) (w : World) : lone fr cs w = solo (G fr cs) w := rfl
theorem step_solo_go {P : Program} {a a' : Goroutine} {w w' : World} {es : Array Event} (hs : a.status = .running) (h : stepG P true a w = .go a' w' es) : step P (solo a w) = .next (solo a' w') := by
  unfold step
  rw [stepT_solo hs, runT_solo_go h]
theorem step_solo_ended {P : Program} {a : Goroutine} {o : Outcome} {w w' : World} {es : Array Event} (hs : a.status = .running) (h : stepG P true a w = .ended o w' es) : step P (solo a w) = .ended o w' := by
  unfold step
  rw [stepT_solo hs]
  simp [runT, solo, Array.swapAt!, Array.swapAt, h, GStep.es]
theorem steps_cases {P : Program} {m m' : Machine} (h : Steps P m m') : m = m' ∨ ∃ m₁, step P m = .next m₁ ∧ Steps P m₁ m' := by
  obtain ⟨n, hn⟩ := h
  cases n with
  | zero => exact .inl (by simpa [runN] using hn)
  | succ n =>
    simp only [runN] at hn
    cases hs : step P m with
    | next m₁ => rw [hs] at hn; exact .inr ⟨m₁, rfl, n, hn⟩
    | ended o w => rw [hs] at hn; cases hn

theorem solo_inj {fr fr' : Frame} {cs cs' : List Frame} {w w' : World} (h : solo (G fr cs) w = solo (G fr' cs') w') : fr = fr' ∧ cs = cs' ∧ w = w' := by
  unfold solo G at h
  injection h with h1 h2
  injection h2 with h2
  injection h2 with h2
  injection h2 with h3 h4
  exact ⟨h3, h4, h1⟩

/-- a place in a run: the frame, those above the callers, the world -/
structure Pl where
  fr : Frame
  cs : List Frame
  w : World
def Pl.tame (S : FuncId → Bool) (x : Pl) : Prop := TameF S x.fr ∧ ∀ c ∈ x.cs, TameF S c
def Pl.moves (x : Pl) : Prop := x.fr.mode = .run ∨ x.cs ≠ []
/-- alone, whatever answers are given, it comes to the return, in Q -/
def Returns1 (P : Program) (Q : Frame → Value → World → Prop) (x : Pl) : Prop :=
  ∀ σ : Tp, ∃ (τ : Tp) (d : Nat) (fr' : Frame) (v : Value) (w' : World), (∀ j, τ (d + j) = σ j) ∧ Steps P (solo (G x.fr (x.cs ++ [trap P, trap P])) (tp x.w τ d)) (solo (G fr' [trap P, trap P]) w') ∧ fr'.leaving P w' (.returned v) ∧ Q fr' v w'
def Rel1 (P : Program) (S : FuncId → Bool) (y x : Pl) : Prop := x.moves ∧ ∃ (τ : Tp) (d : Nat) (es : Array Event), Next1 P S true x.fr x.cs (tp x.w τ d) y.fr y.cs y.w es

section
variable {P : Program} {S : FuncId → Bool} {Q : Frame → Value → World → Prop}

/-- a step on a stream of answers -/
theorem next1_on {fr fr' : Frame} {cs cs' : List Frame} {w w' : World} {τ : Tp} {d : Nat} {es : Array Event} (h : Next1 P S true fr cs (tp w τ d) fr' cs' w' es) (τ' : Tp) (D : Nat) (ha : ∀ j, d + j < w'.drawn → τ' (D + j) = τ (d + j)) (cs1 : List Frame) :
    step P (solo (G fr (cs ++ cs1)) (tp w τ' D)) = .next (solo (G fr' (cs' ++ cs1)) (tp w' τ' (D + (w'.drawn - d)))) :=
  step_solo_go rfl (h.go cs1 τ' D ha)

theorem returns_next {x y : Pl} (hx : Returns1 P Q x) (hm : x.moves) {τ : Tp} {d : Nat} {es : Array Event} (h : Next1 P S true x.fr x.cs (tp x.w τ d) y.fr y.cs y.w es) : Returns1 P Q y := by
  intro σ
  have hd : d ≤ y.w.drawn := h.drawn
  obtain ⟨τ', D, fr', v, w', hj, hst, hl, hq⟩ := hx (fun j => if j < y.w.drawn - d then τ (d + j) else σ (j - (y.w.drawn - d)))
  refine ⟨τ', D + (y.w.drawn - d), fr', v, w', fun j => ?_, ?_, hl, hq⟩
  · rw [Nat.add_assoc, hj, if_neg (by omega)]
    congr 1
    omega
  · have hstep := next1_on h τ' D (fun j hlt => by rw [hj, if_pos (by omega)]) [trap P, trap P]
    rcases steps_cases hst with e | ⟨m₁, h1, h2⟩
    · obtain ⟨e1, e2, e3⟩ := solo_inj e
      rcases hm with hm | hm
      · rw [e1] at hm
        rw [hl.1] at hm
        cases hm
      · exfalso
        have := congrArg List.length e2
        simp only [List.length_append, List.length_cons, List.length_nil] at this
        exact hm (List.eq_nil_of_length_eq_zero (by omega))
    · rw [hstep] at h1
      cases h1
      exact h2

theorem not_ends {x : Pl} (hx : Returns1 P Q x) (hm : x.moves) (τ : Tp) (d : Nat) (hloc : ∀ τ' D, (∀ j, τ' (D + j) = τ (d + j)) → Ends1 P true x.fr x.cs (tp x.w τ' D)) : False := by
  obtain ⟨τ', D, fr', v, w', hj, hst, hl, hq⟩ := hx (fun j => τ (d + j))
  obtain ⟨o, w1, es, he⟩ := hloc τ' D hj [trap P, trap P]
  rcases steps_cases hst with e | ⟨m₁, h1, h2⟩
  · obtain ⟨e1, e2, e3⟩ := solo_inj e
    rcases hm with hm | hm
    · rw [e1, hl.1] at hm
      cases hm
    · have := congrArg List.length e2
      simp only [List.length_append, List.length_cons, List.length_nil] at this
      exact hm (List.eq_nil_of_length_eq_zero (by omega))
  · rw [step_solo_ended rfl he] at h1
    cases h1
end
end Go.Proofs.Ytiikledbflgejaa
