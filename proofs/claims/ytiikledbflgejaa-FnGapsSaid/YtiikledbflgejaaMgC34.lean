/- Texts put together. -/
import Derived.Test.YtiikledbflgejaaMgC33
/- From the walk in company to the good run that the row asks for; and when no variable waits for its initialiser. -/
namespace Go.Proofs.Ytiikledbflgejaa
open Go.Conc

theorem noEarly_of {P : Program} (hf : P.follows .staticDataAhead = true) (hr : P.funcs.all (fun f => (f.body.map readies).all (·.isEmpty)) = true) : NoEarly P := by
  intro fr callers dying g w
  have hs : P.stepOf g = none := by
    unfold Program.stepOf
    rw [Array.findIdx?_eq_none_iff]
    intro f hm
    have h := Array.all_eq_true'.1 hr f hm
    cases hb : f.body.map readies with
    | none => rfl
    | some l =>
      rw [hb] at h
      simp only [Option.all_some, List.isEmpty_iff] at h
      subst h
      rfl
  unfold early
  simp only [hf, hs]
  exact ⟨_, _, _, rfl⟩

section
variable {P : Program} {Post : Value → World → Prop}

/-- goroutine 0 at the return of its lowest frame -/
def AtRet (P : Program) (f : FuncId) (Post : Value → World → Prop) (g : Goroutine) (w : World) : Prop :=
  ∃ fr v, g = G fr [] ∧ fr.leaving P w (.returned v) ∧ fr.fn = f ∧ Post v w

theorem can_of_ccalls {f : FuncId} {args : Array Value} {w : World} {R : Value → World → Prop} (h : CCalls P f args w R) : Can P (AtRet P f fun v w' => ∃ d, R v (w'.at d)) (G (Frame.enter P f args .normal) []) w :=
  h _ [] fun fr v w' hR hl hf => Can.fin fun d => ⟨fr, v, rfl, leaving_tp hl w'.tape d, hf, w'.drawn, hR⟩

theorem run_of_can {f : FuncId} {args : Array Value} {W : World} (hPost : ∀ v w d, Post v w → Post v (w.at d)) (hini : P.inits.idxOf? f = none) (h : Can P (AtRet P f Post) (G (Frame.enter P f args .normal) []) W) :
    ∃ M last o w' t', runNT P (M + 1) (solo (G (Frame.enter P f args .normal) []) W) #[] = (.ended o w', t') ∧ runN P M (solo (G (Frame.enter P f args .normal) []) W) = .next last ∧ step P last = .ended o w' ∧ Conc.Good P Post last o w' t' := by
  obtain ⟨N, gs, a, w, sl, t, q, hr, h0, ⟨fr, v, rfl, hl, hfn, hp⟩, hL, B, hP⟩ := h W.drawn #[G (Frame.enter P f args .normal) []] none #[] (fun _ => 0) rfl (leavers_one P _) ⟨0, past_nil⟩
  obtain ⟨l1, l2, l3, fn, l4, l5⟩ := hl
  rcases e : (results fn fr.tmps).runT P w #[] with ⟨r, es⟩
  have hloc := local_of_mild P _ (mild_results fn fr.tmps) w #[] r es e
  have h1 := Sem.runT_fst P (results fn fr.tmps) w #[]
  rw [e, l5] at h1
  have h1 : r = .ok v w := h1
  subst h1
  have hev := mild_events P _ (mild_results fn fr.tmps) w #[] (by simp)
  rw [e] at hev
  obtain ⟨C, hC⟩ := lows_some (seen P fr.fn es)
  have hP' := hP.mono (Nat.le_max_left B C)
  have hEnd : ∀ d, AtEnd P NoShun (max B C) Post (G fr []) (w.at d) := fun d => by
    refine ⟨rfl, v, seen P fr.fn es, ?_, evL_of (seen_ok P _ _ hev) (fun x hx => MemAct.low_mono (Nat.le_max_right _ _) (hC x hx)), hPost _ _ _ hp⟩
    have e2 := hloc.2.2 w.tape d (fun j hlt => by simp only [wof] at hlt; omega)
    have e2 : (results fn fr.tmps).runT P (w.at d) #[] = (.ok v (w.at d), es) := by
      rw [show w.at d = tp w w.tape d from rfl, e2]
      simp [rtp, wof]
    have l4' : P.funcs[f]? = some fn := hfn ▸ l4
    simp only [G, stepG, unwind, l1, l2, e2, doReturn, l3, Bool.not_true, Bool.false_eq_true, if_false, hfn, hini, l4']
    simp [GStep.after]
  have hG : Goes P true AtRel (fun _ _ es => ∀ e ∈ es, EvL NoShun (max B C) e) (AtEnd P NoShun (max B C) Post) 0 (G fr []) w := by
    rintro w₁ ⟨d, rfl⟩
    exact hEnd d
  obtain ⟨M, last, o, w', t', r1, r2, r3, r4⟩ := beside_ends (sl := sl) (fun _ _ _ h => h) h0 hL hP' hG
  have hr' : runNT P N (solo (G (Frame.enter P f args .normal) []) W) #[] = (.next (crowd gs w sl), t) := hr
  refine ⟨N + M, last, o, w', t', ?_, ?_, r3, r4⟩
  · rw [Nat.add_assoc, runNT_add, hr']; exact r1
  · rw [runN_add, ← runNT_fst P N _ #[], hr']; exact r2
end
end Go.Proofs.Ytiikledbflgejaa
