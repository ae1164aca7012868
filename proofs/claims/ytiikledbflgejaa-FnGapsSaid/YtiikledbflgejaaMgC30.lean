/- Texts put together. -/
import Derived.Test.YtiikledbflgejaaMgC29
/- A stack of plain frames, the lowest of which has more items behind its plain ones: alone, on every tape, it comes to the end of the plain ones (or to its return); then in company too. -/
namespace Go.Proofs.Ytiikledbflgejaa
open Go.Conc

def extL (k : List Item) : List Frame → List Frame
  | [] => []
  | [c] => [ext k c]
  | c :: d :: l => c :: extL k (d :: l)
/-- the goroutine of such a stack over the callers cs -/
def gl (k : List Item) (fr : Frame) (cs0 cs : List Frame) : Goroutine :=
  match cs0 with
  | [] => G (ext k fr) cs
  | c :: l => G fr (extL k (c :: l) ++ cs)
theorem gl_nil (k : List Item) (fr : Frame) (cs : List Frame) : gl k fr [] cs = G (ext k fr) cs := rfl
theorem gl_cons (k : List Item) (fr c : Frame) (l cs : List Frame) : gl k fr (c :: l) cs = G fr (extL k (c :: l) ++ cs) := rfl
theorem extL_length (k : List Item) : ∀ l, (extL k l).length = l.length
  | [] => rfl
  | [c] => rfl
  | c :: d :: l => by simp only [extL, List.length_cons, extL_length k (d :: l)]
theorem gl_running (k : List Item) (fr : Frame) (cs0 cs : List Frame) : (gl k fr cs0 cs).status = .running := by cases cs0 <;> rfl

structure TameL (S : FuncId → Bool) (fr : Frame) (cs0 : List Frame) : Prop where
  top : TameF S fr
  below : ∀ c ∈ cs0, TameF S c ∧ c.todo ≠ []
def MovesL (fr : Frame) (cs0 : List Frame) : Prop := cs0 = [] → fr.mode = .run ∧ fr.todo ≠ []

structure NextL (P : Program) (S : FuncId → Bool) (fr : Frame) (cs0 : List Frame) (w : World) (fr' : Frame) (cs0' : List Frame) (w' : World) (es : Array Event) : Prop where
  tame : TameL S fr' cs0'
  evs : ∀ e ∈ es, EvOk e
  drawn : w.drawn ≤ w'.drawn
  tape : w'.tape = w.tape
  go : ∀ (k : List Item) (cs : List Frame) (τ : Tp) (D : Nat), (∀ j, w.drawn + j < w'.drawn → τ (D + j) = w.tape (w.drawn + j)) →
    stepG P true (gl k fr cs0 cs) (tp w τ D) = .go (gl k fr' cs0' cs) (tp w' τ (D + (w'.drawn - w.drawn))) es
def EndsL (P : Program) (fr : Frame) (cs0 : List Frame) (w : World) : Prop := ∀ cs, ∃ o w' es, stepG P true (gl dead fr cs0 cs) w = .ended o w' es

/-- a frame on its way out -/
theorem unwind_top {P : Program} {S : FuncId → Bool} {fr : Frame} {w : World} (hF : TameF S fr) (hm : fr.mode ≠ .run) :
    (∀ c1 cs, ∃ o w' es, stepG P true (G fr (c1 :: cs)) w = .ended o w' es) ∨
    ∃ (φ : Frame → Frame) (w' : World) (es : Array Event), ((∃ ch, φ = fun c => c.raise ch) ∨ ∃ v, φ = fun c => c.finish v) ∧ (∀ e ∈ es, EvOk e) ∧ w.drawn ≤ w'.drawn ∧ w'.tape = w.tape ∧
      ∀ (c1 : Frame) (cs : List Frame) (τ : Tp) (D : Nat), (∀ j, w.drawn + j < w'.drawn → τ (D + j) = w.tape (w.drawn + j)) →
        stepG P true (G fr (c1 :: cs)) (tp w τ D) = .go (G (φ c1) cs) (tp w' τ (D + (w'.drawn - w.drawn))) es := by
  obtain ⟨fn, tmps, todo, defers, mode, kind, ro⟩ := fr
  obtain ⟨h1, h2, h3, h4⟩ := hF
  simp only at h1 h2 h3 h4 hm
  subst h2 h3 h4
  cases mode with
  | run => exact absurd rfl hm
  | panicking chain =>
    have hcat : Frame.catches P ⟨fn, tmps, todo, [], .panicking chain, .normal, none⟩ = false := by
      unfold Frame.catches
      split
      · rename_i d b r s k _ e
        exact absurd (h1 (.call d b r s) (by simp only at e; rw [e]; simp)) (by simp [tameItem])
      · rfl
    refine .inr ⟨fun c => c.raise chain, w, #[], .inl ⟨chain, rfl⟩, by simp, Nat.le_refl _, rfl, fun c1 cs τ D _ => ?_⟩
    rw [Nat.sub_self]
    simp [G, stepG, unwind, hcat]
  | returning =>
    cases hf : P.funcs[fn]? with
    | none =>
      refine .inr ⟨fun c => c.finish (tmps.getD 0 undef), w, #[], .inr ⟨_, rfl⟩, by simp, Nat.le_refl _, rfl, fun c1 cs τ D _ => ?_⟩
      rw [Nat.sub_self]
      simp [G, stepG, unwind, hf, doReturn]
    | some f =>
      have hmr := mild_results f tmps
      rcases e : (results f tmps).runT P w #[] with ⟨r, es⟩
      obtain ⟨hd, ht, hl⟩ := local_of_mild P _ hmr w #[] r es e
      have hev := mild_events P _ hmr w #[] (by simp)
      rw [e] at hev
      cases r with
      | ok v w' =>
        refine .inr ⟨fun c => c.finish v, w', seen P fn es, .inr ⟨_, rfl⟩, seen_ok P _ _ hev, hd, ht, fun c1 cs τ D hj => ?_⟩
        have el := hl τ D hj
        simp only [G, stepG, unwind, hf, el, rtp, doReturn]
        simp [GStep.after, wof]
      | halt x w' =>
        refine .inl fun c1 cs => ?_
        rcases mild_halts P _ hmr w #[] x w' es e with ⟨v, rfl⟩ | ⟨u, rfl⟩ | ⟨t, rfl⟩ <;> simp [G, stepG, unwind, hf, e, GStep.after, -Sem.runT_eq]

theorem step_L {P : Program} {S : FuncId → Bool} (hS : Closed P S) (hE : NoEarly P) {fr : Frame} {cs0 : List Frame} {w : World} (hT : TameL S fr cs0) (hm : MovesL fr cs0) :
    EndsL P fr cs0 w ∨ ∃ fr' cs0' w' es, NextL P S fr cs0 w fr' cs0' w' es := by
  cases cs0 with
  | nil =>
    obtain ⟨h1, h2⟩ := hm rfl
    rcases run_base (main := true) (w := w) hS hE hT.top h2 h1 with h | ⟨fr', up, w', es, h⟩
    · exact .inl fun cs => (h cs).1
    · cases up with
      | nil => exact .inr ⟨fr', [], w', es, ⟨h.tame, by simp⟩, h.evs, h.drawn, h.tape, fun k cs τ D hj => h.go k cs τ D hj⟩
      | cons f l => exact .inr ⟨f, [fr'], w', es, ⟨h.tames f (by simp), by simpa using ⟨h.tame, h.todo (by simp)⟩⟩, h.evs, h.drawn, h.tape, fun k cs τ D hj => h.go k cs τ D hj⟩
  | cons c rest =>
    by_cases h1 : fr.mode = .run
    · by_cases h2 : fr.todo = []
      · refine .inr ⟨{ fr with mode := .returning }, c :: rest, w, #[], ⟨⟨hT.top.items, hT.top.defers, hT.top.kind, hT.top.round⟩, hT.below⟩, by simp, Nat.le_refl _, rfl, fun k cs τ D _ => ?_⟩
        rw [Nat.sub_self, gl_cons, gl_cons]
        have hr := hT.top.round
        obtain ⟨fn, tmps, todo, defers, mode, kind, ro⟩ := fr
        simp only at h1 h2 hr
        subst h1 h2 hr
        simp [G, stepG, stepG.exec]
      · rcases run_base (main := true) (w := w) hS hE hT.top h2 h1 with h | ⟨fr', up, w', es, h⟩
        · refine .inl fun cs => ?_
          have := (h (extL dead (c :: rest) ++ cs)).2
          rw [ext_nil] at this
          exact this
        · cases up with
          | nil =>
            refine .inr ⟨fr', c :: rest, w', es, ⟨h.tame, hT.below⟩, h.evs, h.drawn, h.tape, fun k cs τ D hj => ?_⟩
            have := h.go [] (extL k (c :: rest) ++ cs) τ D hj
            rw [ext_nil, ext_nil] at this
            exact this
          | cons f l =>
            refine .inr ⟨f, fr' :: c :: rest, w', es, ⟨h.tames f (by simp), fun x hx => ?_⟩, h.evs, h.drawn, h.tape, fun k cs τ D hj => ?_⟩
            · rcases List.mem_cons.1 hx with rfl | hx
              · exact ⟨h.tame, h.todo (by simp)⟩
              · exact hT.below x hx
            · have := h.go [] (extL k (c :: rest) ++ cs) τ D hj
              rw [ext_nil, ext_nil] at this
              exact this
    · have hc := hT.below c (by simp)
      have hrest : ∀ x ∈ rest, TameF S x ∧ x.todo ≠ [] := fun x hx => hT.below x (by simp [hx])
      rcases unwind_top (P := P) (w := w) hT.top h1 with h | ⟨φ, w', es, hφ, he, hd, ht, hgo⟩
      · refine .inl fun cs => ?_
        rw [gl_cons]
        cases rest with
        | nil => exact h (ext dead c) cs
        | cons d l => exact h c (extL dead (d :: l) ++ cs)
      · have tφ : TameF S (φ c) := by
          rcases hφ with ⟨ch, rfl⟩ | ⟨v, rfl⟩
          · exact tame_raise hc.1 ch
          · exact tame_finish hc.1 v
        refine .inr ⟨φ c, rest, w', es, ⟨tφ, hrest⟩, he, hd, ht, fun k cs τ D hj => ?_⟩
        rw [gl_cons]
        cases rest with
        | nil =>
          have e : φ (ext k c) = ext k (φ c) := by
            rcases hφ with ⟨ch, rfl⟩ | ⟨v, rfl⟩
            · exact ext_raise k c ch
            · exact ext_finish k hc.2 v
          have := hgo (ext k c) cs τ D hj
          rw [e] at this
          exact this
        | cons d l => exact hgo c (extL k (d :: l) ++ cs) τ D hj

/-! ### alone -/
def DoneF (fr : Frame) : Prop := (fr.mode = .run ∧ fr.todo = dead) ∨ fr.mode = .returning
def ReturnsL (P : Program) (Q : Frame → World → Prop) (x : Pl) : Prop :=
  ∀ σ : Tp, ∃ (τ : Tp) (d : Nat) (fr' : Frame) (w' : World), (∀ j, τ (d + j) = σ j) ∧ Steps P (solo (gl dead x.fr x.cs [trap P, trap P]) (tp x.w τ d)) (solo (G fr' [trap P, trap P]) w') ∧ DoneF fr' ∧ Q fr' w'
def RelL (P : Program) (S : FuncId → Bool) (y x : Pl) : Prop := MovesL x.fr x.cs ∧ ∃ (τ : Tp) (d : Nat) (es : Array Event), NextL P S x.fr x.cs (tp x.w τ d) y.fr y.cs y.w es

section
variable {P : Program} {S : FuncId → Bool} {Q : Frame → World → Prop}

/-- a place that moves is not the end -/
theorem moves_not {fr fr' : Frame} {cs0 : List Frame} {w w' : World} (hm : MovesL fr cs0) (hd : DoneF fr') (e : solo (gl dead fr cs0 [trap P, trap P]) w = solo (G fr' [trap P, trap P]) w') : False := by
  cases cs0 with
  | nil =>
    obtain ⟨h1, h2⟩ := hm rfl
    obtain ⟨e1, _, _⟩ := solo_inj e
    subst e1
    rcases hd with ⟨_, hd⟩ | hd
    · have hd : fr.todo ++ dead = dead := hd
      have := congrArg List.length hd
      simp only [List.length_append] at this
      exact h2 (List.eq_nil_of_length_eq_zero (by omega))
    · have hd : fr.mode = .returning := hd
      rw [h1] at hd
      cases hd
  | cons c l =>
    obtain ⟨_, e2, _⟩ := solo_inj e
    have := congrArg List.length e2
    rw [List.length_append, extL_length] at this
    simp at this

theorem nextL_on {fr fr' : Frame} {cs cs' : List Frame} {w w' : World} {τ : Tp} {d : Nat} {es : Array Event} (h : NextL P S fr cs (tp w τ d) fr' cs' w' es) (τ' : Tp) (D : Nat) (ha : ∀ j, d + j < w'.drawn → τ' (D + j) = τ (d + j)) (cs1 : List Frame) :
    step P (solo (gl dead fr cs cs1) (tp w τ' D)) = .next (solo (gl dead fr' cs' cs1) (tp w' τ' (D + (w'.drawn - d)))) :=
  step_solo_go (gl_running _ _ _ _) (h.go dead cs1 τ' D ha)

theorem returnsL_next {x y : Pl} (hx : ReturnsL P Q x) (hm : MovesL x.fr x.cs) {τ : Tp} {d : Nat} {es : Array Event} (h : NextL P S x.fr x.cs (tp x.w τ d) y.fr y.cs y.w es) : ReturnsL P Q y := by
  intro σ
  have hd : d ≤ y.w.drawn := h.drawn
  obtain ⟨τ', D, fr', w', hj, hst, hl, hq⟩ := hx (fun j => if j < y.w.drawn - d then τ (d + j) else σ (j - (y.w.drawn - d)))
  refine ⟨τ', D + (y.w.drawn - d), fr', w', fun j => ?_, ?_, hl, hq⟩
  · rw [Nat.add_assoc, hj, if_neg (by omega)]
    congr 1
    omega
  · have hstep := nextL_on h τ' D (fun j hlt => by rw [hj, if_pos (by omega)]) [trap P, trap P]
    rcases steps_cases hst with e | ⟨m₁, h1, h2⟩
    · exact (moves_not hm hl e).elim
    · rw [hstep] at h1
      cases h1
      exact h2

theorem acc_of_returnsL {x : Pl} (hx : ReturnsL P Q x) : Acc (RelL P S) x := by
  apply Classical.byContradiction
  intro h
  have hnext : ∀ z : { x // ¬ Acc (RelL P S) x }, ∃ y : { x // ¬ Acc (RelL P S) x }, RelL P S y.1 z.1 := by
    intro z
    apply Classical.byContradiction
    intro hn
    apply z.2
    refine ⟨_, fun y hy => ?_⟩
    apply Classical.byContradiction
    intro hy'
    exact hn ⟨⟨y, hy'⟩, hy⟩
  obtain ⟨nx, hnx⟩ : ∃ nx : { x // ¬ Acc (RelL P S) x } → { x // ¬ Acc (RelL P S) x }, ∀ z, RelL P S (nx z).1 z.1 := ⟨fun z => Classical.choose (hnext z), fun z => Classical.choose_spec (hnext z)⟩
  let g : Nat → { x // ¬ Acc (RelL P S) x } := fun n => Nat.rec ⟨x, h⟩ (fun _ z => nx z) n
  have hg : ∀ n, RelL P S (g (n + 1)).1 (g n).1 := fun n => hnx (g n)
  have g0 : (g 0).1 = x := rfl
  generalize hf : (fun n => (g n).1) = f at *
  have hf' : ∀ n, (g n).1 = f n := fun n => congrFun hf n
  simp only [hf'] at hg g0
  clear hf hf' hnx hnext
  have hch : ∀ n, ∃ p : Tp × Nat × Array Event, NextL P S (f n).fr (f n).cs (tp (f n).w p.1 p.2.1) (f (n + 1)).fr (f (n + 1)).cs (f (n + 1)).w p.2.2 := fun n => by
    obtain ⟨_, τ, d, es, hn⟩ := hg n
    exact ⟨(τ, d, es), hn⟩
  obtain ⟨p, hp⟩ : ∃ p : Nat → Tp × Nat × Array Event, ∀ n, NextL P S (f n).fr (f n).cs (tp (f n).w (p n).1 (p n).2.1) (f (n + 1)).fr (f (n + 1)).cs (f (n + 1)).w (p n).2.2 := ⟨fun n => Classical.choose (hch n), fun n => Classical.choose_spec (hch n)⟩
  let A : Nat → Nat := fun n => Nat.rec 0 (fun n a => a + ((f (n + 1)).w.drawn - (p n).2.1)) n
  have hA : ∀ n, A (n + 1) = A n + ((f (n + 1)).w.drawn - (p n).2.1) := fun n => rfl
  have hA0 : A 0 = 0 := rfl
  generalize A = A at hA hA0
  have mono : ∀ n k, A n ≤ A (n + k) := by
    intro n k
    induction k with
    | zero => exact Nat.le_refl _
    | succ k ih =>
      have := hA (n + k)
      rw [← Nat.add_assoc]
      omega
  have uniq : ∀ n k m, A n ≤ m → m < A (n + 1) → A k ≤ m → m < A (k + 1) → n = k := by
    intro n k m h1 h2 h3 h4
    rcases Nat.lt_trichotomy n k with hlt | he | hlt
    · have := mono (n + 1) (k - (n + 1))
      rw [show n + 1 + (k - (n + 1)) = k by omega] at this
      omega
    · exact he
    · have := mono (k + 1) (n - (k + 1))
      rw [show k + 1 + (n - (k + 1)) = n by omega] at this
      omega
  obtain ⟨T, hT⟩ : ∃ T : Tp, ∀ n m, A n ≤ m → m < A (n + 1) → T m = (p n).1 ((p n).2.1 + (m - A n)) := by
    refine ⟨fun m => Classical.epsilon fun t => ∀ n, A n ≤ m → m < A (n + 1) → t = (p n).1 ((p n).2.1 + (m - A n)), fun n m h1 h2 => ?_⟩
    have := Classical.epsilon_spec (p := fun t => ∀ n, A n ≤ m → m < A (n + 1) → t = (p n).1 ((p n).2.1 + (m - A n)))
      ⟨(p n).1 ((p n).2.1 + (m - A n)), fun k h3 h4 => by rw [uniq n k m h1 h2 h3 h4]⟩
    exact this n h1 h2
  obtain ⟨τ0, D0, fr', w', hj, ⟨N, hN⟩, hl, hq⟩ := hx T
  have one : ∀ n, step P (solo (gl dead (f n).fr (f n).cs [trap P, trap P]) (tp (f n).w τ0 (D0 + A n))) = .next (solo (gl dead (f (n + 1)).fr (f (n + 1)).cs [trap P, trap P]) (tp (f (n + 1)).w τ0 (D0 + A (n + 1)))) := by
    intro n
    have := nextL_on (hp n) τ0 (D0 + A n) (fun j hlt => by
      rw [Nat.add_assoc, hj, hT n (A n + j) (by omega) (by rw [hA]; omega), Nat.add_sub_cancel_left]) [trap P, trap P]
    rw [this, hA, Nat.add_assoc]
  have many : ∀ n k, runN P n (solo (gl dead (f k).fr (f k).cs [trap P, trap P]) (tp (f k).w τ0 (D0 + A k))) = .next (solo (gl dead (f (k + n)).fr (f (k + n)).cs [trap P, trap P]) (tp (f (k + n)).w τ0 (D0 + A (k + n)))) := by
    intro n
    induction n with
    | zero => exact fun k => rfl
    | succ n ih =>
      intro k
      simp only [runN, one k, ih (k + 1)]
      rw [show k + 1 + n = k + (n + 1) by omega]
  have e := many N 0
  rw [hA0, g0, Nat.add_zero, hN, Nat.zero_add] at e
  injection e with e
  exact moves_not (hg N).1 hl e.symm

/-- behind its end the run ends -/
theorem ends_behindL {fr fr' : Frame} {w w' : World} (hF : TameF S fr) (hm : ¬ MovesL fr []) (h : Steps P (solo (gl dead fr [] [trap P, trap P]) w) (solo (G fr' [trap P, trap P]) w')) : ext dead fr = fr' ∧ w = w' := by
  rw [gl_nil] at h
  by_cases h1 : fr.mode = .run
  · have h2 : fr.todo = [] := Classical.byContradiction fun h2 => hm fun _ => ⟨h1, h2⟩
    rcases steps_cases h with e | ⟨m₁, h3, h4⟩
    · obtain ⟨e1, _, e3⟩ := solo_inj e
      exact ⟨e1, e3⟩
    · exfalso
      obtain ⟨o, w2, es, he⟩ : ∃ o w2 es, stepG P true (G (ext dead fr) [trap P, trap P]) w = .ended o w2 es := by
        obtain ⟨fn, tmps, todo, defers, mode, kind, ro⟩ := fr
        simp only at h1 h2
        subst h1 h2
        simp [G, ext, dead, stepG, stepG.exec]
      rw [step_solo_ended rfl he] at h3
      cases h3
  · -- on its way out
    have hFe : TameF S (ext dead fr) := ⟨fun x hx => by
      rcases List.mem_append.1 hx with hx | hx
      · exact hF.items x hx
      · simp [dead] at hx
        subst hx
        rfl, hF.defers, hF.kind, hF.round⟩
    exact ends_behind hFe h1 h

/-- the place at which it stops -/
def AtDone (Q : Frame → World → Prop) (k : List Item) (cs1 : List Frame) (g : Goroutine) (w : World) : Prop :=
  ∃ fr, g = G (ext k fr) cs1 ∧ DoneF (ext dead fr) ∧ Q (ext dead fr) w

theorem goesW_of_returnsL (hS : Closed P S) (hE : NoEarly P) (hQ : ∀ fr w τ d, Q fr w → Q fr (tp w τ d)) (k : List Item) (cs1 : List Frame) (x : Pl) (ht : TameL S x.fr x.cs) (hx : ReturnsL P Q x) :
    ∀ (τ : Tp) (d : Nat), GoesW P (AtDone Q k cs1) (gl k x.fr x.cs cs1) (tp x.w τ d) := by
  have hacc : Acc (RelL P S) x := acc_of_returnsL hx
  induction hacc with
  | intro x _ ih =>
    intro τ d0
    by_cases hm : MovesL x.fr x.cs
    · have key : ∀ d : Nat, ∃ (y : Pl) (w' : World) (es : Array Event), stepG P true (gl k x.fr x.cs cs1) ((tp x.w τ d0).at d) = .go (gl k y.fr y.cs cs1) w' es ∧ (∀ e ∈ es, EvOk e) ∧ GoesW P (AtDone Q k cs1) (gl k y.fr y.cs cs1) w' := by
        intro d
        obtain ⟨τ', D, fr', w', hj, hst, hl, hq⟩ := hx (fun j => τ (d + j))
        rcases step_L (w := tp x.w τ' D) hS hE ht hm with he | ⟨fr1, cs0, w1, es, hn⟩
        · exfalso
          obtain ⟨o, w2, es, he⟩ := he [trap P, trap P]
          rcases steps_cases hst with e | ⟨m₁, h1, h2⟩
          · exact moves_not hm hl e
          · rw [step_solo_ended (gl_running _ _ _ _) he] at h1
            cases h1
        · have hgo := hn.go k cs1 τ d (fun j _ => (hj j).symm)
          refine ⟨⟨fr1, cs0, w1⟩, _, es, hgo, hn.evs, ?_⟩
          exact ih ⟨fr1, cs0, w1⟩ ⟨hm, τ', D, es, hn⟩ hn.tame (returnsL_next (y := ⟨fr1, cs0, w1⟩) hx hm hn) τ _
      exact .step _ _ (gl_running _ _ _ _) (fun d => gl k (Classical.choose (key d)).fr (Classical.choose (key d)).cs cs1) (fun d => Classical.choose (Classical.choose_spec (key d))) (fun d => Classical.choose (Classical.choose_spec (Classical.choose_spec (key d))))
        (fun d => (Classical.choose_spec (Classical.choose_spec (Classical.choose_spec (key d)))).1) (fun d => (Classical.choose_spec (Classical.choose_spec (Classical.choose_spec (key d)))).2.1)
        (fun d => (Classical.choose_spec (Classical.choose_spec (Classical.choose_spec (key d)))).2.2)
    · have hcs : x.cs = [] := by
        apply Classical.byContradiction
        intro h
        exact hm fun e => absurd e h
      refine .stop _ _ fun d => ?_
      obtain ⟨τ', D, fr', w', hj, hst, hl, hq⟩ := hx (fun j => τ (d + j))
      rw [hcs] at hst hm
      obtain ⟨rfl, rfl⟩ := ends_behindL ht.top hm hst
      exact ⟨x.fr, by rw [hcs]; rfl, hl, hQ _ (tp x.w τ' D) τ d hq⟩
end
end Go.Proofs.Ytiikledbflgejaa
