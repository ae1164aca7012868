/- Texts put together. -/
import Derived.Test.YtiikledbflgejaaMgC28
import Derived.Conc.Beside
/- The machine carries out goroutine 0's well-founded walk beside goroutines that only leave, on whatever tape. -/
namespace Go.Proofs.Ytiikledbflgejaa
open Go.Conc
open Go.ConcN (sumTo upd sumTo_upd upd_ne upd_same)

def NoShun : Loc → Prop := fun _ => False

theorem low_some : ∀ x : MemAct, ∃ B, x.low B
  | .access ⟨l, _, _⟩ => by cases l <;> first | exact ⟨_, Nat.lt_succ_self _⟩ | exact ⟨0, trivial⟩
  | .mark m => by cases m <;> first | exact ⟨_, Nat.lt_succ_self _⟩ | exact ⟨0, trivial⟩
  | .go _ => ⟨0, trivial⟩
  | .start => ⟨0, trivial⟩
  | .send _ _ => ⟨_, Nat.lt_succ_self _⟩
  | .sendDone _ _ => ⟨_, Nat.lt_succ_self _⟩
  | .recv _ _ _ => ⟨_, Nat.lt_succ_self _⟩
  | .recvDone _ _ => ⟨_, Nat.lt_succ_self _⟩
  | .close _ => ⟨_, Nat.lt_succ_self _⟩
  | .recvClosed _ => ⟨_, Nat.lt_succ_self _⟩

theorem lows_some (es : Array Event) : ∃ B, ∀ e ∈ es, (MemAct.ofEvent e).low B := by
  obtain ⟨l⟩ := es
  induction l with
  | nil => exact ⟨0, by simp⟩
  | cons e l ih =>
    obtain ⟨B, hB⟩ := ih
    obtain ⟨C, hC⟩ := low_some (MemAct.ofEvent e)
    refine ⟨max B C, fun x hx => ?_⟩
    simp only [List.mem_toArray, List.mem_cons] at hx
    rcases hx with rfl | hx
    · exact MemAct.low_mono (Nat.le_max_right _ _) hC
    · exact MemAct.low_mono (Nat.le_max_left _ _) (hB x (by simpa using hx))

theorem evL_of {es : Array Event} {B : Nat} (h : ∀ e ∈ es, EvOk e) (hB : ∀ e ∈ es, (MemAct.ofEvent e).low B) : ∀ e ∈ es, EvL NoShun B e := by
  intro e he
  refine ⟨fun _ _ hs => hs.elim, fun hl => ?_, fun hl => ?_, hB e he⟩
  · have := h e he _ hl
    cases this
  · have := h e he _ hl
    cases this

/-- the trace so far, beside leavers -/
def Calm0 (t : Trace) : Prop := ∃ B, Past NoShun B t

theorem Calm0.own {t : Trace} (h : Calm0 t) {fn : FuncId} {pos : String} {es : Array Event} (hes : ∀ e ∈ es, EvOk e) : Calm0 (t ++ MemOp.ofEvents 0 fn pos es) := by
  obtain ⟨B, hP⟩ := h
  obtain ⟨C, hC⟩ := lows_some es
  exact ⟨max B C, (hP.mono (Nat.le_max_left _ _)).own (evL_of hes fun e he => MemAct.low_mono (Nat.le_max_right _ _) (hC e he))⟩
theorem Calm0.mute {t : Trace} (h : Calm0 t) {g : Nat} (hg : g ≠ 0) {fn : FuncId} {pos : String} {es : Array Event} (hm : ∀ e ∈ es, e.mute = true) : Calm0 (t ++ MemOp.ofEvents g fn pos es) := by
  obtain ⟨B, hP⟩ := h
  exact ⟨B, hP.mute hg hm⟩

theorem g_evs {g : Nat} {fn : FuncId} {pos : String} {es : Array Event} {op : MemOp} (h : op ∈ MemOp.ofEvents g fn pos es) : op.g = g := by
  rw [ofEvents_eq] at h
  obtain ⟨e, _, rfl⟩ := Array.mem_map.1 h
  rfl

section
variable {P : Program} {Stop : Goroutine → World → Prop}

theorem goesW_running {a : Goroutine} {w : World} (hst : ∀ g w, Stop g w → g.status = .running) (h : GoesW P Stop a w) : a.status = .running := by
  cases h with
  | stop _ _ h => exact hst _ _ (h 0)
  | step _ _ hs => exact hs

/-- what is reached -/
def Reach9 (P : Program) (Stop : Goroutine → World → Prop) (gs : Array Goroutine) (w : World) (sl : Option (Nat × Nat)) (t : Trace) : Prop :=
  ∃ (N : Nat) (gs' : Array Goroutine) (a' : Goroutine) (w' : World) (sl' : Option (Nat × Nat)) (t' : Trace) (q' : Nat → Nat),
    runNT P N (crowd gs w sl) t = (.next (crowd gs' w' sl'), t') ∧ gs'[0]? = some a' ∧ Stop a' w' ∧ Leavers P t' gs' q' ∧ Calm0 t'

/-- a step of goroutine 0's, of whatever make: the others may step before -/
theorem slip_then {a : Goroutine} {w : World} (hs : a.status = .running)
    (key : ∀ (gs : Array Goroutine) (d : Nat) (sl : Option (Nat × Nat)) (t : Trace) (q : Nat → Nat), gs[0]? = some a → Leavers P t gs q → Calm0 t → ∃ gs1 w1 sl1 ops, runT P (crowd gs (w.at d) sl) 0 = (.next (crowd gs1 w1 sl1), ops) ∧ Reach9 P Stop gs1 w1 sl1 (t ++ ops)) :
    ∀ (gs : Array Goroutine) (d0 : Nat) (sl : Option (Nat × Nat)) (t : Trace) (q : Nat → Nat), gs[0]? = some a → Leavers P t gs q → Calm0 t → Reach9 P Stop gs (w.at d0) sl t := by
  have inner : ∀ (M : Nat) (gs : Array Goroutine) (d0 : Nat) (sl : Option (Nat × Nat)) (t : Trace) (q : Nat → Nat), sumTo gs.size q < M → gs[0]? = some a → Leavers P t gs q → Calm0 t → Reach9 P Stop gs (w.at d0) sl t := by
    intro M
    induction M with
    | zero => exact fun gs d0 sl t q hM => absurd hM (Nat.not_lt_zero _)
    | succ M ihM =>
      intro gs d0 sl t q hM h0 hL hP
      have haw : ∀ g ∈ gs, awake g := by
        intro g hg
        obtain ⟨i, hi, rfl⟩ := Array.mem_iff_getElem.1 hg
        rcases Nat.eq_zero_or_pos i with rfl | hpos
        · have : gs[0] = a := by simpa [Array.getElem?_eq_getElem hi] using h0
          rw [this]; exact awake_of (.inl hs)
        · exact awake_of ((hL.old i _ hpos (Array.getElem?_eq_getElem hi)).status.elim .inl fun x => .inr (.inr x))
      obtain ⟨i, g, d, sl', hi, hg, hpk⟩ := crowd_pick (P := P) (w := w.at d0) (sl := sl) haw ⟨0, a, h0, hs⟩
      rcases Nat.eq_zero_or_pos i with rfl | hpos
      · obtain ⟨gs1, w1, sl1, ops, hr, N, gs', a'', w'', sl'', t', q', h1, h2, h3, h4, h5⟩ := key gs d sl' t q h0 hL hP
        exact ⟨N + 1, gs', a'', w'', sl'', t', q', by simp only [runNT, hpk.trans hr]; exact h1, h2, h3, h4, h5⟩
      · -- a leaver's step
        have hq := hL.old i g hpos hi
        have hi0 : (i == 0) = false := by simp; omega
        have hlt : i < gs.size := (Array.getElem?_eq_some_iff.1 hi).1
        cases hqi : q i with
        | zero => rw [hqi] at hq; rw [hq.1] at hg; cases hg
        | succ k =>
          rw [hqi] at hq
          rcases hq with ⟨hf, _⟩ | ⟨_, g', es', hm, hstp, hq'⟩
          · rw [hf] at hg; cases hg
          have hrunT := runT_crowd_go (P := P) (sl := sl') (i := i) hi (by rw [hi0]; exact hstp ((w.at d0).at d))
          have hsz : ((gs.map (woken P g g' ((w.at d0).at d))).setIfInBounds i g').size = gs.size := by simp
          have hsum : sumTo gs.size (upd q i k) + (k + 1) = sumTo gs.size q + k := by
            have := sumTo_upd q k id hlt
            simpa [hqi] using this
          obtain ⟨N, gs', a'', w'', sl'', t', q', hr, h0', hS, hL', hP'⟩ := ihM ((gs.map (woken P g g' ((w.at d0).at d))).setIfInBounds i g') d sl' (t ++ MemOp.ofEvents i g.frame.fn g.frame.place es') (upd q i k) (by rw [hsz]; omega)
            (by
              have hne : i ≠ 0 := by omega
              rw [Array.getElem?_setIfInBounds_ne hne, Array.getElem?_map, h0]
              simp [woken_run hs])
            ⟨fun j x hj hx => by
              by_cases hji : i = j
              · subst hji
                rw [Array.getElem?_setIfInBounds_self_of_lt (by simpa using hlt)] at hx
                obtain rfl := Option.some.inj hx
                rw [upd_same, Deaf_own]
                exact hq'
              · rw [Array.getElem?_setIfInBounds_ne hji, Array.getElem?_map] at hx
                obtain ⟨y, hy, rfl⟩ := Option.map_eq_some_iff.1 hx
                have hqj := hL.old j y hj hy
                rw [woken_quitsD hqj, upd_ne q k (Ne.symm hji), Deaf_other t hji _ (fun op hop => g_evs hop)]
                exact hqj, fun j hj => by
              rw [Deaf_other t (g' := i) (by simp at hj; omega) _ (fun op hop => g_evs hop)]
              exact hL.above j (by simpa using hj)⟩
            (hP.mute (by omega) hm)
          exact ⟨N + 1, gs', a'', w'', sl'', t', q', by simp only [runNT, hpk, hrunT]; exact hr, h0', hS, hL', hP'⟩
  exact fun gs d0 sl t q h0 hL hP => inner (sumTo gs.size q + 1) gs d0 sl t q (Nat.lt_succ_self _) h0 hL hP

theorem walk_w {a : Goroutine} {w : World} (hG : GoesW P Stop a w) :
    ∀ (gs : Array Goroutine) (d0 : Nat) (sl : Option (Nat × Nat)) (t : Trace) (q : Nat → Nat), gs[0]? = some a → Leavers P t gs q → Calm0 t → Reach9 P Stop gs (w.at d0) sl t := by
  induction hG with
  | stop a w h => exact fun gs d0 sl t q h0 hL hP => ⟨0, gs, a, w.at d0, sl, t, q, rfl, h0, h d0, hL, hP⟩
  | step a w hs ng nw es hgo hev h ih =>
    refine slip_then hs fun gs d sl t q h0 hL hP => ?_
    have hrunT := runT_crowd_go (P := P) (sl := sl) (i := 0) h0 (show stepG P (0 == 0) a (w.at d) = _ from hgo d)
    refine ⟨_, _, _, _, hrunT, ?_⟩
    have hlt : 0 < gs.size := (Array.getElem?_eq_some_iff.1 h0).1
    exact ih d ((gs.map (woken P a (ng d) (nw d))).setIfInBounds 0 (ng d)) (nw d).drawn sl (t ++ MemOp.ofEvents 0 a.frame.fn a.frame.place (es d)) q (by simp [hlt])
      ⟨fun j x hj hx => by
        have hne : 0 ≠ j := by omega
        rw [Array.getElem?_setIfInBounds_ne hne, Array.getElem?_map] at hx
        obtain ⟨y, hy, rfl⟩ := Option.map_eq_some_iff.1 hx
        have hq := hL.old j y hj hy
        rw [woken_quitsD hq, Deaf_other t (by omega) _ (fun op hop => g_evs hop)]
        exact hq, fun j hj => by
        rw [Deaf_other t (g' := 0) (by simp at hj; omega) _ (fun op hop => g_evs hop)]
        exact hL.above j (by simpa using hj)⟩
      (hP.own (hev d))
theorem reach_then {Stop' : Goroutine → World → Prop} {gs : Array Goroutine} {w : World} {sl : Option (Nat × Nat)} {t : Trace} (h : Reach9 P Stop gs w sl t)
    (h2 : ∀ (gs : Array Goroutine) (a : Goroutine) (w : World) (sl : Option (Nat × Nat)) (t : Trace) (q : Nat → Nat), gs[0]? = some a → Stop a w → Leavers P t gs q → Calm0 t → Reach9 P Stop' gs w sl t) : Reach9 P Stop' gs w sl t := by
  obtain ⟨N, gs1, a1, w1, sl1, t1, q1, r1, z1, s1, l1, c1⟩ := h
  obtain ⟨M, gs2, a2, w2, sl2, t2, q2, r2, z2, s2, l2, c2⟩ := h2 gs1 a1 w1 sl1 t1 q1 z1 s1 l1 c1
  exact ⟨N + M, gs2, a2, w2, sl2, t2, q2, by rw [runNT_add, r1]; exact r2, z2, s2, l2, c2⟩
end
end Go.Proofs.Ytiikledbflgejaa
