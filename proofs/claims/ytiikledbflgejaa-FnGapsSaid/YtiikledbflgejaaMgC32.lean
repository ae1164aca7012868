/- Texts put together. -/
import Derived.Test.YtiikledbflgejaaMgC31
import Derived.Conc.PipeGen
import Derived.Conc.CrowdComm
/- Goroutine 0 receives from one goroutine that sends over a channel without a buffer and closes it, beside goroutines that only leave, on whatever tape: behind the last receive all others only leave. Condition: the sender touches no memory. -/
namespace Go.Proofs.Ytiikledbflgejaa
open Go.Conc
open Go.ConcN (sumTo upd sumTo_upd upd_ne upd_same)

/-! ### the trace -/
def Quiet (op : MemOp) : Prop := op.act ≠ .mark .disable ∧ op.act ≠ .mark .enable
theorem deaf_quiet (t : Trace) (g : Nat) : ∀ (u : List MemOp), (∀ op ∈ u, Quiet op) → Deaf (t ++ u.toArray) g = Deaf t g := by
  intro u hu
  rw [Deaf_append]
  generalize Deaf t g = d
  induction u generalizing d with
  | nil => rfl
  | cons y u ih =>
    rw [List.foldl_cons]
    have h := hu y (by simp)
    have e : deafStep g d y = d := by
      unfold deafStep
      split
      · rename_i hd; exact absurd hd h.1
      · rename_i hd; exact absurd hd h.2
      · rfl
    rw [e]
    exact ih (fun op hop => hu op (by simp [hop])) d
theorem deaf_quiet' (t u : Trace) (g : Nat) (h : ∀ op ∈ u, Quiet op) : Deaf (t ++ u) g = Deaf t g := by
  obtain ⟨l⟩ := u
  exact deaf_quiet t g l (by simpa using h)
theorem quiet_evs {g : Nat} {fn : FuncId} {pos : String} {es : Array Event} (h : ∀ e ∈ es, EvOk e) : ∀ op ∈ MemOp.ofEvents g fn pos es, Quiet op := by
  intro op hop
  rw [ofEvents_eq] at hop
  obtain ⟨e, he, rfl⟩ := Array.mem_map.1 hop
  have := h e he
  obtain ⟨loc, wr, sy⟩ := e
  cases loc with
  | mark m =>
    have hm := this m rfl
    subst hm
    constructor <;> (intro h; cases wr <;> cases sy <;> cases h)
  | _ => constructor <;> (intro h; cases wr <;> cases sy <;> cases h)
/-- operations of the channel's -/
theorem Calm0.one {t : Trace} (h : Calm0 t) (op : MemOp) (hn : op.act.touch? = none) (hq : Quiet op) : Calm0 (t ++ #[op]) := by
  obtain ⟨B, hP⟩ := h
  obtain ⟨C, hC⟩ := low_some op.act
  have hP' := hP.mono (Nat.le_max_left B C)
  have hl : ∀ x ∈ (#[op] : Trace), x.act.low (max B C) := by
    intro x hx
    simp at hx
    subst hx
    exact MemAct.low_mono (Nat.le_max_right _ _) hC
  refine ⟨max B C, ?_⟩
  by_cases h0 : op.g = 0
  · exact hP'.app0 (by simpa using h0) (by intro x hx b hb _; simp at hx; subst hx; rw [hn] at hb; cases hb) (deaf_quiet' t _ 0 (by simpa using hq)) hl
  · exact hP'.appMute h0 (by simp) (by simpa using hn) hl
theorem Calm0.comm {t : Trace} : ∀ (u : List MemOp), Calm0 t → (∀ op ∈ u, op.act.touch? = none ∧ Quiet op) → Calm0 (t ++ u.toArray) := by
  intro u
  induction u generalizing t with
  | nil => intro h _; simpa using h
  | cons y u ih =>
    intro h hu
    have e : t ++ (y :: u).toArray = (t ++ #[y]) ++ u.toArray := by simp
    rw [e]
    have hy := hu y (by simp)
    exact ih (h.one y hy.1 hy.2) fun op hop => hu op (by simp [hop])

/-! ### the machine -/
abbrev TT : World → Prop := fun _ => True
/-- what the receiver may write: cells -/
abbrev MM : Loc → Prop := fun l => ∃ a, l = .cell a
abbrev AllL : Loc → Prop := fun _ => True
theorem evOk_of {e : Event} (h : EvA MM e) : EvOk e := h.1
theorem none_evB {es : Array Event} (h : ∀ e ∈ es, EvB AllL e) : es = #[] := by
  apply Array.eq_empty_of_size_eq_zero
  apply Classical.byContradiction
  intro hne
  exact (h es[0] (Array.getElem_mem (by omega))).2.2 trivial

/-- no write of an object -/
def NoObj (op : MemOp) : Prop := ∀ b, op.act.touch? = some b → b.write = true → ∀ c, b.loc ≠ .obj c
theorem noObj_evs {g : Nat} {fn : FuncId} {pos : String} {es : Array Event} (h : ∀ e ∈ es, EvA MM e) : ∀ op ∈ MemOp.ofEvents g fn pos es, NoObj op := by
  intro op hop b hb hw c hc
  rw [ofEvents_eq] at hop
  obtain ⟨e, he, rfl⟩ := Array.mem_map.1 hop
  obtain ⟨h1, h2⟩ := ofEvent_touch (h e he).1 hb
  obtain ⟨a, ha⟩ := (h e he).2 (h2 ▸ hw)
  rw [h1, ha] at hc
  cases hc

/-- it stands at the close -/
def AtCloseC (P : Program) (c : Nat) (g : Goroutine) : Prop :=
  g.status = .running ∧ mayWake P g = true ∧ ∃ (g₂ : Goroutine) (n : Nat), (∀ w s r tm, w.heap[c]? = some (.chan 0 #[] false s r tm) → stepG P false g w = .go g₂ (w.shut c s r tm) #[⟨.obj c, false, true⟩, ⟨.obj c, true, true⟩]) ∧ QuitsIn P n g₂
/-- it sends these, and closes; it touches no memory -/
def SendsC (P : Program) (c : Nat) : List Value → Goroutine → Prop
  | [], g => ∃ n, Goes P false (fun _ _ => True) (DB AllL) (fun g₁ _ => AtCloseC P c g₁) n g default
  | v :: vs, g => ∃ n, Goes P false (fun _ _ => True) (DB AllL) (fun g₁ _ => AtSend P c TT AllL v (SendsC P c vs) g₁) n g default
def StopC (P : Program) (c : Nat) : List Value → Goroutine → World → Prop
  | [] => fun g₁ _ => AtCloseC P c g₁
  | v :: vs => fun g₁ _ => AtSend P c TT AllL v (SendsC P c vs) g₁
theorem sendsC_iff (P : Program) (c : Nat) (vs : List Value) (g : Goroutine) : SendsC P c vs g ↔ ∃ n, Goes P false (fun _ _ => True) (DB AllL) (StopC P c vs) n g default := by
  cases vs <;> exact Iff.rfl
theorem StopC.running {P : Program} {c : Nat} {vs : List Value} {g : Goroutine} {w : World} (h : StopC P c vs g w) : g.status = .running := by cases vs <;> exact h.1
def SitC (P : Program) (c : Nat) (vs : List Value) (rb : Nat) (b : Goroutine) : Prop :=
  (∃ n, rb = n + 1 ∧ Goes P false (fun _ _ => True) (DB AllL) (StopC P c vs) n b default) ∨
  (rb = 0 ∧ ∃ v vs' g₂ z', vs = v :: vs' ∧ b = parked g₂ #[scase c v z'] .send ∧ SendsC P c vs' (Conc.served g₂ undef))
theorem goesC_running {P : Program} {c : Nat} {vs : List Value} {n : Nat} {b : Goroutine} (h : Goes P false (fun _ _ => True) (DB AllL) (StopC P c vs) n b default) : b.status = .running :=
  Goes.running (R := fun _ _ => True) (fun _ _ => StopC.running) default trivial h
theorem SitC.status {P : Program} {c : Nat} {vs : List Value} {rb : Nat} {b : Goroutine} (h : SitC P c vs rb b) : (b.status = .running ∧ 0 < rb) ∨ (b.status = .blocked ∧ rb = 0) := by
  rcases h with ⟨n, e, hg⟩ | ⟨e, v, vs', g, z', _, rfl, _⟩
  · exact .inl ⟨goesC_running hg, by omega⟩
  · exact .inr ⟨rfl, e⟩
theorem SitC.woken {P : Program} {c : Nat} {vs : List Value} {rb : Nat} {b g g' : Goroutine} {w' : World} {s r : Nat} {tm : Bool} (h : SitC P c vs rb b) (hc : w'.heap[c]? = some (.chan 0 #[] false s r tm)) : Go.Conc.woken P g g' w' b = b := by
  unfold Go.Conc.woken
  split
  · rcases h with ⟨n, e, hg⟩ | ⟨e, v, vs', g, z', _, rfl, _⟩
    · exact again_running _ (.inl (goesC_running hg))
    · exact again_parked_open rfl hc
  · rfl

/-! ### the close, and until it is seen -/
/-- the sender, number j, has looked at the channel and closed it (positions p, p + 1); goroutine 0 has not seen that yet -/
structure Pend (c j : Nat) (t : Trace) (p : Nat) : Prop where
  j0 : j ≠ 0
  clean : ∀ said, ¬ Race said t
  known : ∀ i a, touchAt t i = some a → a.loc.isMemory = true → Knows t 0 i ∨ (i = p ∧ a = ⟨.obj c, false, .atomic⟩)
  over : ∀ i g, t.g? i = some g → g ≠ 0 → t.counts i → (∃ k, t.g? k = some 0 ∧ HappensBefore t i k) ∨ i = p
  hears : Deaf t 0 = 0
  low : ∃ B, ∀ op ∈ t, op.act.low B
  look : ∃ op, t[p]? = some op ∧ op.g = j
  shut : ∃ op, t[p + 1]? = some op ∧ op.g = j ∧ op.act = .close c
  heard : t.deaf j (p + 1) = 0

theorem heard_of {t : Trace} {i : Nat} {op : MemOp} (h : t[i]? = some op) (hd : t.deaf op.g i = 0) : t.heard i := ⟨op.g, by simp [Trace.g?, h], hd⟩

theorem Pend.new {t : Trace} {c j : Nat} (h : Calm0 t) (hj : j ≠ 0) (hd : Deaf t j = 0) (hk : ∀ i a, touchAt t i = some a → a.loc = .obj c → a.write = true → Knows t j i) (fn : FuncId) (pos : String) :
    Pend c j (t ++ MemOp.ofEvents j fn pos #[⟨.obj c, false, true⟩, ⟨.obj c, true, true⟩]) t.size := by
  obtain ⟨B, hP⟩ := h
  have e : MemOp.ofEvents j fn pos #[⟨.obj c, false, true⟩, ⟨.obj c, true, true⟩] = #[{ g := j, fn, pos, act := .access ⟨.obj c, false, true⟩ }, { g := j, fn, pos, act := .close c }] := by
    rw [ofEvents_eq]
    simp [MemAct.ofEvent]
  rw [e]
  have hu : ∀ op ∈ (#[{ g := j, fn, pos, act := .access ⟨.obj c, false, true⟩ }, { g := j, fn, pos, act := .close c }] : Trace), op.g = j := by simp
  have hq : ∀ op ∈ (#[{ g := j, fn, pos, act := .access ⟨.obj c, false, true⟩ }, { g := j, fn, pos, act := .close c }] : Trace), Quiet op := by simp [Quiet]
  have g1 : (t ++ #[({ g := j, fn, pos, act := .access ⟨.obj c, false, true⟩ } : MemOp), { g := j, fn, pos, act := .close c }])[t.size]? = some { g := j, fn, pos, act := .access ⟨.obj c, false, true⟩ } := by
    rw [Array.getElem?_append_right (Nat.le_refl _)]; simp
  have g2 : (t ++ #[({ g := j, fn, pos, act := .access ⟨.obj c, false, true⟩ } : MemOp), { g := j, fn, pos, act := .close c }])[t.size + 1]? = some { g := j, fn, pos, act := .close c } := by
    rw [Array.getElem?_append_right (Nat.le_succ _)]; simp
  refine ⟨hj, fun said => noRace_append (hP.clean said) hu fun i a ha op hop b hb hc => ?_, fun i a ha hm => ?_, fun i g hg hne hcn => ?_, ?_, ⟨max B (c + 1), fun op hop => ?_⟩, ⟨_, g1, rfl⟩, ⟨_, g2, rfl, rfl⟩, ?_⟩
  · simp only [List.mem_toArray, List.mem_cons, List.not_mem_nil, or_false] at hop
    rcases hop with rfl | rfl
    · simp only [MemAct.touch?, if_true, Option.some.injEq] at hb
      subst hb
      obtain ⟨c1, _, c3, _⟩ := hc
      rcases c3 with c3 | c3
      · exact hk i a ha c1 c3
      · cases c3
    · cases hb
  · obtain ⟨x, hx, hxa⟩ := touch_of ha
    rcases getElem?_append_cases hx with ⟨_, hx'⟩ | ⟨hge, hxu⟩
    · rcases hP.known i a (by rw [touchAt_of hx']; exact hxa) hm with h | ⟨h, _⟩
      · exact .inl (h.app _)
      · exact h.elim
    · by_cases hi : i = t.size
      · subst hi
        rw [g1] at hx
        injection hx with hx
        subst hx
        simp only [MemAct.touch?, if_true, Option.some.injEq] at hxa
        exact .inr ⟨rfl, hxa.symm⟩
      · have hlt := lt_size_of_getElem? hx
        simp at hlt
        have : i = t.size + 1 := by omega
        subst this
        rw [g2] at hx
        injection hx with hx
        subst hx
        cases hxa
  · by_cases hi : i < t.size
    · obtain ⟨x, hx, hm⟩ := hcn
      obtain ⟨op, hop, hox⟩ := touch_of hx
      have hop' : t[i]? = some op := by rw [getElem?_append_old hi] at hop; exact hop
      obtain ⟨k, hk1, hk2⟩ := hP.over i g (by simpa [Trace.g?, getElem?_append_old hi] using hg) hne ⟨x, by simp [Trace.act?, hop', hox], hm.1, hm.2.imp id fun hh => (heard_old hi).1 hh⟩
      have hkl : k < t.size := by
        unfold Trace.g? at hk1
        obtain ⟨z, hz, _⟩ := Option.map_eq_some_iff.1 hk1
        exact lt_size_of_getElem? hz
      exact .inl ⟨k, by simpa [Trace.g?, getElem?_append_old hkl] using hk1, hb_app _ hk2⟩
    · by_cases hi2 : i = t.size
      · exact .inr hi2
      · exfalso
        obtain ⟨x, hx, _⟩ := hcn
        obtain ⟨op, hop, hox⟩ := touch_of hx
        have hlt := lt_size_of_getElem? hop
        simp at hlt
        have : i = t.size + 1 := by omega
        subst this
        rw [g2] at hop
        injection hop with hop
        subst hop
        cases hox
  · rw [deaf_quiet' _ _ _ hq]; exact hP.hears
  · rcases Array.mem_append.1 hop with h | h
    · exact MemAct.low_mono (Nat.le_max_left _ _) (hP.seen op h)
    · simp only [List.mem_toArray, List.mem_cons, List.not_mem_nil, or_false] at h
      rcases h with rfl | rfl
      · exact Nat.lt_of_lt_of_le (Nat.lt_succ_self c) (Nat.le_max_right _ _)
      · exact Nat.lt_of_lt_of_le (Nat.lt_succ_self c) (Nat.le_max_right _ _)
  · rw [deaf_succ g1, deaf_old (Nat.le_refl _)]
    exact hd

theorem Pend.grow {t u : Trace} {c j p g : Nat} (h : Pend c j t p) (hu : ∀ op ∈ u, op.g = g) (hg : (g = 0 ∧ ∀ op ∈ u, NoObj op) ∨ ∀ op ∈ u, op.act.touch? = none) (hq : Deaf (t ++ u) 0 = Deaf t 0) (hlow : ∃ B, ∀ op ∈ u, op.act.low B) : Pend c j (t ++ u) p := by
  obtain ⟨lk, hlk, hlkg⟩ := h.look
  obtain ⟨sh, hsh, hshg, hsha⟩ := h.shut
  obtain ⟨B, hB⟩ := h.low
  obtain ⟨C, hC⟩ := hlow
  have hps := lt_size_of_getElem? hsh
  refine ⟨h.j0, fun said => noRace_append (h.clean said) hu fun i a ha op hop b hb hc => ?_, fun i a ha hm => ?_, fun i x hx hne hcn => ?_, hq.trans h.hears, ⟨max B C, fun op hop => ?_⟩, ⟨lk, by rw [getElem?_append_old (by omega)]; exact hlk, hlkg⟩, ⟨sh, by rw [getElem?_append_old hps]; exact hsh, hshg, hsha⟩, by rw [deaf_old (by omega)]; exact h.heard⟩
  · rcases hg with ⟨hg0, hno⟩ | hn
    · subst hg0
      rcases h.known i a ha hc.2.1 with hk | ⟨_, ha'⟩
      · exact hk
      · exfalso
        obtain ⟨c1, _, c3, _⟩ := hc
        subst ha'
        rcases c3 with c3 | c3
        · cases c3
        · exact hno op hop b hb c3 c c1.symm
    · rw [hn op hop] at hb; cases hb
  · obtain ⟨y, hy, hya⟩ := touch_of ha
    rcases getElem?_append_cases hy with ⟨_, hy'⟩ | ⟨_, hyu⟩
    · exact (h.known i a (by rw [touchAt_of hy']; exact hya) hm).imp (·.app u) id
    · rcases hg with ⟨hg0, _⟩ | hn
      · have := knows_own hy
        rw [hu y hyu, hg0] at this
        exact .inl this
      · rw [hn y hyu] at hya; cases hya
  · by_cases hi : i < t.size
    · obtain ⟨y, hy, hm⟩ := hcn
      obtain ⟨op, hop, hox⟩ := touch_of hy
      have hop' : t[i]? = some op := by rw [getElem?_append_old hi] at hop; exact hop
      rcases h.over i x (by simpa [Trace.g?, getElem?_append_old hi] using hx) hne ⟨y, by simp [Trace.act?, hop', hox], hm.1, hm.2.imp id fun hh => (heard_old hi).1 hh⟩ with ⟨k, hk1, hk2⟩ | h'
      · have hkl : k < t.size := by
          unfold Trace.g? at hk1
          obtain ⟨z, hz, _⟩ := Option.map_eq_some_iff.1 hk1
          exact lt_size_of_getElem? hz
        exact .inl ⟨k, by simpa [Trace.g?, getElem?_append_old hkl] using hk1, hb_app _ hk2⟩
      · exact .inr h'
    · exfalso
      obtain ⟨y, hy, _⟩ := hcn
      obtain ⟨op, hop, hox⟩ := touch_of hy
      rcases getElem?_append_cases hop with ⟨h', _⟩ | ⟨_, hou⟩
      · exact hi h'
      · rcases hg with ⟨hg0, _⟩ | hn
        · have : x = 0 := by
            have e : op.g = x := by simpa [Trace.g?, hop] using hx
            rw [← e, hu op hou, hg0]
          exact hne this
        · rw [hn op hou] at hox; cases hox
  · rcases Array.mem_append.1 hop with h' | h'
    · exact MemAct.low_mono (Nat.le_max_left _ _) (hB op h')
    · exact MemAct.low_mono (Nat.le_max_right _ _) (hC op h')

/-- goroutine 0 has seen that the channel is closed -/
theorem Pend.done {t : Trace} {c j p : Nat} (h : Pend c j t p) (fn : FuncId) (pos : String) : Calm0 (t ++ #[{ g := 0, fn, pos, act := .recvClosed c }]) := by
  have hP := h.grow (u := #[{ g := 0, fn, pos, act := .recvClosed c }]) (g := 0) (by simp) (.inr (by simp [MemAct.touch?])) (deaf_quiet' _ _ _ (by simp [Quiet])) ⟨c + 1, by simp [MemAct.low]⟩
  have hlast : (t ++ #[({ g := 0, fn, pos, act := .recvClosed c } : MemOp)])[t.size]? = some { g := 0, fn, pos, act := .recvClosed c } := by
    rw [Array.getElem?_append_right (Nat.le_refl _)]; simp
  obtain ⟨lk, hlk, hlkg⟩ := hP.look
  obtain ⟨sh, hsh, hshg, hsha⟩ := hP.shut
  obtain ⟨B, hB⟩ := hP.low
  have hb1 : HappensBefore (t ++ #[({ g := 0, fn, pos, act := .recvClosed c } : MemOp)]) p (p + 1) := hb_po (Nat.lt_succ_self p) hlk hsh (by rw [hlkg, hshg])
  have hb2 : HappensBefore (t ++ #[({ g := 0, fn, pos, act := .recvClosed c } : MemOp)]) (p + 1) t.size :=
    .single (.inr ⟨.closed (c := c) (by rw [act?_of hsh, hsha]) (by rw [act?_of hlast]), heard_of hsh (by rw [hshg]; exact hP.heard), heard_of hlast (by rw [deaf_old (Nat.le_refl _)]; exact h.hears)⟩)
  have hb := hb1.trans hb2
  refine ⟨B, hP.clean, fun i a ha hm => ?_, fun i g hg hne hcn => ?_, hP.hears, hB⟩
  · rcases hP.known i a ha hm with h' | ⟨rfl, _⟩
    · exact .inl h'
    · exact .inl ⟨t.size, _, hlast, rfl, .inr hb⟩
  · rcases hP.over i g hg hne hcn with h' | rfl
    · exact h'
    · exact ⟨t.size, by simp [Trace.g?], hb⟩

theorem lows_evs {g : Nat} {fn : FuncId} {pos : String} (es : Array Event) : ∃ B, ∀ op ∈ MemOp.ofEvents g fn pos es, op.act.low B := by
  obtain ⟨B, hB⟩ := lows_some es
  refine ⟨B, fun op hop => ?_⟩
  rw [ofEvents_eq] at hop
  obtain ⟨e, he, rfl⟩ := Array.mem_map.1 hop
  exact hB e he
theorem Pend.own {t : Trace} {c j p : Nat} (h : Pend c j t p) {fn : FuncId} {pos : String} {es : Array Event} (hes : ∀ e ∈ es, EvA MM e) : Pend c j (t ++ MemOp.ofEvents 0 fn pos es) p :=
  h.grow (g := 0) (fun _ hop => g_evs hop) (.inl ⟨rfl, noObj_evs hes⟩) (deaf_quiet' _ _ _ (quiet_evs fun e he => evOk_of (hes e he))) (lows_evs es)
theorem Pend.mute {t : Trace} {c j p g : Nat} (h : Pend c j t p) (hg : g ≠ 0) {fn : FuncId} {pos : String} {es : Array Event} (hm : ∀ e ∈ es, e.mute = true) : Pend c j (t ++ MemOp.ofEvents g fn pos es) p :=
  h.grow (g := g) (fun _ hop => g_evs hop) (.inr fun _ hop => by
    rw [ofEvents_eq] at hop
    obtain ⟨e, he, rfl⟩ := Array.mem_map.1 hop
    exact touch_mute (hm e he)) (Deaf_other t hg _ (fun _ hop => g_evs hop)) (lows_evs es)

section
variable {P : Program} {Stop : Goroutine → World → Prop}

theorem reach_step {gs gs1 : Array Goroutine} {w w1 : World} {sl sl1 : Option (Nat × Nat)} {t ops : Trace} (h : stepT P (crowd gs w sl) = (.next (crowd gs1 w1 sl1), ops)) (hr : Reach9 P Stop gs1 w1 sl1 (t ++ ops)) : Reach9 P Stop gs w sl t := by
  obtain ⟨N, gs', a', w', sl', t', q', h1, h2, h3, h4, h5⟩ := hr
  exact ⟨N + 1, gs', a', w', sl', t', q', by simp only [runNT, h]; exact h1, h2, h3, h4, h5⟩

theorem awake_q {g : Goroutine} {n d : Nat} (h : QuitsD P n d g) : awake g := awake_of (h.status.elim .inl fun x => .inr (.inr x))

/-- the one that sends is number j; all others but goroutine 0 only leave -/
structure Pair (P : Program) (c : Nat) (gs : Array Goroutine) (j : Nat) (a b : Goroutine) (t : Trace) (q : Nat → Nat) : Prop where
  zero : gs[0]? = some a
  j0 : 0 < j
  child : gs[j]? = some b
  old : ∀ i g, 0 < i → i ≠ j → gs[i]? = some g → QuitsD P (q i) (Deaf t i) g
  hears : Deaf t j = 0
  above : ∀ i, gs.size ≤ i → Deaf t i = 0
  knows : ∀ i a, touchAt t i = some a → a.loc = .obj c → a.write = true → Knows t j i

theorem Pair.lt {c : Nat} {gs : Array Goroutine} {j : Nat} {a b : Goroutine} {t : Trace} {q : Nat → Nat} (h : Pair P c gs j a b t q) : 0 < gs.size ∧ j < gs.size :=
  ⟨(Array.getElem?_eq_some_iff.1 h.zero).1, (Array.getElem?_eq_some_iff.1 h.child).1⟩
theorem Pair.awakes {c : Nat} {gs : Array Goroutine} {j : Nat} {a b : Goroutine} {t : Trace} {q : Nat → Nat} (h : Pair P c gs j a b t q) (ha : awake a) (hb : awake b) : ∀ g ∈ gs, awake g := by
  intro g hg
  obtain ⟨i, hi, rfl⟩ := Array.mem_iff_getElem.1 hg
  have hi' := Array.getElem?_eq_getElem hi
  by_cases h0 : i = 0
  · subst h0
    have e := hi'.symm.trans h.zero
    injection e with e
    rw [e]; exact ha
  · by_cases hj : i = j
    · subst hj
      have e := hi'.symm.trans h.child
      injection e with e
      rw [e]; exact hb
    · exact awake_q (h.old i _ (by omega) hj hi')

/-- goroutine 0's place and the sender's are laid anew, the others stand; the trace grows by operations that turn nobody's hearing -/
theorem Pair.turn {c : Nat} {gs gs1 : Array Goroutine} {j : Nat} {a b a1 b1 : Goroutine} {t u : Trace} {q : Nat → Nat} (h : Pair P c gs j a b t q) (h0 : gs1[0]? = some a1) (hj : gs1[j]? = some b1) (hs : gs1.size = gs.size)
    (ho : ∀ i g, 0 < i → i ≠ j → gs1[i]? = some g → gs[i]? = some g) (hu : ∀ op ∈ u, Quiet op) (hn : ∀ op ∈ u, NoObj op) : Pair P c gs1 j a1 b1 (t ++ u) q :=
  ⟨h0, h.j0, hj, fun i g hi hne hg => by rw [deaf_quiet' t u i hu]; exact h.old i g hi hne (ho i g hi hne hg), by rw [deaf_quiet' t u j hu]; exact h.hears, fun i hi => by rw [deaf_quiet' t u i hu]; exact h.above i (hs ▸ hi), fun i x hx hl hw => by
    obtain ⟨op, hop, hox⟩ := touch_of hx
    rcases getElem?_append_cases hop with ⟨_, hop'⟩ | ⟨_, hou⟩
    · exact (h.knows i x (by rw [touchAt_of hop']; exact hox) hl hw).app u
    · exact absurd hl (hn op hou x hox hw c)⟩

theorem not_blocked_q {g : Goroutine} {n d : Nat} (h : QuitsD P n d g) : g.status ≠ .blocked := by
  rcases h.status with h | h <;> rw [h] <;> simp

variable {c : Nat} {z : Value} {Fin : Goroutine → World → Prop}

/-- the channel is closed -/
theorem phase_shut {s r : Nat} {tm : Bool} {j : Nat} : ∀ (M n : Nat) (gs : Array Goroutine) (a : Goroutine) (w : World) (sl : Option (Nat × Nat)) (t : Trace) (q : Nat → Nat) (p : Nat), n + sumTo gs.size q < M → gs[0]? = some a → Leavers P t gs q → Pend c j t p →
    w.heap[c]? = some (.chan 0 #[] true s r tm) → Goes P true (Aside c) (DA c TT MM) (StopA P c TT MM z Fin []) n a w → Reach9 P Fin gs w sl t := by
  intro M
  induction M with
  | zero => exact fun n gs a w sl t q p hM => absurd hM (Nat.not_lt_zero _)
  | succ M ih =>
    intro n gs a w sl t q p hM h0 hL hP hc hG
    have hs : a.status = .running := hG.running (fun _ _ => StopA.running) w (Aside.refl c w)
    have haw : ∀ g ∈ gs, awake g := by
      intro g hg
      obtain ⟨i, hi, rfl⟩ := Array.mem_iff_getElem.1 hg
      rcases Nat.eq_zero_or_pos i with rfl | hpos
      · have : gs[0] = a := by simpa [Array.getElem?_eq_getElem hi] using h0
        rw [this]; exact awake_of (.inl hs)
      · exact awake_q (hL.old i _ hpos (Array.getElem?_eq_getElem hi))
    obtain ⟨i, g, d, sl', hi, hg, hpk⟩ := crowd_pick (P := P) (w := w) (sl := sl) haw ⟨0, a, h0, hs⟩
    have hAs : Aside c w (w.at d) := Aside.at c w d
    have hc1 : (w.at d).heap[c]? = some (.chan 0 #[] true s r tm) := hc
    have hlt : 0 < gs.size := (Array.getElem?_eq_some_iff.1 h0).1
    rcases Nat.eq_zero_or_pos i with rfl | hpos
    · obtain rfl : g = a := by rw [h0] at hi; exact (Option.some.inj hi).symm
      rcases hG.cases with hstop | ⟨n', rfl, hstep⟩
      · have hat := hstop _ hAs
        obtain ⟨es, hcomm, hes⟩ := hat.comm
        have hes' : ∀ e ∈ es, EvOk e := fun e he => evOk_of (hes e he)
        have hpart : partners (gs.setIfInBounds 0 ph) c true = [] := by
          refine partners_nil fun i g hi => ?_
          rcases getElem?_stand gs 0 i g hi with ⟨_, rfl⟩ | ⟨hne, hi'⟩
          · exact offersAt_ph _ _
          · exact offersAt_of_not_blocked (not_blocked_q (hL.old i g (by omega) hi')) _ _
        have hrun := crowd_recv_closed (sl := sl') (i := 0) h0 (show stepG P (0 == 0) g (w.at d) = _ from hcomm) hc1 hpart
        rw [finishComm_recv] at hrun
        refine reach_step (hpk.trans hrun) ⟨0, _, _, _, _, _, q, rfl, ?_, hat.nil _ (Aside.refl c _), ⟨fun i g hi hg => ?_, fun i hi => ?_⟩, ?_⟩
        · rw [Array.getElem?_setIfInBounds_self_of_lt hlt]; rfl
        · rw [Array.getElem?_setIfInBounds_ne (by omega)] at hg
          rw [← Array.append_assoc, deaf_quiet' _ _ _ (by simp [Quiet]), deaf_quiet' _ _ _ (quiet_evs hes')]
          exact hL.old i g hi hg
        · rw [← Array.append_assoc, deaf_quiet' _ _ _ (by simp [Quiet]), deaf_quiet' _ _ _ (quiet_evs hes')]
          exact hL.above i (by simpa using hi)
        · rw [← Array.append_assoc]
          exact (hP.own hes).done _ _
      · obtain ⟨a', w', es, hgo, ⟨_, hcc, hes⟩, hg'⟩ := hstep _ hAs
        have hes' : ∀ e ∈ es, EvOk e := fun e he => evOk_of (hes e he)
        have hrun := runT_crowd_go (P := P) (sl := sl') (i := 0) h0 (show stepG P (0 == 0) g (w.at d) = _ from hgo)
        refine reach_step (hpk.trans hrun) (ih n' _ a' w' sl' _ q p ?_ ?_ ⟨fun i x hi hx => ?_, fun i hi => ?_⟩ (hP.own hes) (hcc.trans hc1) hg')
        · simp only [Array.size_setIfInBounds, Array.size_map]; omega
        · rw [Array.getElem?_setIfInBounds_self_of_lt (by simpa using hlt)]
        · rw [Array.getElem?_setIfInBounds_ne (by omega), Array.getElem?_map] at hx
          obtain ⟨y, hy, rfl⟩ := Option.map_eq_some_iff.1 hx
          have hq := hL.old i y hi hy
          rw [woken_quitsD hq, deaf_quiet' _ _ _ (quiet_evs hes')]
          exact hq
        · rw [deaf_quiet' _ _ _ (quiet_evs hes')]
          exact hL.above i (by simpa using hi)
    · have hq := hL.old i g hpos hi
      have hi0 : (i == 0) = false := by simp; omega
      have hlti : i < gs.size := (Array.getElem?_eq_some_iff.1 hi).1
      cases hqi : q i with
      | zero => rw [hqi] at hq; rw [hq.1] at hg; cases hg
      | succ k =>
        rw [hqi] at hq
        rcases hq with ⟨hf, _⟩ | ⟨_, g', es', hm, hstp, hq'⟩
        · rw [hf] at hg; cases hg
        have hrun := runT_crowd_go (P := P) (sl := sl') (i := i) hi (by rw [hi0]; exact hstp (w.at d))
        have hsum : sumTo gs.size (upd q i k) + (k + 1) = sumTo gs.size q + k := by
          have := sumTo_upd q k id hlti
          simpa [hqi] using this
        refine reach_step (hpk.trans hrun) (ih n _ a (w.at d) sl' _ (upd q i k) p ?_ ?_ ⟨fun m x hm0 hx => ?_, fun m hm => ?_⟩ (hP.mute (by omega) hm) hc1 (Goes.rely (R := Aside c) (fun _ _ _ h h' => Aside.trans h h') hG hAs))
        · simp only [Array.size_setIfInBounds, Array.size_map]; omega
        · rw [Array.getElem?_setIfInBounds_ne (by omega), Array.getElem?_map, h0]
          simp [woken_run hs]
        · by_cases hmi : m = i
          · subst hmi
            rw [Array.getElem?_setIfInBounds_self_of_lt (by simpa using hlti)] at hx
            obtain rfl := Option.some.inj hx
            rw [upd_same, Deaf_own]
            exact hq'
          · rw [Array.getElem?_setIfInBounds_ne (by omega), Array.getElem?_map] at hx
            obtain ⟨y, hy, rfl⟩ := Option.map_eq_some_iff.1 hx
            have hqm := hL.old m y hm0 hy
            rw [woken_quitsD hqm, upd_ne q k hmi, Deaf_other t (g' := i) (fun e => hmi e.symm) _ (fun op hop => g_evs hop)]
            exact hqm
        · rw [Deaf_other t (g' := i) (by simp at hm; omega) _ (fun op hop => g_evs hop)]
          exact hL.above m (by simpa using hm)

theorem pair_partners_send {gs : Array Goroutine} {j : Nat} {a b : Goroutine} {t : Trace} {q : Nat → Nat} (h : Pair P c gs j a b t q) (hb : b.status ≠ .blocked) : partners (gs.setIfInBounds 0 ph) c true = [] := by
  refine partners_nil fun i g hi => ?_
  rcases getElem?_stand gs 0 i g hi with ⟨_, rfl⟩ | ⟨hne, hi'⟩
  · exact offersAt_ph _ _
  · by_cases hj : i = j
    · subst hj
      have e := hi'.symm.trans h.child
      injection e with e
      subst e
      exact offersAt_of_not_blocked hb _ _
    · exact offersAt_of_not_blocked (not_blocked_q (h.old i g (by omega) hj hi')) _ _
theorem pair_partners_recv {gs : Array Goroutine} {j : Nat} {a b : Goroutine} {t : Trace} {q : Nat → Nat} (h : Pair P c gs j a b t q) (ha : a.status ≠ .blocked) : partners (gs.setIfInBounds j ph) c false = [] := by
  refine partners_nil fun i g hi => ?_
  rcases getElem?_stand gs j i g hi with ⟨_, rfl⟩ | ⟨hne, hi'⟩
  · exact offersAt_ph _ _
  · by_cases h0 : i = 0
    · subst h0
      have e := hi'.symm.trans h.zero
      injection e with e
      subst e
      exact offersAt_of_not_blocked ha _ _
    · exact offersAt_of_not_blocked (not_blocked_q (h.old i g (by omega) hne hi')) _ _
theorem pair_one_send {gs : Array Goroutine} {j : Nat} {a g₂ : Goroutine} {v z' : Value} {t : Trace} {q : Nat → Nat} (h : Pair P c gs j a (parked g₂ #[scase c v z'] .send) t q) : partners (gs.setIfInBounds 0 ph) c true = [(j, 0)] := by
  have hj0 := h.j0
  rw [partners_one (j := j) (g := parked g₂ #[scase c v z'] .send) (by rw [Array.getElem?_setIfInBounds_ne (by omega)]; exact h.child) fun i g hne hi => by
    rcases getElem?_stand gs 0 i g hi with ⟨_, rfl⟩ | ⟨hne0, hi'⟩
    · exact offersAt_ph _ _
    · exact offersAt_of_not_blocked (not_blocked_q (h.old i g (by omega) hne hi')) _ _]
  rw [offersAt_parked_send]
  simp
theorem pair_one_recv {gs : Array Goroutine} {j : Nat} {g b : Goroutine} {sh : CommShape} {t : Trace} {q : Nat → Nat} (h : Pair P c gs j (parked g #[rcase c z] sh) b t q) : partners (gs.setIfInBounds j ph) c false = [(0, 0)] := by
  have hj0 := h.j0
  rw [partners_one (j := 0) (g := parked g #[rcase c z] sh) (by rw [Array.getElem?_setIfInBounds_ne (by omega)]; exact h.zero) fun i x hne hi => by
    rcases getElem?_stand gs j i x hi with ⟨_, rfl⟩ | ⟨hne0, hi'⟩
    · exact offersAt_ph _ _
    · exact offersAt_of_not_blocked (not_blocked_q (h.old i x (by omega) hne0 hi')) _ _]
  rw [offersAt_parked_recv]
  simp

/-- one place is laid anew -/
theorem set_other {gs : Array Goroutine} {k : Nat} {x : Goroutine} {i : Nat} {g : Goroutine} (hne : i ≠ k) (h : (gs.setIfInBounds k x)[i]? = some g) : gs[i]? = some g := by
  rwa [Array.getElem?_setIfInBounds_ne (by omega)] at h

set_option maxHeartbeats 1000000 in
/-- THE CHANNEL IS OPEN -/
theorem phase_open : ∀ (vs : List Value) (M : Nat) (gs : Array Goroutine) (j : Nat) (a b : Goroutine) (w : World) (sl : Option (Nat × Nat)) (t : Trace) (q : Nat → Nat) (s r : Nat) (tm : Bool) (ra rb : Nat),
    ra + rb + sumTo gs.size q < M → Pair P c gs j a b t q → Calm0 t → w.heap[c]? = some (.chan 0 #[] false s r tm) → SitA P c TT MM z Fin vs ra a w → SitC P c vs rb b → 0 < ra + rb → Reach9 P Fin gs w sl t := by
  intro vs
  induction hn : vs.length using Nat.strongRecOn generalizing vs with
  | ind len ihv =>
  subst hn
  intro M
  induction M with
  | zero => exact fun gs j a b w sl t q s r tm ra rb hM => absurd hM (Nat.not_lt_zero _)
  | succ M ih =>
    intro gs j a b w sl t q s r tm ra rb hM hp hP hc hA hB hpos
    have sA := hA.status
    have sB := hB.status
    have awA : awake a := awake_of (by rcases sA with ⟨h, _⟩ | ⟨h, _⟩ <;> simp [h])
    have awB : awake b := awake_of (by rcases sB with ⟨h, _⟩ | ⟨h, _⟩ <;> simp [h])
    have some1 : ∃ (i : Nat) (g : Goroutine), gs[i]? = some g ∧ g.status = .running := by
      rcases sA with ⟨h, _⟩ | ⟨_, h0⟩
      · exact ⟨0, a, hp.zero, h⟩
      · rcases sB with ⟨h, _⟩ | ⟨_, h1⟩
        · exact ⟨j, b, hp.child, h⟩
        · omega
    obtain ⟨hl0, hlj⟩ := hp.lt
    have hj0 := hp.j0
    have hjf : (j == 0) = false := by simp; omega
    obtain ⟨i, g, d, sl', hi, hg, hpk⟩ := crowd_pick (P := P) (w := w) (sl := sl) (hp.awakes awA awB) some1
    have hAs : Aside c w (w.at d) := Aside.at c w d
    have hc1 : (w.at d).heap[c]? = some (.chan 0 #[] false s r tm) := hc
    by_cases h0 : i = 0
    · -- the receiver moves
      subst h0
      obtain rfl : g = a := Option.some.inj (hi.symm.trans hp.zero)
      rcases hA with ⟨n, rfl, hgo⟩ | ⟨_, x, rfl, _⟩
      · rcases hgo.cases with hstop | ⟨n', rfl, hstep⟩
        · have hat := hstop _ hAs
          obtain ⟨es, hcomm, hes⟩ := hat.comm
          have hes' : ∀ e ∈ es, EvOk e := fun e he => evOk_of (hes e he)
          rcases hB with ⟨k, rfl, hgb⟩ | ⟨rfl, v, vs', g₂, z', rfl, rfl, hnext⟩
          · -- it waits
            have hbs : b.status ≠ .blocked := by rw [goesC_running hgb]; simp
            have hrun := crowd_waits (sl := sl') (i := 0) hp.zero (show stepG P (0 == 0) g (w.at d) = _ from hcomm) (by
              intro cc hcc
              simp at hcc
              subst hcc
              exact ways_recv_none hc1 (pair_partners_send hp hbs))
            refine reach_step (hpk.trans hrun) ?_
            refine ih _ j _ b (w.at d) sl' _ q s r tm 0 (k + 1) ?_ (hp.turn (a1 := parked (core g) #[rcase c z] (.recv true)) (b1 := b) ?_ ?_ (by simp) (fun i x hi0 _ hx => set_other (by omega) hx) (quiet_evs hes') (noObj_evs hes)) (hP.own hes') hc1
              (.inr ⟨rfl, g, rfl, fun w₁ h₁ => hstop w₁ (hAs.trans h₁)⟩) (.inl ⟨k, rfl, hgb⟩) (by omega)
            · simp only [Array.size_setIfInBounds]; omega
            · rw [Array.getElem?_setIfInBounds_self_of_lt hl0]
            · rw [Array.getElem?_setIfInBounds_ne (by omega)]; exact hp.child
          · -- it meets the sender
            obtain ⟨na, hna⟩ := (recvs_iff P c TT MM z _ vs' _ _).1 (hat.cons _ (Aside.put c (w.at d) (.chan 0 #[] false (s + 1) (r + 1) tm)))
            obtain ⟨nb, hnb⟩ := (sendsC_iff P c vs' _).1 hnext
            have hrun := crowd_recv_meets (sl := sl') (i := 0) (j := j) hp.zero (show stepG P (0 == 0) g (w.at d) = _ from hcomm) hc1 (by omega) hp.child (pair_one_send hp)
            rw [finishComm_recv, finishComm_send] at hrun
            refine reach_step (hpk.trans hrun) ?_
            rw [← Array.append_assoc]
            refine ihv vs'.length (by simp) vs' rfl (na + 1 + (nb + 1) + sumTo gs.size q + 1) _ j _ _ _ sl' _ q (s + 1) (r + 1) tm (na + 1) (nb + 1) ?_
              ((hp.turn (a1 := g) (b1 := parked g₂ #[scase c v z'] .send) hp.zero hp.child rfl (fun i x _ _ hx => hx) (quiet_evs hes') (noObj_evs hes)).turn (a1 := Conc.served (core g) (.tuple #[v, .bool true])) (b1 := Conc.served g₂ undef) ?_ ?_ (by simp) (fun i x hi0 hij hx => set_other hij (set_other (by omega) hx)) (by simp [Quiet]) (by simp [NoObj, MemAct.touch?]))
              (Calm0.comm [_, _, _, _] (hP.own hes') (by simp [MemAct.touch?, Quiet])) (heap_put hc1) (.inl ⟨na, rfl, hna⟩) (.inl ⟨nb, rfl, hnb⟩) (by omega)
            · simp only [Array.size_setIfInBounds]; omega
            · rw [Array.getElem?_setIfInBounds_self_of_lt (by simpa using hl0)]; rfl
            · rw [Array.getElem?_setIfInBounds_ne (by omega), Array.getElem?_setIfInBounds_self_of_lt hlj]
        · -- a step of its own
          obtain ⟨a', w', es, hgo', ⟨_, hcc, hes⟩, hg'⟩ := hstep _ hAs
          have hes' : ∀ e ∈ es, EvOk e := fun e he => evOk_of (hes e he)
          have hc' : w'.heap[c]? = some (.chan 0 #[] false s r tm) := hcc.trans hc1
          have hrun := runT_crowd_go (P := P) (sl := sl') (i := 0) hp.zero (show stepG P (0 == 0) g (w.at d) = _ from hgo')
          refine reach_step (hpk.trans hrun) ?_
          refine ih _ j a' b w' sl' _ q s r tm (n' + 1) rb ?_ (hp.turn ?_ ?_ (by simp) (fun i x hi0 hij hx => ?_) (quiet_evs hes') (noObj_evs hes)) (hP.own hes') hc' (.inl ⟨n', rfl, hg'⟩) hB (by omega)
          · simp only [Array.size_setIfInBounds, Array.size_map]; omega
          · rw [Array.getElem?_setIfInBounds_self_of_lt (by simpa using hl0)]
          · rw [Array.getElem?_setIfInBounds_ne (by omega), Array.getElem?_map, hp.child, Option.map_some, hB.woken hc']
          · have hx := set_other (by omega) hx
            rw [Array.getElem?_map] at hx
            obtain ⟨y, hy, rfl⟩ := Option.map_eq_some_iff.1 hx
            rw [woken_quitsD (hp.old i y hi0 hij hy)]
            exact hy
      · simp [parked] at hg
    · by_cases hij : i = j
      · -- the sender moves
        subst hij
        obtain rfl : g = b := Option.some.inj (hi.symm.trans hp.child)
        rcases hB with ⟨k, rfl, hgb⟩ | ⟨_, v, vs', g₂, z', _, rfl, _⟩
        · rcases hgb.cases with hstop | ⟨k', rfl, hstep⟩
          · have hat := hstop (w.at d) trivial
            cases vs with
            | nil =>
              -- it closes the channel
              obtain ⟨_, hwake, g₂, nq, hclose, hq⟩ := hat
              have hgo := hclose _ s r tm hc1
              have hw3 : Aside c (w.at d) ((w.at d).shut c s r tm) := Aside.put c _ _
              have hc2 : ((w.at d).shut c s r tm).heap[c]? = some (.chan 0 #[] true s r tm) := heap_put hc1
              have hwk : ∀ o, woken P g g₂ ((w.at d).shut c s r tm) o = o.again ((w.at d).shut c s r tm) := by
                intro o; unfold Go.Conc.woken; rcases hq.status with h | h <;> simp [hwake, h]
              have hA' : ∃ n, Goes P true (Aside c) (DA c TT MM) (StopA P c TT MM z Fin []) n (a.again ((w.at d).shut c s r tm)) ((w.at d).shut c s r tm) := by
                rcases hA with ⟨n, _, hg⟩ | ⟨_, x, rfl, hs⟩
                · rw [again_running _ (.inl (hg.running (fun _ _ => StopA.running) w (Aside.refl c w)))]
                  exact ⟨n, Goes.rely (R := Aside c) (fun _ _ _ h h' => Aside.trans h h') hg (hAs.trans hw3)⟩
                · rw [again_parked_shut rfl hc2]
                  exact ⟨0, fun w₁ h₁ => (hs w₁ ((hAs.trans hw3).trans h₁)).again⟩
              obtain ⟨na, hna⟩ := hA'
              have hrun := runT_crowd_go (P := P) (sl := sl') (i := i) hp.child (by rw [hjf]; exact hgo)
              have hqt : ∀ op ∈ MemOp.ofEvents i g.frame.fn g.frame.place #[⟨.obj c, false, true⟩, ⟨.obj c, true, true⟩], Quiet op := quiet_evs (by simp [EvOk])
              refine reach_step (hpk.trans hrun) ?_
              refine phase_shut (j := i) (na + sumTo gs.size (upd q i nq) + 1) na _ _ _ sl' _ (upd q i nq) t.size ?_ ?_ ⟨fun m x hm0 hx => ?_, fun m hm => ?_⟩ (Pend.new hP (by omega) hp.hears hp.knows _ _) hc2 hna
              · simp only [Array.size_setIfInBounds, Array.size_map]; omega
              · rw [Array.getElem?_setIfInBounds_ne (by omega), Array.getElem?_map, hp.zero, Option.map_some, hwk]
              · rw [deaf_quiet' _ _ _ hqt]
                by_cases hmi : m = i
                · subst hmi
                  rw [Array.getElem?_setIfInBounds_self_of_lt (by simpa using hlj)] at hx
                  obtain rfl := Option.some.inj hx
                  rw [upd_same, hp.hears]
                  exact QuitsD.of_quitsIn hq
                · have hx := set_other hmi hx
                  rw [Array.getElem?_map] at hx
                  obtain ⟨y, hy, rfl⟩ := Option.map_eq_some_iff.1 hx
                  rw [woken_quitsD (hp.old m y hm0 hmi hy), upd_ne q nq hmi]
                  exact hp.old m y hm0 hmi hy
              · rw [deaf_quiet' _ _ _ hqt]
                exact hp.above m (by simpa using hm)
            | cons v vs' =>
              obtain ⟨_, g₂, z', es, hcomm, hes, hnext⟩ := hat
              obtain rfl := none_evB hes
              have hcm := hcomm (w.at d) trivial
              rcases hA with ⟨n, rfl, hg⟩ | ⟨rfl, x, rfl, hs⟩
              · -- it waits
                have has : a.status ≠ .blocked := by rw [hg.running (fun _ _ => StopA.running) w (Aside.refl c w)]; simp
                have hrun := crowd_waits (sl := sl') (i := i) hp.child (by rw [hjf]; exact hcm) (by
                  intro cc hcc
                  simp at hcc
                  subst hcc
                  exact ways_send_none hc1 (by simp) (pair_partners_recv hp has))
                refine reach_step (hpk.trans hrun) ?_
                refine ih _ i a _ (w.at d) sl' _ q s r tm (n + 1) 0 ?_ (hp.turn (a1 := a) (b1 := parked g₂ #[scase c v z'] .send) ?_ ?_ (by simp) (fun m x hm0 hmi hx => set_other hmi hx) (quiet_evs (by simp)) (noObj_evs (by simp))) ?_ hc1
                  (.inl ⟨n, rfl, Goes.rely (R := Aside c) (fun _ _ _ h h' => Aside.trans h h') hg hAs⟩) (.inr ⟨rfl, v, vs', g₂, z', rfl, rfl, hnext⟩) (by omega)
                · simp only [Array.size_setIfInBounds]; omega
                · rw [Array.getElem?_setIfInBounds_ne (by omega)]; exact hp.zero
                · rw [Array.getElem?_setIfInBounds_self_of_lt hlj]
                · exact hP.mute (by omega) (by simp)
              · -- it meets the receiver
                obtain ⟨na, hna⟩ := (recvs_iff P c TT MM z _ vs' _ _).1 ((hs _ hAs).cons _ (Aside.put c (w.at d) (.chan 0 #[] false (s + 1) (r + 1) tm)))
                obtain ⟨nb, hnb⟩ := (sendsC_iff P c vs' _).1 hnext
                have hrun := crowd_send_meets (sl := sl') (i := i) (j := 0) hp.child (by rw [hjf]; exact hcm) hc1 (by omega) hp.zero (pair_one_recv hp)
                rw [finishComm_recv, finishComm_send] at hrun
                refine reach_step (hpk.trans hrun) ?_
                rw [← Array.append_assoc]
                refine ihv vs'.length (by simp) vs' rfl (na + 1 + (nb + 1) + sumTo gs.size q + 1) _ i _ _ _ sl' _ q (s + 1) (r + 1) tm (na + 1) (nb + 1) ?_
                  ((hp.turn (a1 := parked (core x) #[rcase c z] (.recv true)) (b1 := g) hp.zero hp.child rfl (fun m y _ _ hx => hx) (quiet_evs (by simp)) (noObj_evs (by simp))).turn (a1 := Conc.served (core x) (.tuple #[v, .bool true])) (b1 := Conc.served g₂ undef) ?_ ?_ (by simp) (fun m y hm0 hmi hx => set_other (by omega) (set_other hmi hx)) (by simp [Quiet]) (by simp [NoObj, MemAct.touch?]))
                  (Calm0.comm [_, _, _, _] (hP.mute (by omega) (by simp)) (by simp [MemAct.touch?, Quiet])) (heap_put hc1) (.inl ⟨na, rfl, hna⟩) (.inl ⟨nb, rfl, hnb⟩) (by omega)
                · simp only [Array.size_setIfInBounds]; omega
                · rw [Array.getElem?_setIfInBounds_ne (by omega), Array.getElem?_setIfInBounds_self_of_lt hl0]; rfl
                · rw [Array.getElem?_setIfInBounds_self_of_lt (by simpa using hlj)]
          · -- a step of its own
            obtain ⟨b', w', es, hgo, ⟨rfl, hes⟩, hg'⟩ := hstep (w.at d) trivial
            obtain rfl := none_evB hes
            have hrun := runT_crowd_go (P := P) (sl := sl') (i := i) hp.child (by rw [hjf]; exact hgo)
            refine reach_step (hpk.trans hrun) ?_
            refine ih _ i a b' (w.at d) sl' _ q s r tm ra (k' + 1) ?_ (hp.turn ?_ ?_ (by simp) (fun m x hm0 hmi hx => ?_) (quiet_evs (by simp)) (noObj_evs (by simp))) (hP.mute (by omega) (by simp)) hc1 (hA.rely hAs) (.inl ⟨k', rfl, hg'.anyWorld default⟩) (by omega)
            · simp only [Array.size_setIfInBounds, Array.size_map]; omega
            · rw [Array.getElem?_setIfInBounds_ne (by omega), Array.getElem?_map, hp.zero, Option.map_some, hA.woken hc1]
            · rw [Array.getElem?_setIfInBounds_self_of_lt (by simpa using hlj)]
            · have hx := set_other hmi hx
              rw [Array.getElem?_map] at hx
              obtain ⟨y, hy, rfl⟩ := Option.map_eq_some_iff.1 hx
              rw [woken_quitsD (hp.old m y hm0 hmi hy)]
              exact hy
        · simp [parked] at hg
      · -- a leaver's step
        have hpos' : 0 < i := by omega
        have hq := hp.old i g hpos' hij hi
        have hi0 : (i == 0) = false := by simp; omega
        have hlt : i < gs.size := (Array.getElem?_eq_some_iff.1 hi).1
        cases hqi : q i with
        | zero => rw [hqi] at hq; rw [hq.1] at hg; cases hg
        | succ k =>
          rw [hqi] at hq
          rcases hq with ⟨hf, _⟩ | ⟨_, g', es', hm, hstp, hq'⟩
          · rw [hf] at hg; cases hg
          have hrun := runT_crowd_go (P := P) (sl := sl') (i := i) hi (by rw [hi0]; exact hstp (w.at d))
          have hsum : sumTo gs.size (upd q i k) + (k + 1) = sumTo gs.size q + k := by
            have := sumTo_upd q k id hlt
            simpa [hqi] using this
          refine reach_step (hpk.trans hrun) ?_
          refine ih _ j a b (w.at d) sl' _ (upd q i k) s r tm ra rb ?_ ⟨?_, hj0, ?_, fun m x hm0 hmj hx => ?_, ?_, fun m hm => ?_, fun m x hx hl hw => ?_⟩ (hP.mute (by omega) hm) hc1 (hA.rely hAs) hB hpos
          · simp only [Array.size_setIfInBounds, Array.size_map]; omega
          · rw [Array.getElem?_setIfInBounds_ne (by omega), Array.getElem?_map, hp.zero, Option.map_some, hA.woken hc1]
          · rw [Array.getElem?_setIfInBounds_ne (by omega), Array.getElem?_map, hp.child, Option.map_some, hB.woken hc1]
          · by_cases hmi : m = i
            · subst hmi
              rw [Array.getElem?_setIfInBounds_self_of_lt (by simpa using hlt)] at hx
              obtain rfl := Option.some.inj hx
              rw [upd_same, Deaf_own]
              exact hq'
            · have hx := set_other hmi hx
              rw [Array.getElem?_map] at hx
              obtain ⟨y, hy, rfl⟩ := Option.map_eq_some_iff.1 hx
              have hqj := hp.old m y hm0 hmj hy
              rw [woken_quitsD hqj, upd_ne q k hmi, Deaf_other t (g' := i) (fun e => hmi e.symm) _ (fun op hop => g_evs hop)]
              exact hqj
          · rw [Deaf_other t (g' := i) hij _ (fun op hop => g_evs hop)]
            exact hp.hears
          · rw [Deaf_other t (g' := i) (by simp at hm; omega) _ (fun op hop => g_evs hop)]
            exact hp.above m (by simpa using hm)
          · obtain ⟨op, hop, hox⟩ := touch_of hx
            rcases getElem?_append_cases hop with ⟨_, hop'⟩ | ⟨_, hou⟩
            · exact (hp.knows m x (by rw [touchAt_of hop']; exact hox) hl hw).app _
            · rw [ofEvents_eq] at hou
              obtain ⟨e, he, rfl⟩ := Array.mem_map.1 hou
              rw [touch_mute (hm e he)] at hox
              cases hox
end
end Go.Proofs.Ytiikledbflgejaa
