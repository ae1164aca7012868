/- Texts put together. -/
import Derived.Conc.Neutral
import Derived.Conc.Events
/- What an entry of an operation reads of the tape is the answers that it draws: a run of it goes alike on every tape that gives these answers. Condition: the entry makes no call of the system (but for the environment) and leaves no mark but 'no room'. -/
namespace Go.Proofs.Ytiikledbflgejaa
open Go.Conc

/-- the entry is mild: no call of the system but for the environment, no mark but 'no room', no halt that waits or ends the process -/
def Mild {α : Type} : Sem α → Prop
  | .pure _ => True
  | .load m _ k => m = .plain ∧ ∀ v, Mild (k v)
  | .store m _ _ k => m = .plain ∧ Mild k
  | .new _ k => ∀ r, Mild (k r)
  | .shape _ k => ∀ s, Mild (k s)
  | .freeze _ _ k => Mild k
  | .frozen _ k => ∀ b, Mild (k b)
  | .getObj _ k => ∀ o, Mild (k o)
  | .setObj _ _ k => Mild k
  | .choose _ k => ∀ n, Mild (k n)
  | .sys c k => c = .env ∧ ∀ r, Mild (k r)
  | .program k => ∀ p, Mild (k p)
  | .mark m k => m = .noRoom ∧ Mild k
  | .halt h => match h with
    | .panic _ | .unsupported _ | .stuck _ => True
    | _ => False

theorem Mild.bind {α β : Type} {s : Sem α} {f : α → Sem β} (hs : Mild s) (hf : ∀ a, Mild (f a)) : Mild (s.bind f) := by
  induction s with
  | pure a => exact hf a
  | load m a k ih => exact ⟨hs.1, fun v => ih v (hs.2 v)⟩
  | store m a v k ih => exact ⟨hs.1, ih hs.2⟩
  | new o k ih => exact fun r => ih r (hs r)
  | shape r k ih => exact fun x => ih x (hs x)
  | freeze a n k ih => exact ih hs
  | frozen a k ih => exact fun x => ih x (hs x)
  | getObj r k ih => exact fun x => ih x (hs x)
  | setObj r o k ih => exact ih hs
  | choose q k ih => exact fun x => ih x (hs x)
  | sys c k ih => exact ⟨hs.1, fun x => ih x (hs.2 x)⟩
  | program k ih => exact fun x => ih x (hs x)
  | mark m k ih => exact ⟨hs.1, ih hs.2⟩
  | halt h => exact hs

/-- the answers that a world is given -/
abbrev Tp := Nat → Question → Nat
/-- the same world on another tape, from another place of it -/
def tp (w : World) (τ : Tp) (d : Nat) : World := { w with tape := τ, drawn := d }
def wof {α : Type} : Result α → World
  | .ok _ w => w
  | .halt _ w => w
def rtp {α : Type} (r : Result α) (τ : Tp) (d : Nat) : Result α :=
  match r with
  | .ok a w => .ok a (tp w τ d)
  | .halt h w => .halt h (tp w τ d)

theorem tp_cell (w : World) (τ : Tp) (d : Nat) (a : Addr) : (tp w τ d).cell? a = w.cell? a := rfl
theorem tp_frozen (w : World) (τ : Tp) (d : Nat) (a : Addr) : (tp w τ d).frozen? a = w.frozen? a := rfl
theorem tp_farLoad (P : Program) (w : World) (τ : Tp) (d : Nat) (a : Addr) (b : Bool) : (tp w τ d).farLoad P a b = w.farLoad P a b := rfl
theorem tp_viewStore (P : Program) (w : World) (τ : Tp) (d : Nat) (b : Addr) (u : TypeId) (a : Addr) (v : Value) (at_ : Bool) :
    (tp w τ d).viewStore P b u a v at_ = match w.viewStore P b u a v at_ with | .ok (w', l) => .ok (tp w' τ d, l) | .error h => .error h := by
  unfold World.viewStore
  have e : (tp w τ d).seen P b u a at_ = w.seen P b u a at_ := rfl
  rw [e]
  cases tight P P.depth u with
  | false => rfl
  | true =>
    cases w.seen P b u a at_ with
    | error h => rfl
    | ok x =>
      obtain ⟨c, e, fz, first, like, cells⟩ := x
      simp only [bind, Except.bind, pure, Except.pure, Bool.not_true]
      cases v.bytes? with
      | none => rfl
      | some bytes =>
        by_cases hsz : some bytes.length = like.bytes?.map (·.length)
        · simp only [hsz, ne_eq, not_true_eq_false, ↓reduceIte]
          generalize List.foldlM (m := Except String) _ _ _ = x
          cases x <;> rfl
        · simp only [hsz, ne_eq, not_false_eq_true, ↓reduceIte]
          rfl
theorem tp_farStore (P : Program) (w : World) (τ : Tp) (d : Nat) (a : Addr) (v : Value) (b : Bool) :
    (tp w τ d).farStore P a v b = match w.farStore P a v b with | .ok (w', l) => .ok (tp w' τ d, l) | .error h => .error h := by
  unfold World.farStore
  show (match w.heap[a.block]? with
    | some (.view at_ u) => match (tp w τ d).viewStore P at_ u a v b with
      | .ok r => Except.ok r
      | .error why => .error (Halt.unsupported (.unsafePointer why))
    | _ => .error (w.noCell a "store: no such cell")) = _
  cases w.heap[a.block]? with
  | none => rfl
  | some o =>
    cases o <;> try rfl
    simp only [tp_viewStore]
    cases w.viewStore P _ _ a v b with
    | error h => rfl
    | ok x => rfl

theorem sys_env (w : World) : w.sys .env = (.strings w.os.env, w) := rfl
/-- the run reads of the tape what it draws -/
def Local (P : Program) {α : Type} (s : Sem α) : Prop :=
  ∀ (w : World) (es : Array Event) (r : Result α) (es' : Array Event), s.runT P w es = (r, es') →
    w.drawn ≤ (wof r).drawn ∧ (wof r).tape = w.tape ∧ ∀ (τ : Tp) (D : Nat), (∀ j, w.drawn + j < (wof r).drawn → τ (D + j) = w.tape (w.drawn + j)) →
      s.runT P (tp w τ D) es = (rtp r τ (D + ((wof r).drawn - w.drawn)), es')

theorem local_same {P : Program} {α : Type} {s t : Sem α} {f : Array Event → Array Event} {u : World → World} (hd : ∀ w, (u w).drawn = w.drawn) (ht : ∀ w, (u w).tape = w.tape) (hu : ∀ w τ d, u (tp w τ d) = tp (u w) τ d)
    (h : Local P t) (w : World) (es : Array Event) (r : Result α) (es' : Array Event) (e : s.runT P w es = t.runT P (u w) (f es)) (e' : ∀ τ d, s.runT P (tp w τ d) es = t.runT P (u (tp w τ d)) (f es)) (hr : s.runT P w es = (r, es')) :
    w.drawn ≤ (wof r).drawn ∧ (wof r).tape = w.tape ∧ ∀ (τ : Tp) (D : Nat), (∀ j, w.drawn + j < (wof r).drawn → τ (D + j) = w.tape (w.drawn + j)) →
      s.runT P (tp w τ D) es = (rtp r τ (D + ((wof r).drawn - w.drawn)), es') := by
  obtain ⟨h1, h2, h3⟩ := h (u w) (f es) r es' (e ▸ hr)
  rw [hd] at h1 h3
  rw [ht] at h2 h3
  refine ⟨h1, h2, fun τ D hj => ?_⟩
  rw [e' τ D, hu]
  exact h3 τ D hj

theorem local_of_mild (P : Program) {α : Type} (s : Sem α) (hs : Mild s) : Local P s := by
  induction s with
  | pure a =>
    intro w es r es' h
    simp only [Sem.runT, Prod.mk.injEq] at h
    obtain ⟨rfl, rfl⟩ := h
    exact ⟨Nat.le_refl _, rfl, fun τ D _ => by simp [Sem.runT, rtp, wof, -Sem.runT_eq]⟩
  | halt a =>
    intro w es r es' h
    simp only [Sem.runT, Prod.mk.injEq] at h
    obtain ⟨rfl, rfl⟩ := h
    exact ⟨Nat.le_refl _, rfl, fun τ D _ => by simp [Sem.runT, rtp, wof, -Sem.runT_eq]⟩
  | load m a k ih =>
    intro w es r es' h
    cases hc : w.cell? a with
    | some v =>
      exact local_same (u := id) (f := fun es => es.push ⟨.cell a, false, m == .atomic⟩) (fun _ => rfl) (fun _ => rfl) (fun _ _ _ => rfl) (ih v (hs.2 v)) w es r es' (by simp only [Sem.runT, hc, id]) (fun τ d => by simp only [Sem.runT, tp_cell, hc, id]) h
    | none =>
      cases hf : w.farLoad P a (m == .atomic) with
      | error e =>
        simp only [Sem.runT, hc, hf, Prod.mk.injEq] at h
        obtain ⟨rfl, rfl⟩ := h
        exact ⟨Nat.le_refl _, rfl, fun τ D _ => by simp [Sem.runT, rtp, wof, tp_cell, hc, tp_farLoad, hf, -Sem.runT_eq]⟩
      | ok x =>
        obtain ⟨v, l⟩ := x
        exact local_same (u := id) (f := fun es => es ++ l.toArray.map (⟨.cell ·, false, m == .atomic⟩)) (fun _ => rfl) (fun _ => rfl) (fun _ _ _ => rfl) (ih v (hs.2 v)) w es r es' (by simp only [Sem.runT, hc, hf, id]) (fun τ d => by simp only [Sem.runT, tp_cell, tp_farLoad, hc, hf, id]) h
  | store m a v k ih =>
    intro w es r es' h
    have hv : (∃ x, v = .agg x) ∨ (∃ x, v = .tuple x) ∨ ∀ w es, (Sem.store m a v k).runT P w es = match w.cell? a with
        | some _ => if w.frozen? a then (.halt (.unsupported (.unsafePointer "a write to bytes that a string shares")) w, es) else k.runT P (w.setCell a v) (es.push ⟨.cell a, true, m == .atomic⟩)
        | none => match w.farStore P a v (m == .atomic) with
          | .ok (w, touched) => k.runT P w (es ++ touched.toArray.map (⟨.cell ·, true, m == .atomic⟩))
          | .error h => (.halt h w, es) := by
      cases v <;> first | exact .inl ⟨_, rfl⟩ | exact .inr (.inl ⟨_, rfl⟩) | exact .inr (.inr fun w es => by
        simp only [Sem.runT]
        cases w.cell? a with
        | some _ => rfl
        | none =>
          simp only []
          cases w.farStore P a _ (m == .atomic) with
          | ok x => cases x; rfl
          | error e => rfl)
    rcases hv with ⟨x, rfl⟩ | ⟨x, rfl⟩ | hv
    · simp only [Sem.runT, Prod.mk.injEq] at h
      obtain ⟨rfl, rfl⟩ := h
      exact ⟨Nat.le_refl _, rfl, fun τ D _ => by simp [Sem.runT, rtp, wof, -Sem.runT_eq]⟩
    · simp only [Sem.runT, Prod.mk.injEq] at h
      obtain ⟨rfl, rfl⟩ := h
      exact ⟨Nat.le_refl _, rfl, fun τ D _ => by simp [Sem.runT, rtp, wof, -Sem.runT_eq]⟩
    · cases hc : w.cell? a with
      | some v0 =>
        cases hf : w.frozen? a with
        | true =>
          simp only [hv, hc, hf, if_true, Prod.mk.injEq] at h
          obtain ⟨rfl, rfl⟩ := h
          exact ⟨Nat.le_refl _, rfl, fun τ D _ => by simp [hv, rtp, wof, tp_cell, tp_frozen, hc, hf, -Sem.runT_eq]⟩
        | false =>
          exact local_same (u := fun w => w.setCell a v) (f := fun es => es.push ⟨.cell a, true, m == .atomic⟩) (fun _ => rfl) (fun _ => rfl) (fun _ _ _ => rfl) (ih hs.2) w es r es' (by simp [hv, hc, hf, -Sem.runT_eq]) (fun τ d => by simp [hv, tp_cell, tp_frozen, hc, hf, -Sem.runT_eq]) h
      | none =>
        cases hf : w.farStore P a v (m == .atomic) with
        | error e =>
          simp only [hv, hc, hf, Prod.mk.injEq] at h
          obtain ⟨rfl, rfl⟩ := h
          exact ⟨Nat.le_refl _, rfl, fun τ D _ => by simp [hv, rtp, wof, tp_cell, hc, tp_farStore, hf, -Sem.runT_eq]⟩
        | ok x =>
          obtain ⟨w1, l⟩ := x
          have hw1 : w1.drawn = w.drawn ∧ w1.tape = w.tape := by
            have h1 := tp_farStore P w w.tape w.drawn a v (m == .atomic)
            have e0 : tp w w.tape w.drawn = w := rfl
            rw [e0, hf] at h1
            simp only [Except.ok.injEq, Prod.mk.injEq, and_true] at h1
            rw [h1]
            exact ⟨rfl, rfl⟩
          obtain ⟨h1, h2, h3⟩ := ih hs.2 w1 (es ++ l.toArray.map (⟨.cell ·, true, m == .atomic⟩)) r es' (by rw [← h, hv]; simp only [hc, hf])
          rw [hw1.1] at h1 h3
          rw [hw1.2] at h2 h3
          refine ⟨h1, h2, fun τ D hj => ?_⟩
          rw [hv]
          simp only [tp_cell, hc, tp_farStore, hf]
          exact h3 τ D hj
  | new o k ih =>
    intro w es r es' h
    exact local_same (u := fun w => { w with heap := w.heap.push o }) (f := id) (fun _ => rfl) (fun _ => rfl) (fun _ _ _ => rfl) (ih w.heap.size (hs _)) w es r es' rfl (fun _ _ => rfl) h
  | shape a k ih =>
    intro w es r es' h
    exact local_same (u := id) (f := id) (fun _ => rfl) (fun _ => rfl) (fun _ _ _ => rfl) (ih (w.shape? a) (hs _)) w es r es' rfl (fun _ _ => rfl) h
  | freeze a n k ih =>
    intro w es r es' h
    exact local_same (u := fun w => w.freeze a n) (f := id) (fun w => by unfold World.freeze; split <;> rfl) (fun w => by unfold World.freeze; split <;> rfl) (fun w τ d => by unfold World.freeze; split <;> rfl) (ih hs) w es r es' rfl (fun _ _ => rfl) h
  | frozen a k ih =>
    intro w es r es' h
    exact local_same (u := id) (f := id) (fun _ => rfl) (fun _ => rfl) (fun _ _ _ => rfl) (ih (w.frozen? a) (hs _)) w es r es' rfl (fun _ _ => rfl) h
  | getObj a k ih =>
    intro w es r es' h
    have hx : ∀ τ d, (tp w τ d).heap[a]? = w.heap[a]? := fun _ _ => rfl
    cases hc : w.heap[a]? with
    | none =>
      simp only [Sem.runT, hc, Prod.mk.injEq] at h
      obtain ⟨rfl, rfl⟩ := h
      exact ⟨Nat.le_refl _, rfl, fun τ D _ => by simp [Sem.runT, rtp, wof, hx, hc, -Sem.runT_eq]⟩
    | some o =>
      by_cases hcell : ∃ x y z, o = .cells x y z
      · obtain ⟨x, y, z, rfl⟩ := hcell
        simp only [Sem.runT, hc, Prod.mk.injEq] at h
        obtain ⟨rfl, rfl⟩ := h
        exact ⟨Nat.le_refl _, rfl, fun τ D _ => by simp [Sem.runT, rtp, wof, hx, hc, -Sem.runT_eq]⟩
      · have hg : ∀ w' es, w'.heap[a]? = some o → (Sem.getObj a k).runT P w' es = (k o).runT P w' (es.push ⟨.obj a, false, o.isChan⟩) := by
          intro w' es h'
          cases o <;> first | exact absurd ⟨_, _, _, rfl⟩ hcell | simp only [Sem.runT, h']
        exact local_same (u := id) (f := fun es => es.push ⟨.obj a, false, o.isChan⟩) (fun _ => rfl) (fun _ => rfl) (fun _ _ _ => rfl) (ih o (hs o)) w es r es' (hg w es hc) (fun τ d => hg _ es hc) h
  | setObj a o k ih =>
    intro w es r es' h
    have hx : ∀ τ d, (tp w τ d).heap[a]? = w.heap[a]? := fun _ _ => rfl
    cases hc : w.heap[a]? with
    | none =>
      simp only [Sem.runT, hc, Prod.mk.injEq] at h
      obtain ⟨rfl, rfl⟩ := h
      exact ⟨Nat.le_refl _, rfl, fun τ D _ => by simp [Sem.runT, rtp, wof, hx, hc, -Sem.runT_eq]⟩
    | some o' =>
      by_cases hcell : ∃ x y z, o' = .cells x y z
      · obtain ⟨x, y, z, rfl⟩ := hcell
        simp only [Sem.runT, hc, Prod.mk.injEq] at h
        obtain ⟨rfl, rfl⟩ := h
        exact ⟨Nat.le_refl _, rfl, fun τ D _ => by simp [Sem.runT, rtp, wof, hx, hc, -Sem.runT_eq]⟩
      · have hg : ∀ w' : World, ∀ es, w'.heap[a]? = some o' → (Sem.setObj a o k).runT P w' es = k.runT P { w' with heap := w'.heap.setIfInBounds a o } (es.push ⟨.obj a, true, o.isChan⟩) := by
          intro w' es h'
          cases o' <;> first | exact absurd ⟨_, _, _, rfl⟩ hcell | simp only [Sem.runT, h']
        exact local_same (u := fun w => { w with heap := w.heap.setIfInBounds a o }) (f := fun es => es.push ⟨.obj a, true, o.isChan⟩) (fun _ => rfl) (fun _ => rfl) (fun _ _ _ => rfl) (ih hs) w es r es' (hg w es hc) (fun τ d => hg _ es hc) h
  | choose q k ih =>
    intro w es r es' h
    by_cases hq : q.forced = true
    · exact local_same (u := id) (f := id) (fun _ => rfl) (fun _ => rfl) (fun _ _ _ => rfl) (ih 0 (hs 0)) w es r es' (by simp [Sem.runT, hq, -Sem.runT_eq]) (fun τ d => by simp [Sem.runT, hq, -Sem.runT_eq]) h
    · obtain ⟨h1, h2, h3⟩ := ih (q.cut (w.tape w.drawn q)) (hs _) { w with drawn := w.drawn + 1 } es r es' (by rw [← h]; simp [Sem.runT, hq, -Sem.runT_eq])
      simp only at h1 h2 h3
      refine ⟨by omega, h2, fun τ D hj => ?_⟩
      have e0 : τ D q = w.tape w.drawn q := congrFun (hj 0 (by omega)) q
      have := h3 τ (D + 1) (fun j hlt => by
        have := hj (j + 1) (by omega)
        rw [show D + 1 + j = D + (j + 1) by omega, show w.drawn + 1 + j = w.drawn + (j + 1) by omega]
        exact this)
      rw [show D + 1 + ((wof r).drawn - (w.drawn + 1)) = D + ((wof r).drawn - w.drawn) by omega] at this
      rw [← this]
      have e1 : (tp w τ D).tape (tp w τ D).drawn q = w.tape w.drawn q := e0
      simp only [Sem.runT, hq, e1]
      rfl
  | sys c k ih =>
    obtain ⟨rfl, hk⟩ := hs
    intro w es r es' h
    exact local_same (u := id) (f := fun es => es.push ⟨.output, true, false⟩) (fun _ => rfl) (fun _ => rfl) (fun _ _ _ => rfl) (ih (.strings w.os.env) (hk _)) w es r es' rfl (fun _ _ => rfl) h
  | program k ih =>
    intro w es r es' h
    exact local_same (u := id) (f := id) (fun _ => rfl) (fun _ => rfl) (fun _ _ _ => rfl) (ih P (hs _)) w es r es' rfl (fun _ _ => rfl) h
  | mark m k ih =>
    intro w es r es' h
    exact local_same (u := id) (f := fun es => es.push ⟨.mark m, false, true⟩) (fun _ => rfl) (fun _ => rfl) (fun _ _ _ => rfl) (ih hs.2) w es r es' rfl (fun _ _ => rfl) h
end Go.Proofs.Ytiikledbflgejaa
