/- Texts put together. -/
import Derived.Test.YtfcbfflkajlhnaaMgC25
import Derived.Test.YtfcbfflkajlhnaaChecked
import Derived.Test.YtfcbfflkajlhnaaMgC10
/- The laws of the walk for maps whose keys are a text and a byte beside it: look-up, store, len, range, step, delete. No condition. -/
namespace Go.Proofs.Ytfcbfflkajlhnaa
open Go.RowKit Go.Maps

/-- block b is a map that holds just the keys L, and at each what g says -/
def FMap (P : Program) (k e : TypeId) (w : World) (b : Nat) (L : List FK) (g : FK → Lit) : Prop :=
  ∃ D : DataW Empty, w.ownsMap P k (plainElem P e) b L.length D ∧ Rep D L g
/-- .. under a range whose keys M are still to come -/
def FRange (P : Program) (k e : TypeId) (w : World) (b r : Nat) (L : List FK) (g : FK → Lit) (M : List FK) : Prop :=
  ∃ (D : DataW Empty) (left : Lit → Bool) (cnt : Nat), w.ranges P k (plainElem P e) b r L.length D left cnt ∧ Rep D L g ∧ M.Nodup ∧ (∀ p ∈ M, p ∈ L) ∧ ∀ l, left l = true ↔ ∃ p ∈ M, l = fLit p

/-- L' is L without p -/
def Dels (L' L : List FK) (p : FK) : Prop := ∀ q, q ∈ L' ↔ q ∈ L ∧ q ≠ p

section
variable {P : Program} {k tw tb t e : TypeId} {w : World} {b n r : Nat} {L M : List FK} {g : FK → Lit}

theorem plainElem_bool_inv {H : Type} (he : P.underlying e = some .bool) {v : Value} {z : DataW H × List MemPlace} (h : plainElem P e v = some z) : ∃ x, v = .bool x ∧ z = (.lit (.bool x), []) := by
  unfold plainElem at h
  rw [he] at h
  cases v <;> simp at h
  exact ⟨_, rfl, h.symm⟩
theorem ownsMap_exact {H : Type} {R : Value → Option (DataW H × List MemPlace)} {D : DataW H} (h : w.ownsMap P k R b n D) : w.ownsMap P k R b (Maps.size D) D := by
  obtain ⟨es, clock, hb, F, hs, rfl⟩ := h
  exact ⟨es, clock, hb, F, by simp [Maps.size, length_sorted], rfl⟩
theorem ranges_exact {H : Type} {R : Value → Option (DataW H × List MemPlace)} {D : DataW H} {left : Lit → Bool} {cnt : Nat} (h : w.ranges P k R b r n D left cnt) : w.ranges P k R b r (Maps.size D) D left cnt := by
  obtain ⟨es, clock, since, seen, c0, hb, F, hs, rfl, rest⟩ := h
  exact ⟨es, clock, since, seen, c0, hb, F, by simp [Maps.size, length_sorted], rfl, rest⟩

theorem FMap.lt (h : FMap P k e w b L g) : b < w.heap.size := by
  obtain ⟨D, h, _⟩ := h
  exact h.lt
theorem FMap.kept {w' : World} {row : Option Nat} (h : FMap P k e w b L g) (hg : w.grownBy w' row) (hne : row ≠ some b) : FMap P k e w' b L g := by
  obtain ⟨D, h, hr⟩ := h
  exact ⟨D, h.kept hg (fun e => hne e.symm), hr⟩
theorem FMap.below {w' : World} (h : FMap P k e w b L g) (hb : Below w.heap.size w w') : FMap P k e w' b L g := h.kept (grown_of_below hb none) (by simp)
theorem FMap.alloc (h : FMap P k e w b L g) (o : Obj) : FMap P k e (w.alloc o) b L g := h.kept (World.grownBy_alloc w o none) (by simp)
theorem FMap.made (w : World) (g : FK → Lit) : FMap P k e (w.alloc (.map #[] 0)) w.heap.size [] g := ⟨_, World.ownsMap_made w P k _, rep_empty g⟩
theorem FMap.nodup (h : FMap P k e w b L g) : L.Nodup := h.choose_spec.2.nodup
theorem FMap.ok (h : FMap P k e w b L g) : ∀ p ∈ L, FOk p := h.choose_spec.2.ok
theorem FMap.vals (h : FMap P k e w b L g) {g' : FK → Lit} (hg : ∀ p ∈ L, g' p = g p) : FMap P k e w b L g' := by
  obtain ⟨D, h, hr⟩ := h
  exact ⟨D, h, hr.nodup, hr.size, hr.ok, hr.has, fun p hp z => by rw [hr.at' p hp, hg p hp], hr.all⟩
theorem FRange.owns (h : FRange P k e w b r L g M) : FMap P k e w b L g := by
  obtain ⟨D, left, cnt, h, hr, _⟩ := h
  exact ⟨D, h.owns, hr⟩
theorem FRange.nodup (h : FRange P k e w b r L g M) : M.Nodup := by
  obtain ⟨D, left, cnt, h, hr, hn, _⟩ := h
  exact hn
theorem FRange.sub (h : FRange P k e w b r L g M) : ∀ p ∈ M, p ∈ L := by
  obtain ⟨D, left, cnt, h, hr, hn, hs, _⟩ := h
  exact hs
theorem FRange.lt (h : FRange P k e w b r L g M) : r < w.heap.size := by
  obtain ⟨D, left, cnt, h, _⟩ := h
  exact h.lt
theorem FRange.ne (h : FRange P k e w b r L g M) : r ≠ b := by
  obtain ⟨D, left, cnt, h, _⟩ := h
  exact h.ne
theorem FRange.kept {w' : World} {row : Option Nat} (h : FRange P k e w b r L g M) (hg : w.grownBy w' row) (h1 : row ≠ some b) (h2 : row ≠ some r) : FRange P k e w' b r L g M := by
  obtain ⟨D, left, cnt, h, rest⟩ := h
  exact ⟨D, left, cnt, h.kept hg (fun e => h1 e.symm) (fun e => h2 e.symm), rest⟩
theorem FRange.below {w' : World} (h : FRange P k e w b r L g M) (hb : Below w.heap.size w w') : FRange P k e w' b r L g M := h.kept (grown_of_below hb none) (by simp) (by simp)
theorem FRange.alloc (h : FRange P k e w b r L g M) (o : Obj) : FRange P k e (w.alloc o) b r L g M := h.kept (World.grownBy_alloc w o none) (by simp) (by simp)
theorem rangeLeft_kept {w' : World} {row : Option Nat} (h : FRange P k e w b r L g M) (hg : w.grownBy w' row) (h1 : row ≠ some b) (h2 : row ≠ some r) : w'.rangeLeft b r = w.rangeLeft b r := by
  obtain ⟨D, left, cnt, h, rest⟩ := h
  rw [(h.kept hg (fun e => h1 e.symm) (fun e => h2 e.symm)).left_eq, h.left_eq]

variable {ops : Array Oper} {rest : List Oper} {o : Oper} {a : Act} {Q : Exit → Act → World → Prop}

/-- m[k] of a map of bools -/
theorem wp_lookB (w : World) (hg : o.guard = none) (m x : Operand) (t : TypeId) (hop : o.op = Op.lookup t m x false) (T : FTypes P k tw tb) (K : Keyed P k) (ht : P.underlying t = some (.map k e)) (he : P.underlying e = some .bool)
    (hz : (zeroValue e).run P w = .ok (.bool false) w) (b : Nat) (L : List FK) (hm : a.eval m = .map (some b)) (h : FMap P k e w b L (fun _ => .bool true)) (p : FK) (hx : a.eval x = fKey p) (hp : FOk p) (c : Bool) (hc : c = true ↔ p ∈ L)
    (hK : wpList P ops Q rest (a.put o.dst (.bool c)) w) : wpList P ops Q (o :: rest) a w := by
  refine wpList_plain hg fun K' hK' => ?_
  obtain ⟨D, hown, hr⟩ := h
  obtain ⟨v, ps, hrun, hv⟩ := hown.lookup K ht hz (plainElem_bool he false) (T.of p hp)
  obtain ⟨y, rfl, hy⟩ := plainElem_bool_inv he hv
  have hyc : y = c := by
    simp only [Prod.mk.injEq] at hy
    by_cases hm : p ∈ L
    · have e1 := hr.at' p hm (.lit (.bool false))
      rw [hy.1] at e1
      injection e1 with e1
      injection e1 with e1
      rw [e1, hc.2 hm]
    · have e1 := atKey_of_not_has (D := D) (k := fLit p) (by
        cases hh : Maps.has D (fLit p)
        · rfl
        · exact absurd ((hr.mem T K hp).1 hh) hm) (.lit (.bool false))
      rw [hy.1] at e1
      injection e1 with e1
      injection e1 with e1
      rw [e1]
      cases c
      · rfl
      · exact absurd (hc.1 rfl) hm
  subst hyc
  unfold Oper.wp
  simp [execOp, hop, hm, hx, hrun, Result.andThen]
  exact hK' _ _ hK

/-- m[k] of a map of integers -/
theorem wp_lookI (w : World) (hg : o.guard = none) (m x : Operand) (t : TypeId) (hop : o.op = Op.lookup t m x false) (T : FTypes P k tw tb) (K : Keyed P k) (ht : P.underlying t = some (.map k e)) (he : P.underlying e = some (.int .i64))
    (hz : (zeroValue e).run P w = .ok (.int .i64 0) w) (b : Nat) (L : List FK) (g : FK → Lit) (hm : a.eval m = .map (some b)) (h : FMap P k e w b L g) (p : FK) (hx : a.eval x = fKey p) (hp : FOk p) (c : Int) (hc1 : p ∈ L → g p = .int .i64 c) (hc2 : p ∉ L → c = 0)
    (hK : wpList P ops Q rest (a.put o.dst (.int .i64 c)) w) : wpList P ops Q (o :: rest) a w := by
  refine wpList_plain hg fun K' hK' => ?_
  obtain ⟨D, hown, hr⟩ := h
  obtain ⟨y, hrun, hy, _⟩ := hown.lookup_int K ht he hz (T.of p hp)
  have hyc : y = c := by
    by_cases hm : p ∈ L
    · have e1 := hr.at' p hm (.lit (.int .i64 0))
      rw [hy, hc1 hm] at e1
      injection e1 with e1
      injection e1
    · have e1 := atKey_of_not_has (D := D) (k := fLit p) (by
        cases hh : Maps.has D (fLit p)
        · rfl
        · exact absurd ((hr.mem T K hp).1 hh) hm) (.lit (.int .i64 0))
      rw [hy] at e1
      injection e1 with e1
      injection e1 with _ e1
      rw [e1, hc2 hm]
  subst hyc
  unfold Oper.wp
  simp [execOp, hop, hm, hx, hrun, Result.andThen]
  exact hK' _ _ hK

/-- m[k] = v, run -/
theorem FMap.put {t : TypeId} (h : FMap P k e w b L g) (T : FTypes P k tw tb) (K : Keyed P k) (ht : P.underlying t = some (.map k e)) (hn : L.length < maxLen) (p : FK) (val : Value) (hp : FOk p) (g' : FK → Lit) (hg' : ∀ q ∈ L, q ≠ p → g' q = g q) (hval : plainElem (H := Empty) P e val = some (.lit (g' p), [])) :
    ∃ w' L', (Instr.mapUpdate t (.map (some b)) (fKey p) val).run P w = .ok () w' ∧ FMap P k e w' b L' g' ∧ (∀ q, q ∈ L' ↔ q = p ∨ q ∈ L) ∧ L'.length ≤ L.length + 1 ∧ w.grownBy w' (some b) ∧ w'.heap.size = w.heap.size := by
  obtain ⟨D, hown, hr⟩ := h
  obtain ⟨w', hrun, r1, r2⟩ := hown.store K ht hn (T.of p hp) hval
  obtain ⟨L', q1, q2, q3, _⟩ := hr.put T K (hown.tidy K) hp g' hg'
  have r3 := ownsMap_exact r1
  rw [q1.size] at r3
  have hsz : w'.heap.size = w.heap.size := by
    obtain ⟨es, clock, es', clock', _, rfl⟩ := r2
    simp [ChangeMaps.setBlock]
  exact ⟨w', L', hrun, ⟨_, r3, q1⟩, q2, q3, r2.grown, hsz⟩
theorem FMap.drewN (h : FMap P k e w b L g) (j : Nat) : FMap P k e (w.drewN j) b L g := h
theorem FMap.drew (h : FMap P k e w b L g) : FMap P k e w.drew b L g := h

/-- m[k] = v -/
theorem wp_put (w : World) (hg : o.guard = none) (m x v : Operand) (t : TypeId) (hop : o.op = Op.mapUpdate t m x v) (T : FTypes P k tw tb) (K : Keyed P k) (ht : P.underlying t = some (.map k e)) (b : Nat) (L : List FK) (g : FK → Lit) (hm : a.eval m = .map (some b))
    (h : FMap P k e w b L g) (hn : L.length < maxLen) (p : FK) (val : Value) (hx : a.eval x = fKey p) (hv : a.eval v = val) (hp : FOk p) (g' : FK → Lit) (hg' : ∀ q ∈ L, q ≠ p → g' q = g q) (hval : plainElem (H := Empty) P e val = some (.lit (g' p), []))
    (hK : ∀ w' L', FMap P k e w' b L' g' → (∀ q, q ∈ L' ↔ q = p ∨ q ∈ L) → L'.length ≤ L.length + 1 → w.grownBy w' (some b) → w'.heap.size = w.heap.size → wpList P ops Q rest (a.put o.dst undef) w') : wpList P ops Q (o :: rest) a w := by
  refine wpList_plain hg fun K' hK' => ?_
  obtain ⟨w', L', hrun, r1, q2, q3, r2, hsz⟩ := h.put T K ht hn p val hp g' hg' hval
  unfold Oper.wp
  simp [execOp, hop, hm, hx, hv, hrun, Result.andThen]
  exact hK' _ _ (hK w' L' r1 q2 q3 r2 hsz)

/-- len(m) -/
theorem wp_mapLen (w : World) (hg : o.guard = none) (m : Operand) (t : TypeId) (hop : o.op = Op.call { callee := Callee.builtin Builtin.len, args := #[m], argTypes := #[t] }) (ht : P.underlying t = some (.map k e)) (b : Nat) (L : List FK) (g : FK → Lit) (hm : a.eval m = .map (some b))
    (h : FMap P k e w b L g) (hK : wpList P ops Q rest (a.put o.dst (.int .i64 L.length)) w) : wpList P ops Q (o :: rest) a w := by
  obtain ⟨D, hown, hr⟩ := h
  refine wpList_len_own w hg m t hop k e ht _ b _ D hm hown ?_
  rw [hr.size]
  exact hK

/-- range m -/
theorem wp_range (w : World) (hg : o.guard = none) (m : Operand) (t : TypeId) (hop : o.op = Op.range t m) (K : Keyed P k) (ht : P.underlying t = some (.map k e)) (b : Nat) (L : List FK) (g : FK → Lit) (hm : a.eval m = .map (some b)) (h : FMap P k e w b L g)
    (hK : ∀ w', FRange P k e w' b w.heap.size L g L → w.grownBy w' none → w'.heap.size = w.heap.size + 1 → wpList P ops Q rest (a.put o.dst (.pointer (some ⟨w.heap.size, 0, none⟩))) w') : wpList P ops Q (o :: rest) a w := by
  obtain ⟨D, hown, hr⟩ := h
  refine wpList_range_own w hg m t hop k e K ht _ b _ D hm hown ?_
  intro w' h1 h2 h3
  exact hK w' ⟨D, _, _, h1, hr, hr.nodup, fun _ h => h, fun l => ⟨hr.all l, by rintro ⟨p, hp, rfl⟩; exact hr.has p hp⟩⟩ h2 h3

/-- the step -/
theorem wp_step (w : World) (hg : o.guard = none) (it : Operand) (hop : o.op = Op.next it false) (T : FTypes P k tw tb) (K : Keyed P k) (b r : Nat) (L : List FK) (g : FK → Lit) (M : List FK) (hit : a.eval it = .pointer (some ⟨r, 0, none⟩)) (h : FRange P k e w b r L g M)
    (vv : FK → Value) (hvv : ∀ p v ps, plainElem (H := Empty) P e v = some (.lit (g p), ps) → v = vv p)
    (hDone : M = [] → wpList P ops Q rest (a.put o.dst (.tuple #[.bool false])) w)
    (hMore : ∀ p M' w', p ∈ M → Dels M' M p → M'.length + 1 = M.length → FRange P k e w' b r L g M' → w'.rangeLeft b r < w.rangeLeft b r → w.grownBy w' (some r) → w'.heap.size = w.heap.size →
      (Instr.entry (.pointer (some ⟨r, 0, none⟩))).run P w' = .ok (.tuple #[fKey p, vv p]) w' → wpList P ops Q rest (a.put o.dst (.tuple #[.bool true, fKey p, vv p])) w') : wpList P ops Q (o :: rest) a w := by
  refine wpList_plain hg fun K' hK' => ?_
  obtain ⟨D, left, cnt, hrg, hr, hn, hs, hl⟩ := h
  unfold Oper.wp
  rcases hrg.next K o.type with ⟨h0, hl0, hrun⟩ | ⟨key, v, kl, y, w', cnt', hkey, hlk, hv, hat, hrun, hrg', hlt, hgr, hsz, hen⟩
  · simp [execOp, hop, hit, hrun, Result.andThen]
    refine hK' _ _ (hDone (List.eq_nil_iff_forall_not_mem.2 fun p hp => ?_))
    have := (hl (fLit p)).2 ⟨p, hp, rfl⟩
    rw [hl0] at this
    cases this
  · obtain ⟨p, hpM, rfl⟩ := (hl kl).1 hlk
    have hpL := hs p hpM
    obtain ⟨p', rfl, hp', e1⟩ := T.inv hkey
    obtain rfl : p = p' := T.lit_inj K (hr.ok p hpL) hp' e1
    have hy : y.1 = .lit (g p) := by rw [← hat .nil]; exact hr.at' p hpL .nil
    obtain rfl := hvv p v y.2 (by rw [hv, ← hy])
    obtain ⟨A, B, rfl⟩ := List.append_of_mem hpM
    have hnd := hn
    rw [List.nodup_append] at hnd
    obtain ⟨n1, n2, n3⟩ := hnd
    obtain ⟨n4, n5⟩ := List.nodup_cons.1 n2
    have hmem : ∀ q, q ∈ A ++ B ↔ q ∈ A ++ p :: B ∧ q ≠ p := by
      intro q
      simp only [List.mem_append, List.mem_cons]
      constructor
      · rintro (hq | hq)
        · exact ⟨.inl hq, fun e => n3 q hq p (by simp) e⟩
        · exact ⟨.inr (.inr hq), fun e => n4 (e ▸ hq)⟩
      · rintro ⟨hq | hq | hq, hn⟩
        · exact .inl hq
        · exact absurd hq hn
        · exact .inr hq
    have hfr : FRange P k e w' b r L g (A ++ B) := by
      refine ⟨D, _, cnt', hrg', hr, List.nodup_append.2 ⟨n1, n5, fun a ha c hc => n3 a ha c (List.mem_cons_of_mem _ hc)⟩, fun q hq => hs q ((hmem q).1 hq).1, fun l => ?_⟩
      simp only [Bool.and_eq_true, Bool.not_eq_true']
      constructor
      · rintro ⟨h1, h2⟩
        obtain ⟨q, hq, rfl⟩ := (hl l).1 h1
        refine ⟨q, (hmem q).2 ⟨hq, fun e => ?_⟩, rfl⟩
        rw [e, WideAt.sameKey_self (fLit_key p)] at h2
        cases h2
      · rintro ⟨q, hq, rfl⟩
        obtain ⟨q1, q2⟩ := (hmem q).1 hq
        exact ⟨(hl _).2 ⟨q, q1, rfl⟩, sameKey_ne fun e => q2 (T.lit_inj K (hr.ok q (hs q q1)) (hr.ok p hpL) e)⟩
    simp [execOp, hop, hit, hrun, Result.andThen]
    refine hK' _ _ (hMore p (A ++ B) w' hpM hmem (by simp; omega) hfr ?_ hgr hsz hen)
    rw [hrg'.left_eq, hrg.left_eq]
    exact hlt

/-- delete(m, k) in the round at whose head k came -/
theorem wp_drop (w : World) (hg : o.guard = none) (m x : Operand) (t k : TypeId) (hop : o.op = Op.call { callee := Callee.builtin Builtin.delete, args := #[m, x], argTypes := #[t, k] }) (T : FTypes P k tw tb) (K : Keyed P k) (ht : P.underlying t = some (.map k e)) (b r : Nat) (L : List FK) (g : FK → Lit) (M : List FK)
    (hm : a.eval m = .map (some b)) (h : FRange P k e w b r L g M) (p : FK) (hx : a.eval x = fKey p) (hp : p ∈ L) (hpM : p ∉ M)
    (hK : ∀ w' L', FRange P k e w' b r L' g M → Dels L' L p → w'.rangeLeft b r ≤ w.rangeLeft b r → w.grownBy w' (some b) → w'.heap.size = w.heap.size → wpList P ops Q rest (a.put o.dst (.tuple #[])) w') : wpList P ops Q (o :: rest) a w := by
  obtain ⟨D, left, cnt, hrg, hr, hn, hs, hl⟩ := h
  refine wpList_delete_ranges w hg m x t k hop e K ht _ b r _ D left cnt hm hrg (fKey p) (fLit p) hx (T.of p (hr.ok p hp)) ?_
  intro w' cnt' h1 h2 h3
  obtain ⟨L', q1, q2, q3⟩ := hr.del T K (hrg.owns.tidy K) hp
  have r3 := ranges_exact h1
  rw [q1.size] at r3
  have hsz : w'.heap.size = w.heap.size := by
    obtain ⟨es, clock, es', clock', _, rfl⟩ := h3
    simp [ChangeMaps.setBlock]
  refine hK w' L' ⟨_, _, cnt', r3, q1, hn, fun q hq => (q2 q).2 ⟨hs q hq, fun e => hpM (e ▸ hq)⟩, fun l => ?_⟩ q2 ?_ h3.grown hsz
  · simp only [Bool.and_eq_true, Bool.not_eq_true']
    constructor
    · rintro ⟨h1, _⟩
      exact (hl l).1 h1
    · rintro ⟨q, hq, rfl⟩
      exact ⟨(hl _).2 ⟨q, hq, rfl⟩, sameKey_ne fun e => hpM (T.lit_inj K (hr.ok q (hs q hq)) (hr.ok p hp) e ▸ hq)⟩
  · rw [r3.left_eq, hrg.left_eq]
    exact h2
end

/-! ### of this program -/
abbrev FSet (w : World) (b : Nat) (L : List FK) : Prop := FMap Try.prog fK 4 w b L (fun _ => .bool true)
theorem zeroB (w : World) : (zeroValue 4).run Try.prog w = .ok (.bool false) w := by kernel_rfl
theorem zeroI (w : World) : (zeroValue 3).run Try.prog w = .ok (.int .i64 0) w := by kernel_rfl
theorem val_bool {P : Program} {e : TypeId} (he : P.underlying e = some .bool) {c : Bool} {v : Value} {ps : List MemPlace} (h : plainElem (H := Empty) P e v = some (.lit (.bool c), ps)) : v = .bool c := by
  obtain ⟨x, rfl, e⟩ := plainElem_bool_inv he h
  injection e with e _
  injection e with e
  injection e with e
  rw [e]
theorem val_int {P : Program} {e : TypeId} (he : P.underlying e = some (.int .i64)) {z : Int} {v : Value} {ps : List MemPlace} (h : plainElem (H := Empty) P e v = some (.lit (.int .i64 z), ps)) : v = .int .i64 z := by
  obtain ⟨x, rfl, e, _⟩ := plainElem_int_inv he h
  injection e with e _
  injection e with e
  injection e with _ e
  rw [e]
theorem vv_bool (_ : FK) (v : Value) (ps : List MemPlace) (h : plainElem (H := Empty) Try.prog 4 v = some (.lit (.bool true), ps)) : v = .bool true := val_bool Try.underlying4 h
theorem vv_int (z : Int) (v : Value) (ps : List MemPlace) (h : plainElem (H := Empty) Try.prog 3 v = some (.lit (.int .i64 z), ps)) : v = .int .i64 z := val_int Try.underlying3 h
end Go.Proofs.Ytfcbfflkajlhnaa

/- The program's WordOk: isLetter, ok and WordOk. No condition but that a text has at most 2^63 bytes. -/
namespace Go.Proofs.Ytfcbfflkajlhnaa
open Go.RowKit

theorem isLetter_any (n : Int) (w : World) :
    Calls Try.prog 113 #[.int .i32 n] w fun e w' => e = .returned (.bool (decide (97 ≤ n) && decide (n < 101))) ∧ w = w' := by
  by_cases h1 : 97 ≤ n
  · have hd1 : decide ((97 : Int) ≤ n) = true := by simpa using h1
    go_enter Try.func113, Try.ntmps113
    go_wp2
    go_ret
    exact ⟨ret_bool (by simp [h1]), rfl⟩
  · have hd1 : decide ((97 : Int) ≤ n) = false := by simpa using h1
    go_enter Try.func113, Try.ntmps113
    go_wp2
    go_ret
    exact ⟨ret_bool (by simp), rfl⟩

set_option maxHeartbeats 400000 in
theorem implOk (s : ByteArray) (w : World) (_ : s.size ≤ 1048576) :
    Calls Try.prog 68 #[.string s] w fun e w' => e = .returned (.bool (wordB s)) ∧ Below w.heap.size w w' := by
  by_cases hl : 400 < s.size
  · have HE := Lib.hid (word_long hl)
    go_enter Try.func68, Try.ntmps68
    go_wp2
    go_ret
    exact ⟨ret_bool HE.out.symm, Below.refl _ _⟩
  have hs : s.size ≤ 400 := by omega
  go_enter Try.func68, Try.ntmps68
  go_wp2
  go_loopw [4] (fun _ w' => ∃ k : Nat, k ≤ s.size ∧ w' = w.iter s k ∧ (s.data.toList.take k).all isAbcd = true) (fun _ w' => s.size - w'.iterPos w.heap.size)
  case atStart => exact ⟨0, Nat.zero_le _, rfl, rfl⟩
  case round =>
    obtain ⟨k, hk, rfl, ha⟩ := hrel
    have HA := Lib.hid ha
    clear ha
    by_cases hlt : k < s.size
    · by_cases hc : isAbcd s[k] = true
      · have hasc : s[k].toNat < 128 := by simp [isAbcd] at hc; omega
        have hnx : ∀ ty, (Instr.next (.pointer (some ⟨w.heap.size, 0, none⟩)) true ty).run Try.prog (w.iter s k) = _ := fun ty => run_next_ascii w s k ty hlt hasc
        have hd1 : (decide ((97 : Int) ≤ s[k].toNat) && decide ((s[k].toNat : Int) < 101)) = true := by simp [isAbcd] at hc; simp; omega
        have HC := Lib.hid hc
        clear hc
        go_wp2_with (go_at_call 113; refine (isLetter_any _ _).mono ?_; rintro e w' ⟨rfl, rfl⟩)
        go_roundw
        case rel => exact ⟨k + 1, by omega, rfl, all_snoc s k hlt HA.out HC.out⟩
        case measure => simp; omega
      · have hf : isAbcd s[k] = false := by simpa using hc
        have hn : ∃ n : Nat, ∃ m : Nat, (∀ ty, (Instr.next (.pointer (some ⟨w.heap.size, 0, none⟩)) true ty).run Try.prog (w.iter s k) = .ok (.tuple #[.bool true, .int .i64 k, .int .i32 n]) (w.iter s m)) ∧ (n < 97 ∨ 100 < n) := by
          by_cases hasc : s[k].toNat < 128
          · exact ⟨_, _, fun ty => run_next_ascii w s k ty hlt hasc, by simp [isAbcd] at hf; omega⟩
          · have hd := decode_high s k hlt (by omega)
            exact ⟨_, _, fun ty => run_next_any w s k ty hlt, by omega⟩
        obtain ⟨n, m, hnx, hor⟩ := hn
        have HF := Lib.hid hf
        clear hf hc
        have hd1 : (decide ((97 : Int) ≤ n) && decide ((n : Int) < 101)) = false := by simp; omega
        go_wp2_with (go_at_call 113; refine (isLetter_any _ _).mono ?_; rintro e w' ⟨rfl, rfl⟩)
        go_ret
        exact ⟨ret_bool (word_not k hlt HF.out).symm, below_iter _ _ _⟩
    · have hnx : ∀ ty, (Instr.next (.pointer (some ⟨w.heap.size, 0, none⟩)) true ty).run Try.prog (w.iter s k) = _ := fun ty => run_next_end w s k ty hlt
      have hk' : k = s.size := by omega
      have HY := Lib.hid (word_yes hs (hk' ▸ HA.out))
      clear hk'
      go_wp2
      go_ret
      exact ⟨ret_bool HY.out.symm, below_iter _ _ _⟩

theorem implWordOk (s : ByteArray) (w : World) (hs : s.size ≤ 1048576) :
    Calls Try.prog 19 #[.string s] w fun e w' => e = .returned (.bool (wordB s)) ∧ Below w.heap.size w w' := by
  go_enter Try.func19, Try.ntmps19
  go_wp2_with fail
  refine (implOk s _ hs).mono ?_
  rintro e w' ⟨rfl, hb⟩
  go_wp2_with fail
  go_ret
  exact ⟨rfl, hb⟩

theorem implIsLetterWord (s : ByteArray) (w : World) (hs : s.size ≤ 1048576) :
    Calls Try.prog 110 #[.string s] w fun e w' => e = .returned (.bool (decide (s.size = 1) && wordB s)) ∧ Below w.heap.size w w' := by
  by_cases h1 : s.size = 1
  · have b1 : ((s.size : Int) == 1) = true := by rw [h1]; rfl
    have HD := Lib.hid (decide_eq_true h1)
    clear h1
    go_enter Try.func110, Try.ntmps110
    go_wp2_with fail
    refine (implOk s _ hs).mono ?_
    rintro e w' ⟨rfl, hb⟩
    go_wp2_with fail
    go_ret
    exact ⟨ret_bool (by rw [HD.out, Bool.true_and]), hb⟩
  · have b1 : ((s.size : Int) == 1) = false := by rw [beq_eq_false_iff_ne]; omega
    have HD := Lib.hid (decide_eq_false h1)
    clear h1
    go_enter Try.func110, Try.ntmps110
    go_wp2_with fail
    go_ret
    exact ⟨ret_bool (by rw [HD.out, Bool.false_and]), Below.refl _ _⟩
end Go.Proofs.Ytfcbfflkajlhnaa
