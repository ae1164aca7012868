/- Texts put together. -/
import Derived.Test.YthckpgfhldocdaaMgp18
import Derived.Test.YthckpgfhldocdaaChecked
import Derived.Test.YthckpgfhldocdaaMgp1
import Derived.Test.YthckpgfhldocdaaMgp5
import Derived.Test.YthckpgfhldocdaaMgp17
import Derived.Shelf.Small.Bits
import Derived.Shelf.Small.Strs
import Derived.Shelf.Strconv.Itoa0
import Derived.Shelf.Strings.Search1
import Derived.Shelf.Strings.Search2
import Derived.Shelf.Strings.Search3
import Derived.Shelf.LaysM
import Derived.Shelf.Strings.Shaped
import Derived.Shelf.Sort.Plain
import Derived.Shelf.Strings.Prefix
import Derived.Shelf.Slices.In.SortNone
import Derived.Test.YthckpgfhldocdaaProg
/- The laws of the walk for maps whose keys are a text and a byte beside it: look-up, store, len, range, step, delete. No condition. -/
namespace Go.Proofs.Ythckpgfhldocdaa
open Go.RowKit Go.Maps

/-- block b is a map that holds just the keys L, and at each what g says -/
def FMap (P : Program) (k e : TypeId) (w : World) (b : Nat) (L : List FK) (g : FK → Lit) : Prop :=
  ∃ D : DataW Empty, w.ownsMap P k (plainElem P e) b L.length D ∧ Rep D L g
/-- .. under a range whose keys M are still to come -/
def FRange (P : Program) (k e : TypeId) (w : World) (b r : Nat) (L : List FK) (g : FK → Lit) (M : List FK) : Prop :=
  ∃ (D : DataW Empty) (left : Lit → Bool) (cnt : Nat), w.ranges P k (plainElem P e) b r L.length D left cnt ∧ Rep D L g ∧ M.Nodup ∧ (∀ p ∈ M, p ∈ L) ∧ ∀ l, left l = true ↔ ∃ p ∈ M, l = fLit p

/-- L' is L without p -/
def Dels (L' L : List FK) (p : FK) : Prop := ∀ q, q ∈ L' ↔ q ∈ L ∧ q ≠ p

section
variable {P : Program} {k tw tb t e : TypeId} {w : World} {b n r : Nat} {L M : List FK} {g : FK → Lit}

theorem plainElem_bool_inv {H : Type} (he : P.underlying e = some .bool) {v : Value} {z : DataW H × List MemPlace} (h : plainElem P e v = some z) : ∃ x, v = .bool x ∧ z = (.lit (.bool x), []) := by
  unfold plainElem at h
  rw [he] at h
  cases v <;> simp at h
  exact ⟨_, rfl, h.symm⟩
theorem ownsMap_exact {H : Type} {R : Value → Option (DataW H × List MemPlace)} {D : DataW H} (h : w.ownsMap P k R b n D) : w.ownsMap P k R b (Maps.size D) D := by
  obtain ⟨es, clock, hb, F, hs, rfl⟩ := h
  exact ⟨es, clock, hb, F, by simp [Maps.size, length_sorted], rfl⟩
theorem ranges_exact {H : Type} {R : Value → Option (DataW H × List MemPlace)} {D : DataW H} {left : Lit → Bool} {cnt : Nat} (h : w.ranges P k R b r n D left cnt) : w.ranges P k R b r (Maps.size D) D left cnt := by
  obtain ⟨es, clock, since, seen, c0, hb, F, hs, rfl, rest⟩ := h
  exact ⟨es, clock, since, seen, c0, hb, F, by simp [Maps.size, length_sorted], rfl, rest⟩

theorem FMap.lt (h : FMap P k e w b L g) : b < w.heap.size := by
  obtain ⟨D, h, _⟩ := h
  exact h.lt
theorem FMap.kept {w' : World} {row : Option Nat} (h : FMap P k e w b L g) (hg : w.grownBy w' row) (hne : row ≠ some b) : FMap P k e w' b L g := by
  obtain ⟨D, h, hr⟩ := h
  exact ⟨D, h.kept hg (fun e => hne e.symm), hr⟩
theorem FMap.below {w' : World} (h : FMap P k e w b L g) (hb : Below w.heap.size w w') : FMap P k e w' b L g := h.kept (grown_of_below hb none) (by simp)
theorem FMap.alloc (h : FMap P k e w b L g) (o : Obj) : FMap P k e (w.alloc o) b L g := h.kept (World.grownBy_alloc w o none) (by simp)
theorem FMap.made (w : World) (g : FK → Lit) : FMap P k e (w.alloc (.map #[] 0)) w.heap.size [] g := ⟨_, World.ownsMap_made w P k _, rep_empty g⟩
theorem FMap.nodup (h : FMap P k e w b L g) : L.Nodup := h.choose_spec.2.nodup
theorem FMap.ok (h : FMap P k e w b L g) : ∀ p ∈ L, FOk p := h.choose_spec.2.ok
theorem FMap.vals (h : FMap P k e w b L g) {g' : FK → Lit} (hg : ∀ p ∈ L, g' p = g p) : FMap P k e w b L g' := by
  obtain ⟨D, h, hr⟩ := h
  exact ⟨D, h, hr.nodup, hr.size, hr.ok, hr.has, fun p hp z => by rw [hr.at' p hp, hg p hp], hr.all⟩
theorem FRange.owns (h : FRange P k e w b r L g M) : FMap P k e w b L g := by
  obtain ⟨D, left, cnt, h, hr, _⟩ := h
  exact ⟨D, h.owns, hr⟩
theorem FRange.nodup (h : FRange P k e w b r L g M) : M.Nodup := by
  obtain ⟨D, left, cnt, h, hr, hn, _⟩ := h
  exact hn
theorem FRange.sub (h : FRange P k e w b r L g M) : ∀ p ∈ M, p ∈ L := by
  obtain ⟨D, left, cnt, h, hr, hn, hs, _⟩ := h
  exact hs
theorem FRange.lt (h : FRange P k e w b r L g M) : r < w.heap.size := by
  obtain ⟨D, left, cnt, h, _⟩ := h
  exact h.lt
theorem FRange.ne (h : FRange P k e w b r L g M) : r ≠ b := by
  obtain ⟨D, left, cnt, h, _⟩ := h
  exact h.ne
theorem FRange.kept {w' : World} {row : Option Nat} (h : FRange P k e w b r L g M) (hg : w.grownBy w' row) (h1 : row ≠ some b) (h2 : row ≠ some r) : FRange P k e w' b r L g M := by
  obtain ⟨D, left, cnt, h, rest⟩ := h
  exact ⟨D, left, cnt, h.kept hg (fun e => h1 e.symm) (fun e => h2 e.symm), rest⟩
theorem FRange.below {w' : World} (h : FRange P k e w b r L g M) (hb : Below w.heap.size w w') : FRange P k e w' b r L g M := h.kept (grown_of_below hb none) (by simp) (by simp)
theorem FRange.alloc (h : FRange P k e w b r L g M) (o : Obj) : FRange P k e (w.alloc o) b r L g M := h.kept (World.grownBy_alloc w o none) (by simp) (by simp)
theorem rangeLeft_kept {w' : World} {row : Option Nat} (h : FRange P k e w b r L g M) (hg : w.grownBy w' row) (h1 : row ≠ some b) (h2 : row ≠ some r) : w'.rangeLeft b r = w.rangeLeft b r := by
  obtain ⟨D, left, cnt, h, rest⟩ := h
  rw [(h.kept hg (fun e => h1 e.symm) (fun e => h2 e.symm)).left_eq, h.left_eq]

variable {ops : Array Oper} {rest : List Oper} {o : Oper} {a : Act} {Q : Exit → Act → World → Prop}

/-- m[k] of a map of bools -/
theorem wp_lookB (w : World) (hg : o.guard = none) (m x : Operand) (t : TypeId) (hop : o.op = Op.lookup t m x false) (T : FTypes P k tw tb) (K : Keyed P k) (ht : P.underlying t = some (.map k e)) (he : P.underlying e = some .bool)
    (hz : (zeroValue e).run P w = .ok (.bool false) w) (b : Nat) (L : List FK) (hm : a.eval m = .map (some b)) (h : FMap P k e w b L (fun _ => .bool true)) (p : FK) (hx : a.eval x = fKey p) (hp : FOk p) (c : Bool) (hc : c = true ↔ p ∈ L)
    (hK : wpList P ops Q rest (a.put o.dst (.bool c)) w) : wpList P ops Q (o :: rest) a w := by
  refine wpList_plain hg fun K' hK' => ?_
  obtain ⟨D, hown, hr⟩ := h
  obtain ⟨v, ps, hrun, hv⟩ := hown.lookup K ht hz (plainElem_bool he false) (T.of p hp)
  obtain ⟨y, rfl, hy⟩ := plainElem_bool_inv he hv
  have hyc : y = c := by
    simp only [Prod.mk.injEq] at hy
    by_cases hm : p ∈ L
    · have e1 := hr.at' p hm (.lit (.bool false))
      rw [hy.1] at e1
      injection e1 with e1
      injection e1 with e1
      rw [e1, hc.2 hm]
    · have e1 := atKey_of_not_has (D := D) (k := fLit p) (by
        cases hh : Maps.has D (fLit p)
        · rfl
        · exact absurd ((hr.mem T K hp).1 hh) hm) (.lit (.bool false))
      rw [hy.1] at e1
      injection e1 with e1
      injection e1 with e1
      rw [e1]
      cases c
      · rfl
      · exact absurd (hc.1 rfl) hm
  subst hyc
  unfold Oper.wp
  simp [execOp, hop, hm, hx, hrun, Result.andThen]
  exact hK' _ _ hK

/-- m[k] of a map of integers -/
theorem wp_lookI (w : World) (hg : o.guard = none) (m x : Operand) (t : TypeId) (hop : o.op = Op.lookup t m x false) (T : FTypes P k tw tb) (K : Keyed P k) (ht : P.underlying t = some (.map k e)) (he : P.underlying e = some (.int .i64))
    (hz : (zeroValue e).run P w = .ok (.int .i64 0) w) (b : Nat) (L : List FK) (g : FK → Lit) (hm : a.eval m = .map (some b)) (h : FMap P k e w b L g) (p : FK) (hx : a.eval x = fKey p) (hp : FOk p) (c : Int) (hc1 : p ∈ L → g p = .int .i64 c) (hc2 : p ∉ L → c = 0)
    (hK : wpList P ops Q rest (a.put o.dst (.int .i64 c)) w) : wpList P ops Q (o :: rest) a w := by
  refine wpList_plain hg fun K' hK' => ?_
  obtain ⟨D, hown, hr⟩ := h
  obtain ⟨y, hrun, hy, _⟩ := hown.lookup_int K ht he hz (T.of p hp)
  have hyc : y = c := by
    by_cases hm : p ∈ L
    · have e1 := hr.at' p hm (.lit (.int .i64 0))
      rw [hy, hc1 hm] at e1
      injection e1 with e1
      injection e1
    · have e1 := atKey_of_not_has (D := D) (k := fLit p) (by
        cases hh : Maps.has D (fLit p)
        · rfl
        · exact absurd ((hr.mem T K hp).1 hh) hm) (.lit (.int .i64 0))
      rw [hy] at e1
      injection e1 with e1
      injection e1 with _ e1
      rw [e1, hc2 hm]
  subst hyc
  unfold Oper.wp
  simp [execOp, hop, hm, hx, hrun, Result.andThen]
  exact hK' _ _ hK

/-- m[k] = v, run -/
theorem FMap.put {t : TypeId} (h : FMap P k e w b L g) (T : FTypes P k tw tb) (K : Keyed P k) (ht : P.underlying t = some (.map k e)) (hn : L.length < maxLen) (p : FK) (val : Value) (hp : FOk p) (g' : FK → Lit) (hg' : ∀ q ∈ L, q ≠ p → g' q = g q) (hval : plainElem (H := Empty) P e val = some (.lit (g' p), [])) :
    ∃ w' L', (Instr.mapUpdate t (.map (some b)) (fKey p) val).run P w = .ok () w' ∧ FMap P k e w' b L' g' ∧ (∀ q, q ∈ L' ↔ q = p ∨ q ∈ L) ∧ L'.length ≤ L.length + 1 ∧ w.grownBy w' (some b) ∧ w'.heap.size = w.heap.size := by
  obtain ⟨D, hown, hr⟩ := h
  obtain ⟨w', hrun, r1, r2⟩ := hown.store K ht hn (T.of p hp) hval
  obtain ⟨L', q1, q2, q3, _⟩ := hr.put T K (hown.tidy K) hp g' hg'
  have r3 := ownsMap_exact r1
  rw [q1.size] at r3
  have hsz : w'.heap.size = w.heap.size := by
    obtain ⟨es, clock, es', clock', _, rfl⟩ := r2
    simp [ChangeMaps.setBlock]
  exact ⟨w', L', hrun, ⟨_, r3, q1⟩, q2, q3, r2.grown, hsz⟩
theorem FMap.drewN (h : FMap P k e w b L g) (j : Nat) : FMap P k e (w.drewN j) b L g := h
theorem FMap.drew (h : FMap P k e w b L g) : FMap P k e w.drew b L g := h

/-- m[k] = v -/
theorem wp_put (w : World) (hg : o.guard = none) (m x v : Operand) (t : TypeId) (hop : o.op = Op.mapUpdate t m x v) (T : FTypes P k tw tb) (K : Keyed P k) (ht : P.underlying t = some (.map k e)) (b : Nat) (L : List FK) (g : FK → Lit) (hm : a.eval m = .map (some b))
    (h : FMap P k e w b L g) (hn : L.length < maxLen) (p : FK) (val : Value) (hx : a.eval x = fKey p) (hv : a.eval v = val) (hp : FOk p) (g' : FK → Lit) (hg' : ∀ q ∈ L, q ≠ p → g' q = g q) (hval : plainElem (H := Empty) P e val = some (.lit (g' p), []))
    (hK : ∀ w' L', FMap P k e w' b L' g' → (∀ q, q ∈ L' ↔ q = p ∨ q ∈ L) → L'.length ≤ L.length + 1 → w.grownBy w' (some b) → w'.heap.size = w.heap.size → wpList P ops Q rest (a.put o.dst undef) w') : wpList P ops Q (o :: rest) a w := by
  refine wpList_plain hg fun K' hK' => ?_
  obtain ⟨w', L', hrun, r1, q2, q3, r2, hsz⟩ := h.put T K ht hn p val hp g' hg' hval
  unfold Oper.wp
  simp [execOp, hop, hm, hx, hv, hrun, Result.andThen]
  exact hK' _ _ (hK w' L' r1 q2 q3 r2 hsz)

/-- len(m) -/
theorem wp_mapLen (w : World) (hg : o.guard = none) (m : Operand) (t : TypeId) (hop : o.op = Op.call { callee := Callee.builtin Builtin.len, args := #[m], argTypes := #[t] }) (ht : P.underlying t = some (.map k e)) (b : Nat) (L : List FK) (g : FK → Lit) (hm : a.eval m = .map (some b))
    (h : FMap P k e w b L g) (hK : wpList P ops Q rest (a.put o.dst (.int .i64 L.length)) w) : wpList P ops Q (o :: rest) a w := by
  obtain ⟨D, hown, hr⟩ := h
  refine wpList_len_own w hg m t hop k e ht _ b _ D hm hown ?_
  rw [hr.size]
  exact hK

/-- range m -/
theorem wp_range (w : World) (hg : o.guard = none) (m : Operand) (t : TypeId) (hop : o.op = Op.range t m) (K : Keyed P k) (ht : P.underlying t = some (.map k e)) (b : Nat) (L : List FK) (g : FK → Lit) (hm : a.eval m = .map (some b)) (h : FMap P k e w b L g)
    (hK : ∀ w', FRange P k e w' b w.heap.size L g L → w.grownBy w' none → w'.heap.size = w.heap.size + 1 → wpList P ops Q rest (a.put o.dst (.pointer (some ⟨w.heap.size, 0, none⟩))) w') : wpList P ops Q (o :: rest) a w := by
  obtain ⟨D, hown, hr⟩ := h
  refine wpList_range_own w hg m t hop k e K ht _ b _ D hm hown ?_
  intro w' h1 h2 h3
  exact hK w' ⟨D, _, _, h1, hr, hr.nodup, fun _ h => h, fun l => ⟨hr.all l, by rintro ⟨p, hp, rfl⟩; exact hr.has p hp⟩⟩ h2 h3

/-- the step -/
theorem wp_step (w : World) (hg : o.guard = none) (it : Operand) (hop : o.op = Op.next it false) (T : FTypes P k tw tb) (K : Keyed P k) (b r : Nat) (L : List FK) (g : FK → Lit) (M : List FK) (hit : a.eval it = .pointer (some ⟨r, 0, none⟩)) (h : FRange P k e w b r L g M)
    (vv : FK → Value) (hvv : ∀ p v ps, plainElem (H := Empty) P e v = some (.lit (g p), ps) → v = vv p)
    (hDone : M = [] → wpList P ops Q rest (a.put o.dst (.tuple #[.bool false])) w)
    (hMore : ∀ p M' w', p ∈ M → Dels M' M p → M'.length + 1 = M.length → FRange P k e w' b r L g M' → w'.rangeLeft b r < w.rangeLeft b r → w.grownBy w' (some r) → w'.heap.size = w.heap.size →
      (Instr.entry (.pointer (some ⟨r, 0, none⟩))).run P w' = .ok (.tuple #[fKey p, vv p]) w' → wpList P ops Q rest (a.put o.dst (.tuple #[.bool true, fKey p, vv p])) w') : wpList P ops Q (o :: rest) a w := by
  refine wpList_plain hg fun K' hK' => ?_
  obtain ⟨D, left, cnt, hrg, hr, hn, hs, hl⟩ := h
  unfold Oper.wp
  rcases hrg.next K o.type with ⟨h0, hl0, hrun⟩ | ⟨key, v, kl, y, w', cnt', hkey, hlk, hv, hat, hrun, hrg', hlt, hgr, hsz, hen⟩
  · simp [execOp, hop, hit, hrun, Result.andThen]
    refine hK' _ _ (hDone (List.eq_nil_iff_forall_not_mem.2 fun p hp => ?_))
    have := (hl (fLit p)).2 ⟨p, hp, rfl⟩
    rw [hl0] at this
    cases this
  · obtain ⟨p, hpM, rfl⟩ := (hl kl).1 hlk
    have hpL := hs p hpM
    obtain ⟨p', rfl, hp', e1⟩ := T.inv hkey
    obtain rfl : p = p' := T.lit_inj K (hr.ok p hpL) hp' e1
    have hy : y.1 = .lit (g p) := by rw [← hat .nil]; exact hr.at' p hpL .nil
    obtain rfl := hvv p v y.2 (by rw [hv, ← hy])
    obtain ⟨A, B, rfl⟩ := List.append_of_mem hpM
    have hnd := hn
    rw [List.nodup_append] at hnd
    obtain ⟨n1, n2, n3⟩ := hnd
    obtain ⟨n4, n5⟩ := List.nodup_cons.1 n2
    have hmem : ∀ q, q ∈ A ++ B ↔ q ∈ A ++ p :: B ∧ q ≠ p := by
      intro q
      simp only [List.mem_append, List.mem_cons]
      constructor
      · rintro (hq | hq)
        · exact ⟨.inl hq, fun e => n3 q hq p (by simp) e⟩
        · exact ⟨.inr (.inr hq), fun e => n4 (e ▸ hq)⟩
      · rintro ⟨hq | hq | hq, hn⟩
        · exact .inl hq
        · exact absurd hq hn
        · exact .inr hq
    have hfr : FRange P k e w' b r L g (A ++ B) := by
      refine ⟨D, _, cnt', hrg', hr, List.nodup_append.2 ⟨n1, n5, fun a ha c hc => n3 a ha c (List.mem_cons_of_mem _ hc)⟩, fun q hq => hs q ((hmem q).1 hq).1, fun l => ?_⟩
      simp only [Bool.and_eq_true, Bool.not_eq_true']
      constructor
      · rintro ⟨h1, h2⟩
        obtain ⟨q, hq, rfl⟩ := (hl l).1 h1
        refine ⟨q, (hmem q).2 ⟨hq, fun e => ?_⟩, rfl⟩
        rw [e, WideAt.sameKey_self (fLit_key p)] at h2
        cases h2
      · rintro ⟨q, hq, rfl⟩
        obtain ⟨q1, q2⟩ := (hmem q).1 hq
        exact ⟨(hl _).2 ⟨q, q1, rfl⟩, sameKey_ne fun e => q2 (T.lit_inj K (hr.ok q (hs q q1)) (hr.ok p hpL) e)⟩
    simp [execOp, hop, hit, hrun, Result.andThen]
    refine hK' _ _ (hMore p (A ++ B) w' hpM hmem (by simp; omega) hfr ?_ hgr hsz hen)
    rw [hrg'.left_eq, hrg.left_eq]
    exact hlt

/-- delete(m, k) in the round at whose head k came -/
theorem wp_drop (w : World) (hg : o.guard = none) (m x : Operand) (t k : TypeId) (hop : o.op = Op.call { callee := Callee.builtin Builtin.delete, args := #[m, x], argTypes := #[t, k] }) (T : FTypes P k tw tb) (K : Keyed P k) (ht : P.underlying t = some (.map k e)) (b r : Nat) (L : List FK) (g : FK → Lit) (M : List FK)
    (hm : a.eval m = .map (some b)) (h : FRange P k e w b r L g M) (p : FK) (hx : a.eval x = fKey p) (hp : p ∈ L) (hpM : p ∉ M)
    (hK : ∀ w' L', FRange P k e w' b r L' g M → Dels L' L p → w'.rangeLeft b r ≤ w.rangeLeft b r → w.grownBy w' (some b) → w'.heap.size = w.heap.size → wpList P ops Q rest (a.put o.dst (.tuple #[])) w') : wpList P ops Q (o :: rest) a w := by
  obtain ⟨D, left, cnt, hrg, hr, hn, hs, hl⟩ := h
  refine wpList_delete_ranges w hg m x t k hop e K ht _ b r _ D left cnt hm hrg (fKey p) (fLit p) hx (T.of p (hr.ok p hp)) ?_
  intro w' cnt' h1 h2 h3
  obtain ⟨L', q1, q2, q3⟩ := hr.del T K (hrg.owns.tidy K) hp
  have r3 := ranges_exact h1
  rw [q1.size] at r3
  have hsz : w'.heap.size = w.heap.size := by
    obtain ⟨es, clock, es', clock', _, rfl⟩ := h3
    simp [ChangeMaps.setBlock]
  refine hK w' L' ⟨_, _, cnt', r3, q1, hn, fun q hq => (q2 q).2 ⟨hs q hq, fun e => hpM (e ▸ hq)⟩, fun l => ?_⟩ q2 ?_ h3.grown hsz
  · simp only [Bool.and_eq_true, Bool.not_eq_true']
    constructor
    · rintro ⟨h1, _⟩
      exact (hl l).1 h1
    · rintro ⟨q, hq, rfl⟩
      exact ⟨(hl _).2 ⟨q, hq, rfl⟩, sameKey_ne fun e => hpM (T.lit_inj K (hr.ok q (hs q hq)) (hr.ok p hp) e ▸ hq)⟩
  · rw [r3.left_eq, hrg.left_eq]
    exact h2
end

/-! ### of this program -/
abbrev FSet (w : World) (b : Nat) (L : List FK) : Prop := FMap Try.prog fK 4 w b L (fun _ => .bool true)
theorem zeroB (w : World) : (zeroValue 4).run Try.prog w = .ok (.bool false) w := by kernel_rfl
theorem zeroI (w : World) : (zeroValue 3).run Try.prog w = .ok (.int .i64 0) w := by kernel_rfl
theorem val_bool {P : Program} {e : TypeId} (he : P.underlying e = some .bool) {c : Bool} {v : Value} {ps : List MemPlace} (h : plainElem (H := Empty) P e v = some (.lit (.bool c), ps)) : v = .bool c := by
  obtain ⟨x, rfl, e⟩ := plainElem_bool_inv he h
  injection e with e _
  injection e with e
  injection e with e
  rw [e]
theorem val_int {P : Program} {e : TypeId} (he : P.underlying e = some (.int .i64)) {z : Int} {v : Value} {ps : List MemPlace} (h : plainElem (H := Empty) P e v = some (.lit (.int .i64 z), ps)) : v = .int .i64 z := by
  obtain ⟨x, rfl, e, _⟩ := plainElem_int_inv he h
  injection e with e _
  injection e with e
  injection e with _ e
  rw [e]
theorem vv_bool (_ : FK) (v : Value) (ps : List MemPlace) (h : plainElem (H := Empty) Try.prog 4 v = some (.lit (.bool true), ps)) : v = .bool true := val_bool Try.underlying4 h
theorem vv_int (z : Int) (v : Value) (ps : List MemPlace) (h : plainElem (H := Empty) Try.prog 3 v = some (.lit (.int .i64 z), ps)) : v = .int .i64 z := val_int Try.underlying3 h
end Go.Proofs.Ythckpgfhldocdaa

/- The program's WordOk: isLetter, ok and WordOk. No condition but that a text has at most 2^63 bytes. -/
namespace Go.Proofs.Ythckpgfhldocdaa
open Go.RowKit

theorem isLetter_any (n : Int) (w : World) :
    Calls Try.prog 51 #[.int .i32 n] w fun e w' => e = .returned (.bool (decide (97 ≤ n) && decide (n < 101))) ∧ w = w' := by
  by_cases h1 : 97 ≤ n
  · have hd1 : decide ((97 : Int) ≤ n) = true := by simpa using h1
    go_enter Try.func51, Try.ntmps51
    go_wp2
    go_ret
    exact ⟨ret_bool (by simp [h1]), rfl⟩
  · have hd1 : decide ((97 : Int) ≤ n) = false := by simpa using h1
    go_enter Try.func51, Try.ntmps51
    go_wp2
    go_ret
    exact ⟨ret_bool (by simp), rfl⟩

set_option maxHeartbeats 400000 in
theorem implOk (s : ByteArray) (w : World) (_ : s.size ≤ 1048576) :
    Calls Try.prog 39 #[.string s] w fun e w' => e = .returned (.bool (wordB s)) ∧ Below w.heap.size w w' := by
  by_cases hl : 400 < s.size
  · have HE := Lib.hid (word_long hl)
    go_enter Try.func39, Try.ntmps39
    go_wp2
    go_ret
    exact ⟨ret_bool HE.out.symm, Below.refl _ _⟩
  have hs : s.size ≤ 400 := by omega
  go_enter Try.func39, Try.ntmps39
  go_wp2
  go_loopw [4] (fun _ w' => ∃ k : Nat, k ≤ s.size ∧ w' = w.iter s k ∧ (s.data.toList.take k).all isAbcd = true) (fun _ w' => s.size - w'.iterPos w.heap.size)
  case atStart => exact ⟨0, Nat.zero_le _, rfl, rfl⟩
  case round =>
    obtain ⟨k, hk, rfl, ha⟩ := hrel
    have HA := Lib.hid ha
    clear ha
    by_cases hlt : k < s.size
    · by_cases hc : isAbcd s[k] = true
      · have hasc : s[k].toNat < 128 := by simp [isAbcd] at hc; omega
        have hnx : ∀ ty, (Instr.next (.pointer (some ⟨w.heap.size, 0, none⟩)) true ty).run Try.prog (w.iter s k) = _ := fun ty => run_next_ascii w s k ty hlt hasc
        have hd1 : (decide ((97 : Int) ≤ s[k].toNat) && decide ((s[k].toNat : Int) < 101)) = true := by simp [isAbcd] at hc; simp; omega
        have HC := Lib.hid hc
        clear hc
        go_wp2_with (go_at_call 51; refine (isLetter_any _ _).mono ?_; rintro e w' ⟨rfl, rfl⟩)
        go_roundw
        case rel => exact ⟨k + 1, by omega, rfl, all_snoc s k hlt HA.out HC.out⟩
        case measure => simp; omega
      · have hf : isAbcd s[k] = false := by simpa using hc
        have hn : ∃ n : Nat, ∃ m : Nat, (∀ ty, (Instr.next (.pointer (some ⟨w.heap.size, 0, none⟩)) true ty).run Try.prog (w.iter s k) = .ok (.tuple #[.bool true, .int .i64 k, .int .i32 n]) (w.iter s m)) ∧ (n < 97 ∨ 100 < n) := by
          by_cases hasc : s[k].toNat < 128
          · exact ⟨_, _, fun ty => run_next_ascii w s k ty hlt hasc, by simp [isAbcd] at hf; omega⟩
          · have hd := decode_high s k hlt (by omega)
            exact ⟨_, _, fun ty => run_next_any w s k ty hlt, by omega⟩
        obtain ⟨n, m, hnx, hor⟩ := hn
        have HF := Lib.hid hf
        clear hf hc
        have hd1 : (decide ((97 : Int) ≤ n) && decide ((n : Int) < 101)) = false := by simp; omega
        go_wp2_with (go_at_call 51; refine (isLetter_any _ _).mono ?_; rintro e w' ⟨rfl, rfl⟩)
        go_ret
        exact ⟨ret_bool (word_not k hlt HF.out).symm, below_iter _ _ _⟩
    · have hnx : ∀ ty, (Instr.next (.pointer (some ⟨w.heap.size, 0, none⟩)) true ty).run Try.prog (w.iter s k) = _ := fun ty => run_next_end w s k ty hlt
      have hk' : k = s.size := by omega
      have HY := Lib.hid (word_yes hs (hk' ▸ HA.out))
      clear hk'
      go_wp2
      go_ret
      exact ⟨ret_bool HY.out.symm, below_iter _ _ _⟩

theorem implWordOk (s : ByteArray) (w : World) (hs : s.size ≤ 1048576) :
    Calls Try.prog 22 #[.string s] w fun e w' => e = .returned (.bool (wordB s)) ∧ Below w.heap.size w w' := by
  go_enter Try.func22, Try.ntmps22
  go_wp2_with fail
  refine (implOk s _ hs).mono ?_
  rintro e w' ⟨rfl, hb⟩
  go_wp2_with fail
  go_ret
  exact ⟨rfl, hb⟩

theorem implIsLetterWord (s : ByteArray) (w : World) (hs : s.size ≤ 1048576) :
    Calls Try.prog 47 #[.string s] w fun e w' => e = .returned (.bool (decide (s.size = 1) && wordB s)) ∧ Below w.heap.size w w' := by
  by_cases h1 : s.size = 1
  · have b1 : ((s.size : Int) == 1) = true := by rw [h1]; rfl
    have HD := Lib.hid (decide_eq_true h1)
    clear h1
    go_enter Try.func47, Try.ntmps47
    go_wp2_with fail
    refine (implOk s _ hs).mono ?_
    rintro e w' ⟨rfl, hb⟩
    go_wp2_with fail
    go_ret
    exact ⟨ret_bool (by rw [HD.out, Bool.true_and]), hb⟩
  · have b1 : ((s.size : Int) == 1) = false := by rw [beq_eq_false_iff_ne]; omega
    have HD := Lib.hid (decide_eq_false h1)
    clear h1
    go_enter Try.func47, Try.ntmps47
    go_wp2_with fail
    go_ret
    exact ⟨ret_bool (by rw [HD.out, Bool.false_and]), Below.refl _ _⟩
end Go.Proofs.Ythckpgfhldocdaa

/- The program's sets of factors: canHaveFactors, factors, followed, led. Conditions: lengths. -/
namespace Go.Proofs.Ythckpgfhldocdaa
open Go.RowKit
abbrev tSet : TypeId := 62
theorem uSet : Try.prog.underlying tSet = some (.map fK 4) := Try.underlying62

theorem build_f (s : ByteArray) (w : World) : (Instr.build 65 #[(0, .string s)]).run Try.prog w = .ok (.agg #[.string s, .int .u8 0]) w := run_build w _ _ _ (by kernel_rfl)
theorem build_fb (s : ByteArray) (z : Int) (w : World) : (Instr.build 65 #[(0, .string s), (1, .int .u8 z)]).run Try.prog w = .ok (.agg #[.string s, .int .u8 z]) w := run_build w _ _ _ (by kernel_rfl)
theorem fok_part (s : ByteArray) (hs : s.size ≤ 1048576) (i n : Nat) (z : Int) (h : 0 ≤ z ∧ z ≤ 255) : FOk (s.extract i (i + n), z) :=
  ⟨by show (s.extract i (i + n)).size ≤ maxLen; rw [ByteArray.size_extract]; unfold maxLen; omega, h⟩

/-- the keys of a set -/
def SetIs (L : List FK) (S : FK → Prop) : Prop := ∀ p, p ∈ L ↔ S p
def facS (s : ByteArray) (n i : Nat) (p : FK) : Prop := ∃ j, j < i ∧ p = (s.extract j (j + n), 0)
def folS (s : ByteArray) (n i : Nat) (p : FK) : Prop := ∃ j, j < i ∧ ∃ h : j + n < s.size, p = (s.extract j (j + n), (s[j + n].toNat : Int))
def ledS (s : ByteArray) (n i : Nat) (p : FK) : Prop := ∃ j, j < i ∧ ∃ h : j + n < s.size, p = (s.extract (j + 1) (j + 1 + n), ((s[j]'(by omega)).toNat : Int))
theorem set_empty {S : FK → Prop} (h : ∀ p, ¬ S p) : SetIs [] S := fun p => by simp [h p]
theorem set_next {L L' : List FK} {S S' : FK → Prop} {q : FK} (h : SetIs L S) (h' : ∀ p, p ∈ L' ↔ p = q ∨ p ∈ L) (hS : ∀ p, S' p ↔ p = q ∨ S p) : SetIs L' S' := fun p => by rw [h', h p, hS p]
theorem facS_zero (s : ByteArray) (n : Nat) (p : FK) : ¬ facS s n 0 p := by rintro ⟨j, h, _⟩; omega
theorem folS_zero (s : ByteArray) (n : Nat) (p : FK) : ¬ folS s n 0 p := by rintro ⟨j, h, _⟩; omega
theorem ledS_zero (s : ByteArray) (n : Nat) (p : FK) : ¬ ledS s n 0 p := by rintro ⟨j, h, _⟩; omega
theorem facS_next (s : ByteArray) (n i : Nat) (p : FK) : facS s n (i + 1) p ↔ p = (s.extract i (i + n), 0) ∨ facS s n i p := by
  constructor
  · rintro ⟨j, h, e⟩
    by_cases hj : j = i
    · subst hj; exact .inl e
    · exact .inr ⟨j, by omega, e⟩
  · rintro (e | ⟨j, h, e⟩)
    · exact ⟨i, by omega, e⟩
    · exact ⟨j, by omega, e⟩
theorem folS_next (s : ByteArray) (n i : Nat) (hin : i + n < s.size) (p : FK) : folS s n (i + 1) p ↔ p = (s.extract i (i + n), (s[i + n].toNat : Int)) ∨ folS s n i p := by
  constructor
  · rintro ⟨j, h, e⟩
    by_cases hj : j = i
    · subst hj; exact .inl e.2
    · exact .inr ⟨j, by omega, e⟩
  · rintro (e | ⟨j, h, e⟩)
    · exact ⟨i, by omega, hin, e⟩
    · exact ⟨j, by omega, e⟩
theorem ledS_next (s : ByteArray) (n i : Nat) (hin : i + n < s.size) (p : FK) : ledS s n (i + 1) p ↔ p = (s.extract (i + 1) (i + 1 + n), ((s[i]'(by omega)).toNat : Int)) ∨ ledS s n i p := by
  constructor
  · rintro ⟨j, h, e⟩
    by_cases hj : j = i
    · subst hj; exact .inl e.2
    · exact .inr ⟨j, by omega, e⟩
  · rintro (e | ⟨j, h, e⟩)
    · exact ⟨i, by omega, hin, e⟩
    · exact ⟨j, by omega, e⟩

set_option maxHeartbeats 400000 in
theorem implFactors (s : ByteArray) (n : Nat) (w : World) (hs : s.size ≤ 400) (h1 : 1 ≤ n) (h8 : n ≤ 1000) :
    Calls Try.prog 40 #[.string s, .int .i64 n] w fun e w' => ∃ L, e = .returned (.map (some w.heap.size)) ∧ FSet w' w.heap.size L ∧ SetIs L (facS s n (s.size + 1 - n)) ∧ L.length ≤ 400 ∧ Below w.heap.size w w' := by
  have hmm := @run_makeMap Try.prog
  have hbf := build_f
  go_enter Try.func40, Try.ntmps40
  go_wp2_with fail
  go_loopw [13] (fun ix w' => ∃ (i : Nat) (L : List FK), i ≤ s.size + 1 - n ∧ ix = .int .i64 (i : Int) ∧ FSet w' w.heap.size L ∧ SetIs L (facS s n i) ∧ L.length ≤ i ∧ Below w.heap.size w w') (fun ix _ => s.size + 1 - n - (intOf ix).toNat)
  case atStart => exact ⟨0, [], by omega, rfl, FMap.made w _, set_empty (facS_zero s n), Nat.le_refl _, (Below.refl _ _).alloc (Nat.le_refl _) _⟩
  case round =>
    obtain ⟨i, L, hi, rfl, hF, hL, hl, hb⟩ := hrel
    have HF := Lib.hid hF
    have HL := Lib.hid hL
    have HB := Lib.hid hb
    clear hF hL hb
    by_cases hlt : i < s.size + 1 - n
    · have dlt : (i : Int) < (s.size : Int) - (n : Int) + 1 := by omega
      have hsl : ∀ w : World, (Instr.slice 45 (.string s) (some (.int .i64 (i : Int))) (some (.int .i64 ((i : Int) + (n : Int)))) none).run Try.prog w = .ok (.string (s.extract i (i + n))) w := fun w => slice_at Try.underlying45 s i n w (by omega)
      go_wp2_with (at_mapUpdate; refine wp_put _ rfl _ _ _ tSet rfl fT fk_law uSet w.heap.size L (fun _ => .bool true) rfl HF.out (by unfold maxLen; omega) (s.extract i (i + n), 0) (.bool true) rfl rfl (fok_part s (by omega) i n 0 (by omega)) (fun _ => .bool true) (fun _ _ _ => rfl) (plainElem_bool Try.underlying4 true) ?_; intro w2 L2 hF2 hm2 hl2 hg2 hs2)
      go_roundw
      case rel =>
        exact ⟨i + 1, L2, by omega, by go_num, hF2, set_next HL.out hm2 (facS_next s n i), by omega, HB.out.grown hg2 HB.out.size (fun k hk => by injection hk with hk; omega)⟩
      case measure => simp [intOf]; omega
    · have hii : i = s.size + 1 - n := by omega
      have dlt : ¬ (i : Int) < (s.size : Int) - (n : Int) + 1 := by omega
      go_wp2_with fail
      go_ret
      exact ⟨rfl, L, HF.out, by rw [← hii]; exact HL.out, by omega, HB.out⟩

end Go.Proofs.Ythckpgfhldocdaa

/-
  DERIVED: THE SHELF's CONTRACTS AT THIS DUMP, IN PLAIN WORDS (tools/lay-plain.mjs out of 'TryShelf.lean', which tools/lay-shelf.mjs wrote): THE SAME DECLARATIONS UNDER THE SAME NAMES: 'import', 'namespace', 'open', 'def', 'theorem' AND NOTHING ELSE: no command of the shelf's: FOR A HAND-IN. Each laying: the table of numbers ('.._ren') and one theorem, a field a fact of the dump's own or the kernel's comparison; each contract: ONE APPLICATION.
-/
namespace Go.Proofs
open Go.Shelf
def Try.lays137_ren : Go.Shelf.Ren := ⟨fun | 137 => 65 | 217 => 76 | 266 => 82 | n => n, fun | 9 => 9 | 5 => 5 | 3 => 3 | n => n, fun | n => n⟩
theorem Try.lays137 : Go.Proofs.Lays.n137 Try.prog Try.lays137_ren := {
  mixed := by kernel_rfl
  f137 := Try.func65.trans (congrArg some (by kernel_rfl))
  f217 := Try.func76.trans (congrArg some (by kernel_rfl))
  f266 := Try.func82.trans (congrArg some (by kernel_rfl))
  t3 := Try.underlying3
  a3 := Try.isAgg3
  z3 := Try.sizeOf3
  v3 := Try.zeroValue3
  t5 := Try.underlying5
  a5 := Try.isAgg5
  z5 := Try.sizeOf5
  v5 := Try.zeroValue5
  t9 := Try.underlying9
  a9 := Try.isAgg9
  z9 := Try.sizeOf9
  v9 := Try.zeroValue9 }
open Go.RowKit in
/-- strings.IndexByte: "IndexByte returns the index of the first instance of c in s, or -1 if c is not present in s.": IT RETURNS 'Lib.indexByte s c'; the world is as it was. (LAID: no walk: one application.) -/
theorem Try.strings_IndexByte (s : ByteArray) (c : Int) (w : World) :
    Calls Try.prog 65 #[.string s, .int .u8 c] w fun e w' => e = .returned (.int .i64 (Lib.indexByte s.data.toList c.toNat.toUInt8)) ∧ w' = w := Any.strings_IndexByte Try.lays137 s c w
def Try.lays144_ren : Go.Shelf.Ren := ⟨fun | 144 => 28 | 143 => 44 | 219 => 64 | 217 => 76 | 225 => 77 | 224 => 78 | 267 => 79 | 266 => 82 | 314 => 83 | n => n, fun | 9 => 9 | 4 => 4 | 3 => 3 | 5 => 5 | 46 => 68 | 146 => 109 | 51 => 91 | n => n, fun | 1 => 0 | n => n⟩
theorem Try.lays144 : Go.Proofs.Lays.n144 Try.prog Try.lays144_ren := {
  mixed := by kernel_rfl
  f143 := Try.func44.trans (congrArg some (by kernel_rfl))
  f144 := Try.func28.trans (congrArg some (by kernel_rfl))
  f217 := Try.func76.trans (congrArg some (by kernel_rfl))
  f219 := Try.func64.trans (congrArg some (by kernel_rfl))
  f224 := Try.func78.trans (congrArg some (by kernel_rfl))
  f225 := Try.func77.trans (congrArg some (by kernel_rfl))
  f266 := Try.func82.trans (congrArg some (by kernel_rfl))
  f267 := Try.func79.trans (congrArg some (by kernel_rfl))
  f314 := Try.func83.trans (congrArg some (by kernel_rfl))
  t3 := Try.underlying3
  a3 := Try.isAgg3
  z3 := Try.sizeOf3
  v3 := Try.zeroValue3
  t4 := Try.underlying4
  a4 := Try.isAgg4
  z4 := Try.sizeOf4
  v4 := Try.zeroValue4
  t5 := Try.underlying5
  a5 := Try.isAgg5
  z5 := Try.sizeOf5
  v5 := Try.zeroValue5
  t9 := Try.underlying9
  a9 := Try.isAgg9
  z9 := Try.sizeOf9
  v9 := Try.zeroValue9
  t46 := Try.underlying68
  a46 := Try.isAgg68
  z46 := Try.sizeOf68
  v46 := Try.zeroValue68
  t51 := Try.underlying91
  a51 := Try.isAgg91
  z51 := Try.sizeOf91
  v51 := Try.zeroValue91
  t146 := Try.underlying109
  a146 := Try.isAgg109
  z146 := Try.sizeOf109
  v146 := Try.zeroValue109
  g1 := by kernel_rfl }
open Go.RowKit Go.Lib in
/-- strings.Contains: "Contains reports whether substr is within s.": AT A substr OF ONE BYTE c: IT RETURNS 'decide (0 ≤ Lib.indexByte s c)'; the world is as it was. (LAID: no walk: one application.) -/
theorem Try.strings_Contains_one (s : ByteArray) (c : UInt8) (w : World) :
    Calls Try.prog 28 #[.string s, .string ⟨#[c]⟩] w fun e w' => e = .returned (.bool (decide (0 ≤ Lib.indexByte s.data.toList c))) ∧ w' = w := Any.strings_Contains_one Try.lays144 s c w
open Go.RowKit Go.Lib in
/-- strings.Contains: "Contains reports whether substr is within s.": IT RETURNS 'Lib.contains s substr'; the world is as it was. (LAID: no walk: one application.) -/
theorem Try.strings_Contains (s sub : ByteArray) (m : Int) (w : World) (hs : s.size < 4294967281) (hm : w.cell? ⟨0, 0, none⟩ = some (.int .i64 m)) :
    Calls Try.prog 28 #[.string s, .string sub] w fun e w' => e = .returned (.bool (Lib.contains s.data.toList sub.data.toList)) ∧ w' = w := Any.strings_Contains Try.lays144 s sub m w hs hm
def Try.laysM144_ren : Go.Shelf.Ren := ⟨fun | 144 => 28 | 143 => 44 | 219 => 64 | 217 => 76 | 225 => 77 | 224 => 78 | 267 => 79 | 266 => 82 | 314 => 83 | n => n, fun | 9 => 9 | 4 => 4 | 3 => 3 | 5 => 5 | 46 => 68 | 146 => 109 | 51 => 91 | n => n, fun | 1 => 0 | n => n⟩
theorem Try.laysM144 : Go.Proofs.LaysM.n144 Try.prog Try.laysM144_ren := {
  mixed := by kernel_rfl
  f143 := Try.func44.trans (congrArg some (by kernel_rfl))
  f144 := Try.func28.trans (congrArg some (by kernel_rfl))
  f217 := Try.func76.trans (congrArg some (by kernel_rfl))
  f219 := Try.func64.trans (congrArg some (by kernel_rfl))
  f224 := Try.func78.trans (congrArg some (by kernel_rfl))
  f225 := Try.func77.trans (congrArg some (by kernel_rfl))
  f266 := Try.func82.trans (congrArg some (by kernel_rfl))
  f267 := Try.func79.trans (congrArg some (by kernel_rfl))
  f314 := Try.func83.trans (congrArg some (by kernel_rfl))
  t3 := Try.underlying3
  a3 := Try.isAgg3
  z3 := Try.sizeOf3
  v3 := Try.zeroValue3
  t4 := Try.underlying4
  a4 := Try.isAgg4
  z4 := Try.sizeOf4
  v4 := Try.zeroValue4
  t5 := Try.underlying5
  a5 := Try.isAgg5
  z5 := Try.sizeOf5
  v5 := Try.zeroValue5
  t9 := Try.underlying9
  a9 := Try.isAgg9
  z9 := Try.sizeOf9
  v9 := Try.zeroValue9
  t46 := Try.underlying68
  a46 := Try.isAgg68
  z46 := Try.sizeOf68
  v46 := Try.zeroValue68
  t51 := Try.underlying91
  a51 := Try.isAgg91
  z51 := Try.sizeOf91
  v51 := Try.zeroValue91
  t146 := Try.underlying109
  a146 := Try.isAgg109
  z146 := Try.sizeOf109
  v146 := Try.zeroValue109
  g1 := by kernel_rfl
  i3 := by kernel_rfl
  i4 := by kernel_rfl
  i5 := by kernel_rfl
  i9 := by kernel_rfl
  i46 := by kernel_rfl
  i51 := by kernel_rfl
  i146 := by kernel_rfl
  m1 := by kernel_rfl
  s1_3 := fun w h => Go.Proofs.cell_of_shapedOpen_int (zero := #[.int .i64 0]) (t := 3) h (of_decide_eq_true (by kernel_rfl)) (by kernel_rfl) rfl (by kernel_rfl) (by kernel_rfl) Try.underlying3 }
def Try.lays190_ren : Go.Shelf.Ren := ⟨fun | 190 => 24 | 125 => 42 | 258 => 41 | 128 => 61 | 129 => 62 | 302 => 52 | 303 => 53 | 304 => 54 | 305 => 55 | 306 => 56 | 307 => 57 | 308 => 58 | 309 => 59 | 310 => 60 | 333 => 70 | 329 => 71 | 330 => 72 | 334 => 73 | 335 => 74 | 336 => 75 | 344 => 81 | n => n, fun | 31 => 24 | 9 => 9 | 3 => 3 | 46 => 68 | 0 => 0 | 51 => 91 | 53 => 93 | 4 => 4 | 183 => 84 | 182 => 83 | 131 => 88 | 5 => 5 | 218 => 100 | 222 => 104 | 228 => 107 | 229 => 27 | n => n, fun | n => n⟩
theorem Try.lays190 : Go.Proofs.Lays.n190 Try.prog Try.lays190_ren := {
  mixed := by kernel_rfl
  f125 := Try.func42.trans (congrArg some (by kernel_rfl))
  f128 := Try.func61.trans (congrArg some (by kernel_rfl))
  f129 := Try.func62.trans (congrArg some (by kernel_rfl))
  f190 := Try.func24.trans (congrArg some (by kernel_rfl))
  f258 := Try.func41.trans (congrArg some (by kernel_rfl))
  f302 := Try.func52.trans (congrArg some (by kernel_rfl))
  f303 := Try.func53.trans (congrArg some (by kernel_rfl))
  f304 := Try.func54.trans (congrArg some (by kernel_rfl))
  f305 := Try.func55.trans (congrArg some (by kernel_rfl))
  f306 := Try.func56.trans (congrArg some (by kernel_rfl))
  f307 := Try.func57.trans (congrArg some (by kernel_rfl))
  f308 := Try.func58.trans (congrArg some (by kernel_rfl))
  f309 := Try.func59.trans (congrArg some (by kernel_rfl))
  f310 := Try.func60.trans (congrArg some (by kernel_rfl))
  f329 := Try.func71.trans (congrArg some (by kernel_rfl))
  f330 := Try.func72.trans (congrArg some (by kernel_rfl))
  f333 := Try.func70.trans (congrArg some (by kernel_rfl))
  f334 := Try.func73.trans (congrArg some (by kernel_rfl))
  f335 := Try.func74.trans (congrArg some (by kernel_rfl))
  f336 := Try.func75.trans (congrArg some (by kernel_rfl))
  f344 := Try.func81.trans (congrArg some (by kernel_rfl))
  t0 := Try.underlying0
  a0 := Try.isAgg0
  z0 := Try.sizeOf0
  v0 := Try.zeroValue0
  t3 := Try.underlying3
  a3 := Try.isAgg3
  z3 := Try.sizeOf3
  v3 := Try.zeroValue3
  t4 := Try.underlying4
  a4 := Try.isAgg4
  z4 := Try.sizeOf4
  v4 := Try.zeroValue4
  t5 := Try.underlying5
  a5 := Try.isAgg5
  z5 := Try.sizeOf5
  v5 := Try.zeroValue5
  t9 := Try.underlying9
  a9 := Try.isAgg9
  z9 := Try.sizeOf9
  v9 := Try.zeroValue9
  t31 := Try.underlying24
  a31 := Try.isAgg24
  z31 := Try.sizeOf24
  v31 := Try.zeroValue24
  t46 := Try.underlying68
  a46 := Try.isAgg68
  z46 := Try.sizeOf68
  v46 := Try.zeroValue68
  t51 := Try.underlying91
  a51 := Try.isAgg91
  z51 := Try.sizeOf91
  v51 := Try.zeroValue91
  t53 := Try.underlying93
  a53 := Try.isAgg93
  z53 := Try.sizeOf93
  v53 := Try.zeroValue93
  t131 := Try.underlying88
  a131 := Try.isAgg88
  z131 := Try.sizeOf88
  v131 := Try.zeroValue88
  t182 := Try.underlying83
  a182 := Try.isAgg83
  z182 := Try.sizeOf83
  v182 := Try.zeroValue83
  t183 := Try.underlying84
  a183 := Try.isAgg84
  z183 := Try.sizeOf84
  v183 := Try.zeroValue84
  t218 := Try.underlying100
  a218 := Try.isAgg100
  z218 := Try.sizeOf100
  v218 := Try.zeroValue100
  t222 := Try.underlying104
  a222 := Try.isAgg104
  z222 := Try.sizeOf104
  v222 := Try.zeroValue104
  t228 := Try.underlying107
  a228 := Try.isAgg107
  z228 := Try.sizeOf107
  v228 := Try.zeroValue107
  t229 := Try.underlying27
  a229 := Try.isAgg27
  z229 := Try.sizeOf27
  v229 := Try.zeroValue27 }
open Go.Sort Go.RowKit in
theorem Try.slices_Sort_string (blk off cap : Nat) (ss : List (List UInt8)) (w : World) (hH : Holds encStr w blk off ss.toArray) (hblk : blk < w.heap.size) (hsz : ss.length < 4611686018427387904) :
    Calls Try.prog 24 #[.slice (some ⟨blk, off, none⟩) ss.length cap] w fun e w' =>
      e = .returned (.tuple #[]) ∧ ∃ n os, w' = grow (putRow encStr (Sort.ahead w n) blk off (ss.mergeSort fun x y => decide (x ≤ y)).toArray) os := Any.slices_Sort_string Try.lays190 blk off cap ss w hH hblk hsz
def Try.lays100_ren : Go.Shelf.Ren := ⟨fun | 100 => 43 | 207 => 63 | n => n, fun | 9 => 9 | 4 => 4 | 3 => 3 | n => n, fun | n => n⟩
theorem Try.lays100 : Go.Proofs.Lays.n100 Try.prog Try.lays100_ren := {
  mixed := by kernel_rfl
  f100 := Try.func43.trans (congrArg some (by kernel_rfl))
  f207 := Try.func63.trans (congrArg some (by kernel_rfl))
  t3 := Try.underlying3
  a3 := Try.isAgg3
  z3 := Try.sizeOf3
  v3 := Try.zeroValue3
  t4 := Try.underlying4
  a4 := Try.isAgg4
  z4 := Try.sizeOf4
  v4 := Try.zeroValue4
  t9 := Try.underlying9
  a9 := Try.isAgg9
  z9 := Try.sizeOf9
  v9 := Try.zeroValue9 }
open Go.RowKit Go.Lib in
/-- strings.HasSuffix: "HasSuffix reports whether the string s ends with suffix.": IT RETURNS 'Lib.hasSuffix s suffix'; the world is as it was. ('hs': no Go string is longer: a caller has it of every string that it was handed.) (LAID: no walk: one application.) -/
theorem Try.strings_HasSuffix (s p : ByteArray) (w : World) (hs : s.size ≤ 9223372036854775807) :
    Calls Try.prog 43 #[.string s, .string p] w fun e w' => e = .returned (.bool (Lib.hasSuffix s.data.toList p.data.toList)) ∧ w' = w := Any.strings_HasSuffix Try.lays100 s p w hs
open Go.RowKit Go.Sort in
/-- .. and plain. (LAID: no walk: one application.) -/
theorem Try.slices_Sort_string_none (p : Option Addr) (cap : Nat) (w : World) :
    Calls Try.prog 24 #[.slice p 0 cap] w fun e w' => e = .returned (.tuple #[]) ∧ w' = w := Any.slices_Sort_string_none Try.lays190 p cap w
end Go.Proofs
