/- Texts put together. -/
import Derived.Test.YtnejalefpenbfaaMgA1
import Derived.Test.YtnejalefpenbfaaChecked
import Derived.Maps.RangeWalk
import Derived.DeepKeys4
import Derived.Test.YtnejalefpenbfaaMgA8
import Derived.Test.YtnejalefpenbfaaMgA18
import Derived.Test.YtnejalefpenbfaaMgA15
import Derived.Test.YtnejalefpenbfaaMgA22
import Derived.IntWalk
import Derived.BigRegion
/- Maps whose keys are a text and a number of one byte beside it: what such a map holds, as a list of keys without repeats. No condition but lengths that a text can have. -/
namespace Go.Proofs.Ytnejalefpenbfaa
open Go.RowKit Go.Maps

abbrev FK := ByteArray × Int
abbrev fKey (p : FK) : Value := .agg #[.string p.1, .int .u8 p.2]
def fLit (p : FK) : Lit := .string (keyBytes [.string p.1.data.toList, .int .u8 p.2])
def FOk (p : FK) : Prop := p.1.size ≤ maxLen ∧ 0 ≤ p.2 ∧ p.2 ≤ 255
theorem u8_wf {z : Int} : (Lit.int .u8 z).wf = true ↔ 0 ≤ z ∧ z ≤ 255 := by
  simp [Lit.wf, IntKind.min, IntKind.max, IntKind.signed, IntKind.bits]

/-- what the program's type of keys is -/
structure FTypes (P : Program) (k tw tb : TypeId) : Prop where
  key : P.keyType k = true
  cells : P.cellsOf k = 2
  c1 : P.cellsOf tw = 1
  c2 : P.cellsOf tb = 1
  uw : P.underlying tw = some .string
  ub : P.underlying tb = some (.int .u8)
  row : k < P.types.size
  str : ∃ fs, P.underlying k = some (.struct fs) ∧ fs.toList.map (fun f => (f.type, f.offset)) = [(tw, 0), (tb, 1)] ∧ fs.toList.all (·.name != "_") = true

theorem two_of_map {α β : Type} {f : α → β} {l : List α} {x y : β} (h : l.map f = [x, y]) : ∃ a b, l = [a, b] ∧ f a = x ∧ f b = y := by
  rcases l with _ | ⟨a, _ | ⟨b, _ | ⟨c, l⟩⟩⟩ <;> simp at h
  exact ⟨a, b, rfl, h.1, h.2⟩
theorem FTypes.lits {P : Program} {k tw tb : TypeId} (T : FTypes P k tw tb) (m : Nat) (x y : Value) : P.keyLits (m + 2) k [x, y] =
    match x, y with
    | .string s, .int q z => if s.size ≤ maxLen ∧ q = .u8 ∧ (Lit.int .u8 z).wf = true then some [.string s.data.toList, .int .u8 z] else none
    | _, _ => none := by
  obtain ⟨fs, hu, hf, hn⟩ := T.str
  obtain ⟨fl⟩ := fs
  obtain ⟨f1, f2, rfl, e1, e2⟩ := two_of_map hf
  injection e1 with a1 a2
  injection e2 with b1 b2
  have hn' : (#[f1, f2] : Array _).all (·.name != "_") = true := by simpa using hn
  unfold Program.keyLits
  rw [hu]
  simp only [List.length_cons, List.length_nil, T.cells, hn', and_self, if_true]
  simp only [List.mapM_cons, List.mapM_nil, a1, a2, b1, b2, T.c1, T.c2]
  unfold Program.keyLits
  rw [T.uw, T.ub]
  cases x <;> cases y <;> simp
  split <;> split <;> simp_all

theorem FTypes.of {P : Program} {k tw tb : TypeId} (T : FTypes P k tw tb) (p : FK) (h : FOk p) : keyOf P k (fKey p) = some (fLit p) := by
  obtain ⟨m, hm⟩ : ∃ m, P.types.size + 1 = m + 2 := ⟨P.types.size - 1, by have h0 : 0 < P.types.size := Nat.lt_of_le_of_lt (Nat.zero_le _) T.row; omega⟩
  obtain ⟨fs, hu, _, _⟩ := T.str
  have hform : (fKey p).formed P k = true := by simp [Value.formed, hu, T.cells]
  unfold keyOf
  rw [hu]
  simp only
  rw [hm, T.key, hform]
  rw [show (fKey p).cells.toList = [.string p.1, .int .u8 p.2] from rfl, T.lits]
  simp only
  rw [if_pos (by rfl), if_pos ⟨h.1, trivial, u8_wf.2 h.2⟩]
  rfl

theorem FTypes.inv {P : Program} {k tw tb : TypeId} (T : FTypes P k tw tb) {v : Value} {l : Lit} (h : keyOf P k v = some l) : ∃ p : FK, v = fKey p ∧ FOk p ∧ l = fLit p := by
  obtain ⟨m, hm⟩ : ∃ m, P.types.size + 1 = m + 2 := ⟨P.types.size - 1, by have h0 : 0 < P.types.size := Nat.lt_of_le_of_lt (Nat.zero_le _) T.row; omega⟩
  obtain ⟨fs, hu, _, _⟩ := T.str
  have h0 := h
  unfold keyOf at h0
  rw [hu] at h0
  simp only at h0
  split at h0
  case isFalse => cases h0
  rename_i hk
  have hform := (Bool.and_eq_true_iff.1 hk).2
  cases v <;> simp [Value.formed, hu, T.cells] at hform
  rename_i xs
  obtain ⟨xl⟩ := xs
  rcases xl with _ | ⟨x, _ | ⟨y, _ | ⟨z, l⟩⟩⟩ <;> simp at hform
  rw [hm, show (Value.agg ⟨[x, y]⟩).cells.toList = [x, y] from rfl, T.lits] at h0
  cases x <;> cases y <;> simp at h0
  obtain ⟨⟨h1, rfl, h2⟩, rfl⟩ := h0
  exact ⟨(_, _), rfl, ⟨h1, u8_wf.1 h2⟩, rfl⟩

/-- of this program -/
abbrev fK : TypeId := 63
theorem fT : FTypes Try.prog fK 37 5 where
  key := by kernel_rfl
  cells := by kernel_rfl
  c1 := by kernel_rfl
  c2 := by kernel_rfl
  uw := Try.underlying37
  ub := Try.underlying5
  row := of_decide_eq_true (by kernel_rfl)
  str := ⟨_, Try.underlying63, by kernel_rfl, by kernel_rfl⟩
theorem fk_laid : laidOutB Try.prog = true := by kernel_rfl
theorem fk_law : Keyed Try.prog fK := Keyed.of_law (deep_law_laid fk_laid (m := 3) (by omega) fT.row (by kernel_rfl) (by rw [Try.underlying63]))
theorem fKey_inj {p q : FK} (e : fKey p = fKey q) : p = q := by
  injection e with e
  have e1 : (#[.string p.1, .int .u8 p.2] : Array Value).toList = [.string q.1, .int .u8 q.2] := by rw [e]
  injection e1 with e1 e2
  injection e2 with e2 _
  injection e1 with e1
  injection e2 with _ e2
  exact Prod.ext e1 e2
theorem FTypes.lit_inj {P : Program} {k tw tb : TypeId} (T : FTypes P k tw tb) (K : Keyed P k) {p q : FK} (hp : FOk p) (hq : FOk q) (h : fLit p = fLit q) : p = q := by
  have h1 := T.of p hp
  have h2 := T.of q hq
  rw [← h] at h2
  exact fKey_inj (K.inj h1 h2)
theorem fLit_key (p : FK) : WideAt.IsKeyLit (fLit p) := trivial

/-! ### what a map holds -/
/-- D has just the keys L, each once, and at each key what g says -/
structure Rep (D : DataW Empty) (L : List FK) (g : FK → Lit) : Prop where
  nodup : L.Nodup
  size : Maps.size D = L.length
  ok : ∀ p ∈ L, FOk p
  has : ∀ p ∈ L, Maps.has D (fLit p) = true
  at' : ∀ p ∈ L, ∀ z, D.atKey (fLit p) z = .lit (g p)
  all : ∀ l, Maps.has D l = true → ∃ p ∈ L, l = fLit p

theorem rep_empty (g : FK → Lit) : Rep (.map []) [] g :=
  ⟨List.nodup_nil, rfl, by simp, by simp, by simp, fun l h => by simp [Maps.has] at h⟩

section
variable {P : Program} {k tw tb e : TypeId} {w : World} {b n : Nat} {D : DataW Empty} {L : List FK} {g : FK → Lit}

theorem Rep.mem (h : Rep D L g) (T : FTypes P k tw tb) (K : Keyed P k) {p : FK} (hp : FOk p) : Maps.has D (fLit p) = true ↔ p ∈ L := by
  constructor
  · intro hh
    obtain ⟨q, hq, e⟩ := h.all _ hh
    rw [T.lit_inj K hp (h.ok q hq) e]
    exact hq
  · exact h.has p

theorem Rep.put (h : Rep D L g) (T : FTypes P k tw tb) (K : Keyed P k) (ht : Tidy D) {p : FK} (hp : FOk p) (g' : FK → Lit) (hg : ∀ q ∈ L, q ≠ p → g' q = g q) :
    ∃ L', Rep (D.put (fLit p) (.lit (g' p))) L' g' ∧ (∀ q, q ∈ L' ↔ q = p ∨ q ∈ L) ∧ L'.length ≤ L.length + 1 ∧ (p ∈ L → L' = L) := by
  have hput : Maps.has (D.put (fLit p) (.lit (g' p))) (fLit p) = true := has_put_same ht.isMap (fLit_key p) _
  have hne : ∀ {q : FK}, q ∈ L → q ≠ p → fLit q ≠ fLit p := fun hq hn e => hn (T.lit_inj K (h.ok _ hq) hp e)
  have hat : ∀ q, (q = p ∨ q ∈ L) → ∀ z, (D.put (fLit p) (.lit (g' p))).atKey (fLit q) z = .lit (g' q) := by
    intro q hq z
    by_cases e : q = p
    · subst e
      exact atKey_put_same ht.isMap (fLit_key _) _ _
    · have hq' := hq.resolve_left e
      rw [atKey_put_other (hne hq' e), h.at' q hq', hg q hq' e]
  have hhas : ∀ q, (q = p ∨ q ∈ L) → Maps.has (D.put (fLit p) (.lit (g' p))) (fLit q) = true := by
    intro q hq
    by_cases e : q = p
    · subst e; exact hput
    · have hq' := hq.resolve_left e
      rw [has_put_other (hne hq' e)]
      exact h.has q hq'
  have hall : ∀ l, Maps.has (D.put (fLit p) (.lit (g' p))) l = true → ∃ q, (q = p ∨ q ∈ L) ∧ l = fLit q := by
    intro l hl
    by_cases e : l = fLit p
    · exact ⟨p, .inl rfl, e⟩
    · rw [has_put_other e] at hl
      obtain ⟨q, hq, e2⟩ := h.all l hl
      exact ⟨q, .inr hq, e2⟩
  have hsz := size_put ht (k := fLit p) (.lit (g' p))
  by_cases hm : p ∈ L
  · rw [if_pos (h.has p hm)] at hsz
    refine ⟨L, ⟨h.nodup, hsz.trans h.size, h.ok, fun q hq => hhas q (.inr hq), fun q hq => hat q (.inr hq), fun l hl => ?_⟩, fun q => ⟨.inr, fun hq => ?_⟩, by omega, fun _ => rfl⟩
    · obtain ⟨q, hq, e⟩ := hall l hl
      refine ⟨q, ?_, e⟩
      rcases hq with rfl | hq
      · exact hm
      · exact hq
    · rcases hq with rfl | hq
      · exact hm
      · exact hq
  · rw [if_neg (fun hh => hm ((h.mem T K hp).1 hh))] at hsz
    refine ⟨p :: L, ⟨List.nodup_cons.2 ⟨hm, h.nodup⟩, by rw [hsz, h.size]; rfl, fun q hq => ?_, fun q hq => hhas q (List.mem_cons.1 hq), fun q hq => hat q (List.mem_cons.1 hq), fun l hl => ?_⟩, fun q => List.mem_cons, by simp, fun hh => absurd hh hm⟩
    · rcases List.mem_cons.1 hq with rfl | hq
      · exact hp
      · exact h.ok q hq
    · obtain ⟨q, hq, e⟩ := hall l hl
      exact ⟨q, List.mem_cons.2 hq, e⟩

theorem Rep.del (h : Rep D L g) (T : FTypes P k tw tb) (K : Keyed P k) (ht : Tidy D) {p : FK} (hp : p ∈ L) :
    ∃ L', Rep (D.del (fLit p)) L' g ∧ (∀ q, q ∈ L' ↔ q ∈ L ∧ q ≠ p) ∧ L'.length + 1 = L.length := by
  obtain ⟨A, B, rfl⟩ := List.append_of_mem hp
  have hnd := h.nodup
  rw [List.nodup_append] at hnd
  obtain ⟨n1, n2, n3⟩ := hnd
  obtain ⟨n4, n5⟩ := List.nodup_cons.1 n2
  have hmem : ∀ q, q ∈ A ++ B ↔ q ∈ A ++ p :: B ∧ q ≠ p := by
    intro q
    simp only [List.mem_append, List.mem_cons]
    constructor
    · rintro (hq | hq)
      · exact ⟨.inl hq, fun e => n3 q hq p (by simp) e⟩
      · exact ⟨.inr (.inr hq), fun e => n4 (e ▸ hq)⟩
    · rintro ⟨hq | hq | hq, hn⟩
      · exact .inl hq
      · exact absurd hq hn
      · exact .inr hq
  have hne : ∀ {q : FK}, q ∈ A ++ p :: B → q ≠ p → fLit q ≠ fLit p := fun hq hn e => hn (T.lit_inj K (h.ok _ hq) (h.ok _ hp) e)
  have hsz := size_del ht (k := fLit p)
  rw [if_pos (h.has p hp), h.size] at hsz
  refine ⟨A ++ B, ⟨List.nodup_append.2 ⟨n1, n5, fun a ha c hc => n3 a ha c (List.mem_cons_of_mem _ hc)⟩, ?_, fun q hq => h.ok q ((hmem q).1 hq).1, fun q hq => ?_, fun q hq z => ?_, fun l hl => ?_⟩, hmem, by simp; omega⟩
  · simp at hsz ⊢
    omega
  · rw [has_del_other (hne ((hmem q).1 hq).1 ((hmem q).1 hq).2)]
    exact h.has q ((hmem q).1 hq).1
  · rw [atKey_del_other (hne ((hmem q).1 hq).1 ((hmem q).1 hq).2)]
    exact h.at' q ((hmem q).1 hq).1 z
  · by_cases e : l = fLit p
    · rw [e, has_del_same] at hl
      cases hl
    · rw [has_del_other e] at hl
      obtain ⟨q, hq, e2⟩ := h.all l hl
      exact ⟨q, (hmem q).2 ⟨hq, fun e3 => e (by rw [e2, e3])⟩, e2⟩
end

end Go.Proofs.Ytnejalefpenbfaa

/- The laws of the walk for maps whose keys are a text and a byte beside it: look-up, store, len, range, step, delete. No condition. -/
namespace Go.Proofs.Ytnejalefpenbfaa
open Go.RowKit Go.Maps

/-- block b is a map that holds just the keys L, and at each what g says -/
def FMap (P : Program) (k e : TypeId) (w : World) (b : Nat) (L : List FK) (g : FK → Lit) : Prop :=
  ∃ D : DataW Empty, w.ownsMap P k (plainElem P e) b L.length D ∧ Rep D L g
/-- .. under a range whose keys M are still to come -/
def FRange (P : Program) (k e : TypeId) (w : World) (b r : Nat) (L : List FK) (g : FK → Lit) (M : List FK) : Prop :=
  ∃ (D : DataW Empty) (left : Lit → Bool) (cnt : Nat), w.ranges P k (plainElem P e) b r L.length D left cnt ∧ Rep D L g ∧ M.Nodup ∧ (∀ p ∈ M, p ∈ L) ∧ ∀ l, left l = true ↔ ∃ p ∈ M, l = fLit p

/-- L' is L without p -/
def Dels (L' L : List FK) (p : FK) : Prop := ∀ q, q ∈ L' ↔ q ∈ L ∧ q ≠ p

section
variable {P : Program} {k tw tb t e : TypeId} {w : World} {b n r : Nat} {L M : List FK} {g : FK → Lit}

theorem plainElem_bool_inv {H : Type} (he : P.underlying e = some .bool) {v : Value} {z : DataW H × List MemPlace} (h : plainElem P e v = some z) : ∃ x, v = .bool x ∧ z = (.lit (.bool x), []) := by
  unfold plainElem at h
  rw [he] at h
  cases v <;> simp at h
  exact ⟨_, rfl, h.symm⟩
theorem ownsMap_exact {H : Type} {R : Value → Option (DataW H × List MemPlace)} {D : DataW H} (h : w.ownsMap P k R b n D) : w.ownsMap P k R b (Maps.size D) D := by
  obtain ⟨es, clock, hb, F, hs, rfl⟩ := h
  exact ⟨es, clock, hb, F, by simp [Maps.size, length_sorted], rfl⟩
theorem ranges_exact {H : Type} {R : Value → Option (DataW H × List MemPlace)} {D : DataW H} {left : Lit → Bool} {cnt : Nat} (h : w.ranges P k R b r n D left cnt) : w.ranges P k R b r (Maps.size D) D left cnt := by
  obtain ⟨es, clock, since, seen, c0, hb, F, hs, rfl, rest⟩ := h
  exact ⟨es, clock, since, seen, c0, hb, F, by simp [Maps.size, length_sorted], rfl, rest⟩

theorem FMap.lt (h : FMap P k e w b L g) : b < w.heap.size := by
  obtain ⟨D, h, _⟩ := h
  exact h.lt
theorem FMap.kept {w' : World} {row : Option Nat} (h : FMap P k e w b L g) (hg : w.grownBy w' row) (hne : row ≠ some b) : FMap P k e w' b L g := by
  obtain ⟨D, h, hr⟩ := h
  exact ⟨D, h.kept hg (fun e => hne e.symm), hr⟩
theorem FMap.below {w' : World} (h : FMap P k e w b L g) (hb : Below w.heap.size w w') : FMap P k e w' b L g := h.kept (grown_of_below hb none) (by simp)
theorem FMap.alloc (h : FMap P k e w b L g) (o : Obj) : FMap P k e (w.alloc o) b L g := h.kept (World.grownBy_alloc w o none) (by simp)
theorem FMap.made (w : World) (g : FK → Lit) : FMap P k e (w.alloc (.map #[] 0)) w.heap.size [] g := ⟨_, World.ownsMap_made w P k _, rep_empty g⟩
theorem FMap.nodup (h : FMap P k e w b L g) : L.Nodup := h.choose_spec.2.nodup
theorem FMap.ok (h : FMap P k e w b L g) : ∀ p ∈ L, FOk p := h.choose_spec.2.ok
theorem FMap.vals (h : FMap P k e w b L g) {g' : FK → Lit} (hg : ∀ p ∈ L, g' p = g p) : FMap P k e w b L g' := by
  obtain ⟨D, h, hr⟩ := h
  exact ⟨D, h, hr.nodup, hr.size, hr.ok, hr.has, fun p hp z => by rw [hr.at' p hp, hg p hp], hr.all⟩
theorem FRange.owns (h : FRange P k e w b r L g M) : FMap P k e w b L g := by
  obtain ⟨D, left, cnt, h, hr, _⟩ := h
  exact ⟨D, h.owns, hr⟩
theorem FRange.nodup (h : FRange P k e w b r L g M) : M.Nodup := by
  obtain ⟨D, left, cnt, h, hr, hn, _⟩ := h
  exact hn
theorem FRange.sub (h : FRange P k e w b r L g M) : ∀ p ∈ M, p ∈ L := by
  obtain ⟨D, left, cnt, h, hr, hn, hs, _⟩ := h
  exact hs
theorem FRange.lt (h : FRange P k e w b r L g M) : r < w.heap.size := by
  obtain ⟨D, left, cnt, h, _⟩ := h
  exact h.lt
theorem FRange.ne (h : FRange P k e w b r L g M) : r ≠ b := by
  obtain ⟨D, left, cnt, h, _⟩ := h
  exact h.ne
theorem FRange.kept {w' : World} {row : Option Nat} (h : FRange P k e w b r L g M) (hg : w.grownBy w' row) (h1 : row ≠ some b) (h2 : row ≠ some r) : FRange P k e w' b r L g M := by
  obtain ⟨D, left, cnt, h, rest⟩ := h
  exact ⟨D, left, cnt, h.kept hg (fun e => h1 e.symm) (fun e => h2 e.symm), rest⟩
theorem FRange.below {w' : World} (h : FRange P k e w b r L g M) (hb : Below w.heap.size w w') : FRange P k e w' b r L g M := h.kept (grown_of_below hb none) (by simp) (by simp)
theorem FRange.alloc (h : FRange P k e w b r L g M) (o : Obj) : FRange P k e (w.alloc o) b r L g M := h.kept (World.grownBy_alloc w o none) (by simp) (by simp)
theorem rangeLeft_kept {w' : World} {row : Option Nat} (h : FRange P k e w b r L g M) (hg : w.grownBy w' row) (h1 : row ≠ some b) (h2 : row ≠ some r) : w'.rangeLeft b r = w.rangeLeft b r := by
  obtain ⟨D, left, cnt, h, rest⟩ := h
  rw [(h.kept hg (fun e => h1 e.symm) (fun e => h2 e.symm)).left_eq, h.left_eq]

variable {ops : Array Oper} {rest : List Oper} {o : Oper} {a : Act} {Q : Exit → Act → World → Prop}

/-- m[k] of a map of bools -/
theorem wp_lookB (w : World) (hg : o.guard = none) (m x : Operand) (t : TypeId) (hop : o.op = Op.lookup t m x false) (T : FTypes P k tw tb) (K : Keyed P k) (ht : P.underlying t = some (.map k e)) (he : P.underlying e = some .bool)
    (hz : (zeroValue e).run P w = .ok (.bool false) w) (b : Nat) (L : List FK) (hm : a.eval m = .map (some b)) (h : FMap P k e w b L (fun _ => .bool true)) (p : FK) (hx : a.eval x = fKey p) (hp : FOk p) (c : Bool) (hc : c = true ↔ p ∈ L)
    (hK : wpList P ops Q rest (a.put o.dst (.bool c)) w) : wpList P ops Q (o :: rest) a w := by
  refine wpList_plain hg fun K' hK' => ?_
  obtain ⟨D, hown, hr⟩ := h
  obtain ⟨v, ps, hrun, hv⟩ := hown.lookup K ht hz (plainElem_bool he false) (T.of p hp)
  obtain ⟨y, rfl, hy⟩ := plainElem_bool_inv he hv
  have hyc : y = c := by
    simp only [Prod.mk.injEq] at hy
    by_cases hm : p ∈ L
    · have e1 := hr.at' p hm (.lit (.bool false))
      rw [hy.1] at e1
      injection e1 with e1
      injection e1 with e1
      rw [e1, hc.2 hm]
    · have e1 := atKey_of_not_has (D := D) (k := fLit p) (by
        cases hh : Maps.has D (fLit p)
        · rfl
        · exact absurd ((hr.mem T K hp).1 hh) hm) (.lit (.bool false))
      rw [hy.1] at e1
      injection e1 with e1
      injection e1 with e1
      rw [e1]
      cases c
      · rfl
      · exact absurd (hc.1 rfl) hm
  subst hyc
  unfold Oper.wp
  simp [execOp, hop, hm, hx, hrun, Result.andThen]
  exact hK' _ _ hK

/-- m[k] of a map of integers -/
theorem wp_lookI (w : World) (hg : o.guard = none) (m x : Operand) (t : TypeId) (hop : o.op = Op.lookup t m x false) (T : FTypes P k tw tb) (K : Keyed P k) (ht : P.underlying t = some (.map k e)) (he : P.underlying e = some (.int .i64))
    (hz : (zeroValue e).run P w = .ok (.int .i64 0) w) (b : Nat) (L : List FK) (g : FK → Lit) (hm : a.eval m = .map (some b)) (h : FMap P k e w b L g) (p : FK) (hx : a.eval x = fKey p) (hp : FOk p) (c : Int) (hc1 : p ∈ L → g p = .int .i64 c) (hc2 : p ∉ L → c = 0)
    (hK : wpList P ops Q rest (a.put o.dst (.int .i64 c)) w) : wpList P ops Q (o :: rest) a w := by
  refine wpList_plain hg fun K' hK' => ?_
  obtain ⟨D, hown, hr⟩ := h
  obtain ⟨y, hrun, hy, _⟩ := hown.lookup_int K ht he hz (T.of p hp)
  have hyc : y = c := by
    by_cases hm : p ∈ L
    · have e1 := hr.at' p hm (.lit (.int .i64 0))
      rw [hy, hc1 hm] at e1
      injection e1 with e1
      injection e1
    · have e1 := atKey_of_not_has (D := D) (k := fLit p) (by
        cases hh : Maps.has D (fLit p)
        · rfl
        · exact absurd ((hr.mem T K hp).1 hh) hm) (.lit (.int .i64 0))
      rw [hy] at e1
      injection e1 with e1
      injection e1 with _ e1
      rw [e1, hc2 hm]
  subst hyc
  unfold Oper.wp
  simp [execOp, hop, hm, hx, hrun, Result.andThen]
  exact hK' _ _ hK

/-- m[k] = v, run -/
theorem FMap.put {t : TypeId} (h : FMap P k e w b L g) (T : FTypes P k tw tb) (K : Keyed P k) (ht : P.underlying t = some (.map k e)) (hn : L.length < maxLen) (p : FK) (val : Value) (hp : FOk p) (g' : FK → Lit) (hg' : ∀ q ∈ L, q ≠ p → g' q = g q) (hval : plainElem (H := Empty) P e val = some (.lit (g' p), [])) :
    ∃ w' L', (Instr.mapUpdate t (.map (some b)) (fKey p) val).run P w = .ok () w' ∧ FMap P k e w' b L' g' ∧ (∀ q, q ∈ L' ↔ q = p ∨ q ∈ L) ∧ L'.length ≤ L.length + 1 ∧ w.grownBy w' (some b) ∧ w'.heap.size = w.heap.size := by
  obtain ⟨D, hown, hr⟩ := h
  obtain ⟨w', hrun, r1, r2⟩ := hown.store K ht hn (T.of p hp) hval
  obtain ⟨L', q1, q2, q3, _⟩ := hr.put T K (hown.tidy K) hp g' hg'
  have r3 := ownsMap_exact r1
  rw [q1.size] at r3
  have hsz : w'.heap.size = w.heap.size := by
    obtain ⟨es, clock, es', clock', _, rfl⟩ := r2
    simp [ChangeMaps.setBlock]
  exact ⟨w', L', hrun, ⟨_, r3, q1⟩, q2, q3, r2.grown, hsz⟩
theorem FMap.drewN (h : FMap P k e w b L g) (j : Nat) : FMap P k e (w.drewN j) b L g := h
theorem FMap.drew (h : FMap P k e w b L g) : FMap P k e w.drew b L g := h

/-- m[k] = v -/
theorem wp_put (w : World) (hg : o.guard = none) (m x v : Operand) (t : TypeId) (hop : o.op = Op.mapUpdate t m x v) (T : FTypes P k tw tb) (K : Keyed P k) (ht : P.underlying t = some (.map k e)) (b : Nat) (L : List FK) (g : FK → Lit) (hm : a.eval m = .map (some b))
    (h : FMap P k e w b L g) (hn : L.length < maxLen) (p : FK) (val : Value) (hx : a.eval x = fKey p) (hv : a.eval v = val) (hp : FOk p) (g' : FK → Lit) (hg' : ∀ q ∈ L, q ≠ p → g' q = g q) (hval : plainElem (H := Empty) P e val = some (.lit (g' p), []))
    (hK : ∀ w' L', FMap P k e w' b L' g' → (∀ q, q ∈ L' ↔ q = p ∨ q ∈ L) → L'.length ≤ L.length + 1 → w.grownBy w' (some b) → w'.heap.size = w.heap.size → wpList P ops Q rest (a.put o.dst undef) w') : wpList P ops Q (o :: rest) a w := by
  refine wpList_plain hg fun K' hK' => ?_
  obtain ⟨w', L', hrun, r1, q2, q3, r2, hsz⟩ := h.put T K ht hn p val hp g' hg' hval
  unfold Oper.wp
  simp [execOp, hop, hm, hx, hv, hrun, Result.andThen]
  exact hK' _ _ (hK w' L' r1 q2 q3 r2 hsz)

/-- len(m) -/
theorem wp_mapLen (w : World) (hg : o.guard = none) (m : Operand) (t : TypeId) (hop : o.op = Op.call { callee := Callee.builtin Builtin.len, args := #[m], argTypes := #[t] }) (ht : P.underlying t = some (.map k e)) (b : Nat) (L : List FK) (g : FK → Lit) (hm : a.eval m = .map (some b))
    (h : FMap P k e w b L g) (hK : wpList P ops Q rest (a.put o.dst (.int .i64 L.length)) w) : wpList P ops Q (o :: rest) a w := by
  obtain ⟨D, hown, hr⟩ := h
  refine wpList_len_own w hg m t hop k e ht _ b _ D hm hown ?_
  rw [hr.size]
  exact hK

/-- range m -/
theorem wp_range (w : World) (hg : o.guard = none) (m : Operand) (t : TypeId) (hop : o.op = Op.range t m) (K : Keyed P k) (ht : P.underlying t = some (.map k e)) (b : Nat) (L : List FK) (g : FK → Lit) (hm : a.eval m = .map (some b)) (h : FMap P k e w b L g)
    (hK : ∀ w', FRange P k e w' b w.heap.size L g L → w.grownBy w' none → w'.heap.size = w.heap.size + 1 → wpList P ops Q rest (a.put o.dst (.pointer (some ⟨w.heap.size, 0, none⟩))) w') : wpList P ops Q (o :: rest) a w := by
  obtain ⟨D, hown, hr⟩ := h
  refine wpList_range_own w hg m t hop k e K ht _ b _ D hm hown ?_
  intro w' h1 h2 h3
  exact hK w' ⟨D, _, _, h1, hr, hr.nodup, fun _ h => h, fun l => ⟨hr.all l, by rintro ⟨p, hp, rfl⟩; exact hr.has p hp⟩⟩ h2 h3

/-- the step -/
theorem wp_step (w : World) (hg : o.guard = none) (it : Operand) (hop : o.op = Op.next it false) (T : FTypes P k tw tb) (K : Keyed P k) (b r : Nat) (L : List FK) (g : FK → Lit) (M : List FK) (hit : a.eval it = .pointer (some ⟨r, 0, none⟩)) (h : FRange P k e w b r L g M)
    (vv : FK → Value) (hvv : ∀ p v ps, plainElem (H := Empty) P e v = some (.lit (g p), ps) → v = vv p)
    (hDone : M = [] → wpList P ops Q rest (a.put o.dst (.tuple #[.bool false])) w)
    (hMore : ∀ p M' w', p ∈ M → Dels M' M p → M'.length + 1 = M.length → FRange P k e w' b r L g M' → w'.rangeLeft b r < w.rangeLeft b r → w.grownBy w' (some r) → w'.heap.size = w.heap.size →
      (Instr.entry (.pointer (some ⟨r, 0, none⟩))).run P w' = .ok (.tuple #[fKey p, vv p]) w' → wpList P ops Q rest (a.put o.dst (.tuple #[.bool true, fKey p, vv p])) w') : wpList P ops Q (o :: rest) a w := by
  refine wpList_plain hg fun K' hK' => ?_
  obtain ⟨D, left, cnt, hrg, hr, hn, hs, hl⟩ := h
  unfold Oper.wp
  rcases hrg.next K o.type with ⟨h0, hl0, hrun⟩ | ⟨key, v, kl, y, w', cnt', hkey, hlk, hv, hat, hrun, hrg', hlt, hgr, hsz, hen⟩
  · simp [execOp, hop, hit, hrun, Result.andThen]
    refine hK' _ _ (hDone (List.eq_nil_iff_forall_not_mem.2 fun p hp => ?_))
    have := (hl (fLit p)).2 ⟨p, hp, rfl⟩
    rw [hl0] at this
    cases this
  · obtain ⟨p, hpM, rfl⟩ := (hl kl).1 hlk
    have hpL := hs p hpM
    obtain ⟨p', rfl, hp', e1⟩ := T.inv hkey
    obtain rfl : p = p' := T.lit_inj K (hr.ok p hpL) hp' e1
    have hy : y.1 = .lit (g p) := by rw [← hat .nil]; exact hr.at' p hpL .nil
    obtain rfl := hvv p v y.2 (by rw [hv, ← hy])
    obtain ⟨A, B, rfl⟩ := List.append_of_mem hpM
    have hnd := hn
    rw [List.nodup_append] at hnd
    obtain ⟨n1, n2, n3⟩ := hnd
    obtain ⟨n4, n5⟩ := List.nodup_cons.1 n2
    have hmem : ∀ q, q ∈ A ++ B ↔ q ∈ A ++ p :: B ∧ q ≠ p := by
      intro q
      simp only [List.mem_append, List.mem_cons]
      constructor
      · rintro (hq | hq)
        · exact ⟨.inl hq, fun e => n3 q hq p (by simp) e⟩
        · exact ⟨.inr (.inr hq), fun e => n4 (e ▸ hq)⟩
      · rintro ⟨hq | hq | hq, hn⟩
        · exact .inl hq
        · exact absurd hq hn
        · exact .inr hq
    have hfr : FRange P k e w' b r L g (A ++ B) := by
      refine ⟨D, _, cnt', hrg', hr, List.nodup_append.2 ⟨n1, n5, fun a ha c hc => n3 a ha c (List.mem_cons_of_mem _ hc)⟩, fun q hq => hs q ((hmem q).1 hq).1, fun l => ?_⟩
      simp only [Bool.and_eq_true, Bool.not_eq_true']
      constructor
      · rintro ⟨h1, h2⟩
        obtain ⟨q, hq, rfl⟩ := (hl l).1 h1
        refine ⟨q, (hmem q).2 ⟨hq, fun e => ?_⟩, rfl⟩
        rw [e, WideAt.sameKey_self (fLit_key p)] at h2
        cases h2
      · rintro ⟨q, hq, rfl⟩
        obtain ⟨q1, q2⟩ := (hmem q).1 hq
        exact ⟨(hl _).2 ⟨q, q1, rfl⟩, sameKey_ne fun e => q2 (T.lit_inj K (hr.ok q (hs q q1)) (hr.ok p hpL) e)⟩
    simp [execOp, hop, hit, hrun, Result.andThen]
    refine hK' _ _ (hMore p (A ++ B) w' hpM hmem (by simp; omega) hfr ?_ hgr hsz hen)
    rw [hrg'.left_eq, hrg.left_eq]
    exact hlt

/-- delete(m, k) in the round at whose head k came -/
theorem wp_drop (w : World) (hg : o.guard = none) (m x : Operand) (t k : TypeId) (hop : o.op = Op.call { callee := Callee.builtin Builtin.delete, args := #[m, x], argTypes := #[t, k] }) (T : FTypes P k tw tb) (K : Keyed P k) (ht : P.underlying t = some (.map k e)) (b r : Nat) (L : List FK) (g : FK → Lit) (M : List FK)
    (hm : a.eval m = .map (some b)) (h : FRange P k e w b r L g M) (p : FK) (hx : a.eval x = fKey p) (hp : p ∈ L) (hpM : p ∉ M)
    (hK : ∀ w' L', FRange P k e w' b r L' g M → Dels L' L p → w'.rangeLeft b r ≤ w.rangeLeft b r → w.grownBy w' (some b) → w'.heap.size = w.heap.size → wpList P ops Q rest (a.put o.dst (.tuple #[])) w') : wpList P ops Q (o :: rest) a w := by
  obtain ⟨D, left, cnt, hrg, hr, hn, hs, hl⟩ := h
  refine wpList_delete_ranges w hg m x t k hop e K ht _ b r _ D left cnt hm hrg (fKey p) (fLit p) hx (T.of p (hr.ok p hp)) ?_
  intro w' cnt' h1 h2 h3
  obtain ⟨L', q1, q2, q3⟩ := hr.del T K (hrg.owns.tidy K) hp
  have r3 := ranges_exact h1
  rw [q1.size] at r3
  have hsz : w'.heap.size = w.heap.size := by
    obtain ⟨es, clock, es', clock', _, rfl⟩ := h3
    simp [ChangeMaps.setBlock]
  refine hK w' L' ⟨_, _, cnt', r3, q1, hn, fun q hq => (q2 q).2 ⟨hs q hq, fun e => hpM (e ▸ hq)⟩, fun l => ?_⟩ q2 ?_ h3.grown hsz
  · simp only [Bool.and_eq_true, Bool.not_eq_true']
    constructor
    · rintro ⟨h1, _⟩
      exact (hl l).1 h1
    · rintro ⟨q, hq, rfl⟩
      exact ⟨(hl _).2 ⟨q, hq, rfl⟩, sameKey_ne fun e => hpM (T.lit_inj K (hr.ok q (hs q hq)) (hr.ok p hp) e ▸ hq)⟩
  · rw [r3.left_eq, hrg.left_eq]
    exact h2
end

/-! ### of this program -/
abbrev FSet (w : World) (b : Nat) (L : List FK) : Prop := FMap Try.prog fK 4 w b L (fun _ => .bool true)
theorem zeroB (w : World) : (zeroValue 4).run Try.prog w = .ok (.bool false) w := by kernel_rfl
theorem zeroI (w : World) : (zeroValue 3).run Try.prog w = .ok (.int .i64 0) w := by kernel_rfl
theorem val_bool {P : Program} {e : TypeId} (he : P.underlying e = some .bool) {c : Bool} {v : Value} {ps : List MemPlace} (h : plainElem (H := Empty) P e v = some (.lit (.bool c), ps)) : v = .bool c := by
  obtain ⟨x, rfl, e⟩ := plainElem_bool_inv he h
  injection e with e _
  injection e with e
  injection e with e
  rw [e]
theorem val_int {P : Program} {e : TypeId} (he : P.underlying e = some (.int .i64)) {z : Int} {v : Value} {ps : List MemPlace} (h : plainElem (H := Empty) P e v = some (.lit (.int .i64 z), ps)) : v = .int .i64 z := by
  obtain ⟨x, rfl, e, _⟩ := plainElem_int_inv he h
  injection e with e _
  injection e with e
  injection e with _ e
  rw [e]
theorem vv_bool (_ : FK) (v : Value) (ps : List MemPlace) (h : plainElem (H := Empty) Try.prog 4 v = some (.lit (.bool true), ps)) : v = .bool true := val_bool Try.underlying4 h
theorem vv_int (z : Int) (v : Value) (ps : List MemPlace) (h : plainElem (H := Empty) Try.prog 3 v = some (.lit (.int .i64 z), ps)) : v = .int .i64 z := val_int Try.underlying3 h
end Go.Proofs.Ytnejalefpenbfaa

/- The program's sets of factors: canHaveFactors, factors, followed, led. Conditions: lengths. -/
namespace Go.Proofs.Ytnejalefpenbfaa
open Go.RowKit

theorem implCanHave (s : ByteArray) (n : Int) (w : World) (hs : s.size ≤ 1048576) :
    Calls Try.prog 51 #[.string s, .int .i64 n] w fun e w' => e = .returned (.bool (fctOk s n)) ∧ Below w.heap.size w w' := by
  cases hw : wordB s
  · have HV : Hid (fctOk s n = false) := by show fctOk s n = false; unfold fctOk; rw [hw]; rfl
    have HW := Lib.hid hw
    clear hw
    go_enter Try.func51, Try.ntmps51
    go_wp2_with fail
    refine (implOk s _ hs).mono ?_
    rintro e w1 ⟨rfl, hb⟩
    have HB := Lib.hid hb
    rw [HW.out]
    clear hb
    go_wp2_with fail
    go_ret
    exact ⟨ret_bool HV.out.symm, HB.out⟩
  · have HV : Hid (fctOk s n = (decide (1 ≤ n) && decide (n ≤ 400))) := by show fctOk s n = _; unfold fctOk; rw [hw]; rfl
    have HW := Lib.hid hw
    clear hw
    by_cases h1 : 1 ≤ n
    · have d1 : decide ((1 : Int) ≤ n) = true := by simpa using h1
      go_enter Try.func51, Try.ntmps51
      go_wp2_with fail
      refine (implOk s _ hs).mono ?_
      rintro e w1 ⟨rfl, hb⟩
      have HB := Lib.hid hb
      rw [HW.out]
      clear hb
      go_wp2_with fail
      go_ret
      exact ⟨ret_bool (by rw [HV.out, d1]; simp), HB.out⟩
    · have d1 : decide ((1 : Int) ≤ n) = false := by simpa using h1
      go_enter Try.func51, Try.ntmps51
      go_wp2_with fail
      refine (implOk s _ hs).mono ?_
      rintro e w1 ⟨rfl, hb⟩
      have HB := Lib.hid hb
      rw [HW.out]
      clear hb
      go_wp2_with fail
      go_ret
      exact ⟨ret_bool (by rw [HV.out, d1]; simp), HB.out⟩

abbrev tSet : TypeId := 57
theorem uSet : Try.prog.underlying tSet = some (.map fK 4) := Try.underlying57

theorem build_f (s : ByteArray) (w : World) : (Instr.build 63 #[(0, .string s)]).run Try.prog w = .ok (.agg #[.string s, .int .u8 0]) w := run_build w _ _ _ (by kernel_rfl)
theorem build_fb (s : ByteArray) (z : Int) (w : World) : (Instr.build 63 #[(0, .string s), (1, .int .u8 z)]).run Try.prog w = .ok (.agg #[.string s, .int .u8 z]) w := run_build w _ _ _ (by kernel_rfl)
theorem fok_part (s : ByteArray) (hs : s.size ≤ 1048576) (i n : Nat) (z : Int) (h : 0 ≤ z ∧ z ≤ 255) : FOk (s.extract i (i + n), z) :=
  ⟨by show (s.extract i (i + n)).size ≤ maxLen; rw [ByteArray.size_extract]; unfold maxLen; omega, h⟩

/-- the keys of a set -/
def SetIs (L : List FK) (S : FK → Prop) : Prop := ∀ p, p ∈ L ↔ S p
def facS (s : ByteArray) (n i : Nat) (p : FK) : Prop := ∃ j, j < i ∧ p = (s.extract j (j + n), 0)
def folS (s : ByteArray) (n i : Nat) (p : FK) : Prop := ∃ j, j < i ∧ ∃ h : j + n < s.size, p = (s.extract j (j + n), (s[j + n].toNat : Int))
def ledS (s : ByteArray) (n i : Nat) (p : FK) : Prop := ∃ j, j < i ∧ ∃ h : j + n < s.size, p = (s.extract (j + 1) (j + 1 + n), ((s[j]'(by omega)).toNat : Int))
theorem set_empty {S : FK → Prop} (h : ∀ p, ¬ S p) : SetIs [] S := fun p => by simp [h p]
theorem set_next {L L' : List FK} {S S' : FK → Prop} {q : FK} (h : SetIs L S) (h' : ∀ p, p ∈ L' ↔ p = q ∨ p ∈ L) (hS : ∀ p, S' p ↔ p = q ∨ S p) : SetIs L' S' := fun p => by rw [h', h p, hS p]
theorem facS_zero (s : ByteArray) (n : Nat) (p : FK) : ¬ facS s n 0 p := by rintro ⟨j, h, _⟩; omega
theorem folS_zero (s : ByteArray) (n : Nat) (p : FK) : ¬ folS s n 0 p := by rintro ⟨j, h, _⟩; omega
theorem ledS_zero (s : ByteArray) (n : Nat) (p : FK) : ¬ ledS s n 0 p := by rintro ⟨j, h, _⟩; omega
theorem facS_next (s : ByteArray) (n i : Nat) (p : FK) : facS s n (i + 1) p ↔ p = (s.extract i (i + n), 0) ∨ facS s n i p := by
  constructor
  · rintro ⟨j, h, e⟩
    by_cases hj : j = i
    · subst hj; exact .inl e
    · exact .inr ⟨j, by omega, e⟩
  · rintro (e | ⟨j, h, e⟩)
    · exact ⟨i, by omega, e⟩
    · exact ⟨j, by omega, e⟩
theorem folS_next (s : ByteArray) (n i : Nat) (hin : i + n < s.size) (p : FK) : folS s n (i + 1) p ↔ p = (s.extract i (i + n), (s[i + n].toNat : Int)) ∨ folS s n i p := by
  constructor
  · rintro ⟨j, h, e⟩
    by_cases hj : j = i
    · subst hj; exact .inl e.2
    · exact .inr ⟨j, by omega, e⟩
  · rintro (e | ⟨j, h, e⟩)
    · exact ⟨i, by omega, hin, e⟩
    · exact ⟨j, by omega, e⟩
theorem ledS_next (s : ByteArray) (n i : Nat) (hin : i + n < s.size) (p : FK) : ledS s n (i + 1) p ↔ p = (s.extract (i + 1) (i + 1 + n), ((s[i]'(by omega)).toNat : Int)) ∨ ledS s n i p := by
  constructor
  · rintro ⟨j, h, e⟩
    by_cases hj : j = i
    · subst hj; exact .inl e.2
    · exact .inr ⟨j, by omega, e⟩
  · rintro (e | ⟨j, h, e⟩)
    · exact ⟨i, by omega, hin, e⟩
    · exact ⟨j, by omega, e⟩

set_option maxHeartbeats 400000 in
theorem implFactors (s : ByteArray) (n : Nat) (w : World) (hs : s.size ≤ 400) (h1 : 1 ≤ n) (h8 : n ≤ 1000) :
    Calls Try.prog 52 #[.string s, .int .i64 n] w fun e w' => ∃ L, e = .returned (.map (some w.heap.size)) ∧ FSet w' w.heap.size L ∧ SetIs L (facS s n (s.size + 1 - n)) ∧ L.length ≤ 400 ∧ Below w.heap.size w w' := by
  have hmm := @run_makeMap Try.prog
  have hbf := build_f
  go_enter Try.func52, Try.ntmps52
  go_wp2_with fail
  go_loopw [13] (fun ix w' => ∃ (i : Nat) (L : List FK), i ≤ s.size + 1 - n ∧ ix = .int .i64 (i : Int) ∧ FSet w' w.heap.size L ∧ SetIs L (facS s n i) ∧ L.length ≤ i ∧ Below w.heap.size w w') (fun ix _ => s.size + 1 - n - (intOf ix).toNat)
  case atStart => exact ⟨0, [], by omega, rfl, FMap.made w _, set_empty (facS_zero s n), Nat.le_refl _, (Below.refl _ _).alloc (Nat.le_refl _) _⟩
  case round =>
    obtain ⟨i, L, hi, rfl, hF, hL, hl, hb⟩ := hrel
    have HF := Lib.hid hF
    have HL := Lib.hid hL
    have HB := Lib.hid hb
    clear hF hL hb
    by_cases hlt : i < s.size + 1 - n
    · have dlt : (i : Int) < (s.size : Int) - (n : Int) + 1 := by omega
      have hsl : ∀ w : World, (Instr.slice 37 (.string s) (some (.int .i64 (i : Int))) (some (.int .i64 ((i : Int) + (n : Int)))) none).run Try.prog w = .ok (.string (s.extract i (i + n))) w := fun w => slice_at Try.underlying37 s i n w (by omega)
      go_wp2_with (at_mapUpdate; refine wp_put _ rfl _ _ _ tSet rfl fT fk_law uSet w.heap.size L (fun _ => .bool true) rfl HF.out (by unfold maxLen; omega) (s.extract i (i + n), 0) (.bool true) rfl rfl (fok_part s (by omega) i n 0 (by omega)) (fun _ => .bool true) (fun _ _ _ => rfl) (plainElem_bool Try.underlying4 true) ?_; intro w2 L2 hF2 hm2 hl2 hg2 hs2)
      go_roundw
      case rel =>
        exact ⟨i + 1, L2, by omega, by go_num, hF2, set_next HL.out hm2 (facS_next s n i), by omega, HB.out.grown hg2 HB.out.size (fun k hk => by injection hk with hk; omega)⟩
      case measure => simp [intOf]; omega
    · have hii : i = s.size + 1 - n := by omega
      have dlt : ¬ (i : Int) < (s.size : Int) - (n : Int) + 1 := by omega
      go_wp2_with fail
      go_ret
      exact ⟨rfl, L, HF.out, by rw [← hii]; exact HL.out, by omega, HB.out⟩

end Go.Proofs.Ytnejalefpenbfaa

/- Columns, products and marks of the program's squares. -/
namespace Go.Proofs.Ytnejalefpenbfaa
open Go.RowKit
/-- the sum of the first j products of row i of the square and the column -/
def dotF (f : Nat → Nat → Int) (c : Nat → Int) (i : Nat) : Nat → Int
  | 0 => 0
  | j + 1 => dotF f c i j + f i j * c j
/-- each number of the square from -100 to 100, each of the column of at most 10^13 -/
def Small (f : Nat → Nat → Int) (c : Nat → Int) : Prop := ∀ i j, i < 4 → j < 4 → -1000000000000000 ≤ f i j * c j ∧ f i j * c j ≤ 1000000000000000
theorem dotF_small {f : Nat → Nat → Int} {c : Nat → Int} (h : Small f c) (i : Nat) (hi : i < 4) : ∀ j : Nat, j ≤ 4 → -((j : Int) * 1000000000000000) ≤ dotF f c i j ∧ dotF f c i j ≤ (j : Int) * 1000000000000000
  | 0, _ => by simp [dotF]
  | j + 1, hj => by
    have ih := dotF_small h i hi j (by omega)
    have := h i j hi (by omega)
    unfold dotF
    omega
/-- the result's cells while row i is at column j -/
def dotR (f : Nat → Nat → Int) (c : Nat → Int) (i j : Nat) : Nat → Int := fun a => if a < i then dotF f c a 4 else if a = i then dotF f c i j else 0
theorem dotR_at (f : Nat → Nat → Int) (c : Nat → Int) (i j : Nat) : dotR f c i j i = dotF f c i j := by simp [dotR]
theorem dotR_succ (f : Nat → Nat → Int) (c : Nat → Int) (i j : Nat) : upd1 (dotR f c i j) i (dotF f c i j + f i j * c j) = dotR f c i (j + 1) := by
  funext a
  unfold upd1 dotR
  by_cases h : a = i
  · subst h; simp [dotF]
  · simp [h]
theorem dotR_next (f : Nat → Nat → Int) (c : Nat → Int) (i : Nat) : dotR f c i 4 = dotR f c (i + 1) 0 := by
  funext a
  unfold dotR
  by_cases h : a < i
  · rw [if_pos h, if_pos (by omega)]
  · by_cases h2 : a = i
    · subst h2; simp
    · rw [if_neg h, if_neg h2, if_neg (by omega)]
      split <;> rfl

end Go.Proofs.Ytnejalefpenbfaa
