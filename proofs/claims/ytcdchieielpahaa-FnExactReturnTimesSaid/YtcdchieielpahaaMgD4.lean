/- Texts put together. -/
import Derived.Test.YtcdchieielpahaaMgD3
import Derived.Deep.Matrix
import Derived.Test.YtcdchieielpahaaMgD1
import Derived.Deep.RegionLaw
import Derived.OwnWalk
/- markIntSS and heldIntSS: numbers laid into the rows of a matrix of the call's own, and found there again. -/
namespace Go.Proofs.Ytcdchieielpahaa
open Go.RowKit

/-- consecutive numbers from k on, in rows of these lengths -/
def marksM (k : Int) : List Nat → List (List Int)
  | [] => []
  | n :: ns => upto k n :: marksM (k + n) ns
def sumN (ns : List Nat) : Nat := ns.sum
theorem marksM_length (ns : List Nat) : ∀ k, (marksM k ns).length = ns.length := by
  induction ns with
  | nil => intro k; rfl
  | cons n ns ih => intro k; simp [marksM, ih]
theorem marksM_at (ns : List Nat) : ∀ (k : Int) (i : Nat) (h : i < ns.length), (marksM k ns)[i]'(by rw [marksM_length]; exact h) = upto (k + sumN (ns.take i)) ns[i] := by
  induction ns with
  | nil => intro k i h; simp at h
  | cons n ns ih =>
    intro k i h
    cases i with
    | zero => simp [marksM, sumN]
    | succ i =>
      have := ih (k + n) i (by simpa using h)
      simp only [marksM, List.getElem_cons_succ, List.take_succ_cons, sumN, List.sum_cons] at this ⊢
      rw [this]
      congr 1
      omega
theorem sumN_take (ns : List Nat) (i : Nat) (h : i < ns.length) : sumN (ns.take (i + 1)) = sumN (ns.take i) + ns[i] := by
  unfold sumN
  rw [List.take_succ_eq_append_getElem h, List.sum_append]
  simp
theorem sumN_take_le (ns : List Nat) (i : Nat) : sumN (ns.take i) ≤ sumN ns := by
  unfold sumN
  conv => rhs; rw [← List.take_append_drop i ns, List.sum_append]
  omega

/-- w' is w with new blocks, and writes to blocks from lo to hi alone -/
def KeepsOut (lo hi : Nat) (w w' : World) : Prop :=
  w'.os = w.os ∧ w'.tape = w.tape ∧ w'.output = w.output ∧ w.heap.size ≤ w'.heap.size ∧ ∀ i, i < w.heap.size → (i < lo ∨ hi ≤ i) → w'.heap[i]? = w.heap[i]?
theorem KeepsOut.refl (lo hi : Nat) (w : World) : KeepsOut lo hi w w := ⟨rfl, rfl, rfl, Nat.le_refl _, fun _ _ _ => rfl⟩
theorem KeepsOut.trans {lo hi : Nat} {a b c : World} (h : KeepsOut lo hi a b) (k : KeepsOut lo hi b c) : KeepsOut lo hi a c :=
  ⟨k.1.trans h.1, k.2.1.trans h.2.1, k.2.2.1.trans h.2.2.1, Nat.le_trans h.2.2.2.1 k.2.2.2.1, fun i hi ho => (k.2.2.2.2 i (Nat.lt_of_lt_of_le hi h.2.2.2.1) ho).trans (h.2.2.2.2 i hi ho)⟩
theorem KeepsOut.of_grown {lo hi : Nat} {w w' : World} {row : Option Nat} (h : w.grownBy w' row) (hr : ∀ k, row = some k → lo ≤ k ∧ k < hi) : KeepsOut lo hi w w' :=
  ⟨h.os, h.tape, h.output, h.size, fun i hi ho => h.block i hi (fun e => by have := hr i e.symm; omega)⟩
theorem KeepsOut.below {lo hi B : Nat} {a w w' : World} (h : Below B a w) (k : KeepsOut lo hi w w') (hB : B ≤ w.heap.size) (hl : B ≤ lo) : Below B a w' :=
  ⟨k.1.trans h.os, k.2.1.trans h.tape, k.2.2.1.trans h.output, Nat.le_trans h.size k.2.2.2.1, fun i hi => (k.2.2.2.2 i (by omega) (.inl (by omega))).trans (h.block i hi)⟩
theorem KeepsOut.own {lo hi B n size : Nat} {w w' : World} {e : TypeId} {v : Value} {xs : List Value} (h : w.ownsRow B e size v n xs) (k : KeepsOut lo hi w w') (hne : ∀ j, v.ownBlock = some j → j < lo ∨ hi ≤ j) : w'.ownsRow B e size v n xs := by
  refine ⟨h.1, h.2.imp id ?_⟩
  rintro ⟨g, cap, cur, rfl, h2, h3, h4⟩
  refine ⟨g, cap, cur, rfl, h2, ?_, h4⟩
  rw [k.2.2.2.2 g (Array.getElem?_eq_some_iff.1 h3).1 (hne g rfl)]
  exact h3

end Go.Proofs.Ytcdchieielpahaa

/- szIntSS: a bound on all that a slice of slices of ints holds. -/
namespace Go.Proofs.Ytcdchieielpahaa
open Go.ChangeShapes Go.WideShapes Go.RowKit

def lens (m : List (List Int)) : List Nat := m.map List.length
theorem lens_at (m : List (List Int)) (j : Nat) (h : j < m.length) (h' : j < (lens m).length) : (lens m)[j] = m[j].length := by simp [lens]
/-- what szIntSS says -/
def SzMat (m : List (List Int)) (left : Int) (w : World) (e : Ending) (w' : World) : Prop :=
  w = w' ∧ ∃ r : Int, e = .returned (.int .i64 r) ∧ -1 ≤ r ∧ r ≤ left ∧ (0 ≤ r → (m.length : Int) + sumN (lens m) + r = left)
theorem szI_neg {left : Int} {n : Nat} (h : left < n) : szI left n = -1 := if_pos h
theorem szI_pos {left : Int} {n : Nat} (h : ¬ left < n) : szI left n = left - n := if_neg h

/-- a slice of slices of ints that came in, opened -/
theorem mat_cell {H : Type} {enc : TypeId × Value → H} {P : Program} {w : World} {base fuel : Nat} {t e q : TypeId} {v : Value} {y : DataW H × List MemPlace} (ht : P.underlying t = some (.slice e)) (he : P.underlying e = some (.slice q)) (hq : P.underlying q = some (.int .i64)) (ce : P.cellsOf e = 1) (cq : P.cellsOf q = 1)
    (hf : DataW.trod enc P w base (fun _ => true) true fuel t [v] = some y) : ∃ m : List (List Int), Mat w v m ∧ (∀ r ∈ m, ∀ z ∈ r, (Lit.int .i64 z).wf = true) ∧ m.length ≤ 9223372036854775807 := by
  rcases Deep.open_int_rows ht he hq ce cq hf with ⟨hcs, _⟩ | ⟨a, len, cap, A, L, C, Z, hcs, _, hl, hm, _, hrow⟩
  · simp at hcs
    subst hcs
    exact ⟨[], ⟨[], ⟨none, 0, by simp, by simp, by simp [maxLen], .inl rfl⟩, rfl, fun i h => absurd h (by simp)⟩, by simp, by simp⟩
  · simp at hcs
    subst hcs
    have hml : ((List.range len).map fun r => (Z r).take (L r)).length = len := by simp
    refine ⟨(List.range len).map fun r => (Z r).take (L r), ⟨(List.range len).map fun r => Value.slice (A r) (L r) (C r), ?_, by simp, fun i h h' => ?_⟩, fun r hr z hz => ?_, by simp; unfold maxLen at hm; omega⟩
    · refine ⟨some a, cap, by simp, by simpa using hl, hm, ?_⟩
      by_cases h0 : len = 0
      · subst h0
        exact .inl (by simp)
      · obtain ⟨b, off, spot⟩ := a
        have h1 := (hrow 0 (by omega)).1
        have hspot : spot = none := by simpa [Addr.add] using World.cell?_spot h1
        subst hspot
        refine .inr ⟨b, off, rfl, fun i u hu => ?_⟩
        have hi : i < len := by
          have := (List.getElem?_eq_some_iff.1 hu).1
          simpa using this
        have h2 := (hrow i (by omega)).1
        rw [Addr.add_lit] at h2
        rw [h2]
        simp [hi] at hu
        rw [hu]
    · have hi : i < len := by simpa using h'
      obtain ⟨_, hLC, hCm, hZ, _, hAn, hcell⟩ := hrow i (by omega)
      simp only [List.getElem_map, List.getElem_range]
      refine ⟨A i, C i, by simp [ints, hZ, Nat.min_eq_left hLC], by simp [ints, hZ, Nat.min_eq_left hLC]; exact hLC, hCm, ?_⟩
      by_cases h0 : L i = 0
      · exact .inl (by simp [ints, h0])
      · rcases hA : A i with _ | ⟨b, off, spot⟩
        · have := hAn hA
          omega
        · have h1 := (hcell _ hA).2 0 (by omega)
          have hspot : spot = none := by simpa [Addr.add] using World.cell?_spot h1
          subst hspot
          refine .inr ⟨b, off, rfl, fun c u hu => ?_⟩
          have hc : c < L i := by
            have := (List.getElem?_eq_some_iff.1 hu).1
            simp [ints, hZ, Nat.min_eq_left hLC] at this
            omega
          have h2 := (hcell _ hA).2 c (by omega)
          rw [Addr.add_lit] at h2
          rw [h2]
          simp [ints, hc] at hu
          obtain ⟨x, hx, rfl⟩ := hu
          simp [List.getD, hx]
    · obtain ⟨i, hi, rfl⟩ := List.mem_map.1 hr
      have hi' : i < len := by simpa using hi
      exact (hrow i (by omega)).2.2.2.2.1 z (List.mem_of_mem_take hz)
end Go.Proofs.Ytcdchieielpahaa

/- append to a row of the call's own, as one step of a region that draws its order. No program in it. -/
namespace Go.Proofs.Ytcdchieielpahaa
open Go.RowKit

theorem step_own {P : Program} {ops : Array Oper} {o : Oper} {a : Act} {w : World} {K : Act → World → Prop} {Q : Exit → Act → World → Prop} {E : Prop}
    (hg : o.guard = none) (s x : Operand) (t : TypeId) (hop : o.op = Op.call { callee := Callee.builtin Builtin.append, args := #[s, x], argTypes := #[t, t] })
    (base : Nat) (e : TypeId) (i : TypeInfo) (z : Value) (bytes : Nat) (h1 : P.underlying t = some (.slice e)) (h2 : P.info? e = some i) (h3 : i.zero = some z) (h4 : i.size = 1) (h5 : i.bytes = bytes) (h6 : z.cells.size = 1)
    (v : Value) (n : Nat) (xs : List Value) (hs : a.eval s = v) (hown : w.ownsRow base e 1 v n xs)
    (ad : Addr) (m c : Nat) (news : List Value) (hx : a.eval x = .slice (some ad) m c) (hn : news.length = m) (hc : ∀ j u, news[j]? = some u → w.cell? (ad.add j) = some u) (h1c : ∀ u ∈ news, u.oneCell' = true)
    (b1 : n + m ≤ maxLen) (b2 : (n + m) * bytes ≤ 140737488355328) (hb : base ≤ w.heap.size)
    (hK : ∀ v' w', w'.ownsRow base e 1 v' (n + m) (xs ++ news) → Below base w w' → K (a.put o.dst v') w') :
    if Region.wanted o (yielded ops a.tmps) = true then Oper.wp P o a w K Q else E := by
  have hw : Region.wanted o (yielded ops a.tmps) = true := by simp [Region.wanted, hg]
  rw [if_pos hw]
  obtain ⟨v', w', hrun, r1, r2, _⟩ := run_append_own (P := P) w base t o.type e i z 1 bytes h1 h2 h3 h4 h5 h6 (by decide) v n xs hown ad m c news (by rw [hn, Nat.mul_one]) hc h1c b1 b2 hb
  unfold Oper.wp
  simp [execOp, hop, resolve, invoke, builtin, hs, hx, hrun, Result.andThen]
  exact hK v' w' r1 ((Below.refl _ _).grown r2 hb (fun k hk => (hown.lt k hk).1))
end Go.Proofs.Ytcdchieielpahaa

/- A slice of slices of ints that the call builds by append, row by row. -/
namespace Go.Proofs.Ytcdchieielpahaa
open Go.RowKit

theorem own_ne {w : World} {B B' : Nat} {e e' : TypeId} {v v' : Value} {n n' : Nat} {xs xs' : List Value} (h : w.ownsRow B e 1 v n xs) (h' : w.ownsRow B' e' 1 v' n' xs') (hne : e ≠ e') (k : Nat) (hk : v.ownBlock = some k) (hk' : v'.ownBlock = some k) : False := by
  rcases h.2 with ⟨rfl, _⟩ | ⟨g, cap, cur, rfl, _, hg, _⟩
  · simp [Value.ownBlock] at hk
  · rcases h'.2 with ⟨rfl, _⟩ | ⟨g', cap', cur', rfl, _, hg', _⟩
    · simp [Value.ownBlock] at hk'
    · simp only [Value.ownBlock, Option.some.injEq] at hk hk'
      subst hk; subst hk'
      rw [hg] at hg'
      injection hg' with hg'
      injection hg' with _ he
      exact hne he

theorem RowsTo.grown {w w' : World} {B : Nat} {us : List Value} {m : List (List Int)} {row : Option Nat} (h : RowsTo w B us m) (hg : w.grownBy w' row) (hne : ∀ i (hi : i < us.length) k, us[i].ownBlock = some k → row = some k → False) : RowsTo w' B us m :=
  ⟨h.1, fun i a b => own_apart (h.2.1 i a b) hg (hne i a), h.2.2⟩

/-- the rows that have been appended -/
def GrowMat (w : World) (B : Nat) (o : Value) (us : List Value) (m : List (List Int)) : Prop :=
  w.ownsRow B 22 1 o us.length us ∧ RowsTo w B us m
theorem GrowMat.below {w w' : World} {B : Nat} {o : Value} {us : List Value} {m : List (List Int)} (h : GrowMat w B o us m) (hb : Below w.heap.size w w') : GrowMat w' B o us m := ⟨own_below h.1 hb, h.2.below hb⟩
theorem GrowMat.drewN {w : World} {B : Nat} {o : Value} {us : List Value} {m : List (List Int)} (h : GrowMat w B o us m) (n : Nat) : GrowMat (w.drewN n) B o us m := h
/-- one row more -/
theorem GrowMat.snoc {w w1 w2 : World} {B : Nat} {o o' u : Value} {us : List Value} {m : List (List Int)} (h : GrowMat w B o us m) (hb : Below w.heap.size w w1) (hB : B ≤ w.heap.size) (hk : us.length < m.length)
    (hu : w1.ownsRow w.heap.size 3 1 u m[us.length].length (ints m[us.length]))
    (ho : w2.ownsRow B 22 1 o' (us.length + 1) (us ++ [u])) (hg : w1.grownBy w2 o.ownBlock) : GrowMat w2 B o' (us ++ [u]) m := by
  have h1 := h.2.snoc hb hB hk hu
  have h2 := own_below h.1 hb
  refine ⟨by simpa using ho, h1.grown hg (fun i hi k e1 e2 => ?_)⟩
  exact own_ne (h1.2.1 i hi (by have := h1.1; omega)) h2 (by decide) k e1 e2
/-- all rows are there -/
theorem GrowMat.own {w : World} {B : Nat} {o : Value} {us : List Value} {m : List (List Int)} (h : GrowMat w B o us m) (hl : us.length = m.length) : OwnMat w B w.heap.size o m := by
  obtain ⟨h1, h2⟩ := h
  refine ⟨22, us, hl, by rw [← hl]; exact h1, fun i a b => ⟨3, h2.2.1 i a b⟩, h2.2.2, fun i a k e => ⟨fun h' => ?_, ((h2.2.1 i a (by omega)).lt k e).2⟩, fun k e => (h1.lt k e).2⟩
  exact own_ne (h2.2.1 i a (by omega)) h1 (by decide) k e h'

/-- append of one element that the walk has just laid; the row alone has turned -/
theorem wpList_append1g {P : Program} (w : World) {ops : Array Oper} {rest : List Oper} {o : Oper} {a : Act} {Q : Exit → Act → World → Prop} (hgd : o.guard = none) (s x : Operand) (t : TypeId)
    (ho : o.op = .call { callee := .builtin .append, args := #[s, x], argTypes := #[t, t] })
    (base : Nat) (e : TypeId) (i : TypeInfo) (z : Value) (bytes : Nat) (ht : P.underlying t = some (.slice e)) (hi : P.info? e = some i) (hz : i.zero = some z)
    (hsize : i.size = 1) (hby : i.bytes = bytes) (hzs : z.cells.size = 1)
    (v : Value) (n : Nat) (xs : List Value) (hs : a.eval s = v) (hown : w.ownsRow base e 1 v n xs)
    (y : Value) (hy : y.oneCell' = true) (hx : a.eval x = .slice (some ⟨w.heap.size, 0, none⟩) 1 1)
    (h63 : n + 1 ≤ maxLen) (hbytes : (n + 1) * bytes ≤ 140737488355328) (hbase : base ≤ w.heap.size)
    (h : ∀ v' w', w'.ownsRow base e 1 v' (n + 1) (xs ++ [y]) → w.grownBy w' v.ownBlock → wpList P ops Q rest (a.put o.dst v') w') :
    wpList P ops Q (o :: rest) a (w.alloc (.cells #[y] e)) := by
  refine wpList_append_own _ hgd s x t ho base e i z 1 bytes ht hi hz hsize hby hzs (by decide) v n xs hs (hown.alloc _) ⟨w.heap.size, 0, none⟩ 1 1 [y] hx rfl ?_ ?_ h63 hbytes (by simp; omega) ?_
  · intro j u hu
    rcases j with _ | j
    · simp at hu
      subst hu
      rw [Addr.add_lit, World.cell?_alloc_at _ _ _ _ (by simp)]
      rfl
    · simp at hu
  · intro u hu
    simp at hu
    subst hu
    exact hy
  · intro v' w' h1 h2 _
    exact h v' w' h1 (grown_trans (World.grownBy_alloc _ _ _) h2)

theorem OwnMat.nil (w : World) (B S : Nat) : OwnMat w B S (.slice none 0 0) [] :=
  ⟨22, [], rfl, World.ownsRow_nil _ _ _ _, fun i h => absurd h (by simp), fun i j h => absurd h (by simp), fun i h => absurd h (by simp), fun k hk => by cases hk⟩
/-- what is written into other blocks does not reach it -/
theorem OwnMat.keeps {w w' : World} {B S lo hi : Nat} {v : Value} {m : List (List Int)} (h : OwnMat w B S v m) (k : KeepsOut lo hi w w') (hne : hi ≤ B) : OwnMat w' B S v m := by
  obtain ⟨t0, vs, h1, h2, h3, h4⟩ := h
  exact ⟨t0, vs, h1, KeepsOut.own h2 k (fun j hj => .inr (by have := (h2.lt j hj).1; omega)), fun i a b => by obtain ⟨te, h⟩ := h3 i a b; exact ⟨te, KeepsOut.own h k (fun j hj => .inr (by have := (h.lt j hj).1; omega))⟩, h4⟩

/-- append to a row of the call's own, as one step of a region that draws; the row alone turns -/
theorem step_own_g {P : Program} {ops : Array Oper} {o : Oper} {a : Act} {w : World} {K : Act → World → Prop} {Q : Exit → Act → World → Prop} {E : Prop}
    (hg : o.guard = none) (s x : Operand) (t : TypeId) (hop : o.op = Op.call { callee := Callee.builtin Builtin.append, args := #[s, x], argTypes := #[t, t] })
    (base : Nat) (e : TypeId) (i : TypeInfo) (z : Value) (bytes : Nat) (h1 : P.underlying t = some (.slice e)) (h2 : P.info? e = some i) (h3 : i.zero = some z) (h4 : i.size = 1) (h5 : i.bytes = bytes) (h6 : z.cells.size = 1)
    (v : Value) (n : Nat) (xs : List Value) (hs : a.eval s = v) (hown : w.ownsRow base e 1 v n xs)
    (ad : Addr) (m c : Nat) (news : List Value) (hx : a.eval x = .slice (some ad) m c) (hn : news.length = m) (hc : ∀ j u, news[j]? = some u → w.cell? (ad.add j) = some u) (h1c : ∀ u ∈ news, u.oneCell' = true)
    (b1 : n + m ≤ maxLen) (b2 : (n + m) * bytes ≤ 140737488355328) (hb : base ≤ w.heap.size)
    (hK : ∀ v' w', w'.ownsRow base e 1 v' (n + m) (xs ++ news) → w.grownBy w' v.ownBlock → K (a.put o.dst v') w') :
    if Region.wanted o (yielded ops a.tmps) = true then Oper.wp P o a w K Q else E := by
  have hw : Region.wanted o (yielded ops a.tmps) = true := by simp [Region.wanted, hg]
  rw [if_pos hw]
  obtain ⟨v', w', hrun, r1, r2, _⟩ := run_append_own (P := P) w base t o.type e i z 1 bytes h1 h2 h3 h4 h5 h6 (by decide) v n xs hown ad m c news (by rw [hn, Nat.mul_one]) hc h1c b1 b2 hb
  unfold Oper.wp
  simp [execOp, hop, resolve, invoke, builtin, hs, hx, hrun, Result.andThen]
  exact hK v' w' r1 r2
theorem own_made0 (w : World) (B : Nat) (e : TypeId) (hB : B ≤ w.heap.size) : (w.alloc (.cells #[] e)).ownsRow B e 1 (.slice (some ⟨w.heap.size, 0, none⟩) 0 0) 0 [] :=
  World.ownsRow_made (e := e) (size := 1) w #[] 0 hB (by simp [maxLen]) (by simp)
theorem sizeOf_int (w : World) : (sizeOf (Try.prog.elem 22)).run Try.prog w = .ok 1 w := by kernel_rfl
/-- s[k:] -/
theorem slice_from {P : Program} {t e : TypeId} (ht : P.underlying t = some (.slice e)) (hz : ∀ w, (sizeOf (P.elem t)).run P w = .ok 1 w) (b off n cap k : Nat) (hk : k ≤ n) (hn : n ≤ cap) : ∃ X, (∀ w, (Instr.slice t (.slice (some ⟨b, off, none⟩) n cap) (some (.int .i64 (k : Int))) none none).run P w = .ok (.slice (some X) (n - k) (cap - k)) w) ∧ (k < n → X = ⟨b, off + k, none⟩) := by
  have ht' : P.underlying t = some (.slice (P.elem t)) := by
    have : P.elem t = e := by simp [Program.elem, ht]
    rw [this]; exact ht
  refine ⟨if cap = k then ⟨b, off, none⟩ else (⟨b, off, none⟩ : Addr).add (k * 1), fun w => ?_, fun h => ?_⟩
  · rw [run_slice_l (P := P) w t _ _ _ ht' .i64 k (by omega) (by omega), hz w]
    simp only [Result.andThen, sliced, Int.toNat_natCast]
    by_cases hc : cap = k
    · rw [if_pos hc, if_pos hc]
    · rw [if_neg hc, if_neg hc]
      rfl
  · rw [if_neg (by omega), Nat.mul_one, Addr.add_lit]
/-- s[:k] -/
theorem slice_upto {P : Program} {t e : TypeId} (ht : P.underlying t = some (.slice e)) (hz : ∀ w, (sizeOf (P.elem t)).run P w = .ok 1 w) (b off n cap k : Nat) (hk : k ≤ n) (hn : n ≤ cap) : ∃ X, (∀ w, (Instr.slice t (.slice (some ⟨b, off, none⟩) n cap) none (some (.int .i64 (k : Int))) none).run P w = .ok (.slice (some X) k cap) w) ∧ X = ⟨b, off, none⟩ := by
  have ht' : P.underlying t = some (.slice (P.elem t)) := by
    have : P.elem t = e := by simp [Program.elem, ht]
    rw [this]; exact ht
  refine ⟨⟨b, off, none⟩, fun w => ?_, rfl⟩
  rw [run_slice_h (P := P) w t _ _ _ ht' .i64 k (by omega) (by omega), hz w]
  simp only [Result.andThen, sliced, Int.toNat_natCast]
  by_cases hc : cap = 0
  · rw [if_pos hc]; simp
  · rw [if_neg hc]
    simp [Addr.add]
end Go.Proofs.Ytcdchieielpahaa
