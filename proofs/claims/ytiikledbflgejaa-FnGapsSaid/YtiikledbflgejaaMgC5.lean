/- Texts put together. -/
import Derived.Test.YtiikledbflgejaaMgC4
import Derived.Deep.RegionWith
import Derived.Test.YtiikledbflgejaaMgC3
import Derived.Deep.RegionLaw
/- Slices of slices of ints: what they read as; eqIntSS. -/
namespace Go.Proofs.Ytiikledbflgejaa
open Go.RowKit

/-- v is a slice whose elements are slices that read as the rows of m -/
def Mat (w : World) (v : Value) (m : List (List Int)) : Prop :=
  ∃ vs : List Value, Lst w v vs ∧ vs.length = m.length ∧ ∀ i (h : i < vs.length) (h' : i < m.length), Lst w vs[i] (ints m[i])
theorem Mat.below {w w' : World} {v : Value} {m : List (List Int)} (h : Mat w v m) (hb : Below w.heap.size w w') : Mat w' v m := by
  obtain ⟨vs, h1, h2, h3⟩ := h
  exact ⟨vs, h1.below hb, h2, fun i a b => (h3 i a b).below hb⟩
theorem Mat.drewN {w : World} {v : Value} {m : List (List Int)} (h : Mat w v m) (n : Nat) : Mat (w.drewN n) v m := h
theorem mat_slice {w : World} {v : Value} {m : List (List Int)} (h : Mat w v m) : ∃ A cap, v = .slice A m.length cap := by
  obtain ⟨vs, h1, h2, _⟩ := h
  obtain ⟨A, cap, e⟩ := lst_slice h1
  exact ⟨A, cap, by rw [e, h2]⟩
/-- the rows of a matrix in memory -/
theorem mat_rows {w : World} {v : Value} {m : List (List Int)} (h : Mat w v m) (h0 : 0 < m.length) : ∃ b off cap, v = .slice (some ⟨b, off, none⟩) m.length cap ∧ m.length ≤ cap ∧ cap ≤ maxLen ∧ ∀ k (hk : k < m.length), ∃ u, w.cell? ⟨b, off + k, none⟩ = some u ∧ Lst w u (ints m[k]) := by
  obtain ⟨vs, ⟨A, cap, e, hc1, hc2, h2⟩, h3, h4⟩ := h
  rcases h2 with h2 | ⟨b, off, rfl, h2⟩
  · rw [h2] at h3
    simp only [List.length_nil] at h3
    omega
  · refine ⟨b, off, cap, by rw [e, h3], by omega, hc2, fun k hk => ?_⟩
    have hk' : k < vs.length := by omega
    exact ⟨vs[k], h2 k _ (List.getElem?_eq_getElem hk'), h4 k hk' hk⟩

end Go.Proofs.Ytiikledbflgejaa

/- Slices of slices of ints that the call has made: toIntSS copies, szIntSS bounds. -/
namespace Go.Proofs.Ytiikledbflgejaa
open Go.RowKit

/-- v is a slice of the call's own, in blocks from B to S, whose elements are rows of the call's own, each by itself -/
def OwnMat (w : World) (B S : Nat) (v : Value) (m : List (List Int)) : Prop :=
  ∃ (t0 : TypeId) (vs : List Value), vs.length = m.length ∧ w.ownsRow B t0 1 v m.length vs ∧
    (∀ i (h : i < vs.length) (h' : i < m.length), ∃ te, w.ownsRow B te 1 vs[i] m[i].length (ints m[i])) ∧
    (∀ i j (hi : i < vs.length) (hj : j < vs.length) k, vs[i].ownBlock = some k → vs[j].ownBlock = some k → i = j) ∧
    (∀ i (hi : i < vs.length) k, vs[i].ownBlock = some k → v.ownBlock ≠ some k ∧ k < S) ∧ (∀ k, v.ownBlock = some k → k < S)
theorem OwnMat.mat {w : World} {B S : Nat} {v : Value} {m : List (List Int)} (h : OwnMat w B S v m) : Mat w v m := by
  obtain ⟨t0, vs, h1, h2, h3, _⟩ := h
  exact ⟨vs, Lst.of_own h2, h1, fun i a b => by obtain ⟨te, h⟩ := h3 i a b; exact Lst.of_own h⟩
theorem OwnMat.below {w w' : World} {B S : Nat} {v : Value} {m : List (List Int)} (h : OwnMat w B S v m) (hb : Below w.heap.size w w') : OwnMat w' B S v m := by
  obtain ⟨t0, vs, h1, h2, h3, h4⟩ := h
  exact ⟨t0, vs, h1, own_below h2 hb, fun i a b => by obtain ⟨te, h⟩ := h3 i a b; exact ⟨te, own_below h hb⟩, h4⟩
theorem OwnMat.drewN {w : World} {B S : Nat} {v : Value} {m : List (List Int)} (h : OwnMat w B S v m) (n : Nat) : OwnMat (w.drewN n) B S v m := h
theorem OwnMat.mono {w : World} {B B' S : Nat} {v : Value} {m : List (List Int)} (h : OwnMat w B S v m) (hb : B' ≤ B) : OwnMat w B' S v m := by
  obtain ⟨t0, vs, h1, h2, h3, h4⟩ := h
  exact ⟨t0, vs, h1, own_mono h2 hb, fun i a b => by obtain ⟨te, h⟩ := h3 i a b; exact ⟨te, own_mono h hb⟩, h4⟩
theorem ints_info : (Try.prog.info? 24).map (fun i => (i.zero, i.size, i.bytes)) = some (some (.slice none 0 0), 1, 24) := by kernel_rfl

/-- the rows that have been laid -/
def RowsTo (w : World) (B : Nat) (us : List Value) (m : List (List Int)) : Prop :=
  us.length ≤ m.length ∧ (∀ i (h : i < us.length) (h' : i < m.length), w.ownsRow B 3 1 us[i] m[i].length (ints m[i])) ∧
    (∀ i j (hi : i < us.length) (hj : j < us.length) k, us[i].ownBlock = some k → us[j].ownBlock = some k → i = j)
theorem RowsTo.snoc {w w' : World} {B : Nat} {us : List Value} {m : List (List Int)} {u : Value} (h : RowsTo w B us m) (hb : Below w.heap.size w w') (hB : B ≤ w.heap.size) (hk : us.length < m.length) (hu : w'.ownsRow w.heap.size 3 1 u m[us.length].length (ints m[us.length])) : RowsTo w' B (us ++ [u]) m := by
  obtain ⟨h1, h2, h3⟩ := h
  have hlt : ∀ i (hi : i < us.length) k, us[i].ownBlock = some k → k < w.heap.size := fun i hi k hk => ((h2 i hi (by omega)).lt k hk).2
  refine ⟨by simp; omega, fun i hi hi' => ?_, fun i j hi hj k e1 e2 => ?_⟩
  · by_cases e : i < us.length
    · rw [List.getElem_append_left e]
      exact own_below (h2 i e hi') hb
    · have e' : i = us.length := by simp at hi; omega
      subst e'
      rw [List.getElem_append_right (Nat.le_refl _)]
      simpa using own_mono hu hB
  · by_cases a : i < us.length <;> by_cases b : j < us.length
    · rw [List.getElem_append_left a] at e1
      rw [List.getElem_append_left b] at e2
      exact h3 i j a b k e1 e2
    · rw [List.getElem_append_left a] at e1
      rw [List.getElem_append_right (by omega)] at e2
      have := hlt i a k e1
      simp at e2
      have := (hu.lt k e2).1
      omega
    · rw [List.getElem_append_right (by omega)] at e1
      rw [List.getElem_append_left b] at e2
      have := hlt j b k e2
      simp at e1
      have := (hu.lt k e1).1
      omega
    · simp at hi hj
      omega
theorem RowsTo.below {w w' : World} {B : Nat} {us : List Value} {m : List (List Int)} (h : RowsTo w B us m) (hb : Below w.heap.size w w') : RowsTo w' B us m :=
  ⟨h.1, fun i a b => own_below (h.2.1 i a b) hb, h.2.2⟩
theorem RowsTo.setCell {w : World} {B : Nat} {us : List Value} {m : List (List Int)} (h : RowsTo w B us m) {a : Addr} (ha : a.block < B) (u : Value) : RowsTo (w.setCell a u) B us m :=
  ⟨h.1, fun i x y => own_setCell (h.2.1 i x y) ha u, h.2.2⟩

end Go.Proofs.Ytiikledbflgejaa

/- markIntSS and heldIntSS: numbers laid into the rows of a matrix of the call's own, and found there again. -/
namespace Go.Proofs.Ytiikledbflgejaa
open Go.RowKit

/-- consecutive numbers from k on, in rows of these lengths -/
def marksM (k : Int) : List Nat → List (List Int)
  | [] => []
  | n :: ns => upto k n :: marksM (k + n) ns
def sumN (ns : List Nat) : Nat := ns.sum
theorem marksM_length (ns : List Nat) : ∀ k, (marksM k ns).length = ns.length := by
  induction ns with
  | nil => intro k; rfl
  | cons n ns ih => intro k; simp [marksM, ih]
theorem marksM_at (ns : List Nat) : ∀ (k : Int) (i : Nat) (h : i < ns.length), (marksM k ns)[i]'(by rw [marksM_length]; exact h) = upto (k + sumN (ns.take i)) ns[i] := by
  induction ns with
  | nil => intro k i h; simp at h
  | cons n ns ih =>
    intro k i h
    cases i with
    | zero => simp [marksM, sumN]
    | succ i =>
      have := ih (k + n) i (by simpa using h)
      simp only [marksM, List.getElem_cons_succ, List.take_succ_cons, sumN, List.sum_cons] at this ⊢
      rw [this]
      congr 1
      omega
theorem sumN_take (ns : List Nat) (i : Nat) (h : i < ns.length) : sumN (ns.take (i + 1)) = sumN (ns.take i) + ns[i] := by
  unfold sumN
  rw [List.take_succ_eq_append_getElem h, List.sum_append]
  simp
theorem sumN_take_le (ns : List Nat) (i : Nat) : sumN (ns.take i) ≤ sumN ns := by
  unfold sumN
  conv => rhs; rw [← List.take_append_drop i ns, List.sum_append]
  omega

/-- w' is w with new blocks, and writes to blocks from lo to hi alone -/
def KeepsOut (lo hi : Nat) (w w' : World) : Prop :=
  w'.os = w.os ∧ w'.tape = w.tape ∧ w'.output = w.output ∧ w.heap.size ≤ w'.heap.size ∧ ∀ i, i < w.heap.size → (i < lo ∨ hi ≤ i) → w'.heap[i]? = w.heap[i]?
theorem KeepsOut.refl (lo hi : Nat) (w : World) : KeepsOut lo hi w w := ⟨rfl, rfl, rfl, Nat.le_refl _, fun _ _ _ => rfl⟩
theorem KeepsOut.trans {lo hi : Nat} {a b c : World} (h : KeepsOut lo hi a b) (k : KeepsOut lo hi b c) : KeepsOut lo hi a c :=
  ⟨k.1.trans h.1, k.2.1.trans h.2.1, k.2.2.1.trans h.2.2.1, Nat.le_trans h.2.2.2.1 k.2.2.2.1, fun i hi ho => (k.2.2.2.2 i (Nat.lt_of_lt_of_le hi h.2.2.2.1) ho).trans (h.2.2.2.2 i hi ho)⟩
theorem KeepsOut.of_grown {lo hi : Nat} {w w' : World} {row : Option Nat} (h : w.grownBy w' row) (hr : ∀ k, row = some k → lo ≤ k ∧ k < hi) : KeepsOut lo hi w w' :=
  ⟨h.os, h.tape, h.output, h.size, fun i hi ho => h.block i hi (fun e => by have := hr i e.symm; omega)⟩
theorem KeepsOut.below {lo hi B : Nat} {a w w' : World} (h : Below B a w) (k : KeepsOut lo hi w w') (hB : B ≤ w.heap.size) (hl : B ≤ lo) : Below B a w' :=
  ⟨k.1.trans h.os, k.2.1.trans h.tape, k.2.2.1.trans h.output, Nat.le_trans h.size k.2.2.2.1, fun i hi => (k.2.2.2.2 i (by omega) (.inl (by omega))).trans (h.block i hi)⟩
theorem KeepsOut.own {lo hi B n size : Nat} {w w' : World} {e : TypeId} {v : Value} {xs : List Value} (h : w.ownsRow B e size v n xs) (k : KeepsOut lo hi w w') (hne : ∀ j, v.ownBlock = some j → j < lo ∨ hi ≤ j) : w'.ownsRow B e size v n xs := by
  refine ⟨h.1, h.2.imp id ?_⟩
  rintro ⟨g, cap, cur, rfl, h2, h3, h4⟩
  refine ⟨g, cap, cur, rfl, h2, ?_, h4⟩
  rw [k.2.2.2.2 g (Array.getElem?_eq_some_iff.1 h3).1 (hne g rfl)]
  exact h3

end Go.Proofs.Ytiikledbflgejaa

/- append to a row of the call's own, as one step of a region that draws its order. No program in it. -/
namespace Go.Proofs.Ytiikledbflgejaa
open Go.RowKit

theorem step_own {P : Program} {ops : Array Oper} {o : Oper} {a : Act} {w : World} {K : Act → World → Prop} {Q : Exit → Act → World → Prop} {E : Prop}
    (hg : o.guard = none) (s x : Operand) (t : TypeId) (hop : o.op = Op.call { callee := Callee.builtin Builtin.append, args := #[s, x], argTypes := #[t, t] })
    (base : Nat) (e : TypeId) (i : TypeInfo) (z : Value) (bytes : Nat) (h1 : P.underlying t = some (.slice e)) (h2 : P.info? e = some i) (h3 : i.zero = some z) (h4 : i.size = 1) (h5 : i.bytes = bytes) (h6 : z.cells.size = 1)
    (v : Value) (n : Nat) (xs : List Value) (hs : a.eval s = v) (hown : w.ownsRow base e 1 v n xs)
    (ad : Addr) (m c : Nat) (news : List Value) (hx : a.eval x = .slice (some ad) m c) (hn : news.length = m) (hc : ∀ j u, news[j]? = some u → w.cell? (ad.add j) = some u) (h1c : ∀ u ∈ news, u.oneCell' = true)
    (b1 : n + m ≤ maxLen) (b2 : (n + m) * bytes ≤ 140737488355328) (hb : base ≤ w.heap.size)
    (hK : ∀ v' w', w'.ownsRow base e 1 v' (n + m) (xs ++ news) → Below base w w' → K (a.put o.dst v') w') :
    if Region.wanted o (yielded ops a.tmps) = true then Oper.wp P o a w K Q else E := by
  have hw : Region.wanted o (yielded ops a.tmps) = true := by simp [Region.wanted, hg]
  rw [if_pos hw]
  obtain ⟨v', w', hrun, r1, r2, _⟩ := run_append_own (P := P) w base t o.type e i z 1 bytes h1 h2 h3 h4 h5 h6 (by decide) v n xs hown ad m c news (by rw [hn, Nat.mul_one]) hc h1c b1 b2 hb
  unfold Oper.wp
  simp [execOp, hop, resolve, invoke, builtin, hs, hx, hrun, Result.andThen]
  exact hK v' w' r1 ((Below.refl _ _).grown r2 hb (fun k hk => (hown.lt k hk).1))
end Go.Proofs.Ytiikledbflgejaa
