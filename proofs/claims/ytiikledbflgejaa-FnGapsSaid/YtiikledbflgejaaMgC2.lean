/- Texts put together. -/
import Derived.Test.YtiikledbflgejaaMgC1
/- Gaps of multiples: what chapter 12 is to return. No program in it. -/
namespace Go.Proofs.Ytiikledbflgejaa

def gpOk (p q n : Int) : Bool := (decide (1 ≤ q) && decide (q ≤ 1000)) && ((decide (0 ≤ p) && decide (p ≤ q - 1)) && (decide (1 ≤ n) && decide (n ≤ 400)))
theorem gp_parts {p q n : Int} (h : gpOk p q n = true) : ∃ P Q N : Nat, p = P ∧ q = Q ∧ n = N ∧ 1 ≤ Q ∧ Q ≤ 1000 ∧ P < Q ∧ 1 ≤ N ∧ N ≤ 400 := by
  unfold gpOk at h
  simp only [Bool.and_eq_true, decide_eq_true_eq] at h
  exact ⟨p.toNat, q.toNat, n.toNat, by omega, by omega, by omega, by omega, by omega, by omega, by omega, by omega⟩
/-- one of the first n multiples lies at x -/
def ptB (p q n x : Nat) : Bool := (List.range n).any fun i => dpN p q i == x
theorem ptB_iff {p q n x : Nat} : ptB p q n x = true ↔ ∃ i, i < n ∧ dpN p q i = x := by
  unfold ptB
  rw [List.any_eq_true]
  constructor
  · rintro ⟨i, h1, h2⟩; exact ⟨i, List.mem_range.1 h1, beq_iff_eq.1 h2⟩
  · rintro ⟨i, h1, h2⟩; exact ⟨i, List.mem_range.2 h1, beq_iff_eq.2 h2⟩
/-- the points below k -/
def ptTo (p q n : Nat) : Nat → List Int
  | 0 => []
  | k + 1 => if ptB p q n k = true then ptTo p q n k ++ [(k : Int)] else ptTo p q n k
theorem ptTo_len (p q n : Nat) : ∀ k, (ptTo p q n k).length ≤ k
  | 0 => Nat.le_refl _
  | k + 1 => by
    have ih := ptTo_len p q n k
    unfold ptTo
    split
    · rw [List.length_append]; show _ + 1 ≤ _; omega
    · omega
/-- what PointsOf is to return -/
def ptR (p q n : Int) : List Int := if gpOk p q n = true then ptTo p.toNat q.toNat n.toNat q.toNat else []
/-- from each point to the next one, from the last one to the first one -/
def dsTo (q : Int) (l : List Int) : Nat → List Int
  | 0 => []
  | k + 1 => dsTo q l k ++ [if k + 1 < l.length then l.getD (k + 1) 0 - l.getD k 0 else q - l.getD k 0 + l.getD 0 0]
/-- what GapsOf is to return -/
def gpR (p q n : Int) : List Int := dsTo q (ptR p q n) (ptR p q n).length
/-! ### ascending lists of numbers -/
def AscI (l : List Int) : Prop := l.Pairwise fun a b => a < b
theorem ascI_ext : ∀ {l m : List Int}, AscI l → AscI m → (∀ x, x ∈ l ↔ x ∈ m) → l = m
  | [], [], _, _, _ => rfl
  | [], b :: m, _, _, h => absurd ((h b).2 (List.mem_cons_self ..)) (by simp)
  | a :: l, [], _, _, h => absurd ((h a).1 (List.mem_cons_self ..)) (by simp)
  | a :: l, b :: m, hl, hm, h => by
    obtain ⟨l1, l2⟩ := List.pairwise_cons.1 hl
    obtain ⟨m1, m2⟩ := List.pairwise_cons.1 hm
    have e : a = b := by
      rcases List.mem_cons.1 ((h a).1 (List.mem_cons_self ..)) with e | e
      · exact e
      · rcases List.mem_cons.1 ((h b).2 (List.mem_cons_self ..)) with e' | e'
        · exact e'.symm
        · exact absurd (Int.lt_trans (m1 a e) (l1 b e')) (Int.lt_irrefl b)
    subst e
    congr 1
    refine ascI_ext l2 m2 (fun x => ⟨fun hx => ?_, fun hx => ?_⟩)
    · rcases List.mem_cons.1 ((h x).1 (List.mem_cons_of_mem _ hx)) with e | e
      · subst e; exact absurd (l1 x hx) (Int.lt_irrefl x)
      · exact e
    · rcases List.mem_cons.1 ((h x).2 (List.mem_cons_of_mem _ hx)) with e | e
      · subst e; exact absurd (m1 x hx) (Int.lt_irrefl x)
      · exact e
/-- one more number, if it is not there -/
def inI : List Int → Int → List Int
  | [], x => [x]
  | a :: l, x => if x < a then x :: a :: l else if a < x then a :: inI l x else a :: l
theorem inI_mem : ∀ (l : List Int) (x y : Int), y ∈ inI l x ↔ (y = x ∨ y ∈ l)
  | [], x, y => by simp [inI]
  | a :: l, x, y => by
    unfold inI
    by_cases h1 : x < a
    · rw [if_pos h1]; simp
    · rw [if_neg h1]
      by_cases h2 : a < x
      · rw [if_pos h2, List.mem_cons, inI_mem l x y, List.mem_cons]
        constructor
        · rintro (e | e | e)
          · exact .inr (.inl e)
          · exact .inl e
          · exact .inr (.inr e)
        · rintro (e | e | e)
          · exact .inr (.inl e)
          · exact .inl e
          · exact .inr (.inr e)
      · rw [if_neg h2]
        have e : a = x := by
          rcases Int.lt_trichotomy a x with e | e | e
          · exact absurd e h2
          · exact e
          · exact absurd e h1
        subst e
        simp
theorem inI_asc : ∀ {l : List Int} (x : Int), AscI l → AscI (inI l x)
  | [], x, _ => by simp [inI, AscI]
  | a :: l, x, h => by
    obtain ⟨h1, h2⟩ := List.pairwise_cons.1 h
    unfold inI
    by_cases k1 : x < a
    · rw [if_pos k1]
      refine List.pairwise_cons.2 ⟨fun y hy => ?_, h⟩
      rcases List.mem_cons.1 hy with e | e
      · rw [e]; exact k1
      · exact Int.lt_trans k1 (h1 y e)
    · rw [if_neg k1]
      by_cases k2 : a < x
      · rw [if_pos k2]
        refine List.pairwise_cons.2 ⟨fun y hy => ?_, inI_asc x h2⟩
        rcases (inI_mem l x y).1 hy with e | e
        · rw [e]; exact k2
        · exact h1 y e
      · rw [if_neg k2]; exact h
theorem inI_there {l : List Int} {x : Int} (h : AscI l) (hx : x ∈ l) : inI l x = l :=
  ascI_ext (inI_asc x h) h fun y => by
    rw [inI_mem]
    constructor
    · rintro (rfl | e)
      · exact hx
      · exact e
    · exact .inr
/-- laid at its place -/
theorem inI_at {l : List Int} {x : Int} (h : AscI l) {k : Nat} (hk : k ≤ l.length) (h1 : ∀ (j : Nat) (hj : j < l.length), k ≤ j → x < l[j]) (h2 : ∀ (j : Nat) (hj : j < l.length), j < k → l[j] < x) : l.take k ++ x :: l.drop k = inI l x := by
  refine ascI_ext ?_ (inI_asc x h) fun y => ?_
  · refine List.pairwise_append.2 ⟨h.sublist (List.take_sublist _ _), List.pairwise_cons.2 ⟨fun y hy => ?_, h.sublist (List.drop_sublist _ _)⟩, fun a ha b hb => ?_⟩
    · obtain ⟨j, hj, rfl⟩ := List.mem_iff_getElem.1 hy
      rw [List.length_drop] at hj
      rw [List.getElem_drop]
      exact h1 _ (by omega) (by omega)
    · obtain ⟨j, hj, rfl⟩ := List.mem_iff_getElem.1 ha
      rw [List.length_take] at hj
      rw [List.getElem_take]
      have hjx := h2 j (by omega) (by omega)
      rcases List.mem_cons.1 hb with e | e
      · rw [e]; exact hjx
      · obtain ⟨i, hi, rfl⟩ := List.mem_iff_getElem.1 e
        rw [List.length_drop] at hi
        rw [List.getElem_drop]
        exact Int.lt_trans hjx (h1 _ (by omega) (by omega))
  · rw [inI_mem]
    have e : y ∈ l ↔ y ∈ l.take k ∨ y ∈ l.drop k := by
      rw [← List.mem_append, List.take_append_drop]
    rw [e, List.mem_append, List.mem_cons]
    constructor
    · rintro (a | a | a)
      · exact .inr (.inl a)
      · exact .inl a
      · exact .inr (.inr a)
    · rintro (a | a | a)
      · exact .inr (.inl a)
      · exact .inl a
      · exact .inr (.inr a)
/-- what GapLengths is to return -/
def glTo (l : List Int) : Nat → List Int
  | 0 => []
  | k + 1 => inI (glTo l k) (l.getD k 0)
def glnR (p q n : Int) : List Int := glTo (gpR p q n) (gpR p q n).length

/-! ### the nearest ones -/
/-- of the first k multiples behind the first one: the first that lies least, the first that lies greatest -/
def nrTo (p q : Nat) : Nat → Nat × Nat
  | 0 => (1, 1)
  | k + 1 =>
    let y := nrTo p q k
    (if dpN p q (k + 1) < dpN p q y.1 then k + 1 else y.1, if dpN p q y.2 < dpN p q (k + 1) then k + 1 else y.2)
theorem nrTo_le (p q : Nat) : ∀ k, (1 ≤ (nrTo p q k).1 ∧ (nrTo p q k).1 ≤ k + 1) ∧ (1 ≤ (nrTo p q k).2 ∧ (nrTo p q k).2 ≤ k + 1)
  | 0 => by show (1 ≤ 1 ∧ 1 ≤ 1) ∧ (1 ≤ 1 ∧ 1 ≤ 1); omega
  | k + 1 => by
    have ih := nrTo_le p q k
    unfold nrTo
    dsimp only
    split <;> split <;> omega
def nrOk (p q n : Int) : Bool := gpOk p q n && !(n == 1)
def nrA (p q n : Int) : Int := if nrOk p q n = true then ((nrTo p.toNat q.toNat (n.toNat - 1)).1 : Int) else -1
def nrB (p q n : Int) : Int := if nrOk p q n = true then ((nrTo p.toNat q.toNat (n.toNat - 1)).2 : Int) else -1

/-! ### times of return -/
def arOk (p q a b : Int) : Bool := (decide (1 ≤ q) && decide (q ≤ 1000)) && ((decide (0 ≤ p) && decide (p ≤ q - 1)) && ((decide (0 ≤ a) && decide (a ≤ q - 1)) && (decide (0 ≤ b) && decide (b ≤ q - 1))))
def rtOkF (p q a b f : Int) : Bool := arOk p q a b && (decide (0 ≤ f) && decide (f ≤ q - 1))
/-- is the multiple with the number i, from f on, in the arc -/
def inA (p q a b f : Int) (i : Nat) : Bool := decide (a ≤ (f + (i : Int) * p) % q) && decide ((f + (i : Int) * p) % q ≤ b)
/-- the first time from i on, m times at most -/
def rtTo (p q a b f : Int) : Nat → Nat → Int
  | _, 0 => -1
  | i, m + 1 => if inA p q a b f i = true then (i : Int) else rtTo p q a b f (i + 1) m
/-- what ReturnTime is to return -/
def rtT (p q a b f : Int) : Int := if rtOkF p q a b f = true then rtTo p q a b f 1 1000 else -1
theorem rtTo_le (p q a b f : Int) : ∀ m i, -1 ≤ rtTo p q a b f i m ∧ rtTo p q a b f i m ≤ (i + m : Nat)
  | 0, i => by show (-1 : Int) ≤ -1 ∧ (-1 : Int) ≤ _; omega
  | m + 1, i => by
    have ih := rtTo_le p q a b f m (i + 1)
    unfold rtTo
    split
    · omega
    · omega
/-- the times from the places a to a + k - 1 -/
def rsTo (p q a b : Int) : Nat → List Int
  | 0 => []
  | k + 1 => if 0 < rtT p q a b (a + (k : Int)) then inI (rsTo p q a b k) (rtT p q a b (a + (k : Int))) else rsTo p q a b k
/-- what ReturnTimes is to return -/
def rsR (p q a b : Int) : List Int := if (arOk p q a b && decide (a ≤ b)) = true then rsTo p q a b (b - a + 1).toNat else []

/-! ### how many lie in an arc -/
def ciTo (p q : Nat) (a b : Int) : Nat → Nat
  | 0 => 0
  | k + 1 => ciTo p q a b k + if (decide (a ≤ (dpN p q k : Int)) && decide ((dpN p q k : Int) ≤ b)) = true then 1 else 0
theorem ciTo_le (p q : Nat) (a b : Int) : ∀ k, ciTo p q a b k ≤ k
  | 0 => Nat.le_refl _
  | k + 1 => by
    have := ciTo_le p q a b k
    unfold ciTo
    split <;> omega
/-- what CountIn is to return -/
def ciR (p q n a b : Int) : Int := if gpOk p q n = true then (ciTo p.toNat q.toNat a b n.toNat : Int) else -1
end Go.Proofs.Ytiikledbflgejaa

/- What FnGaps asks: the points, their distances, times of return and numbers in an arc. No program in it. -/
namespace Go.Proofs.Ytiikledbflgejaa

/-! ### the points -/
theorem pt_mem (p q n : Nat) (x : Int) : ∀ k, x ∈ ptTo p q n k ↔ ∃ m, m < k ∧ x = (m : Int) ∧ ptB p q n m = true
  | 0 => ⟨fun h => (by cases h), fun ⟨m, h, _⟩ => absurd h (by omega)⟩
  | k + 1 => by
    have ih := pt_mem p q n x k
    unfold ptTo
    by_cases hb : ptB p q n k = true
    · rw [if_pos hb, List.mem_append, ih, List.mem_singleton]
      constructor
      · rintro (⟨m, a, b, c⟩ | e)
        · exact ⟨m, by omega, b, c⟩
        · exact ⟨k, by omega, e, hb⟩
      · rintro ⟨m, a, b, c⟩
        by_cases e : m = k
        · subst e; exact .inr b
        · exact .inl ⟨m, by omega, b, c⟩
    · rw [if_neg hb, ih]
      constructor
      · rintro ⟨m, a, b, c⟩; exact ⟨m, by omega, b, c⟩
      · rintro ⟨m, a, b, c⟩
        by_cases e : m = k
        · subst e; exact absurd c hb
        · exact ⟨m, by omega, b, c⟩
theorem pt_asc (p q n : Nat) : ∀ k, AscI (ptTo p q n k)
  | 0 => List.Pairwise.nil
  | k + 1 => by
    unfold ptTo
    split
    · refine List.pairwise_append.2 ⟨pt_asc p q n k, List.pairwise_singleton _ _, fun a ha b hb => ?_⟩
      obtain ⟨m, h1, h2, _⟩ := (pt_mem p q n a k).1 ha
      rw [List.mem_singleton] at hb
      omega
    · exact pt_asc p q n k
theorem ptB_succ (p q n x : Nat) : ptB p q (n + 1) x = (ptB p q n x || dpN p q n == x) := by
  rw [Bool.eq_iff_iff, Bool.or_eq_true, beq_iff_eq, ptB_iff, ptB_iff]
  constructor
  · rintro ⟨i, h1, h2⟩
    by_cases e : i = n
    · subst e; exact .inr h2
    · exact .inl ⟨i, by omega, h2⟩
  · rintro (⟨i, h1, h2⟩ | h)
    · exact ⟨i, by omega, h2⟩
    · exact ⟨n, by omega, h⟩
theorem pt_grow (p q n : Nat) : ∀ k, (ptTo p q (n + 1) k).length = (ptTo p q n k).length + if dpN p q n < k ∧ ptB p q n (dpN p q n) = false then 1 else 0
  | 0 => by rw [if_neg (by omega)]; rfl
  | k + 1 => by
    have ih := pt_grow p q n k
    have h1 : ptTo p q (n + 1) (k + 1) = if ptB p q (n + 1) k = true then ptTo p q (n + 1) k ++ [(k : Int)] else ptTo p q (n + 1) k := rfl
    have h2 : ptTo p q n (k + 1) = if ptB p q n k = true then ptTo p q n k ++ [(k : Int)] else ptTo p q n k := rfl
    rw [h1, h2, ptB_succ]
    by_cases e : dpN p q n = k
    · have hb : (dpN p q n == k) = true := beq_iff_eq.2 e
      rw [hb, Bool.or_true, if_pos rfl, List.length_append, ih, if_neg (fun h => by omega), e]
      cases hc : ptB p q n k
      · rw [if_neg (by decide), if_pos ⟨by omega, rfl⟩]; rfl
      · rw [if_pos rfl, if_neg (fun h => by cases h.2), List.length_append]; rfl
    · have hb : (dpN p q n == k) = false := beq_eq_false_iff_ne.2 e
      rw [hb, Bool.or_false]
      have hif : (if dpN p q n < k + 1 ∧ ptB p q n (dpN p q n) = false then 1 else 0) = if dpN p q n < k ∧ ptB p q n (dpN p q n) = false then 1 else 0 := by
        by_cases hc : dpN p q n < k ∧ ptB p q n (dpN p q n) = false
        · rw [if_pos hc, if_pos ⟨by omega, hc.2⟩]
        · rw [if_neg hc, if_neg (fun h => hc ⟨by omega, h.2⟩)]
      rw [hif]
      cases hc : ptB p q n k
      · rw [if_neg (by decide), if_neg (by decide), ih]
      · rw [if_pos rfl, if_pos rfl, List.length_append, List.length_append, ih]
        show _ + _ + 1 = _ + 1 + _
        omega
theorem pt_few (p q k : Nat) : ∀ n, (ptTo p q n k).length ≤ n
  | 0 => by
    have h : ∀ k, ptTo p q 0 k = [] := fun k => by
      induction k with
      | zero => rfl
      | succ k ih =>
        have h2 : ptTo p q 0 (k + 1) = if ptB p q 0 k = true then ptTo p q 0 k ++ [(k : Int)] else ptTo p q 0 k := rfl
        rw [h2, if_neg (by rw [ptB_iff]; rintro ⟨i, h, _⟩; omega), ih]
    rw [h]
    exact Nat.le_refl _
  | n + 1 => by
    have := pt_few p q k n
    rw [pt_grow]
    split <;> omega
/-- as many points as multiples: no two are equal -/
theorem pt_new (p q k : Nat) : ∀ n, (ptTo p q n k).length = n → ∀ i, i < n → ptB p q i (dpN p q i) = false
  | 0, _, i, h => absurd h (by omega)
  | n + 1, h, i, hi => by
    have h1 := pt_few p q k n
    rw [pt_grow] at h
    by_cases hc : dpN p q n < k ∧ ptB p q n (dpN p q n) = false
    · rw [if_pos hc] at h
      by_cases e : i = n
      · subst e; exact hc.2
      · exact pt_new p q k n (by omega) i (by omega)
    · rw [if_neg hc] at h
      omega
theorem asc_lt {l : List Int} (h : AscI l) {i j : Nat} (hij : i < j) (hj : j < l.length) : l[i]'(by omega) < l[j] := List.pairwise_iff_getElem.1 h i j (by omega) hj hij
theorem asc_le {l : List Int} (h : AscI l) {i j : Nat} (hij : i ≤ j) (hj : j < l.length) : l[i]'(by omega) ≤ l[j] := by
  by_cases e : i = j
  · subst e; exact Int.le_refl _
  · exact Int.le_of_lt (asc_lt h (by omega) hj)

/-- the points, one by one -/
structure Pts (p q n : Nat) (X : List Int) : Prop where
  asc : AscI X
  mem : ∀ x : Int, x ∈ X ↔ ∃ i, i < n ∧ x = (dpN p q i : Int)
  few : X.length ≤ n
  some : 1 ≤ X.length
theorem pts_of {p q n : Nat} (hq : 1 ≤ q) (hn : 1 ≤ n) : Pts p q n (ptTo p q n q) := by
  have hm : ∀ x : Int, x ∈ ptTo p q n q ↔ ∃ i, i < n ∧ x = (dpN p q i : Int) := fun x => by
    rw [pt_mem]
    constructor
    · rintro ⟨m, _, e, hb⟩
      obtain ⟨i, hi, h⟩ := ptB_iff.1 hb
      exact ⟨i, hi, by rw [e, h]⟩
    · rintro ⟨i, hi, e⟩
      exact ⟨dpN p q i, dp_lt hq i, e, ptB_iff.2 ⟨i, hi, rfl⟩⟩
  refine ⟨pt_asc _ _ _ _, hm, pt_few _ _ _ _, ?_⟩
  have h0 := (hm 0).2 ⟨0, by omega, by rw [dp_zero]; rfl⟩
  exact List.length_pos_of_mem h0
theorem Pts.zero {p q n : Nat} {X : List Int} (h : Pts p q n X) (hn : 1 ≤ n) : X[0]'(by have := h.some; omega) = 0 := by
  have h0 := (h.mem 0).2 ⟨0, by omega, by rw [dp_zero]; rfl⟩
  obtain ⟨j, hj, e⟩ := List.mem_iff_getElem.1 h0
  obtain ⟨i, _, e2⟩ := (h.mem (X[0]'(by have := h.some; omega))).1 (List.getElem_mem _)
  have := asc_le h.asc (Nat.zero_le j) hj
  omega
theorem Pts.at {p q n : Nat} {X : List Int} (h : Pts p q n X) {k : Nat} (hk : k < X.length) : ∃ i, i < n ∧ X[k] = (dpN p q i : Int) := (h.mem _).1 (List.getElem_mem hk)
/-- no point between two that follow each other -/
theorem Pts.none {p q n : Nat} {X : List Int} (h : Pts p q n X) {k j : Nat} (hk : k + 1 < X.length) (hj : j < n) (h1 : X[k]'(by omega) < (dpN p q j : Int)) (h2 : (dpN p q j : Int) < X[k + 1]) : False := by
  obtain ⟨m, hm, e⟩ := List.mem_iff_getElem.1 ((h.mem (dpN p q j : Int)).2 ⟨j, hj, rfl⟩)
  rw [← e] at h1 h2
  by_cases hle : m ≤ k
  · have := asc_le h.asc hle (by omega)
    omega
  · have := asc_le h.asc (show k + 1 ≤ m by omega) hm
    omega
theorem Pts.last {p q n : Nat} {X : List Int} (h : Pts p q n X) {k j : Nat} (hk : k + 1 = X.length) (hj : j < n) : (dpN p q j : Int) ≤ X[k]'(by omega) := by
  obtain ⟨m, hm, e⟩ := List.mem_iff_getElem.1 ((h.mem (dpN p q j : Int)).2 ⟨j, hj, rfl⟩)
  rw [← e]
  exact asc_le h.asc (by omega) _

/-! ### the distances -/
theorem dsv_len (q : Int) (l : List Int) : ∀ k, (dsTo q l k).length = k
  | 0 => rfl
  | k + 1 => by
    show (dsTo q l k ++ [_]).length = _
    rw [List.length_append, dsv_len q l k]
    rfl
def dsV (q : Int) (l : List Int) (k : Nat) : Int := if k + 1 < l.length then l.getD (k + 1) 0 - l.getD k 0 else q - l.getD k 0 + l.getD 0 0
theorem ds_at (q : Int) (l : List Int) : ∀ K k (hk : k < (dsTo q l K).length), (dsTo q l K)[k] = dsV q l k
  | 0, k, hk => absurd hk (by rw [dsv_len]; omega)
  | K + 1, k, hk => by
    have hl := dsv_len q l K
    rw [dsv_len] at hk
    have e : dsTo q l (K + 1) = dsTo q l K ++ [dsV q l K] := rfl
    by_cases h : k = K
    · subst h
      have h2 : (dsTo q l k ++ [dsV q l k])[k]? = some (dsV q l k) := by rw [List.getElem?_append_right (by omega), hl, Nat.sub_self]; rfl
      exact (List.getElem?_eq_some_iff.1 (by rw [e]; exact h2)).2
    · have h3 := ds_at q l K k (by omega)
      have h2 : (dsTo q l K ++ [dsV q l K])[k]? = some (dsV q l k) := by rw [List.getElem?_append_left (by omega), List.getElem?_eq_getElem (by omega), h3]
      exact (List.getElem?_eq_some_iff.1 (by rw [e]; exact h2)).2
def sumI : List Int → Nat → Int
  | _, 0 => 0
  | l, k + 1 => sumI l k + l.getD k 0
theorem getD_at {l : List Int} {k : Nat} (h : k < l.length) : l.getD k 0 = l[k] := by rw [List.getD_eq_getElem?_getD, List.getElem?_eq_getElem h]; rfl
theorem ds_sum {q : Int} {l : List Int} (h1 : 1 ≤ l.length) : ∀ k, k ≤ l.length → sumI (dsTo q l l.length) k = if k < l.length then l.getD k 0 - l.getD 0 0 else q
  | 0, _ => by
    rw [if_pos (by omega)]
    show (0 : Int) = _
    omega
  | k + 1, hk => by
    have ih := ds_sum (q := q) h1 k (by omega)
    rw [if_pos (by omega)] at ih
    have hl := dsv_len q l l.length
    show sumI _ k + _ = _
    have e1 : (dsTo q l l.length).getD k 0 = dsV q l k := by rw [getD_at (by omega), ds_at]
    rw [ih, e1]
    unfold dsV
    by_cases h : k + 1 < l.length
    · rw [if_pos h, if_pos h]; omega
    · rw [if_neg h, if_neg h]; omega
theorem Pts.gap {p q n : Nat} {X : List Int} (h : Pts p q n X) (hq : 1 ≤ q) (hn : 1 ≤ n) {k : Nat} (hk : k < X.length) : 1 ≤ dsV q X k ∧ dsV q X k ≤ q ∧ (∀ hk1 : k + 1 < X.length, X[k] + dsV q X k = X[k + 1]) ∧ ∃ (i v : Nat), i < n ∧ dsV q X k = (v : Int) ∧ v ≤ q ∧ GapAt p q n i v := by
  have hz := h.zero hn
  have h0 := h.some
  obtain ⟨i, hi, ei⟩ := h.at hk
  have hiq := dp_lt (p := p) hq i
  have e0 : X.getD 0 0 = 0 := by rw [getD_at (by omega)]; exact hz
  unfold dsV
  rw [getD_at hk, e0]
  by_cases hk1 : k + 1 < X.length
  · rw [if_pos hk1, getD_at hk1]
    obtain ⟨j, hj, ej⟩ := h.at hk1
    have hjq := dp_lt (p := p) hq j
    have hlt := asc_lt h.asc (show k < k + 1 by omega) hk1
    refine ⟨by omega, by omega, fun _ => by omega, i, dpN p q j - dpN p q i, hi, by omega, by omega, by omega, ⟨j, hj, .inl (by omega)⟩, fun u hu1 hu2 => ?_⟩
    rintro ⟨m, hm, e | e⟩
    · exact h.none hk1 hm (by omega) (by omega)
    · omega
  · rw [if_neg hk1]
    refine ⟨by omega, by omega, fun h => absurd h hk1, i, q - dpN p q i, hi, by omega, by omega, by omega, ⟨0, by omega, .inr (by rw [dp_zero]; omega)⟩, fun u hu1 hu2 => ?_⟩
    rintro ⟨m, hm, e | e⟩
    · have := h.last (k := k) (by omega) hm
      omega
    · omega

/-! ### ascending lists of few values -/
theorem gl_asc (l : List Int) : ∀ k, AscI (glTo l k)
  | 0 => List.Pairwise.nil
  | k + 1 => inI_asc _ (gl_asc l k)
theorem gvl_mem (l : List Int) (x : Int) : ∀ k, k ≤ l.length → (x ∈ glTo l k ↔ ∃ j, ∃ h : j < l.length, j < k ∧ l[j] = x)
  | 0, _ => ⟨fun h => (by cases h), fun ⟨j, _, h, _⟩ => absurd h (by omega)⟩
  | k + 1, hk => by
    have ih := gvl_mem l x k (by omega)
    show x ∈ inI _ _ ↔ _
    rw [inI_mem, ih, getD_at (by omega)]
    constructor
    · rintro (e | ⟨j, hj, a, b⟩)
      · exact ⟨k, by omega, by omega, e.symm⟩
      · exact ⟨j, hj, by omega, b⟩
    · rintro ⟨j, hj, a, b⟩
      by_cases e : j = k
      · subst e; exact .inl b.symm
      · exact .inr ⟨j, hj, by omega, b⟩
theorem few_three {l : List Int} (h : AscI l) {a b : Int} (hm : ∀ x ∈ l, x = a ∨ x = b ∨ x = a + b) : l.length ≤ 3 := by
  match l, h, hm with
  | [], _, _ => exact Nat.zero_le _
  | [_], _, _ => show 1 ≤ 3; omega
  | [_, _], _, _ => show 2 ≤ 3; omega
  | [_, _, _], _, _ => exact Nat.le_refl _
  | x :: y :: z :: w :: t, h, hm =>
    have h1 := asc_lt h (i := 0) (j := 1) (by omega) (by simp)
    have h2 := asc_lt h (i := 1) (j := 2) (by omega) (by simp)
    have h3 := asc_lt h (i := 2) (j := 3) (by omega) (by simp)
    have m1 := hm x (by simp)
    have m2 := hm y (by simp)
    have m3 := hm z (by simp)
    have m4 := hm w (by simp)
    simp only [List.getElem_cons_zero, List.getElem_cons_succ] at h1 h2 h3
    omega
theorem three_sum {l : List Int} (h : AscI l) {a b : Int} (ha : 1 ≤ a) (hb : 1 ≤ b) (hm : ∀ x ∈ l, x = a ∨ x = b ∨ x = a + b) (hl : l.length = 3) : l[2] = l[0] + l[1] := by
  match l, h, hm, hl with
  | [x, y, z], h, hm, _ =>
    have h1 := asc_lt h (i := 0) (j := 1) (by omega) (by simp)
    have h2 := asc_lt h (i := 1) (j := 2) (by omega) (by simp)
    have m1 := hm x (by simp)
    have m2 := hm y (by simp)
    have m3 := hm z (by simp)
    simp only [List.getElem_cons_zero, List.getElem_cons_succ] at h1 h2 ⊢
    omega

/-! ### what FnGaps says of points, distances, lengths -/
structure GapSays (p q n : Nat) (X G L : List Int) : Prop where
  xl : 1 ≤ X.length ∧ X.length ≤ n
  gl : G.length = X.length
  sum : sumI G G.length = (q : Int)
  sums : ∀ k, k ≤ G.length → 0 ≤ sumI G k ∧ sumI G k ≤ q
  ll : 1 ≤ L.length ∧ L.length ≤ 3
  three : ∀ h : L.length = 3, L[2] = L[0] + L[1]
  zero : ∀ h : 0 < X.length, X[0] = 0
  each : ∀ k (h : k < G.length), G[k] ∈ L ∧ 1 ≤ G[k] ∧ G[k] ≤ q
  next : ∀ k (h : k < G.length) (h1 : k + 1 < X.length), X[k]'(by omega) + G[k] = X[k + 1]
  lim : (∀ x ∈ X, 0 ≤ x ∧ x < q) ∧ ∀ x ∈ L, 1 ≤ x ∧ x ≤ q
theorem gap_says {p q n : Nat} (hq : 1 ≤ q) (hn : 1 ≤ n) : GapSays p q n (ptTo p q n q) (dsTo q (ptTo p q n q) (ptTo p q n q).length) (glTo (dsTo q (ptTo p q n q) (ptTo p q n q).length) (dsTo q (ptTo p q n q) (ptTo p q n q).length).length) := by
  have hP := pts_of (p := p) hq hn
  have hX := hP.some
  have hlim : ∀ x ∈ ptTo p q n q, 0 ≤ x ∧ x < (q : Int) := fun x hx => by
    obtain ⟨i, _, e⟩ := (hP.mem x).1 hx
    have := dp_lt (p := p) hq i
    omega
  generalize ptTo p q n q = X at *
  have hG := dsv_len (q : Int) X X.length
  have hGa := ds_at (q : Int) X X.length
  have hsums := fun k hk => ds_sum (q := (q : Int)) hX k hk
  have hsum := ds_sum (q := (q : Int)) hX X.length (Nat.le_refl _)
  rw [if_neg (by omega)] at hsum
  generalize hGG : dsTo (q : Int) X X.length = G at *
  have hLm := fun x => gvl_mem G x G.length (Nat.le_refl _)
  have hLa := gl_asc G G.length
  generalize hLL : glTo G G.length = L at *
  have hg := fun k (hk : k < X.length) => hP.gap hq hn hk
  have hmem : ∀ k (h : k < G.length), G[k] ∈ L := fun k h => (hLm _).2 ⟨k, h, h, rfl⟩
  have hL1 : 1 ≤ L.length := List.length_pos_of_mem (hmem 0 (by omega))
  have hLl : ∀ x ∈ L, 1 ≤ x ∧ x ≤ (q : Int) := fun x hx => by
    obtain ⟨j, hj, _, e⟩ := (hLm x).1 hx
    have h1 := hg j (by omega)
    rw [hGa] at e
    rw [← e]
    exact ⟨h1.1, h1.2.1⟩
  have h3 : L.length ≤ 3 ∧ ∀ h : L.length = 3, L[2] = L[0] + L[1] := by
    rcases gap_three (p := p) (n := n) hq with hall | ⟨a, b, ha, hb, hab⟩
    · -- one point
      have hm : ∀ x ∈ L, x = (q : Int) ∨ x = (q : Int) ∨ x = (q : Int) + q := fun x hx => by
        obtain ⟨j, hj, _, e⟩ := (hLm x).1 hx
        obtain ⟨_, _, _, i, v, hi, ev, hv, hgap⟩ := hg j (by omega)
        rw [hGa, ev] at e
        left
        rw [← e]
        obtain ⟨_, ⟨m, hm, e2⟩, _⟩ := hgap
        have h1 := hall i hi
        have h2 := hall m hm
        have h5 := (hg j (by omega)).1
        omega
      refine ⟨few_three hLa hm, fun h => three_sum hLa (by omega) (by omega) hm h⟩
    · have hm : ∀ x ∈ L, x = (a : Int) ∨ x = (b : Int) ∨ x = (a : Int) + b := fun x hx => by
        obtain ⟨j, hj, _, e⟩ := (hLm x).1 hx
        obtain ⟨_, _, _, i, v, hi, ev, hv, hgap⟩ := hg j (by omega)
        rw [hGa, ev] at e
        have := hab i v hi hv hgap
        omega
      exact ⟨few_three hLa hm, fun h => three_sum hLa (by omega) (by omega) hm h⟩
  refine ⟨⟨hX, hP.few⟩, hG, by rw [hG]; exact hsum, fun k hk => ?_, ⟨hL1, h3.1⟩, h3.2, fun _ => hP.zero hn, fun k h => ?_, fun k h h1 => ?_, hlim, hLl⟩
  · rw [hsums k (by omega)]
    have hz := hP.zero hn
    by_cases hk2 : k < X.length
    · rw [if_pos hk2, getD_at hk2, getD_at (by omega), hz]
      have := hlim _ (List.getElem_mem hk2)
      omega
    · rw [if_neg hk2]
      omega
  · have h1 := hg k (by omega)
    refine ⟨hmem k h, ?_⟩
    rw [hGa]
    exact ⟨h1.1, h1.2.1⟩
  · rw [hGa]
    exact (hg k (by omega)).2.2.1 h1

theorem gaps_all {p q n : Nat} (hq : 1 ≤ q) (hq2 : q ≤ 1000) (hp : p < q) (hn : 1 ≤ n) (hn2 : n ≤ 400) : GapSays p q n (ptR p q n) (gpR p q n) (glnR p q n) := by
  have hok : gpOk (p : Int) (q : Int) (n : Int) = true := by
    unfold gpOk
    simp only [Bool.and_eq_true, decide_eq_true_eq]
    omega
  have e : ptR (p : Int) (q : Int) (n : Int) = ptTo p q n q := by
    unfold ptR
    rw [if_pos hok]
    rfl
  unfold glnR gpR
  rw [e]
  exact gap_says hq hn

/-! ### the nearest ones -/
theorem nr_tight (p q : Nat) : ∀ k, (nrTo p q k).1 ≤ max 1 k ∧ (nrTo p q k).2 ≤ max 1 k
  | 0 => by show 1 ≤ max 1 0 ∧ 1 ≤ max 1 0; omega
  | k + 1 => by
    have ih := nr_tight p q k
    unfold nrTo
    dsimp only
    split <;> split <;> omega
theorem nr_best (p q : Nat) : ∀ k i, 1 ≤ i → i ≤ k → dpN p q (nrTo p q k).1 ≤ dpN p q i ∧ dpN p q i ≤ dpN p q (nrTo p q k).2
  | 0, i, h1, h2 => absurd h1 (by omega)
  | k + 1, i, h1, h2 => by
    have hd : ∀ j, 1 ≤ j → j ≤ k → dpN p q (nrTo p q k).1 ≤ dpN p q j ∧ dpN p q j ≤ dpN p q (nrTo p q k).2 := nr_best p q k
    have hi : i = k + 1 ∨ i ≤ k := by omega
    unfold nrTo
    dsimp only
    rcases hi with rfl | hi
    · split <;> split <;> omega
    · have := hd i h1 hi
      split <;> split <;> omega
theorem near_says {p q n : Nat} (hq : 1 ≤ q) (hn : 2 ≤ n) : (1 ≤ (nrTo p q (n - 1)).1 ∧ (nrTo p q (n - 1)).1 < n) ∧ (1 ≤ (nrTo p q (n - 1)).2 ∧ (nrTo p q (n - 1)).2 < n) ∧
    ((ptTo p q n q).length = n → ∀ (h1 : 1 < (ptTo p q n q).length) (h2 : (ptTo p q n q).length - 1 < (ptTo p q n q).length), (dpN p q (nrTo p q (n - 1)).1 : Int) = (ptTo p q n q)[1] ∧ (dpN p q (nrTo p q (n - 1)).2 : Int) = (ptTo p q n q)[(ptTo p q n q).length - 1]'h2) := by
  have h1 := nrTo_le p q (n - 1)
  have h2 := nr_tight p q (n - 1)
  have hb := nr_best p q (n - 1)
  refine ⟨by omega, by omega, fun hl hX hX2 => ?_⟩
  have hnew := pt_new p q q n hl
  have hP := pts_of (p := p) (n := n) hq (by omega)
  have hz : ∀ h : 0 < (ptTo p q n q).length, (ptTo p q n q)[0] = 0 := fun _ => hP.zero (by omega)
  -- no multiple but the first one lies at 0
  have hne : ∀ i, 1 ≤ i → i < n → dpN p q i ≠ 0 := fun i hi hin e => by
    have := hnew i hin
    rw [Bool.eq_false_iff] at this
    exact this (ptB_iff.2 ⟨0, by omega, by rw [dp_zero, e]⟩)
  generalize ptTo p q n q = X at *
  have hz := hz (by omega)
  generalize (nrTo p q (n - 1)).1 = a at *
  generalize (nrTo p q (n - 1)).2 = b at *
  constructor
  · -- the second point
    obtain ⟨j, hj, ej⟩ := hP.at (k := 1) (by omega)
    have hj1 : 1 ≤ j := by
      refine Nat.one_le_iff_ne_zero.2 fun e => ?_
      have := asc_lt hP.asc (i := 0) (j := 1) (by omega) (by omega)
      rw [e, dp_zero] at ej
      omega
    have hle := (hb j hj1 (by omega)).1
    obtain ⟨m, hm, em⟩ := List.mem_iff_getElem.1 ((hP.mem (dpN p q a : Int)).2 ⟨a, by omega, rfl⟩)
    have hm1 : 1 ≤ m := by
      refine Nat.one_le_iff_ne_zero.2 fun e => ?_
      subst e
      have := hne a (by omega) (by omega)
      omega
    have := asc_le hP.asc hm1 hm
    omega
  · -- the last point
    obtain ⟨j, hj, ej⟩ := hP.at (k := X.length - 1) (by omega)
    have hj1 : 1 ≤ j := by
      refine Nat.one_le_iff_ne_zero.2 fun e => ?_
      have := asc_lt hP.asc (i := 0) (j := X.length - 1) (by omega) (by omega)
      rw [e, dp_zero] at ej
      omega
    have hle := (hb j hj1 (by omega)).2
    have := hP.last (k := X.length - 1) (j := b) (by omega) (by omega)
    omega
end Go.Proofs.Ytiikledbflgejaa

/- What FnGaps asks: times of return and numbers in an arc. No program in it. -/
namespace Go.Proofs.Ytiikledbflgejaa

theorem arc_mod {p q low t i : Nat} : (((low : Int) + (t : Int) + (i : Int) * (p : Int)) % (q : Int)) = (((low + t + dpN p q i) % q : Nat) : Int) := by
  have e1 : (low : Int) + (t : Int) + (i : Int) * (p : Int) = ((low + t + i * p : Nat) : Int) := by rw [Int.natCast_add, Int.natCast_add, Int.natCast_mul]
  rw [e1, ← Int.natCast_emod]
  congr 1
  unfold dpN
  rw [Nat.add_mod (low + t) (i * p) q, Nat.add_mod (low + t) (i * p % q) q, Nat.mod_mod]
theorem inA_jmp {p q low L t i : Nat} (hq : 1 ≤ q) (hl : low + L ≤ q) (ht : t < L) : inA p q low ((low : Int) + L - 1) ((low : Int) + t) i = true ↔ JmpAt L q t (dpN p q i) := by
  rw [← jmp_arc hl ht (dp_lt hq i)]
  unfold inA
  rw [Bool.and_eq_true, decide_eq_true_eq, decide_eq_true_eq, arc_mod]
  omega
theorem rtTo_first {p q a b f : Int} {n : Nat} : ∀ (m i : Nat), i ≤ n → n < i + m → inA p q a b f n = true → (∀ j, i ≤ j → j < n → inA p q a b f j = false) → rtTo p q a b f i m = (n : Int)
  | 0, i, h1, h2, _, _ => absurd h2 (by omega)
  | m + 1, i, h1, h2, hn, hno => by
    unfold rtTo
    by_cases e : i = n
    · subst e
      rw [if_pos hn]
    · rw [if_neg (by rw [hno i (Nat.le_refl _) (by omega)]; decide)]
      exact rtTo_first m (i + 1) (by omega) (by omega) hn fun j hj1 hj2 => hno j (by omega) hj2
theorem rt_says {p q low L t : Nat} (hq : 1 ≤ q) (hq2 : q ≤ 1000) (hp : p < q) (hl : low + L ≤ q) (ht : t < L) : ∃ n, RetAt p q L t n ∧ n ≤ q ∧ rtT p q low ((low : Int) + L - 1) ((low : Int) + t) = (n : Int) ∧ inA p q low ((low : Int) + L - 1) ((low : Int) + t) n = true := by
  obtain ⟨n, hr, hn⟩ := ret_some (p := p) hq ht
  obtain ⟨h1, h2, h3⟩ := hr
  have hin := (inA_jmp (p := p) (i := n) hq hl ht).2 h2
  refine ⟨n, ⟨h1, h2, h3⟩, hn, ?_, hin⟩
  have hok : rtOkF p q low ((low : Int) + L - 1) ((low : Int) + t) = true := by
    unfold rtOkF arOk
    simp only [Bool.and_eq_true, decide_eq_true_eq]
    omega
  unfold rtT
  rw [if_pos hok]
  refine rtTo_first 1000 1 h1 (by omega) hin fun j hj1 hj2 => ?_
  rw [Bool.eq_false_iff]
  intro hc
  exact h3 j hj1 hj2 ((inA_jmp hq hl ht).1 hc)
theorem rs_asc (p q a b : Int) : ∀ k, AscI (rsTo p q a b k)
  | 0 => List.Pairwise.nil
  | k + 1 => by
    unfold rsTo
    split
    · exact inI_asc _ (rs_asc p q a b k)
    · exact rs_asc p q a b k
theorem rs_mem (p q a b x : Int) : ∀ k, x ∈ rsTo p q a b k ↔ ∃ t : Nat, t < k ∧ 0 < rtT p q a b (a + (t : Int)) ∧ x = rtT p q a b (a + (t : Int))
  | 0 => ⟨fun h => (by cases h), fun ⟨t, h, _⟩ => absurd h (by omega)⟩
  | k + 1 => by
    have ih := rs_mem p q a b x k
    unfold rsTo
    by_cases hc : 0 < rtT p q a b (a + (k : Int))
    · rw [if_pos hc, inI_mem, ih]
      constructor
      · rintro (e | ⟨t, h1, h2, h3⟩)
        · exact ⟨k, by omega, hc, e⟩
        · exact ⟨t, by omega, h2, h3⟩
      · rintro ⟨t, h1, h2, h3⟩
        by_cases e : t = k
        · subst e; exact .inl h3
        · exact .inr ⟨t, by omega, h2, h3⟩
    · rw [if_neg hc, ih]
      constructor
      · rintro ⟨t, h1, h2, h3⟩; exact ⟨t, by omega, h2, h3⟩
      · rintro ⟨t, h1, h2, h3⟩
        by_cases e : t = k
        · subst e; exact absurd h2 hc
        · exact ⟨t, by omega, h2, h3⟩
/-- the times of return into the places low to high -/
theorem rs_says {p q low high : Nat} (hq : 1 ≤ q) (hq2 : q ≤ 1000) (hp : p < q) (h1 : low ≤ high) (h2 : high < q) :
    (1 ≤ (rsR p q low high).length ∧ (rsR p q low high).length ≤ 3) ∧ (∀ x ∈ rsR p q low high, 1 ≤ x ∧ x ≤ 1000) ∧
    ∀ f : Nat, low ≤ f → f ≤ high → rtT p q low high f ∈ rsR p q low high ∧ (1 ≤ rtT p q low high f ∧ rtT p q low high f ≤ 1000) ∧ (low : Int) ≤ ((f : Int) + rtT p q low high f * (p : Int)) % (q : Int) ∧ ((f : Int) + rtT p q low high f * (p : Int)) % (q : Int) ≤ high := by
  obtain ⟨L, hL⟩ : ∃ L, high + 1 = low + L := ⟨high + 1 - low, by omega⟩
  have hhi : (high : Int) = (low : Int) + L - 1 := by omega
  have hR : rsR p q low high = rsTo p q low high L := by
    unfold rsR
    rw [if_pos]
    · congr 1
      omega
    · unfold arOk
      simp only [Bool.and_eq_true, decide_eq_true_eq]
      omega
  have hrt : ∀ t, t < L → ∃ n, RetAt p q L t n ∧ n ≤ q ∧ rtT p q low high ((low : Int) + t) = (n : Int) ∧ inA p q low high ((low : Int) + t) n = true := fun t ht => by
    rw [hhi]
    exact rt_says hq hq2 hp (by omega) ht
  obtain ⟨A, B, hAB⟩ := ret_three (p := p) (q := q) (L := L) hq (by omega)
  have hm := fun x => rs_mem p q low high x L
  have ha := rs_asc p q low high L
  rw [hR]
  have hfew : ∀ x ∈ rsTo p q low high L, x = (A : Int) ∨ x = (B : Int) ∨ x = (A : Int) + B := fun x hx => by
    obtain ⟨t, ht, _, e⟩ := (hm x).1 hx
    obtain ⟨n, hr, _, e2, _⟩ := hrt t ht
    have := hAB t n ht hr
    rw [e, e2]
    omega
  have hin : ∀ t, t < L → rtT p q low high ((low : Int) + t) ∈ rsTo p q low high L := fun t ht => by
    obtain ⟨n, hr, _, e2, _⟩ := hrt t ht
    exact (hm _).2 ⟨t, ht, by rw [e2]; have := hr.1; omega, rfl⟩
  refine ⟨⟨List.length_pos_of_mem (hin 0 (by omega)), few_three ha hfew⟩, fun x hx => ?_, fun f hf1 hf2 => ?_⟩
  · obtain ⟨t, ht, _, e⟩ := (hm x).1 hx
    obtain ⟨n, hr, hn, e2, _⟩ := hrt t ht
    have := hr.1
    rw [e, e2]
    omega
  · obtain ⟨t, rfl⟩ : ∃ t, f = low + t := ⟨f - low, by omega⟩
    have h3 := hin t (by omega)
    obtain ⟨n, hr, hn, e2, hin2⟩ := hrt t (by omega)
    have := hr.1
    rw [show ((low + t : Nat) : Int) = (low : Int) + t from rfl]
    refine ⟨h3, by rw [e2]; omega, ?_⟩
    rw [e2]
    unfold inA at hin2
    rw [Bool.and_eq_true, decide_eq_true_eq, decide_eq_true_eq] at hin2
    exact hin2
/-- all lie on the circle -/
theorem ci_all {p q : Nat} (hq : 1 ≤ q) : ∀ n, ciTo p q 0 ((q : Int) - 1) n = n
  | 0 => rfl
  | n + 1 => by
    have := dp_lt (p := p) hq n
    unfold ciTo
    rw [ci_all hq n, if_pos]
    rw [Bool.and_eq_true, decide_eq_true_eq, decide_eq_true_eq]
    omega
theorem ci_three {p q low high : Nat} (hq : 1 ≤ q) (h1 : low ≤ high) (h2 : high < q) : ∀ n, ciTo p q low high n + ciTo p q 0 ((low : Int) - 1) n + ciTo p q ((high : Int) + 1) ((q : Int) - 1) n = n
  | 0 => rfl
  | n + 1 => by
    have ih := ci_three (p := p) hq h1 h2 n
    have := dp_lt (p := p) hq n
    unfold ciTo
    generalize ciTo p q low high n = x at *
    generalize ciTo p q 0 ((low : Int) - 1) n = y at *
    generalize ciTo p q ((high : Int) + 1) ((q : Int) - 1) n = z at *
    have e1 : (decide ((low : Int) ≤ (dpN p q n : Int)) && decide ((dpN p q n : Int) ≤ high)) = decide (low ≤ dpN p q n ∧ dpN p q n ≤ high) := by
      rw [Bool.eq_iff_iff, Bool.and_eq_true, decide_eq_true_eq, decide_eq_true_eq, decide_eq_true_eq]
      omega
    have e2 : (decide ((0 : Int) ≤ (dpN p q n : Int)) && decide ((dpN p q n : Int) ≤ (low : Int) - 1)) = decide (dpN p q n < low) := by
      rw [Bool.eq_iff_iff, Bool.and_eq_true, decide_eq_true_eq, decide_eq_true_eq, decide_eq_true_eq]
      omega
    have e3 : (decide ((high : Int) + 1 ≤ (dpN p q n : Int)) && decide ((dpN p q n : Int) ≤ (q : Int) - 1)) = decide (high < dpN p q n) := by
      rw [Bool.eq_iff_iff, Bool.and_eq_true, decide_eq_true_eq, decide_eq_true_eq, decide_eq_true_eq]
      omega
    rw [e1, e2, e3]
    simp only [decide_eq_true_eq]
    split <;> split <;> split <;> omega
end Go.Proofs.Ytiikledbflgejaa

/- Plain facts on the digits of a text. No program in it. -/
namespace Go.Proofs.Ytiikledbflgejaa
open Go.RowKit

def isDigB (c : UInt8) : Bool := decide (48 ≤ c.toNat) && decide (c.toNat ≤ 57)
def isLowB (c : UInt8) : Bool := decide (97 ≤ c.toNat) && decide (c.toNat ≤ 122)
def digs (l : List UInt8) : Bool := l.all isDigB && !l.isEmpty

theorem take_snoc (s : ByteArray) (k : Nat) (h : k < s.size) : s.data.toList.take (k + 1) = s.data.toList.take k ++ [s[k]] := by
  rw [List.take_succ_eq_append_getElem (by simpa using h)]; rfl
theorem take_all (s : ByteArray) (k : Nat) (h : s.size ≤ k) : s.data.toList.take k = s.data.toList := List.take_of_length_le (by simpa using h)
theorem all_snoc {p : UInt8 → Bool} (s : ByteArray) (k : Nat) (h : k < s.size) (ha : (s.data.toList.take k).all p = true) (hp : p s[k] = true) : (s.data.toList.take (k + 1)).all p = true := by
  rw [take_snoc s k h, List.all_append, ha]; simp [hp]
theorem all_not {p : UInt8 → Bool} (s : ByteArray) (k : Nat) (h : k < s.size) (hp : p s[k] = false) : s.data.toList.all p = false := by
  have hm : s[k] ∈ s.data.toList := by
    have : s[k] = s.data.toList[k]'(by simpa using h) := rfl
    rw [this]; exact List.getElem_mem _
  exact List.all_eq_false.2 ⟨_, hm, by simp [hp]⟩
theorem digs_no (s : ByteArray) (k : Nat) (h : k < s.size) (hp : isDigB s[k] = false) : digs s.data.toList = false := by
  unfold digs; rw [all_not s k h hp]; rfl
theorem digs_end (s : ByteArray) (ha : (s.data.toList.take s.size).all isDigB = true) : digs s.data.toList = decide (0 < s.size) := by
  rw [take_all s _ (Nat.le_refl _)] at ha
  unfold digs; rw [ha]
  obtain ⟨⟨l⟩⟩ := s
  cases l <;> simp [ByteArray.size]
end Go.Proofs.Ytiikledbflgejaa
