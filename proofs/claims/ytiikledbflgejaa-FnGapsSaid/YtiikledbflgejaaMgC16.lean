/- Texts put together. -/
import Derived.Test.YtiikledbflgejaaMgC15
import Derived.Test.YtiikledbflgejaaMgC7
import Derived.Test.YtiikledbflgejaaMgC5
import Derived.Test.YtiikledbflgejaaMgC4
import Derived.Test.YtiikledbflgejaaMgC11
/- Chapter 12 of the model: GapsOf. No condition. -/
namespace Go.Proofs.Ytiikledbflgejaa
open Go.RowKit Go.Lib

theorem ptTo_range (p q n : Nat) : ∀ k, ∀ x ∈ ptTo p q n k, 0 ≤ x ∧ x < (k : Int)
  | 0, x, h => by cases h
  | k + 1, x, h => by
    have ih := ptTo_range p q n k
    unfold ptTo at h
    split at h
    · rcases List.mem_append.1 h with h | h
      · have := ih x h; omega
      · rw [List.mem_singleton] at h; omega
    · have := ih x h; omega
theorem pt_facts (p q n : Int) : (ptR p q n).length ≤ 1000 ∧ (∀ x ∈ ptR p q n, 0 ≤ x ∧ x < q ∧ q ≤ 1000) := by
  cases h1 : gpOk p q n
  · have hv : ptR p q n = [] := if_neg (by rw [h1]; decide)
    rw [hv]
    exact ⟨Nat.zero_le _, fun x h => by cases h⟩
  · have hv : ptR p q n = ptTo p.toNat q.toNat n.toNat q.toNat := if_pos h1
    obtain ⟨P, Q, N, rfl, rfl, rfl, q1, q2, p1, n1, n2⟩ := gp_parts h1
    rw [hv, Int.toNat_natCast, Int.toNat_natCast, Int.toNat_natCast]
    refine ⟨Nat.le_trans (ptTo_len P Q N Q) q2, fun x hx => ?_⟩
    have := ptTo_range P Q N Q x hx
    omega
theorem ds_next (q : Int) (l : List Int) (k : Nat) : dsTo q l (k + 1) = dsTo q l k ++ [if k + 1 < l.length then l.getD (k + 1) 0 - l.getD k 0 else q - l.getD k 0 + l.getD 0 0] := rfl
theorem ds_len (q : Int) (l : List Int) : ∀ k, (dsTo q l k).length = k
  | 0 => rfl
  | k + 1 => by rw [ds_next, List.length_append, ds_len q l k]; rfl
theorem ints_getD {l : List Int} {k : Nat} (h : k < l.length) : (ints l)[k]? = some (.int .i64 (l.getD k 0)) := by
  unfold ints
  rw [List.getElem?_map, List.getD_eq_getElem?_getD, List.getElem?_eq_getElem h]
  rfl
theorem getD_mem {l : List Int} {k : Nat} (h : k < l.length) : l.getD k 0 ∈ l := by
  rw [List.getD_eq_getElem?_getD, List.getElem?_eq_getElem h]
  exact List.getElem_mem h

end Go.Proofs.Ytiikledbflgejaa

/- l04Square and TraceOf of the model. Conditions: lengths that an int holds. -/
namespace Go.Proofs.Ytiikledbflgejaa
open Go.RowKit
/-- a row of a square matrix, cell by cell -/
theorem sq_row {w : World} {v : Value} {m : List (List Int)} (h : Mat w v m) (hs : sqB m = true) : ∃ b off cap, v = .slice (some ⟨b, off, none⟩) m.length cap ∧ m.length ≤ cap ∧ ∀ k, k < m.length → ∃ b2 off2 cap2, w.cell? ⟨b, off + k, none⟩ = some (.slice (some ⟨b2, off2, none⟩) m.length cap2) ∧ m.length ≤ cap2 ∧ cap2 ≤ maxLen ∧ ∀ j, j < m.length → w.cell? ⟨b2, off2 + j, none⟩ = some (.int .i64 (at2 m k j)) := by
  obtain ⟨h1, h4, h5, _⟩ := sq_parts hs
  obtain ⟨b, off, cap, e, q1, q2, hr⟩ := mat_rows h (by omega)
  refine ⟨b, off, cap, e, q1, fun k hk => ?_⟩
  obtain ⟨u, g1, ⟨A, cap2, e2, c1, c2, h2⟩⟩ := hr k hk
  rw [ints_length, h5 k hk] at e2 c1
  replace h2 := h2.resolve_left (by
    intro e
    have := congrArg List.length e
    rw [ints_length, h5 k hk] at this
    simp only [List.length_nil] at this
    omega)
  obtain ⟨b2, off2, rfl, h2⟩ := h2
  refine ⟨b2, off2, cap2, by rw [g1, e2], c1, c2, fun j hj => ?_⟩
  have hj' : j < m[k].length := by rw [h5 k hk]; exact hj
  rw [at2_eq m k j hk hj']
  exact ints_at h2 j hj'

theorem at2_small {m : List (List Int)} (hs : sqB m = true) (i k : Nat) (hi : i < m.length) (hk : k < m.length) : -100 ≤ at2 m i k ∧ at2 m i k ≤ 100 := by
  obtain ⟨_, _, h5, h6⟩ := sq_parts hs
  have hk' : k < m[i].length := by rw [h5 i hi]; exact hk
  rw [at2_eq m i k hi hk']
  exact h6 i hi k hk'
theorem trTo_bound {m : List (List Int)} (hs : sqB m = true) : ∀ k, k ≤ m.length → -(100 * k : Int) ≤ trTo m k ∧ trTo m k ≤ 100 * k
  | 0, _ => by simp [trTo]
  | k + 1, h => by
    have ih := trTo_bound hs k (by omega)
    have := at2_small hs k k (by omega) (by omega)
    unfold trTo
    omega

end Go.Proofs.Ytiikledbflgejaa

/- Determinants by the first row. No program in it. -/
namespace Go.Proofs.Ytiikledbflgejaa
open Go.RowKit

def sgnN (k : Nat) : Int := if k % 2 = 0 then 1 else -1
theorem sgnN_succ (k : Nat) : sgnN (k + 1) = -sgnN k := by
  unfold sgnN
  rcases Nat.mod_two_eq_zero_or_one k with h | h
  · rw [if_pos h, if_neg (show ¬ (k + 1) % 2 = 0 by omega)]
  · rw [if_pos (show (k + 1) % 2 = 0 by omega), if_neg (show ¬ k % 2 = 0 by omega)]; rfl
theorem sgnN_two (k : Nat) : sgnN k = 1 ∨ sgnN k = -1 := by
  unfold sgnN
  split
  · exact .inl rfl
  · exact .inr rfl
/-- a row without its number k -/
def cutR (k : Nat) (r : List Int) : List Int := r.take k ++ r.drop (k + 1)
def minorM (m : List (List Int)) (k : Nat) : List (List Int) := (m.drop 1).map (cutR k)
def sumTo (f : Nat → Int) : Nat → Int
  | 0 => 0
  | k + 1 => sumTo f k + f k
/-- the determinant of a matrix of n rows, by its first row -/
def detS : Nat → List (List Int) → Int
  | 0, _ => 1
  | n + 1, m => sumTo (fun k => sgnN k * at2 m 0 k * detS n (minorM m k)) (n + 1)
def SqN (n : Nat) (m : List (List Int)) : Prop := m.length = n ∧ (∀ i (h : i < m.length), m[i].length = n) ∧ ∀ i k, i < n → k < n → -100 ≤ at2 m i k ∧ at2 m i k ≤ 100
theorem sqN_of {m : List (List Int)} (h : sqB m = true) : SqN m.length m := ⟨rfl, (sq_parts h).2.2.1, fun i k hi hk => at2_small h i k hi hk⟩
theorem minorM_length (m : List (List Int)) (k : Nat) : (minorM m k).length = m.length - 1 := by simp [minorM]
theorem minorM_at (m : List (List Int)) (k i : Nat) (h : i < (minorM m k).length) (h' : i + 1 < m.length) : (minorM m k)[i] = cutR k m[i + 1] := by simp [minorM]
theorem cutR_length (k : Nat) (r : List Int) (h : k < r.length) : (cutR k r).length = r.length - 1 := by
  unfold cutR
  rw [List.length_append, List.length_take, List.length_drop]
  omega
theorem cutR_getD (k : Nat) (r : List Int) (h : k < r.length) (q : Nat) : (cutR k r).getD q 0 = r.getD (if q < k then q else q + 1) 0 := by
  unfold cutR
  rw [List.getD_eq_getElem?_getD, List.getD_eq_getElem?_getD]
  have hl : (r.take k).length = k := by rw [List.length_take]; omega
  by_cases hq : q < k
  · rw [if_pos hq, List.getElem?_append_left (by omega), List.getElem?_take, if_pos hq]
  · rw [if_neg hq, List.getElem?_append_right (by omega), hl, List.getElem?_drop]
    congr 2
    omega
theorem minor_at2 {n : Nat} {m : List (List Int)} (h : SqN (n + 1) m) (k : Nat) (hk : k < n + 1) (i q : Nat) (hi : i < n) : at2 (minorM m k) i q = at2 m (i + 1) (if q < k then q else q + 1) := by
  obtain ⟨h1, h2, _⟩ := h
  have hl : i < (minorM m k).length := by rw [minorM_length]; omega
  have hi1 : i + 1 < m.length := by omega
  unfold at2
  rw [List.getD_eq_getElem?_getD (l := minorM m k), List.getD_eq_getElem?_getD (l := m), List.getElem?_eq_getElem hl, List.getElem?_eq_getElem hi1, Option.getD_some, Option.getD_some, minorM_at m k i hl hi1]
  exact cutR_getD k _ (by rw [h2 _ hi1]; exact hk) q
theorem minor_sq {n : Nat} {m : List (List Int)} (h : SqN (n + 1) m) (k : Nat) (hk : k < n + 1) : SqN n (minorM m k) := by
  obtain ⟨h1, h2, h3⟩ := id h
  refine ⟨by rw [minorM_length]; omega, fun i hi => ?_, fun i q hi hq => ?_⟩
  · have hi1 : i + 1 < m.length := by rw [minorM_length] at hi; omega
    rw [minorM_at m k i hi hi1, cutR_length k _ (by rw [h2 _ hi1]; exact hk), h2 _ hi1]
    rfl
  · rw [minor_at2 h k hk i q hi]
    split
    · exact h3 _ _ (by omega) (by omega)
    · exact h3 _ _ (by omega) (by omega)
/-- how large a determinant of n rows can be -/
def detMax : Nat → Int
  | 0 => 1
  | n + 1 => (n + 1 : Nat) * (100 * detMax n)
theorem term_bound {n : Nat} {m : List (List Int)} (h : SqN (n + 1) m) (k : Nat) (hk : k < n + 1) {d D : Int} (hd : -D ≤ d ∧ d ≤ D) : (-100 ≤ sgnN k * at2 m 0 k ∧ sgnN k * at2 m 0 k ≤ 100) ∧ -(100 * D) ≤ sgnN k * at2 m 0 k * d ∧ sgnN k * at2 m 0 k * d ≤ 100 * D := by
  have h3 := h.2.2 0 k (by omega) hk
  have h1 : -100 ≤ sgnN k * at2 m 0 k ∧ sgnN k * at2 m 0 k ≤ 100 := by
    rcases sgnN_two k with e | e <;> rw [e] <;> omega
  exact ⟨h1, mul_bound h1 hd⟩
theorem sumTo_bound {f : Nat → Int} {D : Int} (n : Nat) (h : ∀ k, k < n → -D ≤ f k ∧ f k ≤ D) : ∀ k, k ≤ n → -(k * D) ≤ sumTo f k ∧ sumTo f k ≤ k * D
  | 0, _ => by simp [sumTo]
  | k + 1, hk => by
    have ih := sumTo_bound n h k (by omega)
    have hb := h k (by omega)
    have e : ((k + 1 : Nat) : Int) * D = k * D + D := by rw [Int.natCast_add, Int.add_mul]; simp
    rw [e]
    unfold sumTo
    omega
theorem det_bound : ∀ (n : Nat) (m : List (List Int)), SqN n m → -detMax n ≤ detS n m ∧ detS n m ≤ detMax n
  | 0, _, _ => by simp [detS, detMax]
  | n + 1, m, h => by
    have hb := sumTo_bound (f := fun k => sgnN k * at2 m 0 k * detS n (minorM m k)) (D := 100 * detMax n) (n + 1) (fun k hk => (term_bound h k hk (det_bound n _ (minor_sq h k hk))).2) (n + 1) (Nat.le_refl _)
    exact hb
/-- what DeterminantOf is to return -/
def detR (m : List (List Int)) : Int := if sqB m = true then detS m.length m else 0
end Go.Proofs.Ytiikledbflgejaa

/- A struct of one slice of strings as a result; small facts on new rows. No condition. -/
namespace Go.Proofs.Ytiikledbflgejaa
open Go.RowKit

/-- a struct of one slice of strings, and whether there is one -/
def SubSaid (r : List ByteArray) (ok : Bool) (w : World) (e : Ending) (w' : World) : Prop := ∃ v, e = .returned (.tuple #[.agg #[v], .bool ok]) ∧ w'.ownsRow w.heap.size 9 1 v r.length (strs r) ∧ Below w.heap.size w w'
theorem cell_one (w : World) (e : TypeId) (y : Value) (j : Nat) (u : Value) (hu : [y][j]? = some u) : (w.alloc (.cells #[y] e)).cell? ((⟨w.heap.size, 0, none⟩ : Addr).add j) = some u := by
  rcases j with _ | j
  · simp at hu
    subst hu
    rw [Addr.add_lit, World.cell?_alloc_at _ _ _ _ (by simp)]
    rfl
  · simp at hu
end Go.Proofs.Ytiikledbflgejaa
