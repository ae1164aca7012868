/- Texts put together. -/
import Derived.Test.YtfcbfflkajlhnaaMgT22
import Derived.Deep.DeepCutAuto
import Derived.Deep.RegionWith
import Derived.Test.YtfcbfflkajlhnaaMgT7
import Derived.Test.YtfcbfflkajlhnaaMgT8
import Derived.Test.YtfcbfflkajlhnaaMgT11
import Derived.Test.YtfcbfflkajlhnaaMgT19
import Derived.Test.YtfcbfflkajlhnaaMgT4
/- Marks of the program's squares, and the square of ones. -/
namespace Go.Proofs.Ytfcbfflkajlhnaa
open Go.RowKit

theorem build_sq (n : Int) (w : World) : (Instr.build 78 #[(0, .int .i64 n)]).run Try.prog w = .ok (.agg (sqA n fun _ _ => 0)) w := run_build w _ _ _ (by kernel_rfl)
theorem build_sq0 (w : World) : (Instr.build 78 #[]).run Try.prog w = .ok (.agg (sqA 0 fun _ _ => 0)) w := run_build w _ _ _ (by kernel_rfl)
theorem sqA_zero (n : Int) (f : Nat → Nat → Int) : (sqA n f)[0]? = some (.int .i64 n) := rfl
/-- the seventeen cells of a square, one by one -/
theorem Arr.cells17 {w : World} {B : Nat} {T : TypeId} {b : Nat} {n : Int} {f : Nat → Nat → Int} (h : Arr w B T b (sqA n f)) : w.cell? ⟨b, 0, none⟩ = some (.int .i64 n) ∧ w.cell? ⟨b, 1, none⟩ = some (.int .i64 (f 0 0)) ∧ w.cell? ⟨b, 2, none⟩ = some (.int .i64 (f 0 1)) ∧ w.cell? ⟨b, 3, none⟩ = some (.int .i64 (f 0 2)) ∧ w.cell? ⟨b, 4, none⟩ = some (.int .i64 (f 0 3)) ∧ w.cell? ⟨b, 5, none⟩ = some (.int .i64 (f 1 0)) ∧ w.cell? ⟨b, 6, none⟩ = some (.int .i64 (f 1 1)) ∧ w.cell? ⟨b, 7, none⟩ = some (.int .i64 (f 1 2)) ∧ w.cell? ⟨b, 8, none⟩ = some (.int .i64 (f 1 3)) ∧ w.cell? ⟨b, 9, none⟩ = some (.int .i64 (f 2 0)) ∧ w.cell? ⟨b, 10, none⟩ = some (.int .i64 (f 2 1)) ∧ w.cell? ⟨b, 11, none⟩ = some (.int .i64 (f 2 2)) ∧ w.cell? ⟨b, 12, none⟩ = some (.int .i64 (f 2 3)) ∧ w.cell? ⟨b, 13, none⟩ = some (.int .i64 (f 3 0)) ∧ w.cell? ⟨b, 14, none⟩ = some (.int .i64 (f 3 1)) ∧ w.cell? ⟨b, 15, none⟩ = some (.int .i64 (f 3 2)) ∧ w.cell? ⟨b, 16, none⟩ = some (.int .i64 (f 3 3)) :=
  ⟨h.cell 0 _ rfl, h.cell 1 _ rfl, h.cell 2 _ rfl, h.cell 3 _ rfl, h.cell 4 _ rfl, h.cell 5 _ rfl, h.cell 6 _ rfl, h.cell 7 _ rfl, h.cell 8 _ rfl, h.cell 9 _ rfl, h.cell 10 _ rfl, h.cell 11 _ rfl, h.cell 12 _ rfl, h.cell 13 _ rfl, h.cell 14 _ rfl, h.cell 15 _ rfl, h.cell 16 _ rfl⟩
/-- the square while column by column is laid: the columns before k, and of column k the numbers before i -/
def colsTo (D : Nat → Nat → Int) (k i : Nat) : Nat → Nat → Int := fun a c => if c < k ∨ (c = k ∧ a < i) then D a c else 0
theorem colsTo_succ (D : Nat → Nat → Int) (k i : Nat) : upd2 (colsTo D k i) i k (D i k) = colsTo D k (i + 1) := by
  funext a c
  unfold upd2 colsTo
  by_cases h : a = i ∧ c = k
  · obtain ⟨rfl, rfl⟩ := h
    simp
  · rw [if_neg h]
    have e : (c < k ∨ (c = k ∧ a < i)) ↔ (c < k ∨ (c = k ∧ a < i + 1)) := by omega
    simp only [e]
theorem colsTo_next (D : Nat → Nat → Int) (n : Int) (k : Nat) : sqA n (colsTo D k 4) = sqA n (colsTo D (k + 1) 0) := by
  refine sqA_congr fun a c ha hc => ?_
  unfold colsTo
  have e : (c < k ∨ (c = k ∧ a < 4)) ↔ (c < k + 1 ∨ (c = k + 1 ∧ a < 0)) := by omega
  simp only [e]
theorem colsTo_zero (D : Nat → Nat → Int) : colsTo D 0 0 = fun _ _ => 0 := by
  funext a c
  unfold colsTo
  rw [if_neg (by omega)]
theorem colsTo_end (D : Nat → Nat → Int) (n : Nat) : colsTo D n 0 = fun a c => if c < n then D a c else 0 := by
  funext a c
  unfold colsTo
  have e : (c < n ∨ (c = n ∧ a < 0)) ↔ c < n := by omega
  simp only [e]
/-- 1 for each number that is at least 1, else the number itself -/
def markF (f : Nat → Nat → Int) : Nat → Nat → Int := fun a c => if 1 < f a c then 1 else f a c
/-- the square while row by row is marked: the rows before i, and of row i the numbers before k -/
def rowsTo (D f : Nat → Nat → Int) (i k : Nat) : Nat → Nat → Int := fun a c => if a < i ∨ (a = i ∧ c < k) then D a c else f a c
theorem rowsTo_succ (D f : Nat → Nat → Int) (i k : Nat) : upd2 (rowsTo D f i k) i k (D i k) = rowsTo D f i (k + 1) := by
  funext a c
  unfold upd2 rowsTo
  by_cases h : a = i ∧ c = k
  · obtain ⟨rfl, rfl⟩ := h
    simp
  · rw [if_neg h]
    have e : (a < i ∨ (a = i ∧ c < k)) ↔ (a < i ∨ (a = i ∧ c < k + 1)) := by omega
    simp only [e]
theorem rowsTo_next (D f : Nat → Nat → Int) (n : Int) (i : Nat) : sqA n (rowsTo D f i 4) = sqA n (rowsTo D f (i + 1) 0) := by
  refine sqA_congr fun a c ha hc => ?_
  unfold rowsTo
  have e : (a < i ∨ (a = i ∧ c < 4)) ↔ (a < i + 1 ∨ (a = i + 1 ∧ c < 0)) := by omega
  simp only [e]
theorem rowsTo_zero (D f : Nat → Nat → Int) : rowsTo D f 0 0 = f := by
  funext a c
  unfold rowsTo
  rw [if_neg (by omega)]
theorem rowsTo_end (D f : Nat → Nat → Int) (n : Int) : sqA n (rowsTo D f 4 0) = sqA n D := by
  refine sqA_congr fun a c ha hc => ?_
  unfold rowsTo
  rw [if_pos (by omega)]

/-- 1 in the first n rows and columns -/
def onesF (n : Nat) : Nat → Nat → Int := fun a c => if a < n ∧ c < n then 1 else 0
def colOne (n : Nat) : Nat → Nat → Int := fun _ c => if c < n then 1 else 0
theorem ones_next (n i : Nat) : sqA n (rowsTo (colOne n) (fun _ _ => 0) i n) = sqA n (rowsTo (colOne n) (fun _ _ => 0) (i + 1) 0) := by
  refine sqA_congr fun a c ha hc => ?_
  unfold rowsTo colOne
  by_cases h : c < n
  · have e : (a < i ∨ (a = i ∧ c < n)) ↔ (a < i + 1 ∨ (a = i + 1 ∧ c < 0)) := by omega
    simp only [e]
  · rw [if_neg h]
    simp
theorem ones_end (n : Nat) : rowsTo (colOne n) (fun _ _ => 0) n 0 = onesF n := by
  funext a c
  unfold rowsTo onesF colOne
  by_cases h : c < n
  · have e : (a < n ∨ (a = n ∧ c < 0)) ↔ (a < n ∧ c < n) := by omega
    simp only [e, if_pos h]
  · rw [if_neg h, if_neg (by omega : ¬ (a < n ∧ c < n))]
    simp

end Go.Proofs.Ytfcbfflkajlhnaa

/- A row of the program's squares cut; a square as a slice of slices. -/
namespace Go.Proofs.Ytfcbfflkajlhnaa
open Go.RowKit

/-- x[:k] of a row of a square -/
theorem cut_upto (b o k : Nat) (hk : k ≤ 4) (w : World) : (Instr.sliceAt 75 (.pointer (some ⟨b, o, none⟩)) none (some (.int .i64 (k : Int))) none).run Try.prog w = .ok (.slice (some ⟨b, o, none⟩) k 4) w := by
  have h1 : (0 : Int) ≤ k ∧ (k : Int) ≤ (4 : Nat) := by omega
  simp [Instr.sliceAt, Instr.sliceBounds, Instr.sliceBound, asIntOf, run_underlying Try.underlying75, Instr.sureAddr, hk, Addr.add]
/-- x[k:] of a row of a square -/
theorem cut_from (b o k : Nat) (hk : k < 4) (w : World) : (Instr.sliceAt 75 (.pointer (some ⟨b, o, none⟩)) (some (.int .i64 (k : Int))) none none).run Try.prog w = .ok (.slice (some ⟨b, o + k, none⟩) (4 - k) (4 - k)) w := by
  have h1 : (0 : Int) ≤ k ∧ (k : Int) ≤ (4 : Nat) := by omega
  have h2 : ¬ 4 = k := by omega
  simp [Instr.sliceAt, Instr.sliceBounds, Instr.sliceBound, asIntOf, run_underlying Try.underlying75, Instr.sureAddr, h2, Nat.le_of_lt hk, Addr.add]
/-- the first n rows and columns -/
def matOf (n : Nat) (f : Nat → Nat → Int) : List (List Int) := (List.range n).map fun i => (List.range n).map (f i)
theorem matOf_length (n : Nat) (f : Nat → Nat → Int) : (matOf n f).length = n := by simp [matOf]
theorem matOf_at (n : Nat) (f : Nat → Nat → Int) (i : Nat) (h : i < (matOf n f).length) : (matOf n f)[i] = (List.range n).map (f i) := by simp [matOf]
theorem row_take (c : Nat → Int) (n : Nat) (hn : n ≤ 4) : ([c 0, c 1, c 2, c 3] : List Int).take n = (List.range n).map c := by
  rcases (by omega : n = 0 ∨ n = 1 ∨ n = 2 ∨ n = 3 ∨ n = 4) with rfl | rfl | rfl | rfl | rfl <;> rfl
/-- the cells of a row of a square, as they are asked for by the library's functions -/
theorem Arr.rowCells {w : World} {B : Nat} {T : TypeId} {b : Nat} {n : Int} {f : Nat → Nat → Int} (h : Arr w B T b (sqA n f)) (i : Nat) (hi : i < 4) : ∀ j, j < ([f i 0, f i 1, f i 2, f i 3] : List Int).length → w.cell? ⟨b, 1 + i * 4 + j, none⟩ = some (.int .i64 (([f i 0, f i 1, f i 2, f i 3] : List Int).getD j 0)) := by
  intro j hj
  have hj4 : j < 4 := by simpa using hj
  rw [h.cell _ _ (sqA_get n f i j hi hj4)]
  rcases four_cases hj4 with rfl | rfl | rfl | rfl <;> rfl

end Go.Proofs.Ytfcbfflkajlhnaa

/- l04Square and TraceOf of the model. Conditions: lengths that an int holds. -/
namespace Go.Proofs.Ytfcbfflkajlhnaa
open Go.RowKit
/-- a row of a square matrix, cell by cell -/
theorem sq_row {w : World} {v : Value} {m : List (List Int)} (h : Mat w v m) (hs : sqB m = true) : ∃ b off cap, v = .slice (some ⟨b, off, none⟩) m.length cap ∧ m.length ≤ cap ∧ ∀ k, k < m.length → ∃ b2 off2 cap2, w.cell? ⟨b, off + k, none⟩ = some (.slice (some ⟨b2, off2, none⟩) m.length cap2) ∧ m.length ≤ cap2 ∧ cap2 ≤ maxLen ∧ ∀ j, j < m.length → w.cell? ⟨b2, off2 + j, none⟩ = some (.int .i64 (at2 m k j)) := by
  obtain ⟨h1, h4, h5, _⟩ := sq_parts hs
  obtain ⟨b, off, cap, e, q1, q2, hr⟩ := mat_rows h (by omega)
  refine ⟨b, off, cap, e, q1, fun k hk => ?_⟩
  obtain ⟨u, g1, ⟨A, cap2, e2, c1, c2, h2⟩⟩ := hr k hk
  rw [ints_length, h5 k hk] at e2 c1
  replace h2 := h2.resolve_left (by
    intro e
    have := congrArg List.length e
    rw [ints_length, h5 k hk] at this
    simp only [List.length_nil] at this
    omega)
  obtain ⟨b2, off2, rfl, h2⟩ := h2
  refine ⟨b2, off2, cap2, by rw [g1, e2], c1, c2, fun j hj => ?_⟩
  have hj' : j < m[k].length := by rw [h5 k hk]; exact hj
  rw [at2_eq m k j hk hj']
  exact ints_at h2 j hj'

theorem at2_small {m : List (List Int)} (hs : sqB m = true) (i k : Nat) (hi : i < m.length) (hk : k < m.length) : -100 ≤ at2 m i k ∧ at2 m i k ≤ 100 := by
  obtain ⟨_, _, h5, h6⟩ := sq_parts hs
  have hk' : k < m[i].length := by rw [h5 i hi]; exact hk
  rw [at2_eq m i k hi hk']
  exact h6 i hi k hk'
theorem trTo_bound {m : List (List Int)} (hs : sqB m = true) : ∀ k, k ≤ m.length → -(100 * k : Int) ≤ trTo m k ∧ trTo m k ≤ 100 * k
  | 0, _ => by simp [trTo]
  | k + 1, h => by
    have ih := trTo_bound hs k (by omega)
    have := at2_small hs k k (by omega) (by omega)
    unfold trTo
    omega

end Go.Proofs.Ytfcbfflkajlhnaa
