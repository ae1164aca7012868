/- Texts put together. -/
import Derived.Test.YtfcbfflkajlhnaaMgC29
import Derived.Test.YtfcbfflkajlhnaaMgC6
import Derived.Test.YtfcbfflkajlhnaaMgC8
import Derived.Test.YtfcbfflkajlhnaaMgC9
import Derived.Deep.RegionWith
import Derived.Test.YtfcbfflkajlhnaaMgC12
import Derived.Test.YtfcbfflkajlhnaaMgC17
/- A row of the program's squares cut; a square as a slice of slices. -/
namespace Go.Proofs.Ytfcbfflkajlhnaa
open Go.RowKit

/-- x[:k] of a row of a square -/
theorem cut_upto (b o k : Nat) (hk : k ≤ 4) (w : World) : (Instr.sliceAt 75 (.pointer (some ⟨b, o, none⟩)) none (some (.int .i64 (k : Int))) none).run Try.prog w = .ok (.slice (some ⟨b, o, none⟩) k 4) w := by
  have h1 : (0 : Int) ≤ k ∧ (k : Int) ≤ (4 : Nat) := by omega
  simp [Instr.sliceAt, Instr.sliceBounds, Instr.sliceBound, asIntOf, run_underlying Try.underlying75, Instr.sureAddr, hk, Addr.add]
/-- x[k:] of a row of a square -/
theorem cut_from (b o k : Nat) (hk : k < 4) (w : World) : (Instr.sliceAt 75 (.pointer (some ⟨b, o, none⟩)) (some (.int .i64 (k : Int))) none none).run Try.prog w = .ok (.slice (some ⟨b, o + k, none⟩) (4 - k) (4 - k)) w := by
  have h1 : (0 : Int) ≤ k ∧ (k : Int) ≤ (4 : Nat) := by omega
  have h2 : ¬ 4 = k := by omega
  simp [Instr.sliceAt, Instr.sliceBounds, Instr.sliceBound, asIntOf, run_underlying Try.underlying75, Instr.sureAddr, h2, Nat.le_of_lt hk, Addr.add]
/-- the first n rows and columns -/
def matOf (n : Nat) (f : Nat → Nat → Int) : List (List Int) := (List.range n).map fun i => (List.range n).map (f i)
theorem matOf_length (n : Nat) (f : Nat → Nat → Int) : (matOf n f).length = n := by simp [matOf]
theorem matOf_at (n : Nat) (f : Nat → Nat → Int) (i : Nat) (h : i < (matOf n f).length) : (matOf n f)[i] = (List.range n).map (f i) := by simp [matOf]
theorem row_take (c : Nat → Int) (n : Nat) (hn : n ≤ 4) : ([c 0, c 1, c 2, c 3] : List Int).take n = (List.range n).map c := by
  rcases (by omega : n = 0 ∨ n = 1 ∨ n = 2 ∨ n = 3 ∨ n = 4) with rfl | rfl | rfl | rfl | rfl <;> rfl
/-- the cells of a row of a square, as they are asked for by the library's functions -/
theorem Arr.rowCells {w : World} {B : Nat} {T : TypeId} {b : Nat} {n : Int} {f : Nat → Nat → Int} (h : Arr w B T b (sqA n f)) (i : Nat) (hi : i < 4) : ∀ j, j < ([f i 0, f i 1, f i 2, f i 3] : List Int).length → w.cell? ⟨b, 1 + i * 4 + j, none⟩ = some (.int .i64 (([f i 0, f i 1, f i 2, f i 3] : List Int).getD j 0)) := by
  intro j hj
  have hj4 : j < 4 := by simpa using hj
  rw [h.cell _ _ (sqA_get n f i j hi hj4)]
  rcases four_cases hj4 with rfl | rfl | rfl | rfl <;> rfl

end Go.Proofs.Ytfcbfflkajlhnaa

/- l04Square and TraceOf of the model. Conditions: lengths that an int holds. -/
namespace Go.Proofs.Ytfcbfflkajlhnaa
open Go.RowKit
/-- a row of a square matrix, cell by cell -/
theorem sq_row {w : World} {v : Value} {m : List (List Int)} (h : Mat w v m) (hs : sqB m = true) : ∃ b off cap, v = .slice (some ⟨b, off, none⟩) m.length cap ∧ m.length ≤ cap ∧ ∀ k, k < m.length → ∃ b2 off2 cap2, w.cell? ⟨b, off + k, none⟩ = some (.slice (some ⟨b2, off2, none⟩) m.length cap2) ∧ m.length ≤ cap2 ∧ cap2 ≤ maxLen ∧ ∀ j, j < m.length → w.cell? ⟨b2, off2 + j, none⟩ = some (.int .i64 (at2 m k j)) := by
  obtain ⟨h1, h4, h5, _⟩ := sq_parts hs
  obtain ⟨b, off, cap, e, q1, q2, hr⟩ := mat_rows h (by omega)
  refine ⟨b, off, cap, e, q1, fun k hk => ?_⟩
  obtain ⟨u, g1, ⟨A, cap2, e2, c1, c2, h2⟩⟩ := hr k hk
  rw [ints_length, h5 k hk] at e2 c1
  replace h2 := h2.resolve_left (by
    intro e
    have := congrArg List.length e
    rw [ints_length, h5 k hk] at this
    simp only [List.length_nil] at this
    omega)
  obtain ⟨b2, off2, rfl, h2⟩ := h2
  refine ⟨b2, off2, cap2, by rw [g1, e2], c1, c2, fun j hj => ?_⟩
  have hj' : j < m[k].length := by rw [h5 k hk]; exact hj
  rw [at2_eq m k j hk hj']
  exact ints_at h2 j hj'

theorem at2_small {m : List (List Int)} (hs : sqB m = true) (i k : Nat) (hi : i < m.length) (hk : k < m.length) : -100 ≤ at2 m i k ∧ at2 m i k ≤ 100 := by
  obtain ⟨_, _, h5, h6⟩ := sq_parts hs
  have hk' : k < m[i].length := by rw [h5 i hi]; exact hk
  rw [at2_eq m i k hi hk']
  exact h6 i hi k hk'
theorem trTo_bound {m : List (List Int)} (hs : sqB m = true) : ∀ k, k ≤ m.length → -(100 * k : Int) ≤ trTo m k ∧ trTo m k ≤ 100 * k
  | 0, _ => by simp [trTo]
  | k + 1, h => by
    have ih := trTo_bound hs k (by omega)
    have := at2_small hs k k (by omega) (by omega)
    unfold trTo
    omega

end Go.Proofs.Ytfcbfflkajlhnaa
