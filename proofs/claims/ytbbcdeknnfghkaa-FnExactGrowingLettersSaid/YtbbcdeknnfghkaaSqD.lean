/- A row of the program's squares cut; a square as a slice of slices. -/
import Derived.Test.YtbbcdeknnfghkaaSqC
import Derived.Test.YtbbcdeknnfghkaaMatOwn
import Derived.Test.YtbbcdeknnfghkaaGrowMat
import Derived.Test.YtbbcdeknnfghkaaMatLaw
import Derived.Test.YtbbcdeknnfghkaaShelf
import Derived.Deep.RegionWith
namespace Go.Proofs.Ytbbcdeknnfghkaa
open Go.RowKit

/-- x[:k] of a row of a square -/
theorem cut_upto (b o k : Nat) (hk : k ≤ 4) (w : World) : (Instr.sliceAt 72 (.pointer (some ⟨b, o, none⟩)) none (some (.int .i64 (k : Int))) none).run Try.prog w = .ok (.slice (some ⟨b, o, none⟩) k 4) w := by
  have h1 : (0 : Int) ≤ k ∧ (k : Int) ≤ (4 : Nat) := by omega
  simp [Instr.sliceAt, Instr.sliceBounds, Instr.sliceBound, asIntOf, run_underlying Try.underlying72, Instr.sureAddr, hk, Addr.add]
/-- x[k:] of a row of a square -/
theorem cut_from (b o k : Nat) (hk : k < 4) (w : World) : (Instr.sliceAt 72 (.pointer (some ⟨b, o, none⟩)) (some (.int .i64 (k : Int))) none none).run Try.prog w = .ok (.slice (some ⟨b, o + k, none⟩) (4 - k) (4 - k)) w := by
  have h1 : (0 : Int) ≤ k ∧ (k : Int) ≤ (4 : Nat) := by omega
  have h2 : ¬ 4 = k := by omega
  simp [Instr.sliceAt, Instr.sliceBounds, Instr.sliceBound, asIntOf, run_underlying Try.underlying72, Instr.sureAddr, h2, Nat.le_of_lt hk, Addr.add]
/-- the first n rows and columns -/
def matOf (n : Nat) (f : Nat → Nat → Int) : List (List Int) := (List.range n).map fun i => (List.range n).map (f i)
theorem matOf_length (n : Nat) (f : Nat → Nat → Int) : (matOf n f).length = n := by simp [matOf]
theorem matOf_at (n : Nat) (f : Nat → Nat → Int) (i : Nat) (h : i < (matOf n f).length) : (matOf n f)[i] = (List.range n).map (f i) := by simp [matOf]
theorem row_take (c : Nat → Int) (n : Nat) (hn : n ≤ 4) : ([c 0, c 1, c 2, c 3] : List Int).take n = (List.range n).map c := by
  rcases (by omega : n = 0 ∨ n = 1 ∨ n = 2 ∨ n = 3 ∨ n = 4) with rfl | rfl | rfl | rfl | rfl <;> rfl
/-- the cells of a row of a square, as they are asked for by the library's functions -/
theorem Arr.rowCells {w : World} {B : Nat} {T : TypeId} {b : Nat} {n : Int} {f : Nat → Nat → Int} (h : Arr w B T b (sqA n f)) (i : Nat) (hi : i < 4) : ∀ j, j < ([f i 0, f i 1, f i 2, f i 3] : List Int).length → w.cell? ⟨b, 1 + i * 4 + j, none⟩ = some (.int .i64 (([f i 0, f i 1, f i 2, f i 3] : List Int).getD j 0)) := by
  intro j hj
  have hj4 : j < 4 := by simpa using hj
  rw [h.cell _ _ (sqA_get n f i j hi hj4)]
  rcases four_cases hj4 with rfl | rfl | rfl | rfl <;> rfl

end Go.Proofs.Ytbbcdeknnfghkaa
