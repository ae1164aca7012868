/- The laws' own helpers on slices of ints: eqIntS, markIntS, heldIntS, as contracts. Conditions: lengths as Go has them. -/
import Derived.Test.YtbbcdeknnfghkaaChecked
import Derived.Test.YtbbcdeknnfghkaaLst
import Derived.Deep.QuietTactic
import Derived.BigQuiet
namespace Go.Proofs.Ytbbcdeknnfghkaa
open Go.RowKit

def ints (l : List Int) : List Value := l.map (Value.int .i64)
theorem ints_length (l : List Int) : (ints l).length = l.length := by simp [ints]
theorem ints_snoc (l : List Int) (x : Int) : ints (l ++ [x]) = ints l ++ [.int .i64 x] := by simp [ints]
theorem ints_at {w : World} {b off : Nat} {l : List Int} (h : ∀ (i : Nat) u, (ints l)[i]? = some u → w.cell? ⟨b, off + i, none⟩ = some u) (k : Nat) (hk : k < l.length) : w.cell? ⟨b, off + k, none⟩ = some (.int .i64 l[k]) :=
  h k _ (by simp [ints, hk])
theorem int_info : (Try.prog.info? 3).map (fun i => (i.zero, i.size, i.bytes)) = some (some (.int .i64 0), 1, 8) := by kernel_rfl

/-- the n numbers from k on -/
def upto (k : Int) (n : Nat) : List Int := (List.range n).map fun (i : Nat) => k + (i : Int)
theorem upto_length (k : Int) (n : Nat) : (upto k n).length = n := by simp [upto]
theorem upto_at (k : Int) (n i : Nat) (h : i < n) : (upto k n)[i]'(by simpa [upto] using h) = k + i := by simp [upto]
theorem upto_succ (k : Int) (n : Nat) : ints (upto k (n + 1)) = ints (upto k n) ++ [.int .i64 (k + n)] := by simp [upto, ints, List.range_succ]

end Go.Proofs.Ytbbcdeknnfghkaa
