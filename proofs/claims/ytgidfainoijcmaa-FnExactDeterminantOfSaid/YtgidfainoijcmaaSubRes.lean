/- A struct of one slice of strings as a result; small facts on new rows. No condition. -/
import Derived.Test.YtgidfainoijcmaaSubstOk
import Derived.Test.YtgidfainoijcmaaStepOwn
import Derived.Test.YtgidfainoijcmaaStrInfo
namespace Go.Proofs.Ytgidfainoijcmaa
open Go.RowKit

/-- a struct of one slice of strings, and whether there is one -/
def SubSaid (r : List ByteArray) (ok : Bool) (w : World) (e : Ending) (w' : World) : Prop := ∃ v, e = .returned (.tuple #[.agg #[v], .bool ok]) ∧ w'.ownsRow w.heap.size 9 1 v r.length (strs r) ∧ Below w.heap.size w w'
theorem cell_one (w : World) (e : TypeId) (y : Value) (j : Nat) (u : Value) (hu : [y][j]? = some u) : (w.alloc (.cells #[y] e)).cell? ((⟨w.heap.size, 0, none⟩ : Addr).add j) = some u := by
  rcases j with _ | j
  · simp at hu
    subst hu
    rw [Addr.add_lit, World.cell?_alloc_at _ _ _ _ (by simp)]
    rfl
  · simp at hu
theorem build_zero (w : World) : (Instr.build 25 #[]).run Try.prog w = .ok (.agg #[.slice none 0 0]) w := run_build w _ _ _ (by kernel_rfl)
theorem build_sub (A : Option Addr) (n c : Nat) (w : World) : (Instr.build 25 #[(0, .slice A n c)]).run Try.prog w = .ok (.agg #[.slice A n c]) w := run_build w _ _ _ (by kernel_rfl)
end Go.Proofs.Ytgidfainoijcmaa
