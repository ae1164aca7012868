/- Texts put together. -/
import Derived.Test.YtfcbfflkajlhnaaMgC17
import Derived.Test.YtfcbfflkajlhnaaMgC11
import Derived.Test.YtfcbfflkajlhnaaMgC8
import Derived.IntWalk
import Derived.Test.YtfcbfflkajlhnaaMgC9
/- What the model makes of a word under a substitution. Condition: the substitution and the word are valid. -/
namespace Go.Proofs.Ytfcbfflkajlhnaa
open Go.RowKit

def ApplySaid (l : List ByteArray) (s : ByteArray) (w : World) (e : Ending) (w' : World) : Prop :=
  Below w.heap.size w w' ∧ ∃ r : ByteArray, e = .returned (.string r) ∧ r.size ≤ 408 ∧ ((applyL l s.data.toList).length ≤ 400 → r = ⟨(applyL l s.data.toList).toArray⟩) ∧ (400 < (applyL l s.data.toList).length → 400 < r.size)

theorem lst_at {w : World} {v : Value} {l : List ByteArray} (h : Lst w v (strs l)) (h0 : 0 < l.length) : ∃ b off cap, v = .slice (some ⟨b, off, none⟩) l.length cap ∧ ∀ k (hk : k < l.length), w.cell? ⟨b, off + k, none⟩ = some (.string l[k]) := by
  obtain ⟨A, cap, h1, _, _, h2⟩ := h
  rw [strs_length] at h1
  rcases h2 with h2 | ⟨b, off, rfl, h2⟩
  · have := congrArg List.length h2
    rw [strs_length] at this
    simp only [List.length_nil] at this
    omega
  · exact ⟨b, off, cap, h1, fun k hk => strs_at h2 k hk⟩

end Go.Proofs.Ytfcbfflkajlhnaa

/- l04Matrix and MatrixOf of the model. Conditions: lengths of at most 2^20. -/
namespace Go.Proofs.Ytfcbfflkajlhnaa
open Go.RowKit
theorem matR_sum (l : List ByteArray) : sumN ((matR l).map List.length) ≤ 16 := by
  have h1 := matR_le l
  have h2 := sum_rect (m := matR l) (c := 4) (fun x hx => by
    unfold matR at hx
    split at hx
    · rename_i h
      obtain ⟨i, hi, rfl⟩ := List.mem_iff_getElem.1 hx
      rw [matL_at, rowL_length]
      exact (subst_parts h).2.1
    · simp at hx)
  omega
end Go.Proofs.Ytfcbfflkajlhnaa
