/- Slices of slices of ints: what they read as; eqIntSS. -/
import Derived.Test.YtbbcdeknnfghkaaIntArgs
import Derived.Deep.RegionWith
namespace Go.Proofs.Ytbbcdeknnfghkaa
open Go.RowKit

/-- v is a slice whose elements are slices that read as the rows of m -/
def Mat (w : World) (v : Value) (m : List (List Int)) : Prop :=
  ∃ vs : List Value, Lst w v vs ∧ vs.length = m.length ∧ ∀ i (h : i < vs.length) (h' : i < m.length), Lst w vs[i] (ints m[i])
theorem Mat.below {w w' : World} {v : Value} {m : List (List Int)} (h : Mat w v m) (hb : Below w.heap.size w w') : Mat w' v m := by
  obtain ⟨vs, h1, h2, h3⟩ := h
  exact ⟨vs, h1.below hb, h2, fun i a b => (h3 i a b).below hb⟩
theorem Mat.drewN {w : World} {v : Value} {m : List (List Int)} (h : Mat w v m) (n : Nat) : Mat (w.drewN n) v m := h
theorem mat_slice {w : World} {v : Value} {m : List (List Int)} (h : Mat w v m) : ∃ A cap, v = .slice A m.length cap := by
  obtain ⟨vs, h1, h2, _⟩ := h
  obtain ⟨A, cap, e⟩ := lst_slice h1
  exact ⟨A, cap, by rw [e, h2]⟩
/-- the rows of a matrix in memory -/
theorem mat_rows {w : World} {v : Value} {m : List (List Int)} (h : Mat w v m) (h0 : 0 < m.length) : ∃ b off cap, v = .slice (some ⟨b, off, none⟩) m.length cap ∧ m.length ≤ cap ∧ cap ≤ maxLen ∧ ∀ k (hk : k < m.length), ∃ u, w.cell? ⟨b, off + k, none⟩ = some u ∧ Lst w u (ints m[k]) := by
  obtain ⟨vs, ⟨A, cap, e, hc1, hc2, h2⟩, h3, h4⟩ := h
  rcases h2 with h2 | ⟨b, off, rfl, h2⟩
  · rw [h2] at h3
    simp only [List.length_nil] at h3
    omega
  · refine ⟨b, off, cap, by rw [e, h3], by omega, hc2, fun k hk => ?_⟩
    have hk' : k < vs.length := by omega
    exact ⟨vs[k], h2 k _ (List.getElem?_eq_getElem hk'), h4 k hk' hk⟩

end Go.Proofs.Ytbbcdeknnfghkaa
