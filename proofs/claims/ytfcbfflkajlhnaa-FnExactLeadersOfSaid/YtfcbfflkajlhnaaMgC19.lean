/- Texts put together. -/
import Derived.Test.YtfcbfflkajlhnaaMgC12
import Derived.Test.YtfcbfflkajlhnaaMgC18
import Derived.Test.YtfcbfflkajlhnaaMgC13
/- CountAfter of the model. Conditions: lengths of at most 2^20. -/
namespace Go.Proofs.Ytfcbfflkajlhnaa
open Go.RowKit

/-- a matrix whose rows have one length, cell by cell -/
theorem mat_rect {w : World} {v : Value} {m : List (List Int)} {c : Nat} (h : Mat w v m) (hr : ∀ i (hi : i < m.length), m[i].length = c) (h0 : 0 < m.length) (hc : 0 < c) : ∃ b off cap, v = .slice (some ⟨b, off, none⟩) m.length cap ∧ ∀ k, k < m.length → ∃ b2 off2 cap2, w.cell? ⟨b, off + k, none⟩ = some (.slice (some ⟨b2, off2, none⟩) c cap2) ∧ ∀ j, j < c → w.cell? ⟨b2, off2 + j, none⟩ = some (.int .i64 (at2 m k j)) := by
  obtain ⟨b, off, cap, e, q1, q2, hrow⟩ := mat_rows h h0
  refine ⟨b, off, cap, e, fun k hk => ?_⟩
  obtain ⟨u, g1, ⟨A, cap2, e2, c1, c2, h2⟩⟩ := hrow k hk
  rw [ints_length, hr k hk] at e2
  replace h2 := h2.resolve_left (by
    intro e
    have := congrArg List.length e
    rw [ints_length, hr k hk] at this
    simp only [List.length_nil] at this
    omega)
  obtain ⟨b2, off2, rfl, h2⟩ := h2
  refine ⟨b2, off2, cap2, by rw [g1, e2], fun j hj => ?_⟩
  have hj' : j < m[k].length := by rw [hr k hk]; exact hj
  rw [at2_eq m k j hk hj']
  exact ints_at h2 j hj'
/-- a new slice of ints, and whether there is one -/
def IntsSaid (r : List Int) (ok : Bool) (w : World) (e : Ending) (w' : World) : Prop := ∃ v, e = .returned (.tuple #[v, .bool ok]) ∧ w'.ownsRow w.heap.size 3 1 v r.length (ints r) ∧ Below w.heap.size w w'
theorem intsSaid_no {r : List Int} {ok : Bool} {w w' : World} (h1 : r = []) (h2 : ok = false) (hb : Below w.heap.size w w') : IntsSaid r ok w (.returned (.tuple #[.slice none 0 0, .bool false])) w' :=
  ⟨_, by rw [h2], by rw [h1]; exact World.ownsRow_nil _ _ _ _, hb⟩
theorem own_ints_at {w : World} {B g cp n : Nat} {l : List Int} (h : w.ownsRow B 3 1 (.slice (some ⟨g, 0, none⟩) n cp) n (ints l)) (hl : l.length = n) (k : Nat) (hk : k < n) : w.cell? ⟨g, k, none⟩ = some (.int .i64 (l.getD k 0)) := by
  rw [h.cellAt k (by omega)]
  simp [ints, List.getD, List.getElem?_eq_getElem (show k < l.length by omega)]

theorem ints_one' (l : List Int) : ∀ u ∈ ints l, u.oneCell' = true := by
  intro u hu
  simp only [ints, List.mem_map] at hu
  obtain ⟨x, _, rfl⟩ := hu
  rfl

end Go.Proofs.Ytfcbfflkajlhnaa

/- l04Letter and LengthAfter of the model. Conditions: lengths of at most 2^20. -/
namespace Go.Proofs.Ytfcbfflkajlhnaa
open Go.RowKit
end Go.Proofs.Ytfcbfflkajlhnaa
