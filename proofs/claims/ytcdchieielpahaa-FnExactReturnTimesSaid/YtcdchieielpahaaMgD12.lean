/- Texts put together. -/
import Derived.Test.YtcdchieielpahaaMgD7
import Derived.Test.YtcdchieielpahaaMgD11
import Derived.Test.YtcdchieielpahaaMgD4
import Derived.IntWalk
import Derived.Test.YtcdchieielpahaaMgD8
import Derived.Test.YtcdchieielpahaaMgD5
/- What the model makes of a word under a substitution. Condition: the substitution and the word are valid. -/
namespace Go.Proofs.Ytcdchieielpahaa
open Go.RowKit

def ApplySaid (l : List ByteArray) (s : ByteArray) (w : World) (e : Ending) (w' : World) : Prop :=
  Below w.heap.size w w' ∧ ∃ r : ByteArray, e = .returned (.string r) ∧ r.size ≤ 408 ∧ ((applyL l s.data.toList).length ≤ 400 → r = ⟨(applyL l s.data.toList).toArray⟩) ∧ (400 < (applyL l s.data.toList).length → 400 < r.size)

theorem lst_at {w : World} {v : Value} {l : List ByteArray} (h : Lst w v (strs l)) (h0 : 0 < l.length) : ∃ b off cap, v = .slice (some ⟨b, off, none⟩) l.length cap ∧ ∀ k (hk : k < l.length), w.cell? ⟨b, off + k, none⟩ = some (.string l[k]) := by
  obtain ⟨A, cap, h1, _, _, h2⟩ := h
  rw [strs_length] at h1
  rcases h2 with h2 | ⟨b, off, rfl, h2⟩
  · have := congrArg List.length h2
    rw [strs_length] at this
    simp only [List.length_nil] at this
    omega
  · exact ⟨b, off, cap, h1, fun k hk => strs_at h2 k hk⟩

end Go.Proofs.Ytcdchieielpahaa

/- l04Matrix and MatrixOf of the model. Conditions: lengths of at most 2^20. -/
namespace Go.Proofs.Ytcdchieielpahaa
open Go.RowKit
theorem matR_sum (l : List ByteArray) : sumN ((matR l).map List.length) ≤ 16 := by
  have h1 := matR_le l
  have h2 := sum_rect (m := matR l) (c := 4) (fun x hx => by
    unfold matR at hx
    split at hx
    · rename_i h
      obtain ⟨i, hi, rfl⟩ := List.mem_iff_getElem.1 hx
      rw [matL_at, rowL_length]
      exact (subst_parts h).2.1
    · simp at hx)
  omega
end Go.Proofs.Ytcdchieielpahaa

/- CountAfter of the model. Conditions: lengths of at most 2^20. -/
namespace Go.Proofs.Ytcdchieielpahaa
open Go.RowKit

/-- a matrix whose rows have one length, cell by cell -/
theorem mat_rect {w : World} {v : Value} {m : List (List Int)} {c : Nat} (h : Mat w v m) (hr : ∀ i (hi : i < m.length), m[i].length = c) (h0 : 0 < m.length) (hc : 0 < c) : ∃ b off cap, v = .slice (some ⟨b, off, none⟩) m.length cap ∧ ∀ k, k < m.length → ∃ b2 off2 cap2, w.cell? ⟨b, off + k, none⟩ = some (.slice (some ⟨b2, off2, none⟩) c cap2) ∧ ∀ j, j < c → w.cell? ⟨b2, off2 + j, none⟩ = some (.int .i64 (at2 m k j)) := by
  obtain ⟨b, off, cap, e, q1, q2, hrow⟩ := mat_rows h h0
  refine ⟨b, off, cap, e, fun k hk => ?_⟩
  obtain ⟨u, g1, ⟨A, cap2, e2, c1, c2, h2⟩⟩ := hrow k hk
  rw [ints_length, hr k hk] at e2
  replace h2 := h2.resolve_left (by
    intro e
    have := congrArg List.length e
    rw [ints_length, hr k hk] at this
    simp only [List.length_nil] at this
    omega)
  obtain ⟨b2, off2, rfl, h2⟩ := h2
  refine ⟨b2, off2, cap2, by rw [g1, e2], fun j hj => ?_⟩
  have hj' : j < m[k].length := by rw [hr k hk]; exact hj
  rw [at2_eq m k j hk hj']
  exact ints_at h2 j hj'
/-- a new slice of ints, and whether there is one -/
def IntsSaid (r : List Int) (ok : Bool) (w : World) (e : Ending) (w' : World) : Prop := ∃ v, e = .returned (.tuple #[v, .bool ok]) ∧ w'.ownsRow w.heap.size 3 1 v r.length (ints r) ∧ Below w.heap.size w w'
theorem intsSaid_no {r : List Int} {ok : Bool} {w w' : World} (h1 : r = []) (h2 : ok = false) (hb : Below w.heap.size w w') : IntsSaid r ok w (.returned (.tuple #[.slice none 0 0, .bool false])) w' :=
  ⟨_, by rw [h2], by rw [h1]; exact World.ownsRow_nil _ _ _ _, hb⟩
theorem own_ints_at {w : World} {B g cp n : Nat} {l : List Int} (h : w.ownsRow B 3 1 (.slice (some ⟨g, 0, none⟩) n cp) n (ints l)) (hl : l.length = n) (k : Nat) (hk : k < n) : w.cell? ⟨g, k, none⟩ = some (.int .i64 (l.getD k 0)) := by
  rw [h.cellAt k (by omega)]
  simp [ints, List.getD, List.getElem?_eq_getElem (show k < l.length by omega)]

theorem ints_one' (l : List Int) : ∀ u ∈ ints l, u.oneCell' = true := by
  intro u hu
  simp only [ints, List.mem_map] at hu
  obtain ⟨x, _, rfl⟩ := hu
  rfl

end Go.Proofs.Ytcdchieielpahaa

/- l04Letter and LengthAfter of the model. Conditions: lengths of at most 2^20. -/
namespace Go.Proofs.Ytcdchieielpahaa
open Go.RowKit
end Go.Proofs.Ytcdchieielpahaa
