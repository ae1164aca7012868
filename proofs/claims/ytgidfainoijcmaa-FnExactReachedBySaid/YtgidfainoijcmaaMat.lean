/- Slices of slices of ints: what they read as; eqIntSS. -/
import Derived.Test.YtgidfainoijcmaaIntArgs
import Derived.Deep.RegionWith
namespace Go.Proofs.Ytgidfainoijcmaa
open Go.RowKit

/-- v is a slice whose elements are slices that read as the rows of m -/
def Mat (w : World) (v : Value) (m : List (List Int)) : Prop :=
  ∃ vs : List Value, Lst w v vs ∧ vs.length = m.length ∧ ∀ i (h : i < vs.length) (h' : i < m.length), Lst w vs[i] (ints m[i])
theorem Mat.below {w w' : World} {v : Value} {m : List (List Int)} (h : Mat w v m) (hb : Below w.heap.size w w') : Mat w' v m := by
  obtain ⟨vs, h1, h2, h3⟩ := h
  exact ⟨vs, h1.below hb, h2, fun i a b => (h3 i a b).below hb⟩
theorem Mat.drewN {w : World} {v : Value} {m : List (List Int)} (h : Mat w v m) (n : Nat) : Mat (w.drewN n) v m := h
theorem mat_slice {w : World} {v : Value} {m : List (List Int)} (h : Mat w v m) : ∃ A cap, v = .slice A m.length cap := by
  obtain ⟨vs, h1, h2, _⟩ := h
  obtain ⟨A, cap, e⟩ := lst_slice h1
  exact ⟨A, cap, by rw [e, h2]⟩
/-- the rows of a matrix in memory -/
theorem mat_rows {w : World} {v : Value} {m : List (List Int)} (h : Mat w v m) (h0 : 0 < m.length) : ∃ b off cap, v = .slice (some ⟨b, off, none⟩) m.length cap ∧ m.length ≤ cap ∧ cap ≤ maxLen ∧ ∀ k (hk : k < m.length), ∃ u, w.cell? ⟨b, off + k, none⟩ = some u ∧ Lst w u (ints m[k]) := by
  obtain ⟨vs, ⟨A, cap, e, hc1, hc2, h2⟩, h3, h4⟩ := h
  rcases h2 with h2 | ⟨b, off, rfl, h2⟩
  · rw [h2] at h3
    simp only [List.length_nil] at h3
    omega
  · refine ⟨b, off, cap, by rw [e, h3], by omega, hc2, fun k hk => ?_⟩
    have hk' : k < vs.length := by omega
    exact ⟨vs[k], h2 k _ (List.getElem?_eq_getElem hk'), h4 k hk' hk⟩

set_option maxHeartbeats 400000 in
theorem eqIntSS_same (m : List (List Int)) (v1 v2 : Value) (w : World) (h1 : Mat w v1 m) (h2 : Mat w v2 m) :
    Calls Try.prog 28 #[v1, v2] w fun e w' => e = .returned (.bool true) ∧ ∃ n, w' = w.drewN n := by
  have hnn : ((m.length : Int) != (m.length : Int)) = false := by simp
  by_cases hl : m = []
  · subst hl
    obtain ⟨A, cap, rfl⟩ := mat_slice h1
    obtain ⟨A', cap', rfl⟩ := mat_slice h2
    go_enter Try.func28, Try.ntmps28
    go_wp2
    refine wp_loop_rounds 1 ?_
    rw [rounds_succ]
    go_wp2
    go_ret
    exact ⟨rfl, 0, rfl⟩
  have hpos : 0 < m.length := List.length_pos_iff.2 hl
  obtain ⟨b, off, cp, rfl, q1, q2, r1⟩ := mat_rows h1 hpos
  obtain ⟨b', off', cp', rfl, q1', q2', r2⟩ := mat_rows h2 hpos
  have H1 := Lib.hid r1
  have H2 := Lib.hid r2
  have hmax : m.length ≤ 9223372036854775807 := by unfold maxLen at q2; omega
  clear r1 r2 h1 h2 hl q1 q2 q1' q2'
  go_enter Try.func28, Try.ntmps28
  go_wp2
  go_loopw [5] (fun i w' => ∃ (k n : Nat), k ≤ m.length ∧ i = .int .i64 k ∧ w' = w.drewN n) (fun i _ => m.length - (intOf i).toNat)
  case atStart => exact ⟨0, 0, by omega, rfl, rfl⟩
  case round =>
    obtain ⟨k, n, hk, rfl, rfl⟩ := hrel
    by_cases hlt : k < m.length
    · obtain ⟨u1, g1, l1⟩ := H1.out k hlt
      obtain ⟨u2, g2, l2⟩ := H2.out k hlt
      have L1 := Lib.hid l1
      have L2 := Lib.hid l2
      clear l1 l2
      go_wp2_with fail
      go_region_with (go_at_call 36
                      refine (eqIntS_same m[k] u1 u2 _ (L1.out.drewN (n + 1)) (L2.out.drewN (n + 1))).mono ?_
                      rintro e w3 ⟨rfl, n3, rfl⟩)
      all_goals
        go_wp2_with fail
        go_roundw
        case rel => exact ⟨k + 1, n + 1 + n3, by omega, by go_num, rfl⟩
        case measure => simp [intOf]; omega
    · go_wp2_with fail
      go_ret
      exact ⟨rfl, n, rfl⟩
end Go.Proofs.Ytgidfainoijcmaa
