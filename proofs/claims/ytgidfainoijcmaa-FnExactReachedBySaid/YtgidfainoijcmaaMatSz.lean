/- szIntSS: a bound on all that a slice of slices of ints holds. -/
import Derived.Test.YtgidfainoijcmaaMatMark
import Derived.Deep.Matrix
namespace Go.Proofs.Ytgidfainoijcmaa
open Go.ChangeShapes Go.WideShapes Go.RowKit

def lens (m : List (List Int)) : List Nat := m.map List.length
theorem lens_at (m : List (List Int)) (j : Nat) (h : j < m.length) (h' : j < (lens m).length) : (lens m)[j] = m[j].length := by simp [lens]
/-- what szIntSS says -/
def SzMat (m : List (List Int)) (left : Int) (w : World) (e : Ending) (w' : World) : Prop :=
  w = w' ∧ ∃ r : Int, e = .returned (.int .i64 r) ∧ -1 ≤ r ∧ r ≤ left ∧ (0 ≤ r → (m.length : Int) + sumN (lens m) + r = left)
theorem szI_neg {left : Int} {n : Nat} (h : left < n) : szI left n = -1 := if_pos h
theorem szI_pos {left : Int} {n : Nat} (h : ¬ left < n) : szI left n = left - n := if_neg h

set_option maxHeartbeats 400000 in
theorem szIntSS_any (m : List (List Int)) (v : Value) (left : Int) (w : World) (h1 : Mat w v m) (hl0 : 0 ≤ left) (hl1 : left ≤ 1048576) (hmx : m.length ≤ 9223372036854775807) :
    Calls Try.prog 43 #[v, .int .i64 left] w (SzMat m left w) := by
  by_cases hlen : left < m.length
  · obtain ⟨A, cp, rfl⟩ := mat_slice h1
    clear h1
    have : left - (m.length : Int) < 0 := by omega
    go_enter Try.func43, Try.ntmps43
    go_wp2
    go_ret
    exact ⟨rfl, -1, rfl, by omega, by omega, by omega⟩
  by_cases hl : m = []
  · subst hl
    obtain ⟨A, cp, rfl⟩ := mat_slice h1
    clear h1
    go_enter Try.func43, Try.ntmps43
    go_wp2
    refine wp_loop_rounds 1 ?_
    rw [rounds_succ]
    go_wp2
    go_ret
    exact ⟨rfl, left, rfl, by omega, by omega, by simp [sumN, lens]⟩
  have hpos : 0 < m.length := List.length_pos_iff.2 hl
  obtain ⟨b, off, cp, rfl, q1, q2, r1⟩ := mat_rows h1 hpos
  have H1 := Lib.hid r1
  have HLN : Hid ((lens m).length = m.length) := by show (lens m).length = m.length; simp [lens]
  clear r1 h1 hl q1 q2
  go_enter Try.func43, Try.ntmps43
  go_wp2
  go_loop [1, 5] (fun q i => ∃ (k : Nat) (r : Int), k ≤ m.length ∧ i = .int .i64 k ∧ q = .int .i64 r ∧ 0 ≤ r ∧ (m.length : Int) + sumN ((lens m).take k) + r = left) (fun _ i => m.length - (intOf i).toNat)
  case atStart => exact ⟨0, left - m.length, by omega, rfl, rfl, by omega, by simp [sumN]; omega⟩
  case round =>
    obtain ⟨k, r, hk, rfl, rfl, hr, ht⟩ := hrel
    have hr1 : r ≤ left := by omega
    have HT := Lib.hid ht
    clear ht
    by_cases hlt : k < m.length
    · obtain ⟨u, g1, lu⟩ := H1.out k hlt
      have HL := Lib.hid lu
      have hkn : k < (lens m).length := by rw [HLN.out]; exact hlt
      have hs := sumN_take (lens m) k hkn
      rw [lens_at m k hlt hkn] at hs
      have HS := Lib.hid hs
      clear lu hs
      by_cases hneg : r < (m[k].length : Int)
      · have hz : szI r m[k].length = -1 := szI_neg hneg
        go_wp2_with fail
        refine (szIntS_any m[k] u r _ HL.out hr (by omega)).mono ?_
        rintro e w' ⟨rfl, rfl⟩
        go_wp2_with fail
        go_ret
        exact ⟨rfl, -1, rfl, by omega, by omega, by omega⟩
      · have hz : szI r m[k].length = r - m[k].length := szI_pos hneg
        have hge : ¬ (r - (m[k].length : Int) < 0) := by omega
        go_wp2_with fail
        refine (szIntS_any m[k] u r _ HL.out hr (by omega)).mono ?_
        rintro e w' ⟨rfl, rfl⟩
        go_wp2_with fail
        go_round
        case rel => exact ⟨k + 1, r - m[k].length, by omega, by go_num, rfl, by omega, by rw [HS.out]; have := HT.out; omega⟩
        case measure => simp [intOf]; omega
    · have hkm : k = m.length := by omega
      go_wp2_with fail
      go_ret
      refine ⟨rfl, r, rfl, by omega, by omega, fun _ => ?_⟩
      have := HT.out
      rwa [List.take_of_length_le (by rw [HLN.out]; omega)] at this

/-- a slice of slices of ints that came in, opened -/
theorem mat_cell {H : Type} {enc : TypeId × Value → H} {P : Program} {w : World} {base fuel : Nat} {t e q : TypeId} {v : Value} {y : DataW H × List MemPlace} (ht : P.underlying t = some (.slice e)) (he : P.underlying e = some (.slice q)) (hq : P.underlying q = some (.int .i64)) (ce : P.cellsOf e = 1) (cq : P.cellsOf q = 1)
    (hf : DataW.trod enc P w base (fun _ => true) true fuel t [v] = some y) : ∃ m : List (List Int), Mat w v m ∧ (∀ r ∈ m, ∀ z ∈ r, (Lit.int .i64 z).wf = true) ∧ m.length ≤ 9223372036854775807 := by
  rcases Deep.open_int_rows ht he hq ce cq hf with ⟨hcs, _⟩ | ⟨a, len, cap, A, L, C, Z, hcs, _, hl, hm, _, hrow⟩
  · simp at hcs
    subst hcs
    exact ⟨[], ⟨[], ⟨none, 0, by simp, by simp, by simp [maxLen], .inl rfl⟩, rfl, fun i h => absurd h (by simp)⟩, by simp, by simp⟩
  · simp at hcs
    subst hcs
    have hml : ((List.range len).map fun r => (Z r).take (L r)).length = len := by simp
    refine ⟨(List.range len).map fun r => (Z r).take (L r), ⟨(List.range len).map fun r => Value.slice (A r) (L r) (C r), ?_, by simp, fun i h h' => ?_⟩, fun r hr z hz => ?_, by simp; unfold maxLen at hm; omega⟩
    · refine ⟨some a, cap, by simp, by simpa using hl, hm, ?_⟩
      by_cases h0 : len = 0
      · subst h0
        exact .inl (by simp)
      · obtain ⟨b, off, spot⟩ := a
        have h1 := (hrow 0 (by omega)).1
        have hspot : spot = none := by simpa [Addr.add] using World.cell?_spot h1
        subst hspot
        refine .inr ⟨b, off, rfl, fun i u hu => ?_⟩
        have hi : i < len := by
          have := (List.getElem?_eq_some_iff.1 hu).1
          simpa using this
        have h2 := (hrow i (by omega)).1
        rw [Addr.add_lit] at h2
        rw [h2]
        simp [hi] at hu
        rw [hu]
    · have hi : i < len := by simpa using h'
      obtain ⟨_, hLC, hCm, hZ, _, hAn, hcell⟩ := hrow i (by omega)
      simp only [List.getElem_map, List.getElem_range]
      refine ⟨A i, C i, by simp [ints, hZ, Nat.min_eq_left hLC], by simp [ints, hZ, Nat.min_eq_left hLC]; exact hLC, hCm, ?_⟩
      by_cases h0 : L i = 0
      · exact .inl (by simp [ints, h0])
      · rcases hA : A i with _ | ⟨b, off, spot⟩
        · have := hAn hA
          omega
        · have h1 := (hcell _ hA).2 0 (by omega)
          have hspot : spot = none := by simpa [Addr.add] using World.cell?_spot h1
          subst hspot
          refine .inr ⟨b, off, rfl, fun c u hu => ?_⟩
          have hc : c < L i := by
            have := (List.getElem?_eq_some_iff.1 hu).1
            simp [ints, hZ, Nat.min_eq_left hLC] at this
            omega
          have h2 := (hcell _ hA).2 c (by omega)
          rw [Addr.add_lit] at h2
          rw [h2]
          simp [ints, hc] at hu
          obtain ⟨x, hx, rfl⟩ := hu
          simp [List.getD, hx]
    · obtain ⟨i, hi, rfl⟩ := List.mem_map.1 hr
      have hi' : i < len := by simpa using hi
      exact (hrow i (by omega)).2.2.2.2.1 z (List.mem_of_mem_take hz)
end Go.Proofs.Ytgidfainoijcmaa
