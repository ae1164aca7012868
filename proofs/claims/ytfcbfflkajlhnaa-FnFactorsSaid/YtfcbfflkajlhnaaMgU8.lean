/- Texts put together. -/
import Derived.Test.YtfcbfflkajlhnaaMgU3
import Derived.OwnWalk
import Derived.Lib.SmallJoins
import Derived.Deep.RegionWith
/- The laws' helpers on an argument that is a slice of ints: szIntS bounds it, toIntS copies it; and the argument opened to the list that it holds. -/
namespace Go.Proofs.Ytfcbfflkajlhnaa
open Go.ChangeShapes Go.WideShapes Go.RowKit

theorem cellsOf_int : Try.prog.cellsOf 3 = 1 := by kernel_rfl
/-- a slice of ints that came in, opened -/
theorem ints_cell {H : Type} {enc : TypeId × Value → H} {P : Program} {w : World} {base fuel : Nat} {t e : TypeId} {v : Value} {y : DataW H × List MemPlace} (ht : P.underlying t = some (.slice e)) (he : P.underlying e = some (.int .i64)) (hc : P.cellsOf e = 1)
    (hf : DataW.trod enc P w base (fun _ => true) true fuel t [v] = some y) : ∃ l : List Int, Lst w v (ints l) ∧ ∀ z ∈ l, (Lit.int .i64 z).wf = true := by
  obtain ⟨A, ln, cp, hv⟩ := Joins.slice_form ht hf
  injection hv with hv _
  subst hv
  rcases open_ints ht he hc hf with ⟨hcs, _⟩ | ⟨a, len, cap, ss, hcs, _, hl, hm, hlen, _, hcell, hwf⟩
  · simp at hcs
    obtain ⟨rfl, rfl, rfl⟩ := hcs
    exact ⟨[], ⟨none, 0, by simp [ints], by simp [ints], by simp [maxLen], .inl rfl⟩, by simp⟩
  · simp at hcs
    obtain ⟨rfl, rfl, rfl⟩ := hcs
    simp at hlen
    refine ⟨ss.take ln, ?_, fun z hz => hwf z (List.mem_of_mem_take hz)⟩
    refine ⟨some a, cp, by simp [ints, hlen, Nat.min_eq_left hl], by simp [ints, hlen]; omega, hm, ?_⟩
    by_cases h0 : ln = 0
    · subst h0
      exact .inl (by simp [ints])
    · obtain ⟨b, off, spot⟩ := a
      have h1 := hcell 0 (by omega)
      have hspot : spot = none := by simpa [Addr.add] using World.cell?_spot h1
      subst hspot
      refine .inr ⟨b, off, rfl, fun i u hu => ?_⟩
      have hi : i < ln := by
        have := (List.getElem?_eq_some_iff.1 hu).1
        simp [ints, hlen] at this
        omega
      have h2 := hcell i (by omega)
      rw [Addr.add_lit] at h2
      rw [h2]
      simp [ints, hi] at hu
      obtain ⟨x, hx, rfl⟩ := hu
      simp [List.getD, hx]

def szI (left : Int) (n : Nat) : Int := if left < n then -1 else left - n
end Go.Proofs.Ytfcbfflkajlhnaa

/- Slices of slices of ints: what they read as; eqIntSS. -/
namespace Go.Proofs.Ytfcbfflkajlhnaa
open Go.RowKit

/-- v is a slice whose elements are slices that read as the rows of m -/
def Mat (w : World) (v : Value) (m : List (List Int)) : Prop :=
  ∃ vs : List Value, Lst w v vs ∧ vs.length = m.length ∧ ∀ i (h : i < vs.length) (h' : i < m.length), Lst w vs[i] (ints m[i])
theorem Mat.below {w w' : World} {v : Value} {m : List (List Int)} (h : Mat w v m) (hb : Below w.heap.size w w') : Mat w' v m := by
  obtain ⟨vs, h1, h2, h3⟩ := h
  exact ⟨vs, h1.below hb, h2, fun i a b => (h3 i a b).below hb⟩
theorem Mat.drewN {w : World} {v : Value} {m : List (List Int)} (h : Mat w v m) (n : Nat) : Mat (w.drewN n) v m := h
theorem mat_slice {w : World} {v : Value} {m : List (List Int)} (h : Mat w v m) : ∃ A cap, v = .slice A m.length cap := by
  obtain ⟨vs, h1, h2, _⟩ := h
  obtain ⟨A, cap, e⟩ := lst_slice h1
  exact ⟨A, cap, by rw [e, h2]⟩
/-- the rows of a matrix in memory -/
theorem mat_rows {w : World} {v : Value} {m : List (List Int)} (h : Mat w v m) (h0 : 0 < m.length) : ∃ b off cap, v = .slice (some ⟨b, off, none⟩) m.length cap ∧ m.length ≤ cap ∧ cap ≤ maxLen ∧ ∀ k (hk : k < m.length), ∃ u, w.cell? ⟨b, off + k, none⟩ = some u ∧ Lst w u (ints m[k]) := by
  obtain ⟨vs, ⟨A, cap, e, hc1, hc2, h2⟩, h3, h4⟩ := h
  rcases h2 with h2 | ⟨b, off, rfl, h2⟩
  · rw [h2] at h3
    simp only [List.length_nil] at h3
    omega
  · refine ⟨b, off, cap, by rw [e, h3], by omega, hc2, fun k hk => ?_⟩
    have hk' : k < vs.length := by omega
    exact ⟨vs[k], h2 k _ (List.getElem?_eq_getElem hk'), h4 k hk' hk⟩

set_option maxHeartbeats 400000 in
theorem eqIntSS_same (m : List (List Int)) (v1 v2 : Value) (w : World) (h1 : Mat w v1 m) (h2 : Mat w v2 m) :
    Calls Try.prog 58 #[v1, v2] w fun e w' => e = .returned (.bool true) ∧ ∃ n, w' = w.drewN n := by
  have hnn : ((m.length : Int) != (m.length : Int)) = false := by simp
  by_cases hl : m = []
  · subst hl
    obtain ⟨A, cap, rfl⟩ := mat_slice h1
    obtain ⟨A', cap', rfl⟩ := mat_slice h2
    go_enter Try.func58, Try.ntmps58
    go_wp2
    refine wp_loop_rounds 1 ?_
    rw [rounds_succ]
    go_wp2
    go_ret
    exact ⟨rfl, 0, rfl⟩
  have hpos : 0 < m.length := List.length_pos_iff.2 hl
  obtain ⟨b, off, cp, rfl, q1, q2, r1⟩ := mat_rows h1 hpos
  obtain ⟨b', off', cp', rfl, q1', q2', r2⟩ := mat_rows h2 hpos
  have H1 := Lib.hid r1
  have H2 := Lib.hid r2
  have hmax : m.length ≤ 9223372036854775807 := by unfold maxLen at q2; omega
  clear r1 r2 h1 h2 hl q1 q2 q1' q2'
  go_enter Try.func58, Try.ntmps58
  go_wp2
  go_loopw [5] (fun i w' => ∃ (k n : Nat), k ≤ m.length ∧ i = .int .i64 k ∧ w' = w.drewN n) (fun i _ => m.length - (intOf i).toNat)
  case atStart => exact ⟨0, 0, by omega, rfl, rfl⟩
  case round =>
    obtain ⟨k, n, hk, rfl, rfl⟩ := hrel
    by_cases hlt : k < m.length
    · obtain ⟨u1, g1, l1⟩ := H1.out k hlt
      obtain ⟨u2, g2, l2⟩ := H2.out k hlt
      have L1 := Lib.hid l1
      have L2 := Lib.hid l2
      clear l1 l2
      go_wp2_with fail
      go_region_with (go_at_call 101
                      refine (eqIntS_same m[k] u1 u2 _ (L1.out.drewN (n + 1)) (L2.out.drewN (n + 1))).mono ?_
                      rintro e w3 ⟨rfl, n3, rfl⟩)
      all_goals
        go_wp2_with fail
        go_roundw
        case rel => exact ⟨k + 1, n + 1 + n3, by omega, by go_num, rfl⟩
        case measure => simp [intOf]; omega
    · go_wp2_with fail
      go_ret
      exact ⟨rfl, n, rfl⟩
end Go.Proofs.Ytfcbfflkajlhnaa

/- Slices of slices of ints that the call has made: toIntSS copies, szIntSS bounds. -/
namespace Go.Proofs.Ytfcbfflkajlhnaa
open Go.RowKit

/-- v is a slice of the call's own, in blocks from B to S, whose elements are rows of the call's own, each by itself -/
def OwnMat (w : World) (B S : Nat) (v : Value) (m : List (List Int)) : Prop :=
  ∃ (t0 : TypeId) (vs : List Value), vs.length = m.length ∧ w.ownsRow B t0 1 v m.length vs ∧
    (∀ i (h : i < vs.length) (h' : i < m.length), ∃ te, w.ownsRow B te 1 vs[i] m[i].length (ints m[i])) ∧
    (∀ i j (hi : i < vs.length) (hj : j < vs.length) k, vs[i].ownBlock = some k → vs[j].ownBlock = some k → i = j) ∧
    (∀ i (hi : i < vs.length) k, vs[i].ownBlock = some k → v.ownBlock ≠ some k ∧ k < S) ∧ (∀ k, v.ownBlock = some k → k < S)
theorem OwnMat.mat {w : World} {B S : Nat} {v : Value} {m : List (List Int)} (h : OwnMat w B S v m) : Mat w v m := by
  obtain ⟨t0, vs, h1, h2, h3, _⟩ := h
  exact ⟨vs, Lst.of_own h2, h1, fun i a b => by obtain ⟨te, h⟩ := h3 i a b; exact Lst.of_own h⟩
theorem OwnMat.below {w w' : World} {B S : Nat} {v : Value} {m : List (List Int)} (h : OwnMat w B S v m) (hb : Below w.heap.size w w') : OwnMat w' B S v m := by
  obtain ⟨t0, vs, h1, h2, h3, h4⟩ := h
  exact ⟨t0, vs, h1, own_below h2 hb, fun i a b => by obtain ⟨te, h⟩ := h3 i a b; exact ⟨te, own_below h hb⟩, h4⟩
theorem OwnMat.drewN {w : World} {B S : Nat} {v : Value} {m : List (List Int)} (h : OwnMat w B S v m) (n : Nat) : OwnMat (w.drewN n) B S v m := h
theorem OwnMat.mono {w : World} {B B' S : Nat} {v : Value} {m : List (List Int)} (h : OwnMat w B S v m) (hb : B' ≤ B) : OwnMat w B' S v m := by
  obtain ⟨t0, vs, h1, h2, h3, h4⟩ := h
  exact ⟨t0, vs, h1, own_mono h2 hb, fun i a b => by obtain ⟨te, h⟩ := h3 i a b; exact ⟨te, own_mono h hb⟩, h4⟩
theorem ints_info : (Try.prog.info? 35).map (fun i => (i.zero, i.size, i.bytes)) = some (some (.slice none 0 0), 1, 24) := by kernel_rfl

/-- the rows that have been laid -/
def RowsTo (w : World) (B : Nat) (us : List Value) (m : List (List Int)) : Prop :=
  us.length ≤ m.length ∧ (∀ i (h : i < us.length) (h' : i < m.length), w.ownsRow B 3 1 us[i] m[i].length (ints m[i])) ∧
    (∀ i j (hi : i < us.length) (hj : j < us.length) k, us[i].ownBlock = some k → us[j].ownBlock = some k → i = j)
theorem RowsTo.snoc {w w' : World} {B : Nat} {us : List Value} {m : List (List Int)} {u : Value} (h : RowsTo w B us m) (hb : Below w.heap.size w w') (hB : B ≤ w.heap.size) (hk : us.length < m.length) (hu : w'.ownsRow w.heap.size 3 1 u m[us.length].length (ints m[us.length])) : RowsTo w' B (us ++ [u]) m := by
  obtain ⟨h1, h2, h3⟩ := h
  have hlt : ∀ i (hi : i < us.length) k, us[i].ownBlock = some k → k < w.heap.size := fun i hi k hk => ((h2 i hi (by omega)).lt k hk).2
  refine ⟨by simp; omega, fun i hi hi' => ?_, fun i j hi hj k e1 e2 => ?_⟩
  · by_cases e : i < us.length
    · rw [List.getElem_append_left e]
      exact own_below (h2 i e hi') hb
    · have e' : i = us.length := by simp at hi; omega
      subst e'
      rw [List.getElem_append_right (Nat.le_refl _)]
      simpa using own_mono hu hB
  · by_cases a : i < us.length <;> by_cases b : j < us.length
    · rw [List.getElem_append_left a] at e1
      rw [List.getElem_append_left b] at e2
      exact h3 i j a b k e1 e2
    · rw [List.getElem_append_left a] at e1
      rw [List.getElem_append_right (by omega)] at e2
      have := hlt i a k e1
      simp at e2
      have := (hu.lt k e2).1
      omega
    · rw [List.getElem_append_right (by omega)] at e1
      rw [List.getElem_append_left b] at e2
      have := hlt j b k e2
      simp at e1
      have := (hu.lt k e1).1
      omega
    · simp at hi hj
      omega
theorem RowsTo.below {w w' : World} {B : Nat} {us : List Value} {m : List (List Int)} (h : RowsTo w B us m) (hb : Below w.heap.size w w') : RowsTo w' B us m :=
  ⟨h.1, fun i a b => own_below (h.2.1 i a b) hb, h.2.2⟩
theorem RowsTo.setCell {w : World} {B : Nat} {us : List Value} {m : List (List Int)} (h : RowsTo w B us m) {a : Addr} (ha : a.block < B) (u : Value) : RowsTo (w.setCell a u) B us m :=
  ⟨h.1, fun i x y => own_setCell (h.2.1 i x y) ha u, h.2.2⟩

end Go.Proofs.Ytfcbfflkajlhnaa
