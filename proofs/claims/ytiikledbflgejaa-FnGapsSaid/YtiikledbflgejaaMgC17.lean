/- Texts put together. -/
import Derived.Test.YtiikledbflgejaaMgC16
import Derived.Test.YtiikledbflgejaaMgC6
import Derived.IntWalk
import Derived.Deep.CutBlock
import Derived.Test.YtiikledbflgejaaMgC4
import Derived.Test.YtiikledbflgejaaMgC3
/- DeterminantOf of the model. Conditions: lengths of at most 2^20. -/
namespace Go.Proofs.Ytiikledbflgejaa
open Go.RowKit

/-- a row of a matrix, cell by cell -/
theorem sqn_row {w : World} {v : Value} {n : Nat} {m : List (List Int)} (h : Mat w v m) (hs : SqN n m) (h0 : 0 < n) : ∃ b off cap, v = .slice (some ⟨b, off, none⟩) n cap ∧ n ≤ cap ∧ ∀ k (hk : k < m.length), ∃ b2 off2 cap2, w.cell? ⟨b, off + k, none⟩ = some (.slice (some ⟨b2, off2, none⟩) n cap2) ∧ n ≤ cap2 ∧ ∀ (j : Nat) u, (ints m[k])[j]? = some u → w.cell? ⟨b2, off2 + j, none⟩ = some u := by
  obtain ⟨h1, h5, _⟩ := hs
  obtain ⟨b, off, cap, e, q1, q2, hr⟩ := mat_rows h (by omega)
  rw [h1] at e q1
  refine ⟨b, off, cap, e, q1, fun k hk => ?_⟩
  obtain ⟨u, g1, ⟨A, cap2, e2, c1, c2, h2⟩⟩ := hr k hk
  rw [ints_length, h5 k hk] at e2 c1
  replace h2 := h2.resolve_left (by
    intro e
    have := congrArg List.length e
    rw [ints_length, h5 k hk] at this
    simp only [List.length_nil] at this
    omega)
  obtain ⟨b2, off2, rfl, h2⟩ := h2
  exact ⟨b2, off2, cap2, by rw [g1, e2], c1, fun j u hu => h2 j u hu⟩

theorem ints_one (l : List Int) : ∀ u ∈ ints l, u.oneCell' = true := by
  intro u hu
  simp only [ints, List.mem_map] at hu
  obtain ⟨x, _, rfl⟩ := hu
  rfl
theorem ints_take_get (l : List Int) (k j : Nat) (u : Value) (h : (ints (l.take k))[j]? = some u) : (ints l)[j]? = some u := by
  simp only [ints, List.getElem?_map, List.getElem?_take] at h ⊢
  split at h
  · exact h
  · simp at h
theorem ints_drop_get (l : List Int) (k j : Nat) (u : Value) (h : (ints (l.drop k))[j]? = some u) : (ints l)[k + j]? = some u := by
  simpa only [ints, List.getElem?_map, List.getElem?_drop] using h

end Go.Proofs.Ytiikledbflgejaa

/- Chapter 12 of the model: l11Insert. Condition: an ascending row of the call's own. -/
namespace Go.Proofs.Ytiikledbflgejaa
open Go.RowKit

theorem own_int_at {w : World} {B g cp n : Nat} {m : List Int} (h : w.ownsRow B 3 1 (.slice (some ⟨g, 0, none⟩) n cp) n (ints m)) (k : Nat) (hk : k < m.length) : w.cell? ⟨g, k, none⟩ = some (.int .i64 m[k]) := by
  have := h.cells (g := g) rfl k (.int .i64 m[k]) (by unfold ints; rw [List.getElem?_map, List.getElem?_eq_getElem hk]; rfl)
  rwa [Addr.add_lit, Nat.zero_add] at this
end Go.Proofs.Ytiikledbflgejaa

/- Chapter 12 of the model: GapLengths, ReturnTimes; ReturnTime and CountIn with Below. No conditions. -/
namespace Go.Proofs.Ytiikledbflgejaa
open Go.RowKit Go.Lib

theorem inI_length : ∀ (l : List Int) (x : Int), (inI l x).length ≤ l.length + 1
  | [], x => by simp [inI]
  | a :: l, x => by
    have := inI_length l x
    unfold inI
    split
    · simp
    · split
      · simp; omega
      · simp
theorem glTo_len (l : List Int) : ∀ k, (glTo l k).length ≤ k
  | 0 => Nat.le_refl _
  | k + 1 => by
    have := glTo_len l k
    have := inI_length (glTo l k) (l.getD k 0)
    show (inI _ _).length ≤ k + 1
    omega
theorem glTo_asc (l : List Int) : ∀ k, AscI (glTo l k)
  | 0 => List.Pairwise.nil
  | k + 1 => inI_asc _ (glTo_asc l k)
theorem rsTo_len (p q a b : Int) : ∀ k, (rsTo p q a b k).length ≤ k
  | 0 => Nat.le_refl _
  | k + 1 => by
    have := rsTo_len p q a b k
    have := inI_length (rsTo p q a b k) (rtT p q a b (a + (k : Int)))
    unfold rsTo
    split <;> omega
theorem rsTo_asc (p q a b : Int) : ∀ k, AscI (rsTo p q a b k)
  | 0 => List.Pairwise.nil
  | k + 1 => by
    unfold rsTo
    split
    · exact inI_asc _ (rsTo_asc p q a b k)
    · exact rsTo_asc p q a b k
theorem gpR_len (p q n : Int) : (gpR p q n).length ≤ 1000 := by
  unfold gpR
  rw [ds_len]
  exact (pt_facts p q n).1
theorem ptR_len (p q n : Int) : (ptR p q n).length ≤ 1000 := (pt_facts p q n).1
theorem glnR_len (p q n : Int) : (glnR p q n).length ≤ 1000 := Nat.le_trans (glTo_len _ _) (gpR_len p q n)
theorem rsR_len (p q a b : Int) : (rsR p q a b).length ≤ 1000 := by
  by_cases hok : (arOk p q a b && decide (a ≤ b)) = true
  · have hv : rsR p q a b = rsTo p q a b (b - a + 1).toNat := if_pos hok
    rw [hv]
    have := rsTo_len p q a b (b - a + 1).toNat
    unfold arOk at hok
    simp only [Bool.and_eq_true, decide_eq_true_eq] at hok
    omega
  · have hv : rsR p q a b = [] := if_neg hok
    rw [hv]
    exact Nat.zero_le _

end Go.Proofs.Ytiikledbflgejaa

/- laws.has: whether a number is in a list. -/
namespace Go.Proofs.Ytiikledbflgejaa
open Go.RowKit

set_option maxHeartbeats 400000 in
theorem hasC (l : List Int) (v : Value) (x : Int) (w : World) (h : Lst w v (ints l)) :
    Calls Try.prog 9 #[v, .int .i64 x] w fun e w' => e = .returned (.bool (decide (x ∈ l))) ∧ w = w' := by
  obtain ⟨A, c, rfl, hc1, hc2, h1⟩ := h
  rw [ints_length] at hc1 ⊢
  unfold maxLen at hc2
  by_cases hl : l = []
  · subst hl
    go_enter Try.func9, Try.ntmps9
    go_wp2
    refine wp_loop_rounds 1 ?_
    rw [rounds_succ]
    go_wp2
    go_ret
    exact ⟨rfl, rfl⟩
  obtain ⟨b, off, rfl, h2⟩ := h1.resolve_left (by simp [ints, hl])
  have H1 := Lib.hid (ints_at h2)
  have HNO : Hid (∀ k, k = l.length → (∀ j (hj : j < l.length), j < k → l[j] ≠ x) → decide (x ∈ l) = false) := fun k hk hno => by
    subst hk
    refine decide_eq_false fun hx => ?_
    obtain ⟨j, hj, e⟩ := List.getElem_of_mem hx
    exact hno j hj hj e
  have HYES : Hid (∀ k (hk : k < l.length), l[k] = x → decide (x ∈ l) = true) := fun k hk e => decide_eq_true (by rw [← e]; exact List.getElem_mem hk)
  generalize decide (x ∈ l) = r at HNO HYES ⊢
  clear h1 h2 hl
  go_enter Try.func9, Try.ntmps9
  go_wp2
  go_loop [9] (fun i => ∃ k : Nat, k ≤ l.length ∧ i = .int .i64 (k : Int) ∧ ∀ j (hj : j < l.length), j < k → l[j] ≠ x) (fun i => l.length - (intOf i).toNat)
  case atStart => exact ⟨0, by omega, rfl, fun j hj h => absurd h (by omega)⟩
  case round =>
    obtain ⟨k, hk, rfl, hno⟩ := hrel
    have HN := Lib.hid hno
    clear hno
    by_cases hlt : k < l.length
    · have g1 := H1.out k hlt
      obtain ⟨u, hu⟩ : ∃ u, l[k]'hlt = u := ⟨_, rfl⟩
      have HU := Lib.hid hu
      rw [hu] at g1
      clear hu
      by_cases he : u = x
      · have HR := Lib.hid (HYES.out k hlt (HU.out.trans he))
        have b1 : (u == x) = true := by simpa using he
        clear he
        go_wp2_with fail
        go_ret
        exact ⟨ret_bool HR.out.symm, rfl⟩
      · have b1 : (u == x) = false := by simpa using he
        have HE := Lib.hid he
        clear he
        go_wp2_with fail
        go_round
        case rel => exact ⟨k + 1, by omega, by go_num, fun j hj h => by
          by_cases e : j = k
          · subst e; rw [HU.out]; exact HE.out
          · exact HN.out j hj (by omega)⟩
        case measure => simp [intOf]; omega
    · have HR := Lib.hid (HNO.out k (by omega) HN.out)
      go_wp2_with fail
      go_ret
      exact ⟨ret_bool HR.out.symm, rfl⟩
end Go.Proofs.Ytiikledbflgejaa
