/- The laws' helpers on an argument that is a slice of ints: szIntS bounds it, toIntS copies it; and the argument opened to the list that it holds. -/
import Derived.Test.YtgidfainoijcmaaInts
import Derived.OwnWalk
import Derived.Lib.SmallJoins
namespace Go.Proofs.Ytgidfainoijcmaa
open Go.ChangeShapes Go.WideShapes Go.RowKit

theorem cellsOf_int : Try.prog.cellsOf 3 = 1 := by kernel_rfl
/-- a slice of ints that came in, opened -/
theorem ints_cell {H : Type} {enc : TypeId × Value → H} {P : Program} {w : World} {base fuel : Nat} {t e : TypeId} {v : Value} {y : DataW H × List MemPlace} (ht : P.underlying t = some (.slice e)) (he : P.underlying e = some (.int .i64)) (hc : P.cellsOf e = 1)
    (hf : DataW.trod enc P w base (fun _ => true) true fuel t [v] = some y) : ∃ l : List Int, Lst w v (ints l) ∧ ∀ z ∈ l, (Lit.int .i64 z).wf = true := by
  obtain ⟨A, ln, cp, hv⟩ := Joins.slice_form ht hf
  injection hv with hv _
  subst hv
  rcases open_ints ht he hc hf with ⟨hcs, _⟩ | ⟨a, len, cap, ss, hcs, _, hl, hm, hlen, _, hcell, hwf⟩
  · simp at hcs
    obtain ⟨rfl, rfl, rfl⟩ := hcs
    exact ⟨[], ⟨none, 0, by simp [ints], by simp [ints], by simp [maxLen], .inl rfl⟩, by simp⟩
  · simp at hcs
    obtain ⟨rfl, rfl, rfl⟩ := hcs
    simp at hlen
    refine ⟨ss.take ln, ?_, fun z hz => hwf z (List.mem_of_mem_take hz)⟩
    refine ⟨some a, cp, by simp [ints, hlen, Nat.min_eq_left hl], by simp [ints, hlen]; omega, hm, ?_⟩
    by_cases h0 : ln = 0
    · subst h0
      exact .inl (by simp [ints])
    · obtain ⟨b, off, spot⟩ := a
      have h1 := hcell 0 (by omega)
      have hspot : spot = none := by simpa [Addr.add] using World.cell?_spot h1
      subst hspot
      refine .inr ⟨b, off, rfl, fun i u hu => ?_⟩
      have hi : i < ln := by
        have := (List.getElem?_eq_some_iff.1 hu).1
        simp [ints, hlen] at this
        omega
      have h2 := hcell i (by omega)
      rw [Addr.add_lit] at h2
      rw [h2]
      simp [ints, hi] at hu
      obtain ⟨x, hx, rfl⟩ := hu
      simp [List.getD, hx]

def szI (left : Int) (n : Nat) : Int := if left < n then -1 else left - n
theorem szIntS_any (l : List Int) (v : Value) (left : Int) (w : World) (h1 : Lst w v (ints l)) (hl0 : 0 ≤ left) (hl1 : left ≤ 1048576) :
    Calls Try.prog 83 #[v, .int .i64 left] w fun e w' => e = .returned (.int .i64 (szI left l.length)) ∧ w = w' := by
  obtain ⟨A, c, rfl, hc1, hc2, h1⟩ := h1
  rw [ints_length] at hc1
  rw [ints_length]
  unfold maxLen at hc2
  clear h1
  by_cases hlen : left < l.length
  · have : left - (l.length : Int) < 0 := by omega
    have HR : Hid (szI left l.length = -1) := if_pos hlen
    go_enter Try.func83, Try.ntmps83
    go_wp2
    go_ret
    exact ⟨ret_int HR.out.symm, rfl⟩
  · have : ¬ (left - (l.length : Int) < 0) := by omega
    have HR : Hid (szI left l.length = left - l.length) := if_neg hlen
    go_enter Try.func83, Try.ntmps83
    go_wp2
    go_ret
    exact ⟨ret_int HR.out.symm, rfl⟩

set_option maxHeartbeats 400000 in
theorem toIntS_any (l : List Int) (v : Value) (w : World) (h1 : Lst w v (ints l)) (hn : l.length ≤ 1048576) :
    Calls Try.prog 34 #[v] w fun e w' => ∃ v', e = .returned v' ∧ w'.ownsRow w.heap.size 3 1 v' l.length (ints l) ∧ Below w.heap.size w w' := by
  have hlst := h1
  obtain ⟨A, c, rfl, hc1, hc2, h1⟩ := h1
  rw [ints_length] at hc1
  rw [ints_length] at hlst ⊢
  obtain ⟨i0, hi0, hz0, hz1, hz2⟩ := info_parts int_info
  clear hc2
  go_enter Try.func34, Try.ntmps34
  go_wp2_with (at_make; refine wpList_make_full _ rfl _ _ 30 rfl w.heap.size 3 i0 (.int .i64 0) 1 Try.underlying30 hi0 hz0 hz1 .i64 .i64 _ _ l.length rfl rfl rfl rfl (by rw [hz2]; omega) (by unfold maxLen; omega) (Nat.le_refl _) ?_; intro w1 hown hgrow)
  have hb1 : Below w.heap.size w w1 := (Below.refl _ _).grown hgrow (Nat.le_refl _) (fun k hk => by cases hk)
  have hlst1 := hlst.below hb1
  have HD : Hid (((madeCells (Value.int .i64 0).cells (l.length * 1)).toList).length = l.length) := by
    have := hown.1
    unfold Hid
    omega
  generalize (madeCells (Value.int .i64 0).cells (l.length * 1)).toList = zs at hown HD
  have hb := World.block_lt_of_cell?
  clear hb
  go_loopw [4] (fun i w' => ∃ (k : Nat), k ≤ l.length ∧ i = .int .i64 k ∧ w'.ownsRow w.heap.size 3 1 (.slice (some ⟨w.heap.size, 0, none⟩) l.length l.length) l.length (ints (l.take k) ++ zs.drop k) ∧ Below w.heap.size w w') (fun i _ => l.length - (intOf i).toNat)
  case atStart => exact ⟨0, by omega, rfl, by simpa [ints] using hown, hb1⟩
  case round =>
    obtain ⟨k, hk, rfl, ho, hbk⟩ := hrel
    by_cases hlt : k < l.length
    · have hlk := hlst.below hbk
      obtain ⟨A', c', he', _, _, h1'⟩ := hlk
      rw [ints_length] at he'
      injection he' with hA _ hc
      subst hA
      subst hc
      replace h1' := h1'.resolve_left (by
        intro e
        have := congrArg List.length e
        rw [ints_length] at this
        simp only [List.length_nil] at this
        omega)
      obtain ⟨b, off, rfl, h1'⟩ := h1'
      have g1 := ints_at h1' k hlt
      have hcell : ∃ u, (ints (l.take k) ++ zs.drop k)[k]? = some u := ⟨(ints (l.take k) ++ zs.drop k)[k]'(by rw [List.length_append, ints_length, List.length_take, List.length_drop, HD.out]; omega), List.getElem?_eq_getElem _⟩
      obtain ⟨u, hu⟩ := hcell
      have g2 := (ho.cellAt k (by omega)).trans hu
      have g3 := ho.frozenAt k
      have hset : (ints (l.take k) ++ zs.drop k).set k (.int .i64 l[k]) = ints (l.take (k + 1)) ++ zs.drop (k + 1) := by
        have hd : zs.drop k = zs[k]'(by rw [HD.out]; exact hlt) :: zs.drop (k + 1) := List.drop_eq_getElem_cons _
        have hlk : (ints (l.take k)).length = k := by rw [ints_length, List.length_take]; omega
        rw [List.take_succ_eq_append_getElem hlt, hd, List.set_append_right _ _ (by omega), hlk, Nat.sub_self, List.set_cons_zero, ints_snoc, List.append_assoc]
        rfl
      have HS := Lib.hid hset
      have HU := Lib.hid hu
      clear hset hu h1' h1
      go_wp2
      go_roundw
      case rel =>
        refine ⟨k + 1, by omega, by go_num, ?_, hbk.setCell (Nat.le_refl _) _⟩
        have := (ho.stored k (.int .i64 l[k])).1
        rwa [HS.out] at this
      case measure => simp [intOf]; omega
    · have hkl : k = l.length := by omega
      subst hkl
      go_wp2
      go_ret
      rw [List.drop_of_length_le (by rw [HD.out]; exact Nat.le_refl _), List.append_nil, List.take_length] at ho
      exact ⟨_, rfl, ho, hbk⟩
end Go.Proofs.Ytgidfainoijcmaa
