/- Texts put together. -/
import Derived.Test.YtfcbfflkajlhnaaMgU2
import Derived.Test.YtfcbfflkajlhnaaMgU6
import Derived.Test.YtfcbfflkajlhnaaMgU7
import Derived.Test.YtfcbfflkajlhnaaMgU3
import Derived.Test.YtfcbfflkajlhnaaMgU9
import Derived.IntWalk
import Derived.Test.YtfcbfflkajlhnaaMgU13
/- SubstOk of the model, and what it asks of each image. Conditions: lengths of at most 2^20. -/
namespace Go.Proofs.Ytfcbfflkajlhnaa
open Go.RowKit

theorem specIn (x a b : Int) (w : World) :
    Calls Try.prog 95 #[.int .i64 x, .int .i64 a, .int .i64 b] w fun e w' => e = .returned (.bool (decide (a ≤ x) && decide (x ≤ b))) ∧ w = w' := by
  by_cases h1 : a ≤ x
  · have hd1 : decide (a ≤ x) = true := by simpa using h1
    go_enter Try.func95, Try.ntmps95
    go_wp2
    go_ret
    exact ⟨ret_bool (by simp [h1]), rfl⟩
  · have hd1 : decide (a ≤ x) = false := by simpa using h1
    go_enter Try.func95, Try.ntmps95
    go_wp2
    go_ret
    exact ⟨ret_bool (by simp), rfl⟩

set_option maxHeartbeats 400000 in
theorem specWithin (n : Nat) (s : ByteArray) (w : World) (_ : n ≤ 1048576) (h : wordB s = true) :
    Calls Try.prog 152 #[.int .i64 n, .string s] w fun e w' => e = .returned (.bool (withinB n s)) ∧ w = w' := by
  have hs := word_size h
  have HW := Lib.hid (word_at h)
  clear h
  go_enter Try.func152, Try.ntmps152
  go_wp2
  go_loop [5] (fun i => ∃ k : Nat, k ≤ s.size ∧ i = .int .i64 k ∧ (s.data.toList.take k).all (fun c => decide (c.toNat < 97 + n)) = true) (fun i => s.size - (intOf i).toNat)
  case atStart => exact ⟨0, Nat.zero_le _, rfl, rfl⟩
  case round =>
    obtain ⟨k, hk, rfl, ha⟩ := hrel
    have HA := Lib.hid ha
    clear ha
    by_cases hlt : k < s.size
    · obtain ⟨p1, p2⟩ := HW.out k hlt
      have p1' : (97 : Int) ≤ s[k].toNat := by omega
      have p2' : (s[k].toNat : Int) ≤ 100 := by omega
      clear p1 p2
      by_cases hc : s[k].toNat < 97 + n
      · have hge : ¬ ((n : Int) ≤ (s[k].toNat : Int) - 97) := by omega
        have HC := Lib.hid hc
        clear hc
        go_wp2
        go_round
        case rel => exact ⟨k + 1, by omega, by go_num, all_snoc s k hlt HA.out (by simpa using HC.out)⟩
        case measure => simp [intOf]; omega
      · have hge : (n : Int) ≤ (s[k].toNat : Int) - 97 := by omega
        have HN : Hid (withinB n s = false) := by
          show withinB n s = false
          exact all_not s k hlt (by simpa using hc)
        clear hc
        go_wp2
        go_ret
        exact ⟨ret_bool HN.out.symm, rfl⟩
    · have hk' : k = s.size := by omega
      subst hk'
      have HY : Hid (withinB n s = true) := by
        have := HA.out
        rw [take_all s _ (Nat.le_refl _)] at this
        exact this
      go_wp2
      go_ret
      exact ⟨ret_bool HY.out.symm, rfl⟩

set_option maxHeartbeats 1000000 in
theorem specSubstOk (l : List ByteArray) (v : Value) (w : World) (h : Lst w v (strs l)) (hz : ∀ x ∈ l, x.size ≤ 1048576) (hn : l.length ≤ 1048576) :
    Calls Try.prog 141 #[.agg #[v]] w fun e w' => e = .returned (.bool (substB l)) ∧ Below w.heap.size w w' := by
  obtain ⟨A, cp, rfl⟩ := lst_slice h
  rw [strs_length] at h ⊢
  by_cases hl : 1 ≤ l.length ∧ l.length ≤ 4
  · obtain ⟨hl1, hl4⟩ := hl
    have d1 : decide ((1 : Int) ≤ l.length) = true := by simp; omega
    have d2 : decide ((l.length : Int) ≤ 4) = true := by simp; omega
    have hb0 : Below w.heap.size w (w.alloc (.cells #[.slice A l.length cp] 25)) := (Below.refl _ _).alloc (Nat.le_refl _) _
    obtain ⟨A', c', he, hc1, hc2, h1⟩ := h.below hb0
    rw [strs_length] at he hc1
    injection he with hA _ hc
    subst hA; subst hc
    replace h1 := h1.resolve_left (by
      intro e
      have := congrArg List.length e
      rw [strs_length] at this
      simp only [List.length_nil] at this
      omega)
    obtain ⟨b, off, rfl, h1⟩ := h1
    have H1 := Lib.hid (strs_at h1)
    have HZ := Lib.hid hz
    have HB := Lib.hid hb0
    clear h1 hz hc2 hc1 h hb0
    go_enter Try.func141, Try.ntmps141
    go_wp2_with (go_at_call 95; refine (specIn _ _ _ _).mono ?_; rintro e w' ⟨rfl, rfl⟩)
    go_loop [15] (fun i => ∃ k : Nat, k ≤ l.length ∧ i = .int .i64 k ∧ (l.take k).all (imgB l.length) = true) (fun i => l.length - (intOf i).toNat)
    case atStart => exact ⟨0, Nat.zero_le _, rfl, rfl⟩
    case round =>
      obtain ⟨k, hk, rfl, ha⟩ := hrel
      have HA := Lib.hid ha
      clear ha
      by_cases hlt : k < l.length
      · have g1 := H1.out k hlt
        have hsz := HZ.out _ (List.getElem_mem hlt)
        by_cases c1 : 1 ≤ l[k].size ∧ l[k].size ≤ 8
        · obtain ⟨c1, c2⟩ := c1
          have e1 : decide ((1 : Int) ≤ l[k].size) = true := by simp; omega
          have e2 : decide ((l[k].size : Int) ≤ 8) = true := by simp; omega
          by_cases c3 : wordB l[k] = true
          · have HWI := Lib.hid (fun w => specWithin l.length l[k] w (by omega) c3)
            by_cases c4 : withinB l.length l[k] = true
            · have HI := Lib.hid (img_yes c1 c2 c3 c4)
              go_wp2_with (first
                | (go_at_call 95; refine (specIn _ _ _ _).mono ?_; rintro e w' ⟨rfl, rfl⟩)
                | (go_at_call 94; refine (specWordOk _ _).mono ?_; rintro e w' ⟨rfl, rfl⟩)
                | (go_at_call 152; refine (HWI.out _).mono ?_; rintro e w' ⟨rfl, rfl⟩))
              go_round
              case rel => exact ⟨k + 1, by omega, by go_num, lall_snoc l k hlt HA.out HI.out⟩
              case measure => simp [intOf]; omega
            · have c4' : withinB l.length l[k] = false := by simpa using c4
              have HN := Lib.hid (subst_no k hlt (img_no3 c4'))
              clear c4
              go_wp2_with (first
                | (go_at_call 95; refine (specIn _ _ _ _).mono ?_; rintro e w' ⟨rfl, rfl⟩)
                | (go_at_call 94; refine (specWordOk _ _).mono ?_; rintro e w' ⟨rfl, rfl⟩)
                | (go_at_call 152; refine (HWI.out _).mono ?_; rintro e w' ⟨rfl, rfl⟩))
              go_ret
              exact ⟨ret_bool HN.out.symm, HB.out⟩
          · have c3' : wordB l[k] = false := by simpa using c3
            have HN := Lib.hid (subst_no k hlt (img_no2 c3'))
            clear c3
            go_wp2_with (first
              | (go_at_call 95; refine (specIn _ _ _ _).mono ?_; rintro e w' ⟨rfl, rfl⟩)
              | (go_at_call 94; refine (specWordOk _ _).mono ?_; rintro e w' ⟨rfl, rfl⟩))
            go_ret
            exact ⟨ret_bool HN.out.symm, HB.out⟩
        · have HN := Lib.hid (subst_no k hlt (img_no1 c1))
          have e1 : (decide ((1 : Int) ≤ l[k].size) && decide ((l[k].size : Int) ≤ 8)) = false := by simp; omega
          clear c1
          go_wp2_with (go_at_call 95; refine (specIn _ _ _ _).mono ?_; rintro e w' ⟨rfl, rfl⟩)
          go_ret
          exact ⟨ret_bool HN.out.symm, HB.out⟩
      · have hk' : k = l.length := by omega
        have HY := Lib.hid (subst_yes hl1 hl4 (hk' ▸ HA.out))
        clear hk'
        go_wp2
        go_ret
        exact ⟨ret_bool HY.out.symm, HB.out⟩
  · have HN := Lib.hid (subst_len hl)
    have hb0 : Below w.heap.size w (w.alloc (.cells #[.slice A l.length cp] 25)) := (Below.refl _ _).alloc (Nat.le_refl _) _
    have d1 : (decide ((1 : Int) ≤ l.length) && decide ((l.length : Int) ≤ 4)) = false := by simp; omega
    have HB := Lib.hid hb0
    clear hl h hz hb0
    go_enter Try.func141, Try.ntmps141
    go_wp2_with (go_at_call 95; refine (specIn _ _ _ _).mono ?_; rintro e w' ⟨rfl, rfl⟩)
    go_ret
    exact ⟨ret_bool HN.out.symm, HB.out⟩
end Go.Proofs.Ytfcbfflkajlhnaa

/- What the model makes of a word under a substitution. Condition: the substitution and the word are valid. -/
namespace Go.Proofs.Ytfcbfflkajlhnaa
open Go.RowKit

def ApplySaid (l : List ByteArray) (s : ByteArray) (w : World) (e : Ending) (w' : World) : Prop :=
  Below w.heap.size w w' ∧ ∃ r : ByteArray, e = .returned (.string r) ∧ r.size ≤ 408 ∧ ((applyL l s.data.toList).length ≤ 400 → r = ⟨(applyL l s.data.toList).toArray⟩) ∧ (400 < (applyL l s.data.toList).length → 400 < r.size)

theorem lst_at {w : World} {v : Value} {l : List ByteArray} (h : Lst w v (strs l)) (h0 : 0 < l.length) : ∃ b off cap, v = .slice (some ⟨b, off, none⟩) l.length cap ∧ ∀ k (hk : k < l.length), w.cell? ⟨b, off + k, none⟩ = some (.string l[k]) := by
  obtain ⟨A, cap, h1, _, _, h2⟩ := h
  rw [strs_length] at h1
  rcases h2 with h2 | ⟨b, off, rfl, h2⟩
  · have := congrArg List.length h2
    rw [strs_length] at this
    simp only [List.length_nil] at this
    omega
  · exact ⟨b, off, cap, h1, fun k hk => strs_at h2 k hk⟩

end Go.Proofs.Ytfcbfflkajlhnaa

/- l04Matrix and MatrixOf of the model. Conditions: lengths of at most 2^20. -/
namespace Go.Proofs.Ytfcbfflkajlhnaa
open Go.RowKit
theorem matR_sum (l : List ByteArray) : sumN ((matR l).map List.length) ≤ 16 := by
  have h1 := matR_le l
  have h2 := sum_rect (m := matR l) (c := 4) (fun x hx => by
    unfold matR at hx
    split at hx
    · rename_i h
      obtain ⟨i, hi, rfl⟩ := List.mem_iff_getElem.1 hx
      rw [matL_at, rowL_length]
      exact (subst_parts h).2.1
    · simp at hx)
  omega
end Go.Proofs.Ytfcbfflkajlhnaa
