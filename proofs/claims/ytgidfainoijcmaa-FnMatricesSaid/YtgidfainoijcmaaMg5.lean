/- Texts put together. -/
import Derived.Test.YtgidfainoijcmaaChecked
import Derived.Test.YtgidfainoijcmaaMg3
import Derived.Test.YtgidfainoijcmaaMg4
/- WordOk of the model and its count of a letter. No condition but that a text has at most 2^63 bytes. -/
namespace Go.Proofs.Ytgidfainoijcmaa
open Go.RowKit

set_option maxHeartbeats 400000 in
theorem specWordOk (s : ByteArray) (w : World) :
    Calls Try.prog 99 #[.string s] w fun e w' => e = .returned (.bool (wordB s)) ∧ w = w' := by
  by_cases hl : 400 < s.size
  · have HE := Lib.hid (word_long hl)
    go_enter Try.func99, Try.ntmps99
    go_wp2
    go_ret
    exact ⟨ret_bool HE.out.symm, rfl⟩
  have hs : s.size ≤ 400 := by omega
  go_enter Try.func99, Try.ntmps99
  go_wp2
  go_loop [3] (fun i => ∃ k : Nat, k ≤ s.size ∧ i = .int .i64 k ∧ (s.data.toList.take k).all isAbcd = true) (fun i => s.size - (intOf i).toNat)
  case atStart => exact ⟨0, Nat.zero_le _, rfl, rfl⟩
  case round =>
    obtain ⟨k, hk, rfl, ha⟩ := hrel
    have HA := Lib.hid ha
    clear ha
    by_cases hlt : k < s.size
    · by_cases h1 : s[k].toNat < 97
      · have h1' : ((s[k].toNat : Int) < 97) := by omega
        have HN := Lib.hid (word_not (s := s) k hlt (by simp [isAbcd]; omega))
        go_wp2
        go_ret
        exact ⟨ret_bool HN.out.symm, rfl⟩
      · by_cases h2 : 100 < s[k].toNat
        · have h1' : ¬ ((s[k].toNat : Int) < 97) := by omega
          have h2' : ((100 : Int) < s[k].toNat) := by omega
          have HN := Lib.hid (word_not (s := s) k hlt (by simp [isAbcd]; omega))
          go_wp2
          go_ret
          exact ⟨ret_bool HN.out.symm, rfl⟩
        · have h1' : ¬ ((s[k].toNat : Int) < 97) := by omega
          have h2' : ¬ ((100 : Int) < s[k].toNat) := by omega
          go_wp2
          go_round
          case rel => exact ⟨k + 1, by omega, by go_num, all_snoc s k hlt HA.out (by simp [isAbcd]; omega)⟩
          case measure => simp [intOf]; omega
    · have hk' : k = s.size := by omega
      subst hk'
      have HY := Lib.hid (word_yes hs HA.out)
      go_wp2
      go_ret
      exact ⟨ret_bool HY.out.symm, rfl⟩

set_option maxHeartbeats 400000 in
theorem specCount (s : ByteArray) (c : UInt8) (w : World) (hs : s.size ≤ 1048576) :
    Calls Try.prog 101 #[.string s, .int .u8 c.toNat] w fun e w' => e = .returned (.int .i64 (cnt s.data.toList c)) ∧ w = w' := by
  go_enter Try.func101, Try.ntmps101
  go_wp2
  go_loop [5, 6] (fun n i => ∃ (k m : Nat), k ≤ s.size ∧ i = .int .i64 k ∧ n = .int .i64 m ∧ m ≤ k ∧ m = cnt (s.data.toList.take k) c) (fun _ i => s.size - (intOf i).toNat)
  case atStart => exact ⟨0, 0, Nat.zero_le _, rfl, rfl, by omega, rfl⟩
  case round =>
    obtain ⟨k, m, hk, rfl, rfl, hm, hc⟩ := hrel
    have HC := Lib.hid hc
    clear hc
    by_cases hlt : k < s.size
    · have HS := Lib.hid (cnt_succ s k hlt c)
      by_cases he : s[k] = c
      · have hb : ((s[k].toNat : Int) == (c.toNat : Int)) = true := by rw [he]; simp
        have HE := Lib.hid he
        clear he
        go_wp2
        go_round
        case rel => exact ⟨k + 1, m + 1, by omega, by go_num, by go_num, by omega, by rw [HS.out, if_pos HE.out, HC.out]⟩
        case measure => simp [intOf]; omega
      · have hb : ((s[k].toNat : Int) == (c.toNat : Int)) = false := by
          rw [beq_eq_false_iff_ne]
          intro h
          exact he (UInt8.toNat_inj.1 (by omega))
        have HE := Lib.hid he
        clear he
        go_wp2
        go_round
        case rel => exact ⟨k + 1, m, by omega, by go_num, rfl, by omega, by rw [HS.out, if_neg HE.out, HC.out]; rfl⟩
        case measure => simp [intOf]; omega
    · have hk' : k = s.size := by omega
      subst hk'
      go_wp2
      go_ret
      refine ⟨ret_int ?_, rfl⟩
      rw [HC.out, take_all s _ (Nat.le_refl _)]
end Go.Proofs.Ytgidfainoijcmaa

/- SubstOk of the model, and what it asks of each image. Conditions: lengths of at most 2^20. -/
namespace Go.Proofs.Ytgidfainoijcmaa
open Go.RowKit

theorem specIn (x a b : Int) (w : World) :
    Calls Try.prog 75 #[.int .i64 x, .int .i64 a, .int .i64 b] w fun e w' => e = .returned (.bool (decide (a ≤ x) && decide (x ≤ b))) ∧ w = w' := by
  by_cases h1 : a ≤ x
  · have hd1 : decide (a ≤ x) = true := by simpa using h1
    go_enter Try.func75, Try.ntmps75
    go_wp2
    go_ret
    exact ⟨ret_bool (by simp [h1]), rfl⟩
  · have hd1 : decide (a ≤ x) = false := by simpa using h1
    go_enter Try.func75, Try.ntmps75
    go_wp2
    go_ret
    exact ⟨ret_bool (by simp), rfl⟩

set_option maxHeartbeats 400000 in
theorem specWithin (n : Nat) (s : ByteArray) (w : World) (_ : n ≤ 1048576) (h : wordB s = true) :
    Calls Try.prog 100 #[.int .i64 n, .string s] w fun e w' => e = .returned (.bool (withinB n s)) ∧ w = w' := by
  have hs := word_size h
  have HW := Lib.hid (word_at h)
  clear h
  go_enter Try.func100, Try.ntmps100
  go_wp2
  go_loop [5] (fun i => ∃ k : Nat, k ≤ s.size ∧ i = .int .i64 k ∧ (s.data.toList.take k).all (fun c => decide (c.toNat < 97 + n)) = true) (fun i => s.size - (intOf i).toNat)
  case atStart => exact ⟨0, Nat.zero_le _, rfl, rfl⟩
  case round =>
    obtain ⟨k, hk, rfl, ha⟩ := hrel
    have HA := Lib.hid ha
    clear ha
    by_cases hlt : k < s.size
    · obtain ⟨p1, p2⟩ := HW.out k hlt
      have p1' : (97 : Int) ≤ s[k].toNat := by omega
      have p2' : (s[k].toNat : Int) ≤ 100 := by omega
      clear p1 p2
      by_cases hc : s[k].toNat < 97 + n
      · have hge : ¬ ((n : Int) ≤ (s[k].toNat : Int) - 97) := by omega
        have HC := Lib.hid hc
        clear hc
        go_wp2
        go_round
        case rel => exact ⟨k + 1, by omega, by go_num, all_snoc s k hlt HA.out (by simpa using HC.out)⟩
        case measure => simp [intOf]; omega
      · have hge : (n : Int) ≤ (s[k].toNat : Int) - 97 := by omega
        have HN : Hid (withinB n s = false) := by
          show withinB n s = false
          exact all_not s k hlt (by simpa using hc)
        clear hc
        go_wp2
        go_ret
        exact ⟨ret_bool HN.out.symm, rfl⟩
    · have hk' : k = s.size := by omega
      subst hk'
      have HY : Hid (withinB n s = true) := by
        have := HA.out
        rw [take_all s _ (Nat.le_refl _)] at this
        exact this
      go_wp2
      go_ret
      exact ⟨ret_bool HY.out.symm, rfl⟩

set_option maxHeartbeats 1000000 in
theorem specSubstOk (l : List ByteArray) (v : Value) (w : World) (h : Lst w v (strs l)) (hz : ∀ x ∈ l, x.size ≤ 1048576) (hn : l.length ≤ 1048576) :
    Calls Try.prog 70 #[.agg #[v]] w fun e w' => e = .returned (.bool (substB l)) ∧ Below w.heap.size w w' := by
  obtain ⟨A, cp, rfl⟩ := lst_slice h
  rw [strs_length] at h ⊢
  by_cases hl : 1 ≤ l.length ∧ l.length ≤ 4
  · obtain ⟨hl1, hl4⟩ := hl
    have d1 : decide ((1 : Int) ≤ l.length) = true := by simp; omega
    have d2 : decide ((l.length : Int) ≤ 4) = true := by simp; omega
    have hb0 : Below w.heap.size w (w.alloc (.cells #[.slice A l.length cp] 25)) := (Below.refl _ _).alloc (Nat.le_refl _) _
    obtain ⟨A', c', he, hc1, hc2, h1⟩ := h.below hb0
    rw [strs_length] at he hc1
    injection he with hA _ hc
    subst hA; subst hc
    replace h1 := h1.resolve_left (by
      intro e
      have := congrArg List.length e
      rw [strs_length] at this
      simp only [List.length_nil] at this
      omega)
    obtain ⟨b, off, rfl, h1⟩ := h1
    have H1 := Lib.hid (strs_at h1)
    have HZ := Lib.hid hz
    have HB := Lib.hid hb0
    clear h1 hz hc2 hc1 h hb0
    go_enter Try.func70, Try.ntmps70
    go_wp2_with (go_at_call 75; refine (specIn _ _ _ _).mono ?_; rintro e w' ⟨rfl, rfl⟩)
    go_loop [15] (fun i => ∃ k : Nat, k ≤ l.length ∧ i = .int .i64 k ∧ (l.take k).all (imgB l.length) = true) (fun i => l.length - (intOf i).toNat)
    case atStart => exact ⟨0, Nat.zero_le _, rfl, rfl⟩
    case round =>
      obtain ⟨k, hk, rfl, ha⟩ := hrel
      have HA := Lib.hid ha
      clear ha
      by_cases hlt : k < l.length
      · have g1 := H1.out k hlt
        have hsz := HZ.out _ (List.getElem_mem hlt)
        by_cases c1 : 1 ≤ l[k].size ∧ l[k].size ≤ 8
        · obtain ⟨c1, c2⟩ := c1
          have e1 : decide ((1 : Int) ≤ l[k].size) = true := by simp; omega
          have e2 : decide ((l[k].size : Int) ≤ 8) = true := by simp; omega
          by_cases c3 : wordB l[k] = true
          · have HWI := Lib.hid (fun w => specWithin l.length l[k] w (by omega) c3)
            by_cases c4 : withinB l.length l[k] = true
            · have HI := Lib.hid (img_yes c1 c2 c3 c4)
              go_wp2_with (first
                | (go_at_call 75; refine (specIn _ _ _ _).mono ?_; rintro e w' ⟨rfl, rfl⟩)
                | (go_at_call 99; refine (specWordOk _ _).mono ?_; rintro e w' ⟨rfl, rfl⟩)
                | (go_at_call 100; refine (HWI.out _).mono ?_; rintro e w' ⟨rfl, rfl⟩))
              go_round
              case rel => exact ⟨k + 1, by omega, by go_num, lall_snoc l k hlt HA.out HI.out⟩
              case measure => simp [intOf]; omega
            · have c4' : withinB l.length l[k] = false := by simpa using c4
              have HN := Lib.hid (subst_no k hlt (img_no3 c4'))
              clear c4
              go_wp2_with (first
                | (go_at_call 75; refine (specIn _ _ _ _).mono ?_; rintro e w' ⟨rfl, rfl⟩)
                | (go_at_call 99; refine (specWordOk _ _).mono ?_; rintro e w' ⟨rfl, rfl⟩)
                | (go_at_call 100; refine (HWI.out _).mono ?_; rintro e w' ⟨rfl, rfl⟩))
              go_ret
              exact ⟨ret_bool HN.out.symm, HB.out⟩
          · have c3' : wordB l[k] = false := by simpa using c3
            have HN := Lib.hid (subst_no k hlt (img_no2 c3'))
            clear c3
            go_wp2_with (first
              | (go_at_call 75; refine (specIn _ _ _ _).mono ?_; rintro e w' ⟨rfl, rfl⟩)
              | (go_at_call 99; refine (specWordOk _ _).mono ?_; rintro e w' ⟨rfl, rfl⟩))
            go_ret
            exact ⟨ret_bool HN.out.symm, HB.out⟩
        · have HN := Lib.hid (subst_no k hlt (img_no1 c1))
          have e1 : (decide ((1 : Int) ≤ l[k].size) && decide ((l[k].size : Int) ≤ 8)) = false := by simp; omega
          clear c1
          go_wp2_with (go_at_call 75; refine (specIn _ _ _ _).mono ?_; rintro e w' ⟨rfl, rfl⟩)
          go_ret
          exact ⟨ret_bool HN.out.symm, HB.out⟩
      · have hk' : k = l.length := by omega
        have HY := Lib.hid (subst_yes hl1 hl4 (hk' ▸ HA.out))
        clear hk'
        go_wp2
        go_ret
        exact ⟨ret_bool HY.out.symm, HB.out⟩
  · have HN := Lib.hid (subst_len hl)
    have hb0 : Below w.heap.size w (w.alloc (.cells #[.slice A l.length cp] 25)) := (Below.refl _ _).alloc (Nat.le_refl _) _
    have d1 : (decide ((1 : Int) ≤ l.length) && decide ((l.length : Int) ≤ 4)) = false := by simp; omega
    have HB := Lib.hid hb0
    clear hl h hz hb0
    go_enter Try.func70, Try.ntmps70
    go_wp2_with (go_at_call 75; refine (specIn _ _ _ _).mono ?_; rintro e w' ⟨rfl, rfl⟩)
    go_ret
    exact ⟨ret_bool HN.out.symm, HB.out⟩
end Go.Proofs.Ytgidfainoijcmaa

/- l04Square and TraceOf of the model. Conditions: lengths that an int holds. -/
namespace Go.Proofs.Ytgidfainoijcmaa
open Go.RowKit

set_option maxHeartbeats 1000000 in
theorem specSquare (m : List (List Int)) (v : Value) (w : World) (h : Mat w v m) (hm : m.length ≤ 1048576) (hr : ∀ r ∈ m, r.length ≤ 1048576) :
    Calls Try.prog 84 #[v] w fun e w' => e = .returned (.bool (sqB m)) ∧ w = w' := by
  by_cases hl : 1 ≤ m.length ∧ m.length ≤ 4
  · obtain ⟨hl1, hl4⟩ := hl
    have d1 : decide ((1 : Int) ≤ m.length) = true := by simp; omega
    have d2 : decide ((m.length : Int) ≤ 4) = true := by simp; omega
    obtain ⟨b, off, cp, rfl, q1, q2, r1⟩ := mat_rows h (by omega)
    have H1 := Lib.hid r1
    have HR := Lib.hid hr
    clear r1 h hr q1 q2
    go_enter Try.func84, Try.ntmps84
    go_wp2_with (go_at_call 75; refine (specIn _ _ _ _).mono ?_; rintro e w' ⟨rfl, rfl⟩)
    go_loop [13] (fun i => ∃ k : Nat, k ≤ m.length ∧ i = .int .i64 k ∧ (m.take k).all (rowOk m.length) = true) (fun i => m.length - (intOf i).toNat)
    case atStart => exact ⟨0, Nat.zero_le _, rfl, rfl⟩
    case round =>
      obtain ⟨k, hk, rfl, ha⟩ := hrel
      have HA := Lib.hid ha
      clear ha
      by_cases hlt : k < m.length
      · obtain ⟨u, g1, lu⟩ := H1.out k hlt
        have hrl := HR.out _ (List.getElem_mem hlt)
        obtain ⟨Au, cu, rfl⟩ := lst_slice lu
        rw [ints_length] at g1 lu
        by_cases hlen : m[k].length = m.length
        · have b1 : ((m[k].length : Int) != (m.length : Int)) = false := by rw [hlen]; simp
          obtain ⟨A', c', he, hc1, hc2, h1⟩ := lu
          rw [ints_length] at he hc1
          injection he with hA _ hc
          subst hA; subst hc
          replace h1 := h1.resolve_left (by
            intro e
            have := congrArg List.length e
            rw [ints_length] at this
            simp only [List.length_nil] at this
            omega)
          obtain ⟨b2, off2, rfl, h1⟩ := h1
          have H2 := Lib.hid (ints_at h1)
          have HLN := Lib.hid hlen
          clear h1 hc1 hc2 hlen
          go_wp2_with fail
          go_loop [24] (fun i => ∃ j : Nat, j ≤ m[k].length ∧ i = .int .i64 j ∧ (m[k].take j).all (fun x => decide (-100 ≤ x) && decide (x ≤ 100)) = true) (fun i => m[k].length - (intOf i).toNat)
          case atStart => exact ⟨0, Nat.zero_le _, rfl, rfl⟩
          case round =>
            obtain ⟨j, hj, rfl, hb⟩ := hrel
            have HB := Lib.hid hb
            clear hb
            by_cases hlt2 : j < m[k].length
            · have g2 := H2.out j hlt2
              by_cases hx : (decide ((-100 : Int) ≤ m[k][j]) && decide (m[k][j] ≤ (100 : Int))) = true
              · have HX := Lib.hid hx
                go_wp2_with (go_at_call 75; refine (specIn _ _ _ _).mono ?_; rintro e w' ⟨rfl, rfl⟩)
                go_round
                case rel => exact ⟨j + 1, by omega, by go_num, lall_snoc m[k] j hlt2 HB.out HX.out⟩
                case measure => simp [intOf]; omega
              · have hx' : (decide ((-100 : Int) ≤ m[k][j]) && decide (m[k][j] ≤ (100 : Int))) = false := by simpa only [Bool.not_eq_true] using hx
                have HN : Hid (sqB m = false) := by
                  show sqB m = false
                  refine sq_no k hlt ?_
                  unfold rowOk
                  rw [lall_no m[k] j hlt2 hx', Bool.and_false]
                clear hx
                go_wp2_with (go_at_call 75; refine (specIn _ _ _ _).mono ?_; rintro e w' ⟨rfl, rfl⟩)
                go_ret
                exact ⟨ret_bool HN.out.symm, rfl⟩
            · have hje : j = m[k].length := by omega
              have HK : Hid (rowOk m.length m[k] = true) := by
                show rowOk m.length m[k] = true
                unfold rowOk
                rw [lall_end m[k] (hje ▸ HB.out), decide_eq_true HLN.out]
                rfl
              clear hje
              go_wp2_with fail
              go_round
              case rel => exact ⟨k + 1, by omega, by go_num, lall_snoc m k hlt HA.out HK.out⟩
              case measure => simp [intOf]; omega
        · have b1 : ((m[k].length : Int) != (m.length : Int)) = true := by rw [bne_iff_ne]; omega
          have HN : Hid (sqB m = false) := by
            show sqB m = false
            refine sq_no k hlt ?_
            unfold rowOk
            rw [decide_eq_false hlen]
            rfl
          clear hlen lu
          go_wp2_with fail
          go_ret
          exact ⟨ret_bool HN.out.symm, rfl⟩
      · have hk' : k = m.length := by omega
        have HY := Lib.hid (sq_yes hl1 hl4 (hk' ▸ HA.out))
        clear hk'
        go_wp2_with fail
        go_ret
        exact ⟨ret_bool HY.out.symm, rfl⟩
  · have HN := Lib.hid (sq_len hl)
    have d1 : (decide ((1 : Int) ≤ m.length) && decide ((m.length : Int) ≤ 4)) = false := by simp; omega
    obtain ⟨A, cap, rfl⟩ := mat_slice h
    clear hl h hr
    go_enter Try.func84, Try.ntmps84
    go_wp2_with (go_at_call 75; refine (specIn _ _ _ _).mono ?_; rintro e w' ⟨rfl, rfl⟩)
    go_ret
    exact ⟨ret_bool HN.out.symm, rfl⟩

/-- a row of a square matrix, cell by cell -/
theorem sq_row {w : World} {v : Value} {m : List (List Int)} (h : Mat w v m) (hs : sqB m = true) : ∃ b off cap, v = .slice (some ⟨b, off, none⟩) m.length cap ∧ m.length ≤ cap ∧ ∀ k, k < m.length → ∃ b2 off2 cap2, w.cell? ⟨b, off + k, none⟩ = some (.slice (some ⟨b2, off2, none⟩) m.length cap2) ∧ m.length ≤ cap2 ∧ cap2 ≤ maxLen ∧ ∀ j, j < m.length → w.cell? ⟨b2, off2 + j, none⟩ = some (.int .i64 (at2 m k j)) := by
  obtain ⟨h1, h4, h5, _⟩ := sq_parts hs
  obtain ⟨b, off, cap, e, q1, q2, hr⟩ := mat_rows h (by omega)
  refine ⟨b, off, cap, e, q1, fun k hk => ?_⟩
  obtain ⟨u, g1, ⟨A, cap2, e2, c1, c2, h2⟩⟩ := hr k hk
  rw [ints_length, h5 k hk] at e2 c1
  replace h2 := h2.resolve_left (by
    intro e
    have := congrArg List.length e
    rw [ints_length, h5 k hk] at this
    simp only [List.length_nil] at this
    omega)
  obtain ⟨b2, off2, rfl, h2⟩ := h2
  refine ⟨b2, off2, cap2, by rw [g1, e2], c1, c2, fun j hj => ?_⟩
  have hj' : j < m[k].length := by rw [h5 k hk]; exact hj
  rw [at2_eq m k j hk hj']
  exact ints_at h2 j hj'

theorem at2_small {m : List (List Int)} (hs : sqB m = true) (i k : Nat) (hi : i < m.length) (hk : k < m.length) : -100 ≤ at2 m i k ∧ at2 m i k ≤ 100 := by
  obtain ⟨_, _, h5, h6⟩ := sq_parts hs
  have hk' : k < m[i].length := by rw [h5 i hi]; exact hk
  rw [at2_eq m i k hi hk']
  exact h6 i hi k hk'
theorem trTo_bound {m : List (List Int)} (hs : sqB m = true) : ∀ k, k ≤ m.length → -(100 * k : Int) ≤ trTo m k ∧ trTo m k ≤ 100 * k
  | 0, _ => by simp [trTo]
  | k + 1, h => by
    have ih := trTo_bound hs k (by omega)
    have := at2_small hs k k (by omega) (by omega)
    unfold trTo
    omega

set_option maxHeartbeats 400000 in
theorem specTraceOfW (m : List (List Int)) (v : Value) (w : World) (h : Mat w v m) (hm : m.length ≤ 1048576) (hr : ∀ r ∈ m, r.length ≤ 1048576) :
    Calls Try.prog 46 #[v] w fun e w' => e = .returned (.int .i64 (trR m)) ∧ w = w' := by
  have HSQ := Lib.hid (specSquare m v w h hm hr)
  by_cases hs : sqB m = true
  · have HV : Hid (trR m = trTo m m.length) := if_pos hs
    obtain ⟨_, h4, _, _⟩ := sq_parts hs
    have HSM := Lib.hid (at2_small hs)
    have HTB := Lib.hid (trTo_bound hs)
    obtain ⟨b, off, cp, rfl, _, hrow⟩ := sq_row h hs
    have H1 := Lib.hid hrow
    clear h hr hrow
    go_enter Try.func46, Try.ntmps46
    go_wp2_with (go_at_call 84; refine HSQ.out.mono ?_; rintro e w' ⟨rfl, rfl⟩)
    go_loop [3, 11] (fun n i => ∃ k : Nat, k ≤ m.length ∧ i = .int .i64 k ∧ n = .int .i64 (trTo m k)) (fun _ i => m.length - (intOf i).toNat)
    case atStart => exact ⟨0, Nat.zero_le _, rfl, rfl⟩
    case round =>
      obtain ⟨k, hk, rfl, rfl⟩ := hrel
      by_cases hlt : k < m.length
      · obtain ⟨b2, off2, cap2, g1, q1, q2, hc⟩ := H1.out k hlt
        have g2 := hc k hlt
        obtain ⟨s1, s2⟩ := HSM.out k k hlt hlt
        obtain ⟨t1, t2⟩ := HTB.out k hk
        clear hc
        go_wp2_with fail
        go_round
        case rel => exact ⟨k + 1, by omega, by go_num, rfl⟩
        case measure => simp [intOf]; omega
      · have hkm : k = m.length := by omega
        have HV2 : Hid (trTo m k = trR m) := by show trTo m k = trR m; rw [HV.out, hkm]
        clear hkm
        go_wp2_with fail
        go_ret
        exact ⟨ret_int HV2.out, rfl⟩
  · have hs' : sqB m = false := by simpa using hs
    have HV : Hid (trR m = 0) := if_neg hs
    obtain ⟨A, cap, rfl⟩ := mat_slice h
    clear h hs
    go_enter Try.func46, Try.ntmps46
    go_wp2_with (go_at_call 84; refine HSQ.out.mono ?_; rintro e w' ⟨rfl, rfl⟩)
    go_ret
    exact ⟨ret_int HV.out.symm, rfl⟩

theorem specTraceOf (m : List (List Int)) (v : Value) (w : World) (h : Mat w v m) (hm : m.length ≤ 1048576) (hr : ∀ r ∈ m, r.length ≤ 1048576) :
    Calls Try.prog 46 #[v] w fun e w' => e = .returned (.int .i64 (trR m)) ∧ Below w.heap.size w w' :=
  (specTraceOfW m v w h hm hr).mono (by rintro e w' ⟨h, rfl⟩; exact ⟨h, Below.refl _ _⟩)
end Go.Proofs.Ytgidfainoijcmaa

/- Determinants by the first row. No program in it. -/
namespace Go.Proofs.Ytgidfainoijcmaa
open Go.RowKit

def sgnN (k : Nat) : Int := if k % 2 = 0 then 1 else -1
theorem sgnN_succ (k : Nat) : sgnN (k + 1) = -sgnN k := by
  unfold sgnN
  rcases Nat.mod_two_eq_zero_or_one k with h | h
  · rw [if_pos h, if_neg (show ¬ (k + 1) % 2 = 0 by omega)]
  · rw [if_pos (show (k + 1) % 2 = 0 by omega), if_neg (show ¬ k % 2 = 0 by omega)]; rfl
theorem sgnN_two (k : Nat) : sgnN k = 1 ∨ sgnN k = -1 := by
  unfold sgnN
  split
  · exact .inl rfl
  · exact .inr rfl
/-- a row without its number k -/
def cutR (k : Nat) (r : List Int) : List Int := r.take k ++ r.drop (k + 1)
def minorM (m : List (List Int)) (k : Nat) : List (List Int) := (m.drop 1).map (cutR k)
def sumTo (f : Nat → Int) : Nat → Int
  | 0 => 0
  | k + 1 => sumTo f k + f k
/-- the determinant of a matrix of n rows, by its first row -/
def detS : Nat → List (List Int) → Int
  | 0, _ => 1
  | n + 1, m => sumTo (fun k => sgnN k * at2 m 0 k * detS n (minorM m k)) (n + 1)
def SqN (n : Nat) (m : List (List Int)) : Prop := m.length = n ∧ (∀ i (h : i < m.length), m[i].length = n) ∧ ∀ i k, i < n → k < n → -100 ≤ at2 m i k ∧ at2 m i k ≤ 100
theorem sqN_of {m : List (List Int)} (h : sqB m = true) : SqN m.length m := ⟨rfl, (sq_parts h).2.2.1, fun i k hi hk => at2_small h i k hi hk⟩
theorem minorM_length (m : List (List Int)) (k : Nat) : (minorM m k).length = m.length - 1 := by simp [minorM]
theorem minorM_at (m : List (List Int)) (k i : Nat) (h : i < (minorM m k).length) (h' : i + 1 < m.length) : (minorM m k)[i] = cutR k m[i + 1] := by simp [minorM]
theorem cutR_length (k : Nat) (r : List Int) (h : k < r.length) : (cutR k r).length = r.length - 1 := by
  unfold cutR
  rw [List.length_append, List.length_take, List.length_drop]
  omega
theorem cutR_getD (k : Nat) (r : List Int) (h : k < r.length) (q : Nat) : (cutR k r).getD q 0 = r.getD (if q < k then q else q + 1) 0 := by
  unfold cutR
  rw [List.getD_eq_getElem?_getD, List.getD_eq_getElem?_getD]
  have hl : (r.take k).length = k := by rw [List.length_take]; omega
  by_cases hq : q < k
  · rw [if_pos hq, List.getElem?_append_left (by omega), List.getElem?_take, if_pos hq]
  · rw [if_neg hq, List.getElem?_append_right (by omega), hl, List.getElem?_drop]
    congr 2
    omega
theorem minor_at2 {n : Nat} {m : List (List Int)} (h : SqN (n + 1) m) (k : Nat) (hk : k < n + 1) (i q : Nat) (hi : i < n) : at2 (minorM m k) i q = at2 m (i + 1) (if q < k then q else q + 1) := by
  obtain ⟨h1, h2, _⟩ := h
  have hl : i < (minorM m k).length := by rw [minorM_length]; omega
  have hi1 : i + 1 < m.length := by omega
  unfold at2
  rw [List.getD_eq_getElem?_getD (l := minorM m k), List.getD_eq_getElem?_getD (l := m), List.getElem?_eq_getElem hl, List.getElem?_eq_getElem hi1, Option.getD_some, Option.getD_some, minorM_at m k i hl hi1]
  exact cutR_getD k _ (by rw [h2 _ hi1]; exact hk) q
theorem minor_sq {n : Nat} {m : List (List Int)} (h : SqN (n + 1) m) (k : Nat) (hk : k < n + 1) : SqN n (minorM m k) := by
  obtain ⟨h1, h2, h3⟩ := id h
  refine ⟨by rw [minorM_length]; omega, fun i hi => ?_, fun i q hi hq => ?_⟩
  · have hi1 : i + 1 < m.length := by rw [minorM_length] at hi; omega
    rw [minorM_at m k i hi hi1, cutR_length k _ (by rw [h2 _ hi1]; exact hk), h2 _ hi1]
    rfl
  · rw [minor_at2 h k hk i q hi]
    split
    · exact h3 _ _ (by omega) (by omega)
    · exact h3 _ _ (by omega) (by omega)
/-- how large a determinant of n rows can be -/
def detMax : Nat → Int
  | 0 => 1
  | n + 1 => (n + 1 : Nat) * (100 * detMax n)
theorem term_bound {n : Nat} {m : List (List Int)} (h : SqN (n + 1) m) (k : Nat) (hk : k < n + 1) {d D : Int} (hd : -D ≤ d ∧ d ≤ D) : (-100 ≤ sgnN k * at2 m 0 k ∧ sgnN k * at2 m 0 k ≤ 100) ∧ -(100 * D) ≤ sgnN k * at2 m 0 k * d ∧ sgnN k * at2 m 0 k * d ≤ 100 * D := by
  have h3 := h.2.2 0 k (by omega) hk
  have h1 : -100 ≤ sgnN k * at2 m 0 k ∧ sgnN k * at2 m 0 k ≤ 100 := by
    rcases sgnN_two k with e | e <;> rw [e] <;> omega
  exact ⟨h1, mul_bound h1 hd⟩
theorem sumTo_bound {f : Nat → Int} {D : Int} (n : Nat) (h : ∀ k, k < n → -D ≤ f k ∧ f k ≤ D) : ∀ k, k ≤ n → -(k * D) ≤ sumTo f k ∧ sumTo f k ≤ k * D
  | 0, _ => by simp [sumTo]
  | k + 1, hk => by
    have ih := sumTo_bound n h k (by omega)
    have hb := h k (by omega)
    have e : ((k + 1 : Nat) : Int) * D = k * D + D := by rw [Int.natCast_add, Int.add_mul]; simp
    rw [e]
    unfold sumTo
    omega
theorem det_bound : ∀ (n : Nat) (m : List (List Int)), SqN n m → -detMax n ≤ detS n m ∧ detS n m ≤ detMax n
  | 0, _, _ => by simp [detS, detMax]
  | n + 1, m, h => by
    have hb := sumTo_bound (f := fun k => sgnN k * at2 m 0 k * detS n (minorM m k)) (D := 100 * detMax n) (n + 1) (fun k hk => (term_bound h k hk (det_bound n _ (minor_sq h k hk))).2) (n + 1) (Nat.le_refl _)
    exact hb
/-- what DeterminantOf is to return -/
def detR (m : List (List Int)) : Int := if sqB m = true then detS m.length m else 0
end Go.Proofs.Ytgidfainoijcmaa
