/- l04Square and TraceOf of the model. Conditions: lengths that an int holds. -/
import Derived.Test.YtgidfainoijcmaaMatQ
import Derived.Test.YtgidfainoijcmaaMat
import Derived.Test.YtgidfainoijcmaaSubstOk
namespace Go.Proofs.Ytgidfainoijcmaa
open Go.RowKit

set_option maxHeartbeats 1000000 in
theorem specSquare (m : List (List Int)) (v : Value) (w : World) (h : Mat w v m) (hm : m.length ≤ 1048576) (hr : ∀ r ∈ m, r.length ≤ 1048576) :
    Calls Try.prog 84 #[v] w fun e w' => e = .returned (.bool (sqB m)) ∧ w = w' := by
  by_cases hl : 1 ≤ m.length ∧ m.length ≤ 4
  · obtain ⟨hl1, hl4⟩ := hl
    have d1 : decide ((1 : Int) ≤ m.length) = true := by simp; omega
    have d2 : decide ((m.length : Int) ≤ 4) = true := by simp; omega
    obtain ⟨b, off, cp, rfl, q1, q2, r1⟩ := mat_rows h (by omega)
    have H1 := Lib.hid r1
    have HR := Lib.hid hr
    clear r1 h hr q1 q2
    go_enter Try.func84, Try.ntmps84
    go_wp2_with (go_at_call 75; refine (specIn _ _ _ _).mono ?_; rintro e w' ⟨rfl, rfl⟩)
    go_loop [13] (fun i => ∃ k : Nat, k ≤ m.length ∧ i = .int .i64 k ∧ (m.take k).all (rowOk m.length) = true) (fun i => m.length - (intOf i).toNat)
    case atStart => exact ⟨0, Nat.zero_le _, rfl, rfl⟩
    case round =>
      obtain ⟨k, hk, rfl, ha⟩ := hrel
      have HA := Lib.hid ha
      clear ha
      by_cases hlt : k < m.length
      · obtain ⟨u, g1, lu⟩ := H1.out k hlt
        have hrl := HR.out _ (List.getElem_mem hlt)
        obtain ⟨Au, cu, rfl⟩ := lst_slice lu
        rw [ints_length] at g1 lu
        by_cases hlen : m[k].length = m.length
        · have b1 : ((m[k].length : Int) != (m.length : Int)) = false := by rw [hlen]; simp
          obtain ⟨A', c', he, hc1, hc2, h1⟩ := lu
          rw [ints_length] at he hc1
          injection he with hA _ hc
          subst hA; subst hc
          replace h1 := h1.resolve_left (by
            intro e
            have := congrArg List.length e
            rw [ints_length] at this
            simp only [List.length_nil] at this
            omega)
          obtain ⟨b2, off2, rfl, h1⟩ := h1
          have H2 := Lib.hid (ints_at h1)
          have HLN := Lib.hid hlen
          clear h1 hc1 hc2 hlen
          go_wp2_with fail
          go_loop [24] (fun i => ∃ j : Nat, j ≤ m[k].length ∧ i = .int .i64 j ∧ (m[k].take j).all (fun x => decide (-100 ≤ x) && decide (x ≤ 100)) = true) (fun i => m[k].length - (intOf i).toNat)
          case atStart => exact ⟨0, Nat.zero_le _, rfl, rfl⟩
          case round =>
            obtain ⟨j, hj, rfl, hb⟩ := hrel
            have HB := Lib.hid hb
            clear hb
            by_cases hlt2 : j < m[k].length
            · have g2 := H2.out j hlt2
              by_cases hx : (decide ((-100 : Int) ≤ m[k][j]) && decide (m[k][j] ≤ (100 : Int))) = true
              · have HX := Lib.hid hx
                go_wp2_with (go_at_call 75; refine (specIn _ _ _ _).mono ?_; rintro e w' ⟨rfl, rfl⟩)
                go_round
                case rel => exact ⟨j + 1, by omega, by go_num, lall_snoc m[k] j hlt2 HB.out HX.out⟩
                case measure => simp [intOf]; omega
              · have hx' : (decide ((-100 : Int) ≤ m[k][j]) && decide (m[k][j] ≤ (100 : Int))) = false := by simpa only [Bool.not_eq_true] using hx
                have HN : Hid (sqB m = false) := by
                  show sqB m = false
                  refine sq_no k hlt ?_
                  unfold rowOk
                  rw [lall_no m[k] j hlt2 hx', Bool.and_false]
                clear hx
                go_wp2_with (go_at_call 75; refine (specIn _ _ _ _).mono ?_; rintro e w' ⟨rfl, rfl⟩)
                go_ret
                exact ⟨ret_bool HN.out.symm, rfl⟩
            · have hje : j = m[k].length := by omega
              have HK : Hid (rowOk m.length m[k] = true) := by
                show rowOk m.length m[k] = true
                unfold rowOk
                rw [lall_end m[k] (hje ▸ HB.out), decide_eq_true HLN.out]
                rfl
              clear hje
              go_wp2_with fail
              go_round
              case rel => exact ⟨k + 1, by omega, by go_num, lall_snoc m k hlt HA.out HK.out⟩
              case measure => simp [intOf]; omega
        · have b1 : ((m[k].length : Int) != (m.length : Int)) = true := by rw [bne_iff_ne]; omega
          have HN : Hid (sqB m = false) := by
            show sqB m = false
            refine sq_no k hlt ?_
            unfold rowOk
            rw [decide_eq_false hlen]
            rfl
          clear hlen lu
          go_wp2_with fail
          go_ret
          exact ⟨ret_bool HN.out.symm, rfl⟩
      · have hk' : k = m.length := by omega
        have HY := Lib.hid (sq_yes hl1 hl4 (hk' ▸ HA.out))
        clear hk'
        go_wp2_with fail
        go_ret
        exact ⟨ret_bool HY.out.symm, rfl⟩
  · have HN := Lib.hid (sq_len hl)
    have d1 : (decide ((1 : Int) ≤ m.length) && decide ((m.length : Int) ≤ 4)) = false := by simp; omega
    obtain ⟨A, cap, rfl⟩ := mat_slice h
    clear hl h hr
    go_enter Try.func84, Try.ntmps84
    go_wp2_with (go_at_call 75; refine (specIn _ _ _ _).mono ?_; rintro e w' ⟨rfl, rfl⟩)
    go_ret
    exact ⟨ret_bool HN.out.symm, rfl⟩

/-- a row of a square matrix, cell by cell -/
theorem sq_row {w : World} {v : Value} {m : List (List Int)} (h : Mat w v m) (hs : sqB m = true) : ∃ b off cap, v = .slice (some ⟨b, off, none⟩) m.length cap ∧ m.length ≤ cap ∧ ∀ k, k < m.length → ∃ b2 off2 cap2, w.cell? ⟨b, off + k, none⟩ = some (.slice (some ⟨b2, off2, none⟩) m.length cap2) ∧ m.length ≤ cap2 ∧ cap2 ≤ maxLen ∧ ∀ j, j < m.length → w.cell? ⟨b2, off2 + j, none⟩ = some (.int .i64 (at2 m k j)) := by
  obtain ⟨h1, h4, h5, _⟩ := sq_parts hs
  obtain ⟨b, off, cap, e, q1, q2, hr⟩ := mat_rows h (by omega)
  refine ⟨b, off, cap, e, q1, fun k hk => ?_⟩
  obtain ⟨u, g1, ⟨A, cap2, e2, c1, c2, h2⟩⟩ := hr k hk
  rw [ints_length, h5 k hk] at e2 c1
  replace h2 := h2.resolve_left (by
    intro e
    have := congrArg List.length e
    rw [ints_length, h5 k hk] at this
    simp only [List.length_nil] at this
    omega)
  obtain ⟨b2, off2, rfl, h2⟩ := h2
  refine ⟨b2, off2, cap2, by rw [g1, e2], c1, c2, fun j hj => ?_⟩
  have hj' : j < m[k].length := by rw [h5 k hk]; exact hj
  rw [at2_eq m k j hk hj']
  exact ints_at h2 j hj'

theorem at2_small {m : List (List Int)} (hs : sqB m = true) (i k : Nat) (hi : i < m.length) (hk : k < m.length) : -100 ≤ at2 m i k ∧ at2 m i k ≤ 100 := by
  obtain ⟨_, _, h5, h6⟩ := sq_parts hs
  have hk' : k < m[i].length := by rw [h5 i hi]; exact hk
  rw [at2_eq m i k hi hk']
  exact h6 i hi k hk'
theorem trTo_bound {m : List (List Int)} (hs : sqB m = true) : ∀ k, k ≤ m.length → -(100 * k : Int) ≤ trTo m k ∧ trTo m k ≤ 100 * k
  | 0, _ => by simp [trTo]
  | k + 1, h => by
    have ih := trTo_bound hs k (by omega)
    have := at2_small hs k k (by omega) (by omega)
    unfold trTo
    omega

set_option maxHeartbeats 400000 in
theorem specTraceOfW (m : List (List Int)) (v : Value) (w : World) (h : Mat w v m) (hm : m.length ≤ 1048576) (hr : ∀ r ∈ m, r.length ≤ 1048576) :
    Calls Try.prog 46 #[v] w fun e w' => e = .returned (.int .i64 (trR m)) ∧ w = w' := by
  have HSQ := Lib.hid (specSquare m v w h hm hr)
  by_cases hs : sqB m = true
  · have HV : Hid (trR m = trTo m m.length) := if_pos hs
    obtain ⟨_, h4, _, _⟩ := sq_parts hs
    have HSM := Lib.hid (at2_small hs)
    have HTB := Lib.hid (trTo_bound hs)
    obtain ⟨b, off, cp, rfl, _, hrow⟩ := sq_row h hs
    have H1 := Lib.hid hrow
    clear h hr hrow
    go_enter Try.func46, Try.ntmps46
    go_wp2_with (go_at_call 84; refine HSQ.out.mono ?_; rintro e w' ⟨rfl, rfl⟩)
    go_loop [3, 11] (fun n i => ∃ k : Nat, k ≤ m.length ∧ i = .int .i64 k ∧ n = .int .i64 (trTo m k)) (fun _ i => m.length - (intOf i).toNat)
    case atStart => exact ⟨0, Nat.zero_le _, rfl, rfl⟩
    case round =>
      obtain ⟨k, hk, rfl, rfl⟩ := hrel
      by_cases hlt : k < m.length
      · obtain ⟨b2, off2, cap2, g1, q1, q2, hc⟩ := H1.out k hlt
        have g2 := hc k hlt
        obtain ⟨s1, s2⟩ := HSM.out k k hlt hlt
        obtain ⟨t1, t2⟩ := HTB.out k hk
        clear hc
        go_wp2_with fail
        go_round
        case rel => exact ⟨k + 1, by omega, by go_num, rfl⟩
        case measure => simp [intOf]; omega
      · have hkm : k = m.length := by omega
        have HV2 : Hid (trTo m k = trR m) := by show trTo m k = trR m; rw [HV.out, hkm]
        clear hkm
        go_wp2_with fail
        go_ret
        exact ⟨ret_int HV2.out, rfl⟩
  · have hs' : sqB m = false := by simpa using hs
    have HV : Hid (trR m = 0) := if_neg hs
    obtain ⟨A, cap, rfl⟩ := mat_slice h
    clear h hs
    go_enter Try.func46, Try.ntmps46
    go_wp2_with (go_at_call 84; refine HSQ.out.mono ?_; rintro e w' ⟨rfl, rfl⟩)
    go_ret
    exact ⟨ret_int HV.out.symm, rfl⟩

theorem specTraceOf (m : List (List Int)) (v : Value) (w : World) (h : Mat w v m) (hm : m.length ≤ 1048576) (hr : ∀ r ∈ m, r.length ≤ 1048576) :
    Calls Try.prog 46 #[v] w fun e w' => e = .returned (.int .i64 (trR m)) ∧ Below w.heap.size w w' :=
  (specTraceOfW m v w h hm hr).mono (by rintro e w' ⟨h, rfl⟩; exact ⟨h, Below.refl _ _⟩)
end Go.Proofs.Ytgidfainoijcmaa
