/- CommonStart of the program. Condition: texts of at most 2^20 bytes. -/
import Derived.Test.YtgekhijjeojhaaaCommon
import Derived.Test.YtgekhijjeojhaaaWordOkI
namespace Go.Proofs.Ytgekhijjeojhaaa
open Go.RowKit

set_option maxHeartbeats 400000 in
theorem implCommon (s t : ByteArray) (w : World) (l1 : s.size ≤ 400) (l2 : t.size ≤ 400) :
    Calls Try.prog 52 #[.string s, .string t] w fun e w' => e = .returned (.int .i64 (lcp s.data.toList t.data.toList : Int)) ∧ ∃ n, w' = w.drewN n := by
  have HL : Hid (s.data.toList.length = s.size ∧ t.data.toList.length = t.size) := ⟨by simp, by simp⟩
  go_enter Try.func52, Try.ntmps52
  go_wp2_with fail
  go_loopw [5] (fun i w' => ∃ (k n : Nat), k ≤ s.size ∧ k ≤ t.size ∧ i = .int .i64 k ∧ s.data.toList.take k = t.data.toList.take k ∧ w' = w.drewN n) (fun i _ => s.size - (intOf i).toNat)
  case atStart => exact ⟨0, 0, by omega, by omega, rfl, rfl, rfl⟩
  case round =>
    obtain ⟨k, n, hk1, hk2, rfl, ht, rfl⟩ := hrel
    have HT := Lib.hid ht
    clear ht
    by_cases c1 : k < s.size
    · have d1 : decide ((k : Int) < s.size) = true := by simp; omega
      by_cases c2 : k < t.size
      · have d2 : decide ((k : Int) < t.size) = true := by simp; omega
        by_cases he : s[k] = t[k]
        · have hb : ((s[k].toNat : Int) == (t[k].toNat : Int)) = true := by rw [he]; simp
          have HN : Hid (s.data.toList.take (k + 1) = t.data.toList.take (k + 1)) := by
            show s.data.toList.take (k + 1) = t.data.toList.take (k + 1)
            rw [take_snoc s k c1, take_snoc t k c2, HT.out, he]
          clear he
          go_wp2_with fail
          go_quiet (fail)
          go_wp2_with fail
          go_roundw
          case rel => exact ⟨k + 1, _, by omega, by omega, by go_num, HN.out, rfl⟩
          case measure => simp [intOf]; omega
        · have hb : ((s[k].toNat : Int) == (t[k].toNat : Int)) = false := by
            rw [beq_eq_false_iff_ne]
            intro h
            exact he (UInt8.toNat_inj.1 (by omega))
          have hv : lcp s.data.toList t.data.toList = k := lcp_eq k _ _ HT.out (by rw [HL.out.1]; omega) (by rw [HL.out.2]; omega) (.inr (.inr (fun a b ha hb => by
            rw [at_some s k c1] at ha
            rw [at_some t k c2] at hb
            injection ha with ha
            injection hb with hb
            subst ha; subst hb
            exact he)))
          have HV := Lib.hid hv
          clear hv he
          go_wp2_with fail
          go_quiet (fail)
          go_wp2_with fail
          go_ret
          exact ⟨ret_int (by rw [HV.out]), _, World.drewN_drewN ..⟩
      · have d2 : decide ((k : Int) < t.size) = false := by simp; omega
        have hv : lcp s.data.toList t.data.toList = k := lcp_eq k _ _ HT.out (by rw [HL.out.1]; omega) (by rw [HL.out.2]; omega) (.inr (.inl (by rw [HL.out.2]; omega)))
        have HV := Lib.hid hv
        clear hv
        go_wp2_with fail
        go_quiet (fail)
        go_wp2_with fail
        go_ret
        exact ⟨ret_int (by rw [HV.out]), _, World.drewN_drewN ..⟩
    · have d1 : decide ((k : Int) < s.size) = false := by simp; omega
      have hv : lcp s.data.toList t.data.toList = k := lcp_eq k _ _ HT.out (by rw [HL.out.1]; omega) (by rw [HL.out.2]; omega) (.inl (by rw [HL.out.1]; omega))
      have HV := Lib.hid hv
      clear hv
      go_wp2_with fail
      go_quiet (fail)
      go_wp2_with fail
      go_ret
      exact ⟨ret_int (by rw [HV.out]), _, World.drewN_drewN ..⟩

end Go.Proofs.Ytgekhijjeojhaaa
