/- The model's IsDigits. No condition but that a text has at most 2^63 bytes. -/
import Derived.Test.YtpocfbhbllphdaaDoorChecked
import Derived.Test.YtpocfbhbllphdaaDoorDigB
namespace Go.Proofs.YtpocfbhbllphdaaDoor
open Go.RowKit

set_option maxHeartbeats 400000 in
theorem specIsDigits (s : ByteArray) (w : World) (hs : s.size ≤ maxLen) :
    Calls Tryd.prog 27 #[.string s] w fun e w' => e = .returned (.bool (digs s.data.toList)) ∧ w = w' := by
  unfold maxLen at hs
  go_enter Tryd.func27, Tryd.ntmps27
  go_wp2
  go_loop [3] (fun i => ∃ k : Nat, k ≤ s.size ∧ i = .int .i64 k ∧ (s.data.toList.take k).all isDigB = true) (fun i => s.size - (intOf i).toNat)
  case atStart => exact ⟨0, Nat.zero_le _, rfl, rfl⟩
  case round =>
    obtain ⟨k, hk, rfl, ha⟩ := hrel
    have HA := Lib.hid ha
    clear ha
    by_cases hlt : k < s.size
    · by_cases h1 : s[k].toNat < 48
      · have h1' : ((s[k].toNat : Int) < 48) := by omega
        go_wp2
        go_ret
        exact ⟨ret_bool (digs_no s k hlt (by simp [isDigB]; omega)).symm, rfl⟩
      · by_cases h2 : 57 < s[k].toNat
        · have h1' : ¬ ((s[k].toNat : Int) < 48) := by omega
          have h2' : ((57 : Int) < s[k].toNat) := by omega
          go_wp2
          go_ret
          exact ⟨ret_bool (digs_no s k hlt (by simp [isDigB]; omega)).symm, rfl⟩
        · have h1' : ¬ ((s[k].toNat : Int) < 48) := by omega
          have h2' : ¬ ((57 : Int) < s[k].toNat) := by omega
          go_wp2
          go_round
          case rel => exact ⟨k + 1, by omega, by go_num, all_snoc s k hlt HA.out (by simp [isDigB]; omega)⟩
          case measure => simp [intOf]; omega
    · go_wp2
      go_ret
      have hk' : k = s.size := by omega
      subst hk'
      exact ⟨ret_bool (by rw [digs_end s HA.out]), rfl⟩
end Go.Proofs.YtpocfbhbllphdaaDoor
