/- WordOk of the model and its count of a letter. No condition but that a text has at most 2^63 bytes. -/
import Derived.Test.YtgekhijjeojhaaaChecked
import Derived.Test.YtgekhijjeojhaaaWordP
namespace Go.Proofs.Ytgekhijjeojhaaa
open Go.RowKit

set_option maxHeartbeats 400000 in
theorem specWordOk (s : ByteArray) (w : World) :
    Calls Try.prog 40 #[.string s] w fun e w' => e = .returned (.bool (wordB s)) ∧ w = w' := by
  by_cases hl : 400 < s.size
  · have HE := Lib.hid (word_long hl)
    go_enter Try.func40, Try.ntmps40
    go_wp2
    go_ret
    exact ⟨ret_bool HE.out.symm, rfl⟩
  have hs : s.size ≤ 400 := by omega
  go_enter Try.func40, Try.ntmps40
  go_wp2
  go_loop [3] (fun i => ∃ k : Nat, k ≤ s.size ∧ i = .int .i64 k ∧ (s.data.toList.take k).all isAbcd = true) (fun i => s.size - (intOf i).toNat)
  case atStart => exact ⟨0, Nat.zero_le _, rfl, rfl⟩
  case round =>
    obtain ⟨k, hk, rfl, ha⟩ := hrel
    have HA := Lib.hid ha
    clear ha
    by_cases hlt : k < s.size
    · by_cases h1 : s[k].toNat < 97
      · have h1' : ((s[k].toNat : Int) < 97) := by omega
        have HN := Lib.hid (word_not (s := s) k hlt (by simp [isAbcd]; omega))
        go_wp2
        go_ret
        exact ⟨ret_bool HN.out.symm, rfl⟩
      · by_cases h2 : 100 < s[k].toNat
        · have h1' : ¬ ((s[k].toNat : Int) < 97) := by omega
          have h2' : ((100 : Int) < s[k].toNat) := by omega
          have HN := Lib.hid (word_not (s := s) k hlt (by simp [isAbcd]; omega))
          go_wp2
          go_ret
          exact ⟨ret_bool HN.out.symm, rfl⟩
        · have h1' : ¬ ((s[k].toNat : Int) < 97) := by omega
          have h2' : ¬ ((100 : Int) < s[k].toNat) := by omega
          go_wp2
          go_round
          case rel => exact ⟨k + 1, by omega, by go_num, all_snoc s k hlt HA.out (by simp [isAbcd]; omega)⟩
          case measure => simp [intOf]; omega
    · have hk' : k = s.size := by omega
      subst hk'
      have HY := Lib.hid (word_yes hs HA.out)
      go_wp2
      go_ret
      exact ⟨ret_bool HY.out.symm, rfl⟩

end Go.Proofs.Ytgekhijjeojhaaa
