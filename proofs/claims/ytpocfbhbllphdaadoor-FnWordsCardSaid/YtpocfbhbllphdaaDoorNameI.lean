/- The program's IsName. No condition but that a text has at most 2^63 bytes. -/
import Derived.Test.YtpocfbhbllphdaaDoorIsDigit
import Derived.Test.YtpocfbhbllphdaaDoorNameP
namespace Go.Proofs.YtpocfbhbllphdaaDoor
open Go.RowKit

theorem isLower_any (n : Int) (w : World) :
    Calls Tryd.prog 25 #[.int .i32 n] w fun e w' => e = .returned (.bool (decide (97 ≤ n) && decide (n ≤ 122))) ∧ w = w' := by
  by_cases h1 : 97 ≤ n
  · have hd1 : decide ((97 : Int) ≤ n) = true := by simpa using h1
    go_enter Tryd.func25, Tryd.ntmps25
    go_wp2
    go_ret
    exact ⟨ret_bool (by simp [h1]), rfl⟩
  · have hd1 : decide ((97 : Int) ≤ n) = false := by simpa using h1
    go_enter Tryd.func25, Tryd.ntmps25
    go_wp2
    go_ret
    exact ⟨ret_bool (by simp), rfl⟩

set_option maxHeartbeats 800000 in
theorem implIsName (s : ByteArray) (w : World) (hs : s.size ≤ maxLen) :
    Calls Tryd.prog 12 #[.string s] w fun e w' => e = .returned (.bool (nameOk s)) ∧ Below w.heap.size w w' := by
  unfold maxLen at hs
  by_cases hlen : s.size < 1 ∨ 8 < s.size
  · have HE := Lib.hid (nameOk_len hlen)
    rcases hlen with h1 | h1
    · go_enter Tryd.func12, Tryd.ntmps12
      go_wp2
      go_ret
      exact ⟨ret_bool HE.out.symm, Below.refl _ _⟩
    · have h0 : ¬ s.size < 1 := by omega
      go_enter Tryd.func12, Tryd.ntmps12
      go_wp2
      go_ret
      exact ⟨ret_bool HE.out.symm, Below.refl _ _⟩
  have h1 : 1 ≤ s.size := by omega
  have h8 : s.size ≤ 8 := by omega
  clear hlen
  go_enter Tryd.func12, Tryd.ntmps12
  go_wp2
  go_loopw [3, 4] (fun _ _ w' => ∃ k : Nat, k ≤ s.size ∧ w' = w.iter s k ∧ NameTo s k) (fun _ _ w' => s.size - w'.iterPos w.heap.size)
  case atStart => exact ⟨0, Nat.zero_le _, rfl, nameTo_zero s⟩
  case round =>
    obtain ⟨k, hk, rfl, ha⟩ := hrel
    have HA := Lib.hid ha
    clear ha
    by_cases hlt : k < s.size
    · by_cases hn : nameB k s[k] = true
      · have hasc : s[k].toNat < 128 := by simp [nameB, isLowB, isDigB] at hn; omega
        have hnx : ∀ ty, (Instr.next (.pointer (some ⟨w.heap.size, 0, none⟩)) true ty).run Tryd.prog (w.iter s k) = _ := fun ty => run_next_ascii w s k ty hlt hasc
        have HN := Lib.hid hn
        by_cases hl : isLowB s[k] = true
        · have hd1 : (decide ((97 : Int) ≤ s[k].toNat) && decide ((s[k].toNat : Int) ≤ 122)) = true := by simp [isLowB] at hl; simp; omega
          clear hn hl
          go_wp2_with (first
            | (go_at_call 25; refine (isLower_any _ _).mono ?_; rintro e w' ⟨rfl, rfl⟩)
            | (go_at_call 26; refine (isDigit_any _ _).mono ?_; rintro e w' ⟨rfl, rfl⟩))
          go_roundw
          case rel => exact ⟨k + 1, by omega, rfl, nameTo_succ HA.out hlt HN.out⟩
          case measure => simp; omega
        · have h0 : ((k : Int) == 0) = false := by simp [nameB, hl] at hn; simp; omega
          have hd1 : (decide ((97 : Int) ≤ s[k].toNat) && decide ((s[k].toNat : Int) ≤ 122)) = false := by simp [isLowB] at hl; simp; omega
          have hd2 : (decide ((48 : Int) ≤ s[k].toNat) && decide ((s[k].toNat : Int) ≤ 57)) = true := by simp [nameB, hl, isDigB] at hn; simp; omega
          clear hn hl
          go_wp2_with (first
            | (go_at_call 25; refine (isLower_any _ _).mono ?_; rintro e w' ⟨rfl, rfl⟩)
            | (go_at_call 26; refine (isDigit_any _ _).mono ?_; rintro e w' ⟨rfl, rfl⟩))
          go_roundw
          case rel => exact ⟨k + 1, by omega, rfl, nameTo_succ HA.out hlt HN.out⟩
          case measure => simp; omega
      · have hn' : nameB k s[k] = false := by simpa using hn
        have HN := Lib.hid hn'
        have hx : ∃ n : Nat, ∃ m : Nat, (∀ ty, (Instr.next (.pointer (some ⟨w.heap.size, 0, none⟩)) true ty).run Tryd.prog (w.iter s k) = .ok (.tuple #[.bool true, .int .i64 k, .int .i32 n]) (w.iter s m)) ∧ (n < 97 ∨ 122 < n) ∧ (k = 0 ∨ (n < 48 ∨ 57 < n)) := by
          simp [nameB, isLowB, isDigB] at hn
          by_cases hasc : s[k].toNat < 128
          · exact ⟨_, _, fun ty => run_next_ascii w s k ty hlt hasc, by omega, by omega⟩
          · have hd := decode_high s k hlt (by omega)
            exact ⟨_, _, fun ty => run_next_any w s k ty hlt, by omega, by omega⟩
        obtain ⟨n, m, hnx, ho1, ho2⟩ := hx
        clear hn hn'
        have hd1 : (decide ((97 : Int) ≤ n) && decide ((n : Int) ≤ 122)) = false := by simp; omega
        by_cases hk0 : k = 0
        · have hk0' : ((k : Int) == 0) = true := by simp [hk0]
          clear ho1 ho2 hk0
          go_wp2_with (first
            | (go_at_call 25; refine (isLower_any _ _).mono ?_; rintro e w' ⟨rfl, rfl⟩)
            | (go_at_call 26; refine (isDigit_any _ _).mono ?_; rintro e w' ⟨rfl, rfl⟩))
          go_ret
          exact ⟨ret_bool (nameOk_no hlt HN.out).symm, below_iter _ _ _⟩
        · have hk0' : ((k : Int) == 0) = false := by simp [hk0]
          have hd2 : (decide ((48 : Int) ≤ n) && decide ((n : Int) ≤ 57)) = false := by simp; omega
          clear ho1 ho2 hk0
          go_wp2_with (first
            | (go_at_call 25; refine (isLower_any _ _).mono ?_; rintro e w' ⟨rfl, rfl⟩)
            | (go_at_call 26; refine (isDigit_any _ _).mono ?_; rintro e w' ⟨rfl, rfl⟩))
          go_ret
          exact ⟨ret_bool (nameOk_no hlt HN.out).symm, below_iter _ _ _⟩
    · have hnx : ∀ ty, (Instr.next (.pointer (some ⟨w.heap.size, 0, none⟩)) true ty).run Tryd.prog (w.iter s k) = _ := fun ty => run_next_end w s k ty hlt
      have hk' : k = s.size := by omega
      have HE := Lib.hid (nameOk_yes (s := s) (hk' ▸ HA.out))
      clear hk'
      go_wp2
      go_ret
      exact ⟨ret_bool (by rw [HE.out]; simp; omega), below_iter _ _ _⟩
end Go.Proofs.YtpocfbhbllphdaaDoor
