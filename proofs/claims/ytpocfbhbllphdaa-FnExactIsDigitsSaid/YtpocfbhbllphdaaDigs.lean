/- Plain facts on the digits and names of a text, and the two functions that ask for digits: the model's and the program's return the same. No condition but that a text has at most 2^63 bytes. -/
import Derived.Test.YtpocfbhbllphdaaChecked
import Derived.Test.YtpocfbhbllphdaaBase
namespace Go.Proofs.Ytpocfbhbllphdaa
open Go.RowKit

theorem ret_bool {a b : Bool} (h : a = b) : Ending.returned (.bool a) = .returned (.bool b) := by rw [h]

def isDigB (c : UInt8) : Bool := decide (48 ≤ c.toNat) && decide (c.toNat ≤ 57)
def isLowB (c : UInt8) : Bool := decide (97 ≤ c.toNat) && decide (c.toNat ≤ 122)
def digs (l : List UInt8) : Bool := l.all isDigB && !l.isEmpty

theorem take_snoc (s : ByteArray) (k : Nat) (h : k < s.size) : s.data.toList.take (k + 1) = s.data.toList.take k ++ [s[k]] := by
  rw [List.take_succ_eq_append_getElem (by simpa using h)]; rfl
theorem take_all (s : ByteArray) (k : Nat) (h : s.size ≤ k) : s.data.toList.take k = s.data.toList := List.take_of_length_le (by simpa using h)
theorem all_snoc {p : UInt8 → Bool} (s : ByteArray) (k : Nat) (h : k < s.size) (ha : (s.data.toList.take k).all p = true) (hp : p s[k] = true) : (s.data.toList.take (k + 1)).all p = true := by
  rw [take_snoc s k h, List.all_append, ha]; simp [hp]
theorem all_not {p : UInt8 → Bool} (s : ByteArray) (k : Nat) (h : k < s.size) (hp : p s[k] = false) : s.data.toList.all p = false := by
  have hm : s[k] ∈ s.data.toList := by
    have : s[k] = s.data.toList[k]'(by simpa using h) := rfl
    rw [this]; exact List.getElem_mem _
  exact List.all_eq_false.2 ⟨_, hm, by simp [hp]⟩
theorem digs_no (s : ByteArray) (k : Nat) (h : k < s.size) (hp : isDigB s[k] = false) : digs s.data.toList = false := by
  unfold digs; rw [all_not s k h hp]; rfl
theorem digs_end (s : ByteArray) (ha : (s.data.toList.take s.size).all isDigB = true) : digs s.data.toList = decide (0 < s.size) := by
  rw [take_all s _ (Nat.le_refl _)] at ha
  unfold digs; rw [ha]
  obtain ⟨⟨l⟩⟩ := s
  cases l <;> simp [ByteArray.size]

set_option maxHeartbeats 400000 in
theorem specIsDigits (s : ByteArray) (w : World) (hs : s.size ≤ maxLen) :
    Calls Try.prog 9 #[.string s] w fun e w' => e = .returned (.bool (digs s.data.toList)) ∧ w = w' := by
  unfold maxLen at hs
  go_enter Try.func9, Try.ntmps9
  go_wp2
  go_loop [3] (fun i => ∃ k : Nat, k ≤ s.size ∧ i = .int .i64 k ∧ (s.data.toList.take k).all isDigB = true) (fun i => s.size - (intOf i).toNat)
  case atStart => exact ⟨0, Nat.zero_le _, rfl, rfl⟩
  case round =>
    obtain ⟨k, hk, rfl, ha⟩ := hrel
    have HA := Lib.hid ha
    clear ha
    by_cases hlt : k < s.size
    · by_cases h1 : s[k].toNat < 48
      · have h1' : ((s[k].toNat : Int) < 48) := by omega
        go_wp2
        go_ret
        exact ⟨ret_bool (digs_no s k hlt (by simp [isDigB]; omega)).symm, rfl⟩
      · by_cases h2 : 57 < s[k].toNat
        · have h1' : ¬ ((s[k].toNat : Int) < 48) := by omega
          have h2' : ((57 : Int) < s[k].toNat) := by omega
          go_wp2
          go_ret
          exact ⟨ret_bool (digs_no s k hlt (by simp [isDigB]; omega)).symm, rfl⟩
        · have h1' : ¬ ((s[k].toNat : Int) < 48) := by omega
          have h2' : ¬ ((57 : Int) < s[k].toNat) := by omega
          go_wp2
          go_round
          case rel => exact ⟨k + 1, by omega, by go_num, all_snoc s k hlt HA.out (by simp [isDigB]; omega)⟩
          case measure => simp [intOf]; omega
    · go_wp2
      go_ret
      have hk' : k = s.size := by omega
      subst hk'
      exact ⟨ret_bool (by rw [digs_end s HA.out]), rfl⟩

theorem isDigit_any (n : Int) (w : World) :
    Calls Try.prog 26 #[.int .i32 n] w fun e w' => e = .returned (.bool (decide (48 ≤ n) && decide (n ≤ 57))) ∧ w = w' := by
  by_cases h1 : 48 ≤ n
  · have hd1 : decide ((48 : Int) ≤ n) = true := by simpa using h1
    go_enter Try.func26, Try.ntmps26
    go_wp2
    go_ret
    exact ⟨ret_bool (by simp [h1]), rfl⟩
  · have hd1 : decide ((48 : Int) ≤ n) = false := by simpa using h1
    go_enter Try.func26, Try.ntmps26
    go_wp2
    go_ret
    exact ⟨ret_bool (by simp), rfl⟩

theorem below_iter (w : World) (s : ByteArray) (k : Nat) : Below w.heap.size w (w.iter s k) := (Below.refl _ _).alloc (Nat.le_refl _) _

set_option maxHeartbeats 400000 in
theorem implIsDigits (s : ByteArray) (w : World) (hs : s.size ≤ maxLen) :
    Calls Try.prog 10 #[.string s] w fun e w' => e = .returned (.bool (digs s.data.toList)) ∧ Below w.heap.size w w' := by
  unfold maxLen at hs
  go_enter Try.func10, Try.ntmps10
  go_wp2
  go_loopw [4] (fun _ w' => ∃ k : Nat, k ≤ s.size ∧ w' = w.iter s k ∧ (s.data.toList.take k).all isDigB = true) (fun _ w' => s.size - w'.iterPos w.heap.size)
  case atStart => exact ⟨0, Nat.zero_le _, rfl, rfl⟩
  case round =>
    obtain ⟨k, hk, rfl, ha⟩ := hrel
    have HA := Lib.hid ha
    clear ha
    by_cases hlt : k < s.size
    · by_cases hc : isDigB s[k] = true
      · have hasc : s[k].toNat < 128 := by simp [isDigB] at hc; omega
        have hnx : ∀ ty, (Instr.next (.pointer (some ⟨w.heap.size, 0, none⟩)) true ty).run Try.prog (w.iter s k) = _ := fun ty => run_next_ascii w s k ty hlt hasc
        have h1 : (48 : Int) ≤ s[k].toNat := by simp [isDigB] at hc; omega
        have h2 : (s[k].toNat : Int) ≤ 57 := by simp [isDigB] at hc; omega
        have HC := Lib.hid hc
        clear hc
        go_wp2_with (go_at_call 26; refine (isDigit_any _ _).mono ?_; rintro e w' ⟨rfl, rfl⟩)
        go_roundw
        case rel => exact ⟨k + 1, by omega, rfl, all_snoc s k hlt HA.out HC.out⟩
        case measure => simp; omega
      · have hf : isDigB s[k] = false := by simpa using hc
        have hn : ∃ n : Nat, ∃ m : Nat, (∀ ty, (Instr.next (.pointer (some ⟨w.heap.size, 0, none⟩)) true ty).run Try.prog (w.iter s k) = .ok (.tuple #[.bool true, .int .i64 k, .int .i32 n]) (w.iter s m)) ∧ (n < 48 ∨ 57 < n) := by
          by_cases hasc : s[k].toNat < 128
          · exact ⟨_, _, fun ty => run_next_ascii w s k ty hlt hasc, by simp [isDigB] at hf; omega⟩
          · have hd := decode_high s k hlt (by omega)
            exact ⟨_, _, fun ty => run_next_any w s k ty hlt, by omega⟩
        obtain ⟨n, m, hnx, hor⟩ := hn
        have HF := Lib.hid hf
        clear hf hc
        have hd1 : (decide ((48 : Int) ≤ n) && decide ((n : Int) ≤ 57)) = false := by simp; omega
        go_wp2_with (go_at_call 26; refine (isDigit_any _ _).mono ?_; rintro e w' ⟨rfl, rfl⟩)
        go_ret
        exact ⟨ret_bool (digs_no s k hlt HF.out).symm, below_iter _ _ _⟩
    · have hnx : ∀ ty, (Instr.next (.pointer (some ⟨w.heap.size, 0, none⟩)) true ty).run Try.prog (w.iter s k) = _ := fun ty => run_next_end w s k ty hlt
      go_wp2
      go_ret
      have hk' : k = s.size := by omega
      subst hk'
      exact ⟨ret_bool (by rw [digs_end s HA.out]; obtain ⟨⟨l⟩⟩ := s; cases l <;> simp [ByteArray.size]), below_iter _ _ _⟩
end Go.Proofs.Ytpocfbhbllphdaa
