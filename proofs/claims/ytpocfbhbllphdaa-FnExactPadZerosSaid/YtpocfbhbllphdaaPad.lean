/- PadZeros of the model and of the program return the same text. Condition: a text of at most 2^20 bytes. -/
import Derived.Test.YtpocfbhbllphdaaJoinParts
namespace Go.Proofs.Ytpocfbhbllphdaa
open Go.RowKit

def padS (s : ByteArray) (k : Nat) : ByteArray := ⟨(List.replicate k 48 ++ s.data.toList).toArray⟩
theorem padS_size (s : ByteArray) (k : Nat) : (padS s k).size = k + s.size := by
  show (List.replicate k 48 ++ s.data.toList).toArray.size = _
  simp
theorem padS_zero (s : ByteArray) : padS s 0 = s := by simp [padS]
theorem padS_succ (s : ByteArray) (k : Nat) : ByteArray.mk #[48] ++ padS s k = padS s (k + 1) := by
  show ByteArray.mk [48].toArray ++ ByteArray.mk (List.replicate k 48 ++ s.data.toList).toArray = _
  rw [ByteArray.mk_append_mk]
  simp [padS, List.replicate_succ]
/-- what PadZeros returns -/
def padR (s : ByteArray) (n : Int) : ByteArray := if 2000 < n then s else padS s (n - s.size).toNat
def lenOf : Value → Nat | .string s => s.size | _ => 0

set_option maxHeartbeats 400000 in
theorem specPadZeros (s : ByteArray) (n : Int) (w : World) (_ : s.size ≤ 1048576) :
    Calls Try.prog 24 #[.string s, .int .i64 n] w fun e w' => e = .returned (.string (padR s n)) ∧ w = w' := by
  by_cases h1 : 2000 < n
  · go_enter Try.func24, Try.ntmps24
    go_wp2
    go_ret
    exact ⟨ret_str (by simp [padR, h1]), rfl⟩
  go_enter Try.func24, Try.ntmps24
  go_wp2
  go_loop [0] (fun o => ∃ k : Nat, o = .string (padS s k) ∧ (k = 0 ∨ (s.size : Int) + k ≤ n)) (fun o => n.toNat - lenOf o)
  case atStart => exact ⟨0, by rw [padS_zero], .inl rfl⟩
  case round =>
    obtain ⟨k, rfl, hk⟩ := hrel
    have hz := padS_size s k
    by_cases hlt : (k : Int) + s.size < n
    · have hlt' : k + s.size ≤ 2000 := by omega
      go_wp2
      go_round
      case rel => exact ⟨k + 1, by rw [← padS_succ], .inr (by omega)⟩
      case measure => 
        have : (ByteArray.mk #[48] ++ padS s k).size = k + 1 + s.size := by rw [padS_succ, padS_size]
        simp only [lenOf, this, hz]
        omega
    · have he : padR s n = padS s k := by
        unfold padR
        rw [if_neg (by omega), show (n - (s.size : Int)).toNat = k from by omega]
      have HE := Lib.hid he
      clear he
      go_wp2
      go_ret
      exact ⟨ret_str HE.out.symm, rfl⟩

theorem repeat0 (m : Int) (w : World) (h0 : 0 ≤ m) (h1 : m ≤ 2000) :
    Calls Try.prog 32 #[.string ⟨#[48]⟩, .int .i64 m] w fun e w' => e = .returned (.string ⟨(List.replicate m.toNat 48).toArray⟩) ∧ Below w.heap.size w w' := by
  obtain ⟨c, rfl⟩ := Int.eq_ofNat_of_zero_le h0
  refine (Try.strings_Repeat ⟨#[48]⟩ c w (by omega) (by show 1 * c ≤ _; omega)).mono ?_
  rintro e w' ⟨rfl, hb⟩
  refine ⟨?_, hb⟩
  have : ∀ c : Nat, Lib.repeatL [48] c = List.replicate c 48 := by
    intro c
    induction c with
    | zero => rfl
    | succ c ih => rw [Lib.repeatL, ih]; rfl
  rw [show (ByteArray.mk #[48]).data.toList = [48] from rfl, this]
  simp

set_option maxHeartbeats 400000 in
theorem implPadZeros (s : ByteArray) (n : Int) (w : World) (hs : s.size ≤ 1048576) :
    Calls Try.prog 25 #[.string s, .int .i64 n] w fun e w' => e = .returned (.string (padR s n)) ∧ Below w.heap.size w w' := by
  by_cases h1 : n ≤ s.size
  · have he : padR s n = s := by
      unfold padR
      split
      · rfl
      · rw [show (n - (s.size : Int)).toNat = 0 from by omega, padS_zero]
    have HE := Lib.hid he
    clear he
    have hd : decide (n ≤ (s.size : Int)) = true := by simpa using h1
    go_enter Try.func25, Try.ntmps25
    go_wp2
    go_ret
    exact ⟨ret_str HE.out.symm, Below.refl _ _⟩
  by_cases h2 : 2000 < n
  · have he : padR s n = s := by unfold padR; rw [if_pos h2]
    have HE := Lib.hid he
    clear he
    have hd : decide (n ≤ (s.size : Int)) = false := by simpa using h1
    go_enter Try.func25, Try.ntmps25
    go_wp2
    go_ret
    exact ⟨ret_str HE.out.symm, Below.refl _ _⟩
  have he : joinS [⟨(List.replicate (n - (s.size : Int)).toNat 48).toArray⟩, s] ⟨#[]⟩ = padR s n := by
    unfold padR
    rw [if_neg h2]
    simp [joinS, Lib.join, padS, List.intercalate]
  have hz : (joinS [⟨(List.replicate (n - (s.size : Int)).toNat 48).toArray⟩, s] ⟨#[]⟩).size ≤ 140737488355328 := by
    rw [he]
    unfold padR
    rw [if_neg h2, padS_size]
    omega
  have HE := Lib.hid he
  have HZ := Lib.hid hz
  clear he hz
  have hd : decide (n ≤ (s.size : Int)) = false := by simpa using h1
  go_enter Try.func25, Try.ntmps25
  go_wp2_with fail
  refine (repeat0 _ _ (by omega) (by omega)).mono ?_
  rintro e w1 ⟨rfl, hb1⟩
  generalize hrr : ByteArray.mk (List.replicate (n - (s.size : Int)).toNat 48).toArray = rr at HE HZ ⊢
  clear hrr
  go_wp2_with fail
  refine (joinParts_any [rr, s] ⟨#[]⟩ _ _ ⟨_, 2, rfl, by simp [strs], by simp [maxLen], .inr ⟨w1.heap.size, 0, rfl, ?_⟩⟩ (by simp) HZ.out).mono ?_
  · intro i u hu
    rw [World.cell?_alloc_at _ _ _ _ rfl]
    rcases i with _ | _ | i <;> simp_all [strs]
  rintro e w2 ⟨rfl, hb2⟩
  go_wp2_with fail
  go_ret
  refine ⟨ret_str HE.out, (hb1.alloc hb1.size _).trans (hb2.mono (by have := hb1.size; simp; omega))⟩
end Go.Proofs.Ytpocfbhbllphdaa
