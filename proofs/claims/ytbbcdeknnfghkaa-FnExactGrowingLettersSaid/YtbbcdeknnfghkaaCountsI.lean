/- The program's counts of the four letters, CountLetter and CountsOf. Condition: texts of at most 2^20 bytes. -/
import Derived.Test.YtbbcdeknnfghkaaWordOkI
import Derived.Test.YtbbcdeknnfghkaaWordS
import Derived.Test.YtbbcdeknnfghkaaShelf
namespace Go.Proofs.Ytbbcdeknnfghkaa
open Go.RowKit

theorem letterIndex_at (n j : Int) (w : World) (h : n = 97 + j) (h1 : 0 ≤ j) (h2 : j ≤ 3) :
    Calls Try.prog 72 #[.int .u8 n] w fun e w' => e = .returned (.int .i64 j) ∧ w = w' := by
  have h3 : 97 ≤ n := by omega
  have h4 : n ≤ 100 := by omega
  have HJ := Lib.hid (show n - 97 = j by omega)
  clear h h1 h2
  go_enter Try.func72, Try.ntmps72
  go_wp2
  go_ret
  exact ⟨ret_int HJ.out, rfl⟩

/-- the four counts as the cells of an array -/
def cnts (l : List UInt8) : Array Value := #[.int .i64 (cnt l 97), .int .i64 (cnt l 98), .int .i64 (cnt l 99), .int .i64 (cnt l 100)]
theorem cnts_succ (s : ByteArray) (k : Nat) (h : k < s.size) (a b c d : Nat) (ha : cnt (s.data.toList.take k) 97 = a) (hb : cnt (s.data.toList.take k) 98 = b) (hc : cnt (s.data.toList.take k) 99 = c) (hd : cnt (s.data.toList.take k) 100 = d)
    (j : Nat) (hj : s[k].toNat = 97 + j) (_ : j ≤ 3) :
    cnt (s.data.toList.take (k + 1)) 97 = a + (if j = 0 then 1 else 0) ∧ cnt (s.data.toList.take (k + 1)) 98 = b + (if j = 1 then 1 else 0) ∧ cnt (s.data.toList.take (k + 1)) 99 = c + (if j = 2 then 1 else 0) ∧ cnt (s.data.toList.take (k + 1)) 100 = d + (if j = 3 then 1 else 0) := by
  have e : ∀ (x : UInt8) (i : Nat), x.toNat = 97 + i → ((s[k] = x) ↔ j = i) := by
    intro x i hx
    constructor
    · intro h; rw [h] at hj; omega
    · intro h; exact UInt8.toNat_inj.1 (by omega)
  rw [cnt_succ s k h 97, cnt_succ s k h 98, cnt_succ s k h 99, cnt_succ s k h 100, ha, hb, hc, hd]
  simp only [e 97 0 rfl, e 98 1 rfl, e 99 2 rfl, e 100 3 rfl, and_self]

def CntRel (s : ByteArray) (w : World) (i : Value) (w' : World) : Prop :=
  ∃ k a b c d : Nat, k ≤ s.size ∧ i = .int .i64 k ∧ a ≤ k ∧ b ≤ k ∧ c ≤ k ∧ d ≤ k ∧
    w' = (w.alloc (.cells #[.int .i64 0, .int .i64 0, .int .i64 0, .int .i64 0] 71)).alloc (.cells #[.int .i64 a, .int .i64 b, .int .i64 c, .int .i64 d] 71) ∧
    cnt (s.data.toList.take k) 97 = a ∧ cnt (s.data.toList.take k) 98 = b ∧ cnt (s.data.toList.take k) 99 = c ∧ cnt (s.data.toList.take k) 100 = d

set_option maxHeartbeats 400000 in
theorem implCounts (s : ByteArray) (w : World) (h : wordB s = true) :
    Calls Try.prog 68 #[.string s] w fun e w' => e = .returned (.agg #[.int .i64 (cnt s.data.toList 97), .int .i64 (cnt s.data.toList 98), .int .i64 (cnt s.data.toList 99), .int .i64 (cnt s.data.toList 100)]) ∧ Below w.heap.size w w' := by
  have hs := word_size h
  have HW := Lib.hid (word_at h)
  clear h
  go_enter Try.func68, Try.ntmps68
  go_wp2_with fail
  go_loopw [7] (fun i w' => CntRel s w i w') (fun i _ => s.size - (intOf i).toNat)
  case atStart => exact ⟨0, 0, 0, 0, 0, by omega, rfl, by omega, by omega, by omega, by omega, rfl, rfl, rfl, rfl, rfl⟩
  case round =>
    obtain ⟨k, a, b, c, d, hk, rfl, ha, hb, hc, hd, rfl, ea, eb, ec, ed⟩ := hrel
    by_cases hlt : k < s.size
    · have HS := Lib.hid (cnts_succ s k hlt a b c d ea eb ec ed)
      clear ea eb ec ed
      obtain ⟨p1, p2⟩ := HW.out k hlt
      have hj : s[k].toNat = 97 ∨ s[k].toNat = 98 ∨ s[k].toNat = 99 ∨ s[k].toNat = 100 := by omega
      clear p1 p2
      rcases hj with hj | hj | hj | hj
      · have HJ := Lib.hid hj
        have hc' := HS.out 0 hj (by omega)
        have HC := Lib.hid hc'
        clear hj hc'
        go_wp2_with (go_at_call 72; refine (letterIndex_at _ 0 _ (by have := HJ.out; omega) (by omega) (by omega)).mono ?_; rintro e w' ⟨rfl, rfl⟩)
        go_roundw
        case rel => exact ⟨k + 1, a + 1, b, c, d, by omega, by go_num, by omega, by omega, by omega, by omega, rfl, HC.out⟩
        case measure => simp [intOf]; omega
      · have HJ := Lib.hid hj
        have hc' := HS.out 1 hj (by omega)
        have HC := Lib.hid hc'
        clear hj hc'
        go_wp2_with (go_at_call 72; refine (letterIndex_at _ 1 _ (by have := HJ.out; omega) (by omega) (by omega)).mono ?_; rintro e w' ⟨rfl, rfl⟩)
        go_roundw
        case rel => exact ⟨k + 1, a, b + 1, c, d, by omega, by go_num, by omega, by omega, by omega, by omega, rfl, HC.out⟩
        case measure => simp [intOf]; omega
      · have HJ := Lib.hid hj
        have hc' := HS.out 2 hj (by omega)
        have HC := Lib.hid hc'
        clear hj hc'
        go_wp2_with (go_at_call 72; refine (letterIndex_at _ 2 _ (by have := HJ.out; omega) (by omega) (by omega)).mono ?_; rintro e w' ⟨rfl, rfl⟩)
        go_roundw
        case rel => exact ⟨k + 1, a, b, c + 1, d, by omega, by go_num, by omega, by omega, by omega, by omega, rfl, HC.out⟩
        case measure => simp [intOf]; omega
      · have HJ := Lib.hid hj
        have hc' := HS.out 3 hj (by omega)
        have HC := Lib.hid hc'
        clear hj hc'
        go_wp2_with (go_at_call 72; refine (letterIndex_at _ 3 _ (by have := HJ.out; omega) (by omega) (by omega)).mono ?_; rintro e w' ⟨rfl, rfl⟩)
        go_roundw
        case rel => exact ⟨k + 1, a, b, c, d + 1, by omega, by go_num, by omega, by omega, by omega, by omega, rfl, HC.out⟩
        case measure => simp [intOf]; omega
    · have hk' : k = s.size := by omega
      subst hk'
      rw [take_all s _ (Nat.le_refl _)] at ea eb ec ed
      have HA := Lib.hid ea
      have HB := Lib.hid eb
      have HC := Lib.hid ec
      have HD := Lib.hid ed
      clear ea eb ec ed
      go_wp2_with fail
      refine bodyPost_ret (v := .agg #[.int .i64 a, .int .i64 b, .int .i64 c, .int .i64 d]) (by simp [results, Try.results68, go_sem]) rfl ⟨?_, ?_⟩
      · rw [HA.out, HB.out, HC.out, HD.out]
      · exact ((Below.refl _ _).alloc (Nat.le_refl _) _).alloc (by simp) _

theorem letter_one {t : ByteArray} (h : t.size = 1) : t = ⟨#[t[0]'(by omega)]⟩ := by
  obtain ⟨⟨l⟩⟩ := t
  match l, h with
  | [c], _ => rfl

theorem implCountsOf (s : ByteArray) (w : World) (hs : s.size ≤ 1048576) :
    Calls Try.prog 25 #[.string s] w fun e w' => ∃ v, e = .returned v ∧ w'.ownsRow w.heap.size 71 1 v (countsR s).length (ints (countsR s)) ∧ Below w.heap.size w w' := by
  by_cases h1 : wordB s = true
  · have hr : countsR s = [(cnt s.data.toList 97 : Int), (cnt s.data.toList 98 : Int), (cnt s.data.toList 99 : Int), (cnt s.data.toList 100 : Int)] := if_pos h1
    have HR := Lib.hid hr
    have HC := Lib.hid (fun w => implCounts s w h1)
    clear hr
    go_enter Try.func25, Try.ntmps25
    go_wp2_with fail
    refine (implWordOk s _ hs).mono ?_
    rintro e w1 ⟨rfl, hb1⟩
    go_wp2_with fail
    refine (HC.out _).mono ?_
    rintro e w2 ⟨rfl, hb2⟩
    go_wp2_with fail
    go_ret
    have hb : Below w.heap.size w w2 := hb1.trans (hb2.mono hb1.size)
    refine ⟨_, rfl, ?_, hb.alloc hb.size _⟩
    rw [HR.out]
    exact World.ownsRow_lit w2 _ 4 hb.size (by unfold maxLen; omega) rfl
  · have hr : countsR s = [] := if_neg h1
    have HR := Lib.hid hr
    have h1' : wordB s = false := by simpa using h1
    clear hr h1
    go_enter Try.func25, Try.ntmps25
    go_wp2_with fail
    refine (implWordOk s _ hs).mono ?_
    rintro e w1 ⟨rfl, hb1⟩
    go_wp2_with fail
    go_ret
    refine ⟨_, rfl, ?_, hb1⟩
    rw [HR.out]
    exact World.ownsRow_nil _ _ _ _
end Go.Proofs.Ytbbcdeknnfghkaa
