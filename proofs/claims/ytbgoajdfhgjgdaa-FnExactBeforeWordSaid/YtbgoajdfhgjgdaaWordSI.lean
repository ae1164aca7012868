/- ShiftWord and BeforeWord of the program. Condition: texts of at most 2^20 bytes. -/
import Derived.Test.YtbgoajdfhgjgdaaWordS
import Derived.Test.YtbgoajdfhgjgdaaWordOkI
import Derived.Deep.QuietTactic
import Derived.BigQuiet
namespace Go.Proofs.Ytbgoajdfhgjgdaa
open Go.RowKit

theorem implBeforeWord (s t : ByteArray) (w : World) (hs : s.size ≤ 1048576) (ht : t.size ≤ 1048576) :
    Calls Try.prog 35 #[.string s, .string t] w fun e w' => e = .returned (.bool (beforeR s t)) ∧ Below w.heap.size w w' := by
  have HR : Hid (beforeR s t = (wordB s && (wordB t && Op.bytesLess s.toList t.toList))) := rfl
  cases h1 : wordB s
  · go_enter Try.func35, Try.ntmps35
    go_wp2_with fail
    refine (implWordOk s _ hs).mono ?_
    rintro e w1 ⟨rfl, hb1⟩
    go_wp2_with fail
    go_ret
    exact ⟨ret_bool (by rw [HR.out, h1]; rfl), hb1⟩
  · cases h2 : wordB t
    · go_enter Try.func35, Try.ntmps35
      go_wp2_with fail
      refine (implWordOk s _ hs).mono ?_
      rintro e w1 ⟨rfl, hb1⟩
      go_wp2_with fail
      refine (implWordOk t _ ht).mono ?_
      rintro e w2 ⟨rfl, hb2⟩
      go_wp2_with fail
      go_ret
      exact ⟨ret_bool (by rw [HR.out, h1, h2]; rfl), hb1.trans (hb2.mono hb1.size)⟩
    · go_enter Try.func35, Try.ntmps35
      go_wp2_with fail
      refine (implWordOk s _ hs).mono ?_
      rintro e w1 ⟨rfl, hb1⟩
      go_wp2_with fail
      refine (implWordOk t _ ht).mono ?_
      rintro e w2 ⟨rfl, hb2⟩
      go_wp2_with fail
      go_ret
      exact ⟨ret_bool (by rw [HR.out, h1, h2]; rfl), hb1.trans (hb2.mono hb1.size)⟩

theorem implShiftWord (s : ByteArray) (k : Int) (w : World) (hs : s.size ≤ 1048576) :
    Calls Try.prog 25 #[.string s, .int .i64 k] w fun e w' => e = .returned (.string (shiftR s k)) ∧ Below w.heap.size w w' := by
  by_cases h1 : wordB s = true
  · have h400 := word_size h1
    by_cases h2 : 0 ≤ k
    · have d1 : decide (k < (0 : Int)) = false := by simpa using h2
      by_cases h3 : k ≤ s.size
      · have hr : shiftR s k = s.extract k.toNat s.size ++ s.extract 0 k.toNat := if_pos ⟨h1, h2, h3⟩
        obtain ⟨j, rfl⟩ := Int.eq_ofNat_of_zero_le h2
        rw [Int.toNat_natCast] at hr
        have HR := Lib.hid hr
        have hj : j ≤ s.size := by omega
        have d2 : decide ((s.size : Int) < (j : Int)) = false := by simp; omega
        clear hr h2 h3
        go_enter Try.func25, Try.ntmps25
        go_wp2_with fail
        refine (implWordOk s _ hs).mono ?_
        rintro e w1 ⟨rfl, hb1⟩
        go_wp2_with fail
        have hz1 : (s.extract j s.size).size ≤ 400 := by rw [ByteArray.size_extract]; omega
        have hz2 : (s.extract 0 j).size ≤ 400 := by rw [ByteArray.size_extract]; omega
        go_quiet (fail)
        go_wp2_with fail
        go_ret
        exact ⟨ret_str HR.out.symm, below_drewN hb1 _⟩
      · have hr : shiftR s k = ⟨#[]⟩ := if_neg (fun h => h3 h.2.2)
        have HR := Lib.hid hr
        have d2 : decide ((s.size : Int) < k) = true := by simp; omega
        clear hr h2 h3
        go_enter Try.func25, Try.ntmps25
        go_wp2_with fail
        refine (implWordOk s _ hs).mono ?_
        rintro e w1 ⟨rfl, hb1⟩
        go_wp2_with fail
        go_ret
        exact ⟨ret_str HR.out.symm, hb1⟩
    · have hr : shiftR s k = ⟨#[]⟩ := if_neg (fun h => h2 h.2.1)
      have HR := Lib.hid hr
      have d1 : decide (k < (0 : Int)) = true := by simpa using h2
      clear hr h2
      go_enter Try.func25, Try.ntmps25
      go_wp2_with fail
      refine (implWordOk s _ hs).mono ?_
      rintro e w1 ⟨rfl, hb1⟩
      go_wp2_with fail
      go_ret
      exact ⟨ret_str HR.out.symm, hb1⟩
  · have hr : shiftR s k = ⟨#[]⟩ := if_neg (fun h => h1 h.1)
    have HR := Lib.hid hr
    have h1' : wordB s = false := by simpa using h1
    clear hr h1
    go_enter Try.func25, Try.ntmps25
    go_wp2_with fail
    refine (implWordOk s _ hs).mono ?_
    rintro e w1 ⟨rfl, hb1⟩
    go_wp2_with fail
    go_ret
    exact ⟨ret_str HR.out.symm, hb1⟩
end Go.Proofs.Ytbgoajdfhgjgdaa
