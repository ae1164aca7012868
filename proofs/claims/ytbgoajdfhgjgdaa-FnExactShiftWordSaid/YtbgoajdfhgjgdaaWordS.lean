/- The model's CountLetter, CountsOf, ShiftWord, BeforeWord and IsFactor. Condition: texts of at most 2^20 bytes. -/
import Derived.Test.YtbgoajdfhgjgdaaWordOk
import Derived.Test.YtbgoajdfhgjgdaaInts
namespace Go.Proofs.Ytbgoajdfhgjgdaa
open Go.RowKit

/-- what CountLetter is to return -/
def countR (s t : ByteArray) : Int := if h : wordB s = true ∧ t.size = 1 ∧ wordB t = true then (cnt s.data.toList (t[0]'(by omega)) : Int) else -1

theorem specCountLetter (s t : ByteArray) (w : World) (hs : s.size ≤ 1048576) (_ : t.size ≤ 1048576) :
    Calls Try.prog 15 #[.string s, .string t] w fun e w' => e = .returned (.int .i64 (countR s t)) ∧ w = w' := by
  by_cases h1 : wordB s = true
  · by_cases h2 : t.size = 1
    · have b2 : ((t.size : Int) != 1) = false := by rw [h2]; rfl
      by_cases h3 : wordB t = true
      · have h0 : 0 < t.size := by omega
        have hr : countR s t = cnt s.data.toList (t[0]'h0) := dif_pos ⟨h1, h2, h3⟩
        have HR := Lib.hid hr
        clear hr h2
        go_enter Try.func15, Try.ntmps15
        go_wp2_with fail
        refine (specWordOk s _).mono ?_
        rintro e w' ⟨rfl, rfl⟩
        go_wp2_with fail
        refine (specWordOk t _).mono ?_
        rintro e w' ⟨rfl, rfl⟩
        go_wp2_with fail
        refine (specCount s _ _ hs).mono ?_
        rintro e w' ⟨rfl, rfl⟩
        go_wp2_with fail
        go_ret
        exact ⟨ret_int HR.out.symm, rfl⟩
      · have hr : countR s t = -1 := dif_neg (fun h => h3 h.2.2)
        have HR := Lib.hid hr
        have h3' : wordB t = false := by simpa using h3
        clear hr h3 h2
        go_enter Try.func15, Try.ntmps15
        go_wp2_with fail
        refine (specWordOk s _).mono ?_
        rintro e w' ⟨rfl, rfl⟩
        go_wp2_with fail
        refine (specWordOk t _).mono ?_
        rintro e w' ⟨rfl, rfl⟩
        go_wp2_with fail
        go_ret
        exact ⟨ret_int HR.out.symm, rfl⟩
    · have hr : countR s t = -1 := dif_neg (fun h => h2 h.2.1)
      have HR := Lib.hid hr
      have b2 : ((t.size : Int) != 1) = true := by rw [bne_iff_ne]; omega
      clear hr h2
      go_enter Try.func15, Try.ntmps15
      go_wp2_with fail
      refine (specWordOk s _).mono ?_
      rintro e w' ⟨rfl, rfl⟩
      go_wp2_with fail
      go_ret
      exact ⟨ret_int HR.out.symm, rfl⟩
  · have hr : countR s t = -1 := dif_neg (fun h => h1 h.1)
    have HR := Lib.hid hr
    have h1' : wordB s = false := by simpa using h1
    clear hr h1
    go_enter Try.func15, Try.ntmps15
    go_wp2_with fail
    refine (specWordOk s _).mono ?_
    rintro e w' ⟨rfl, rfl⟩
    go_wp2_with fail
    go_ret
    exact ⟨ret_int HR.out.symm, rfl⟩

/-- what CountsOf is to return -/
def countsR (s : ByteArray) : List Int := if wordB s = true then [(cnt s.data.toList 97 : Int), (cnt s.data.toList 98 : Int), (cnt s.data.toList 99 : Int), (cnt s.data.toList 100 : Int)] else []

theorem countsR_le (s : ByteArray) : (countsR s).length ≤ 4 := by
  unfold countsR; split <;> simp

theorem specCountsOf (s : ByteArray) (w : World) (hs : s.size ≤ 1048576) :
    Calls Try.prog 17 #[.string s] w fun e w' => ∃ v, e = .returned v ∧ w'.ownsRow w.heap.size 3 1 v (countsR s).length (ints (countsR s)) ∧ Below w.heap.size w w' := by
  by_cases h1 : wordB s = true
  · have hr : countsR s = [(cnt s.data.toList 97 : Int), (cnt s.data.toList 98 : Int), (cnt s.data.toList 99 : Int), (cnt s.data.toList 100 : Int)] := if_pos h1
    have HR := Lib.hid hr
    clear hr
    go_enter Try.func17, Try.ntmps17
    go_wp2_with fail
    refine (specWordOk s _).mono ?_
    rintro e w' ⟨rfl, rfl⟩
    go_wp2_with fail
    refine (specCount s 97 _ hs).mono ?_
    rintro e w' ⟨rfl, rfl⟩
    go_wp2_with fail
    refine (specCount s 98 _ hs).mono ?_
    rintro e w' ⟨rfl, rfl⟩
    go_wp2_with fail
    refine (specCount s 99 _ hs).mono ?_
    rintro e w' ⟨rfl, rfl⟩
    go_wp2_with fail
    refine (specCount s 100 _ hs).mono ?_
    rintro e w' ⟨rfl, rfl⟩
    go_wp2_with fail
    go_ret
    refine ⟨_, rfl, ?_, (Below.refl _ _).alloc (Nat.le_refl _) _⟩
    rw [HR.out]
    exact World.ownsRow_lit w _ 4 (Nat.le_refl _) (by unfold maxLen; omega) rfl
  · have hr : countsR s = [] := if_neg h1
    have HR := Lib.hid hr
    have h1' : wordB s = false := by simpa using h1
    clear hr h1
    go_enter Try.func17, Try.ntmps17
    go_wp2_with fail
    refine (specWordOk s _).mono ?_
    rintro e w' ⟨rfl, rfl⟩
    go_wp2_with fail
    go_ret
    refine ⟨_, rfl, ?_, Below.refl _ _⟩
    rw [HR.out]
    exact World.ownsRow_nil _ _ _ _

/-- what BeforeWord is to return -/
def beforeR (s t : ByteArray) : Bool := wordB s && (wordB t && Op.bytesLess s.toList t.toList)
theorem specBeforeWord (s t : ByteArray) (w : World) (_ : s.size ≤ 1048576) (_ : t.size ≤ 1048576) :
    Calls Try.prog 34 #[.string s, .string t] w fun e w' => e = .returned (.bool (beforeR s t)) ∧ w = w' := by
  have HR : Hid (beforeR s t = (wordB s && (wordB t && Op.bytesLess s.toList t.toList))) := rfl
  cases h1 : wordB s
  · go_enter Try.func34, Try.ntmps34
    go_wp2_with fail
    refine (specWordOk s _).mono ?_
    rintro e w' ⟨rfl, rfl⟩
    go_wp2_with fail
    go_ret
    exact ⟨ret_bool (by rw [HR.out, h1]; rfl), rfl⟩
  · cases h2 : wordB t
    · go_enter Try.func34, Try.ntmps34
      go_wp2_with fail
      refine (specWordOk s _).mono ?_
      rintro e w' ⟨rfl, rfl⟩
      go_wp2_with fail
      refine (specWordOk t _).mono ?_
      rintro e w' ⟨rfl, rfl⟩
      go_wp2_with fail
      go_ret
      exact ⟨ret_bool (by rw [HR.out, h1, h2]; rfl), rfl⟩
    · go_enter Try.func34, Try.ntmps34
      go_wp2_with fail
      refine (specWordOk s _).mono ?_
      rintro e w' ⟨rfl, rfl⟩
      go_wp2_with fail
      refine (specWordOk t _).mono ?_
      rintro e w' ⟨rfl, rfl⟩
      go_wp2_with fail
      go_ret
      exact ⟨ret_bool (by rw [HR.out, h1, h2]; rfl), rfl⟩

/-- what ShiftWord is to return -/
def shiftR (s : ByteArray) (k : Int) : ByteArray := if wordB s = true ∧ 0 ≤ k ∧ k ≤ s.size then s.extract k.toNat s.size ++ s.extract 0 k.toNat else ⟨#[]⟩
theorem specShiftWord (s : ByteArray) (k : Int) (w : World) (_ : s.size ≤ 1048576) :
    Calls Try.prog 24 #[.string s, .int .i64 k] w fun e w' => e = .returned (.string (shiftR s k)) ∧ ∃ n, w' = w.drewN n := by
  by_cases h1 : wordB s = true
  · have h400 := word_size h1
    by_cases h2 : 0 ≤ k
    · by_cases h3 : k ≤ s.size
      · have hr : shiftR s k = s.extract k.toNat s.size ++ s.extract 0 k.toNat := if_pos ⟨h1, h2, h3⟩
        obtain ⟨j, rfl⟩ := Int.eq_ofNat_of_zero_le h2
        rw [Int.toNat_natCast] at hr
        have HR := Lib.hid hr
        have hj : j ≤ s.size := by omega
        have d1 : decide ((0 : Int) ≤ j) = true := by simp
        have d2 : decide ((j : Int) ≤ s.size) = true := by simp; omega
        clear hr h2 h3
        go_enter Try.func24, Try.ntmps24
        go_wp2_with (first | (go_at_call 13; refine (specWordOk s _).mono ?_; rintro e w' ⟨rfl, rfl⟩) | go_in)
        have hz1 : (s.extract j s.size).size ≤ 400 := by rw [ByteArray.size_extract]; omega
        have hz2 : (s.extract 0 j).size ≤ 400 := by rw [ByteArray.size_extract]; omega
        go_quiet (fail)
        go_wp2_with fail
        go_ret
        exact ⟨ret_str HR.out.symm, _, rfl⟩
      · have hr : shiftR s k = ⟨#[]⟩ := if_neg (fun h => h3 h.2.2)
        have HR := Lib.hid hr
        have d1 : decide ((0 : Int) ≤ k) = true := by simpa using h2
        have d2 : decide (k ≤ (s.size : Int)) = false := by simpa using h3
        clear hr h2 h3
        go_enter Try.func24, Try.ntmps24
        go_wp2_with (first | (go_at_call 13; refine (specWordOk s _).mono ?_; rintro e w' ⟨rfl, rfl⟩) | go_in)
        go_ret
        exact ⟨ret_str HR.out.symm, 0, rfl⟩
    · have hr : shiftR s k = ⟨#[]⟩ := if_neg (fun h => h2 h.2.1)
      have HR := Lib.hid hr
      have d1 : decide ((0 : Int) ≤ k) = false := by simpa using h2
      clear hr h2
      go_enter Try.func24, Try.ntmps24
      go_wp2_with (first | (go_at_call 13; refine (specWordOk s _).mono ?_; rintro e w' ⟨rfl, rfl⟩) | go_in)
      go_ret
      exact ⟨ret_str HR.out.symm, 0, rfl⟩
  · have hr : shiftR s k = ⟨#[]⟩ := if_neg (fun h => h1 h.1)
    have HR := Lib.hid hr
    have h1' : wordB s = false := by simpa using h1
    clear hr h1
    go_enter Try.func24, Try.ntmps24
    go_wp2_with (first | (go_at_call 13; refine (specWordOk s _).mono ?_; rintro e w' ⟨rfl, rfl⟩) | go_in)
    go_ret
    exact ⟨ret_str HR.out.symm, 0, rfl⟩
end Go.Proofs.Ytbgoajdfhgjgdaa
