/- l04Letter and LengthAfter of the model. Conditions: lengths of at most 2^20. -/
import Derived.Test.YtbbcdeknnfghkaaLetP
import Derived.Test.YtbbcdeknnfghkaaCountM
namespace Go.Proofs.Ytbbcdeknnfghkaa
open Go.RowKit

set_option maxHeartbeats 400000 in
theorem specLetter (A : Option Addr) (l : List ByteArray) (cp : Nat) (t : ByteArray) (w : World) (_ : l.length ≤ 1048576) (_ : t.size ≤ 1048576) :
    Calls Try.prog 73 #[.agg #[.slice A l.length cp], .string t] w fun e w' => e = .returned (.int .i64 (letR l t)) ∧ Below w.heap.size w w' := by
  have hb0 : Below w.heap.size w (w.alloc (.cells #[.slice A l.length cp] 24)) := (Below.refl _ _).alloc (Nat.le_refl _) _
  have HB0 := Lib.hid hb0
  clear hb0
  by_cases h1 : t.size = 1
  · have b1 : ((t.size : Int) != 1) = false := by rw [h1]; rfl
    by_cases h2 : wordB t = true
    · obtain ⟨h3, h4⟩ := letN_at h1 h2
      have h97 : 97 ≤ (t[0]'(by omega)).toNat := by omega
      have q1 : ((t[0]'(by omega)).toNat : Int) - 97 = (letN t : Int) := by omega
      by_cases h5 : letN t < l.length
      · have HV : Hid (letR l t = (letN t : Int)) := by
          show letR l t = _
          unfold letR letOk
          rw [decide_eq_true h1, h2, decide_eq_true h5]
          rfl
        have d5 : decide ((l.length : Int) ≤ (letN t : Int)) = false := by simp; omega
        go_enter Try.func73, Try.ntmps73
        go_wp2_with fail
        refine (specWordOk t _).mono ?_
        rintro e w' ⟨rfl, rfl⟩
        go_wp2_with fail
        go_ret
        exact ⟨ret_int (by rw [HV.out]; omega), HB0.out⟩
      · have HV : Hid (letR l t = -1) := by
          show letR l t = _
          unfold letR letOk
          rw [decide_eq_false h5, Bool.and_false]
          rfl
        have d5 : decide ((l.length : Int) ≤ (letN t : Int)) = true := by simp; omega
        go_enter Try.func73, Try.ntmps73
        go_wp2_with fail
        refine (specWordOk t _).mono ?_
        rintro e w' ⟨rfl, rfl⟩
        go_wp2_with fail
        go_ret
        exact ⟨ret_int HV.out.symm, HB0.out⟩
    · have h2' : wordB t = false := by simpa using h2
      have HV : Hid (letR l t = -1) := by
        show letR l t = _
        unfold letR letOk
        rw [h2', Bool.and_false, Bool.false_and]
        rfl
      clear h2
      go_enter Try.func73, Try.ntmps73
      go_wp2_with fail
      refine (specWordOk t _).mono ?_
      rintro e w' ⟨rfl, rfl⟩
      go_wp2_with fail
      go_ret
      exact ⟨ret_int HV.out.symm, HB0.out⟩
  · have b1 : ((t.size : Int) != 1) = true := by rw [bne_iff_ne]; omega
    have HV : Hid (letR l t = -1) := by
      show letR l t = _
      unfold letR letOk
      rw [decide_eq_false h1, Bool.false_and, Bool.false_and]
      rfl
    clear h1
    go_enter Try.func73, Try.ntmps73
    go_wp2_with fail
    go_ret
    exact ⟨ret_int HV.out.symm, HB0.out⟩

end Go.Proofs.Ytbbcdeknnfghkaa
