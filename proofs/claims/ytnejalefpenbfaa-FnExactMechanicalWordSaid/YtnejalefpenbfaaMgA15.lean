/- Texts put together. -/
import Derived.Test.YtnejalefpenbfaaMgA9
import Derived.Test.YtnejalefpenbfaaMgA13
import Derived.Test.YtnejalefpenbfaaMgA3
import Derived.BigQuiet
import Derived.Test.YtnejalefpenbfaaMgA14
import Derived.Test.YtnejalefpenbfaaMgA10
import Derived.Test.YtnejalefpenbfaaMgA8
import Derived.Laws.Cover1
import Derived.Test.YtnejalefpenbfaaChecked
import Derived.Test.YtnejalefpenbfaaMgA5
/- Chapter 10 of the model: BordersOf, PeriodsOf, RootOf, IsPrimitiveWord. Conditions: lengths of at most 2^20. -/
namespace Go.Proofs.Ytnejalefpenbfaa
open Go.RowKit

theorem cut_lo {P : Program} {t : TypeId} (ht : P.underlying t = some .string) (s : ByteArray) (b : Int) (y : Nat) (w : World) (hb : b = y) (h : y ≤ s.size) :
    (Instr.slice t (.string s) none (some (.int .i64 b)) none).run P w = .ok (.string (s.extract 0 y)) w := by
  subst hb
  rw [run_slice_string_to_if (P := P) w t s .i64 (y : Int) ht, if_pos (by omega)]
  rfl
theorem cut_hi {P : Program} {t : TypeId} (ht : P.underlying t = some .string) (s : ByteArray) (b : Int) (y : Nat) (w : World) (hb : b = y) (h : y ≤ s.size) :
    (Instr.slice t (.string s) (some (.int .i64 b)) none none).run P w = .ok (.string (s.extract y s.size)) w := by
  subst hb
  rw [run_slice_string_from_if (P := P) w t s .i64 (y : Int) ht, if_pos (by omega)]
  rfl

theorem rt_yes {s : ByteArray} {p : Nat} (h1 : 1 ≤ p) (h2 : p < s.size) (h : RootAt s p) (hno : ∀ q, 1 ≤ q → q < p → ¬ RootAt s q) : rtN s = p :=
  firstP_eq _ _ _ h1 (by omega) (fun r hr1 hr2 => hno r hr1 hr2) h
theorem rt_self {s : ByteArray} (h1 : 1 ≤ s.size) (hno : ∀ q, 1 ≤ q → q < s.size → ¬ RootAt s q) : rtN s = s.size := by
  have hr : RootAt s s.size := ⟨Nat.mod_self _, fun i hi => absurd hi (by omega)⟩
  exact firstP_eq _ _ _ h1 (by omega) (fun r hr1 hr2 => hno r hr1 hr2) hr

end Go.Proofs.Ytnejalefpenbfaa

/- Chapter 11 of the model: IsBinary, SpreadOf, IsBalanced. Conditions: lengths of at most 2^20. -/
namespace Go.Proofs.Ytnejalefpenbfaa
open Go.RowKit Go.Lib

theorem cnt_cb (s : ByteArray) (i : Nat) : ∀ n, i + n ≤ s.size → cnt (s.extract i (i + n)).data.toList 98 = cbN (bX s) i n
  | 0, _ => by
    rw [ByteArray.data_extract, Array.toList_extract, List.extract_eq_take_drop, Nat.add_sub_cancel_left, List.take_zero]
    rfl
  | n + 1, h => by
    have ih := cnt_cb s i n (by omega)
    rw [ByteArray.data_extract, Array.toList_extract, List.extract_eq_take_drop, Nat.add_sub_cancel_left] at ih ⊢
    have hl : s.data.toList.length = s.size := by simp
    have hi : i + n < s.data.toList.length := by omega
    have e : (s.data.toList.drop i)[n]? = some (s.data.toList[i + n]'hi) := by rw [List.getElem?_drop, List.getElem?_eq_getElem hi]
    rw [List.take_add_one, e]
    show cnt (_ ++ [_]) 98 = cbN (bX s) i n + (bX s (i + n)).toNat
    unfold cnt at ih ⊢
    rw [List.count_append, ih, List.count_singleton]
    congr 1
    unfold bX
    rw [List.getElem?_eq_getElem hi]
    generalize s.data.toList[i + n]'hi = c
    by_cases hc : c = 98
    · subst hc; rfl
    · have h1 : (c == 98) = false := by rw [beq_eq_false_iff_ne]; exact hc
      have h2 : (some c == some (98 : UInt8)) = false := by rw [beq_eq_false_iff_ne]; exact fun e => hc (Option.some.inj e)
      rw [h1, h2]
      rfl

set_option maxHeartbeats 400000 in
theorem specIsBinaryQ (s : ByteArray) (w : World) (_ : s.size ≤ 1048576) :
    Calls Try.prog 11 #[.string s] w fun e w' => e = .returned (.bool (binB s)) ∧ w = w' := by
  cases hw : wordB s
  · have HW := Lib.hid hw
    have HV : Hid (binB s = false) := by show _ = _; unfold binB; rw [hw]; rfl
    clear hw
    go_enter Try.func11, Try.ntmps11
    go_wp2_with fail
    refine (specWordOk s _).mono ?_
    rintro e w' ⟨rfl, rfl⟩
    rw [HW.out]
    go_wp2_with fail
    go_ret
    exact ⟨ret_bool HV.out.symm, rfl⟩
  · have HW := Lib.hid hw
    have HV : Hid (binB s = withinB 2 s) := by show _ = _; unfold binB; rw [hw]; rfl
    have HI := Lib.hid (fun w => specWithin 2 s w (by omega) hw)
    clear hw
    generalize withinB 2 s = b at HV HI
    go_enter Try.func11, Try.ntmps11
    go_wp2_with fail
    refine (specWordOk s _).mono ?_
    rintro e w' ⟨rfl, rfl⟩
    rw [HW.out]
    go_wp2_with fail
    refine (HI.out _).mono ?_
    rintro e w' ⟨rfl, rfl⟩
    go_wp2_with fail
    go_ret
    exact ⟨ret_bool HV.out.symm, rfl⟩

set_option maxRecDepth 100000 in
set_option maxHeartbeats 1000000 in
theorem specSpread (s : ByteArray) (n : Nat) (w : World) (hn : n ≤ s.size) (hs : s.size ≤ 1048576) :
    Calls Try.prog 31 #[.string s, .int .i64 (n : Int)] w fun e w' => e = .returned (.tuple #[.int .i64 (lwN s n : Int), .int .i64 (hgN s n : Int)]) ∧ w = w' := by
  have HL : Hid (lwN s n = spLo s n (s.size + 1 - n)) := rfl
  have HH : Hid (hgN s n = spHi s n (s.size + 1 - n)) := rfl
  have HLE := Lib.hid (sp_le s n)
  have HLN : Hid (∀ k, spLo s n (k + 1) = min (spLo s n k) (cbN (bX s) k n)) := fun k => rfl
  have HHN : Hid (∀ k, spHi s n (k + 1) = max (spHi s n k) (cbN (bX s) k n)) := fun k => rfl
  have HL0 : Hid (spLo s n 0 = n) := rfl
  have HH0 : Hid (spHi s n 0 = 0) := rfl
  have HCB := Lib.hid (fun k (h : k + n ≤ s.size) => cnt_cb s k n h)
  have HCL : Hid (∀ k, cbN (bX s) k n ≤ n) := fun k => cb_le (bX s) k n
  generalize spLo s n = lo at *
  generalize spHi s n = hi at *
  generalize lwN s n = ra at *
  generalize hgN s n = rb at *
  go_enter Try.func31, Try.ntmps31
  go_wp2_with fail
  go_loopw [6, 7, 8] (fun lv hv iv w' => ∃ (k a b : Nat), k ≤ s.size + 1 - n ∧ a = lo k ∧ b = hi k ∧ lv = .int .i64 (a : Int) ∧ hv = .int .i64 (b : Int) ∧ iv = .int .i64 (k : Int) ∧ w = w') (fun _ _ iv _ => s.size + 1 - n - (intOf iv).toNat)
  case atStart => exact ⟨0, n, 0, Nat.zero_le _, HL0.out.symm, HH0.out.symm, rfl, rfl, rfl, rfl⟩
  case round =>
    obtain ⟨k, a, b, hk, ha, hb, rfl, rfl, rfl, rfl⟩ := hrel
    have hab : a ≤ n ∧ b ≤ n := by rw [ha, hb]; exact HLE.out k
    have HA := Lib.hid ha
    have HB := Lib.hid hb
    clear ha hb
    by_cases hlt : k + n ≤ s.size
    · have hsl : ∀ w : World, (Instr.slice 9 (.string s) (some (.int .i64 (k : Int))) (some (.int .i64 ((k : Int) + (n : Int)))) none).run Try.prog w = .ok (.string (s.extract k (k + n))) w := fun w => slice_gen Try.underlying9 s _ _ k (k + n) w rfl (by omega) (by omega) (by omega)
      have HC := Lib.hid (fun w => specCount (s.extract k (k + n)) 98 w (by rw [ByteArray.size_extract]; omega))
      rw [HCB.out k hlt] at HC
      have hcl := HCL.out k
      have HLX := Lib.hid (HLN.out k)
      have HHX := Lib.hid (HHN.out k)
      rw [← HA.out] at HLX
      rw [← HB.out] at HHX
      have hlt' : (k : Int) + (n : Int) ≤ (s.size : Int) := by omega
      generalize s.extract k (k + n) = x at hsl HC
      generalize cbN (bX s) k n = c at *
      go_wp2_with fail
      refine (HC.out _).mono ?_
      rintro e w' ⟨rfl, rfl⟩
      go_wp2_with fail
      go_roundw
      case rel => exact ⟨k + 1, min a c, max b c, by omega, HLX.out.symm, HHX.out.symm, congrArg (Value.int .i64) (by omega), congrArg (Value.int .i64) (by omega), by go_num, by trivial⟩
      case measure => simp [intOf]; omega
    · have hke : k = s.size + 1 - n := by omega
      have HRA : Hid (ra = a) := by show _ = _; rw [HL.out, HA.out, hke]
      have HRB : Hid (rb = b) := by show _ = _; rw [HH.out, HB.out, hke]
      have hlt' : ¬ (k : Int) + (n : Int) ≤ (s.size : Int) := by omega
      clear hke
      go_wp2_with fail
      go_ret2
      exact ⟨by rw [HRA.out, HRB.out]; rfl, rfl⟩

set_option maxHeartbeats 1000000 in
theorem specSpreadOfQ (s : ByteArray) (n : Int) (w : World) (hs : s.size ≤ 1048576) :
    Calls Try.prog 13 #[.string s, .int .i64 n] w fun e w' => e = .returned (.tuple #[.int .i64 (spA s n), .int .i64 (spB s n)]) ∧ w = w' := by
  have HBI := Lib.hid (fun w => specIsBinaryQ s w hs)
  cases hb : binB s
  · have HA : Hid (spA s n = -1) := if_neg (by unfold spOk; rw [hb, Bool.false_and]; decide)
    have HB : Hid (spB s n = -1) := if_neg (by unfold spOk; rw [hb, Bool.false_and]; decide)
    rw [hb] at HBI
    clear hb
    generalize spA s n = a at *
    generalize spB s n = b at *
    go_enter Try.func13, Try.ntmps13
    go_wp2_with fail
    refine (HBI.out _).mono ?_
    rintro e w' ⟨rfl, rfl⟩
    go_wp2_with fail
    go_ret2
    exact ⟨by rw [HA.out, HB.out]; rfl, rfl⟩
  rw [hb] at HBI
  cases hi : (decide (1 ≤ n) && decide (n ≤ s.size))
  · have HA : Hid (spA s n = -1) := if_neg (by unfold spOk; rw [hi, Bool.and_false]; decide)
    have HB : Hid (spB s n = -1) := if_neg (by unfold spOk; rw [hi, Bool.and_false]; decide)
    have HI := Lib.hid hi
    clear hb hi
    generalize spA s n = a at *
    generalize spB s n = b at *
    go_enter Try.func13, Try.ntmps13
    go_wp2_with fail
    refine (HBI.out _).mono ?_
    rintro e w' ⟨rfl, rfl⟩
    go_wp2_with fail
    refine (specIn _ _ _ _).mono ?_
    rintro e w' ⟨rfl, rfl⟩
    rw [HI.out]
    go_wp2_with fail
    go_ret2
    exact ⟨by rw [HA.out, HB.out]; rfl, rfl⟩
  have HI := Lib.hid hi
  have HA : Hid (spA s n = (lwN s n.toNat : Int)) := if_pos (by unfold spOk; rw [hb, hi]; rfl)
  have HB : Hid (spB s n = (hgN s n.toNat : Int)) := if_pos (by unfold spOk; rw [hb, hi]; rfl)
  rw [Bool.and_eq_true, decide_eq_true_eq, decide_eq_true_eq] at hi
  obtain ⟨m, rfl⟩ : ∃ m : Nat, n = m := ⟨n.toNat, by omega⟩
  rw [Int.toNat_natCast] at HA HB
  have HS := Lib.hid (fun w => specSpread s m w (by omega) hs)
  clear hb hi
  generalize spA s (m : Int) = a at *
  generalize spB s (m : Int) = b at *
  generalize lwN s m = x at *
  generalize hgN s m = y at *
  go_enter Try.func13, Try.ntmps13
  go_wp2_with fail
  refine (HBI.out _).mono ?_
  rintro e w' ⟨rfl, rfl⟩
  go_wp2_with fail
  refine (specIn _ _ _ _).mono ?_
  rintro e w' ⟨rfl, rfl⟩
  rw [HI.out]
  go_wp2_with fail
  refine (HS.out _).mono ?_
  rintro e w' ⟨rfl, rfl⟩
  go_wp2_with fail
  go_ret2
  exact ⟨by rw [HA.out, HB.out]; rfl, rfl⟩

set_option maxHeartbeats 1000000 in
theorem specIsBalancedQ (s : ByteArray) (w : World) (hs : s.size ≤ 1048576) :
    Calls Try.prog 15 #[.string s] w fun e w' => e = .returned (.bool (balR s)) ∧ w = w' := by
  have HBI := Lib.hid (fun w => specIsBinaryQ s w hs)
  cases hb : binB s
  · have HV : Hid (balR s = false) := by show _ = _; unfold balR; rw [hb]; rfl
    rw [hb] at HBI
    clear hb
    go_enter Try.func15, Try.ntmps15
    go_wp2_with fail
    refine (HBI.out _).mono ?_
    rintro e w' ⟨rfl, rfl⟩
    go_wp2_with fail
    go_ret
    exact ⟨ret_bool HV.out.symm, rfl⟩
  have HV : Hid (balR s = blTo s s.size) := by show _ = _; unfold balR; rw [hb]; rfl
  have HALL := Lib.hid (blTo_all s s.size)
  have HSP := Lib.hid (fun n w (h : n ≤ s.size) => specSpread s n w h hs)
  have HLE : Hid (∀ n, lwN s n ≤ n ∧ hgN s n ≤ n) := fun n => sp_le s n _
  rw [hb] at HBI
  clear hb
  generalize balR s = r at *
  generalize blTo s s.size = t at *
  generalize lwN s = lo at *
  generalize hgN s = hi at *
  go_enter Try.func15, Try.ntmps15
  go_wp2_with fail
  refine (HBI.out _).mono ?_
  rintro e w' ⟨rfl, rfl⟩
  go_wp2_with fail
  go_loopw [3] (fun iv w' => ∃ k : Nat, 1 ≤ k ∧ k ≤ s.size + 1 ∧ iv = .int .i64 (k : Int) ∧ (∀ n, 1 ≤ n → n < k → hi n ≤ lo n + 1) ∧ w = w') (fun iv _ => s.size + 1 - (intOf iv).toNat)
  case atStart => exact ⟨1, Nat.le_refl _, by omega, rfl, fun n a b => by omega, rfl⟩
  case round =>
    obtain ⟨k, hk1, hk2, rfl, hall, rfl⟩ := hrel
    have HA := Lib.hid hall
    clear hall
    by_cases hlt : k ≤ s.size
    · have HS := Lib.hid (fun w => HSP.out k w hlt)
      obtain ⟨l1, l2⟩ := HLE.out k
      have hlt' : (k : Int) ≤ (s.size : Int) := by omega
      by_cases hc : hi k ≤ lo k + 1
      · have HN : Hid (∀ n, 1 ≤ n → n < k + 1 → hi n ≤ lo n + 1) := fun n a b => by
          by_cases e : n = k
          · subst e; exact hc
          · exact HA.out n a (by omega)
        generalize lo k = x at *
        generalize hi k = y at *
        have hc' : ¬ (x : Int) + 1 < (y : Int) := by omega
        go_wp2_with fail
        refine (HS.out _).mono ?_
        rintro e w' ⟨rfl, rfl⟩
        go_wp2_with fail
        go_roundw
        case rel => exact ⟨k + 1, by omega, by omega, by go_num, HN.out, by trivial⟩
        case measure => simp [intOf]; omega
      · have HR : Hid (false = r) := by
          show _ = _
          rw [HV.out]
          cases hx : t
          · rfl
          · exact absurd (HALL.out.1 hx k hk1 hlt) hc
        generalize lo k = x at *
        generalize hi k = y at *
        have hc' : (x : Int) + 1 < (y : Int) := by omega
        clear HALL HV
        go_wp2_with fail
        refine (HS.out _).mono ?_
        rintro e w' ⟨rfl, rfl⟩
        go_wp2_with fail
        go_ret
        exact ⟨ret_bool HR.out, rfl⟩
    · have HR : Hid (true = r) := by
        show _ = _
        rw [HV.out]
        exact (HALL.out.2 (fun n a b => HA.out n a (by omega))).symm
      have hlt' : ¬ (k : Int) ≤ (s.size : Int) := by omega
      clear HALL HV
      go_wp2_with fail
      go_ret
      exact ⟨ret_bool HR.out, rfl⟩

theorem specIsBinary (s : ByteArray) (w : World) (hs : s.size ≤ 1048576) :
    Calls Try.prog 11 #[.string s] w fun e w' => e = .returned (.bool (binB s)) ∧ Below w.heap.size w w' := by
  exact (specIsBinaryQ s w hs).mono (fun _ _ h => ⟨h.1, by rw [← h.2]; exact Below.refl _ _⟩)
theorem specSpreadOf (s : ByteArray) (n : Int) (w : World) (hs : s.size ≤ 1048576) :
    Calls Try.prog 13 #[.string s, .int .i64 n] w fun e w' => e = .returned (.tuple #[.int .i64 (spA s n), .int .i64 (spB s n)]) ∧ Below w.heap.size w w' := by
  exact (specSpreadOfQ s n w hs).mono (fun _ _ h => ⟨h.1, by rw [← h.2]; exact Below.refl _ _⟩)
theorem specIsBalanced (s : ByteArray) (w : World) (hs : s.size ≤ 1048576) :
    Calls Try.prog 15 #[.string s] w fun e w' => e = .returned (.bool (balR s)) ∧ Below w.heap.size w w' := by
  exact (specIsBalancedQ s w hs).mono (fun _ _ h => ⟨h.1, by rw [← h.2]; exact Below.refl _ _⟩)
end Go.Proofs.Ytnejalefpenbfaa

/- The program's WordOk: isLetter, ok and WordOk. No condition but that a text has at most 2^63 bytes. -/
namespace Go.Proofs.Ytnejalefpenbfaa
open Go.RowKit

theorem isLetter_any (n : Int) (w : World) :
    Calls Try.prog 56 #[.int .i32 n] w fun e w' => e = .returned (.bool (decide (97 ≤ n) && decide (n < 101))) ∧ w = w' := by
  by_cases h1 : 97 ≤ n
  · have hd1 : decide ((97 : Int) ≤ n) = true := by simpa using h1
    go_enter Try.func56, Try.ntmps56
    go_wp2
    go_ret
    exact ⟨ret_bool (by simp [h1]), rfl⟩
  · have hd1 : decide ((97 : Int) ≤ n) = false := by simpa using h1
    go_enter Try.func56, Try.ntmps56
    go_wp2
    go_ret
    exact ⟨ret_bool (by simp), rfl⟩

set_option maxHeartbeats 400000 in
theorem implOk (s : ByteArray) (w : World) (_ : s.size ≤ 1048576) :
    Calls Try.prog 45 #[.string s] w fun e w' => e = .returned (.bool (wordB s)) ∧ Below w.heap.size w w' := by
  by_cases hl : 400 < s.size
  · have HE := Lib.hid (word_long hl)
    go_enter Try.func45, Try.ntmps45
    go_wp2
    go_ret
    exact ⟨ret_bool HE.out.symm, Below.refl _ _⟩
  have hs : s.size ≤ 400 := by omega
  go_enter Try.func45, Try.ntmps45
  go_wp2
  go_loopw [4] (fun _ w' => ∃ k : Nat, k ≤ s.size ∧ w' = w.iter s k ∧ (s.data.toList.take k).all isAbcd = true) (fun _ w' => s.size - w'.iterPos w.heap.size)
  case atStart => exact ⟨0, Nat.zero_le _, rfl, rfl⟩
  case round =>
    obtain ⟨k, hk, rfl, ha⟩ := hrel
    have HA := Lib.hid ha
    clear ha
    by_cases hlt : k < s.size
    · by_cases hc : isAbcd s[k] = true
      · have hasc : s[k].toNat < 128 := by simp [isAbcd] at hc; omega
        have hnx : ∀ ty, (Instr.next (.pointer (some ⟨w.heap.size, 0, none⟩)) true ty).run Try.prog (w.iter s k) = _ := fun ty => run_next_ascii w s k ty hlt hasc
        have hd1 : (decide ((97 : Int) ≤ s[k].toNat) && decide ((s[k].toNat : Int) < 101)) = true := by simp [isAbcd] at hc; simp; omega
        have HC := Lib.hid hc
        clear hc
        go_wp2_with (go_at_call 56; refine (isLetter_any _ _).mono ?_; rintro e w' ⟨rfl, rfl⟩)
        go_roundw
        case rel => exact ⟨k + 1, by omega, rfl, all_snoc s k hlt HA.out HC.out⟩
        case measure => simp; omega
      · have hf : isAbcd s[k] = false := by simpa using hc
        have hn : ∃ n : Nat, ∃ m : Nat, (∀ ty, (Instr.next (.pointer (some ⟨w.heap.size, 0, none⟩)) true ty).run Try.prog (w.iter s k) = .ok (.tuple #[.bool true, .int .i64 k, .int .i32 n]) (w.iter s m)) ∧ (n < 97 ∨ 100 < n) := by
          by_cases hasc : s[k].toNat < 128
          · exact ⟨_, _, fun ty => run_next_ascii w s k ty hlt hasc, by simp [isAbcd] at hf; omega⟩
          · have hd := decode_high s k hlt (by omega)
            exact ⟨_, _, fun ty => run_next_any w s k ty hlt, by omega⟩
        obtain ⟨n, m, hnx, hor⟩ := hn
        have HF := Lib.hid hf
        clear hf hc
        have hd1 : (decide ((97 : Int) ≤ n) && decide ((n : Int) < 101)) = false := by simp; omega
        go_wp2_with (go_at_call 56; refine (isLetter_any _ _).mono ?_; rintro e w' ⟨rfl, rfl⟩)
        go_ret
        exact ⟨ret_bool (word_not k hlt HF.out).symm, below_iter _ _ _⟩
    · have hnx : ∀ ty, (Instr.next (.pointer (some ⟨w.heap.size, 0, none⟩)) true ty).run Try.prog (w.iter s k) = _ := fun ty => run_next_end w s k ty hlt
      have hk' : k = s.size := by omega
      have HY := Lib.hid (word_yes hs (hk' ▸ HA.out))
      clear hk'
      go_wp2
      go_ret
      exact ⟨ret_bool HY.out.symm, below_iter _ _ _⟩

theorem implWordOk (s : ByteArray) (w : World) (hs : s.size ≤ 1048576) :
    Calls Try.prog 54 #[.string s] w fun e w' => e = .returned (.bool (wordB s)) ∧ Below w.heap.size w w' := by
  go_enter Try.func54, Try.ntmps54
  go_wp2_with fail
  refine (implOk s _ hs).mono ?_
  rintro e w' ⟨rfl, hb⟩
  go_wp2_with fail
  go_ret
  exact ⟨rfl, hb⟩

end Go.Proofs.Ytnejalefpenbfaa

/- hasFirst, hasImages and SubstOk of the program. Conditions: lengths of at most 2^20. -/
namespace Go.Proofs.Ytnejalefpenbfaa
open Go.RowKit

theorem letterAt (n j : Int) (w : World) (h : n = 97 + j) (h1 : 0 ≤ j) (h2 : j ≤ 3) :
    Calls Try.prog 46 #[.int .u8 n] w fun e w' => e = .returned (.int .i64 j) ∧ w = w' := by
  have h3 : 97 ≤ n := by omega
  have h4 : n ≤ 100 := by omega
  have HJ := Lib.hid (show n - 97 = j by omega)
  clear h h1 h2
  go_enter Try.func46, Try.ntmps46
  go_wp2
  go_ret
  exact ⟨ret_int HJ.out, rfl⟩

set_option maxHeartbeats 400000 in
theorem implHasFirst (n : Nat) (s : ByteArray) (w : World) (_ : n ≤ 1048576) (hs : s.size ≤ 1048576) :
    Calls Try.prog 29 #[.string s, .int .i64 n] w fun e w' => e = .returned (.bool (wordB s && withinB n s)) ∧ Below w.heap.size w w' := by
  by_cases h : wordB s = true
  · have h400 := word_size h
    have HW := Lib.hid (word_at h)
    have HR : Hid ((wordB s && withinB n s) = withinB n s) := by show (wordB s && withinB n s) = withinB n s; rw [h]; rfl
    go_enter Try.func29, Try.ntmps29
    go_wp2_with fail
    refine (implOk s _ hs).mono ?_
    rintro e w1 ⟨rfl, hb1⟩
    have HB1 := Lib.hid hb1
    clear hb1
    go_wp2_with fail
    go_loop [11] (fun i => ∃ k : Nat, k ≤ s.size ∧ i = .int .i64 k ∧ (s.data.toList.take k).all (fun c => decide (c.toNat < 97 + n)) = true) (fun i => s.size - (intOf i).toNat)
    case atStart => exact ⟨0, Nat.zero_le _, rfl, rfl⟩
    case round =>
      obtain ⟨k, hk, rfl, ha⟩ := hrel
      have HA := Lib.hid ha
      clear ha
      by_cases hlt : k < s.size
      · obtain ⟨p1, p2⟩ := HW.out k hlt
        obtain ⟨j, hj, hj3⟩ : ∃ j : Nat, s[k].toNat = 97 + j ∧ j ≤ 3 := ⟨s[k].toNat - 97, by omega, by omega⟩
        have HLI := Lib.hid (fun w => letterAt (s[k].toNat : Int) (j : Int) w (by omega) (by omega) (by omega))
        by_cases hc : s[k].toNat < 97 + n
        · have hge : ¬ ((n : Int) ≤ (j : Int)) := by omega
          have d1 : decide ((n : Int) ≤ (j : Int)) = false := by simpa using hge
          have HC := Lib.hid hc
          clear hc p1 p2 hj
          go_wp2_with (go_at_call 46; refine (HLI.out _).mono ?_; rintro e w' ⟨rfl, rfl⟩)
          go_round
          case rel => exact ⟨k + 1, by omega, by go_num, all_snoc s k hlt HA.out (by simpa using HC.out)⟩
          case measure => simp [intOf]; omega
        · have hge : (n : Int) ≤ (j : Int) := by omega
          have d1 : decide ((n : Int) ≤ (j : Int)) = true := by simpa using hge
          have HN : Hid (withinB n s = false) := by
            show withinB n s = false
            exact all_not s k hlt (by simpa using hc)
          clear hc p1 p2 hj
          go_wp2_with (go_at_call 46; refine (HLI.out _).mono ?_; rintro e w' ⟨rfl, rfl⟩)
          go_ret
          exact ⟨ret_bool (by first | rw [HR.out, HN.out] | exact HN.out.symm), HB1.out⟩
      · have hk' : k = s.size := by omega
        have HY : Hid (withinB n s = true) := by
          have := HA.out
          rw [hk', take_all s _ (Nat.le_refl _)] at this
          exact this
        clear hk'
        go_wp2_with fail
        go_ret
        exact ⟨ret_bool (by first | rw [HR.out, HY.out] | exact HY.out.symm), HB1.out⟩
  · have h' : wordB s = false := by simpa using h
    have HR : Hid ((wordB s && withinB n s) = false) := by show (wordB s && withinB n s) = false; rw [h']; rfl
    clear h
    go_enter Try.func29, Try.ntmps29
    go_wp2_with fail
    refine (implOk s _ hs).mono ?_
    rintro e w1 ⟨rfl, hb1⟩
    go_wp2_with fail
    go_ret
    exact ⟨ret_bool HR.out.symm, hb1⟩

theorem size_zero {s : ByteArray} (h : s.size = 0) : s = ⟨#[]⟩ := by
  apply bytes_ext
  rw [ByteArray.toList_eq, ByteArray.toList_eq]
  exact List.eq_nil_of_length_eq_zero (by simpa using h)

end Go.Proofs.Ytnejalefpenbfaa
