/- Texts put together. -/
import Derived.Test.YthckpgfhldocdaaMgp20
import Derived.Test.YthckpgfhldocdaaMgp5
import Derived.Test.YthckpgfhldocdaaMgp19
import Derived.Deep.LoopGhost
import Derived.Test.YthckpgfhldocdaaMgp9
import Derived.Laws.AppendOwnNone
import Derived.Test.YthckpgfhldocdaaMgp13
/- The longest part with a period, in the program; hasPower; IsSquareFree, IsCubeFree, IsOverlapFree, LeastPeriod, LongestRun. Conditions: lengths. -/
namespace Go.Proofs.Ythckpgfhldocdaa
open Go.RowKit

set_option maxHeartbeats 1000000 in
theorem implLwp (s : ByteArray) (p : Nat) (w : World) (hs : s.size ≤ 400) (h1 : 1 ≤ p) (h2 : p ≤ s.size) :
    Calls Try.prog 27 #[.string s, .int .i64 (p : Int)] w fun e w' => e = .returned (.int .i64 ((p + lpN s p : Nat) : Int)) ∧ Below w.heap.size w w' := by
  have HV : Hid (lpN s p = (lpTo s p (s.size - p)).1) := rfl
  rw [HV.out]
  clear HV
  have HY := Lib.hid (fun i h => lp_yes (s := s) (p := p) (i := i) h)
  have HN := Lib.hid (fun i h => lp_no (s := s) (p := p) (i := i) h)
  have HLE := Lib.hid (lp_le s p)
  have HZ : Hid (lpTo s p 0 = (0, 0)) := rfl
  generalize lpTo s p = f at HY HN HLE HZ ⊢
  go_enter Try.func27, Try.ntmps27
  go_wp2_with fail
  go_loopw [5, 6, 14] (fun a b c w' => ∃ i : Nat, i ≤ s.size - p ∧ a = .int .i64 ((p + (f i).1 : Nat) : Int) ∧ b = .int .i64 ((p + (f i).2 : Nat) : Int) ∧ c = .int .i64 (i : Int) ∧ Below w.heap.size w w') (fun _ _ c _ => s.size - (intOf c).toNat)
  case atStart => exact ⟨0, by omega, by rw [HZ.out]; rfl, by rw [HZ.out]; rfl, rfl, Below.refl _ _⟩
  case round =>
    obtain ⟨i, hi, rfl, rfl, rfl, hb⟩ := hrel
    obtain ⟨wo, rfl⟩ : ∃ y : World, y = wr := ⟨_, rfl⟩
    have HB := Lib.hid hb
    have hle := HLE.out i
    clear hb
    by_cases hip : i + p < s.size
    · have hi0 : i < s.size := by omega
      have hq1 : IntKind.i64.wrap ((i : Int) + (p : Int)) = (i : Int) + (p : Int) := IntWalk.i64_in _ (by omega)
      have hix : ∀ w : World, (Instr.index 45 (.string s) (.int .i64 (i : Int))).run Try.prog w = .ok (.int .u8 (s[i].toNat : Int)) w := fun w => index_at Try.underlying45 s _ i w hi0 rfl
      have hiy : ∀ w : World, (Instr.index 45 (.string s) (.int .i64 ((i : Int) + (p : Int)))).run Try.prog w = .ok (.int .u8 (s[i + p].toNat : Int)) w := fun w => index_at Try.underlying45 s _ (i + p) w hip (by omega)
      by_cases hc : s[i] = s[i + p]
      · have HF := Lib.hid (HY.out i ((same_at s i (i + p) hi0 hip).2 hc))
        rw [← hc] at hiy
        clear hc
        generalize s[i] = x at hix hiy
        generalize f i = y at hle HF ⊢
        obtain ⟨a, b⟩ := y
        simp only at hle ⊢
        go_wp2_with fail
        go_region
        go_wp2_with fail
        go_roundw
        case rel => exact ⟨i + 1, by omega, by rw [HF.out]; refine congrArg _ ?_; simp only; omega, by rw [HF.out]; refine congrArg _ ?_; simp only; omega, by go_num, below_drewN HB.out 1⟩
        case measure => simp [intOf]; omega
      · have HF := Lib.hid (HN.out i fun h => hc ((same_at s i (i + p) hi0 hip).1 h))
        have bne : (((s[i]).toNat : Int) == ((s[i + p]).toNat : Int)) = false := (num_other _ _).2 hc
        have bne2 : ¬ (s[i]).toNat = (s[i + p]).toNat := fun h => hc (UInt8.toNat.inj h)
        clear hc
        generalize s[i] = x at hix bne bne2
        generalize s[i + p] = z at hiy bne bne2
        generalize f i = y at hle HF ⊢
        obtain ⟨a, b⟩ := y
        simp only at hle ⊢
        go_wp2_with fail
        go_region
        go_wp2_with fail
        go_roundw
        case rel => exact ⟨i + 1, by omega, by rw [HF.out]; refine congrArg _ ?_; simp only; omega, by rw [HF.out]; refine congrArg _ ?_; simp only; omega, by go_num, below_drewN HB.out 1⟩
        case measure => simp [intOf]; omega
    · have HE : Hid (f i = f (s.size - p)) := by show _ = _; rw [show i = s.size - p by omega]
      go_wp2_with fail
      go_ret
      exact ⟨ret_int (by rw [HE.out]), HB.out⟩

set_option maxHeartbeats 1000000 in
theorem implHasPower (s : ByteArray) (t n e : Nat) (w : World) (hs : s.size ≤ 400) (ht : t = n + 1) (hn : n = 1 ∨ n = 2) (he : e ≤ 1) :
    Calls Try.prog 25 #[.string s, .int .i64 (t : Int), .int .i64 (e : Int)] w fun r w' => r = .returned (.bool (repB s n e)) ∧ Below w.heap.size w w' := by
  have HY : Hid (∀ p, 1 ≤ p → p ≤ s.size → n * p + e ≤ lpN s p → repB s n e = true) := fun p h1 h2 h3 => (rep_lp s n e).2 ⟨p, h1, h2, h3⟩
  have HNO : Hid ((∀ p, 1 ≤ p → p ≤ s.size → ¬ n * p + e ≤ lpN s p) → repB s n e = false) := fun h => by
    cases hb : repB s n e
    · rfl
    · obtain ⟨p, h1, h2, h3⟩ := (rep_lp s n e).1 hb
      exact absurd h3 (h p h1 h2)
  have HL := Lib.hid (fun p w (h : 1 ≤ p ∧ p ≤ s.size) => implLwp s p w hs h.1 h.2)
  have HLE := Lib.hid (lpN_le s)
  have HT := Lib.hid ht
  clear ht
  generalize repB s n e = rb at HY HNO
  generalize lpN s = f at HY HNO HL HLE
  go_enter Try.func25, Try.ntmps25
  go_wp2_with fail
  go_loopw [11] (fun c w' => ∃ i : Nat, i ≤ s.size ∧ c = .int .i64 (i : Int) ∧ (∀ p, 1 ≤ p → p ≤ i → ¬ n * p + e ≤ f p) ∧ Below w.heap.size w w') (fun c _ => s.size - (intOf c).toNat)
  case atStart => exact ⟨0, by omega, rfl, fun p a b => absurd b (by omega), Below.refl _ _⟩
  case round =>
    obtain ⟨i, hi, rfl, hno, hb⟩ := hrel
    obtain ⟨wo, rfl⟩ : ∃ y : World, y = wr := ⟨_, rfl⟩
    have HN := Lib.hid hno
    have HB := Lib.hid hb
    clear hno hb
    by_cases hlt : i < s.size
    · have HLI := Lib.hid (fun w => HL.out (i + 1) w ⟨by omega, by omega⟩)
      have e1 : ((i + 1 : Nat) : Int) = (i : Int) + 1 := by omega
      have hle := HLE.out (i + 1)
      have HYI := Lib.hid (HY.out (i + 1) (by omega) (by omega))
      have HNI : Hid (¬ n * (i + 1) + e ≤ f (i + 1) → ∀ p, 1 ≤ p → p ≤ i + 1 → ¬ n * p + e ≤ f p) := fun h p h1 h2 => by
        by_cases hp : p = i + 1
        · subst hp; exact h
        · exact HN.out p h1 (by omega)
      have hmul : (t : Int) * ((i : Int) + 1) = ((n * (i + 1) + (i + 1) : Nat) : Int) := by rw [HT.out, ← e1, ← Int.natCast_mul, Nat.succ_mul]
      have hnp : n * (i + 1) ≤ 2 * (i + 1) := Nat.mul_le_mul_right _ (by omega)
      rw [e1] at HLI
      generalize n * (i + 1) = np at hmul HYI HNI hnp
      generalize f (i + 1) = m at HLI hle HYI HNI
      by_cases hgo : np + e ≤ m
      · have HRB : Hid (rb = true) := HYI.out hgo
        go_wp2_with fail
        refine (HLI.out _).mono ?_
        rintro r w2 ⟨rfl, hb⟩
        have HB2 : Hid (Below w.heap.size w w2) := HB.out.trans (hb.mono HB.out.size)
        clear hb
        go_wp2_with fail
        go_ret
        exact ⟨ret_bool HRB.out.symm, HB2.out⟩
      · have HNX := Lib.hid (HNI.out hgo)
        go_wp2_with fail
        refine (HLI.out _).mono ?_
        rintro r w2 ⟨rfl, hb⟩
        have HB2 : Hid (Below w.heap.size w w2) := HB.out.trans (hb.mono HB.out.size)
        clear hb
        go_wp2_with fail
        go_roundw
        case rel => exact ⟨i + 1, by omega, by go_num, HNX.out, HB2.out⟩
        case measure => simp [intOf]; omega
    · have HRB : Hid (rb = false) := HNO.out fun p h1 h2 => HN.out p h1 (by omega)
      go_wp2_with fail
      go_ret
      exact ⟨ret_bool HRB.out.symm, HB.out⟩
theorem implWordOkB (s : ByteArray) (w : World) (hs : s.size ≤ 1048577) :
    Calls Try.prog 22 #[.string s] w fun e w' => e = .returned (.bool (wordB s)) ∧ Below w.heap.size w w' := by
  by_cases hl : s.size ≤ 1048576
  · exact implWordOk s w hl
  · have HE := Lib.hid (word_long (s := s) (by omega))
    have HO : Hid (∀ w, Calls Try.prog 39 #[.string s] w fun e w' => e = .returned (.bool false) ∧ Below w.heap.size w w') := by
      show ∀ w, _
      intro w
      go_enter Try.func39, Try.ntmps39
      go_wp2
      go_ret
      exact ⟨rfl, Below.refl _ _⟩
    go_enter Try.func22, Try.ntmps22
    go_wp2_with fail
    refine (HO.out _).mono ?_
    rintro e w' ⟨rfl, hb⟩
    go_wp2_with fail
    go_ret
    exact ⟨ret_bool HE.out.symm, hb⟩

theorem implIsSquareFree (s : ByteArray) (w : World) (hs : s.size ≤ 1048577) :
    Calls Try.prog 6 #[.string s] w fun e w' => e = .returned (.bool (freeR s 1 0)) ∧ Below w.heap.size w w' := by
  have HR : Hid (freeR s 1 0 = (wordB s && !repB s 1 0)) := rfl
  cases hw : wordB s
  · have HW := Lib.hid hw
    have HV : Hid (freeR s 1 0 = false) := by show freeR s 1 0 = false; rw [HR.out, hw]; rfl
    clear hw HR
    go_enter Try.func6, Try.ntmps6
    go_wp2_with fail
    refine (implWordOkB s _ hs).mono ?_
    rintro e w1 ⟨rfl, hb1⟩
    have HB := Lib.hid hb1
    rw [HW.out]
    clear hb1
    go_wp2_with fail
    go_ret
    exact ⟨ret_bool HV.out.symm, HB.out⟩
  · have HW := Lib.hid hw
    have HV : Hid (freeR s 1 0 = !repB s 1 0) := by show freeR s 1 0 = _; rw [HR.out, hw]; rfl
    have HP := Lib.hid (fun w => implHasPower s 2 1 0 w (word_size hw) rfl (by omega) (by omega))
    clear hw HR
    generalize repB s 1 0 = rb at HV HP
    go_enter Try.func6, Try.ntmps6
    go_wp2_with fail
    refine (implWordOkB s _ hs).mono ?_
    rintro e w1 ⟨rfl, hb1⟩
    have HB := Lib.hid hb1
    rw [HW.out]
    clear hb1
    go_wp2_with fail
    refine (HP.out _).mono ?_
    rintro e w2 ⟨rfl, hb2⟩
    have HB2 : Hid (Below w.heap.size w w2) := HB.out.trans (hb2.mono HB.out.size)
    clear hb2
    go_wp2_with fail
    go_ret
    exact ⟨ret_bool HV.out.symm, HB2.out⟩

theorem implIsCubeFree (s : ByteArray) (w : World) (hs : s.size ≤ 1048577) :
    Calls Try.prog 11 #[.string s] w fun e w' => e = .returned (.bool (freeR s 2 0)) ∧ Below w.heap.size w w' := by
  have HR : Hid (freeR s 2 0 = (wordB s && !repB s 2 0)) := rfl
  cases hw : wordB s
  · have HW := Lib.hid hw
    have HV : Hid (freeR s 2 0 = false) := by show freeR s 2 0 = false; rw [HR.out, hw]; rfl
    clear hw HR
    go_enter Try.func11, Try.ntmps11
    go_wp2_with fail
    refine (implWordOkB s _ hs).mono ?_
    rintro e w1 ⟨rfl, hb1⟩
    have HB := Lib.hid hb1
    rw [HW.out]
    clear hb1
    go_wp2_with fail
    go_ret
    exact ⟨ret_bool HV.out.symm, HB.out⟩
  · have HW := Lib.hid hw
    have HV : Hid (freeR s 2 0 = !repB s 2 0) := by show freeR s 2 0 = _; rw [HR.out, hw]; rfl
    have HP := Lib.hid (fun w => implHasPower s 3 2 0 w (word_size hw) rfl (by omega) (by omega))
    clear hw HR
    generalize repB s 2 0 = rb at HV HP
    go_enter Try.func11, Try.ntmps11
    go_wp2_with fail
    refine (implWordOkB s _ hs).mono ?_
    rintro e w1 ⟨rfl, hb1⟩
    have HB := Lib.hid hb1
    rw [HW.out]
    clear hb1
    go_wp2_with fail
    refine (HP.out _).mono ?_
    rintro e w2 ⟨rfl, hb2⟩
    have HB2 : Hid (Below w.heap.size w w2) := HB.out.trans (hb2.mono HB.out.size)
    clear hb2
    go_wp2_with fail
    go_ret
    exact ⟨ret_bool HV.out.symm, HB2.out⟩

theorem implIsOverlapFree (s : ByteArray) (w : World) (hs : s.size ≤ 1048577) :
    Calls Try.prog 10 #[.string s] w fun e w' => e = .returned (.bool (freeR s 1 1)) ∧ Below w.heap.size w w' := by
  have HR : Hid (freeR s 1 1 = (wordB s && !repB s 1 1)) := rfl
  cases hw : wordB s
  · have HW := Lib.hid hw
    have HV : Hid (freeR s 1 1 = false) := by show freeR s 1 1 = false; rw [HR.out, hw]; rfl
    clear hw HR
    go_enter Try.func10, Try.ntmps10
    go_wp2_with fail
    refine (implWordOkB s _ hs).mono ?_
    rintro e w1 ⟨rfl, hb1⟩
    have HB := Lib.hid hb1
    rw [HW.out]
    clear hb1
    go_wp2_with fail
    go_ret
    exact ⟨ret_bool HV.out.symm, HB.out⟩
  · have HW := Lib.hid hw
    have HV : Hid (freeR s 1 1 = !repB s 1 1) := by show freeR s 1 1 = _; rw [HR.out, hw]; rfl
    have HP := Lib.hid (fun w => implHasPower s 2 1 1 w (word_size hw) rfl (by omega) (by omega))
    clear hw HR
    generalize repB s 1 1 = rb at HV HP
    go_enter Try.func10, Try.ntmps10
    go_wp2_with fail
    refine (implWordOkB s _ hs).mono ?_
    rintro e w1 ⟨rfl, hb1⟩
    have HB := Lib.hid hb1
    rw [HW.out]
    clear hb1
    go_wp2_with fail
    refine (HP.out _).mono ?_
    rintro e w2 ⟨rfl, hb2⟩
    have HB2 : Hid (Below w.heap.size w w2) := HB.out.trans (hb2.mono HB.out.size)
    clear hb2
    go_wp2_with fail
    go_ret
    exact ⟨ret_bool HV.out.symm, HB2.out⟩

set_option maxHeartbeats 400000 in
theorem implLongestRun (s : ByteArray) (w : World) (hs : s.size ≤ 1048576) :
    Calls Try.prog 13 #[.string s] w fun e w' => e = .returned (.int .i64 (lrR s)) ∧ Below w.heap.size w w' := by
  cases hw : wordB s
  · have HW := Lib.hid hw
    have HV : Hid (lrR s = -1) := by show _ = _; unfold lrR; rw [hw]; rfl
    clear hw
    go_enter Try.func13, Try.ntmps13
    go_wp2_with fail
    refine (implWordOk s _ hs).mono ?_
    rintro e w1 ⟨rfl, hb⟩
    have HB := Lib.hid hb
    rw [HW.out]
    clear hb
    go_wp2_with fail
    go_ret
    exact ⟨ret_int HV.out.symm, HB.out⟩
  · have HW := Lib.hid hw
    by_cases h0 : s.size = 0
    · have HV : Hid (lrR s = 0) := by
        show lrR s = 0
        unfold lrR
        rw [hw, if_pos rfl, h0]
        rfl
      have be : s = ⟨#[]⟩ := by
        apply bytes_ext
        rw [ByteArray.toList_eq, ByteArray.toList_eq]
        exact List.eq_nil_of_length_eq_zero (by simpa using h0)
      subst be
      clear hw h0
      go_enter Try.func13, Try.ntmps13
      go_wp2_with fail
      refine (implWordOk _ _ hs).mono ?_
      rintro e w1 ⟨rfl, hb⟩
      have HB := Lib.hid hb
      rw [HW.out]
      clear hb
      go_wp2_with fail
      go_ret
      exact ⟨ret_int HV.out.symm, HB.out⟩
    · have HV : Hid (lrR s = ((1 + lpN s 1 : Nat) : Int)) := by
        show lrR s = _
        unfold lrR
        rw [hw, if_pos rfl, lr_one (by omega)]
      have be : s.toList.isEmpty = false := by
        cases hb : s.toList with
        | nil =>
          have e : s = ⟨#[]⟩ := bytes_ext (by rw [hb, ByteArray.toList_eq])
          exact absurd (by rw [e]; rfl) h0
        | cons _ _ => rfl
      have HL := Lib.hid (fun w => implLwp s 1 w (word_size hw) (by omega) (by omega))
      clear hw
      generalize 1 + lpN s 1 = m at HL HV
      go_enter Try.func13, Try.ntmps13
      go_wp2_with fail
      refine (implWordOk _ _ hs).mono ?_
      rintro e w1 ⟨rfl, hb⟩
      have HB := Lib.hid hb
      rw [HW.out]
      clear hb
      go_wp2_with fail
      refine (HL.out _).mono ?_
      rintro e w2 ⟨rfl, hb⟩
      have HB2 : Hid (Below w.heap.size w w2) := HB.out.trans (hb.mono HB.out.size)
      clear hb
      go_wp2_with fail
      go_ret
      exact ⟨ret_int HV.out.symm, HB2.out⟩
end Go.Proofs.Ythckpgfhldocdaa

/- The square at an end, in the program; FirstSquare. Conditions: lengths. -/
namespace Go.Proofs.Ythckpgfhldocdaa
open Go.RowKit

theorem half_lo {P : Program} {t : TypeId} (ht : P.underlying t = some .string) (s : ByteArray) (b : Int) (y : Nat) (w : World) (hb : b = y) (h : y ≤ s.size) :
    (Instr.slice t (.string s) none (some (.int .i64 b)) none).run P w = .ok (.string (s.extract 0 y)) w := by
  subst hb
  rw [run_slice_string_to_if (P := P) w t s .i64 (y : Int) ht, if_pos (by omega)]
  rfl
theorem half_hi {P : Program} {t : TypeId} (ht : P.underlying t = some .string) (s : ByteArray) (b : Int) (y : Nat) (w : World) (hb : b = y) (h : y ≤ s.size) :
    (Instr.slice t (.string s) (some (.int .i64 b)) none none).run P w = .ok (.string (s.extract y s.size)) w := by
  subst hb
  rw [run_slice_string_from_if (P := P) w t s .i64 (y : Int) ht, if_pos (by omega)]
  rfl

set_option maxHeartbeats 1000000 in
theorem implHalf (s : ByteArray) (w : World) (hs : s.size ≤ 400) :
    Calls Try.prog 26 #[.string s] w fun e w' => e = .returned (.int .i64 (heN s : Int)) ∧ Below w.heap.size w w' := by
  have HY := Lib.hid (fun h a b => he_at (s := s) (h := h) a b)
  have HN := Lib.hid (fun a => he_none (s := s) a)
  have HD : Hid ((s.size : Int).tdiv 2 = (s.size : Int) / 2) := Int.tdiv_eq_ediv_of_nonneg (by omega)
  generalize heN s = r at HY HN ⊢
  go_enter Try.func26, Try.ntmps26
  go_wp2_with fail
  go_loopw [10] (fun c w' => ∃ i : Nat, i ≤ s.size / 2 ∧ c = .int .i64 (i : Int) ∧ (∀ q, 1 ≤ q → q ≤ i → ¬ SqEnd s s.size q) ∧ Below w.heap.size w w') (fun c _ => s.size - (intOf c).toNat)
  case atStart => exact ⟨0, by omega, rfl, fun p a b => absurd b (by omega), Below.refl _ _⟩
  case round =>
    obtain ⟨i, hi, rfl, hno, hb⟩ := hrel
    obtain ⟨wo, rfl⟩ : ∃ y : World, y = wr := ⟨_, rfl⟩
    have HNO := Lib.hid hno
    have HB := Lib.hid hb
    clear hno hb
    by_cases hlt : i < s.size / 2
    · have hlt2 : (i : Int) < (s.size : Int).tdiv 2 := by rw [HD.out]; omega
      have hlt3 : (i : Int) < (s.size : Int) / 2 := by omega
      have hq1 : IntKind.i64.wrap ((s.size : Int) - ((i : Int) + 1)) = (s.size : Int) - ((i : Int) + 1) := IntWalk.i64_in _ (by omega)
      have hlo : ∀ w : World, (Instr.slice 45 (.string s) none (some (.int .i64 ((s.size : Int) - ((i : Int) + 1)))) none).run Try.prog w = .ok (.string (s.extract 0 (s.size - (i + 1)))) w := fun w => half_lo Try.underlying45 s _ _ w (by omega) (by omega)
      have hhi : ∀ w : World, (Instr.slice 45 (.string s) (some (.int .i64 ((s.size : Int) - ((i : Int) + 1)))) none none).run Try.prog w = .ok (.string (s.extract (s.size - (i + 1)) s.size)) w := fun w => half_hi Try.underlying45 s _ _ w (by omega) (by omega)
      have HS := Lib.hid (suffix_end (s := s) (n := i + 1) (by omega) (by omega))
      have hz : (s.extract 0 (s.size - (i + 1))).size ≤ 9223372036854775807 := by rw [ByteArray.size_extract]; omega
      have HYI := Lib.hid (fun h => HY.out (i + 1) h (fun q a b => HNO.out q a (by omega)))
      have HNI : Hid (¬ SqEnd s s.size (i + 1) → ∀ q, 1 ≤ q → q ≤ i + 1 → ¬ SqEnd s s.size q) := fun h q h1 h2 => by
        by_cases hq : q = i + 1
        · subst hq; exact h
        · exact HNO.out q h1 (by omega)
      generalize s.extract 0 (s.size - (i + 1)) = x at hlo HS hz
      generalize s.extract (s.size - (i + 1)) s.size = y at hhi HS
      have HC := Lib.hid (fun w => Try.strings_HasSuffix x y w hz)
      cases hsf : Lib.hasSuffix x.data.toList y.data.toList
      · rw [hsf] at HC
        have HNX := Lib.hid (HNI.out fun h => by have := HS.out.2 h; rw [hsf] at this; cases this)
        clear hsf
        go_wp2_with fail
        go_region
        go_wp2_with fail
        refine (HC.out _).mono ?_
        rintro e w2 ⟨rfl, rfl⟩
        go_wp2_with fail
        go_roundw
        case rel => exact ⟨i + 1, by omega, by go_num, HNX.out, below_drewN HB.out 1⟩
        case measure => simp [intOf]; omega
      · rw [hsf] at HC
        have HRB := Lib.hid (HYI.out (HS.out.1 hsf))
        clear hsf
        go_wp2_with fail
        go_region
        go_wp2_with fail
        refine (HC.out _).mono ?_
        rintro e w2 ⟨rfl, rfl⟩
        go_wp2_with fail
        go_ret
        exact ⟨ret_int (by rw [HRB.out]; go_num), below_drewN HB.out 1⟩
    · have hlt2 : ¬ (i : Int) < (s.size : Int).tdiv 2 := by rw [HD.out]; omega
      have hlt3 : ¬ (i : Int) < (s.size : Int) / 2 := by omega
      have HRB : Hid (r = 0) := HN.out fun q hq => by
        have h1 := hq.1
        have h2 := hq.2.1
        exact HNO.out q h1 (by omega) hq
      go_wp2_with fail
      go_ret
      exact ⟨ret_int (by rw [HRB.out]; rfl), HB.out⟩

set_option maxHeartbeats 1000000 in
theorem implFirstSquare (s : ByteArray) (w : World) (hs : s.size ≤ 1048576) :
    Calls Try.prog 7 #[.string s] w fun e w' => e = .returned (.tuple #[.int .i64 (fsqR1 s), .int .i64 (fsqR2 s)]) ∧ Below w.heap.size w w' := by
  cases hw : wordB s
  · have HW := Lib.hid hw
    have HV := Lib.hid (fsq_word hw)
    clear hw
    go_enter Try.func7, Try.ntmps7
    go_wp2_with fail
    refine (implWordOk s _ hs).mono ?_
    rintro e w1 ⟨rfl, hb⟩
    have HB := Lib.hid hb
    rw [HW.out]
    clear hb
    go_wp2_with fail
    go_ret2
    exact ⟨by rw [HV.out.1, HV.out.2]; rfl, HB.out⟩
  · have HW := Lib.hid hw
    have h4 := word_size hw
    have HY := Lib.hid (fun e a b c => fsq_he (s := s) (e := e) hw a b c)
    have HN := Lib.hid (fun a => fsq_no (s := s) a)
    have HH := Lib.hid (fun e w (he : e ≤ s.size) => implHalf (s.extract 0 e) w (by rw [ByteArray.size_extract]; omega))
    have HLE : Hid (∀ e, heN (s.extract 0 e) ≤ s.size) := fun e => by
      have := he_le (s.extract 0 e)
      rw [ByteArray.size_extract] at this
      omega
    have HZ : Hid (heN (s.extract 0 0) = 0) := by
      have := he_le (s.extract 0 0)
      rw [ByteArray.size_extract] at this
      show _ = _
      omega
    clear hw
    generalize fsqR1 s = r1 at HY HN ⊢
    generalize fsqR2 s = r2 at HY HN ⊢
    obtain ⟨f, hf⟩ : ∃ f : Nat → Nat, ∀ e, heN (s.extract 0 e) = f e := ⟨_, fun _ => rfl⟩
    simp only [hf] at HY HN HH HLE HZ
    clear hf
    go_enter Try.func7, Try.ntmps7
    go_wp2_with fail
    refine (implWordOk s _ hs).mono ?_
    rintro e w1 ⟨rfl, hb⟩
    have HB1 := Lib.hid hb
    rw [HW.out]
    clear hb
    go_wp2_with fail
    go_loopw [12] (fun c w' => ∃ i : Nat, i ≤ s.size ∧ c = .int .i64 (i : Int) ∧ (∀ q, q ≤ i → f q = 0) ∧ Below w.heap.size w w') (fun c _ => s.size - (intOf c).toNat)
    case atStart => exact ⟨0, by omega, rfl, fun q hq => by rw [show q = 0 by omega]; exact HZ.out, HB1.out⟩
    case round =>
      obtain ⟨i, hi, rfl, hno, hb⟩ := hrel
      obtain ⟨wo, rfl⟩ : ∃ y : World, y = wr := ⟨_, rfl⟩
      have HNO := Lib.hid hno
      have HB := Lib.hid hb
      clear hno hb
      by_cases hlt : i < s.size
      · have hlo : ∀ w : World, (Instr.slice 9 (.string s) none (some (.int .i64 ((i : Int) + 1))) none).run Try.prog w = .ok (.string (s.extract 0 (i + 1))) w := fun w => half_lo Try.underlying9 s _ _ w (by omega) (by omega)
        have HHI := Lib.hid (fun w => HH.out (i + 1) w (by omega))
        have hle := HLE.out (i + 1)
        have HYI := Lib.hid (fun h => HY.out (i + 1) (by omega) h (fun q a => HNO.out q (by omega)))
        have HNI : Hid (f (i + 1) = 0 → ∀ q, q ≤ i + 1 → f q = 0) := fun h q h1 => by
          by_cases hq : q = i + 1
          · subst hq; exact h
          · exact HNO.out q (by omega)
        generalize s.extract 0 (i + 1) = x at hlo HHI
        generalize f (i + 1) = m at HHI hle HYI HNI
        by_cases hm : 1 ≤ m
        · have HRB := Lib.hid (HYI.out hm)
          go_wp2_with fail
          refine (HHI.out _).mono ?_
          rintro e w2 ⟨rfl, hb⟩
          have HB2 : Hid (Below w.heap.size w w2) := HB.out.trans (hb.mono HB.out.size)
          clear hb
          go_wp2_with fail
          go_ret2
          exact ⟨by rw [HRB.out.1, HRB.out.2]; rfl, HB2.out⟩
        · have hm0 : m = 0 := by omega
          have HNX := Lib.hid (HNI.out hm0)
          subst hm0
          go_wp2_with fail
          refine (HHI.out _).mono ?_
          rintro e w2 ⟨rfl, hb⟩
          have HB2 : Hid (Below w.heap.size w w2) := HB.out.trans (hb.mono HB.out.size)
          clear hb
          go_wp2_with fail
          go_roundw
          case rel => exact ⟨i + 1, by omega, by go_num, HNX.out, HB2.out⟩
          case measure => simp [intOf]; omega
      · have HRB := Lib.hid (HN.out fun q hq => HNO.out q (by omega))
        go_wp2_with fail
        go_ret2
        exact ⟨by rw [HRB.out.1, HRB.out.2]; rfl, HB.out⟩
end Go.Proofs.Ythckpgfhldocdaa

/- The program's SquaresIn. Conditions: lengths. -/
namespace Go.Proofs.Ythckpgfhldocdaa
open Go.RowKit

/-! ### what is collected -/
/-- f is a square -/
def SqP (n : Nat) (f : ByteArray) : Prop := f.extract 0 n = f.extract n f.size
/-- the texts of the keys that are no longer to come and are squares -/
def Sqs (L M : List FK) (n : Nat) (xs : List ByteArray) : Prop := xs.Nodup ∧ xs.length + M.length ≤ L.length ∧ ∀ x, x ∈ xs ↔ ∃ p ∈ L, p ∉ M ∧ p.1 = x ∧ SqP n x
theorem sqs_start (L : List FK) (n : Nat) : Sqs L L n [] := ⟨List.nodup_nil, by simp, fun x => by
  constructor
  · intro h; cases h
  · rintro ⟨p, hp, hn, _⟩; exact absurd hp hn⟩
theorem sqs_yes {L M M' : List FK} {n : Nat} {xs : List ByteArray} {p : FK} (h : Sqs L M n xs) (hz : ∀ q ∈ L, q.2 = 0) (hp : p ∈ L) (hpM : p ∈ M) (hM : Dels M' M p) (hl : M'.length + 1 = M.length) (hs : SqP n p.1) : Sqs L M' n (xs ++ [p.1]) := by
  have hnew : p.1 ∉ xs := fun hx => by
    obtain ⟨q, hq, hqM, e, _⟩ := (h.2.2 _).1 hx
    have : q = p := Prod.ext e (by rw [hz q hq, hz p hp])
    subst this
    exact hqM hpM
  refine ⟨List.nodup_append.2 ⟨h.1, List.pairwise_singleton _ _, fun a ha b hb => ?_⟩, by have := h.2.1; rw [List.length_append]; show _ + 1 + _ ≤ _; omega, fun x => ?_⟩
  · rw [List.mem_singleton] at hb
    rintro rfl
    rw [hb] at ha
    exact hnew ha
  · rw [List.mem_append, h.2.2, List.mem_singleton]
    constructor
    · rintro (⟨q, hq, hn, e⟩ | e)
      · exact ⟨q, hq, fun hh => hn ((hM q).1 hh).1, e⟩
      · exact ⟨p, hp, fun hh => ((hM p).1 hh).2 rfl, e.symm, by rw [e]; exact hs⟩
    · rintro ⟨q, hq, hn, e, e2⟩
      by_cases hqp : q = p
      · subst hqp; exact .inr e.symm
      · exact .inl ⟨q, hq, fun hh => hn ((hM q).2 ⟨hh, hqp⟩), e, e2⟩
theorem sqs_no {L M M' : List FK} {n : Nat} {xs : List ByteArray} {p : FK} (h : Sqs L M n xs) (hM : Dels M' M p) (hl : M'.length + 1 = M.length) (hs : ¬ SqP n p.1) : Sqs L M' n xs := by
  refine ⟨h.1, by have := h.2.1; omega, fun x => ?_⟩
  rw [h.2.2]
  constructor
  · rintro ⟨q, hq, hn, e⟩
    exact ⟨q, hq, fun hh => hn ((hM q).1 hh).1, e⟩
  · rintro ⟨q, hq, hn, e, e2⟩
    by_cases hqp : q = p
    · subst hqp
      rw [← e] at e2
      exact absurd e2 hs
    · exact ⟨q, hq, fun hh => hn ((hM q).2 ⟨hh, hqp⟩), e, e2⟩
/-- the squares with halves of n letters -/
def SqH (s : ByteArray) (n : Nat) (xs : List ByteArray) : Prop := xs.Nodup ∧ xs.length ≤ 400 ∧ ∀ x, x ∈ xs ↔ ∃ j, PwAt s j n ∧ x = s.extract j (j + 2 * n)
theorem sq_at {s : ByteArray} {n j : Nat} (h1 : 1 ≤ n) (h : j + 2 * n ≤ s.size) : SqP n (s.extract j (j + 2 * n)) ↔ PwAt s j n := by
  have hz := pz_size s j (2 * n) h
  unfold SqP PwAt
  rw [hz, ByteArray.extract_extract, ByteArray.extract_extract, Nat.add_zero, Nat.min_eq_left (by omega), Nat.min_self]
  constructor
  · intro e; exact ⟨h1, h, e⟩
  · rintro ⟨_, _, e⟩; exact e
theorem sqs_end {s : ByteArray} {L : List FK} {n : Nat} {xs : List ByteArray} (h1 : 1 ≤ n) (h2 : 2 * n ≤ s.size) (hL : SetIs L (facS s (2 * n) (s.size + 1 - 2 * n))) (hl : L.length ≤ 400) (h : Sqs L [] n xs) : SqH s n xs := by
  refine ⟨h.1, by have := h.2.1; simp only [List.length_nil] at this; omega, fun x => ?_⟩
  rw [h.2.2]
  constructor
  · rintro ⟨p, hp, _, rfl, hs⟩
    obtain ⟨j, hj, rfl⟩ := (hL p).1 hp
    exact ⟨j, (sq_at h1 (by omega)).1 hs, rfl⟩
  · rintro ⟨j, hj, rfl⟩
    have hj2 := hj.2.1
    exact ⟨(s.extract j (j + 2 * n), 0), (hL _).2 ⟨j, by omega, rfl⟩, by simp, rfl, (sq_at h1 (by omega)).2 hj⟩
theorem facS_flat {s : ByteArray} {L : List FK} {n i : Nat} (hL : SetIs L (facS s n i)) : ∀ q ∈ L, q.2 = 0 := fun q hq => by
  obtain ⟨j, _, rfl⟩ := (hL q).1 hq
  rfl
theorem facS_sz {s : ByteArray} {L : List FK} {n i : Nat} (hL : SetIs L (facS s n i)) (hi : i + n ≤ s.size + 1) : ∀ q ∈ L, q.1.size = n := fun q hq => by
  obtain ⟨j, hj, rfl⟩ := (hL q).1 hq
  exact pz_size s j n (by omega)
/-- all squares with halves of at most i letters -/
def SqA (s : ByteArray) (i : Nat) (xs : List ByteArray) : Prop := xs.Nodup ∧ xs.length ≤ i * 400 ∧ ∀ x, x ∈ xs ↔ ∃ h j, h ≤ i ∧ PwAt s j h ∧ x = s.extract j (j + 2 * h)
theorem sqa_start (s : ByteArray) : SqA s 0 [] := ⟨List.nodup_nil, Nat.zero_le _, fun x => by
  constructor
  · intro h; cases h
  · rintro ⟨h, j, h0, h1, _⟩
    have := h1.1
    omega⟩
theorem sqa_next {s : ByteArray} {i : Nat} {xs ys : List ByteArray} (h : SqA s i xs) (k : SqH s (i + 1) ys) : SqA s (i + 1) (xs ++ ys) := by
  refine ⟨List.nodup_append.2 ⟨h.1, k.1, fun a ha b hb => ?_⟩, ?_, fun x => ?_⟩
  · rintro rfl
    obtain ⟨h1, j1, e1, p1, q1⟩ := (h.2.2 a).1 ha
    obtain ⟨j2, p2, q2⟩ := (k.2.2 a).1 hb
    have z1 := pz_size s j1 (2 * h1) p1.2.1
    have z2 := pz_size s j2 (2 * (i + 1)) p2.2.1
    rw [← q1] at z1
    rw [← q2] at z2
    omega
  · rw [List.length_append, Nat.succ_mul]
    have := h.2.1
    have := k.2.1
    omega
  · rw [List.mem_append, h.2.2, k.2.2]
    constructor
    · rintro (⟨a, j, e, p, q⟩ | ⟨j, p, q⟩)
      · exact ⟨a, j, by omega, p, q⟩
      · exact ⟨i + 1, j, Nat.le_refl _, p, q⟩
    · rintro ⟨a, j, e, p, q⟩
      by_cases ea : a = i + 1
      · subst ea; exact .inr ⟨j, p, q⟩
      · exact .inl ⟨a, j, by omega, p, q⟩
theorem sorted_nodup {m xs : List ByteArray} (hm : Asc m) (hn : xs.Nodup) (hmem : ∀ x, x ∈ xs ↔ x ∈ m) : ((xs.map (·.data.toList)).mergeSort fun x y => decide (x ≤ y)).map toBA = m := by
  have hp : ((xs.map (·.data.toList)).mergeSort fun x y => decide (x ≤ y)).Perm (xs.map (·.data.toList)) := List.mergeSort_perm _ _
  have hinj : (xs.map (·.data.toList)).Nodup := by
    refine List.Pairwise.map _ (fun a b hab => ?_) hn
    intro e
    exact hab (bytes_ext (by rw [ByteArray.toList_eq, ByteArray.toList_eq]; exact e))
  have hs : ((xs.map (·.data.toList)).mergeSort fun x y => decide (x ≤ y)).Pairwise (fun x y => decide (x ≤ y) = true) := List.pairwise_mergeSort (fun a b c h1 h2 => by
    rw [decide_eq_true_eq] at h1 h2 ⊢
    exact List.le_trans h1 h2) (fun a b => by
    rw [Bool.or_eq_true, decide_eq_true_eq, decide_eq_true_eq]
    exact List.le_total a b) _
  have hd := hp.nodup_iff.2 hinj
  generalize (xs.map (·.data.toList)).mergeSort (fun x y => decide (x ≤ y)) = zs at hp hs hd
  refine asc_ext ?_ hm fun x => ?_
  · refine List.pairwise_map.2 ((hs.and hd).imp fun {a b} h => ?_)
    exact (less_lt _ _).2 (lt_ne (of_decide_eq_true h.1) h.2)
  · rw [← hmem x, List.mem_map]
    constructor
    · rintro ⟨y, hy, rfl⟩
      obtain ⟨z, hz, rfl⟩ := List.mem_map.1 (hp.mem_iff.1 hy)
      exact hz
    · intro hx
      exact ⟨x.data.toList, hp.mem_iff.2 (List.mem_map.2 ⟨x, hx, rfl⟩), rfl⟩
/-- all of them are those of SquaresIn -/
theorem sqa_end {s : ByteArray} {xs : List ByteArray} (h : SqA s (s.size / 2) xs) : ∀ x, x ∈ xs ↔ x ∈ pwL s := fun x => by
  rw [h.2.2, pwL_mem]
  constructor
  · rintro ⟨a, j, _, p, q⟩; exact ⟨j, a, p, q⟩
  · rintro ⟨j, a, p, q⟩
    exact ⟨a, j, by have := p.2.1; omega, p, q⟩

set_option maxRecDepth 100000 in
set_option maxHeartbeats 1000000 in
theorem implWithHalf (s : ByteArray) (n : Nat) (w : World) (hs : s.size ≤ 60) (h1 : 1 ≤ n) (h2 : 2 * n ≤ s.size) :
    Calls Try.prog 23 #[.string s, .int .i64 (n : Int)] w fun e w' => ∃ A xs cp, e = .returned (.slice A xs.length cp) ∧ SqH s n xs ∧ (xs = [] → A = none ∧ cp = 0) ∧ w'.ownsRow w.heap.size 9 1 (.slice A xs.length cp) xs.length (strs xs) ∧ Below w.heap.size w w' := by
  obtain ⟨i0, hi0, hz0, hz1, hz2⟩ := info_parts str_info
  have HF := Lib.hid (fun w => implFactors s (2 * n) w (by omega) (by omega) (by omega))
  have e1 : ((2 * n : Nat) : Int) = 2 * (n : Int) := by omega
  rw [e1] at HF
  clear e1
  go_enter Try.func23, Try.ntmps23
  go_wp2_with fail
  refine (HF.out _).mono ?_
  rintro e w1 ⟨L, rfl, hF, hL, hl4, hb⟩
  have HEND := Lib.hid (fun xs => sqs_end (xs := xs) h1 h2 hL hl4)
  have HFLAT := Lib.hid (facS_flat hL)
  have HSZ := Lib.hid (facS_sz hL (by omega))
  have HFS := Lib.hid hF
  have HB1 := Lib.hid hb
  have hbw := hF.lt
  clear hF hL hb
  go_wp2_with (at_range; refine wp_range _ rfl _ tSet rfl fk_law uSet w.heap.size L _ rfl HFS.out ?_; intro w2 hF2 hg2 hs2)
  go_frame
  have HF2 := Lib.hid hF2
  have HB2 : Hid (Below w.heap.size w w2) := HB1.out.grown hg2 HB1.out.size (fun k hk => by cases hk)
  have HSS := Lib.hid (sqs_start L n)
  clear hF2 hg2
  go_loopw [5] (fun o w' => ∃ A xs cp M, o = .slice A xs.length cp ∧ FRange Try.prog fK 4 w' w.heap.size w1.heap.size L (fun _ => .bool true) M ∧ Sqs L M n xs ∧ (xs = [] → A = none ∧ cp = 0) ∧ w'.ownsRow (w1.heap.size + 1) 9 1 (.slice A xs.length cp) xs.length (strs xs) ∧ Below w.heap.size w w') (fun _ w' => w'.rangeLeft w.heap.size w1.heap.size)
  case atStart => exact ⟨none, [], 0, L, rfl, HF2.out, HSS.out, fun _ => ⟨rfl, rfl⟩, World.ownsRow_nil _ _ _ _, HB2.out⟩
  case round =>
    obtain ⟨A, xs, cp, M, rfl, hF, hS, hA, ho, hb⟩ := hrel
    have HFR := Lib.hid hF
    have HS := Lib.hid hS
    have HA := Lib.hid hA
    have HO := Lib.hid ho
    have HB := Lib.hid hb
    have hrlt := hF.lt
    clear hF hS hA ho hb HB2 HF2 HSS
    go_wp2_with (at_next; refine wp_step _ rfl _ rfl fT fk_law w.heap.size w1.heap.size L _ M rfl HFR.out (fun _ => .bool true) vv_bool ?_ ?_)
    · intro hM0
      subst hM0
      go_wp2_with fail
      go_ret
      exact ⟨A, xs, cp, rfl, HEND.out xs HS.out, HA.out, own_mono HO.out (by omega), HB.out⟩
    · intro f z M' w3 hp hM' hl' hF3 hlt hg3 hs3 hen
      have hpL := HFR.out.sub _ hp
      have hfs : f.size = 2 * n := HSZ.out _ hpL
      have hb3 : Below w.heap.size w w3 := HB.out.grown hg3 HB.out.size (fun k hk => by injection hk with hk; omega)
      have ho3 : w3.ownsRow (w1.heap.size + 1) 9 1 (.slice A xs.length cp) xs.length (strs xs) := own_apart HO.out hg3 (fun k e1 e2 => by have := (HO.out.lt k e1).1; injection e2 with e2; omega)
      have HY := Lib.hid (fun h => sqs_yes HS.out HFLAT.out hpL hp hM' hl' h)
      have HN := Lib.hid (fun h => sqs_no HS.out hM' hl' h)
      have hxl : xs.length + 1 ≤ 401 := by have := HS.out.2.1; have := List.length_pos_of_mem hp; omega
      have HF4 := Lib.hid (hF3.alloc (.cells #[.string f, .int .u8 z] 65))
      have HO4 := Lib.hid (ho3.alloc (.cells #[.string f, .int .u8 z] 65))
      have HB4 : Hid (Below w.heap.size w (w3.alloc (.cells #[.string f, .int .u8 z] 65))) := hb3.alloc hb3.size _
      have HLT4 : Hid ((w3.alloc (.cells #[.string f, .int .u8 z] 65)).rangeLeft w.heap.size w1.heap.size < wr.rangeLeft w.heap.size w1.heap.size) := by
        show _ < _
        rw [rangeLeft_kept hF3 (World.grownBy_alloc _ _ none) (by simp) (by simp)]
        exact hlt
      have HSZ4 : Hid ((w3.alloc (.cells #[.string f, .int .u8 z] 65)).heap.size = wr.heap.size + 1) := by show _ = _; simp [hs3]
      have hc1 : (w3.alloc (.cells #[.string f, .int .u8 z] 65)).cell? ⟨wr.heap.size, 0, none⟩ = some (.string f) := by rw [World.cell?_alloc_at _ _ _ _ (by simp [hs3])]; rfl
      have hlo : ∀ w : World, (Instr.slice 45 (.string f) none (some (.int .i64 (n : Int))) none).run Try.prog w = .ok (.string (f.extract 0 n)) w := fun w => half_lo Try.underlying45 f _ n w rfl (by omega)
      have hhi : ∀ w : World, (Instr.slice 45 (.string f) (some (.int .i64 (n : Int))) none none).run Try.prog w = .ok (.string (f.extract n f.size)) w := fun w => half_hi Try.underlying45 f _ n w rfl (by omega)
      clear hb3 ho3 hp hpL hM' hl' hlt hg3
      by_cases hc : f.extract 0 n = f.extract n f.size
      · have HX := Lib.hid (HY.out hc)
        have bq := eq_bytes hc
        clear hc HY HN
        generalize f.extract 0 n = x1 at hlo bq
        generalize f.extract n f.size = x2 at hhi bq
        go_wp2_with fail
        generalize w3.alloc (.cells #[.string f, .int .u8 z] 65) = w4 at HF4 HO4 HB4 HLT4 HSZ4 hc1 ⊢
        have HO5 := Lib.hid (show w4.drew.ownsRow (w1.heap.size + 1) 9 1 (.slice A xs.length cp) xs.length (strs xs) from HO4.out)
        have HF5 := Lib.hid (show FRange Try.prog fK 4 w4.drew w.heap.size w1.heap.size L (fun _ => .bool true) M' from HF4.out)
        go_region
        go_wp2_with (at_builtin
                     refine wpList_append1p w4.drew rfl (.tmp 25) (.tmp 28) _ rfl (w1.heap.size + 1) 9 i0 _ 16 Try.underlying24 hi0 hz0 hz1 hz2 rfl (.slice A xs.length cp) xs.length (strs xs) rfl HO5.out (.string f) rfl rfl (by unfold maxLen; omega) (by omega) (by have := HSZ4.out; show _ ≤ w4.heap.size; omega) ?_
                     intro v' w5 ho5 hg5 hv5)
        have ho5' : w5.ownsRow (w1.heap.size + 1) 9 1 v' (xs ++ [f]).length (strs (xs ++ [f])) := by rw [strs_snoc, List.length_append]; exact ho5
        obtain ⟨A5, cp5, rfl⟩ := own_slice ho5'
        go_roundw
        case rel =>
          refine ⟨A5, xs ++ [f], cp5, M', rfl, ?_, HX.out, fun h => absurd h (by simp), ho5', ?_⟩
          · exact FRange.kept (w := w4.drew) HF5.out hg5 (fun e => by have := (HO4.out.lt _ e).1; omega) (fun e => by have := (HO4.out.lt _ e).1; omega)
          · exact (below_drewN HB4.out 1).grown hg5 HB4.out.size (fun k hk => by have := (HO4.out.lt _ hk).1; omega)
        case measure =>
          have e1 : w5.rangeLeft w.heap.size w1.heap.size = w4.drew.rangeLeft w.heap.size w1.heap.size := rangeLeft_kept HF5.out hg5 (fun e => by have := (HO4.out.lt _ e).1; omega) (fun e => by have := (HO4.out.lt _ e).1; omega)
          rw [e1]
          exact HLT4.out
      · have HX := Lib.hid (HN.out hc)
        have bq := ne_bytes hc
        clear hc HY HN
        generalize f.extract 0 n = x1 at hlo bq
        generalize f.extract n f.size = x2 at hhi bq
        go_wp2_with fail
        generalize w3.alloc (.cells #[.string f, .int .u8 z] 65) = w4 at HF4 HO4 HB4 HLT4 HSZ4 hc1 ⊢
        go_region
        go_wp2_with fail
        go_roundw
        case rel => exact ⟨A, xs, cp, M', rfl, HF4.out, HX.out, HA.out, HO4.out, below_drewN HB4.out 1⟩
        case measure => exact HLT4.out

theorem cells_one (l : List ByteArray) : ∀ u ∈ strs l, u.oneCell' = true := fun u hu => by
  obtain ⟨x, _, rfl⟩ := List.mem_map.1 hu
  rfl

set_option maxRecDepth 100000 in
set_option maxHeartbeats 1000000 in
theorem implSquaresIn (s : ByteArray) (w : World) (hs : s.size ≤ 1048576) :
    Calls Try.prog 5 #[.string s] w fun e w' => ∃ v, e = .returned v ∧ w'.ownsRow w.heap.size 9 1 v (pwR s).length (strs (pwR s)) ∧ Below w.heap.size w w' := by
  cases hw : wordB s
  · have HW := Lib.hid hw
    have hv : pwR s = [] := by unfold pwR pwOk; rw [hw]; rfl
    rw [hv]
    clear hw hv
    go_enter Try.func5, Try.ntmps5
    go_wp2_with fail
    refine (implWordOk s _ hs).mono ?_
    rintro e w1 ⟨rfl, hb⟩
    have HB := Lib.hid hb
    rw [HW.out]
    clear hb
    go_wp2_with fail
    go_ret
    exact ⟨_, rfl, World.ownsRow_nil _ _ _ _, HB.out⟩
  have HW := Lib.hid hw
  by_cases h60 : 60 < s.size
  · have hv : pwR s = [] := by
      unfold pwR pwOk
      rw [decide_eq_false (show ¬ s.size ≤ 60 by omega), Bool.and_false]
      rfl
    rw [hv]
    have d1 : decide ((60 : Int) < (s.size : Int)) = true := by simp; omega
    clear hw hv
    go_enter Try.func5, Try.ntmps5
    go_wp2_with fail
    refine (implWordOk s _ hs).mono ?_
    rintro e w1 ⟨rfl, hb⟩
    have HB := Lib.hid hb
    rw [HW.out]
    clear hb
    go_wp2_with fail
    go_ret
    exact ⟨_, rfl, World.ownsRow_nil _ _ _ _, HB.out⟩
  obtain ⟨i0, hi0, hz0, hz1, hz2⟩ := info_parts str_info
  have d1 : decide ((60 : Int) < (s.size : Int)) = false := by simp; omega
  have hv : pwR s = pwL s := if_pos (by unfold pwOk; rw [hw, decide_eq_true (show s.size ≤ 60 by omega)]; rfl)
  have HD : Hid ((s.size : Int).tdiv 2 = (s.size : Int) / 2) := Int.tdiv_eq_ediv_of_nonneg (by omega)
  have HASC : Hid (Asc (pwL s)) := pwTo_asc s s.size
  have HEND := Lib.hid (fun xs => sqa_end (s := s) (xs := xs))
  rw [hv]
  clear hw hv
  generalize pwL s = m at HASC HEND ⊢
  go_enter Try.func5, Try.ntmps5
  go_wp2_with fail
  refine (implWordOk s _ hs).mono ?_
  rintro e w1 ⟨rfl, hb⟩
  have HB1 := Lib.hid hb
  rw [HW.out]
  clear hb
  go_wp2_with fail
  go_loopw [3, 16] (fun o c w' => ∃ i A acc cp, i ≤ s.size / 2 ∧ o = .slice A (acc : List ByteArray).length cp ∧ c = .int .i64 ((i : Nat) : Int) ∧ SqA s i acc ∧ (acc = [] → A = none ∧ cp = 0) ∧ w'.ownsRow w.heap.size 9 1 (.slice A acc.length cp) acc.length (strs acc) ∧ Below w.heap.size w w') (fun _ c _ => s.size - (intOf c).toNat)
  case atStart => exact ⟨0, none, [], 0, by omega, rfl, rfl, sqa_start s, fun _ => ⟨rfl, rfl⟩, World.ownsRow_nil _ _ _ _, HB1.out⟩
  case round =>
    obtain ⟨i, A, acc, cp, hi, rfl, rfl, hA, hn, ho, hb⟩ := hrel
    obtain ⟨wo, rfl⟩ : ∃ y : World, y = wr := ⟨_, rfl⟩
    have HA := Lib.hid hA
    have HNI := Lib.hid hn
    have HO := Lib.hid ho
    have HB := Lib.hid hb
    have hal : acc.length ≤ 12000 := by
      have h1 := hA.2.1
      have h2 : i * 400 ≤ 30 * 400 := Nat.mul_le_mul_right _ (by omega)
      omega
    clear hA hn ho hb
    by_cases hlt : i < s.size / 2
    · have hlt2 : (i : Int) < (s.size : Int).tdiv 2 := by rw [HD.out]; omega
      have hlt3 : (i : Int) < (s.size : Int) / 2 := by omega
      have HWH := Lib.hid (fun w => implWithHalf s (i + 1) w (by omega) (by omega) (by omega))
      have e1 : ((i + 1 : Nat) : Int) = (i : Int) + 1 := by omega
      rw [e1] at HWH
      clear e1
      go_wp2_with fail
      refine (HWH.out _).mono ?_
      rintro e w2 ⟨A2, xs, cp2, rfl, hq, hn2, ho2, hb2⟩
      have HA2 := Lib.hid (sqa_next HA.out hq)
      have HO1 := Lib.hid (own_below HO.out hb2)
      have HB2 : Hid (Below w.heap.size w w2) := HB.out.trans (hb2.mono HB.out.size)
      have hbs := HB2.out.size
      have hxl := hq.2.1
      by_cases hx : xs = []
      · obtain ⟨rfl, rfl⟩ := hn2 hx
        subst hx
        rw [List.append_nil] at HA2
        clear hq hn2 ho2 hb2
        go_wp2_with (at_builtin
                     refine wpList_append_own_none rfl (.tmp 19) (.tmp 23) _ rfl w.heap.size 9 i0 1 Try.underlying24 hi0 (.slice A acc.length cp) acc.length (strs acc) rfl HO1.out rfl ?_)
        go_roundw
        case rel => exact ⟨i + 1, A, acc, cp, by omega, rfl, by go_num, HA2.out, HNI.out, HO1.out, HB2.out⟩
        case measure => simp [intOf]; omega
      · obtain ⟨Ad, cc, hve, _, _, hat⟩ := Lst.of_own ho2
        replace hat := hat.resolve_left (by simp [strs, hx])
        obtain ⟨bl, off, rfl, hat⟩ := hat
        injection hve with hve hve2 hve3
        subst hve
        clear hve2 hve3
        have HAT : Hid (∀ (j : Nat) u, (strs xs)[j]? = some u → w2.cell? ((⟨bl, off, none⟩ : Addr).add j) = some u) := fun j u hu => by rw [Addr.add_lit]; exact hat j u hu
        have HNE : Hid (acc ++ xs = [] → False) := fun h => hx (List.append_eq_nil_iff.1 h).2
        clear hq hn2 ho2 hb2 hat hx
        go_wp2_with (at_builtin
                     refine wpList_append_own w2 rfl (.tmp 19) (.tmp 23) _ rfl w.heap.size 9 i0 _ 1 16 Try.underlying24 hi0 hz0 hz1 hz2 rfl (by decide) (.slice A acc.length cp) acc.length (strs acc) rfl HO1.out ⟨bl, off, none⟩ xs.length cp2 (strs xs) rfl (by rw [strs_length, Nat.mul_one]) HAT.out (cells_one xs) (by unfold maxLen; omega) (by omega) hbs ?_
                     intro v' w5 ho5 hg5 _)
        have ho5' : w5.ownsRow w.heap.size 9 1 v' (acc ++ xs).length (strs (acc ++ xs)) := by
          rw [List.length_append, strs, List.map_append]
          exact ho5
        obtain ⟨A5, cp5, rfl⟩ := own_slice ho5'
        go_roundw
        case rel => exact ⟨i + 1, A5, acc ++ xs, cp5, by omega, rfl, by go_num, HA2.out, fun h => (HNE.out h).elim, ho5', HB2.out.grown hg5 HB2.out.size (fun k hk => (HO1.out.lt _ hk).1)⟩
        case measure => simp [intOf]; omega
    · have hlt2 : ¬ (i : Int) < (s.size : Int).tdiv 2 := by rw [HD.out]; omega
      have hlt3 : ¬ (i : Int) < (s.size : Int) / 2 := by omega
      have hii : i = s.size / 2 := by omega
      have HFIN := Lib.hid (sorted_nodup HASC.out HA.out.1 (HEND.out acc (by rw [← hii]; exact HA.out)))
      clear hii
      by_cases ha : acc = []
      · obtain ⟨rfl, rfl⟩ := HNI.out ha
        subst ha
        have HM : Hid (m = []) := by
          show m = []
          rw [← HFIN.out]
          simp
        have HS := Lib.hid (fun w => Try.slices_Sort_string_none none 0 w)
        clear HFIN
        go_wp2_with fail
        refine (HS.out _).mono ?_
        rintro e w4 ⟨rfl, rfl⟩
        go_wp2_with fail
        go_ret
        exact ⟨_, rfl, by rw [HM.out]; exact World.ownsRow_nil _ _ _ _, HB.out⟩
      · obtain ⟨g, cp', he, _⟩ := own_some HO.out (List.length_pos_iff.2 ha)
        injection he with he _ he2
        subst he
        subst he2
        have hlt4 := own_lt HO.out
        have hss : (acc.map (·.data.toList)).length = acc.length := by rw [List.length_map]
        have HSORT := (Try.slices_Sort_string g 0 cp (acc.map (·.data.toList)) wo (own_holds HO.out) hlt4.2 (by omega))
        rw [hss] at HSORT
        have HS := Lib.hid HSORT
        have HHS := Lib.hid hss
        clear HSORT hss ha
        go_wp2_with fail
        refine HS.out.mono ?_
        rintro e w4 ⟨rfl, q4, os4, rfl⟩
        obtain ⟨zs, hzs⟩ : ∃ zs, (acc.map (·.data.toList)).mergeSort (fun x y => decide (x ≤ y)) = zs := ⟨_, rfl⟩
        have hzl : zs.length = acc.length := by rw [← hzs, List.length_mergeSort, HHS.out]
        rw [hzs] at HFIN ⊢
        obtain ⟨ho4, hb4⟩ := own_put HO.out zs hzl q4 os4
        obtain ⟨W4, hW4⟩ : ∃ W4, Sort.grow (Sort.putRow encStr (Sort.ahead wo q4) g 0 zs.toArray) os4 = W4 := ⟨_, rfl⟩
        rw [hW4] at ho4 hb4 ⊢
        have hlen : acc.length = m.length := by rw [← HFIN.out, List.length_map, hzl]
        rw [HFIN.out] at ho4
        have HO4 := Lib.hid ho4
        have HB4 : Hid (Below w.heap.size w W4) := HB.out.trans hb4
        have HLN := Lib.hid hlen
        clear hW4 ho4 hb4 hzs hzl hlen
        go_wp2_with fail
        go_ret
        exact ⟨_, rfl, by rw [← HLN.out]; exact HO4.out, HB4.out⟩
end Go.Proofs.Ythckpgfhldocdaa

/- The program's GreatestExponent. Conditions: lengths. -/
namespace Go.Proofs.Ythckpgfhldocdaa
open Go.RowKit

set_option maxHeartbeats 1000000 in
theorem implGreatestExponent (s : ByteArray) (w : World) (hs : s.size ≤ 1048576) :
    Calls Try.prog 8 #[.string s] w fun e w' => e = .returned (.tuple #[.int .i64 ((gexR s).1 : Int), .int .i64 ((gexR s).2 : Int)]) ∧ Below w.heap.size w w' := by
  by_cases h0 : s.size = 0
  · have HV : Hid (gexR s = (0, 0)) := by
      show gexR s = (0, 0)
      unfold gexR gexOk
      rw [decide_eq_false (by omega), Bool.false_and, Bool.and_false]
      rfl
    have be : s = ⟨#[]⟩ := by
      apply bytes_ext
      rw [ByteArray.toList_eq, ByteArray.toList_eq]
      exact List.eq_nil_of_length_eq_zero (by simpa using h0)
    rw [HV.out]
    clear HV
    subst be
    clear h0
    go_enter Try.func8, Try.ntmps8
    go_wp2_with fail
    go_ret2
    exact ⟨rfl, Below.refl _ _⟩
  have be : s.toList.isEmpty = false := by
    cases hb : s.toList with
    | nil =>
      have e : s = ⟨#[]⟩ := bytes_ext (by rw [hb, ByteArray.toList_eq])
      exact absurd (by rw [e]; rfl) h0
    | cons _ _ => rfl
  cases hw : wordB s
  · have HW := Lib.hid hw
    have hv : gexR s = (0, 0) := by unfold gexR gexOk; rw [hw]; rfl
    rw [hv]
    clear hw hv
    go_enter Try.func8, Try.ntmps8
    go_wp2_with fail
    refine (implWordOk s _ hs).mono ?_
    rintro e w1 ⟨rfl, hb⟩
    have HB := Lib.hid hb
    rw [HW.out]
    clear hb
    go_wp2_with fail
    go_ret2
    exact ⟨rfl, HB.out⟩
  · have HW := Lib.hid hw
    by_cases h60 : 60 < s.size
    · have hv : gexR s = (0, 0) := by
        unfold gexR gexOk
        rw [decide_eq_false (show ¬ s.size ≤ 60 by omega), Bool.and_false, Bool.and_false]
        rfl
      rw [hv]
      have d1 : decide ((60 : Int) < (s.size : Int)) = true := by simp; omega
      clear hw hv
      go_enter Try.func8, Try.ntmps8
      go_wp2_with fail
      refine (implWordOk s _ hs).mono ?_
      rintro e w1 ⟨rfl, hb⟩
      have HB := Lib.hid hb
      rw [HW.out]
      clear hb
      go_wp2_with fail
      go_ret2
      exact ⟨rfl, HB.out⟩
    · have hs1 : 1 ≤ s.size := by omega
      have hs60 : s.size ≤ 60 := by omega
      have HV : Hid (gexR s = gpTo s s.size) := by
        show gexR s = _
        rw [← gex_gp hs1]
        exact if_pos (by unfold gexOk; rw [hw, decide_eq_true hs1, decide_eq_true hs60]; rfl)
      have d1 : decide ((60 : Int) < (s.size : Int)) = false := by simp; omega
      have HY := Lib.hid (fun i h => gp_yes (s := s) (k := i) h)
      have HN := Lib.hid (fun i h => gp_no (s := s) (k := i) h)
      have HLE := Lib.hid (gp_le s hs1)
      have HL := Lib.hid (fun p w (h : 1 ≤ p ∧ p ≤ s.size) => implLwp s p w (word_size hw) h.1 h.2)
      have HLL := Lib.hid (lpN_le s)
      have HZ : Hid (gpTo s 0 = (1, 1)) := rfl
      rw [HV.out]
      clear hw HV
      generalize gpTo s = f at HY HN HLE HZ ⊢
      generalize lpN s = g at HY HN HL HLL
      go_enter Try.func8, Try.ntmps8
      go_wp2_with fail
      refine (implWordOk s _ hs).mono ?_
      rintro e w1 ⟨rfl, hb⟩
      have HB1 := Lib.hid hb
      rw [HW.out]
      clear hb
      go_wp2_with fail
      go_loopw [4, 5, 23] (fun av bv c w' => ∃ i : Nat, i ≤ s.size ∧ av = .int .i64 ((f i).1 : Int) ∧ bv = .int .i64 ((f i).2 : Int) ∧ c = .int .i64 (i : Int) ∧ Below w.heap.size w w') (fun _ _ c _ => s.size - (intOf c).toNat)
      case atStart => exact ⟨0, by omega, by rw [HZ.out]; rfl, by rw [HZ.out]; rfl, rfl, HB1.out⟩
      case round =>
        obtain ⟨i, hi, rfl, rfl, rfl, hb⟩ := hrel
        obtain ⟨wo, rfl⟩ : ∃ y : World, y = wr := ⟨_, rfl⟩
        have HB := Lib.hid hb
        clear hb
        by_cases hlt : i < s.size
        · have hle := HLE.out i hi
          have HYI := Lib.hid (HY.out i)
          have HNI := Lib.hid (HN.out i)
          have HLI := Lib.hid (fun w => HL.out (i + 1) w ⟨by omega, by omega⟩)
          have e1 : ((i + 1 : Nat) : Int) = (i : Int) + 1 := by omega
          have hll := HLL.out (i + 1)
          rw [e1] at HLI
          generalize g (i + 1) = m at HLI hll HYI HNI
          have hNl : i + 1 + m ≤ 60 := by omega
          generalize i + 1 + m = N at HLI HYI HNI hNl
          generalize f i = y at hle HYI HNI ⊢
          obtain ⟨a, b⟩ := y
          simp only at hle HYI HNI ⊢
          have hx1 : a * (i + 1) ≤ 3721 := mul_small (by omega) (by omega)
          have hx2 : N * b ≤ 3721 := mul_small (by omega) (by omega)
          have hm1 : (a : Int) * ((i : Int) + 1) = ((a * (i + 1) : Nat) : Int) := by rw [← e1, ← Int.natCast_mul]
          have hm2 : (N : Int) * (b : Int) = ((N * b : Nat) : Int) := by rw [← Int.natCast_mul]
          clear hll
          generalize a * (i + 1) = X at hx1 hm1 HYI HNI
          generalize N * b = Z at hx2 hm2 HYI HNI
          by_cases hgo : X < Z
          · have HF := Lib.hid (HYI.out hgo)
            go_wp2_with fail
            refine (HLI.out _).mono ?_
            rintro e w2 ⟨rfl, hb⟩
            have HB2 : Hid (Below w.heap.size w w2) := HB.out.trans (hb.mono HB.out.size)
            clear hb
            go_wp2_with fail
            go_roundw
            case rel => exact ⟨i + 1, by omega, by rw [HF.out], by rw [HF.out]; go_num, by go_num, HB2.out⟩
            case measure => simp [intOf]; omega
          · have HF := Lib.hid (HNI.out hgo)
            go_wp2_with fail
            refine (HLI.out _).mono ?_
            rintro e w2 ⟨rfl, hb⟩
            have HB2 : Hid (Below w.heap.size w w2) := HB.out.trans (hb.mono HB.out.size)
            clear hb
            go_wp2_with fail
            go_roundw
            case rel => exact ⟨i + 1, by omega, by rw [HF.out], by rw [HF.out], by go_num, HB2.out⟩
            case measure => simp [intOf]; omega
        · have HE : Hid (f i = f s.size) := by show _ = _; rw [show i = s.size by omega]
          go_wp2_with fail
          go_ret2
          exact ⟨by rw [← HE.out]; rfl, HB.out⟩
end Go.Proofs.Ythckpgfhldocdaa
