/- Texts put together. -/
import Derived.Test.YtiglikdanhfhfaaMga19
import Derived.Test.YtiglikdanhfhfaaMga15
import Derived.Test.YtiglikdanhfhfaaMga6
import Derived.Test.YtiglikdanhfhfaaMga18
import Derived.Test.YtiglikdanhfhfaaMga7
import Derived.Test.YtiglikdanhfhfaaMga1
import Derived.Test.YtiglikdanhfhfaaMga17
import Derived.Lib.SlicesCompact
import Derived.Test.YtiglikdanhfhfaaMga2
/- The mathematics of FnPalindromes, last part: what its calls return, in the form that the walk wants. No program in it. -/
namespace Go.Proofs.Ytiglikdanhfhfaa
open Go.RowKit

theorem fl_turn (s : ByteArray) : flipS s = turnS s := rfl
theorem part_word {s : ByteArray} (hw : wordB s = true) (i j : Nat) : wordB (s.extract i j) = true := by
  unfold wordB at hw ⊢
  rw [Bool.and_eq_true, decide_eq_true_eq, List.all_eq_true] at hw
  rw [Bool.and_eq_true, decide_eq_true_eq, List.all_eq_true]
  refine ⟨by rw [ByteArray.size_extract]; omega, fun c hc => hw.2 c ?_⟩
  rw [ByteArray.data_extract, Array.toList_extract, List.extract_eq_take_drop] at hc
  exact List.mem_of_mem_drop (List.mem_of_mem_take hc)
theorem turn_word {s : ByteArray} (hw : wordB s = true) : wordB (turnS s) = true := by
  unfold wordB at hw ⊢
  rw [Bool.and_eq_true, decide_eq_true_eq, List.all_eq_true] at hw ⊢
  refine ⟨by rw [turn_size]; exact hw.1, fun c hc => hw.2 c ?_⟩
  have hc : c ∈ s.data.toList.reverse := hc
  rwa [List.mem_reverse] at hc
theorem pa_ok {s : ByteArray} (hw : wordB s = true) (h : s.size ≤ 60) : ppR s = ppL s := if_pos (by unfold ppOk; rw [hw, decide_eq_true h]; rfl)
theorem pa_asc {s : ByteArray} (hw : wordB s = true) (h : s.size ≤ 60) : Asc (ppR s) := by rw [pa_ok hw h]; exact ppTo_asc _ _
theorem pa_empty {s : ByteArray} (hw : wordB s = true) (h : s.size ≤ 60) : (⟨#[]⟩ : ByteArray) ∈ ppR s := by rw [pa_ok hw h]; exact (ppL_mem _ _).2 (.inl rfl)
/-- the defect is a number, and says how many palindromes there are -/
theorem pa_def {s : ByteArray} (hw : wordB s = true) (h : s.size ≤ 60) : ∃ D : Nat, dfR s = D ∧ (ppR s).length + D = s.size + 1 ∧ dfR (flipS s) = D := by
  have hc := pp_count s
  have h1 : dfR s = (s.size : Int) + 1 - ((ppL s).length : Int) := if_pos (by unfold ppOk; rw [hw, decide_eq_true h]; rfl)
  have h2 : dfR (turnS s) = ((turnS s).size : Int) + 1 - ((ppL (turnS s)).length : Int) := if_pos (by unfold ppOk; rw [turn_word hw, turn_size, decide_eq_true h]; rfl)
  rw [turn_size, pp_turn] at h2
  rw [fl_turn, pa_ok hw h]
  refine ⟨s.size + 1 - (ppL s).length, ?_, by omega, ?_⟩
  · rw [h1]; omega
  · rw [h2]; omega
theorem pa_long {s : ByteArray} (hw : wordB s = true) : ∃ I N : Nat, lpR1 s = I ∧ lpR2 s = N ∧ I + N ≤ s.size ∧ ipR (s.extract I (I + N)) = true ∧ ∀ x ∈ ppL s, x.size ≤ N := by
  obtain ⟨⟨a, b, c⟩, _⟩ := lp_is s
  by_cases h0 : s.size = 0
  · refine ⟨0, 0, ?_, ?_, by omega, ?_, fun x hx => ?_⟩
    · unfold lpR1; rw [if_pos hw, if_pos h0]; rfl
    · unfold lpR2; rw [if_pos hw, h0, Nat.zero_sub]
    · unfold ipR
      rw [part_word hw, (palB_iff _).2 (pal_small (by rw [ByteArray.size_extract]; omega))]
      rfl
    · have := pp_longest hx
      omega
  · refine ⟨lpI s, s.size - lpD s, ?_, ?_, by omega, ?_, fun x hx => pp_longest hx⟩
    · unfold lpR1; rw [if_pos hw, if_neg h0]
    · unfold lpR2; rw [if_pos hw]
    · unfold ipR
      rw [part_word hw, (palB_iff _).2 c]
      rfl
theorem pa_mem {s x : ByteArray} (hw : wordB s = true) (h : s.size ≤ 60) (hx : x ∈ ppR s) : flipS x = x ∧ factR s x = true ∧ x.size ≤ s.size := by
  rw [pa_ok hw h] at hx
  rcases (ppL_mem s x).1 hx with rfl | ⟨j, n, h1, h2, h3, rfl⟩
  · refine ⟨rfl, ?_, Nat.zero_le _⟩
    have : (⟨#[]⟩ : ByteArray).size = 0 := rfl
    unfold factR
    rw [hw, (has_iff s _).2 ⟨0, by omega, by rw [this]; exact pl_zero (by rw [ByteArray.size_extract]; omega)⟩]
    rfl
  · have hz := pz_size s j n h2
    refine ⟨h3, ?_, by omega⟩
    unfold factR
    rw [hw, part_word hw, (has_iff s _).2 ⟨j, by omega, by rw [hz]⟩]
    rfl
/-- the closed word -/
theorem pa_close {s : ByteArray} (hw : wordB s = true) (h : s.size ≤ 60) : clR s = clS s ∧ wordB (clS s) = true ∧ ipR (clS s) = true ∧ (clS s).size ≤ 2 * s.size ∧ s.data.toList <+: (clS s).data.toList ∧ (clS s = s ↔ PalS s) ∧ ∀ k, s.size ≤ k → k < (clS s).size → flipS ((clS s).extract 0 k) ≠ (clS s).extract 0 k := by
  have hk := clK_le s
  have hz := clS_size s
  have hcw : wordB (clS s) = true := by
    unfold wordB at hw ⊢
    rw [Bool.and_eq_true, decide_eq_true_eq, List.all_eq_true] at hw ⊢
    exact ⟨by omega, fun c hc => hw.2 c (cl_mem hc)⟩
  refine ⟨if_pos (by rw [hw, hcw]; rfl), hcw, ?_, ?_, cl_start s, cl_self s, fun k h1 h2 => ?_⟩
  · unfold ipR; rw [hcw, (palB_iff _).2 (cl_pal s)]; rfl
  · omega
  · exact cl_short h1 (by omega)
/-- directed words of at most 6 letters -/
theorem pa_dir {d : ByteArray} (hw : wordB d = true) (h : d.size ≤ 6) : dwOk d = true ∧ dwR d = dwS d d.size ∧ drOk (dwS d d.size) = true ∧ drR (dwS d d.size) = d ∧ ipR (dwS d d.size) = true ∧ (dwS d d.size).size ≤ 400 ∧ ((dwS d d.size).size ≤ 60 → richR (dwS d d.size) = true) ∧ ∀ n : Int, 1 ≤ n → n ≤ 60 → cuR (dwS d d.size) n = true := by
  obtain ⟨a, b⟩ := dw_good hw (by omega)
  obtain ⟨c1, c2⟩ := dr_back hw (by omega)
  have hs := dw_small d d.size (Nat.le_refl _)
  have h2 : 2 ^ d.size ≤ 2 ^ 6 := Nat.pow_le_pow_right (by omega) h
  have hx : wordB (dwS d d.size) = true := dw_word hw (by omega)
  refine ⟨a, b, c1, c2, ?_, by omega, fun h60 => ?_, fun n h1 h6 => ?_⟩
  · unfold ipR; rw [hx, (palB_iff _).2 (dw_pal d _)]; rfl
  · have hr := rich_count (dw_rich hw d.size (6 - d.size) (Nat.le_refl _) (by omega)).2
    have h1 : dfR (dwS d d.size) = ((dwS d d.size).size : Int) + 1 - ((ppL (dwS d d.size)).length : Int) := if_pos (by unfold ppOk; rw [hx, decide_eq_true h60]; rfl)
    unfold richR
    rw [h1, hr, beq_iff_eq]
    omega
  · unfold cuR
    rw [hx, decide_eq_true h1, decide_eq_true h6, cu_pal (dw_pal d _)]
    rfl
theorem dw_cut (d : ByteArray) {m : Nat} (hm : m ≤ d.size) : ∀ i, i ≤ m → dwS (d.extract 0 m) i = dwS d i
  | 0, _ => rfl
  | i + 1, h => by
    show clS (dwS (d.extract 0 m) i ++ (d.extract 0 m).extract i (i + 1)) = clS (dwS d i ++ d.extract i (i + 1))
    have hz : (d.extract 0 m).size = m := by rw [ByteArray.size_extract]; omega
    have : (d.extract 0 m).extract i (i + 1) = d.extract i (i + 1) := by
      rw [pl_ext2 (by omega) (by omega)]
      intro j hj
      have := pz_list d 0 m (i + j) (by omega)
      rwa [Nat.zero_add, Nat.zero_add] at this
    rw [dw_cut d hm i (by omega), this]
/-- .. and with the last letter struck -/
theorem pa_less {d : ByteArray} (hw : wordB d = true) (h : d.size ≤ 6) (h1 : 1 ≤ d.size) : wordB (d.extract 0 (d.size - 1)) = true ∧ dwOk (d.extract 0 (d.size - 1)) = true ∧ ∃ y, dwR (d.extract 0 (d.size - 1)) = y ∧ y.data.toList <+: (dwS d d.size).data.toList ∧ y.size < (dwS d d.size).size := by
  have hz : (d.extract 0 (d.size - 1)).size = d.size - 1 := by rw [ByteArray.size_extract]; omega
  have hx := part_word hw 0 (d.size - 1)
  obtain ⟨a, b⟩ := dw_good hx (by omega)
  rw [hz, dw_cut d (by omega) _ (Nat.le_refl _)] at b
  refine ⟨hx, a, _, b, ?_, ?_⟩
  · have := dw_mono d (d.size - 1) 1
    rwa [Nat.sub_add_cancel h1] at this
  · have := dw_strict (d := d) (i := d.size - 1) 1 (Nat.le_refl _) (by omega)
    rwa [Nat.sub_add_cancel h1] at this
end Go.Proofs.Ytiglikdanhfhfaa

/- The program's IsPalindrome, DefectOf, IsRich, CloseWord, LongestPalindrome. Conditions: lengths of at most 2^20. -/
namespace Go.Proofs.Ytiglikdanhfhfaa
open Go.RowKit

theorem eer_upto {P : Program} {t : TypeId} (ht : P.underlying t = some .string) (s : ByteArray) (y : Nat) (w : World) (h : y ≤ s.size) :
    (Instr.slice t (.string s) none (some (.int .i64 (y : Int))) none).run P w = .ok (.string (s.extract 0 y)) w := by
  rw [run_slice_string_to_if (P := P) w t s .i64 (y : Int) ht, if_pos (by omega)]
  rfl

set_option maxRecDepth 100000 in
set_option maxHeartbeats 1000000 in
theorem implIsPalindrome (s : ByteArray) (w : World) (hs : s.size ≤ 1048576) :
    Calls Try.prog 20 #[.string s] w fun e w' => e = .returned (.bool (ipR s)) ∧ Below w.heap.size w w' := by
  cases hw : wordB s
  · have HV : Hid (ipR s = false) := by show _ = _; unfold ipR; rw [hw]; rfl
    have HW := Lib.hid hw
    clear hw
    go_enter Try.func20, Try.ntmps20
    go_wp2_with fail
    refine (implWordOk s _ hs).mono ?_
    rintro e w1 ⟨rfl, hb⟩
    have HB := Lib.hid hb
    rw [HW.out]
    clear hb
    go_wp2_with fail
    go_ret
    exact ⟨ret_bool HV.out.symm, HB.out⟩
  have HW := Lib.hid hw
  have ht : turnR s = turnS s := if_pos hw
  have HT := Lib.hid (fun w => implTurnWord s w hs)
  have HV : Hid (ipR s = palB s) := by show _ = _; unfold ipR; rw [hw, Bool.true_and]
  rw [ht] at HT
  have HP := Lib.hid (palB_iff s)
  clear hw ht
  by_cases he : turnS s = s
  · have bq := eq_bytes he
    have HE : Hid (palB s = true) := HP.out.2 he
    clear he HP
    generalize turnS s = t at HT bq
    go_enter Try.func20, Try.ntmps20
    go_wp2_with fail
    refine (implWordOk s _ hs).mono ?_
    rintro e w1 ⟨rfl, hb⟩
    have HB := Lib.hid hb
    rw [HW.out]
    clear hb
    go_wp2_with fail
    refine (HT.out _).mono ?_
    rintro e w2 ⟨rfl, hb⟩
    have HB2 : Hid (Below w.heap.size w w2) := HB.out.trans (hb.mono HB.out.size)
    clear hb
    go_wp2_with fail
    go_ret
    exact ⟨ret_bool (by rw [HV.out, HE.out]), HB2.out⟩
  · have bq := ne_bytes he
    have HE : Hid (palB s = false) := by
      show _ = _
      cases hx : palB s
      · rfl
      · exact absurd (HP.out.1 hx) he
    clear he HP
    generalize turnS s = t at HT bq
    go_enter Try.func20, Try.ntmps20
    go_wp2_with fail
    refine (implWordOk s _ hs).mono ?_
    rintro e w1 ⟨rfl, hb⟩
    have HB := Lib.hid hb
    rw [HW.out]
    clear hb
    go_wp2_with fail
    refine (HT.out _).mono ?_
    rintro e w2 ⟨rfl, hb⟩
    have HB2 : Hid (Below w.heap.size w w2) := HB.out.trans (hb.mono HB.out.size)
    clear hb
    go_wp2_with fail
    go_ret
    exact ⟨ret_bool (by rw [HV.out, HE.out]), HB2.out⟩

set_option maxRecDepth 100000 in
set_option maxHeartbeats 1000000 in
theorem implDefectOf (s : ByteArray) (w : World) (hs : s.size ≤ 1048576) :
    Calls Try.prog 15 #[.string s] w fun e w' => e = .returned (.int .i64 (dfR s)) ∧ Below w.heap.size w w' := by
  cases hw : wordB s
  · have HW := Lib.hid hw
    have HV : Hid (dfR s = -1) := by show _ = _; unfold dfR ppOk; rw [hw]; rfl
    clear hw
    go_enter Try.func15, Try.ntmps15
    go_wp2_with fail
    refine (implWordOk s _ hs).mono ?_
    rintro e w1 ⟨rfl, hb⟩
    have HB := Lib.hid hb
    rw [HW.out]
    clear hb
    go_wp2_with fail
    go_ret
    exact ⟨ret_int HV.out.symm, HB.out⟩
  have HW := Lib.hid hw
  by_cases h60 : 60 < s.size
  · have HV : Hid (dfR s = -1) := by
      show _ = _
      unfold dfR ppOk
      rw [decide_eq_false (show ¬ s.size ≤ 60 by omega), Bool.and_false]
      rfl
    have d1 : decide ((60 : Int) < (s.size : Int)) = true := by simp; omega
    clear hw
    go_enter Try.func15, Try.ntmps15
    go_wp2_with fail
    refine (implWordOk s _ hs).mono ?_
    rintro e w1 ⟨rfl, hb⟩
    have HB := Lib.hid hb
    rw [HW.out]
    clear hb
    go_wp2_with fail
    go_ret
    exact ⟨ret_int HV.out.symm, HB.out⟩
  have HV : Hid (∀ m : Nat, m = (ppL s).length → dfR s = (s.size : Int) + 1 - (m : Int)) := fun m hm => by
    subst hm
    exact if_pos (by unfold ppOk; rw [hw, decide_eq_true (show s.size ≤ 60 by omega)]; rfl)
  have d1 : decide ((60 : Int) < (s.size : Int)) = false := by simp; omega
  have HPA := Lib.hid (fun w => implPalindromes s w hw)
  clear hw
  go_enter Try.func15, Try.ntmps15
  go_wp2_with fail
  refine (implWordOk s _ hs).mono ?_
  rintro e w1 ⟨rfl, hb⟩
  have HB := Lib.hid hb
  rw [HW.out]
  clear hb
  go_wp2_with fail
  refine (HPA.out _).mono ?_
  rintro e w2 ⟨T, L, A, cp, rfl, hr⟩
  have HM := Lib.hid (eer_count hr.1)
  have hml : T.m ≤ 61 := by have := hr.2.2.2.2.1; omega
  have HB2 : Hid (Below w.heap.size w w2) := HB.out.trans (hr.2.2.2.2.2.2.2.mono HB.out.size)
  clear hr
  go_wp2_with fail
  go_ret
  exact ⟨ret_int (HV.out _ HM.out).symm, HB2.out⟩

theorem implIsRich (s : ByteArray) (w : World) (hs : s.size ≤ 1048576) :
    Calls Try.prog 19 #[.string s] w fun e w' => e = .returned (.bool (richR s)) ∧ Below w.heap.size w w' := by
  have HV : Hid (richR s = (dfR s == 0)) := rfl
  have HD := Lib.hid (fun w => implDefectOf s w hs)
  generalize dfR s = d at HV HD
  go_enter Try.func19, Try.ntmps19
  go_wp2_with fail
  refine (HD.out _).mono ?_
  rintro e w1 ⟨rfl, hb⟩
  have HB := Lib.hid hb
  clear hb
  go_wp2_with fail
  go_ret
  exact ⟨ret_bool HV.out.symm, HB.out⟩

set_option maxRecDepth 100000 in
set_option maxHeartbeats 1000000 in
theorem implCloseWord (s : ByteArray) (w : World) (hs : s.size ≤ 1048576) :
    Calls Try.prog 23 #[.string s] w fun e w' => e = .returned (.string (clR s)) ∧ Below w.heap.size w w' := by
  cases hw : wordB s
  · have HW := Lib.hid hw
    have HV : Hid (clR s = ⟨#[]⟩) := by show _ = _; unfold clR; rw [hw]; rfl
    clear hw
    go_enter Try.func23, Try.ntmps23
    go_wp2_with fail
    refine (implWordOk s _ hs).mono ?_
    rintro e w1 ⟨rfl, hb⟩
    have HB := Lib.hid hb
    rw [HW.out]
    clear hb
    go_wp2_with fail
    go_ret
    exact ⟨ret_str HV.out.symm, HB.out⟩
  have HW := Lib.hid hw
  have h4 := word_size hw
  have HR : Hid (clR s = if wordB (clS s) = true then clS s else ⟨#[]⟩) := by
    show clR s = _
    unfold clR
    rw [hw, Bool.true_and]
  have HCS : Hid (clS s = s ++ turnS (s.extract 0 (clK s))) := rfl
  have HCZ : Hid ((clS s).size ≤ 800) := by show _ ≤ _; rw [clS_size]; have := clK_le s; omega
  have hkl := clK_le s
  have HTU : Hid (∀ w, Calls Try.prog 46 #[.string (s.extract 0 (clK s))] w fun e w' => e = .returned (.string (turnS (s.extract 0 (clK s)))) ∧ Below w.heap.size w w') := fun w => by
    have := implTurnWord (s.extract 0 (clK s)) w (by rw [ByteArray.size_extract]; omega)
    rw [show turnR (s.extract 0 (clK s)) = turnS (s.extract 0 (clK s)) from if_pos (part_word hw _ _)] at this
    exact this
  have hsl : ∀ w : World, (Instr.slice 9 (.string s) none (some (.int .i64 (clK s : Int))) none).run Try.prog w = .ok (.string (s.extract 0 (clK s))) w := fun w => eer_upto Try.underlying9 s _ w hkl
  have HPA := Lib.hid (fun w => implPalindromes s w hw)
  have HCL := Lib.hid (fun (T : Eer) (L : Nat) => eer_close (s := s) (T := T) (L := L))
  have HTZ : Hid ((turnS (s.extract 0 (clK s))).size = clK s) := by show _ = _; rw [turn_size, ByteArray.size_extract]; omega
  clear hw
  have HWC := Lib.hid (fun w => implWordOk (clS s) w (by have := HCZ.out; omega))
  generalize clR s = r at HR ⊢
  generalize clS s = c at HCS HR HWC HCZ
  generalize clK s = K at *
  generalize s.extract 0 K = pr at *
  generalize turnS pr = tp at *
  have hts := HTZ.out
  have HCS2 : Hid (s ++ tp = c) := HCS.out.symm
  cases hc : wordB c
  · have HX : Hid (r = ⟨#[]⟩) := by show _ = _; rw [HR.out, hc]; rfl
    have HWC2 := Lib.hid hc
    clear hc
    go_enter Try.func23, Try.ntmps23
    go_wp2_with fail
    refine (implWordOk s _ hs).mono ?_
    rintro e w1 ⟨rfl, hb⟩
    have HB := Lib.hid hb
    rw [HW.out]
    clear hb
    go_wp2_with fail
    refine (HPA.out _).mono ?_
    rintro e w2 ⟨T, L, A, cp, rfl, hr⟩
    obtain ⟨k1, k2, k3⟩ := HCL.out T L hr.1 hr.2.1
    have hcl := hr.2.2.1.length hr.2.1.2.1.1
    have HB2 : Hid (Below w.heap.size w w2) := HB.out.trans (hr.2.2.2.2.2.2.2.mono HB.out.size)
    generalize T.lp L = P at k1 k2 k3 hcl
    have e1 : (s.size : Int) - ((P : Int) - 1) = (K : Int) := by omega
    clear hr k1
    go_wp2_with fail
    refine (HTU.out _).mono ?_
    rintro e w3 ⟨rfl, hb⟩
    have HB3 : Hid (Below w.heap.size w w3) := HB2.out.trans (hb.mono HB2.out.size)
    clear hb
    go_wp2_with fail
    rw [HCS2.out]
    refine (HWC.out _).mono ?_
    rintro e w4 ⟨rfl, hb⟩
    have HB4 : Hid (Below w.heap.size w w4) := HB3.out.trans (hb.mono HB3.out.size)
    rw [HWC2.out]
    clear hb
    go_wp2_with fail
    go_ret
    exact ⟨ret_str HX.out.symm, HB4.out⟩
  · have HX : Hid (r = c) := by show _ = _; rw [HR.out, hc]; rfl
    have HWC2 := Lib.hid hc
    clear hc
    go_enter Try.func23, Try.ntmps23
    go_wp2_with fail
    refine (implWordOk s _ hs).mono ?_
    rintro e w1 ⟨rfl, hb⟩
    have HB := Lib.hid hb
    rw [HW.out]
    clear hb
    go_wp2_with fail
    refine (HPA.out _).mono ?_
    rintro e w2 ⟨T, L, A, cp, rfl, hr⟩
    obtain ⟨k1, k2, k3⟩ := HCL.out T L hr.1 hr.2.1
    have hcl := hr.2.2.1.length hr.2.1.2.1.1
    have HB2 : Hid (Below w.heap.size w w2) := HB.out.trans (hr.2.2.2.2.2.2.2.mono HB.out.size)
    generalize T.lp L = P at k1 k2 k3 hcl
    have e1 : (s.size : Int) - ((P : Int) - 1) = (K : Int) := by omega
    clear hr k1
    go_wp2_with fail
    refine (HTU.out _).mono ?_
    rintro e w3 ⟨rfl, hb⟩
    have HB3 : Hid (Below w.heap.size w w3) := HB2.out.trans (hb.mono HB2.out.size)
    clear hb
    go_wp2_with fail
    rw [HCS2.out]
    refine (HWC.out _).mono ?_
    rintro e w4 ⟨rfl, hb⟩
    have HB4 : Hid (Below w.heap.size w w4) := HB3.out.trans (hb.mono HB3.out.size)
    rw [HWC2.out]
    clear hb
    go_wp2_with fail
    go_ret
    exact ⟨ret_str HX.out.symm, HB4.out⟩

theorem ptrs_at {w : World} {B : Nat} {T : Eer} {A : Option Addr} {cp : Nat} (h : w.ownsRow B 44 1 (.slice A T.m cp) T.m T.ptrs) (hm : 1 ≤ T.m) : ∃ g, A = some ⟨g, 0, none⟩ ∧ ∀ q, q < T.m → w.cell? ⟨g, q, none⟩ = some (.pointer (some ⟨T.bl (q + 1), 0, none⟩)) := by
  obtain ⟨g, cap, e, _⟩ := own_some h hm
  injection e with e _ _
  subst e
  refine ⟨g, rfl, fun q hq => ?_⟩
  have := World.ownsRow.cellAt h q (by omega)
  rw [this]
  unfold Eer.ptrs
  rw [List.getElem?_map, List.getElem?_range hq]
  rfl

set_option maxRecDepth 100000 in
set_option maxHeartbeats 1000000 in
theorem implLongestPalindrome (s : ByteArray) (w : World) (hs : s.size ≤ 1048576) :
    Calls Try.prog 16 #[.string s] w fun e w' => e = .returned (.tuple #[.int .i64 (lpR1 s), .int .i64 (lpR2 s)]) ∧ Below w.heap.size w w' := by
  cases hw : wordB s
  · have HW := Lib.hid hw
    have hv1 : lpR1 s = -1 := by unfold lpR1; rw [hw]; rfl
    have hv2 : lpR2 s = -1 := by unfold lpR2; rw [hw]; rfl
    rw [hv1, hv2]
    clear hw hv1 hv2
    go_enter Try.func16, Try.ntmps16
    go_wp2_with fail
    refine (implWordOk s _ hs).mono ?_
    rintro e w1 ⟨rfl, hb⟩
    have HB := Lib.hid hb
    rw [HW.out]
    clear hb
    go_wp2_with fail
    go_ret2
    exact ⟨rfl, HB.out⟩
  have HW := Lib.hid hw
  have h4 := word_size hw
  have HPA := Lib.hid (fun w => implPalindromes s w hw)
  have HEND := Lib.hid (fun (T : Eer) (a n : Nat) => best_end (T := T) (a := a) (n := n) hw)
  clear hw
  go_enter Try.func16, Try.ntmps16
  go_wp2_with fail
  refine (implWordOk s _ hs).mono ?_
  rintro e w1 ⟨rfl, hb⟩
  have HB := Lib.hid hb
  rw [HW.out]
  clear hb
  go_wp2_with fail
  refine (HPA.out _).mono ?_
  rintro e w2 ⟨T, L, A, cp, rfl, hr⟩
  have HOK := Lib.hid hr.1
  have HLI := Lib.hid hr.2.2.1
  have hm := hr.2.2.2.2.1
  obtain ⟨g, rfl, hat⟩ := ptrs_at hr.2.2.2.1 hr.1.m1
  have HAT := Lib.hid hat
  have HB2 : Hid (Below w.heap.size w w2) := HB.out.trans (hr.2.2.2.2.2.2.2.mono HB.out.size)
  have HS := Lib.hid (best_start T)
  clear hr hat
  go_wp2_with fail
  go_loopw [6, 7, 20] (fun av nv qv w' => ∃ q a n d : Nat, q ≤ T.m ∧ qv = .int .i64 (q : Int) ∧ av = .int .i64 (a : Int) ∧ nv = .int .i64 (n : Int) ∧ BestAt T q a n ∧ n ≤ s.size ∧ w' = w2.drewN d) (fun _ _ qv _ => T.m - (intOf qv).toNat)
  case atStart => exact ⟨0, 0, 0, 0, Nat.zero_le _, rfl, rfl, rfl, HS.out, Nat.zero_le _, rfl⟩
  case round =>
    obtain ⟨q, a, n, d, hq, rfl, rfl, rfl, hbe, hns, rfl⟩ := hrel
    have HBE := Lib.hid hbe
    clear hbe HS
    by_cases hlt : q < T.m
    · have hc0 := HAT.out q hlt
      have hc1 := HLI.out.start (k := q + 1) hlt
      have hc2 := HLI.out.length (k := q + 1) hlt
      have n1 := node_in HOK.out (k := q + 1) (by omega) hlt
      have HY := Lib.hid (fun h => best_yes HBE.out h)
      have HN := Lib.hid (fun h => best_no HBE.out h)
      generalize T.lp (q + 1) = P at *
      generalize T.st (q + 1) = a' at *
      by_cases hg : n + 1 < P
      · have hg2 : (n : Int) < (P : Int) - 1 := by omega
        have HX := Lib.hid (HY.out hg)
        clear HY HN
        go_wp2_with fail
        go_quiet (fail)
        go_wp2_with fail
        go_roundw
        case rel => exact ⟨q + 1, a', P - 1, _, by omega, by go_num, rfl, by go_num, HX.out, by omega, rfl⟩
        case measure => simp [intOf]; omega
      · have hg2 : ¬ (n : Int) < (P : Int) - 1 := by omega
        have HX := Lib.hid (HN.out hg)
        clear HY HN
        go_wp2_with fail
        go_roundw
        case rel => exact ⟨q + 1, a, n, _, by omega, by go_num, rfl, rfl, HX.out, hns, rfl⟩
        case measure => simp [intOf]; omega
    · have hqm : q = T.m := by omega
      subst hqm
      have HE := Lib.hid (HEND.out T a n HOK.out HBE.out)
      go_wp2_with fail
      go_ret2
      exact ⟨by rw [HE.out.1, HE.out.2]; rfl, below_drewN HB2.out d⟩
end Go.Proofs.Ytiglikdanhfhfaa

/- A list of texts, sorted and with neighbors that are equal struck out, is the ascending list of its texts, each once; a row of texts turned by the library's two. -/
namespace Go.Proofs.Ytiglikdanhfhfaa
open Go.RowKit

abbrev toBA (l : List UInt8) : ByteArray := ⟨l.toArray⟩
theorem less_lt (a b : ByteArray) : lessB a b = true ↔ a.data.toList < b.data.toList := by
  unfold lessB
  rw [bytesLess_eq, ByteArray.toList_eq, ByteArray.toList_eq, decide_eq_true_eq]
theorem lt_ne {a b : List UInt8} (h : a ≤ b) (hne : a ≠ b) : a < b := by
  rcases bl_tri a b with k | k | k
  · rwa [bytesLess_eq, decide_eq_true_eq] at k
  · exact absurd k hne
  · rw [bytesLess_eq, decide_eq_true_eq] at k
    exact absurd k (List.not_lt.2 h)
theorem cells_map (ys : List (List UInt8)) : ys.map encStr = strs (ys.map toBA) := by
  unfold strs
  rw [List.map_map]
  rfl

/-! ### the library's Compact of an ascending list -/
section
variable {d : Array (List UInt8)}
theorem cp_mem (d : Array (List UInt8)) (x : List UInt8) : ∀ m, x ∈ Lib.compactUpTo d m ↔ ∃ j, j < m ∧ d[j]! = x
  | 0 => by simp [Lib.compactUpTo]
  | m + 1 => by
    rw [Lib.compactUpTo_succ, List.mem_append, cp_mem d x m]
    by_cases hk : Lib.keeps d m = true
    · rw [if_pos hk, List.mem_singleton]
      constructor
      · rintro (⟨j, a, b⟩ | rfl)
        · exact ⟨j, by omega, b⟩
        · exact ⟨m, by omega, rfl⟩
      · rintro ⟨j, a, b⟩
        by_cases e : j = m
        · subst e; exact .inr b.symm
        · exact .inl ⟨j, by omega, b⟩
    · rw [if_neg hk]
      constructor
      · rintro (⟨j, a, b⟩ | h)
        · exact ⟨j, by omega, b⟩
        · cases h
      · rintro ⟨j, a, b⟩
        left
        by_cases e : j = m
        · subst e
          have hk' : ¬ (j = 0 ∨ d[j]! ≠ d[j - 1]!) := by simpa [Lib.keeps] using hk
          rw [not_or, Classical.not_not] at hk'
          exact ⟨j - 1, by omega, by rw [← hk'.2]; exact b⟩
        · exact ⟨j, by omega, b⟩
theorem cp_asc (hs : ∀ i j, i < j → j < d.size → d[i]! ≤ d[j]!) : ∀ m, m ≤ d.size → (Lib.compactUpTo d m).Pairwise (· < ·)
  | 0, _ => by simp [Lib.compactUpTo]
  | m + 1, hm => by
    rw [Lib.compactUpTo_succ]
    have ih := cp_asc hs m (by omega)
    by_cases hk : Lib.keeps d m = true
    · rw [if_pos hk]
      refine List.pairwise_append.2 ⟨ih, List.pairwise_singleton _ _, fun a ha b hb => ?_⟩
      rw [List.mem_singleton] at hb
      subst hb
      obtain ⟨j, hj, rfl⟩ := (cp_mem d a m).1 ha
      have hk' : m = 0 ∨ d[m]! ≠ d[m - 1]! := by simpa [Lib.keeps] using hk
      have hne := hk'.resolve_left (by omega)
      have h1 : d[m - 1]! ≤ d[m]! := hs (m - 1) m (by omega) (by omega)
      have h2 : d[m - 1]! < d[m]! := lt_ne h1 (Ne.symm hne)
      by_cases e : j = m - 1
      · rw [e]; exact h2
      · exact List.lt_of_le_of_lt (hs j (m - 1) (by omega) (by omega)) h2
    · rw [if_neg hk, List.append_nil]
      exact ih
end
theorem sort_le (ss : List (List UInt8)) : (ss.mergeSort fun x y => decide (x ≤ y)).Pairwise (· ≤ ·) := by
  have := List.pairwise_mergeSort (le := fun x y : List UInt8 => decide (x ≤ y)) (fun a b c h k => by simp only [decide_eq_true_eq] at h k ⊢; exact List.le_trans h k) (fun a b => by simp only [Bool.or_eq_true, decide_eq_true_eq]; exact List.le_total a b) ss
  simpa using this
theorem sort_mem (ss : List (List UInt8)) (x : List UInt8) : x ∈ (ss.mergeSort fun x y => decide (x ≤ y)) ↔ x ∈ ss := (List.mergeSort_perm ss _).mem_iff
/-- sorted and compacted -/
theorem sorted_eq {l m : List ByteArray} (hm : Asc m) (h : ∀ x, x ∈ l ↔ x ∈ m) : (Lib.compact ((l.map (·.data.toList)).mergeSort fun x y => decide (x ≤ y))).map toBA = m := by
  have hp := sort_le (l.map (·.data.toList))
  have hmem := sort_mem (l.map (·.data.toList))
  generalize (l.map (·.data.toList)).mergeSort (fun x y => decide (x ≤ y)) = zs at hp hmem
  have hs : ∀ i j, i < j → j < zs.toArray.size → zs.toArray[i]! ≤ zs.toArray[j]! := by
    intro i j hij hj
    have hj' : j < zs.length := by simpa using hj
    have := List.pairwise_iff_getElem.1 hp i j (by omega) hj' hij
    rw [getElem!_pos _ i (by simp; omega), getElem!_pos _ j (by simp; omega)]
    simpa using this
  have ha := cp_asc hs zs.length (by simp)
  refine asc_ext ?_ hm fun x => ?_
  · refine List.pairwise_map.2 (ha.imp fun {a b} h => ?_)
    exact (less_lt _ _).2 (by simpa using h)
  · rw [← h x, List.mem_map]
    have key : ∀ y : List UInt8, y ∈ Lib.compact zs ↔ y ∈ zs := by
      intro y
      unfold Lib.compact
      rw [cp_mem]
      constructor
      · rintro ⟨j, hj, rfl⟩
        rw [getElem!_pos _ j (by simpa using hj)]
        simp
      · intro hy
        obtain ⟨j, hj, rfl⟩ := List.mem_iff_getElem.1 hy
        exact ⟨j, hj, by rw [getElem!_pos _ j (by simpa using hj)]; simp⟩
    constructor
    · rintro ⟨y, hy, rfl⟩
      rw [key, hmem, List.mem_map] at hy
      obtain ⟨z, hz, rfl⟩ := hy
      exact hz
    · intro hx
      exact ⟨x.data.toList, by rw [key, hmem, List.mem_map]; exact ⟨x, hx, rfl⟩, rfl⟩

/-! ### a row of one's own under the library's words -/
section
variable {w : World} {B g n cap : Nat} {T : TypeId} {l : List ByteArray}
theorem own_holds (h : w.ownsRow B T 1 (.slice (some ⟨g, 0, none⟩) n cap) n (strs l)) : Sort.Holds encStr w g 0 (l.map (·.data.toList)).toArray := by
  have hl := h.1
  rw [strs_length, Nat.mul_one] at hl
  intro j hj
  have hj' : j < l.length := by simpa using hj
  refine ⟨?_, h.frozenAt _⟩
  rw [Nat.zero_add, h.cellAt j (by omega)]
  simp [strs, hj', encStr]
theorem own_lt (h : w.ownsRow B T 1 (.slice (some ⟨g, 0, none⟩) n cap) n (strs l)) : B ≤ g ∧ g < w.heap.size := h.lt g rfl
theorem own_put (h : w.ownsRow B T 1 (.slice (some ⟨g, 0, none⟩) n cap) n (strs l)) (ys : List (List UInt8)) (hy : ys.length = n) (q : Nat) (os : Array Obj) :
    (Sort.grow (Sort.putRow encStr (Sort.ahead w q) g 0 ys.toArray) os).ownsRow B T 1 (.slice (some ⟨g, 0, none⟩) n cap) n (strs (ys.map toBA)) ∧ Below B w (Sort.grow (Sort.putRow encStr (Sort.ahead w q) g 0 ys.toArray) os) := by
  have hl := own_lt h
  have hsz : (Sort.putRow encStr (Sort.ahead w q) g 0 ys.toArray).heap.size = w.heap.size := by rw [Sort.size_putRow]; rfl
  have hold : ∀ k, k < w.heap.size → (Sort.grow (Sort.putRow encStr (Sort.ahead w q) g 0 ys.toArray) os).heap[k]? = (w.heap.modify g (Sort.onCells (Sort.putCells encStr 0 ys.toArray)))[k]? := by
    intro k hk
    show (_ ++ os)[k]? = _
    rw [Array.getElem?_append_left (by rw [hsz]; exact hk)]
    rfl
  refine ⟨⟨by rw [strs_length, List.length_map]; omega, ?_⟩, ⟨rfl, rfl, rfl, ?_, fun k hk => ?_⟩⟩
  · rcases h.2 with ⟨h', _⟩ | ⟨g', cap', cur, h', hb, hg, h1, h2, h3, h4⟩
    · simp at h'
    · injection h' with ha hn hc
      injection ha with ha
      injection ha with ha
      subst ha; subst hc
      refine .inr ⟨g, cap, Sort.putCells encStr 0 ys.toArray cur, rfl, hb, ?_, h1, h2, ?_, ?_⟩
      · rw [hold g hl.2, Array.getElem?_modify, if_pos rfl, hg]
        rfl
      · simp [Sort.putCells, h3]
      · apply List.ext_getElem?
        intro i
        rw [← cells_map, List.getElem?_take]
        split
        · next hi =>
          have hi' : i < ys.length := by omega
          have hic : i < cur.size := by omega
          simp [Sort.putCells, hi', hic]
        · next hi =>
          rw [List.getElem?_eq_none (by simp; omega)]
  · show w.heap.size ≤ (_ ++ os).size
    rw [Array.size_append, hsz]; omega
  · rw [hold k (by omega), Array.getElem?_modify, if_neg (by omega)]
theorem own_less {m : Nat} {xs : List Value} (h : w.ownsRow B T 1 (.slice (some ⟨g, 0, none⟩) n cap) n xs) (hm : m ≤ n) : w.ownsRow B T 1 (.slice (some ⟨g, 0, none⟩) m cap) m (xs.take m) := by
  have hl := h.1
  rcases h.2 with ⟨h', _⟩ | ⟨g', cap', cur, h', hb, hg, h1, h2, h3, h4⟩
  · simp at h'
  · injection h' with ha hn hc
    injection ha with ha
    injection ha with ha
    subst ha; subst hc
    refine ⟨by rw [List.length_take]; omega, .inr ⟨g, cap, cur, rfl, hb, hg, by omega, h2, h3, ?_⟩⟩
    rw [← h4, List.take_take]
    congr 1
    omega
end
end Go.Proofs.Ytiglikdanhfhfaa

/- The program's PalindromesIn. Condition: a text of at most 2^20 bytes. -/
namespace Go.Proofs.Ytiglikdanhfhfaa
open Go.RowKit

theorem eer_sorted {m xs : List ByteArray} (hm : Asc m) (hn : xs.Nodup) (hmem : ∀ x, x ∈ xs ↔ x ∈ m) : ((xs.map (·.data.toList)).mergeSort fun x y => decide (x ≤ y)).map toBA = m := by
  have hp : ((xs.map (·.data.toList)).mergeSort fun x y => decide (x ≤ y)).Perm (xs.map (·.data.toList)) := List.mergeSort_perm _ _
  have hinj : (xs.map (·.data.toList)).Nodup := by
    refine List.Pairwise.map _ (fun a b hab => ?_) hn
    intro e
    exact hab (bytes_ext (by rw [ByteArray.toList_eq, ByteArray.toList_eq]; exact e))
  have hs : ((xs.map (·.data.toList)).mergeSort fun x y => decide (x ≤ y)).Pairwise (fun x y => decide (x ≤ y) = true) := List.pairwise_mergeSort (fun a b c h1 h2 => by
    rw [decide_eq_true_eq] at h1 h2 ⊢
    exact List.le_trans h1 h2) (fun a b => by
    rw [Bool.or_eq_true, decide_eq_true_eq, decide_eq_true_eq]
    exact List.le_total a b) _
  have hd := hp.nodup_iff.2 hinj
  generalize (xs.map (·.data.toList)).mergeSort (fun x y => decide (x ≤ y)) = zs at hp hs hd
  refine asc_ext ?_ hm fun x => ?_
  · refine List.pairwise_map.2 ((hs.and hd).imp fun {a b} h => ?_)
    exact (less_lt _ _).2 (lt_ne (of_decide_eq_true h.1) h.2)
  · rw [← hmem x, List.mem_map]
    constructor
    · rintro ⟨y, hy, rfl⟩
      obtain ⟨z, hz, rfl⟩ := List.mem_map.1 (hp.mem_iff.1 hy)
      exact hz
    · intro hx
      exact ⟨x.data.toList, hp.mem_iff.2 (List.mem_map.2 ⟨x, hx, rfl⟩), rfl⟩

/-- the first k texts of xs, then what lay there -/
theorem strs_set (xs : List ByteArray) (zs : List Value) (k : Nat) (hk : k < xs.length) (hz : zs.length = xs.length) : (strs (xs.take k) ++ zs.drop k).set k (.string xs[k]) = strs (xs.take (k + 1)) ++ zs.drop (k + 1) := by
  have hl : (strs (xs.take k)).length = k := by rw [strs_length, List.length_take]; omega
  rw [List.set_append_right _ _ (by omega), hl, Nat.sub_self, List.take_succ_eq_append_getElem hk, strs_snoc, List.append_assoc]
  congr 1
  rw [List.drop_eq_getElem_cons (by omega : k < zs.length), List.set_cons_zero]
  rfl
theorem eer_at {T : Eer} {s : ByteArray} {n k : Nat} (h2 : k < (T.strs s n).length) : (T.strs s n)[k] = T.str s (k + 1) := by
  simp [Eer.strs]

set_option maxRecDepth 100000 in
set_option maxHeartbeats 1000000 in
theorem implPalindromesIn (s : ByteArray) (w : World) (hs : s.size ≤ 1048576) :
    Calls Try.prog 14 #[.string s] w fun e w' => ∃ v, e = .returned v ∧ w'.ownsRow w.heap.size 9 1 v (ppR s).length (strs (ppR s)) ∧ Below w.heap.size w w' := by
  cases hw : wordB s
  · have HW := Lib.hid hw
    have hv : ppR s = [] := by unfold ppR ppOk; rw [hw]; rfl
    rw [hv]
    clear hw hv
    go_enter Try.func14, Try.ntmps14
    go_wp2_with fail
    refine (implWordOk s _ hs).mono ?_
    rintro e w1 ⟨rfl, hb⟩
    have HB := Lib.hid hb
    rw [HW.out]
    clear hb
    go_wp2_with fail
    go_ret
    exact ⟨_, rfl, World.ownsRow_nil _ _ _ _, HB.out⟩
  have HW := Lib.hid hw
  by_cases h60 : 60 < s.size
  · have hv : ppR s = [] := by
      unfold ppR ppOk
      rw [decide_eq_false (show ¬ s.size ≤ 60 by omega), Bool.and_false]
      rfl
    rw [hv]
    have d1 : decide ((60 : Int) < (s.size : Int)) = true := by simp; omega
    clear hw hv
    go_enter Try.func14, Try.ntmps14
    go_wp2_with fail
    refine (implWordOk s _ hs).mono ?_
    rintro e w1 ⟨rfl, hb⟩
    have HB := Lib.hid hb
    rw [HW.out]
    clear hb
    go_wp2_with fail
    go_ret
    exact ⟨_, rfl, World.ownsRow_nil _ _ _ _, HB.out⟩
  obtain ⟨i0, hi0, hz0, hz1, hz2⟩ := info_parts str_info
  have d1 : decide ((60 : Int) < (s.size : Int)) = false := by simp; omega
  have hv : ppR s = ppL s := pa_ok hw (by omega)
  have HASC : Hid (Asc (ppL s)) := ppTo_asc s s.size
  have HMEM := Lib.hid (fun (T : Eer) => strs_mem (s := s) (T := T))
  have HPA := Lib.hid (fun w => implPalindromes s w hw)
  rw [hv]
  clear hw hv
  generalize ppL s = m at HASC HMEM ⊢
  go_enter Try.func14, Try.ntmps14
  go_wp2_with fail
  refine (implWordOk s _ hs).mono ?_
  rintro e w1 ⟨rfl, hb⟩
  have HB := Lib.hid hb
  rw [HW.out]
  clear hb
  go_wp2_with fail
  refine (HPA.out _).mono ?_
  rintro e w2 ⟨T, L, A, cp, rfl, hr⟩
  have HOK := Lib.hid hr.1
  have HLI := Lib.hid hr.2.2.1
  have hm := hr.2.2.2.2.1
  have hm1 := hr.1.m1
  obtain ⟨g, rfl, hat⟩ := ptrs_at hr.2.2.2.1 hr.1.m1
  have HAT := Lib.hid hat
  have HG : Hid (g < w2.heap.size) := (hr.2.2.2.1.lt g rfl).2
  have HB2 : Hid (Below w.heap.size w w2) := HB.out.trans (hr.2.2.2.2.2.2.2.mono HB.out.size)
  have HASC2 := Lib.hid (eer_sorted HASC.out (strs_nodup hr.1) (HMEM.out T hr.1))
  have HSL := Lib.hid (strs_len T s T.m)
  have HSA := Lib.hid (fun k (h2 : k < (T.strs s T.m).length) => eer_at (T := T) (s := s) h2)
  clear hr hat
  go_wp2_with (at_make; refine wpList_make_full _ rfl _ _ 24 rfl w2.heap.size 9 i0 (.string ⟨#[]⟩) 1 Try.underlying24 hi0 hz0 hz1 .i64 .i64 _ _ T.m rfl rfl rfl rfl (by rw [hz2]; omega) (by unfold maxLen; omega) (Nat.le_refl _) ?_; intro w3 hown hgrow)
  have hlz : (madeCells (Value.string ⟨#[]⟩).cells (T.m * 1)).toList.length = T.m := by have := hown.1; omega
  generalize (madeCells (Value.string ⟨#[]⟩).cells (T.m * 1)).toList = zs at hown hlz
  have HB3 : Hid (Below w2.heap.size w2 w3) := (Below.refl _ _).grown hgrow (Nat.le_refl _) (fun k hk => by cases hk)
  have HZ : Hid (zs.length = (T.strs s T.m).length) := by show _ = _; rw [HSL.out]; exact hlz
  have HOW := Lib.hid hown
  clear hown hgrow hlz
  generalize T.strs s T.m = xs at HASC2 HSL HSA HZ
  go_loopw [26] (fun qv w' => ∃ q : Nat, q ≤ T.m ∧ qv = .int .i64 (q : Int) ∧ w'.ownsRow w2.heap.size 9 1 (.slice (some ⟨w2.heap.size, 0, none⟩) T.m T.m) T.m (strs (xs.take q) ++ zs.drop q) ∧ Below w2.heap.size w2 w') (fun qv _ => T.m - (intOf qv).toNat)
  case atStart => exact ⟨0, Nat.zero_le _, rfl, by simpa [strs] using HOW.out, HB3.out⟩
  case round =>
    obtain ⟨q, hq, rfl, ho, hb⟩ := hrel
    have HO := Lib.hid ho
    have HBR := Lib.hid hb
    clear ho hb HOW HB3
    by_cases hlt : q < T.m
    · have hc0 := (HBR.out.cell (p := ⟨g, q, none⟩) HG.out).trans (HAT.out q hlt)
      have n1 := node_in HOK.out (k := q + 1) (by omega) hlt
      have HIN := Lib.hid (implIn s T (q + 1) w1.heap.size wr hs (HLI.out.below HBR.out) hlt n1.2.1 n1.2.2)
      have hqx : q < xs.length := by have := HSL.out; omega
      have HX : Hid (s.extract (T.st (q + 1)) (T.st (q + 1) + (T.lp (q + 1) - 1)) = xs[q]'hqx) := (HSA.out q hqx).symm
      have hfr := HO.out.frozenAt q
      obtain ⟨u, hu⟩ : ∃ u, (strs (xs.take q) ++ zs.drop q)[q]? = some u := by
        refine ⟨_, List.getElem?_eq_getElem ?_⟩
        have := HO.out.1
        omega
      have hcu := (HO.out.cellAt q (by omega)).trans hu
      have HSET := Lib.hid (strs_set xs zs q hqx HZ.out)
      clear hu n1
      go_wp2_with fail
      refine HIN.out.mono ?_
      rintro e w4 ⟨rfl, d, rfl⟩
      rw [HX.out]
      go_wp2_with fail
      go_roundw
      case rel =>
        refine ⟨q + 1, by omega, by go_num, ?_, (below_drewN HBR.out d).setCell (Nat.le_refl _) _⟩
        have := (World.ownsRow.stored (w := wr.drewN d) HO.out q (.string (xs[q]'hqx))).1
        rw [HSET.out] at this
        exact this
      case measure => simp [intOf]; omega
    · have hqm : q = T.m := by omega
      subst hqm
      have ho' : wr.ownsRow w2.heap.size 9 1 (.slice (some ⟨w2.heap.size, 0, none⟩) T.m T.m) T.m (strs xs) := by
        have := HO.out
        have h1 := HSL.out
        have h2 := HZ.out
        rwa [List.take_of_length_le (by omega), List.drop_eq_nil_of_le (by omega), List.append_nil] at this
      have HO2 := Lib.hid ho'
      have hss : (xs.map (·.data.toList)).length = T.m := by rw [List.length_map]; exact HSL.out
      have HSORT := (Try.slices_Sort_string w2.heap.size 0 T.m (xs.map (·.data.toList)) wr (own_holds ho') (own_lt ho').2 (by omega))
      rw [hss] at HSORT
      have HS := Lib.hid HSORT
      have HHS := Lib.hid hss
      have HBW : Hid (Below w.heap.size w wr) := HB2.out.trans (HBR.out.mono HB2.out.size)
      clear HSORT hss ho'
      go_wp2_with fail
      refine HS.out.mono ?_
      rintro e w4 ⟨rfl, q4, os4, rfl⟩
      obtain ⟨ys, hys⟩ : ∃ ys, (xs.map (·.data.toList)).mergeSort (fun x y => decide (x ≤ y)) = ys := ⟨_, rfl⟩
      have hyl : ys.length = T.m := by rw [← hys, List.length_mergeSort, HHS.out]
      have HF := HASC2.out
      rw [hys] at HF ⊢
      obtain ⟨ho4, hb4⟩ := own_put HO2.out ys hyl q4 os4
      obtain ⟨W4, hW4⟩ : ∃ W4, Sort.grow (Sort.putRow encStr (Sort.ahead wr q4) w2.heap.size 0 ys.toArray) os4 = W4 := ⟨_, rfl⟩
      rw [hW4] at ho4 hb4 ⊢
      have hlen : T.m = m.length := by rw [← HF, List.length_map, hyl]
      rw [HF] at ho4
      have HO4 := Lib.hid ho4
      have HB4 : Hid (Below w.heap.size w W4) := HBW.out.trans (hb4.mono HB2.out.size)
      have HLN := Lib.hid hlen
      clear hW4 ho4 hb4 hys hyl hlen HF
      go_wp2_with fail
      go_ret
      exact ⟨_, rfl, by rw [← HLN.out]; exact own_mono HO4.out HB2.out.size, HB4.out⟩
end Go.Proofs.Ytiglikdanhfhfaa
