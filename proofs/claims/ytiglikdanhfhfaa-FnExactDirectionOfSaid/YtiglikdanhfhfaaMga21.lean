/- Texts put together. -/
import Derived.Test.YtiglikdanhfhfaaMga14
import Derived.Test.YtiglikdanhfhfaaMga13
import Derived.Test.YtiglikdanhfhfaaMga15
import Derived.Test.YtiglikdanhfhfaaMga11
/- Chapter 9 of the model: LongestPalindrome, l08Close, CloseWord. Conditions: lengths of at most 2^20. -/
namespace Go.Proofs.Ytiglikdanhfhfaa
open Go.RowKit Go.Lib

set_option maxHeartbeats 1000000 in
theorem specLongestPalindrome (s : ByteArray) (w : World) (_ : s.size ≤ 1048576) :
    Calls Try.prog 35 #[.string s] w fun e w' => e = .returned (.tuple #[.int .i64 (lpR1 s), .int .i64 (lpR2 s)]) ∧ Below w.heap.size w w' := by
  cases hw : wordB s
  · have HW := Lib.hid hw
    have hv1 : lpR1 s = -1 := by unfold lpR1; rw [hw]; rfl
    have hv2 : lpR2 s = -1 := by unfold lpR2; rw [hw]; rfl
    rw [hv1, hv2]
    clear hw hv1 hv2
    go_enter Try.func35, Try.ntmps35
    go_wp2_with fail
    refine (specWordOk s _).mono ?_
    rintro e w' ⟨rfl, rfl⟩
    rw [HW.out]
    go_wp2_with fail
    go_ret2
    exact ⟨rfl, Below.refl _ _⟩
  have HW := Lib.hid hw
  have h4 := word_size hw
  have HY : Hid (∀ d i, 1 ≤ s.size → LpAt s d i → (∀ d', d' < d → ∀ i', ¬ LpAt s d' i') → (∀ i', i' < i → ¬ LpAt s d i') → lpR1 s = (i : Int) ∧ lpR2 s = ((s.size - d : Nat) : Int)) := fun d i h0 h1 h2 h3 => by
    obtain ⟨e1, e2⟩ := lp_found h1 h2 h3
    unfold lpR1 lpR2
    rw [if_pos hw, if_pos hw, if_neg (by omega), e1, e2]
    exact ⟨rfl, rfl⟩
  have H0 : Hid ((∀ d', d' < s.size → ∀ i', ¬ LpAt s d' i') → lpR1 s = 0 ∧ lpR2 s = 0) := fun h => by
    have h0 : s.size = 0 := by
      by_cases e : s.size = 0
      · exact e
      · exact absurd ⟨Nat.zero_le _, by omega, pal_small (by rw [ByteArray.size_extract]; omega)⟩ (h (s.size - 1) (by omega) 0)
    unfold lpR1 lpR2
    rw [if_pos hw, if_pos hw, if_pos h0, h0, Nat.zero_sub]
    exact ⟨rfl, rfl⟩
  have HIS := Lib.hid (fun i n w (h : i + n ≤ s.size) => specIs (s.extract i (i + n)) w (by rw [ByteArray.size_extract]; omega))
  clear hw
  generalize lpR1 s = r1 at HY H0 ⊢
  generalize lpR2 s = r2 at HY H0 ⊢
  go_enter Try.func35, Try.ntmps35
  go_wp2_with fail
  refine (specWordOk s _).mono ?_
  rintro e w' ⟨rfl, rfl⟩
  rw [HW.out]
  go_wp2_with fail
  go_loopw [4] (fun nv w' => ∃ n : Nat, n ≤ s.size ∧ nv = .int .i64 (n : Int) ∧ (∀ d', d' < s.size - n → ∀ i', ¬ LpAt s d' i') ∧ Below w.heap.size w w') (fun nv _ => (intOf nv).toNat)
  case atStart => exact ⟨s.size, Nat.le_refl _, rfl, fun d' h => absurd h (by omega), Below.refl _ _⟩
  case round =>
    obtain ⟨n, hn, rfl, hno, hb⟩ := hrel
    obtain ⟨wo, rfl⟩ : ∃ y : World, y = wr := ⟨_, rfl⟩
    have HNO := Lib.hid hno
    have HB := Lib.hid hb
    clear hno hb
    by_cases h0 : 0 < n
    · have hc0 : 0 < (n : Int) := by omega
      go_wp2_with fail
      go_loopw [5] (fun iv w' => ∃ i : Nat, i ≤ s.size - n + 1 ∧ iv = .int .i64 (i : Int) ∧ (∀ i', i' < i → ¬ LpAt s (s.size - n) i') ∧ Below w.heap.size w w') (fun iv _ => s.size + 1 - (intOf iv).toNat)
      case atStart => exact ⟨0, by omega, rfl, fun i' h => absurd h (by omega), HB.out⟩
      case round =>
        obtain ⟨i, hi, rfl, hni, hb⟩ := hrel
        obtain ⟨wj, rfl⟩ : ∃ y : World, y = wr := ⟨_, rfl⟩
        have HNI := Lib.hid hni
        have HBI := Lib.hid hb
        clear hni hb
        by_cases hle : i + n ≤ s.size
        · have hsl : ∀ w : World, (Instr.slice 9 (.string s) (some (.int .i64 (i : Int))) (some (.int .i64 ((i : Int) + (n : Int)))) none).run Try.prog w = .ok (.string (s.extract i (i + n))) w := fun w => slice_gen Try.underlying9 s _ _ i (i + n) w rfl (by omega) (by omega) (by omega)
          have HC := Lib.hid (fun w => HIS.out i n w hle)
          have HAT : Hid (palB (s.extract i (i + n)) = true ↔ LpAt s (s.size - n) i) := by
            show _ ↔ _
            rw [palB_iff]
            unfold LpAt
            rw [Nat.sub_sub_self hn]
            exact ⟨fun h => ⟨by omega, by omega, h⟩, fun h => h.2.2⟩
          cases hp : palB (s.extract i (i + n))
          · have HNX : Hid (∀ i', i' < i + 1 → ¬ LpAt s (s.size - n) i') := fun i' h hh => by
              by_cases e : i' = i
              · subst e
                rw [HAT.out.2 hh] at hp
                cases hp
              · exact HNI.out i' (by omega) hh
            rw [hp] at HC
            clear hp HAT
            generalize s.extract i (i + n) = x at hsl HC
            go_wp2_with fail
            refine (HC.out _).mono ?_
            rintro e w2 ⟨rfl, hb⟩
            have HB2 : Hid (Below w.heap.size w w2) := HBI.out.trans (hb.mono HBI.out.size)
            clear hb
            go_wp2_with fail
            go_roundw
            case rel => exact ⟨i + 1, by omega, by go_num, HNX.out, HB2.out⟩
            case measure => simp [intOf]; omega
          · have HRB := Lib.hid (HY.out (s.size - n) i (by omega) (HAT.out.1 hp) HNO.out HNI.out)
            rw [hp] at HC
            rw [Nat.sub_sub_self hn] at HRB
            clear hp HAT
            generalize s.extract i (i + n) = x at hsl HC
            go_wp2_with fail
            refine (HC.out _).mono ?_
            rintro e w2 ⟨rfl, hb⟩
            have HB2 : Hid (Below w.heap.size w w2) := HBI.out.trans (hb.mono HBI.out.size)
            clear hb
            go_wp2_with fail
            go_ret2
            exact ⟨by rw [HRB.out.1, HRB.out.2]; rfl, HB2.out⟩
        · have HNX : Hid (∀ d', d' < s.size - (n - 1) → ∀ i', ¬ LpAt s d' i') := fun d' h i' hh => by
            by_cases e : d' = s.size - n
            · subst e
              exact HNI.out i' (by have := hh.1; omega) hh
            · exact HNO.out d' (by omega) i' hh
          go_wp2_with fail
          go_roundw
          case rel => exact ⟨n - 1, by omega, by refine congrArg _ ?_; omega, HNX.out, HBI.out⟩
          case measure => simp [intOf]; omega
    · have hn0 : n = 0 := by omega
      subst hn0
      have HRB := Lib.hid (H0.out HNO.out)
      go_wp2_with fail
      go_ret2
      exact ⟨by rw [HRB.out.1, HRB.out.2]; rfl, HB.out⟩

set_option maxHeartbeats 1000000 in
theorem specClose (s : ByteArray) (w : World) (hs : s.size ≤ 100000) :
    Calls Try.prog 54 #[.string s] w fun e w' => e = .returned (.string (clS s)) ∧ Below w.heap.size w w' := by
  have HV : Hid (∀ k, k ≤ s.size → PalS (s.extract k s.size) → (∀ j, j < k → ¬ PalS (s.extract j s.size)) → clS s = s ++ turnS (s.extract 0 k)) := fun k h1 h2 h3 => by
    unfold clS
    rw [clK_eq h1 h2 h3]
  have HEND : Hid (palB (s.extract s.size s.size) = true) := (palB_iff _).2 (cl_end s)
  have HIS := Lib.hid (fun k w (h : k ≤ s.size) => specIs (s.extract k s.size) w (by rw [ByteArray.size_extract]; omega))
  have HTU := Lib.hid (fun k w (h : k ≤ s.size) => specTurn (s.extract 0 k) w (by rw [ByteArray.size_extract]; omega))
  generalize clS s = r at HV ⊢
  go_enter Try.func54, Try.ntmps54
  go_wp2_with fail
  go_loopw [3] (fun kv w' => ∃ k : Nat, k ≤ s.size ∧ kv = .int .i64 (k : Int) ∧ (∀ j, j < k → ¬ PalS (s.extract j s.size)) ∧ Below w.heap.size w w') (fun kv _ => s.size - (intOf kv).toNat)
  case atStart => exact ⟨0, Nat.zero_le _, rfl, fun j h => absurd h (by omega), Below.refl _ _⟩
  case round =>
    obtain ⟨k, hk, rfl, hno, hb⟩ := hrel
    obtain ⟨wo, rfl⟩ : ∃ y : World, y = wr := ⟨_, rfl⟩
    have HNO := Lib.hid hno
    have HB := Lib.hid hb
    clear hno hb
    have hhi : ∀ w : World, (Instr.slice 9 (.string s) (some (.int .i64 (k : Int))) none none).run Try.prog w = .ok (.string (s.extract k s.size)) w := fun w => by
      rw [run_slice_string_from_if (P := Try.prog) w 9 s .i64 (k : Int) Try.underlying9, if_pos (by omega)]
      rfl
    have HC := Lib.hid (fun w => HIS.out k w hk)
    have HPI := Lib.hid (palB_iff (s.extract k s.size))
    cases hp : palB (s.extract k s.size)
    · have hks : k ≠ s.size := fun e => by subst e; rw [HEND.out] at hp; cases hp
      have HNX : Hid (∀ j, j < k + 1 → ¬ PalS (s.extract j s.size)) := fun j h hh => by
        by_cases e : j = k
        · subst e
          rw [HPI.out.2 hh] at hp
          cases hp
        · exact HNO.out j (by omega) hh
      rw [hp] at HC
      clear hp HPI
      generalize s.extract k s.size = x at hhi HC
      go_wp2_with fail
      refine (HC.out _).mono ?_
      rintro e w2 ⟨rfl, hb⟩
      have HB2 : Hid (Below w.heap.size w w2) := HB.out.trans (hb.mono HB.out.size)
      clear hb
      go_wp2_with fail
      go_roundw
      case rel => exact ⟨k + 1, by omega, by go_num, HNX.out, HB2.out⟩
      case measure => simp [intOf]; omega
    · have HR := Lib.hid (HV.out k hk (HPI.out.1 hp) HNO.out)
      have hlo : ∀ w : World, (Instr.slice 9 (.string s) none (some (.int .i64 (k : Int))) none).run Try.prog w = .ok (.string (s.extract 0 k)) w := fun w => by
        rw [run_slice_string_to_if (P := Try.prog) w 9 s .i64 (k : Int) Try.underlying9, if_pos (by omega)]
        rfl
      have HT := Lib.hid (fun w => HTU.out k w hk)
      have htz : (turnS (s.extract 0 k)).size ≤ 100000 := by rw [turn_size, ByteArray.size_extract]; omega
      rw [hp] at HC
      clear hp HPI
      generalize s.extract k s.size = x at hhi HC
      generalize s.extract 0 k = y at hlo HT HR htz
      generalize turnS y = z at HT HR htz
      go_wp2_with fail
      refine (HC.out _).mono ?_
      rintro e w2 ⟨rfl, hb⟩
      have HB2 : Hid (Below w.heap.size w w2) := HB.out.trans (hb.mono HB.out.size)
      clear hb
      go_wp2_with fail
      refine (HT.out _).mono ?_
      rintro e w3 ⟨rfl, hb⟩
      have HB3 : Hid (Below w.heap.size w w3) := HB2.out.trans (hb.mono HB2.out.size)
      clear hb
      go_wp2_with fail
      go_ret
      exact ⟨ret_str HR.out.symm, HB3.out⟩

set_option maxHeartbeats 400000 in
theorem specCloseWord (s : ByteArray) (w : World) (_ : s.size ≤ 1048576) :
    Calls Try.prog 36 #[.string s] w fun e w' => e = .returned (.string (clR s)) ∧ Below w.heap.size w w' := by
  cases hw : wordB s
  · have HW := Lib.hid hw
    have hv : clR s = ⟨#[]⟩ := by unfold clR; rw [hw]; rfl
    rw [hv]
    clear hw hv
    go_enter Try.func36, Try.ntmps36
    go_wp2_with fail
    refine (specWordOk s _).mono ?_
    rintro e w' ⟨rfl, rfl⟩
    rw [HW.out]
    go_wp2_with fail
    go_ret
    exact ⟨rfl, Below.refl _ _⟩
  have HW := Lib.hid hw
  have h4 := word_size hw
  have HC := Lib.hid (fun w => specClose s w (by omega))
  have HR : Hid (clR s = if wordB (clS s) = true then clS s else ⟨#[]⟩) := by
    show clR s = _
    unfold clR
    rw [hw, Bool.true_and]
  clear hw
  generalize clR s = r at HR ⊢
  generalize clS s = c at HC HR
  cases hc : wordB c
  · have HX : Hid (r = ⟨#[]⟩) := by show _ = _; rw [HR.out, hc]; rfl
    have HWC := Lib.hid hc
    clear hc
    go_enter Try.func36, Try.ntmps36
    go_wp2_with fail
    refine (specWordOk s _).mono ?_
    rintro e w' ⟨rfl, rfl⟩
    rw [HW.out]
    go_wp2_with fail
    refine (HC.out _).mono ?_
    rintro e w2 ⟨rfl, hb⟩
    have HB := Lib.hid hb
    clear hb
    go_wp2_with fail
    refine (specWordOk c _).mono ?_
    rintro e w' ⟨rfl, rfl⟩
    rw [HWC.out]
    go_wp2_with fail
    go_ret
    exact ⟨ret_str HX.out.symm, HB.out⟩
  · have HX : Hid (r = c) := by show _ = _; rw [HR.out, hc, if_pos rfl]
    have HWC := Lib.hid hc
    clear hc
    go_enter Try.func36, Try.ntmps36
    go_wp2_with fail
    refine (specWordOk s _).mono ?_
    rintro e w' ⟨rfl, rfl⟩
    rw [HW.out]
    go_wp2_with fail
    refine (HC.out _).mono ?_
    rintro e w2 ⟨rfl, hb⟩
    have HB := Lib.hid hb
    clear hb
    go_wp2_with fail
    refine (specWordOk c _).mono ?_
    rintro e w' ⟨rfl, rfl⟩
    rw [HWC.out]
    go_wp2_with fail
    refine (HC.out _).mono ?_
    rintro e w3 ⟨rfl, hb⟩
    have HB3 : Hid (Below w.heap.size w w3) := HB.out.trans (hb.mono HB.out.size)
    clear hb
    go_wp2_with fail
    go_ret
    exact ⟨ret_str HX.out.symm, HB3.out⟩
end Go.Proofs.Ytiglikdanhfhfaa

/- FixedFactors of the model. Conditions: lengths of at most 2^20. -/
namespace Go.Proofs.Ytiglikdanhfhfaa
open Go.RowKit

theorem insL_length : ∀ (l : List ByteArray) (x : ByteArray), (insL l x).length ≤ l.length + 1
  | [], x => by simp [insL]
  | a :: l, x => by
    have := insL_length l x
    unfold insL
    split
    · simp
    · split
      · simp; omega
      · simp
theorem facTo_length (s : ByteArray) (n : Nat) : ∀ i, (facTo s n i).length ≤ i
  | 0 => Nat.le_refl _
  | i + 1 => by
    have := facTo_length s n i
    have := insL_length (facTo s n i) (s.extract i (i + n))
    show (insL _ _).length ≤ i + 1
    omega
set_option maxHeartbeats 1000000 in
theorem specFactors (s : ByteArray) (n : Nat) (w : World) (hs : s.size ≤ 400) (h1 : 1 ≤ n) (h8 : n ≤ 1000) :
    Calls Try.prog 56 #[.string s, .int .i64 n] w fun e w' => ∃ v, e = .returned v ∧ w'.ownsRow w.heap.size 9 1 v (facTo s n (s.size + 1 - n)).length (strs (facTo s n (s.size + 1 - n))) ∧ Below w.heap.size w w' := by
  go_enter Try.func56, Try.ntmps56
  go_wp2
  go_loopw [5, 6] (fun o ix w' => ∃ (i g cp : Nat), i ≤ s.size + 1 - n ∧ ix = .int .i64 i ∧ o = .slice (some ⟨g, 0, none⟩) (facTo s n i).length cp ∧ w'.ownsRow w.heap.size 9 1 o (facTo s n i).length (strs (facTo s n i)) ∧ Below w.heap.size w w') (fun _ ix _ => s.size + 1 - (intOf ix).toNat)
  case atStart => exact ⟨0, w.heap.size, 0, by omega, rfl, rfl, own_made0 _ _ _ (Nat.le_refl _), (Below.refl _ _).alloc (Nat.le_refl _) _⟩
  case round =>
    obtain ⟨i, g, cp, hi, rfl, rfl, ho, hb⟩ := hrel
    have HO := Lib.hid ho
    have HB := Lib.hid hb
    have HAS := Lib.hid (facTo_asc s n i)
    have HLE := Lib.hid (facTo_length s n i)
    have HS : Hid (facTo s n (i + 1) = insL (facTo s n i) (s.extract i (i + n))) := rfl
    clear ho hb
    by_cases hlt : i + n ≤ s.size
    · have hsl : ∀ w : World, (Instr.slice 9 (.string s) (some (.int .i64 (i : Int))) (some (.int .i64 ((i : Int) + (n : Int)))) none).run Try.prog w = .ok (.string (s.extract i (i + n))) w := fun w => slice_at Try.underlying9 s i n w hlt
      have HCALL := Lib.hid (fun wx h hz => specInsert (facTo s n i) g cp (s.extract i (i + n)) wx w.heap.size h HAS.out (by have := HLE.out; omega) hz)
      generalize facTo s n i = m at HO HS HCALL ⊢
      go_wp2_with fail
      refine (HCALL.out _ HO.out HB.out.size).mono ?_
      rintro e w2 ⟨g2, cp2, rfl, ho2, hb2⟩
      have HO2 := Lib.hid ho2
      have HB2 : Hid (Below w.heap.size w w2) := HB.out.trans (hb2.mono HB.out.size)
      clear ho2 hb2
      go_wp2_with fail
      go_roundw
      case rel => exact ⟨i + 1, g2, cp2, by omega, by go_num, by rw [HS.out], by rw [HS.out]; exact HO2.out, HB2.out⟩
      case measure => simp [intOf]; omega
    · have he : i = s.size + 1 - n := by omega
      have HE := Lib.hid he
      clear he
      go_wp2_with fail
      go_ret
      refine ⟨_, rfl, ?_, HB.out⟩
      rw [← HE.out]
      exact HO.out
theorem facR_le (l : List ByteArray) (t : ByteArray) (n : Int) : (facR l t n).length ≤ 401 := by
  unfold facR
  split
  · exact Nat.le_trans (facTo_length _ _ _) (by omega)
  · exact Nat.zero_le _
end Go.Proofs.Ytiglikdanhfhfaa

/- Chapter 7 of the model: FactorsOf, ComplexityOf, AllFactors, FollowersOf, LeadersOf. Conditions: lengths of at most 2^20. -/
namespace Go.Proofs.Ytiglikdanhfhfaa
open Go.RowKit

theorem fctL_length (s : ByteArray) (n : Nat) : (fctL s n).length ≤ s.size + 1 - n := facTo_length _ _ _
theorem fctR_le (s : ByteArray) (n : Int) : (fctR s n).length ≤ 400 := by
  unfold fctR
  split
  · rename_i h
    unfold fctOk at h
    simp only [Bool.and_eq_true, decide_eq_true_eq] at h
    have h1 := word_size h.1
    have h2 := fctL_length s n.toNat
    omega
  · simp

theorem allTo_le (s : ByteArray) (h : s.size ≤ 60) : ∀ k, allTo s k ≤ 60 * k
  | 0 => Nat.le_refl _
  | k + 1 => by
    have := allTo_le s h k
    have := fctL_length s (k + 1)
    unfold allTo
    omega
end Go.Proofs.Ytiglikdanhfhfaa

/- Chapter 7 of the model: FollowersOf, LeadersOf, RightSpecial, LeftSpecial. Conditions: lengths of at most 2^20. -/
namespace Go.Proofs.Ytiglikdanhfhfaa
open Go.RowKit

theorem one_size (k : Nat) : (⟨#[letterN k]⟩ : ByteArray).size = 1 := rfl
theorem exL_size (f : ByteArray) (b : Bool) (k : Nat) : (exL f b k).size = f.size + 1 := by
  unfold exL
  split
  · rw [ByteArray.size_append, one_size]; omega
  · rw [ByteArray.size_append, one_size]
theorem nxtS_out (s f : ByteArray) (b : Bool) : nxtS s f b = outS (fun k => hasR s (exL f b k)) 4 := rfl
theorem nxtS_size (s f : ByteArray) (b : Bool) : (nxtS s f b).size ≤ 4 := outS_size _ _

end Go.Proofs.Ytiglikdanhfhfaa
