/- l04Letter and LengthAfter of the model. Conditions: lengths of at most 2^20. -/
import Derived.Test.YtgidfainoijcmaaLetP
import Derived.Test.YtgidfainoijcmaaCountM
namespace Go.Proofs.Ytgidfainoijcmaa
open Go.RowKit

set_option maxHeartbeats 400000 in
theorem specLetter (A : Option Addr) (l : List ByteArray) (cp : Nat) (t : ByteArray) (w : World) (_ : l.length ≤ 1048576) (_ : t.size ≤ 1048576) :
    Calls Try.prog 80 #[.agg #[.slice A l.length cp], .string t] w fun e w' => e = .returned (.int .i64 (letR l t)) ∧ Below w.heap.size w w' := by
  have hb0 : Below w.heap.size w (w.alloc (.cells #[.slice A l.length cp] 25)) := (Below.refl _ _).alloc (Nat.le_refl _) _
  have HB0 := Lib.hid hb0
  clear hb0
  by_cases h1 : t.size = 1
  · have b1 : ((t.size : Int) != 1) = false := by rw [h1]; rfl
    by_cases h2 : wordB t = true
    · obtain ⟨h3, h4⟩ := letN_at h1 h2
      have h97 : 97 ≤ (t[0]'(by omega)).toNat := by omega
      have q1 : ((t[0]'(by omega)).toNat : Int) - 97 = (letN t : Int) := by omega
      by_cases h5 : letN t < l.length
      · have HV : Hid (letR l t = (letN t : Int)) := by
          show letR l t = _
          unfold letR letOk
          rw [decide_eq_true h1, h2, decide_eq_true h5]
          rfl
        have d5 : decide ((l.length : Int) ≤ (letN t : Int)) = false := by simp; omega
        go_enter Try.func80, Try.ntmps80
        go_wp2_with fail
        refine (specWordOk t _).mono ?_
        rintro e w' ⟨rfl, rfl⟩
        go_wp2_with fail
        go_ret
        exact ⟨ret_int (by rw [HV.out]; omega), HB0.out⟩
      · have HV : Hid (letR l t = -1) := by
          show letR l t = _
          unfold letR letOk
          rw [decide_eq_false h5, Bool.and_false]
          rfl
        have d5 : decide ((l.length : Int) ≤ (letN t : Int)) = true := by simp; omega
        go_enter Try.func80, Try.ntmps80
        go_wp2_with fail
        refine (specWordOk t _).mono ?_
        rintro e w' ⟨rfl, rfl⟩
        go_wp2_with fail
        go_ret
        exact ⟨ret_int HV.out.symm, HB0.out⟩
    · have h2' : wordB t = false := by simpa using h2
      have HV : Hid (letR l t = -1) := by
        show letR l t = _
        unfold letR letOk
        rw [h2', Bool.and_false, Bool.false_and]
        rfl
      clear h2
      go_enter Try.func80, Try.ntmps80
      go_wp2_with fail
      refine (specWordOk t _).mono ?_
      rintro e w' ⟨rfl, rfl⟩
      go_wp2_with fail
      go_ret
      exact ⟨ret_int HV.out.symm, HB0.out⟩
  · have b1 : ((t.size : Int) != 1) = true := by rw [bne_iff_ne]; omega
    have HV : Hid (letR l t = -1) := by
      show letR l t = _
      unfold letR letOk
      rw [decide_eq_false h1, Bool.false_and, Bool.false_and]
      rfl
    clear h1
    go_enter Try.func80, Try.ntmps80
    go_wp2_with fail
    go_ret
    exact ⟨ret_int HV.out.symm, HB0.out⟩

set_option maxHeartbeats 1000000 in
set_option maxRecDepth 100000 in
theorem specLengthAfter (l : List ByteArray) (v : Value) (t : ByteArray) (n : Int) (w : World) (h : Lst w v (strs l)) (hz : ∀ x ∈ l, x.size ≤ 1048576) (hn : l.length ≤ 1048576) (ht : t.size ≤ 1048576) :
    Calls Try.prog 39 #[.agg #[v], .string t, .int .i64 n] w fun e w' => e = .returned (.int .i64 (lenR l t n)) ∧ Below w.heap.size w w' := by
  obtain ⟨i0, hi0, hz0, hz1, hz2⟩ := info_parts int_info
  obtain ⟨A, cp, rfl⟩ := lst_slice h
  rw [strs_length] at h ⊢
  have hb0 : Below w.heap.size w (w.alloc (.cells #[.slice A l.length cp] 25)) := (Below.refl _ _).alloc (Nat.le_refl _) _
  have HL := Lib.hid (h.below hb0)
  have HZ := Lib.hid hz
  have HB0 := Lib.hid hb0
  clear h hz hb0
  by_cases h0 : letOk l t = true
  · have hr : letR l t = (letN t : Int) := if_pos h0
    have hN : letN t < l.length := by
      unfold letOk at h0
      rw [Bool.and_eq_true] at h0
      simpa using h0.2
    by_cases h1 : substB l = true
    · obtain ⟨hl1, hl4, _⟩ := subst_parts h1
      have HV : Hid (lenR l t n = if caOk l (unitC l.length (letN t)) n = true then isum (caR l (unitC l.length (letN t)) n) l.length else -1) := by show lenR l t n = _; unfold lenR; rw [h0, h1]; rfl
      clear h0
      go_enter Try.func39, Try.ntmps39
      go_wp2_with fail
      refine (specLetter A l cp t _ hn ht).mono ?_
      rintro e w1 ⟨rfl, hb1⟩
      rw [hr]
      have HB1 : Hid (Below w.heap.size w w1) := HB0.out.trans (hb1.mono (by simp))
      have c1 : w1.cell? ⟨w.heap.size, 0, none⟩ = some (.slice A l.length cp) := (hb1.cell (p := ⟨w.heap.size, 0, none⟩) (by simp)).trans (by go_simp)
      have hz1w : w.heap.size < w1.heap.size := by have := hb1.size; simp at this; omega
      have HL1 := Lib.hid (HL.out.below hb1)
      have d0 : decide ((letN t : Int) < 0) = false := by simp
      clear hb1 hr
      go_wp2_with fail
      refine (specSubstOk l _ _ HL1.out HZ.out hn).mono ?_
      rintro e w2 ⟨rfl, hb2⟩
      have HB2 : Hid (Below w.heap.size w w2) := HB1.out.trans (hb2.mono HB1.out.size)
      have c2 : w2.cell? ⟨w.heap.size, 0, none⟩ = some (.slice A l.length cp) := (hb2.cell (p := ⟨w.heap.size, 0, none⟩) hz1w).trans c1
      have hz2w : w.heap.size < w2.heap.size := by have := hb2.size; omega
      have HL2 := Lib.hid (HL1.out.below hb2)
      clear hb2 c1
      go_wp2_with (at_make
                   refine wpList_make_full _ rfl _ _ 30 rfl w2.heap.size 3 i0 (.int .i64 0) 1 Try.underlying30 hi0 hz0 hz1 .i64 .i64 _ _ l.length rfl rfl rfl rfl (by rw [hz2]; omega) (by unfold maxLen; omega) (Nat.le_refl _) ?_
                   intro w3 hown hgrow
                   have HB3 : Hid (Below w2.heap.size w2 w3) := (Below.refl _ _).grown hgrow (Nat.le_refl _) (fun k hk => by cases hk)
                   have e0 : ((madeCells (Value.int .i64 0).cells (l.length * 1)).toList) = ints (List.replicate l.length 0) := by
                     rw [Nat.mul_one]
                     exact (toList_madeCells_one _ _).trans (by simp [ints])
                   rw [e0] at hown
                   have g3 : w3.cell? ⟨w2.heap.size, letN t, none⟩ = some (.int .i64 0) := (hown.cellAt (letN t) (by omega)).trans (by simp [ints, hN])
                   have f3 : w3.frozen? ⟨w2.heap.size, letN t, none⟩ = false := hown.frozenAt (letN t)
                   have c3 : w3.cell? ⟨w.heap.size, 0, none⟩ = some (.slice A l.length cp) := (HB3.out.cell (p := ⟨w.heap.size, 0, none⟩) hz2w).trans c2
                   have hne3 : w.heap.size ≠ w2.heap.size := by omega
                   have HOWN : Hid ((w3.setCell ⟨w2.heap.size, letN t, none⟩ (.int .i64 1)).ownsRow w2.heap.size 3 1 (.slice (some ⟨w2.heap.size, 0, none⟩) l.length l.length) l.length (ints (unitC l.length (letN t)))) := by
                     have := (hown.stored (letN t) (.int .i64 1)).1
                     have e1 : (ints (List.replicate l.length 0)).set (letN t) (.int .i64 1) = ints (unitC l.length (letN t)) := by
                       unfold ints unitC
                       rw [List.map_set]
                     rw [e1] at this
                     exact this
                   clear hown hgrow c2 e0)
      have HBS : Hid (Below w2.heap.size w2 (w3.setCell ⟨w2.heap.size, letN t, none⟩ (.int .i64 1))) := HB3.out.setCell (Nat.le_refl _) _
      refine (specCountAfter l _ (unitC l.length (letN t)) _ n _ (HL2.out.below HBS.out) HZ.out hn (Lst.of_own HOWN.out) (by rw [unitC_length]; exact hn)).mono ?_
      rintro e w4 ⟨v4, rfl, ho4, hb4⟩
      have HB4 : Hid (Below w.heap.size w w4) := (HB2.out.trans (HBS.out.mono HB2.out.size)).trans (hb4.mono (by have a := HB2.out.size; have b := HBS.out.size; omega))
      obtain ⟨A4, cp4, rfl⟩ := own_slice ho4
      by_cases hok : caOk l (unitC l.length (letN t)) n = true
      · obtain ⟨hlen, hsm⟩ := caR_small hok
        rw [hlen] at ho4 ⊢
        obtain ⟨g4, cc4, he4, _⟩ := own_some ho4 (by omega)
        injection he4 with hA4 _ hc4
        subst hA4; subst hc4
        have HSM := Lib.hid hsm
        have HIB := Lib.hid (isum_bound hsm)
        have HLEN := Lib.hid hlen
        have HO4 := Lib.hid ho4
        have HV2 : Hid (lenR l t n = isum (caR l (unitC l.length (letN t)) n) l.length) := by show lenR l t n = _; rw [HV.out, if_pos hok]
        generalize caR l (unitC l.length (letN t)) n = cs at HSM HIB HLEN HO4 HV2 ⊢
        rw [hok]
        clear ho4 hb4 hlen hsm hok
        go_wp2_with fail
        go_loop [11, 42] (fun s i => ∃ k : Nat, k ≤ l.length ∧ i = .int .i64 k ∧ s = .int .i64 (isum cs k)) (fun _ i => l.length - (intOf i).toNat)
        case atStart => exact ⟨0, by omega, rfl, rfl⟩
        case round =>
          obtain ⟨k, hk, rfl, rfl⟩ := hrel
          obtain ⟨t1, t2⟩ := HIB.out k hk
          by_cases hlt : k < l.length
          · have g3' := own_ints_at HO4.out HLEN.out k hlt
            obtain ⟨s1, s2⟩ := HSM.out k hlt
            simp only [List.getD_eq_getElem?_getD] at s1 s2 g3'
            go_wp2_with fail
            go_round
            case rel => exact ⟨k + 1, by omega, by go_num, rfl⟩
            case measure => simp [intOf]; omega
          · have hkl : k = l.length := by omega
            have HV3 : Hid (isum cs k = lenR l t n) := by show isum cs k = _; rw [HV2.out, hkl]
            clear hkl
            go_wp2_with fail
            go_ret
            exact ⟨ret_int HV3.out, HB4.out⟩
      · have hok' : caOk l (unitC l.length (letN t)) n = false := by simpa only [Bool.not_eq_true] using hok
        have HV2 : Hid (lenR l t n = -1) := by show lenR l t n = _; rw [HV.out, if_neg hok]
        rw [hok']
        clear ho4 hb4 hok hok'
        go_wp2_with fail
        go_ret
        exact ⟨ret_int HV2.out.symm, HB4.out⟩
    · have h1' : substB l = false := by simpa using h1
      have HV : Hid (lenR l t n = -1) := by show lenR l t n = _; unfold lenR; rw [h1', Bool.and_false]; rfl
      have d0 : decide ((letN t : Int) < 0) = false := by simp
      clear h0 h1
      go_enter Try.func39, Try.ntmps39
      go_wp2_with fail
      refine (specLetter A l cp t _ hn ht).mono ?_
      rintro e w1 ⟨rfl, hb1⟩
      rw [hr]
      have HB1 : Hid (Below w.heap.size w w1) := HB0.out.trans (hb1.mono (by simp))
      have c1 : w1.cell? ⟨w.heap.size, 0, none⟩ = some (.slice A l.length cp) := (hb1.cell (p := ⟨w.heap.size, 0, none⟩) (by simp)).trans (by go_simp)
      have HL1 := Lib.hid (HL.out.below hb1)
      clear hb1 hr
      go_wp2_with fail
      refine (specSubstOk l _ _ HL1.out HZ.out hn).mono ?_
      rintro e w2 ⟨rfl, hb2⟩
      have HB2 : Hid (Below w.heap.size w w2) := HB1.out.trans (hb2.mono HB1.out.size)
      clear hb2 c1
      go_wp2_with fail
      go_ret
      exact ⟨ret_int HV.out.symm, HB2.out⟩
  · have hr : letR l t = -1 := if_neg h0
    have HV : Hid (lenR l t n = -1) := by show lenR l t n = _; unfold lenR; rw [show letOk l t = false by simpa using h0]; rfl
    clear h0
    go_enter Try.func39, Try.ntmps39
    go_wp2_with fail
    refine (specLetter A l cp t _ hn ht).mono ?_
    rintro e w1 ⟨rfl, hb1⟩
    rw [hr]
    have HB1 : Hid (Below w.heap.size w w1) := HB0.out.trans (hb1.mono (by simp))
    clear hb1 hr
    go_wp2_with fail
    go_ret
    exact ⟨ret_int HV.out.symm, HB1.out⟩
end Go.Proofs.Ytgidfainoijcmaa
