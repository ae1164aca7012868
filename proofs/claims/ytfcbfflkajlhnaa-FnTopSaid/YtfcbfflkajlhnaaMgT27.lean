/- Texts put together. -/
import Derived.Test.YtfcbfflkajlhnaaMgT24
import Derived.Test.YtfcbfflkajlhnaaMgT18
import Derived.Test.YtfcbfflkajlhnaaMgT4
import Derived.Test.YtfcbfflkajlhnaaMgT26
import Derived.Deep.DeepCutAuto
import Derived.Deep.RegionHeld3
import Derived.Test.YtfcbfflkajlhnaaMgT16
/- hasLetter of the program. Conditions: lengths of at most 2^20. -/
namespace Go.Proofs.Ytfcbfflkajlhnaa
open Go.RowKit

theorem letter_list {t : ByteArray} (h1 : t.size = 1) (h2 : wordB t = true) : ∃ c : UInt8, t.data.toList = [c] ∧ c.toNat = 97 + letN t ∧ letN t ≤ 3 := by
  obtain ⟨a, b⟩ := letN_at h1 h2
  have hl : t.data.toList.length = 1 := by simpa using h1
  obtain ⟨c, hc⟩ := List.length_eq_one_iff.1 hl
  refine ⟨c, hc, ?_, b⟩
  have e : letN t = c.toNat - 97 := by
    unfold letN
    rw [hc]
    rfl
  have e2 : t[0]'(by omega) = c := by
    have : t.data.toList[0]'(by omega) = c := by simp [hc]
    rw [Array.getElem_toList] at this
    exact this
  rw [e2] at a
  exact a
theorem within_letter {t : ByteArray} (h1 : t.size = 1) (h2 : wordB t = true) (n : Nat) : withinB n t = decide (letN t < n) := by
  obtain ⟨c, hc, h3, h4⟩ := letter_list h1 h2
  unfold withinB
  rw [hc]
  simp only [List.all_cons, List.all_nil, Bool.and_true]
  rw [h3]
  by_cases h : letN t < n
  · rw [decide_eq_true h, decide_eq_true (by omega)]
  · rw [decide_eq_false h, decide_eq_false (by omega)]
theorem letter_counts {t : ByteArray} (h1 : t.size = 1) (h2 : wordB t = true) (n : Nat) (hn : n ≤ 4) (hl : letN t < n) : (countsR t).take n = unitC n (letN t) := by
  obtain ⟨c, hc, h3, h4⟩ := letter_list h1 h2
  have hcr : countsR t = [(cnt t.data.toList 97 : Int), (cnt t.data.toList 98 : Int), (cnt t.data.toList 99 : Int), (cnt t.data.toList 100 : Int)] := if_pos h2
  have hcc : c = 97 ∨ c = 98 ∨ c = 99 ∨ c = 100 := by
    rcases four_cases (show letN t < 4 by omega) with e | e | e | e <;> rw [e] at h3
    · exact .inl (UInt8.toNat_inj.1 h3)
    · exact .inr (.inl (UInt8.toNat_inj.1 h3))
    · exact .inr (.inr (.inl (UInt8.toNat_inj.1 h3)))
    · exact .inr (.inr (.inr (UInt8.toNat_inj.1 h3)))
  rw [hcr, hc]
  unfold cnt unitC
  rcases hcc with rfl | rfl | rfl | rfl
  · have : letN t = 0 := by have : (97 : UInt8).toNat = 97 := rfl; omega
    rw [this]
    rcases (by omega : n = 1 ∨ n = 2 ∨ n = 3 ∨ n = 4) with rfl | rfl | rfl | rfl <;> rfl
  · have : letN t = 1 := by have : (98 : UInt8).toNat = 98 := rfl; omega
    rw [this] at hl ⊢
    rcases (by omega : n = 2 ∨ n = 3 ∨ n = 4) with rfl | rfl | rfl <;> rfl
  · have : letN t = 2 := by have : (99 : UInt8).toNat = 99 := rfl; omega
    rw [this] at hl ⊢
    rcases (by omega : n = 3 ∨ n = 4) with rfl | rfl <;> rfl
  · have : letN t = 3 := by have : (100 : UInt8).toNat = 100 := rfl; omega
    rw [this] at hl ⊢
    rcases (by omega : n = 4) with rfl <;> rfl
theorem lst_take {w : World} {A : Option Addr} {n c : Nat} {xs : List Value} (h : Lst w (.slice A n c) xs) (k : Nat) (hk : k ≤ xs.length) : Lst w (.slice A k c) (xs.take k) := by
  obtain ⟨A', c', he, h1, h2, h3⟩ := h
  injection he with hA hn hc
  subst hA
  subst hc
  refine ⟨A, c, by rw [List.length_take, Nat.min_eq_left hk], by rw [List.length_take]; omega, h2, ?_⟩
  rcases h3 with h3 | ⟨b, off, hb, h3⟩
  · left
    rw [h3, List.take_nil]
  · right
    refine ⟨b, off, hb, fun i u hu => h3 i u ?_⟩
    rw [List.getElem?_take] at hu
    split at hu
    · exact hu
    · cases hu
theorem cut_slice (a : Addr) (n c k : Nat) (hk : k ≤ c) (w : World) : (Instr.sliceAt 35 (.slice (some a) n c) none (some (.int .i64 (k : Int))) none).run Try.prog w = .ok (.slice (some a) k c) w := by
  have h1 : (0 : Int) ≤ k ∧ (k : Int) ≤ (c : Nat) := by omega
  simp [Instr.sliceAt, Instr.slice, Instr.sliceBounds, Instr.sliceBound, asIntOf, run_underlying Try.underlying35, Instr.sureAddr, hk, Addr.add]

theorem implHasLetter (A : Option Addr) (l : List ByteArray) (cp : Nat) (t : ByteArray) (w : World) (h : Lst w (.slice A l.length cp) (strs l)) (hz : ∀ x ∈ l, x.size ≤ 1048576) (hn : l.length ≤ 1048576) (ht : t.size ≤ 1048576) :
    Calls Try.prog 76 #[.agg #[.slice A l.length cp], .string t] w fun e w' => e = .returned (.bool (letOk l t && substB l)) ∧ Below w.heap.size w w' := by
  have hb0 : Below w.heap.size w (w.alloc (.cells #[.slice A l.length cp] 25)) := (Below.refl _ _).alloc (Nat.le_refl _) _
  have HL := Lib.hid (h.below hb0)
  have HZ := Lib.hid hz
  have HB0 := Lib.hid hb0
  clear h hz hb0
  by_cases h1 : substB l = true
  · have HSB := Lib.hid h1
    by_cases h2 : (decide (t.size = 1) && wordB t) = true
    · have H2 := Lib.hid h2
      rw [Bool.and_eq_true, decide_eq_true_eq] at h2
      have HW := Lib.hid (within_letter h2.1 h2.2 l.length)
      have HWB := Lib.hid h2.2
      clear h1 h2
      go_enter Try.func76, Try.ntmps76
      go_wp2_with fail
      refine (implSubstOk l _ _ HL.out HZ.out hn).mono ?_
      rintro e w1 ⟨rfl, hb1⟩
      rw [HSB.out]
      have HB1 : Hid (Below w.heap.size w w1) := HB0.out.trans (hb1.mono (by simp))
      have c0 : w1.cell? ⟨w.heap.size, 0, none⟩ = some (.slice A l.length cp) := (hb1.cell (p := ⟨w.heap.size, 0, none⟩) (by simp)).trans (by go_simp)
      have hlt1 : w.heap.size < w1.heap.size := by have := hb1.size; simp at this; omega
      clear hb1
      go_wp2_with fail
      refine (implIsLetterWord t _ ht).mono ?_
      rintro e w2 ⟨rfl, hb2⟩
      rw [H2.out]
      have HB2 : Hid (Below w.heap.size w w2) := HB1.out.trans (hb2.mono HB1.out.size)
      have c2 : w2.cell? ⟨w.heap.size, 0, none⟩ = some (.slice A l.length cp) := (hb2.cell (p := ⟨w.heap.size, 0, none⟩) hlt1).trans c0
      clear hb2 c0
      go_wp2_with fail
      refine (implHasImages A l.length cp t _ hn ht).mono ?_
      rintro e w3 ⟨rfl, hb3⟩
      have HB3 : Hid (Below w.heap.size w w3) := HB2.out.trans (hb3.mono HB2.out.size)
      clear hb3
      go_wp2_with fail
      go_ret
      refine ⟨ret_bool ?_, HB3.out⟩
      unfold letOk
      rw [HW.out, H2.out, HSB.out, HWB.out, Bool.and_true, Bool.true_and]
    · have h2' : (decide (t.size = 1) && wordB t) = false := by simpa only [Bool.not_eq_true] using h2
      have H2 := Lib.hid h2'
      clear h1 h2 h2'
      go_enter Try.func76, Try.ntmps76
      go_wp2_with fail
      refine (implSubstOk l _ _ HL.out HZ.out hn).mono ?_
      rintro e w1 ⟨rfl, hb1⟩
      rw [HSB.out]
      have HB1 : Hid (Below w.heap.size w w1) := HB0.out.trans (hb1.mono (by simp))
      clear hb1
      go_wp2_with fail
      refine (implIsLetterWord t _ ht).mono ?_
      rintro e w2 ⟨rfl, hb2⟩
      rw [H2.out]
      have HB2 : Hid (Below w.heap.size w w2) := HB1.out.trans (hb2.mono HB1.out.size)
      clear hb2
      go_wp2_with fail
      go_ret
      refine ⟨ret_bool ?_, HB2.out⟩
      unfold letOk
      rw [H2.out]
      rfl
  · have h1' : substB l = false := by simpa using h1
    have HSB := Lib.hid h1'
    clear h1 h1'
    go_enter Try.func76, Try.ntmps76
    go_wp2_with fail
    refine (implSubstOk l _ _ HL.out HZ.out hn).mono ?_
    rintro e w1 ⟨rfl, hb1⟩
    rw [HSB.out]
    have HB1 : Hid (Below w.heap.size w w1) := HB0.out.trans (hb1.mono (by simp))
    clear hb1
    go_wp2_with fail
    go_ret
    exact ⟨ret_bool (by rw [HSB.out, Bool.and_false]), HB1.out⟩
end Go.Proofs.Ytfcbfflkajlhnaa

/- LengthAfter of the program. Conditions: lengths of at most 2^20. -/
namespace Go.Proofs.Ytfcbfflkajlhnaa
open Go.RowKit

set_option maxHeartbeats 1000000 in
set_option maxRecDepth 100000 in
theorem implLengthAfter (l : List ByteArray) (v : Value) (t : ByteArray) (n : Int) (w : World) (h : Lst w v (strs l)) (hz : ∀ x ∈ l, x.size ≤ 1048576) (hn : l.length ≤ 1048576) (ht : t.size ≤ 1048576) :
    Calls Try.prog 25 #[.agg #[v], .string t, .int .i64 n] w fun e w' => e = .returned (.int .i64 (lenR l t n)) ∧ Below w.heap.size w w' := by
  obtain ⟨A, cp, rfl⟩ := lst_slice h
  rw [strs_length] at h ⊢
  have hb0 : Below w.heap.size w (w.alloc (.cells #[.slice A l.length cp] 25)) := (Below.refl _ _).alloc (Nat.le_refl _) _
  have HL := Lib.hid (h.below hb0)
  have HZ := Lib.hid hz
  have HB0 := Lib.hid hb0
  clear h hz hb0
  by_cases h0 : (letOk l t && substB l) = true
  · have HS := Lib.hid h0
    have HV : Hid (lenR l t n = if caOk l (unitC l.length (letN t)) n = true then isum (caR l (unitC l.length (letN t)) n) l.length else -1) := by show lenR l t n = _; unfold lenR; rw [h0]; rfl
    rw [Bool.and_eq_true] at h0
    obtain ⟨hl1, hl4, _⟩ := subst_parts h0.2
    obtain ⟨hle, hsb⟩ := h0
    unfold letOk at hle
    rw [Bool.and_eq_true, Bool.and_eq_true, decide_eq_true_eq, decide_eq_true_eq] at hle
    have hcl : (countsR t).length = 4 := by unfold countsR; rw [if_pos hle.1.2]; rfl
    have HCT := Lib.hid (letter_counts hle.1.1 hle.1.2 l.length hl4 hle.2)
    have HCL := Lib.hid hcl
    clear hle hsb hcl
    go_enter Try.func25, Try.ntmps25
    go_wp2_with fail
    refine (implHasLetter A l cp t _ HL.out HZ.out hn ht).mono ?_
    rintro e w1 ⟨rfl, hb1⟩
    rw [HS.out]
    have HB1 : Hid (Below w.heap.size w w1) := HB0.out.trans (hb1.mono (by simp))
    have ccp0 : w1.cell? ⟨w.heap.size, 0, none⟩ = some (.slice A l.length cp) := (hb1.cell (p := ⟨w.heap.size, 0, none⟩) (by simp)).trans (by go_simp)
    have zzp0 : w.heap.size < w1.heap.size := by have := hb1.size; simp at this; omega
    have HL1 := Lib.hid (HL.out.below hb1)
    clear hb1
    go_upto_region 3 with (fail)
    go_cut [7, 8] (fun s u wx => ∃ (A' : Option Addr) (cp' : Nat), s = .slice A' (caR l (unitC l.length (letN t)) n).length cp' ∧ u = .bool (caOk l (unitC l.length (letN t)) n) ∧ Hid (wx.ownsRow w1.heap.size 3 1 (.slice A' (caR l (unitC l.length (letN t)) n).length cp') (caR l (unitC l.length (letN t)) n).length (ints (caR l (unitC l.length (letN t)) n))) ∧ Below w1.heap.size w1 wx)
    case first =>
      have HBc : Hid (Below w1.heap.size w1 w1.drew) := below_drewN (Below.refl _ _) 1
      go_region_held3 (fun w' => w'.cell? ⟨w.heap.size, 0, none⟩ = some (.slice A l.length cp))
        (first | exact ccp0 | assumption | (go_simp; done))
        (first
          | (go_at_call 27
             refine (implCountsOf t _ ht).mono ?_
             rintro e wc ⟨vc, rfl, hoc, hb⟩
             rw [HCL.out] at hoc
             obtain ⟨gc, kc, rfl, hkc⟩ := own_some hoc (by decide)
             have HLC : Hid (Lst wc (.slice (some ⟨gc, 0, none⟩) l.length kc) (ints (unitC l.length (letN t)))) := by
               have := lst_take (Lst.of_own hoc) l.length (by rw [ints_length, HCL.out]; exact hl4)
               unfold ints at this
               rw [← List.map_take, HCT.out] at this
               exact this
             have hcut := cut_slice ⟨gc, 0, none⟩ 4 kc l.length (by omega)
             replace ccp0 : wc.cell? ⟨w.heap.size, 0, none⟩ = some (.slice A l.length cp) := (hb.cell (p := ⟨w.heap.size, 0, none⟩) (by first | assumption | (simp; omega) | simp)).trans (by first | assumption | go_simp)
             have hstwt := hb.size
             try simp at hstwt
             replace zzp0 : w.heap.size < wc.heap.size := by omega
             replace HBc : Hid (Below w1.heap.size w1 wc) := HBc.out.trans (hb.mono HBc.out.size)
             clear hb hoc)
          | (go_at_call 24
             refine (implCountAfter l _ (unitC l.length (letN t)) _ n _ (HL1.out.below HBc.out) HZ.out hn HLC.out (by rw [unitC_length]; exact hn)).mono ?_
             rintro e wd ⟨vd, rfl, hod, hb⟩
             obtain ⟨Ad, kd, rfl⟩ := own_slice hod
             have HOD := Lib.hid (own_mono hod HBc.out.size)
             replace ccp0 : wd.cell? ⟨w.heap.size, 0, none⟩ = some (.slice A l.length cp) := (hb.cell (p := ⟨w.heap.size, 0, none⟩) (by first | assumption | (simp; omega) | simp)).trans (by first | assumption | go_simp)
             replace HBc : Hid (Below w1.heap.size w1 wd) := HBc.out.trans (hb.mono HBc.out.size)
             clear hb hod))
      all_goals
        go_wp2_with fail
        go_meet
        exact ⟨_, _, rfl, rfl, HOD.out, HBc.out⟩
    case rest =>
      obtain ⟨A', cp', rfl, rfl, HO, hbx⟩ := hcut
      have HBX := Lib.hid (HB1.out.trans (hbx.mono HB1.out.size))
      clear hbx ccp0
      by_cases hok : caOk l (unitC l.length (letN t)) n = true
      · obtain ⟨hlen, hsm⟩ := caR_small hok
        have HSM := Lib.hid hsm
        have HIB := Lib.hid (isum_bound hsm)
        have HLEN := Lib.hid hlen
        have HV2 : Hid (lenR l t n = isum (caR l (unitC l.length (letN t)) n) l.length) := by show lenR l t n = _; rw [HV.out, if_pos hok]
        rw [hlen] at HO ⊢
        obtain ⟨g4, cc4, he4, _⟩ := own_some HO.out (by omega)
        injection he4 with hA4 _ hc4
        subst hA4; subst hc4
        rw [hok]
        generalize caR l (unitC l.length (letN t)) n = cs at HSM HIB HLEN HO HV2 ⊢
        clear hlen hsm hok
        go_wp2_with fail
        go_loop [9, 32] (fun s i => ∃ k : Nat, k ≤ l.length ∧ i = .int .i64 k ∧ s = .int .i64 (isum cs k)) (fun _ i => l.length - (intOf i).toNat)
        case atStart => exact ⟨0, by omega, rfl, rfl⟩
        case round =>
          obtain ⟨k, hk, rfl, rfl⟩ := hrel
          obtain ⟨t1, t2⟩ := HIB.out k hk
          by_cases hlt : k < l.length
          · have g3' := own_ints_at HO.out HLEN.out k hlt
            obtain ⟨s1, s2⟩ := HSM.out k hlt
            simp only [List.getD_eq_getElem?_getD] at s1 s2 g3'
            go_wp2_with fail
            go_round
            case rel => exact ⟨k + 1, by omega, by go_num, rfl⟩
            case measure => simp [intOf]; omega
          · have hkl : k = l.length := by omega
            have HV3 : Hid (isum cs k = lenR l t n) := by show isum cs k = _; rw [HV2.out, hkl]
            clear hkl
            go_wp2_with fail
            go_ret
            exact ⟨ret_int HV3.out, HBX.out⟩
      · have hok' : caOk l (unitC l.length (letN t)) n = false := by simpa only [Bool.not_eq_true] using hok
        have HV2 : Hid (lenR l t n = -1) := by show lenR l t n = _; rw [HV.out, if_neg hok]
        rw [hok']
        clear hok hok'
        go_wp2_with fail
        go_ret
        exact ⟨ret_int HV2.out.symm, HBX.out⟩
  · have h0' : (letOk l t && substB l) = false := by simpa only [Bool.not_eq_true] using h0
    have HS := Lib.hid h0'
    have HV : Hid (lenR l t n = -1) := by show lenR l t n = _; unfold lenR; rw [if_neg h0]
    clear h0 h0'
    go_enter Try.func25, Try.ntmps25
    go_wp2_with fail
    refine (implHasLetter A l cp t _ HL.out HZ.out hn ht).mono ?_
    rintro e w1 ⟨rfl, hb1⟩
    rw [HS.out]
    have HB1 : Hid (Below w.heap.size w w1) := HB0.out.trans (hb1.mono (by simp))
    clear hb1
    go_wp2_with fail
    go_ret
    exact ⟨ret_int HV.out.symm, HB1.out⟩
end Go.Proofs.Ytfcbfflkajlhnaa

/- FixedPoint and IsFixedStart of the model. Conditions: lengths of at most 2^20. -/
namespace Go.Proofs.Ytfcbfflkajlhnaa
open Go.RowKit

theorem fixR_no {l : List ByteArray} {t : ByteArray} {n : Int} (h : fixOk l t n = false) {w w' : World} (hb : Below w.heap.size w w') : PairSaid (fixR l t n) (fixOk l t n) w (.returned (.tuple #[.string ⟨#[]⟩, .bool false])) w' := by
  refine ⟨?_, hb⟩
  have e : fixR l t n = ⟨#[]⟩ := if_neg (by rw [h]; decide)
  rw [h, e]
theorem fixStart_eq {l : List ByteArray} {s : ByteArray} (h0 : 0 < s.size) : fixStart l s = (fixOk l (oneOf s) s.size && decide ((fixR l (oneOf s) s.size).toList = s.toList)) := by
  unfold fixStart
  rw [decide_eq_false (show ¬ s.size = 0 by omega), Bool.false_or]
  by_cases h : fixOk l (oneOf s) s.size = true
  · have e : fixR l (oneOf s) s.size = ⟨(fixL l (letN (oneOf s)) s.size).toArray⟩ := if_pos h
    rw [h, e, Bool.true_and, Bool.true_and, ByteArray.toList_eq, ByteArray.toList_eq]
  · rw [show fixOk l (oneOf s) s.size = false by simpa using h, Bool.false_and, Bool.false_and]
end Go.Proofs.Ytfcbfflkajlhnaa
