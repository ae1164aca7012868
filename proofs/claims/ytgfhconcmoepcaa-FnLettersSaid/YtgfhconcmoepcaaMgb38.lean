/- Texts put together. -/
import Derived.Test.YtgfhconcmoepcaaMgb1
import Derived.Test.YtgfhconcmoepcaaMgb34
import Derived.Test.YtgfhconcmoepcaaMgb20
import Derived.Test.YtgfhconcmoepcaaMgb35
import Derived.Test.YtgfhconcmoepcaaMgb28
import Derived.Test.YtgfhconcmoepcaaMgb36
import Derived.Test.YtgfhconcmoepcaaMgb37
import Derived.Test.YtgfhconcmoepcaaMgb16
import Derived.Test.YtgfhconcmoepcaaMgb31
import Derived.Test.YtgfhconcmoepcaaMgb32
import Derived.Test.YtgfhconcmoepcaaMgb29
import Derived.Deep.DeepCutAuto
import Derived.Deep.RegionHeld3
import Derived.Deep.RegionWith
import Derived.Deep.CutBlock
import Derived.Deep.LoopGhost
import Derived.Deep.QuietTactic
import Derived.BigQuiet
/- The walk of FnLetters. -/
namespace Go.Proofs.Ytgfhconcmoepcaa
open Go.ChangeShapes Go.WideShapes Go.ChangeAt Go.RowKit

/-- the counts, in the walk's form -/
theorem le_counts {s : ByteArray} (hw : wordB s = true) : ∃ cs : List Int, countsR s = cs ∧ cs.length = 4 ∧ isum cs cs.length = (s.size : Int) ∧ (∀ k, k < cs.length → 0 ≤ cs.getD k 0 ∧ cs.getD k 0 ≤ 1000000000000) ∧ countsR (turnS s) = cs ∧ countR s ⟨#[98]⟩ = cs.getD 1 0 := by
  obtain ⟨a, b, c, d, h1, h2, h3⟩ := counts_sum hw
  have h4 := word_size hw
  refine ⟨_, rfl, by rw [h1]; rfl, ?_, fun k hk => ?_, (counts_turn hw).2.1, by rw [h1, h3]; rfl⟩
  · rw [h1]
    show ((((0 : Int) + (a : Int)) + (b : Int)) + (c : Int)) + (d : Int) = _
    omega
  · rw [h1] at hk ⊢
    have hk : k < 4 := hk
    have : k = 0 ∨ k = 1 ∨ k = 2 ∨ k = 3 := by omega
    rcases this with rfl | rfl | rfl | rfl
    · show 0 ≤ (a : Int) ∧ (a : Int) ≤ _; omega
    · show 0 ≤ (b : Int) ∧ (b : Int) ≤ _; omega
    · show 0 ≤ (c : Int) ∧ (c : Int) ≤ _; omega
    · show 0 ≤ (d : Int) ∧ (d : Int) ≤ _; omega

theorem le_empty {s : ByteArray} (h : s.size = 0) : s.toList.isEmpty = true := by
  rw [ByteArray.toList_eq]
  cases e : s.data.toList with
  | nil => rfl
  | cons a l => have hl : s.data.toList.length = s.size := by simp
                rw [e, h] at hl; cases hl
theorem le_full {s : ByteArray} (h : 1 ≤ s.size) : s.toList.isEmpty = false := by
  rw [ByteArray.toList_eq]
  cases e : s.data.toList with
  | nil => have hl : s.data.toList.length = s.size := by simp
           rw [e] at hl; simp at hl; omega
  | cons a l => rfl

/-- the common beginning, in the walk's form -/
theorem le_common {s t : ByteArray} (hw : wordB s = true) (ht : wordB t = true) : ∃ q : Nat, commonR s t = (q : Int) ∧ q ≤ s.size ∧ q ≤ t.size ∧ t.extract 0 q = s.extract 0 q ∧ ∀ (h1 : q < s.size) (h2 : q < t.size), (((s[q]'h1).toNat : Int) == ((t[q]'h2).toNat : Int)) = false := by
  obtain ⟨⟨a, b⟩, c, d⟩ := lcp_spec s.data.toList t.data.toList
  have hc : commonR s t = (lcp s.data.toList t.data.toList : Int) := if_pos ⟨hw, ht⟩
  rw [pl_len] at a b d
  rw [pl_len] at d
  refine ⟨_, hc, a, b, ?_, fun h1 h2 => ?_⟩
  · apply bytes_ext
    rw [ByteArray.toList_eq, ByteArray.toList_eq, ByteArray.data_extract, ByteArray.data_extract, Array.toList_extract, Array.toList_extract, List.extract_eq_take_drop, List.extract_eq_take_drop, List.drop_zero, List.drop_zero, Nat.sub_zero, ← c]
  · rw [beq_eq_false_iff_ne]
    intro e
    have e2 : (s[lcp s.data.toList t.data.toList]'h1) = (t[lcp s.data.toList t.data.toList]'h2) := UInt8.toNat_inj.1 (by omega)
    refine d h1 h2 ?_
    rw [List.getElem?_eq_getElem (by rw [pl_len]; exact h1), List.getElem?_eq_getElem (by rw [pl_len]; exact h2)]
    exact congrArg some e2

set_option maxHeartbeats 40000000 in
set_option maxRecDepth 100000 in
theorem fnLetters_walk0 (zs : List Int) (v : Value) (w : World) (mx : Int) (hmx : w.cell? ⟨0, 0, none⟩ = some (.int .i64 mx)) (hl : Lst w v (bytesV zs)) (hzs : ∀ z ∈ zs, 0 ≤ z ∧ z ≤ 255) :
    Calls Try.prog 4 #[v] w fun e w' => e = .returned (.bool true) ∧ Below w.heap.size w w' := by
  have HMX := Lib.hid hmx
  have HLC := Lib.hid hl
  obtain ⟨Ac, cc, rfl, hcc1, hcc2, _⟩ := hl
  rw [bytesV_length] at hcc1 HLC ⊢
  have hmax : zs.length ≤ 9223372036854775807 := by unfold maxLen at hcc2; omega
  clear hcc1 hcc2 hmx
  by_cases hlen : ¬ zs.length ≤ 1048576
  · have hgt : 1048576 < zs.length := by omega
    go_enter Try.func4, Try.ntmps4
    go_wp2_with fail
    go_ret
    exact ⟨rfl, Below.refl _ _⟩
  have hlen : zs.length ≤ 1048576 := by omega
  have HZB : Hid (IsBytes zs) := ⟨hlen, hzs⟩
  clear hzs
  go_enter Try.func4, Try.ntmps4
  go_wp2_with fail
  refine (makeWord_any _ zs 0 14 _ HZB.out HLC.out (by omega) (by omega) (by omega)).mono ?_
  rintro e w1 ⟨s, rfl, hw, h14, hb⟩
  have HW := Lib.hid hw
  have HB1 := Lib.hid hb
  clear hb
  have hs : s.size ≤ 1048576 := by omega
  obtain ⟨cs, hc1, hc2, hc3, hc4, hc5, hc6⟩ := le_counts hw
  obtain ⟨ht1, ht2, ht3⟩ := counts_turn hw
  have HC1 := Lib.hid hc1
  have HC3 := Lib.hid hc3
  have HC4 := Lib.hid hc4
  have HC5 := Lib.hid hc5
  have HC6 := Lib.hid hc6
  have HT1 := Lib.hid ht1
  have HT3 := Lib.hid ht3
  have htz : (turnS s).size ≤ 1048576 := by rw [turn_size]; omega
  clear hw hc1 hc3 hc4 hc5 hc6 ht1 ht2 ht3
  go_wp2_with fail
  refine (makeWord_any _ zs 30 6 _ HZB.out (HLC.out.below HB1.out) (by omega) (by omega) (by omega)).mono ?_
  rintro e w2 ⟨t, rfl, htw, h6, hb⟩
  have HTW := Lib.hid htw
  have HB2 : Hid (Below w.heap.size w w2) := HB1.out.trans (hb.mono HB1.out.size)
  have hts : t.size ≤ 1048576 := by omega
  clear hb htw HB1
  go_wp2_with fail
  refine (implCountsOf s _ hs).mono ?_
  rintro e w3 ⟨v3, rfl, ho, hb⟩
  rw [HC1.out, hc2] at ho
  obtain ⟨AC, cpC, rfl⟩ := own_slice ho
  have HL3 := Lib.hid (Lst.of_own ho)
  have HB3 : Hid (Below w.heap.size w w3) := HB2.out.trans (hb.mono HB2.out.size)
  clear ho hb HB2
  go_wp2_with fail
  refine (implTurnWord s _ hs).mono ?_
  rintro e w4 ⟨rfl, hb⟩
  rw [HT1.out]
  have HL4 := Lib.hid (HL3.out.below hb)
  have HB4 : Hid (Below w.heap.size w w4) := HB3.out.trans (hb.mono HB3.out.size)
  have HFL : Hid (flipS s = turnS s) := rfl
  clear hb HL3 HB3
  generalize turnS s = ts at HT1 HC5 HT3 htz HFL
  go_wp2_with fail
  refine (sumC cs _ _ HL4.out (by omega) HC4.out).mono ?_
  rintro e w' ⟨rfl, rfl⟩
  rw [HC3.out]
  go_wp2_with fail
  refine (implCountsOf ts _ htz).mono ?_
  rintro e w5 ⟨v5, rfl, ho, hb⟩
  rw [HC5.out, hc2] at ho
  obtain ⟨AD, cpD, rfl⟩ := own_slice ho
  have HD5 := Lib.hid (Lst.of_own ho)
  have HL5 := Lib.hid (HL4.out.below hb)
  have HB5 : Hid (Below w.heap.size w w5) := HB4.out.trans (hb.mono HB4.out.size)
  clear ho hb HL4 HB4
  go_wp2_with fail
  refine (same_ints cs _ _ _ HD5.out HL5.out).mono ?_
  rintro e w' ⟨rfl, rfl⟩
  go_wp2_with fail
  refine (implTurnWord ts _ htz).mono ?_
  rintro e w6 ⟨rfl, hb⟩
  rw [HT3.out]
  have HL6 := Lib.hid (HL5.out.below hb)
  have HB6 : Hid (Below w.heap.size w w6) := HB5.out.trans (hb.mono HB5.out.size)
  clear hb HL5 HB5 HD5
  have b1 : (s.toList != s.toList) = false := by simp
  have b2 : (ts.toList != ts.toList) = false := by simp
  go_wp2_with fail
  refine (flipC s _ hs).mono ?_
  rintro e w7 ⟨rfl, hb⟩
  rw [HFL.out]
  have HL7 := Lib.hid (HL6.out.below hb)
  have HB7 : Hid (Below w.heap.size w w7) := HB6.out.trans (hb.mono HB6.out.size)
  clear hb HL6 HB6
  go_wp2_with fail
  refine (implWordOk s _ hs).mono ?_
  rintro e w8 ⟨rfl, hb⟩
  rw [HW.out]
  have HL8 := Lib.hid (HL7.out.below hb)
  have HB8 : Hid (Below w.heap.size w w8) := HB7.out.trans (hb.mono HB7.out.size)
  clear hb HL7 HB7
  go_wp2_with fail
  refine (makeSize_gen _ zs 50 0 (s.size : Int) _ HZB.out (HLC.out.below HB8.out) (by omega) (by omega) (by omega) (by omega) (by omega) (by omega)).mono ?_
  rintro e w9 ⟨kk, rfl, hk0, hk1, hb⟩
  obtain ⟨k, rfl⟩ : ∃ k : Nat, kk = k := ⟨kk.toNat, by omega⟩
  have HL9 := Lib.hid (HL8.out.below hb)
  have HB9 : Hid (Below w.heap.size w w9) := HB8.out.trans (hb.mono HB8.out.size)
  have HSR := Lib.hid (shift_rot HW.out (show k ≤ s.size by omega))
  have HSB := Lib.hid (shift_back HW.out (show k ≤ s.size by omega))
  have HCJ := Lib.hid (cj_rot HW.out (show k ≤ s.size by omega))
  have hrz : (rotS s k).size ≤ 1048576 := by rw [rot_size s (show k ≤ s.size by omega)]; exact hs
  clear hb HL8 HB8
  go_wp2_with fail
  refine (implShiftWord s (k : Int) _ hs).mono ?_
  rintro e w10 ⟨rfl, hb⟩
  rw [HSR.out]
  have HL10 := Lib.hid (HL9.out.below hb)
  have HB10 : Hid (Below w.heap.size w w10) := HB9.out.trans (hb.mono HB9.out.size)
  clear hb HL9 HB9 HSR
  generalize rotS s k = x at HSB HCJ hrz
  obtain ⟨bc, oc, rfl, hcell⟩ : ∃ bc oc, AC = some ⟨bc, oc, none⟩ ∧ w10.cell? ⟨bc, oc + 1, none⟩ = some (.int .i64 (cs.getD 1 0)) := by
    obtain ⟨A', cap', e, _, _, h3⟩ := HL10.out
    rcases h3 with h3 | ⟨b, off, rfl, h3⟩
    · have := congrArg List.length h3
      rw [ints_length, hc2] at this
      cases this
    · injection e with e _ _
      refine ⟨b, off, e, ?_⟩
      rw [ints_at h3 1 (by omega), List.getD_eq_getElem?_getD, List.getElem?_eq_getElem (by omega)]
      rfl
  have HCELL := Lib.hid hcell
  have hblk := World.block_lt_of_cell? w10 _ hcell
  clear hcell HL10
  generalize cs.getD 1 0 = u at HC6 HCELL
  go_upto_region 11 with (fail)
  go_cut [90] (fun b wx => b = .bool false ∧ Below w.heap.size w wx)
  case first => as_aux_lemma =>
    have e1 : IntKind.i64.wrap ((s.size : Int) - (k : Int)) = (s.size : Int) - (k : Int) := IntWalk.i64_in _ (by omega)
    have b3 : (u != u) = false := by simp
    have HBC : Hid (Below w10.heap.size w10 w10.drew) := below_drewN (Below.refl _ _) 1
    have HMX10 := Lib.hid ((HB10.out.cell (World.block_lt_of_cell? w _ HMX.out)).trans HMX.out)
    have hkeep : w10.drew.cell? ⟨bc, oc + 1, none⟩ = some (.int .i64 u) := HCELL.out
    go_region_held3 (fun w' => w'.cell? ⟨bc, oc + 1, none⟩ = some (.int .i64 u))
      (first | exact hkeep | assumption | (go_simp; done))
      (first
        | (go_at_call 25
           refine (implShiftWord x ((s.size : Int) - (k : Int)) _ hrz).mono ?_
           rintro e wz ⟨rfl, hb⟩
           rw [HSB.out]
           replace HBC : Hid (Below w10.heap.size w10 wz) := HBC.out.trans (hb.mono HBC.out.size)
           have hkeep2 : wz.cell? ⟨bc, oc + 1, none⟩ = some (.int .i64 u) := (HBC.out.cell (p := ⟨bc, oc + 1, none⟩) hblk).trans HCELL.out
           clear hb)
        | (go_at_call 26
           refine (implAreConjugate s x mx _ ((HBC.out.cell (World.block_lt_of_cell? w10 _ HMX10.out)).trans HMX10.out) hs hrz).mono ?_
           rintro e wz ⟨rfl, hb⟩
           rw [HCJ.out]
           replace HBC : Hid (Below w10.heap.size w10 wz) := HBC.out.trans (hb.mono HBC.out.size)
           have hkeep2 : wz.cell? ⟨bc, oc + 1, none⟩ = some (.int .i64 u) := (HBC.out.cell (p := ⟨bc, oc + 1, none⟩) hblk).trans HCELL.out
           clear hb)
        | (go_at_call 36
           refine (implCountLetter s ⟨#[98]⟩ _ hs (by decide)).mono ?_
           rintro e wz ⟨rfl, hb⟩
           rw [HC6.out]
           replace HBC : Hid (Below w10.heap.size w10 wz) := HBC.out.trans (hb.mono HBC.out.size)
           have hkeep2 : wz.cell? ⟨bc, oc + 1, none⟩ = some (.int .i64 u) := (HBC.out.cell (p := ⟨bc, oc + 1, none⟩) hblk).trans HCELL.out
           clear hb))
    all_goals
      go_wp2_with fail
      go_meet
      exact ⟨rfl, HB10.out.trans (HBC.out.mono HB10.out.size)⟩
  case rest =>
    obtain ⟨rfl, hbx⟩ := hcut
    obtain ⟨wd, rfl⟩ : ∃ y : World, y = wc := ⟨_, rfl⟩
    have HBD := Lib.hid hbx
    clear hbx
    go_upto_region 13 with (fail)
    go_cut [92] (fun b wx => b = .bool (decide (1 ≤ t.size)) ∧ wd = wx)
    case first => as_aux_lemma =>
      by_cases h0 : t.size = 0
      · have hem : t.toList.isEmpty = true := le_empty h0
        have HD : Hid (decide (1 ≤ t.size) = false) := decide_eq_false (by omega)
        go_wp2_with fail
        go_meet
        exact ⟨by rw [HD.out], rfl⟩
      · have hem : t.toList.isEmpty = false := le_full (by omega)
        have HD : Hid (decide (1 ≤ t.size) = true) := decide_eq_true (by omega)
        go_wp2_with fail
        go_meet
        exact ⟨by rw [HD.out], rfl⟩
    case rest =>
    obtain ⟨rfl, rfl⟩ := hcut
    obtain ⟨nz, hnz⟩ : ∃ b, decide (1 ≤ t.size) = b := ⟨_, rfl⟩
    have HNZ := Lib.hid hnz
    rw [hnz]
    clear hnz
    go_upto_if 92 with (fail)
    go_cut [10] (fun _ wx => Below w.heap.size w wx)
    case first => as_aux_lemma =>
      cases nz
      · go_wp2_with fail
        go_meet
        exact HBD.out
      · have hz1 : 1 ≤ t.size := of_decide_eq_true HNZ.out
        have HPA := Lib.hid (places_all HW.out HTW.out hz1)
        have HFH := Lib.hid (places_has HW.out HTW.out hz1)
        have HYES := Lib.hid (fun k h => placesTo_yes (s := s) (f := t) (k := k) h)
        have HNO := Lib.hid (fun k h => placesTo_no (s := s) (f := t) (k := k) h)
        have HLEN := Lib.hid (placesTo_le s t)
        have HMEM : Hid (∀ k : Nat, k + t.size ≤ s.size → At s t k → decide ((k : Int) ∈ placesR s t) = true) := fun k hk h => decide_eq_true (by
          rw [HPA.out]
          exact places_mem.2 ⟨k, rfl, by omega, h⟩)
        have HP0 : Hid (placesTo s t 0 = []) := rfl
        have hpl := placesR_le s t
        go_wp2_with fail
        refine (implPlacesIn s t _ hs hts).mono ?_
        rintro e we ⟨ve, rfl, ho, hb⟩
        obtain ⟨AL, cL, rfl⟩ := own_slice ho
        have HLE := Lib.hid (Lst.of_own ho)
        have HBE : Hid (Below w.heap.size w we) := HBD.out.trans (hb.mono HBD.out.size)
        clear ho hb HBD
        generalize placesR s t = L at *
        generalize placesTo s t = P at *
        obtain ⟨wf, rfl⟩ : ∃ y : World, y = we := ⟨_, rfl⟩
        go_wp2_with fail
        go_loopw [10, 11] (fun nv iv w' => ∃ i n : Nat, i ≤ s.size + 1 ∧ n ≤ i ∧ n = (P i).length ∧ (∀ j, j < i → j + t.size ≤ s.size) ∧ iv = .int .i64 (i : Int) ∧ nv = .int .i64 (n : Int) ∧ wf = w') (fun _ iv _ => s.size + 1 - (intOf iv).toNat)
        case atStart => exact ⟨0, 0, by omega, by omega, by rw [HP0.out]; rfl, fun j h => by omega, rfl, rfl, rfl⟩
        case round =>
          obtain ⟨i, n, hi, hni, hn, hall, rfl, rfl, rfl⟩ := hrel
          have HN := Lib.hid hn
          have HAL := Lib.hid hall
          clear hn hall
          by_cases hlt : i + t.size ≤ s.size
          · have hsl : ∀ w : World, (Instr.slice 9 (.string s) (some (.int .i64 (i : Int))) (some (.int .i64 ((i : Int) + (t.size : Int)))) none).run Try.prog w = .ok (.string (s.extract i (i + t.size))) w := fun w => slice_at Try.underlying9 s i t.size w hlt
            by_cases he : s.extract i (i + t.size) = t
            · have bq := eq_bytes he
              have HMI := Lib.hid (HMEM.out i hlt ⟨hlt, he⟩)
              have HPN := Lib.hid (HYES.out i ⟨hlt, he⟩)
              clear he
              generalize s.extract i (i + t.size) = y at hsl bq
              go_wp2_with fail
              refine (hasC L _ (i : Int) _ HLE.out).mono ?_
              rintro e w' ⟨rfl, rfl⟩
              rw [HMI.out]
              go_wp2_with fail
              go_roundw
              case rel => exact ⟨i + 1, n + 1, by omega, by omega, by rw [HPN.out, List.length_append, ← HN.out]; rfl, fun j h => by
                by_cases e : j = i
                · subst e; exact hlt
                · exact HAL.out j (by omega), by go_num, by go_num, by trivial⟩
              case measure => simp [intOf]; omega
            · have bq := ne_bytes he
              have HPN := Lib.hid (HNO.out i (fun h => he h.2))
              clear he
              generalize s.extract i (i + t.size) = y at hsl bq
              go_wp2_with fail
              go_roundw
              case rel => exact ⟨i + 1, n, by omega, by omega, by rw [HPN.out]; exact HN.out, fun j h => by
                by_cases e : j = i
                · subst e; exact hlt
                · exact HAL.out j (by omega), by go_num, rfl, by trivial⟩
              case measure => simp [intOf]; omega
          · have hie : i = s.size + 1 - t.size := by
              by_cases hi0 : i = 0
              · omega
              · have := HAL.out (i - 1) (by omega)
                omega
            have hnl : (L.length : Int) = (n : Int) := by rw [HN.out, HPA.out, ← hie]
            have HFA : Hid (factR s t = decide (0 < (n : Int))) := by
              show _ = _
              rw [HFH.out]
              congr 1
              rw [eq_iff_iff]
              omega
            have b4 : ((n : Int) != (n : Int)) = false := by simp
            have b5 : (decide (0 < (n : Int)) != decide (0 < (n : Int))) = false := by simp
            clear hie
            obtain ⟨m, hm⟩ : ∃ m : Int, (L.length : Int) = m := ⟨_, rfl⟩
            have hmxf : wf.cell? ⟨0, 0, none⟩ = some (.int .i64 mx) := (HBE.out.cell (World.block_lt_of_cell? w _ HMX.out)).trans HMX.out
            go_wp2_with fail
            refine (implIsFactor s t mx _ hmxf hs hts).mono ?_
            rintro e wg ⟨rfl, hb⟩
            rw [HFA.out]
            have HBG : Hid (Below w.heap.size w wg) := HBE.out.trans (hb.mono HBE.out.size)
            clear hb
            go_wp2_with fail
            go_meet
            exact HBG.out
    case rest => as_aux_lemma =>
      have hbx := hcut
      obtain ⟨wh, rfl⟩ : ∃ y : World, y = wc := ⟨_, rfl⟩
      have HBH := Lib.hid hbx
      clear hbx hcut HBD HNZ
      obtain ⟨q, hq1, hq2, hq3, hq4, hq5⟩ := le_common HW.out HTW.out
      have HQ1 := Lib.hid hq1
      have HQ4 := Lib.hid hq4
      have HQ5 := Lib.hid hq5
      clear hq1 hq4 hq5
      go_wp2_with fail
      refine (implCommonStart s t _ hs hts).mono ?_
      rintro e wi ⟨rfl, hb⟩
      rw [HQ1.out]
      have HBI : Hid (Below w.heap.size w wi) := HBH.out.trans (hb.mono HBH.out.size)
      obtain ⟨wj, rfl⟩ : ∃ y : World, y = wi := ⟨_, rfl⟩
      clear hb HBH
      go_upto_region 26 with (fail)
      go_cut [178] (fun b wx => b = .bool false ∧ Below w.heap.size w wx)
      case first => as_aux_lemma =>
        have d1 : decide ((q : Int) < 0) = false := by simp
        have d2 : decide ((s.size : Int) < (q : Int)) = false := by simp; omega
        have d3 : decide ((t.size : Int) < (q : Int)) = false := by simp; omega
        have d2' : decide (s.size < q) = false := by simp; omega
        have d3' : decide (t.size < q) = false := by simp; omega
        have hs1 : ∀ w : World, (Instr.slice 9 (.string s) none (some (.int .i64 (q : Int))) none).run Try.prog w = .ok (.string (s.extract 0 q)) w := fun w => cut_lo Try.underlying9 s _ q w rfl hq2
        have hs2 : ∀ w : World, (Instr.slice 9 (.string t) none (some (.int .i64 (q : Int))) none).run Try.prog w = .ok (.string (s.extract 0 q)) w := fun w => by
          rw [cut_lo Try.underlying9 t _ q w rfl hq3, HQ4.out]
        have b6 : ((s.extract 0 q).toList != (s.extract 0 q).toList) = false := by simp
        generalize s.extract 0 q = y at hs1 hs2 b6
        by_cases hqs : q < s.size
        · have d4 : decide ((q : Int) < (s.size : Int)) = true := by simp; omega
          have d4' : decide (q < s.size) = true := by simp; omega
          by_cases hqt : q < t.size
          · have d5 : decide ((q : Int) < (t.size : Int)) = true := by simp; omega
            have d5' : decide (q < t.size) = true := by simp; omega
            have b7 : (((s[q]'hqs).toNat : Int) == ((t[q]'hqt).toNat : Int)) = false := HQ5.out hqs hqt
            go_wp2_with fail
            go_quiet (fail)
            go_wp2_with fail
            go_meet
            exact ⟨rfl, below_drewN HBI.out _⟩
          · have d5 : decide ((q : Int) < (t.size : Int)) = false := by simp; omega
            have d5' : decide (q < t.size) = false := by simp; omega
            go_wp2_with fail
            go_quiet (fail)
            go_wp2_with fail
            go_meet
            exact ⟨rfl, below_drewN HBI.out _⟩
        · have d4 : decide ((q : Int) < (s.size : Int)) = false := by simp; omega
          have d4' : decide (q < s.size) = false := by simp; omega
          go_wp2_with fail
          go_quiet (fail)
          go_wp2_with fail
          go_meet
          exact ⟨rfl, below_drewN HBI.out _⟩
      case rest => as_aux_lemma =>
        obtain ⟨rfl, hbx⟩ := hcut
        obtain ⟨wk, rfl⟩ : ∃ y : World, y = wc := ⟨_, rfl⟩
        have HBK := Lib.hid hbx
        clear hbx HBI HQ1 HQ4 HQ5
        obtain ⟨ho1, x1, hx1, hx2, ho2, hx3⟩ := swap_back HW.out
        have HO1 := Lib.hid ho1
        have HO2 := Lib.hid ho2
        have HX1 := Lib.hid hx1
        have HX3 := Lib.hid hx3
        have hxz : x1.size ≤ 1048576 := by omega
        clear ho1 ho2 hx1 hx3
        go_wp2_with fail
        refine (implSwapLetters s ⟨#[98, 99, 100, 97]⟩ _ hs (by decide)).mono ?_
        rintro e wl ⟨rfl, hb⟩
        rw [HO1.out, HX1.out]
        have HBL : Hid (Below w.heap.size w wl) := HBK.out.trans (hb.mono HBK.out.size)
        clear hb HBK
        go_wp2_with fail
        refine (implSwapLetters x1 ⟨#[100, 97, 98, 99]⟩ _ hxz (by decide)).mono ?_
        rintro e wm ⟨rfl, hb⟩
        rw [HO2.out, HX3.out]
        have HBM : Hid (Below w.heap.size w wm) := HBL.out.trans (hb.mono HBL.out.size)
        clear hb HBL
        have b8 : (s.toList == s.toList) = true := by simp
        have b9 : ((x1.size : Int) == (s.size : Int)) = true := by simp; omega
        have hmxm : wm.cell? ⟨0, 0, none⟩ = some (.int .i64 mx) := (HBM.out.cell (World.block_lt_of_cell? w _ HMX.out)).trans HMX.out
        have HFN := Lib.hid (fact_nil HW.out)
        have HBF : Hid (beforeR s t = Op.bytesLess s.toList t.toList) := by show _ = _; unfold beforeR; rw [HW.out, HTW.out]; rfl
        have HBS : Hid (beforeR s s = false) := by show _ = _; unfold beforeR; rw [HW.out, bl_self]; rfl
        go_wp2_with fail
        refine (implIsFactor s ⟨#[]⟩ mx _ hmxm hs (by decide)).mono ?_
        rintro e wn ⟨rfl, hb⟩
        rw [HFN.out]
        have HBN : Hid (Below w.heap.size w wn) := HBM.out.trans (hb.mono HBM.out.size)
        clear hb HBM
        go_wp2_with fail
        refine (implBeforeWord s t _ hs hts).mono ?_
        rintro e wo ⟨rfl, hb⟩
        rw [HBF.out]
        have HBO : Hid (Below w.heap.size w wo) := HBN.out.trans (hb.mono HBN.out.size)
        clear hb HBN
        obtain ⟨z, hz⟩ : ∃ z, Op.bytesLess s.toList t.toList = z := ⟨_, rfl⟩
        have b10 : (z == z) = true := by simp
        rw [hz]
        go_wp2_with fail
        refine (implBeforeWord s s _ hs hs).mono ?_
        rintro e wp ⟨rfl, hb⟩
        rw [HBS.out]
        have HBP : Hid (Below w.heap.size w wp) := HBO.out.trans (hb.mono HBO.out.size)
        clear hb HBO
        go_wp2_with fail
        go_ret
        exact ⟨rfl, HBP.out⟩
end Go.Proofs.Ytgfhconcmoepcaa
