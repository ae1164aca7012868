/- FnFactors: for every argument the law returns true. No condition. -/
import Derived.Test.YtfcbfflkajlhnaaMgU1
import Derived.Test.YtfcbfflkajlhnaaMgU24
import Derived.Test.YtfcbfflkajlhnaaMgU28
import Derived.Test.YtfcbfflkajlhnaaMgU29
import Derived.Test.YtfcbfflkajlhnaaMgU31
import Derived.Test.YtfcbfflkajlhnaaMgU10
import Derived.Test.YtfcbfflkajlhnaaMgU32
import Derived.Deep.DeepCutAuto
import Derived.Deep.RegionHeld3
import Derived.Deep.CutBlock
import Derived.Deep.LoopGhost
import Derived.Deep.QuietTactic
import Derived.BigQuiet
namespace Go.Proofs.Ytfcbfflkajlhnaa
open Go.ChangeShapes Go.WideShapes Go.ChangeAt Go.RowKit

set_option maxHeartbeats 4000000 in
set_option maxRecDepth 100000 in
theorem fnFactors_walk0 (zs : List Int) (v : Value) (w : World) (mx : Int) (hmx : w.cell? ⟨0, 0, none⟩ = some (.int .i64 mx)) (hl : Lst w v (bytesV zs)) (hzs : ∀ z ∈ zs, 0 ≤ z ∧ z ≤ 255) :
    Calls Try.prog 4 #[v] w fun e w' => e = .returned (.bool true) ∧ Below w.heap.size w w' := by
  have HMX := Lib.hid hmx
  have HLC := Lib.hid hl
  obtain ⟨Ac, cc, rfl, hcc1, hcc2, _⟩ := hl
  rw [bytesV_length] at hcc1 HLC ⊢
  have hmax : zs.length ≤ 9223372036854775807 := by unfold maxLen at hcc2; omega
  clear hcc1 hcc2 hmx
  by_cases hlen : ¬ zs.length ≤ 1048576
  · have hgt : 1048576 < zs.length := by omega
    go_enter Try.func4, Try.ntmps4
    go_wp2_with fail
    go_ret
    exact ⟨rfl, Below.refl _ _⟩
  have hlen : zs.length ≤ 1048576 := by omega
  have HZB : Hid (IsBytes zs) := ⟨hlen, hzs⟩
  clear hzs
  go_enter Try.func4, Try.ntmps4
  go_wp2_with fail
  refine (makeWord_any _ zs 0 20 _ HZB.out HLC.out (by omega) (by omega) (by omega)).mono ?_
  rintro e w1 ⟨s, rfl, hw, h20, hb⟩
  have HW := Lib.hid hw
  have HB1 := Lib.hid hb
  clear hb
  go_wp2_with fail
  refine (makeSize_gen _ zs 30 1 4 _ HZB.out (HLC.out.below HB1.out) (by omega) (by omega) (by omega) (by omega) (by omega) (by omega)).mono ?_
  rintro e w2 ⟨x, rfl, hx1, hx2, hb⟩
  obtain ⟨n, rfl⟩ : ∃ n : Nat, x = n := ⟨x.toNat, by omega⟩
  have h1 : 1 ≤ n := by omega
  have h2 : n ≤ 4 := by omega
  have HB2 : Hid (Below w.heap.size w w2) := HB1.out.trans (hb.mono HB1.out.size)
  clear hb hx1 hx2
  have hn1 : n ≤ 400 := by omega
  have hn2 : n + 1 ≤ 400 := by omega
  have hs : s.size ≤ 1048576 := by omega
  -- what the functions return
  have HFL := Lib.hid (fz_fct hw h1 hn1)
  have HFM0 := fz_fct hw (n := n + 1) (by omega) hn2
  have e1 : ((n + 1 : Nat) : Int) = (n : Int) + 1 := by omega
  rw [e1] at HFM0
  have HFM := Lib.hid HFM0
  have HGR := Lib.hid (fz_grf hw h1 hn1)
  have HCX := Lib.hid (fz_cpx hw h1 hn1)
  have HCF : Hid (cpxR (flipS s) n = ((fctL s n).length : Int)) := by
    show _ = _
    rw [fz_cpx (fz_flip hw) h1 hn1, flip_len]
  have HRS := Lib.hid (fz_spc hw h1 hn1 false)
  have HLS := Lib.hid (fz_spc hw h1 hn1 true)
  have HASC : Hid (Asc (fctL s n)) := facTo_asc _ _ _
  have hFl : (fctL s n).length ≤ 20 := by have := fctL_lim s n; omega
  have hMl : (fctL s (n + 1)).length ≤ 20 := by have := fctL_lim s (n + 1); omega
  have hRl : (spcL s n false).length ≤ 20 := Nat.le_trans (List.length_filter_le _ _) hFl
  have hSl : (spcL s n true).length ≤ 20 := Nat.le_trans (List.length_filter_le _ _) hFl
  have HEL := Lib.hid (edge_len s n)
  have HNE : Hid (n ≤ s.size → (fctL s n).length ≠ 0) := fun h e => fctL_some h (List.length_eq_zero_iff.1 e)
  clear HFM0 e1
  go_wp2_with fail
  refine (implFactorsOf s n _ hs).mono ?_
  rintro e w3 ⟨v3, rfl, ho, hb⟩
  rw [HFL.out] at ho
  obtain ⟨AL, cL, rfl⟩ := own_slice ho
  have HL3 := Lib.hid (Lst.of_own ho)
  have HB3 : Hid (Below w.heap.size w w3) := HB2.out.trans (hb.mono HB2.out.size)
  clear ho hb
  go_wp2_with fail
  refine (implFactorsOf s ((n : Int) + 1) _ hs).mono ?_
  rintro e w4 ⟨v4, rfl, ho, hb⟩
  rw [HFM.out] at ho
  obtain ⟨AM, cM, rfl⟩ := own_slice ho
  have HL4 := Lib.hid (HL3.out.below hb)
  have HM4 := Lib.hid (Lst.of_own ho)
  have HB4 : Hid (Below w.heap.size w w4) := HB3.out.trans (hb.mono HB3.out.size)
  clear ho hb HL3
  go_wp2_with fail
  refine (implGraphOf s n _ hs).mono ?_
  rintro e w5 ⟨v5, rfl, ho, hb⟩
  rw [HGR.out] at ho
  obtain ⟨AG, cG, rfl⟩ := mat_slice ho.mat
  have HL5 := Lib.hid (HL4.out.below hb)
  have HM5 := Lib.hid (HM4.out.below hb)
  have HG5 := Lib.hid ho.mat
  have HB5 : Hid (Below w.heap.size w w5) := HB4.out.trans (hb.mono HB4.out.size)
  clear ho hb HL4 HM4
  rw [HEL.out]
  have HSPF := Lib.hid (fun q (hq : q < (fctL s n).length) => fz_in (List.getElem_mem hq) false)
  have HSPT := Lib.hid (fun q (hq : q < (fctL s n).length) => fz_in (List.getElem_mem hq) true)
  have HROW : Hid (∀ q (hq : q < (fctL s n).length), (fctL s n)[q].size = n ∧ nxtR s (fctL s n)[q] false = nxtS s (fctL s n)[q] false ∧ nxtR s (fctL s n)[q] true = nxtS s (fctL s n)[q] true ∧ factR s (fctL s n)[q] = true) := fun q hq =>
    have hm := List.getElem_mem hq
    ⟨fct_sz (fct_lt hm) hm, fz_nxt hw hm false, fz_nxt hw hm true, fz_fact hw hm⟩
  have HSU : Hid (∀ b : Bool, ∃ SA : Nat → Nat, SA 0 = 0 ∧ (∀ q (hq : q < (fctL s n).length), SA (q + 1) = SA q + (nxtS s (fctL s n)[q] b).size) ∧ (∀ q, q ≤ (fctL s n).length → SA q ≤ 80) ∧ SA (fctL s n).length = (fctL s (n + 1)).length) := fun b =>
    ⟨sumQ s n b, rfl, fun q hq => sumQ_next s n b q hq, fun q hq => by have := sumQ_le s n b q hq; omega, sumQ_end hw n b⟩
  have HED : Hid (∀ i (hi : i < (fctL s (n + 1)).length) (hi' : i < (edgeL s n).length), ∃ (q1 q2 : Nat) (h1 : q1 < (fctL s n).length) (h2 : q2 < (fctL s n).length), (edgeL s n)[i] = [(q1 : Int), (q2 : Int)] ∧ (fctL s n)[q1] = (fctL s (n + 1))[i].extract 0 n ∧ (fctL s n)[q2] = (fctL s (n + 1))[i].extract 1 (fctL s (n + 1))[i].size) := fun i hi hi' => edge_row hi hi'
  have HMZ : Hid (∀ i (hi : i < (fctL s (n + 1)).length), (fctL s (n + 1))[i].size = n + 1) := fun i hi => fct_sz (fct_lt (List.getElem_mem hi)) (List.getElem_mem hi)
  obtain ⟨r, hr1, hr2, hr3, hr4⟩ := fz_rch hw h1 hn1
  have HRC := Lib.hid hr1
  have HR0 := Lib.hid hr3
  have HRP := Lib.hid hr4
  have HAL := Lib.hid (fz_all hw (by omega))
  have HTR := Lib.hid (fz_tri (s := s))
  have HCK : Hid (∀ k : Nat, 1 ≤ k → k ≤ s.size → cpxR s k = ((fctL s k).length : Int) ∧ allTo s k = allTo s (k - 1) + (fctL s k).length) := fun k hk hk2 => ⟨fz_cpx hw hk (by omega), by obtain ⟨j, rfl⟩ : ∃ j, k = j + 1 := ⟨k - 1, by omega⟩; rfl⟩
  have HA60 := Lib.hid (allTo_lim s (by omega))
  clear hr1 hr3 hr4
  generalize fctL s n = F at *
  generalize edgeL s n = E at *
  generalize spcL s n false = RS at *
  generalize spcL s n true = LS at *
  generalize fctL s (n + 1) = M at *
  go_upto_region 8 with (fail)
  go_cut [77] (fun b wx => b = .bool false ∧ Below w5.heap.size w5 wx)
  case first => as_aux_lemma =>
    by_cases hns : n ≤ s.size
    · have hf0 : ((F.length : Int) == 0) = false := by have := HNE.out hns; rw [beq_eq_false_iff_ne]; omega
      have dns : decide ((n : Int) ≤ (s.size : Int)) = true := by simp; omega
      go_wp2_with fail
      refine (risingC F _ _ HL5.out HASC.out (by omega)).mono ?_
      rintro e w6 ⟨rfl, hb⟩
      have HB6 := Lib.hid hb
      clear hb
      go_wp2_with fail
      refine (implComplexityOf s n _ hs).mono ?_
      rintro e w7 ⟨rfl, hb⟩
      have HB7 : Hid (Below w5.heap.size w5 w7) := HB6.out.trans (hb.mono HB6.out.size)
      rw [HCX.out]
      clear hb
      go_wp2_with fail
      refine (implComplexityOf s n _ hs).mono ?_
      rintro e w8 ⟨rfl, hb⟩
      have HB8 : Hid (Below w5.heap.size w5 w8) := HB7.out.trans (hb.mono HB7.out.size)
      rw [HCX.out]
      clear hb
      go_wp2_with fail
      refine (flipC s _ hs).mono ?_
      rintro e w9 ⟨rfl, hb⟩
      have HB9 : Hid (Below w5.heap.size w5 w9) := HB8.out.trans (hb.mono HB8.out.size)
      clear hb
      go_wp2_with fail
      refine (implComplexityOf (flipS s) n _ (by rw [flip_size]; exact hs)).mono ?_
      rintro e w10 ⟨rfl, hb⟩
      have HB10 : Hid (Below w5.heap.size w5 w10) := HB9.out.trans (hb.mono HB9.out.size)
      rw [HCF.out]
      clear hb
      go_wp2_with fail
      go_meet
      exact ⟨rfl, HB10.out⟩
    · have dns : decide ((n : Int) ≤ (s.size : Int)) = false := by simp; omega
      go_wp2_with fail
      refine (risingC F _ _ HL5.out HASC.out (by omega)).mono ?_
      rintro e w6 ⟨rfl, hb⟩
      have HB6 := Lib.hid hb
      clear hb
      go_wp2_with fail
      refine (implComplexityOf s n _ hs).mono ?_
      rintro e w7 ⟨rfl, hb⟩
      have HB7 : Hid (Below w5.heap.size w5 w7) := HB6.out.trans (hb.mono HB6.out.size)
      rw [HCX.out]
      clear hb
      go_wp2_with fail
      refine (implComplexityOf s n _ hs).mono ?_
      rintro e w8 ⟨rfl, hb⟩
      have HB8 : Hid (Below w5.heap.size w5 w8) := HB7.out.trans (hb.mono HB7.out.size)
      rw [HCX.out]
      clear hb
      go_wp2_with fail
      refine (flipC s _ hs).mono ?_
      rintro e w9 ⟨rfl, hb⟩
      have HB9 : Hid (Below w5.heap.size w5 w9) := HB8.out.trans (hb.mono HB8.out.size)
      clear hb
      go_wp2_with fail
      refine (implComplexityOf (flipS s) n _ (by rw [flip_size]; exact hs)).mono ?_
      rintro e w10 ⟨rfl, hb⟩
      have HB10 : Hid (Below w5.heap.size w5 w10) := HB9.out.trans (hb.mono HB9.out.size)
      rw [HCF.out]
      clear hb
      go_wp2_with fail
      go_meet
      exact ⟨rfl, HB10.out⟩
  case rest =>
    obtain ⟨rfl, hbx⟩ := hcut
    obtain ⟨wa, rfl⟩ : ∃ y : World, y = wc := ⟨_, rfl⟩
    have HBA := Lib.hid hbx
    clear hbx HASC HNE HCF
    go_wp2_with fail
    refine (implRightSpecial s n _ hs).mono ?_
    rintro e w6 ⟨v6, rfl, ho, hb⟩
    rw [HRS.out] at ho
    obtain ⟨AR, cR, rfl⟩ := own_slice ho
    have HR6 := Lib.hid (Lst.of_own ho)
    have HB6 : Hid (Below w5.heap.size w5 w6) := HBA.out.trans (hb.mono HBA.out.size)
    clear ho hb
    go_wp2_with fail
    refine (implLeftSpecial s n _ hs).mono ?_
    rintro e w7 ⟨v7, rfl, ho, hb⟩
    rw [HLS.out] at ho
    obtain ⟨AS, cS, rfl⟩ := own_slice ho
    have HS7 := Lib.hid (Lst.of_own ho)
    have HR7 := Lib.hid (HR6.out.below hb)
    have hb7 : Below w5.heap.size w5 w7 := HB6.out.trans (hb.mono HB6.out.size)
    have HL7 := Lib.hid (HL5.out.below hb7)
    have HM7 := Lib.hid (HM5.out.below hb7)
    have HG7 := Lib.hid (HG5.out.below hb7)
    have HB7 : Hid (Below w.heap.size w w7) := HB5.out.trans (hb7.mono HB5.out.size)
    have HMX7 : Hid (w7.cell? ⟨0, 0, none⟩ = some (.int .i64 mx)) := (HB7.out.cell (World.block_lt_of_cell? w _ HMX.out)).trans HMX.out
    clear ho hb hb7 HL5 HM5 HG5 HR6 HRS HLS HGR HFL HFM HCX
    go_upto_block 0 with (fail)
    go_cut [8, 9] (fun a b wx => a = .int .i64 (M.length : Int) ∧ b = .int .i64 (M.length : Int) ∧ Below w7.heap.size w7 wx)
    case first => as_aux_lemma =>
      obtain ⟨SA, ha0, ha1, ha2, ha3⟩ := HSU.out false
      obtain ⟨SB, hb0, hb1, hb2, hb3⟩ := HSU.out true
      have HA1 := Lib.hid ha1
      have HA2 := Lib.hid ha2
      have HA3 := Lib.hid ha3
      have HB1' := Lib.hid hb1
      have HB2' := Lib.hid hb2
      have HB3' := Lib.hid hb3
      clear ha1 ha2 ha3 hb1 hb2 hb3
      go_wp2_with fail
      go_loopw [8, 9, 86] (fun a b ix w' => ∃ q : Nat, q ≤ F.length ∧ ix = .int .i64 (q : Int) ∧ a = .int .i64 (SA q : Int) ∧ b = .int .i64 (SB q : Int) ∧ Below w7.heap.size w7 w') (fun _ _ ix _ => F.length - (intOf ix).toNat)
      case atStart => exact ⟨0, by omega, rfl, by rw [ha0]; rfl, by rw [hb0]; rfl, Below.refl _ _⟩
      case round =>
        obtain ⟨q, hq, rfl, rfl, rfl, hb⟩ := hrel
        obtain ⟨wq, rfl⟩ : ∃ y : World, y = wr := ⟨_, rfl⟩
        have HBQ := Lib.hid hb
        have hsa := HA2.out q hq
        have hsb := HB2'.out q hq
        clear hb ha0 hb0
        by_cases hlt : q < F.length
        · obtain ⟨bl, ol, cl', he, hcell⟩ := lst_at (HL7.out.below HBQ.out) (by omega)
          injection he with hA _ hc
          subst hA; subst hc
          have g1 := hcell q hlt
          obtain ⟨r1, r2, r3, r4⟩ := HROW.out q hlt
          have HIF := Lib.hid (HSPF.out q hlt)
          have HIT := Lib.hid (HSPT.out q hlt)
          have HN1 := Lib.hid (HA1.out q hlt)
          have HN2 := Lib.hid (HB1'.out q hlt)
          have z1 := nxt_le s F[q] false
          have z2 := nxt_le s F[q] true
          have HR2 := Lib.hid r2
          have HR3 := Lib.hid r3
          have HR4 := Lib.hid r4
          clear r2 r3 r4 hcell
          generalize F[q] = f at g1 r1 HIF HIT HN1 HN2 z1 z2 HR2 HR3 HR4
          generalize nxtS s f false = fa at HIF HN1 z1 HR2
          generalize nxtS s f true = fb at HIT HN2 z2 HR3
          have hfs : f.size ≤ 1048576 := by omega
          have HI1 : Hid (inB RS f = decide ((1 : Int) < (fa.size : Int))) := by
            show _ = _
            rw [HIF.out]
            exact decide_eq_decide.2 (by omega)
          have HI2 : Hid (inB LS f = decide ((1 : Int) < (fb.size : Int))) := by
            show _ = _
            rw [HIT.out]
            exact decide_eq_decide.2 (by omega)
          go_wp2_with fail
          refine (implFollowersOf s f _ hs hfs).mono ?_
          rintro e wx ⟨rfl, hb⟩
          rw [HR2.out]
          have HBX : Hid (Below w7.heap.size w7 wx) := HBQ.out.trans (hb.mono HBQ.out.size)
          clear hb
          go_wp2_with fail
          refine (implLeadersOf s f _ hs hfs).mono ?_
          rintro e wy ⟨rfl, hb⟩
          rw [HR3.out]
          have HBY : Hid (Below w7.heap.size w7 wy) := HBX.out.trans (hb.mono HBX.out.size)
          have HMY : Hid (wy.cell? ⟨0, 0, none⟩ = some (.int .i64 mx)) := (HBY.out.cell (World.block_lt_of_cell? w7 _ HMX7.out)).trans HMX7.out
          clear hb
          go_wp2_with fail
          refine (implIsFactor s f mx _ HMY.out hs hfs).mono ?_
          rintro e wz ⟨rfl, hb⟩
          rw [HR4.out]
          have HBZ : Hid (Below w7.heap.size w7 wz) := HBY.out.trans (hb.mono HBY.out.size)
          clear hb
          go_wp2_with fail
          refine (inC RS _ f _ (HR7.out.below HBZ.out) (by omega)).mono ?_
          rintro e w' ⟨rfl, rfl⟩
          rw [HI1.out]
          go_wp2_with fail
          refine (inC LS _ f _ (HS7.out.below HBZ.out) (by omega)).mono ?_
          rintro e w' ⟨rfl, rfl⟩
          rw [HI2.out]
          go_wp2_with fail
          go_roundw
          case rel => exact ⟨q + 1, by omega, by go_num, by rw [HN1.out]; go_num, by rw [HN2.out]; go_num, HBZ.out⟩
          case measure => simp [intOf]; omega
        · have hqq : q = F.length := by omega
          have HQ1 : Hid (SA q = M.length) := by show _ = _; rw [hqq, HA3.out]
          have HQ2 : Hid (SB q = M.length) := by show _ = _; rw [hqq, HB3'.out]
          go_wp2_with fail
          go_meet
          exact ⟨by rw [HQ1.out], by rw [HQ2.out], HBQ.out⟩
    case rest =>
      obtain ⟨rfl, rfl, hbx⟩ := hcut
      obtain ⟨wb, rfl⟩ : ∃ y : World, y = wc := ⟨_, rfl⟩
      have HBB := Lib.hid hbx
      clear hbx
      go_upto_block 2 with (fail)
      go_cut [16] (fun _ wx => Below w7.heap.size w7 wx)
      case first => as_aux_lemma =>
        go_wp2_with fail
        go_loopw [145] (fun ix w' => ∃ i : Nat, i ≤ M.length ∧ ix = .int .i64 (i : Int) ∧ Below w7.heap.size w7 w') (fun ix _ => M.length - (intOf ix).toNat)
        case atStart => exact ⟨0, by omega, rfl, HBB.out⟩
        case round =>
          obtain ⟨i, hi, rfl, hb⟩ := hrel
          obtain ⟨wi, rfl⟩ : ∃ y : World, y = wr := ⟨_, rfl⟩
          have HBI := Lib.hid hb
          clear hb
          by_cases hlt : i < M.length
          · have hie : i < E.length := by rw [HEL.out]; exact hlt
            obtain ⟨bg, og, cg', heg, _, _, hrows⟩ := mat_rows (HG7.out.below HBI.out) (by omega)
            rw [HEL.out] at heg
            injection heg with hA _ hc
            subst hA; subst hc
            obtain ⟨u, gu, lu⟩ := hrows i hie
            obtain ⟨q1, q2, hq1, hq2, hE, hF1, hF2⟩ := HED.out i hlt hie
            rw [hE] at lu
            obtain ⟨bl, ol, cl', he, hcell⟩ := lst_at (HL7.out.below HBI.out) (by omega)
            injection he with hA _ hc
            subst hA; subst hc
            obtain ⟨bm, om, cm', he, hcellm⟩ := lst_at (HM7.out.below HBI.out) (by omega)
            injection he with hA _ hc
            subst hA; subst hc
            have g1 := hcell q1 hq1
            have g2 := hcell q2 hq2
            have g3 := hcellm i hlt
            have hmz := HMZ.out i hlt
            rw [hF1] at g1
            rw [hF2] at g2
            obtain ⟨Ar, cr, hur, hcr, _, hrow⟩ := lu
            subst hur
            obtain ⟨br, or, hAr, hrc⟩ := hrow.resolve_left (by simp [ints])
            subst hAr
            have c0 : wi.cell? ⟨br, or, none⟩ = some (.int .i64 (q1 : Int)) := hrc 0 _ (by simp [ints])
            have c1 : wi.cell? ⟨br, or + 1, none⟩ = some (.int .i64 (q2 : Int)) := hrc 1 _ (by simp [ints])
            have hl2 : (ints [(q1 : Int), (q2 : Int)]).length = 2 := rfl
            rw [hl2] at gu hcr
            generalize M[i] = f at g1 g2 g3 hmz
            have hsl1 : ∀ w : World, (Instr.slice 9 (.string f) none (some (.int .i64 (n : Int))) none).run Try.prog w = .ok (.string (f.extract 0 n)) w := fun w => by
              rw [run_slice_string_to_if (P := Try.prog) w 9 f .i64 (n : Int) Try.underlying9, if_pos ⟨by omega, by omega⟩, Int.toNat_natCast]
            have hsl2 : ∀ w : World, (Instr.slice 9 (.string f) (some (.int .i64 (1 : Int))) none none).run Try.prog w = .ok (.string (f.extract 1 f.size)) w := fun w => by
              rw [run_slice_string_from_if (P := Try.prog) w 9 f .i64 (1 : Int) Try.underlying9, if_pos ⟨by omega, by omega⟩]
              rfl
            have b1 : ((f.extract 0 n).toList != (f.extract 0 n).toList) = false := by simp
            have b2 : ((f.extract 1 f.size).toList != (f.extract 1 f.size).toList) = false := by simp
            have d1 : decide ((F.length : Int) ≤ (q1 : Int)) = false := by simp; omega
            have d2 : decide ((F.length : Int) ≤ (q2 : Int)) = false := by simp; omega
            clear hcell hcellm hrows hrow hrc hE hF1 hF2
            generalize f.extract 0 n = f1 at g1 hsl1 b1
            generalize f.extract 1 f.size = f2 at g2 hsl2 b2
            have dn1 : decide (F.length ≤ q1) = false := by simp; omega
            have dn2 : decide (F.length ≤ q2) = false := by simp; omega
            have n1 : decide ((q1 : Int) < 0) = false := by simp
            have n2 : decide ((q2 : Int) < 0) = false := by simp
            have i1 : (0 : Int) ≤ (q1 : Int) := by omega
            have i2 : (0 : Int) ≤ (q2 : Int) := by omega
            have i3 : (q1 : Int) < (F.length : Int) := by omega
            have i4 : (q2 : Int) < (F.length : Int) := by omega
            have i5 : (0 : Int) ≤ (i : Int) := by omega
            have i6 : (i : Int) < (M.length : Int) := by omega
            go_wp2_with fail
            go_region_held3 (fun w' => w'.cell? ⟨br, or, none⟩ = some (.int .i64 (q1 : Int)) ∧ w'.cell? ⟨br, or + 1, none⟩ = some (.int .i64 (q2 : Int)) ∧ w'.cell? ⟨bl, ol + q1, none⟩ = some (.string f1) ∧ w'.cell? ⟨bl, ol + q2, none⟩ = some (.string f2) ∧ w'.cell? ⟨bm, om + i, none⟩ = some (.string f)) (go_keep) (fail)
            go_wp2_with fail
            go_roundw
            case rel => exact ⟨i + 1, by omega, by go_num, below_drewN HBI.out 1⟩
            case measure => simp [intOf]; omega
          · go_wp2_with fail
            go_meet
            exact HBI.out
      case rest =>
        obtain ⟨wd, rfl⟩ : ∃ y : World, y = wc := ⟨_, rfl⟩
        have HBD := Lib.hid hcut
        clear hcut
        go_wp2_with fail
        refine (implReachOf s n _ hs).mono ?_
        rintro e w8 ⟨rfl, hb⟩
        have HB8 : Hid (Below w7.heap.size w7 w8) := HBD.out.trans (hb.mono HBD.out.size)
        rw [HRC.out]
        clear hb
        go_upto_block 4 with (fail)
        go_cut [19] (fun _ wx => Below w7.heap.size w7 wx)
        case first => as_aux_lemma =>
          go_wp2_with fail
          go_loopw [19] (fun ix w' => ∃ i : Nat, i ≤ s.size + 1 ∧ ix = .int .i64 (i : Int) ∧ Below w7.heap.size w7 w') (fun ix _ => s.size + 2 - (intOf ix).toNat)
          case atStart => exact ⟨0, by omega, rfl, HB8.out⟩
          case round =>
            obtain ⟨i, hi, rfl, hb⟩ := hrel
            obtain ⟨wi, rfl⟩ : ∃ y : World, y = wr := ⟨_, rfl⟩
            have HBI := Lib.hid hb
            clear hb
            by_cases hr0 : 0 < r
            · have dr : decide ((0 : Int) < (r : Int)) = true := by simp; omega
              by_cases hlt : i + r ≤ s.size
              · have dlt : decide ((i : Int) + (r : Int) ≤ (s.size : Int)) = true := by simp; omega
                have hsl : ∀ w : World, (Instr.slice 9 (.string s) (some (.int .i64 (i : Int))) (some (.int .i64 ((i : Int) + (r : Int)))) none).run Try.prog w = .ok (.string (s.extract i (i + r))) w := fun w => slice_at Try.underlying9 s i r w hlt
                have HCP := Lib.hid (HRP.out i hr0 hlt)
                have hps : (s.extract i (i + r)).size ≤ 1048576 := by rw [ByteArray.size_extract]; omega
                generalize s.extract i (i + r) = pt at hsl HCP hps
                go_wp2_with fail
                refine (implComplexityOf pt n _ hps).mono ?_
                rintro e wy ⟨rfl, hb⟩
                rw [HCP.out]
                have HBY : Hid (Below w7.heap.size w7 wy) := HBI.out.trans (hb.mono HBI.out.size)
                clear hb
                go_wp2_with fail
                go_roundw
                case rel => exact ⟨i + 1, by omega, by go_num, HBY.out⟩
                case measure => simp [intOf]; omega
              · have dlt : decide ((i : Int) + (r : Int) ≤ (s.size : Int)) = false := by simp; omega
                go_wp2_with fail
                go_meet
                exact HBI.out
            · have dr : decide ((0 : Int) < (r : Int)) = false := by simp; omega
              go_wp2_with fail
              go_meet
              exact HBI.out
        case rest =>
          obtain ⟨we, rfl⟩ : ∃ y : World, y = wc := ⟨_, rfl⟩
          have HBE := Lib.hid hcut
          clear hcut
          go_upto_block 6 with (fail)
          go_cut [20] (fun a wx => a = .int .i64 (allTo s s.size : Int) ∧ Below w7.heap.size w7 wx)
          case first => as_aux_lemma =>
            go_wp2_with fail
            go_loopw [20, 21] (fun a ix w' => ∃ k : Nat, k ≤ s.size ∧ ix = .int .i64 ((k : Int) + 1) ∧ a = .int .i64 (allTo s k : Int) ∧ Below w7.heap.size w7 w') (fun _ ix _ => s.size + 2 - (intOf ix).toNat)
            case atStart => exact ⟨0, by omega, rfl, rfl, HBE.out⟩
            case round =>
              obtain ⟨k, hk, rfl, rfl, hb⟩ := hrel
              obtain ⟨wi, rfl⟩ : ∃ y : World, y = wr := ⟨_, rfl⟩
              have HBI := Lib.hid hb
              have hak := HA60.out k
              clear hb
              by_cases hlt : k < s.size
              · have dlt : decide ((k : Int) + 1 ≤ (s.size : Int)) = true := by simp; omega
                obtain ⟨hc1, hc2⟩ := HCK.out (k + 1) (by omega) (by omega)
                have e1 : ((k + 1 : Nat) : Int) = (k : Int) + 1 := by omega
                rw [e1] at hc1
                rw [Nat.add_sub_cancel] at hc2
                have hfl := fctL_lim s (k + 1)
                have HC1 := Lib.hid hc1
                have HC2 := Lib.hid hc2
                clear hc1 hc2
                go_wp2_with fail
                refine (implComplexityOf s ((k : Int) + 1) _ hs).mono ?_
                rintro e wy ⟨rfl, hb⟩
                rw [HC1.out]
                have HBY : Hid (Below w7.heap.size w7 wy) := HBI.out.trans (hb.mono HBI.out.size)
                clear hb
                generalize (fctL s (k + 1)).length = fl at HC2 hfl ⊢
                go_wp2_with fail
                go_roundw
                case rel => exact ⟨k + 1, by omega, by go_num, by rw [HC2.out]; go_num, HBY.out⟩
                case measure => simp [intOf]; omega
              · have dlt : decide ((k : Int) + 1 ≤ (s.size : Int)) = false := by simp; omega
                have hkk : k = s.size := by omega
                have HE : Hid ((allTo s k : Int) = (allTo s s.size : Int)) := by show _ = _; rw [hkk]
                clear hkk
                go_wp2_with fail
                go_meet
                exact ⟨by rw [HE.out], HBI.out⟩
          case rest =>
            obtain ⟨rfl, hbx⟩ := hcut
            obtain ⟨wf, rfl⟩ : ∃ y : World, y = wc := ⟨_, rfl⟩
            have HBF := Lib.hid hbx
            clear hbx
            go_wp2_with fail
            refine (implAllFactors s _ hs).mono ?_
            rintro e w9 ⟨rfl, hb⟩
            rw [HAL.out]
            have HB9 : Hid (Below w.heap.size w w9) := HB7.out.trans ((HBF.out.trans (hb.mono HBF.out.size)).mono HB7.out.size)
            clear hb
            have htri : (allTo s s.size : Int) ≤ wrap64 ((wrap64 ((s.size : Int) * ((s.size : Int) + 1))).tdiv 2) := by
              have h := HTR.out
              have hp : (s.size : Int) * ((s.size : Int) + 1) ≤ 20 * 21 := Int.mul_le_mul (by omega) (by omega) (by omega) (by omega)
              have hp0 : 0 ≤ (s.size : Int) * ((s.size : Int) + 1) := Int.mul_nonneg (by omega) (by omega)
              generalize (s.size : Int) * ((s.size : Int) + 1) = P at h hp hp0
              have e1 : wrap64 P = P := (by unfold wrap64; omega)
              have e2 : wrap64 (P / 2) = P / 2 := by unfold wrap64; omega
              rw [e1, Int.tdiv_eq_ediv_of_nonneg hp0, e2]
              exact h
            have hrf : (((r : Int) == 0) == ((F.length : Int) == 0)) = true := by
              have h := HR0.out
              by_cases hr0 : r = 0
              · rw [h.1 hr0, hr0]; rfl
              · have hf : F.length ≠ 0 := fun e => hr0 (h.2 e)
                have e1 : ((r : Int) == 0) = false := by rw [beq_eq_false_iff_ne]; omega
                have e2 : ((F.length : Int) == 0) = false := by rw [beq_eq_false_iff_ne]; omega
                rw [e1, e2]; rfl
            go_wp2_with fail
            go_ret
            exact ⟨rfl, HB9.out⟩

set_option maxRecDepth 100000 in
theorem fnFactors_walk {H : Type} {enc : TypeId × Value → H} {base : Nat} {r : Reach} {b0 : Nat} {d0 : DataW H} {ps0 : List MemPlace} (v0 : Value) (w : World) (m : Int) (hm : w.cell? ⟨0, 0, none⟩ = some (.int .i64 m)) (hval0 : Value.okWide Try.prog w r b0 22 v0) (h0 : DataW.Trod enc Try.prog w base (fun _ => true) true 22 v0 d0 ps0) :
    Calls Try.prog 4 #[v0] w fun e w' => e = .returned (.bool true) ∧ Below w.heap.size w w' := by
  obtain ⟨zs, hl, hz⟩ := bytes_arg Try.underlying22 Try.underlying5 (by kernel_rfl) hval0 h0
  exact fnFactors_walk0 zs v0 w m hm hl hz

set_option maxRecDepth 100000 in
theorem fnFactors_row (os : Os) (started : os.Started) (H : Type) (enc : TypeId × Value → H) :
    ReturnsInHanded {} Try.checked os 4 .any (Rows.fnFactorsSpec.pre6 enc Try.prog Try.f4 Rows.fnFactorsRow.domain false) (Rows.fnFactorsSpec.post enc Try.prog Try.f4 false true false false) :=
  lawLiftedS (C := Try.checked) ownKnobs started (by kernel_rfl) Try.func4 laidOut (by kernel_rfl) (by kernel_rfl) Try.underlying4 rfl
    (fun ds h => by match ds, h with | [_], _ => rfl)
    (ChangeSpec.witness6 (enc := enc) (C := Try.checked) false ⟨#[], #[.slice none 0 0], []⟩ 8 (by kernel_rfl) (by kernel_rfl) (by kernel_rfl) (by kernel_rfl))
    (fun W base args ds p hsh hval0 hA0 hlt => by
      have hval : ∀ (j : Nat) t v, Try.f4.params[j]? = some t → args[j]? = some v → Value.okWide Try.prog W .any base t v := hval0
      have hA : DataW.TrodAll enc Try.prog W 0 (fun _ => true) true Try.f4.params.toList args.toList ds p := hA0
      clear hval0 hA0
      rw [Try.params4] at hA hval
      obtain ⟨v0, d0, rfl, rfl, h0⟩ := trodAll_one hA
      obtain ⟨m, hm⟩ := Try.laysM144.s1_3 W hsh
      exact fnFactors_walk v0 W m hm (hval 0 22 v0 rfl rfl) h0)

theorem fnFactors_holds : Rows.FnFactorsSaid :=
  OpenClaim.holds_of_wide 4 Try.f4 rfl rfl rfl rfl rfl rfl rfl ⟨rfl, rfl, rfl, rfl, rfl⟩ rfl rfl rfl rfl rfl (by kernel_rfl) Try.func4 (by kernel_rfl)
    (of_decide_eq_true (by kernel_rfl)) (by unfold Func.isWrapper; first | (rw [if_pos (by decide +kernel)]; kernel_rfl) | (rw [if_neg (by decide +kernel)]; exact ⟨rfl, rfl⟩))
    (fun os started H enc _ => fnFactors_row os started H enc)

end Go.Proofs.Ytfcbfflkajlhnaa
