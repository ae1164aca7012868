/- Texts put together. -/
import Derived.Test.YthckpgfhldocdaaMgp1
import Derived.Test.YthckpgfhldocdaaMgp18
import Derived.Test.YthckpgfhldocdaaMgp21
import Derived.Test.YthckpgfhldocdaaMgp22
import Derived.Test.YthckpgfhldocdaaMgp23
import Derived.Test.YthckpgfhldocdaaMgp24
import Derived.Test.YthckpgfhldocdaaMgp26
import Derived.Test.YthckpgfhldocdaaMgp31
import Derived.Deep.DeepCutAuto
import Derived.Deep.RegionHeld3
import Derived.Deep.RegionWith
import Derived.Deep.CutBlock
import Derived.Deep.LoopGhost
import Derived.Deep.QuietTactic
import Derived.BigQuiet
/- The walk of FnPowers. -/
namespace Go.Proofs.Ythckpgfhldocdaa
open Go.ChangeShapes Go.WideShapes Go.ChangeAt Go.RowKit

set_option maxHeartbeats 40000000 in
set_option maxRecDepth 100000 in
theorem fnPowers_walk0 (zs : List Int) (v : Value) (w : World) (mx : Int) (hmx : w.cell? ⟨0, 0, none⟩ = some (.int .i64 mx)) (hl : Lst w v (bytesV zs)) (hzs : ∀ z ∈ zs, 0 ≤ z ∧ z ≤ 255) :
    Calls Try.prog 3 #[v] w fun e w' => e = .returned (.bool true) ∧ Below w.heap.size w w' := by
  have HMX := Lib.hid hmx
  have HLC := Lib.hid hl
  obtain ⟨Ac, cc, rfl, hcc1, hcc2, _⟩ := hl
  rw [bytesV_length] at hcc1 HLC ⊢
  have hmax : zs.length ≤ 9223372036854775807 := by unfold maxLen at hcc2; omega
  clear hcc1 hcc2 hmx
  by_cases hlen : ¬ zs.length ≤ 1048576
  · have hgt : 1048576 < zs.length := by omega
    go_enter Try.func3, Try.ntmps3
    go_wp2_with fail
    go_ret
    exact ⟨rfl, Below.refl _ _⟩
  have hlen : zs.length ≤ 1048576 := by omega
  have HZB : Hid (IsBytes zs) := ⟨hlen, hzs⟩
  clear hzs
  go_enter Try.func3, Try.ntmps3
  go_wp2_with fail
  refine (makeWord_any _ zs 0 16 _ HZB.out HLC.out (by omega) (by omega) (by omega)).mono ?_
  rintro e w1 ⟨s, rfl, hw, h16, hb⟩
  have HW := Lib.hid hw
  have HB1 := Lib.hid hb
  clear hb
  have hs : s.size ≤ 1048576 := by omega
  have hs7 : s.size ≤ 1048577 := by omega
  have HF5 := Lib.hid (fp_five hw (show s.size ≤ 60 by omega))
  have HLN := Lib.hid (fp_len0 hw (show s.size ≤ 60 by omega))
  have HQ1 := Lib.hid (fp_q1 hw)
  have HASC := Lib.hid (fp_asc hw (show s.size ≤ 60 by omega))
  have HMEM : Hid (∀ q (hq : q < (pwR s).length), ∃ k, 1 ≤ k ∧ (pwR s)[q].size = 2 * k ∧ (pwR s)[q].extract 0 k = (pwR s)[q].extract k (2 * k) ∧ (pwR s)[q].size ≤ s.size ∧ factR s (pwR s)[q] = true) := fun q hq => fp_mem hw (by omega) (List.getElem_mem hq)
  have HFS := Lib.hid (fp_first hw)
  obtain ⟨r, hr1, hr2, hr3, hr4, hr5⟩ := fp_lrun hw
  have HR1 := Lib.hid hr1
  have HR2 := Lib.hid hr2
  have HR3 := Lib.hid hr3
  have HR4 := Lib.hid hr4
  have HX := Lib.hid (fp_ext s)
  have hPl : (pwR s).length ≤ 915 := pwR_le s
  have HG60 : Hid ((gexR s).1 ≤ 60 ∧ (gexR s).2 ≤ 60) := by
    by_cases h : 1 ≤ s.size
    · have := fp_gex1 hw h (by omega)
      exact ⟨this.1, this.2.1⟩
    · have := (fp_gex0 (s := s) (by omega)).1
      show _ ∧ _
      rw [this]
      exact ⟨Nat.zero_le _, Nat.zero_le _⟩
  clear hr1 hr2 hr3 hr4
  generalize hsq : freeR s 1 0 = sq at HF5 HLN HQ1 HFS HR2 HX
  generalize hov : freeR s 1 1 = ov at HF5
  generalize hcu : freeR s 2 0 = cu at HF5 HR4
  have ESQ := Lib.hid hsq
  have EOV := Lib.hid hov
  have ECU := Lib.hid hcu
  generalize hbe : s.toList.isEmpty = bE at HF5 HR3
  have EBE := Lib.hid hbe
  clear hsq hov hcu hbe
  go_wp2_with fail
  refine (implSquaresIn s _ hs).mono ?_
  rintro e w3 ⟨v3, rfl, ho, hb⟩
  obtain ⟨AL, cL, rfl⟩ := own_slice ho
  have HL3 := Lib.hid (Lst.of_own ho)
  have HB3 : Hid (Below w.heap.size w w3) := HB1.out.trans (hb.mono HB1.out.size)
  clear ho hb
  generalize pwR s = L at *
  go_wp2_with fail
  refine (implIsSquareFree s _ hs7).mono ?_
  rintro e w4 ⟨rfl, hb⟩
  rw [ESQ.out]
  have HL4 := Lib.hid (HL3.out.below hb)
  have HB4 : Hid (Below w.heap.size w w4) := HB3.out.trans (hb.mono HB3.out.size)
  clear hb HL3
  go_wp2_with fail
  refine (implFirstSquare s _ hs).mono ?_
  rintro e w5 ⟨rfl, hb⟩
  have HL5 := Lib.hid (HL4.out.below hb)
  have HB5 : Hid (Below w.heap.size w w5) := HB4.out.trans (hb.mono HB4.out.size)
  clear hb HL4
  generalize fsqR1 s = q1 at *
  generalize fsqR2 s = q2 at *
  go_wp2_with fail
  refine (implGreatestExponent s _ hs).mono ?_
  rintro e w6 ⟨rfl, hb⟩
  have HL6 := Lib.hid (HL5.out.below hb)
  have HB6 : Hid (Below w.heap.size w w6) := HB5.out.trans (hb.mono HB5.out.size)
  clear hb HL5
  have hn60 := HG60.out.1
  have hp60 := HG60.out.2
  generalize (gexR s).1 = n at *
  generalize (gexR s).2 = p at *
  go_upto_region 8 with (fail)
  go_cut [108] (fun b wx => b = .bool false ∧ Below w6.heap.size w6 wx)
  case first => as_aux_lemma =>
    obtain ⟨hf5, d2⟩ := HF5.out
    have be := EBE.out
    have hL0 := HLN.out
    have hq := HQ1.out
    rcases hf5 with ⟨rfl, rfl, rfl, rfl, d1, d3⟩ | ⟨rfl, rfl, rfl, rfl, d1, d3⟩ | ⟨rfl, rfl, rfl, rfl, d1, d3⟩ | ⟨rfl, rfl, rfl, rfl, d1, d3⟩ | ⟨rfl, rfl, rfl, rfl, d1, d3⟩
    · as_aux_lemma =>
        go_wp2_with fail
        refine (risingC L _ _ HL6.out HASC.out (by omega)).mono ?_
        rintro e wa0 ⟨rfl, hb⟩
        have HB_wa0 : Hid (Below w6.heap.size w6 wa0) := Lib.hid hb
        clear hb
        go_wp2_with fail
        refine (implIsOverlapFree s _ hs7).mono ?_
        rintro e wa1 ⟨rfl, hb⟩
        rw [EOV.out]
        have HB_wa1 : Hid (Below w6.heap.size w6 wa1) := HB_wa0.out.trans (hb.mono HB_wa0.out.size)
        clear hb
        go_wp2_with fail
        refine (implIsOverlapFree s _ hs7).mono ?_
        rintro e wa2 ⟨rfl, hb⟩
        rw [EOV.out]
        have HB_wa2 : Hid (Below w6.heap.size w6 wa2) := HB_wa1.out.trans (hb.mono HB_wa1.out.size)
        clear hb
        go_wp2_with fail
        refine (implIsCubeFree s _ hs7).mono ?_
        rintro e wa3 ⟨rfl, hb⟩
        rw [ECU.out]
        have HB_wa3 : Hid (Below w6.heap.size w6 wa3) := HB_wa2.out.trans (hb.mono HB_wa2.out.size)
        clear hb
        go_wp2_with fail
        refine (implIsOverlapFree s _ hs7).mono ?_
        rintro e wa4 ⟨rfl, hb⟩
        rw [EOV.out]
        have HB_wa4 : Hid (Below w6.heap.size w6 wa4) := HB_wa3.out.trans (hb.mono HB_wa3.out.size)
        clear hb
        go_wp2_with fail
        refine (implIsCubeFree s _ hs7).mono ?_
        rintro e wa5 ⟨rfl, hb⟩
        rw [ECU.out]
        have HB_wa5 : Hid (Below w6.heap.size w6 wa5) := HB_wa4.out.trans (hb.mono HB_wa4.out.size)
        clear hb
        go_wp2_with fail
        go_meet
        exact ⟨rfl, HB_wa5.out⟩
    · as_aux_lemma =>
        go_wp2_with fail
        refine (risingC L _ _ HL6.out HASC.out (by omega)).mono ?_
        rintro e wa0 ⟨rfl, hb⟩
        have HB_wa0 : Hid (Below w6.heap.size w6 wa0) := Lib.hid hb
        clear hb
        go_wp2_with fail
        refine (implIsOverlapFree s _ hs7).mono ?_
        rintro e wa1 ⟨rfl, hb⟩
        rw [EOV.out]
        have HB_wa1 : Hid (Below w6.heap.size w6 wa1) := HB_wa0.out.trans (hb.mono HB_wa0.out.size)
        clear hb
        go_wp2_with fail
        refine (implIsOverlapFree s _ hs7).mono ?_
        rintro e wa2 ⟨rfl, hb⟩
        rw [EOV.out]
        have HB_wa2 : Hid (Below w6.heap.size w6 wa2) := HB_wa1.out.trans (hb.mono HB_wa1.out.size)
        clear hb
        go_wp2_with fail
        refine (implIsCubeFree s _ hs7).mono ?_
        rintro e wa3 ⟨rfl, hb⟩
        rw [ECU.out]
        have HB_wa3 : Hid (Below w6.heap.size w6 wa3) := HB_wa2.out.trans (hb.mono HB_wa2.out.size)
        clear hb
        go_wp2_with fail
        refine (implIsOverlapFree s _ hs7).mono ?_
        rintro e wa4 ⟨rfl, hb⟩
        rw [EOV.out]
        have HB_wa4 : Hid (Below w6.heap.size w6 wa4) := HB_wa3.out.trans (hb.mono HB_wa3.out.size)
        clear hb
        go_wp2_with fail
        refine (implIsCubeFree s _ hs7).mono ?_
        rintro e wa5 ⟨rfl, hb⟩
        rw [ECU.out]
        have HB_wa5 : Hid (Below w6.heap.size w6 wa5) := HB_wa4.out.trans (hb.mono HB_wa4.out.size)
        clear hb
        go_wp2_with fail
        go_meet
        exact ⟨rfl, HB_wa5.out⟩
    · as_aux_lemma =>
        go_wp2_with fail
        refine (risingC L _ _ HL6.out HASC.out (by omega)).mono ?_
        rintro e wa0 ⟨rfl, hb⟩
        have HB_wa0 : Hid (Below w6.heap.size w6 wa0) := Lib.hid hb
        clear hb
        go_wp2_with fail
        refine (implIsOverlapFree s _ hs7).mono ?_
        rintro e wa1 ⟨rfl, hb⟩
        rw [EOV.out]
        have HB_wa1 : Hid (Below w6.heap.size w6 wa1) := HB_wa0.out.trans (hb.mono HB_wa0.out.size)
        clear hb
        go_wp2_with fail
        refine (implIsCubeFree s _ hs7).mono ?_
        rintro e wa2 ⟨rfl, hb⟩
        rw [ECU.out]
        have HB_wa2 : Hid (Below w6.heap.size w6 wa2) := HB_wa1.out.trans (hb.mono HB_wa1.out.size)
        clear hb
        go_wp2_with fail
        refine (implIsOverlapFree s _ hs7).mono ?_
        rintro e wa3 ⟨rfl, hb⟩
        rw [EOV.out]
        have HB_wa3 : Hid (Below w6.heap.size w6 wa3) := HB_wa2.out.trans (hb.mono HB_wa2.out.size)
        clear hb
        go_wp2_with fail
        refine (implIsCubeFree s _ hs7).mono ?_
        rintro e wa4 ⟨rfl, hb⟩
        rw [ECU.out]
        have HB_wa4 : Hid (Below w6.heap.size w6 wa4) := HB_wa3.out.trans (hb.mono HB_wa3.out.size)
        clear hb
        go_wp2_with fail
        go_meet
        exact ⟨rfl, HB_wa4.out⟩
    · as_aux_lemma =>
        go_wp2_with fail
        refine (risingC L _ _ HL6.out HASC.out (by omega)).mono ?_
        rintro e wa0 ⟨rfl, hb⟩
        have HB_wa0 : Hid (Below w6.heap.size w6 wa0) := Lib.hid hb
        clear hb
        go_wp2_with fail
        refine (implIsOverlapFree s _ hs7).mono ?_
        rintro e wa1 ⟨rfl, hb⟩
        rw [EOV.out]
        have HB_wa1 : Hid (Below w6.heap.size w6 wa1) := HB_wa0.out.trans (hb.mono HB_wa0.out.size)
        clear hb
        go_wp2_with fail
        refine (implIsOverlapFree s _ hs7).mono ?_
        rintro e wa2 ⟨rfl, hb⟩
        rw [EOV.out]
        have HB_wa2 : Hid (Below w6.heap.size w6 wa2) := HB_wa1.out.trans (hb.mono HB_wa1.out.size)
        clear hb
        go_wp2_with fail
        refine (implIsCubeFree s _ hs7).mono ?_
        rintro e wa3 ⟨rfl, hb⟩
        rw [ECU.out]
        have HB_wa3 : Hid (Below w6.heap.size w6 wa3) := HB_wa2.out.trans (hb.mono HB_wa2.out.size)
        clear hb
        go_wp2_with fail
        go_meet
        exact ⟨rfl, HB_wa3.out⟩
    · as_aux_lemma =>
        go_wp2_with fail
        refine (risingC L _ _ HL6.out HASC.out (by omega)).mono ?_
        rintro e wa0 ⟨rfl, hb⟩
        have HB_wa0 : Hid (Below w6.heap.size w6 wa0) := Lib.hid hb
        clear hb
        go_wp2_with fail
        refine (implIsOverlapFree s _ hs7).mono ?_
        rintro e wa1 ⟨rfl, hb⟩
        rw [EOV.out]
        have HB_wa1 : Hid (Below w6.heap.size w6 wa1) := HB_wa0.out.trans (hb.mono HB_wa0.out.size)
        clear hb
        go_wp2_with fail
        refine (implIsOverlapFree s _ hs7).mono ?_
        rintro e wa2 ⟨rfl, hb⟩
        rw [EOV.out]
        have HB_wa2 : Hid (Below w6.heap.size w6 wa2) := HB_wa1.out.trans (hb.mono HB_wa1.out.size)
        clear hb
        go_wp2_with fail
        refine (implIsCubeFree s _ hs7).mono ?_
        rintro e wa3 ⟨rfl, hb⟩
        rw [ECU.out]
        have HB_wa3 : Hid (Below w6.heap.size w6 wa3) := HB_wa2.out.trans (hb.mono HB_wa2.out.size)
        clear hb
        go_wp2_with fail
        go_meet
        exact ⟨rfl, HB_wa3.out⟩
  case rest => as_aux_lemma =>
    obtain ⟨rfl, hbx⟩ := hcut
    obtain ⟨wa, rfl⟩ : ∃ y : World, y = wc := ⟨_, rfl⟩
    have HBA := Lib.hid hbx
    clear hbx HASC HLN HQ1
    go_upto_block 0 with (fail)
    go_cut [12] (fun _ wx => Below w6.heap.size w6 wx)
    case first => as_aux_lemma =>
      go_wp2_with fail
      go_loopw [111] (fun ix w' => ∃ q : Nat, q ≤ L.length ∧ ix = .int .i64 (q : Int) ∧ Below w6.heap.size w6 w') (fun ix _ => L.length - (intOf ix).toNat)
      case atStart => exact ⟨0, by omega, rfl, HBA.out⟩
      case round =>
        obtain ⟨q, hq, rfl, hb⟩ := hrel
        obtain ⟨wq, rfl⟩ : ∃ y : World, y = wr := ⟨_, rfl⟩
        have HBQ := Lib.hid hb
        clear hb
        by_cases hlt : q < L.length
        · obtain ⟨bl, ol, cl', he, hcell⟩ := lst_at (HL6.out.below HBQ.out) (by omega)
          injection he with hA hA2 hc
          subst hA; subst hc
          clear hA2
          have g1 := hcell q hlt
          obtain ⟨k, k1, k2, k3, k4, k5⟩ := HMEM.out q hlt
          have HFA := Lib.hid k5
          have HK2 := Lib.hid k2
          have HMQ : Hid (wq.cell? ⟨0, 0, none⟩ = some (.int .i64 mx)) := ((HB6.out.trans (HBQ.out.mono HB6.out.size)).cell (World.block_lt_of_cell? w _ HMX.out)).trans HMX.out
          clear hcell k5
          generalize L[q] = f at g1 k2 k3 k4 HFA HK2
          have hfs : f.size ≤ 1048576 := by omega
          have e0 : (f.size : Int).tdiv 2 = (k : Int) := by rw [Int.tdiv_eq_ediv_of_nonneg (by omega)]; omega
          have e1 : (f.size : Int) / 2 = (k : Int) := by omega
          have e2 : (f.size : Int).tmod 2 = 0 := by rw [Int.tmod_eq_emod_of_nonneg (by omega)]; omega
          have e3 : (f.size : Int) % 2 = 0 := by omega
          have d1 : decide ((f.size : Int) < 2) = false := by simp; omega
          have hlo : ∀ w : World, (Instr.slice 9 (.string f) none (some (.int .i64 (k : Int))) none).run Try.prog w = .ok (.string (f.extract 0 k)) w := fun w => half_lo Try.underlying9 f _ k w rfl (by omega)
          have hhi : ∀ w : World, (Instr.slice 9 (.string f) (some (.int .i64 (k : Int))) none none).run Try.prog w = .ok (.string (f.extract 0 k)) w := fun w => by
            rw [half_hi Try.underlying9 f _ k w rfl (by omega), k3, HK2.out]
          have b1 : ((f.extract 0 k).toList != (f.extract 0 k).toList) = false := by simp
          clear k2 k3
          generalize f.extract 0 k = x at hlo hhi b1
          go_upto_region 14 with (fail)
          go_cut [141] (fun b wx => b = .bool false ∧ Below w6.heap.size w6 wx)
          case first => as_aux_lemma =>
            go_wp2_with fail
            have HBC : Hid (Below w6.heap.size w6 wq.drew) := below_drewN HBQ.out 1
            go_region_held3 (fun w' => w'.cell? ⟨0, 0, none⟩ = some (.int .i64 mx))
              (first | exact HMQ.out | assumption | (go_simp; done))
              (first
                | (go_at_call 12
                   refine (implIsFactor s f mx _ (by exact HMQ.out) hs hfs).mono ?_
                   rintro e wz ⟨rfl, hb⟩
                   rw [HFA.out]
                   have hmz : wz.cell? ⟨0, 0, none⟩ = some (.int .i64 mx) := (hb.cell (World.block_lt_of_cell? wq _ HMQ.out)).trans HMQ.out
                   replace HBC : Hid (Below w6.heap.size w6 wz) := HBC.out.trans (hb.mono HBC.out.size)
                   clear hb))
            all_goals
              go_wp2_with fail
              go_meet
              exact ⟨rfl, HBC.out⟩
          case rest =>
            obtain ⟨rfl, hbx⟩ := hcut
            have HBY := Lib.hid hbx
            clear hbx
            go_wp2_with fail
            go_roundw
            case rel => exact ⟨q + 1, by omega, by go_num, HBY.out⟩
            case measure => simp [intOf]; omega
        · go_wp2_with fail
          go_meet
          exact HBQ.out
    case rest => as_aux_lemma =>
      obtain ⟨wb, rfl⟩ : ∃ y : World, y = wc := ⟨_, rfl⟩
      have HBB := Lib.hid hcut
      clear hcut HMEM HBA
      go_upto_region 17 with (fail)
      go_cut [186] (fun b wx => b = .bool false ∧ Below w6.heap.size w6 wx)
      case first => as_aux_lemma =>
        rcases HFS.out with ⟨rfl, hq1, hq2⟩ | ⟨rfl, e, h, h1, h2, h3, h4, h5, h6, h7⟩
        · subst hq1
          subst hq2
          have d1 : decide ((0 : Int) ≤ -1) = false := by decide
          clear HFS
          go_wp2_with fail
          go_quiet (fail)
          go_wp2_with fail
          go_meet
          exact ⟨rfl, below_drewN HBB.out nq⟩
        · have HE := Lib.hid h1
          have HH := Lib.hid h2
          have j1 : 1 ≤ q2 := by omega
          have j2 : 2 * q2 ≤ q1 := by omega
          have j3 : q1 ≤ (s.size : Int) := by omega
          have d1 : decide (0 ≤ q1) = true := by simp; omega
          have d2 : decide ((s.size : Int) < q1) = false := by simp; omega
          have d3 : decide (q2 < 1) = false := by simp; omega
          have d4 : decide (q1 < 2 * q2) = false := by simp; omega
          have p1 : IntKind.i64.wrap (2 * q2) = 2 * q2 := IntWalk.i64_in _ (by omega)
          have p2 : IntKind.i64.wrap (q1 - 2 * q2) = q1 - 2 * q2 := IntWalk.i64_in _ (by omega)
          have p3 : IntKind.i64.wrap (q1 - q2) = q1 - q2 := IntWalk.i64_in _ (by omega)
          have p4 : IntKind.i64.wrap (q1 - 1) = q1 - 1 := IntWalk.i64_in _ (by omega)
          have hs1 : ∀ w : World, (Instr.slice 9 (.string s) (some (.int .i64 (q1 - 2 * q2))) (some (.int .i64 (q1 - q2))) none).run Try.prog w = .ok (.string (s.extract (e - 2 * h) (e - h))) w := fun w => slice_gen Try.underlying9 s _ _ (e - 2 * h) (e - h) w (by omega) (by omega) (by omega) (by omega)
          have hs2 : ∀ w : World, (Instr.slice 9 (.string s) (some (.int .i64 (q1 - q2))) (some (.int .i64 q1)) none).run Try.prog w = .ok (.string (s.extract (e - 2 * h) (e - h))) w := fun w => by
            rw [h6]
            exact slice_gen Try.underlying9 s _ _ (e - h) e w (by omega) (by omega) (by omega) (by omega)
          have hs3 : ∀ w : World, (Instr.slice 9 (.string s) none (some (.int .i64 (q1 - 1))) none).run Try.prog w = .ok (.string (s.extract 0 (e - 1))) w := fun w => half_lo Try.underlying9 s _ (e - 1) w (by omega) (by omega)
          have hy : (s.extract 0 (e - 1)).size ≤ 1048577 := by rw [ByteArray.size_extract]; omega
          have HY7 := Lib.hid h7
          have b1 : ((s.extract (e - 2 * h) (e - h)).toList != (s.extract (e - 2 * h) (e - h)).toList) = false := by simp
          clear h1 h2 h3 h4 h5 h6 h7
          generalize s.extract (e - 2 * h) (e - h) = x1 at hs1 hs2 b1
          generalize s.extract 0 (e - 1) = y at hs3 hy HY7
          clear HE HH
          as_aux_lemma =>
            go_wp2_with fail
            have HBC : Hid (Below w6.heap.size w6 wb.drew) := below_drewN HBB.out 1
            go_region_held3 (fun _ => True) (trivial)
              (first
                | (go_at_call 6
                   refine (implIsSquareFree y _ hy).mono ?_
                   rintro e wz ⟨rfl, hb⟩
                   rw [HY7.out]
                   replace HBC : Hid (Below w6.heap.size w6 wz) := HBC.out.trans (hb.mono HBC.out.size)
                   clear hb))
            all_goals
              go_wp2_with fail
              go_meet
              exact ⟨rfl, HBC.out⟩
      case rest => as_aux_lemma =>
        obtain ⟨rfl, hbx⟩ := hcut
        obtain ⟨wd, rfl⟩ : ∃ y : World, y = wc := ⟨_, rfl⟩
        have HBD := Lib.hid hbx
        clear hbx HFS HBB
        go_wp2_with fail
        refine (implLongestRun s _ hs).mono ?_
        rintro e w7 ⟨rfl, hb⟩
        rw [HR1.out]
        have HB7 : Hid (Below w6.heap.size w6 w7) := HBD.out.trans (hb.mono HBD.out.size)
        clear hb HBD
        have hri : 0 ≤ (r : Int) := by omega
        have HRI : Hid ((1 < (r : Int) → sq = false) ∧ (2 < (r : Int) → cu = false)) := ⟨fun h => HR2.out (by omega), fun h => HR4.out (by omega)⟩
        have hrs : (r : Int) ≤ 400 := by omega
        have hr0 := HR3.out
        clear HR1 HR2 HR3 HR4 hr5
        generalize (r : Int) = ri at *
        go_upto_region 20 with (fail)
        go_cut [212] (fun b wx => b = .bool false ∧ Below w6.heap.size w6 wx)
        case first => as_aux_lemma =>
          have d0 : decide (ri < 0) = false := by simp; omega
          have be := EBE.out
          by_cases h1 : 1 < ri
          · have hsf := HRI.out.1 h1
            subst hsf
            have d1 : decide (1 < ri) = true := by simpa using h1
            by_cases h2 : 2 < ri
            · have hcf := HRI.out.2 h2
              subst hcf
              have d2 : decide (2 < ri) = true := by simpa using h2
              cases bE
              all_goals
                as_aux_lemma =>
                  go_wp2_with fail
                  refine (implIsCubeFree s _ hs7).mono ?_
                  rintro e w8 ⟨rfl, hb⟩
                  rw [ECU.out]
                  have HB8 : Hid (Below w6.heap.size w6 w8) := HB7.out.trans (hb.mono HB7.out.size)
                  clear hb
                  go_wp2_with fail
                  go_meet
                  exact ⟨rfl, HB8.out⟩
            · have d2 : decide (2 < ri) = false := by simpa using h2
              cases bE
              all_goals
                as_aux_lemma =>
                  go_wp2_with fail
                  go_meet
                  exact ⟨rfl, HB7.out⟩
          · have d1 : decide (1 < ri) = false := by simpa using h1
            have h2 : ¬ 2 < ri := by omega
            have d2 : decide (2 < ri) = false := by simpa using h2
            cases bE
            all_goals
              as_aux_lemma =>
                go_wp2_with fail
                go_meet
                exact ⟨rfl, HB7.out⟩
        case rest => as_aux_lemma =>
          obtain ⟨rfl, hbx⟩ := hcut
          obtain ⟨we, rfl⟩ : ∃ y : World, y = wc := ⟨_, rfl⟩
          have HBE := Lib.hid hbx
          clear hbx HRI HB7
          go_wp2_with fail
          refine (implExtendSquareFree s _ hs).mono ?_
          rintro e w9 ⟨rfl, hb⟩
          have HB9 : Hid (Below w6.heap.size w6 w9) := HBE.out.trans (hb.mono HBE.out.size)
          clear hb HBE
          generalize extR s = x at HX ⊢
          go_upto_region 23 with (fail)
          go_cut [239] (fun b wx => b = .bool false ∧ Below w6.heap.size w6 wx)
          case first => as_aux_lemma =>
            rcases HX.out with rfl | ⟨rfl, x1, x2, x3⟩
            · go_wp2_with fail
              go_meet
              exact ⟨rfl, HB9.out⟩
            · have bx : x.toList.isEmpty = false := by
                cases hb : x.toList with
                | nil =>
                  have e : x = ⟨#[]⟩ := bytes_ext (by rw [hb, ByteArray.toList_eq])
                  rw [e] at x1
                  have : (⟨#[]⟩ : ByteArray).size = 0 := rfl
                  omega
                | cons _ _ => rfl
              have bl : ((x.size : Int) != (s.size : Int) + 1) = false := by rw [x1]; simp
              have HX1 := Lib.hid x1
              have HX2 := Lib.hid x2
              have HX3 := Lib.hid x3
              have hx7 : x.size ≤ 1048577 := by omega
              have bm : (x.size : Int) = (s.size : Int) + 1 := by omega
              clear x1 x2 x3
              go_wp2_with fail
              refine (startsC x s HX2.out _).mono ?_
              rintro e w' ⟨rfl, rfl⟩
              go_wp2_with fail
              refine (implIsSquareFree x _ hx7).mono ?_
              rintro e wz ⟨rfl, hb⟩
              rw [HX3.out]
              have HBZ : Hid (Below w6.heap.size w6 wz) := HB9.out.trans (hb.mono HB9.out.size)
              clear hb
              go_wp2_with fail
              go_meet
              exact ⟨rfl, HBZ.out⟩
          case rest => as_aux_lemma =>
            obtain ⟨rfl, hbx⟩ := hcut
            obtain ⟨wf, rfl⟩ : ∃ y : World, y = wc := ⟨_, rfl⟩
            have HBF0 := Lib.hid hbx
            clear hbx HX HB9
            have HBF : Hid (Below w.heap.size w wf) := HB6.out.trans (HBF0.out.mono HB6.out.size)
            clear HB6 HBF0
            have HNT := Lib.hid (fun w => implNamedSubst thueT w (by decide))
            have HNQ := Lib.hid (fun w => implNamedSubst sqfT w (by decide))
            have HZT : Hid (∀ x ∈ namedL thueT, x.size ≤ 1048576) := pw_imgs thue_sub
            have HZQ : Hid (∀ x ∈ namedL sqfT, x.size ≤ 1048576) := pw_imgs sqf_sub
            have HLT : Hid ((namedL thueT).length ≤ 1048576) := by show (namedL thueT).length ≤ 1048576; rw [thue_named]; decide
            have HLQ : Hid ((namedL sqfT).length ≤ 1048576) := by show (namedL sqfT).length ≤ 1048576; rw [sqf_named]; decide
            have HFT : Hid (∀ x : Int, 0 ≤ x → x ≤ 60 → fixOk (namedL thueT) ⟨#[97]⟩ x = true ∧ freeR (fixR (namedL thueT) ⟨#[97]⟩ x) 1 1 = true ∧ (fixR (namedL thueT) ⟨#[97]⟩ x).size ≤ 60) := fun x h1 h2 => by
              obtain ⟨m, rfl⟩ : ∃ m : Nat, x = m := ⟨x.toNat, by omega⟩
              obtain ⟨a, b, c⟩ := fp_thue (m := m) (by omega)
              exact ⟨a, c, by omega⟩
            have HFQ : Hid (∀ x : Int, 0 ≤ x → x ≤ 60 → fixOk (namedL sqfT) ⟨#[97]⟩ x = true ∧ freeR (fixR (namedL sqfT) ⟨#[97]⟩ x) 1 0 = true ∧ (fixR (namedL sqfT) ⟨#[97]⟩ x).size ≤ 60) := fun x h1 h2 => by
              obtain ⟨m, rfl⟩ : ∃ m : Nat, x = m := ⟨x.toNat, by omega⟩
              obtain ⟨a, b, c⟩ := fp_sqf (m := m) (by omega)
              exact ⟨a, c, by omega⟩
            rw [thue_ok] at HNT
            rw [sqf_ok] at HNQ
            have HTT : Hid (thueT = ⟨#[116, 104, 117, 101]⟩) := rfl
            have HTQ : Hid (sqfT = ⟨#[115, 113, 117, 97, 114, 101, 102, 114, 101, 101]⟩) := rfl
            generalize namedL thueT = l1 at HNT HZT HLT HFT
            generalize namedL sqfT = l2 at HNQ HZQ HLQ HFQ
            rw [HTT.out] at HNT
            rw [HTQ.out] at HNQ
            clear HTT HTQ
            go_wp2_with fail
            refine (HNT.out _).mono ?_
            rintro e wg ⟨v1, rfl, ho, hb⟩
            obtain ⟨A1, c1, rfl⟩ := own_slice ho
            have HLG := Lib.hid (Lst.of_own ho)
            have HBG : Hid (Below w.heap.size w wg) := HBF.out.trans (hb.mono HBF.out.size)
            clear ho hb HNT
            go_upto_region 26 with (fail)
            have c0 : (wg.alloc (.cells #[.slice A1 l1.length c1] 34)).cell? ⟨wg.heap.size, 0, none⟩ = some (.slice A1 l1.length c1) := by rw [World.cell?_alloc_at _ _ _ _ (by simp)]; rfl
            have hz0 : wg.heap.size < (wg.alloc (.cells #[.slice A1 l1.length c1] 34)).heap.size := by simp
            have HLH := Lib.hid (HLG.out.below ((Below.refl _ _).alloc (Nat.le_refl _) (.cells #[.slice A1 l1.length c1] 34)))
            have HBH : Hid (Below w.heap.size w (wg.alloc (.cells #[.slice A1 l1.length c1] 34))) := HBG.out.alloc HBG.out.size _
            clear HLG HBG
            generalize wg.alloc (.cells #[.slice A1 l1.length c1] 34) = wh at c0 hz0 HLH HBH ⊢
            go_cut [17, 18] (fun a b wx => ∃ x : ByteArray, a = .string x ∧ b = .bool true ∧ freeR x 1 1 = true ∧ x.size ≤ 60 ∧ Below w.heap.size w wx)
            case first => as_aux_lemma =>
              have HBc : Hid (Below wh.heap.size wh wh.drew) := below_drewN (Below.refl _ _) 1
              have ccp0 := c0
              have zzp0 := hz0
              go_region_held3 (fun w' => w'.cell? ⟨wg.heap.size, 0, none⟩ = some (.slice A1 l1.length c1))
                (first | exact ccp0 | assumption | (go_simp; done))
                (first
                  | (go_at_call 18
                     refine (makeSize_gen _ zs 30 0 60 _ HZB.out (HLC.out.below (HBH.out.trans (HBc.out.mono HBH.out.size))) (by omega) (by omega) (by omega) (by omega) (by omega) (by omega)).mono ?_
                     rintro e wi ⟨xx, rfl, hx1, hx2, hb⟩
                     replace ccp0 : wi.cell? ⟨wg.heap.size, 0, none⟩ = some (.slice A1 l1.length c1) := (hb.cell (p := ⟨wg.heap.size, 0, none⟩) (by first | assumption | (simp; omega) | simp)).trans (by first | assumption | go_simp)
                     have hst := hb.size
                     try simp at hst
                     replace zzp0 : wg.heap.size < wi.heap.size := by omega
                     replace HBc : Hid (Below wh.heap.size wh wi) := HBc.out.trans (hb.mono HBc.out.size)
                     clear hb hst)
                  | (go_at_call 17
                     refine (implFixedPoint l1 _ ⟨#[97]⟩ _ _ (HLH.out.below HBc.out) HZT.out HLT.out (by decide)).mono ?_
                     rintro e wj ⟨rfl, hb⟩
                     have hff := HFT.out xx hx1 hx2
                     rw [hff.1]
                     replace ccp0 : wj.cell? ⟨wg.heap.size, 0, none⟩ = some (.slice A1 l1.length c1) := (hb.cell (p := ⟨wg.heap.size, 0, none⟩) (by first | assumption | (simp; omega) | simp)).trans (by first | assumption | go_simp)
                     replace HBc : Hid (Below wh.heap.size wh wj) := HBc.out.trans (hb.mono HBc.out.size)
                     have HF2 := Lib.hid hff.2
                     clear hb hff
                     generalize fixR l1 ⟨#[97]⟩ xx = yy at HF2 ⊢))
              all_goals
                go_wp2_with fail
                go_meet
                exact ⟨yy, rfl, rfl, HF2.out.1, HF2.out.2, HBH.out.trans (HBc.out.mono HBH.out.size)⟩
            case rest => as_aux_lemma =>
              obtain ⟨y1, rfl, rfl, hy1, hy2, hbx⟩ := hcut
              obtain ⟨wk, rfl⟩ : ∃ y : World, y = wc := ⟨_, rfl⟩
              have HBK := Lib.hid hbx
              have HY1 := Lib.hid hy1
              clear hbx hy1 HLH HBH c0 hz0 HZT HLT HFT
              go_wp2_with fail
              refine (HNQ.out _).mono ?_
              rintro e wl ⟨v2, rfl, ho, hb⟩
              obtain ⟨A2, c2, rfl⟩ := own_slice ho
              have HLG := Lib.hid (Lst.of_own ho)
              have HBG : Hid (Below w.heap.size w wl) := HBK.out.trans (hb.mono HBK.out.size)
              clear ho hb HNQ HBK
              go_upto_region 28 with (fail)
              have c0 : (wl.alloc (.cells #[.slice A2 l2.length c2] 34)).cell? ⟨wl.heap.size, 0, none⟩ = some (.slice A2 l2.length c2) := by rw [World.cell?_alloc_at _ _ _ _ (by simp)]; rfl
              have hz0 : wl.heap.size < (wl.alloc (.cells #[.slice A2 l2.length c2] 34)).heap.size := by simp
              have HLH := Lib.hid (HLG.out.below ((Below.refl _ _).alloc (Nat.le_refl _) (.cells #[.slice A2 l2.length c2] 34)))
              have HBH : Hid (Below w.heap.size w (wl.alloc (.cells #[.slice A2 l2.length c2] 34))) := HBG.out.alloc HBG.out.size _
              clear HLG HBG
              generalize wl.alloc (.cells #[.slice A2 l2.length c2] 34) = wm at c0 hz0 HLH HBH ⊢
              go_cut [21, 22] (fun a b wx => ∃ x : ByteArray, a = .string x ∧ b = .bool true ∧ freeR x 1 0 = true ∧ x.size ≤ 60 ∧ Below w.heap.size w wx)
              case first => as_aux_lemma =>
                have HBc : Hid (Below wm.heap.size wm wm.drew) := below_drewN (Below.refl _ _) 1
                have ccp0 := c0
                have zzp0 := hz0
                go_region_held3 (fun w' => w'.cell? ⟨wl.heap.size, 0, none⟩ = some (.slice A2 l2.length c2))
                  (first | exact ccp0 | assumption | (go_simp; done))
                  (first
                    | (go_at_call 18
                       refine (makeSize_gen _ zs 31 0 60 _ HZB.out (HLC.out.below (HBH.out.trans (HBc.out.mono HBH.out.size))) (by omega) (by omega) (by omega) (by omega) (by omega) (by omega)).mono ?_
                       rintro e wi ⟨xx, rfl, hx1, hx2, hb⟩
                       replace ccp0 : wi.cell? ⟨wl.heap.size, 0, none⟩ = some (.slice A2 l2.length c2) := (hb.cell (p := ⟨wl.heap.size, 0, none⟩) (by first | assumption | (simp; omega) | simp)).trans (by first | assumption | go_simp)
                       have hst := hb.size
                       try simp at hst
                       replace zzp0 : wl.heap.size < wi.heap.size := by omega
                       replace HBc : Hid (Below wm.heap.size wm wi) := HBc.out.trans (hb.mono HBc.out.size)
                       clear hb hst)
                    | (go_at_call 17
                       refine (implFixedPoint l2 _ ⟨#[97]⟩ _ _ (HLH.out.below HBc.out) HZQ.out HLQ.out (by decide)).mono ?_
                       rintro e wj ⟨rfl, hb⟩
                       have hff := HFQ.out xx hx1 hx2
                       rw [hff.1]
                       replace ccp0 : wj.cell? ⟨wl.heap.size, 0, none⟩ = some (.slice A2 l2.length c2) := (hb.cell (p := ⟨wl.heap.size, 0, none⟩) (by first | assumption | (simp; omega) | simp)).trans (by first | assumption | go_simp)
                       replace HBc : Hid (Below wm.heap.size wm wj) := HBc.out.trans (hb.mono HBc.out.size)
                       have HF2 := Lib.hid hff.2
                       clear hb hff
                       generalize fixR l2 ⟨#[97]⟩ xx = yy at HF2 ⊢))
                all_goals
                  go_wp2_with fail
                  go_meet
                  exact ⟨yy, rfl, rfl, HF2.out.1, HF2.out.2, HBH.out.trans (HBc.out.mono HBH.out.size)⟩
              case rest => as_aux_lemma =>
                obtain ⟨y2, rfl, rfl, hz1, hz2, hbx⟩ := hcut
                obtain ⟨wn, rfl⟩ : ∃ y : World, y = wc := ⟨_, rfl⟩
                have HBN := Lib.hid hbx
                have HY2 := Lib.hid hz1
                clear hbx hz1 HLH HBH c0 hz0 HZQ HLQ HFQ
                obtain ⟨n1, n2, n3⟩ := fp_cnt
                have HN1 := Lib.hid n1
                have HN2 := Lib.hid n2
                have HN3 := Lib.hid n3
                clear n1 n2 n3
                go_wp2_with fail
                refine (implIsOverlapFree y1 _ (by omega)).mono ?_
                rintro e u1 ⟨rfl, hb⟩
                rw [HY1.out]
                have HU1 : Hid (Below w.heap.size w u1) := HBN.out.trans (hb.mono HBN.out.size)
                clear hb
                go_wp2_with fail
                refine (implIsSquareFree y2 _ (by omega)).mono ?_
                rintro e u2 ⟨rfl, hb⟩
                rw [HY2.out]
                have HU2 : Hid (Below w.heap.size w u2) := HU1.out.trans (hb.mono HU1.out.size)
                clear hb
                go_wp2_with fail
                refine (implCountSquareFree 2 4 _).mono ?_
                rintro e u3 ⟨rfl, hb⟩
                rw [HN1.out]
                have HU3 : Hid (Below w.heap.size w u3) := HU2.out.trans (hb.mono HU2.out.size)
                clear hb
                go_wp2_with fail
                refine (implCountSquareFree 3 5 _).mono ?_
                rintro e u4 ⟨rfl, hb⟩
                rw [HN2.out]
                have HU4 : Hid (Below w.heap.size w u4) := HU3.out.trans (hb.mono HU3.out.size)
                clear hb
                go_wp2_with fail
                refine (implCountSquareFree 3 4 _).mono ?_
                rintro e u5 ⟨rfl, hb⟩
                rw [HN3.out]
                have HU5 : Hid (Below w.heap.size w u5) := HU4.out.trans (hb.mono HU4.out.size)
                clear hb
                go_wp2_with fail
                go_ret
                exact ⟨rfl, HU5.out⟩
end Go.Proofs.Ythckpgfhldocdaa
