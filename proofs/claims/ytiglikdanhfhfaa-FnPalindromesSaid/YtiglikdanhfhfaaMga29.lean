/- Texts put together. -/
import Derived.Test.YtiglikdanhfhfaaMga1
import Derived.Test.YtiglikdanhfhfaaMga20
import Derived.Test.YtiglikdanhfhfaaMga23
import Derived.Test.YtiglikdanhfhfaaMga24
import Derived.Test.YtiglikdanhfhfaaMga26
import Derived.Test.YtiglikdanhfhfaaMga27
import Derived.Test.YtiglikdanhfhfaaMga15
import Derived.Test.YtiglikdanhfhfaaMga28
import Derived.Deep.DeepCutAuto
import Derived.Deep.RegionHeld3
import Derived.Deep.RegionWith
import Derived.Deep.CutBlock
import Derived.Deep.LoopGhost
import Derived.Deep.QuietTactic
import Derived.BigQuiet
/- The walk of FnPalindromes. -/
namespace Go.Proofs.Ytiglikdanhfhfaa
open Go.ChangeShapes Go.WideShapes Go.ChangeAt Go.RowKit

theorem inB_of {l : List ByteArray} {x : ByteArray} (h : x ∈ l) : inB l x = true := List.any_eq_true.2 ⟨x, h, by simp⟩
theorem pal_lo {P : Program} {t : TypeId} (ht : P.underlying t = some .string) (s : ByteArray) (b : Int) (y : Nat) (w : World) (hb : b = y) (h : y ≤ s.size) :
    (Instr.slice t (.string s) none (some (.int .i64 b)) none).run P w = .ok (.string (s.extract 0 y)) w := by
  subst hb
  rw [run_slice_string_to_if (P := P) w t s .i64 (y : Int) ht, if_pos (by omega)]
  rfl

set_option maxHeartbeats 40000000 in
set_option maxRecDepth 100000 in
theorem fnPalindromes_walk0 (zs : List Int) (v : Value) (w : World) (mx : Int) (hmx : w.cell? ⟨0, 0, none⟩ = some (.int .i64 mx)) (hl : Lst w v (bytesV zs)) (hzs : ∀ z ∈ zs, 0 ≤ z ∧ z ≤ 255) :
    Calls Try.prog 3 #[v] w fun e w' => e = .returned (.bool true) ∧ Below w.heap.size w w' := by
  have HMX := Lib.hid hmx
  have HLC := Lib.hid hl
  obtain ⟨Ac, cc, rfl, hcc1, hcc2, _⟩ := hl
  rw [bytesV_length] at hcc1 HLC ⊢
  have hmax : zs.length ≤ 9223372036854775807 := by unfold maxLen at hcc2; omega
  clear hcc1 hcc2 hmx
  by_cases hlen : ¬ zs.length ≤ 1048576
  · have hgt : 1048576 < zs.length := by omega
    go_enter Try.func3, Try.ntmps3
    go_wp2_with fail
    go_ret
    exact ⟨rfl, Below.refl _ _⟩
  have hlen : zs.length ≤ 1048576 := by omega
  have HZB : Hid (IsBytes zs) := ⟨hlen, hzs⟩
  clear hzs
  go_enter Try.func3, Try.ntmps3
  go_wp2_with fail
  refine (makeWord_any _ zs 0 14 _ HZB.out HLC.out (by omega) (by omega) (by omega)).mono ?_
  rintro e w1 ⟨s, rfl, hw, h14, hb⟩
  have HW := Lib.hid hw
  have HB1 := Lib.hid hb
  clear hb
  have hs : s.size ≤ 1048576 := by omega
  have HASC := Lib.hid (pa_asc hw (show s.size ≤ 60 by omega))
  have HINN : Hid (inB (ppR s) ⟨#[]⟩ = true) := inB_of (pa_empty hw (show s.size ≤ 60 by omega))
  obtain ⟨D, hD1, hD2, hD3⟩ := pa_def hw (show s.size ≤ 60 by omega)
  obtain ⟨I, N, hI, hN, hIN, hIP, hlon⟩ := pa_long hw
  have HMEM : Hid (∀ q (hq : q < (ppR s).length), flipS (ppR s)[q] = (ppR s)[q] ∧ factR s (ppR s)[q] = true ∧ (ppR s)[q].size ≤ s.size ∧ (ppR s)[q].size ≤ N) := fun q hq => by
    have hm := List.getElem_mem hq
    obtain ⟨a, b, c⟩ := pa_mem hw (by omega) hm
    exact ⟨a, b, c, hlon _ (by rw [← pa_ok hw (show s.size ≤ 60 by omega)]; exact hm)⟩
  obtain ⟨k1, k2, k3, k4, k5, k6, k7⟩ := pa_close hw (show s.size ≤ 60 by omega)
  have HPI : Hid (ipR s = palB s) := by show ipR s = palB s; unfold ipR; rw [hw]; rfl
  have HPF : Hid ((s.toList == (flipS s).toList) = palB s) := by
    show _ = _
    rw [Bool.eq_iff_iff, beq_iff_eq, palB_iff]
    exact ⟨fun h => (bytes_ext h).symm, fun h => by rw [show flipS s = s from h]⟩
  have HPC : Hid (((clS s).toList == s.toList) = palB s) := by
    show _ = _
    rw [Bool.eq_iff_iff, beq_iff_eq, palB_iff, ← k6]
    exact ⟨fun h => bytes_ext h, fun h => by rw [h]⟩
  have HRI : Hid (richR s = ((D : Int) == 0)) := by show richR s = _; unfold richR; rw [hD1]
  have HD1 := Lib.hid hD1
  have HD3 := Lib.hid hD3
  have HI1 := Lib.hid hI
  have HN1 := Lib.hid hN
  have HIP := Lib.hid hIP
  have HK1 := Lib.hid k1
  have HK3 := Lib.hid k3
  have HK5 := Lib.hid k5
  have HK7 := Lib.hid k7
  have hpl : (ppR s).length ≤ 15 := by omega
  clear hD1 hD3 hI hN hIP k1 k2 k3 k5 k6 k7 hlon
  go_wp2_with fail
  refine (implPalindromesIn s _ hs).mono ?_
  rintro e w3 ⟨v3, rfl, ho, hb⟩
  obtain ⟨AL, cL, rfl⟩ := own_slice ho
  have HL3 := Lib.hid (Lst.of_own ho)
  have HB3 : Hid (Below w.heap.size w w3) := HB1.out.trans (hb.mono HB1.out.size)
  clear ho hb
  generalize ppR s = L at *
  go_wp2_with fail
  refine (implDefectOf s _ hs).mono ?_
  rintro e w4 ⟨rfl, hb⟩
  rw [HD1.out]
  have HL4 := Lib.hid (HL3.out.below hb)
  have HB4 : Hid (Below w.heap.size w w4) := HB3.out.trans (hb.mono HB3.out.size)
  clear hb HL3
  go_wp2_with fail
  refine (implLongestPalindrome s _ hs).mono ?_
  rintro e w5 ⟨rfl, hb⟩
  rw [HI1.out, HN1.out]
  have HL6 := Lib.hid (HL4.out.below hb)
  have HB6 : Hid (Below w.heap.size w w5) := HB4.out.trans (hb.mono HB4.out.size)
  clear hb HL4 HI1 HN1
  obtain ⟨w6, rfl⟩ : ∃ y : World, y = w5 := ⟨_, rfl⟩
  have hd0 : (0 : Int) ≤ (D : Int) := by omega
  have hdl : (L.length : Int) = (s.size : Int) + 1 - (D : Int) := by omega
  have hdm : (D : Int) ≤ 15 := by omega
  generalize (D : Int) = d at *
  obtain ⟨i, hi⟩ : ∃ i : Int, (I : Int) = i := ⟨_, rfl⟩
  obtain ⟨n, hn⟩ : ∃ n : Int, (N : Int) = n := ⟨_, rfl⟩
  rw [hi, hn]
  have HII := Lib.hid hi
  have HNN := Lib.hid hn
  have hi0 : 0 ≤ i := by omega
  have hn0 : 0 ≤ n := by omega
  have hin : i + n ≤ (s.size : Int) := by omega
  have hsx : ∀ w : World, (Instr.slice 9 (.string s) (some (.int .i64 i)) (some (.int .i64 (i + n))) none).run Try.prog w = .ok (.string (s.extract I (I + N))) w := fun w => slice_gen Try.underlying9 s _ _ I (I + N) w hi.symm (by omega) (by omega) (by omega)
  have hxz : (s.extract I (I + N)).size ≤ 1048576 := by rw [ByteArray.size_extract]; omega
  clear hi hn hD2 hIN
  generalize s.extract I (I + N) = xl at hsx hxz HIP
  go_upto_region 7 with (fail)
  go_cut [94] (fun b wx => b = .bool false ∧ Below w6.heap.size w6 wx)
  case first => as_aux_lemma =>
    have d1 : decide (d < 0) = false := by simp; omega
    have b1 : ((L.length : Int) != (s.size : Int) + 1 - d) = false := by rw [hdl]; simp
    have d2 : decide (i < 0) = false := by simp; omega
    have d3 : decide (n < 0) = false := by simp; omega
    have d4 : decide ((s.size : Int) < i + n) = false := by simp; omega
    have b2 : (d != d) = false := by simp
    obtain ⟨z, hz⟩ : ∃ z, (d == 0) = z := ⟨_, rfl⟩
    rw [hz] at HRI
    have HDL := Lib.hid hdl
    clear hdl
    cases z
    all_goals
      as_aux_lemma =>
        go_wp2_with fail
        refine (risingC L _ _ HL6.out HASC.out (by omega)).mono ?_
        rintro e wa0 ⟨rfl, hb⟩
        have HB_wa0 : Hid (Below w6.heap.size w6 wa0) := Lib.hid hb
        clear hb
        go_wp2_with fail
        refine (inC L _ ⟨#[]⟩ _ (HL6.out.below HB_wa0.out) (by omega)).mono ?_
        rintro e w' ⟨rfl, rfl⟩
        rw [HINN.out]
        go_wp2_with fail
        refine (implIsRich s _ hs).mono ?_
        rintro e wa1 ⟨rfl, hb⟩
        rw [HRI.out]
        have HB_wa1 : Hid (Below w6.heap.size w6 wa1) := HB_wa0.out.trans (hb.mono HB_wa0.out.size)
        clear hb
        go_wp2_with fail
        refine (implIsPalindrome xl _ hxz).mono ?_
        rintro e wa2 ⟨rfl, hb⟩
        rw [HIP.out]
        have HB_wa2 : Hid (Below w6.heap.size w6 wa2) := HB_wa1.out.trans (hb.mono HB_wa1.out.size)
        clear hb
        go_wp2_with fail
        refine (flipC s _ hs).mono ?_
        rintro e wa3 ⟨rfl, hb⟩
        have HB_wa3 : Hid (Below w6.heap.size w6 wa3) := HB_wa2.out.trans (hb.mono HB_wa2.out.size)
        clear hb
        go_wp2_with fail
        refine (implDefectOf (flipS s) _ (by rw [flip_size]; exact hs)).mono ?_
        rintro e wa4 ⟨rfl, hb⟩
        rw [HD3.out]
        have HB_wa4 : Hid (Below w6.heap.size w6 wa4) := HB_wa3.out.trans (hb.mono HB_wa3.out.size)
        clear hb
        go_wp2_with fail
        go_meet
        exact ⟨rfl, HB_wa4.out⟩
  case rest =>
    obtain ⟨rfl, hbx⟩ := hcut
    obtain ⟨wa, rfl⟩ : ∃ y : World, y = wc := ⟨_, rfl⟩
    have HBA := Lib.hid hbx
    clear hbx HASC HINN HD1 HD3 HRI HIP hsx hxz
    go_upto_block 0 with (fail)
    go_cut [9] (fun _ wx => Below w6.heap.size w6 wx)
    case first => as_aux_lemma =>
      go_wp2_with fail
      go_loopw [97] (fun ix w' => ∃ q : Nat, q ≤ L.length ∧ ix = .int .i64 (q : Int) ∧ Below w6.heap.size w6 w') (fun ix _ => L.length - (intOf ix).toNat)
      case atStart => exact ⟨0, by omega, rfl, HBA.out⟩
      case round =>
        obtain ⟨q, hq, rfl, hb⟩ := hrel
        obtain ⟨wq, rfl⟩ : ∃ y : World, y = wr := ⟨_, rfl⟩
        have HBQ := Lib.hid hb
        clear hb
        by_cases hlt : q < L.length
        · obtain ⟨bl, ol, cl', he, hcell⟩ := lst_at (HL6.out.below HBQ.out) (by omega)
          injection he with hA hA2 hc
          subst hA; subst hc
          clear hA2
          have g1 := hcell q hlt
          obtain ⟨m1, m2, m3, m4⟩ := HMEM.out q hlt
          have HF1 := Lib.hid m1
          have HF2 := Lib.hid m2
          clear hcell m1 m2
          generalize L[q] = f at g1 m3 m4 HF1 HF2
          have hfs : f.size ≤ 1048576 := by omega
          have hnn := HNN.out
          have d1 : decide (n < (f.size : Int)) = false := by simp; omega
          have b1 : (f.toList != f.toList) = false := by simp
          clear hnn
          go_wp2_with fail
          refine (flipC f _ hfs).mono ?_
          rintro e wx ⟨rfl, hb⟩
          rw [HF1.out]
          have HBX : Hid (Below w6.heap.size w6 wx) := HBQ.out.trans (hb.mono HBQ.out.size)
          have HMQ : Hid (wx.cell? ⟨0, 0, none⟩ = some (.int .i64 mx)) := ((HB6.out.trans (HBX.out.mono HB6.out.size)).cell (World.block_lt_of_cell? w _ HMX.out)).trans HMX.out
          clear hb
          go_wp2_with fail
          refine (implIsFactor s f mx _ HMQ.out hs hfs).mono ?_
          rintro e wz ⟨rfl, hb⟩
          rw [HF2.out]
          have HBZ : Hid (Below w6.heap.size w6 wz) := HBX.out.trans (hb.mono HBX.out.size)
          clear hb
          go_wp2_with fail
          go_roundw
          case rel => exact ⟨q + 1, by omega, by go_num, HBZ.out⟩
          case measure => simp [intOf]; omega
        · go_wp2_with fail
          go_meet
          exact HBQ.out
    case rest =>
      obtain ⟨wb, rfl⟩ : ∃ y : World, y = wc := ⟨_, rfl⟩
      have HBB := Lib.hid hcut
      clear hcut HMEM HBA HL6
      go_wp2_with fail
      refine (implCloseWord s _ hs).mono ?_
      rintro e w7 ⟨rfl, hb⟩
      rw [HK1.out]
      have HB7 : Hid (Below w6.heap.size w6 w7) := HBB.out.trans (hb.mono HBB.out.size)
      clear hb HBB HK1
      generalize clS s = c at *
      generalize palB s = pb at *
      go_upto_region 16 with (fail)
      go_cut [144] (fun b wx => b = .bool false ∧ Below w6.heap.size w6 wx)
      case first => as_aux_lemma =>
        have hcz : c.size ≤ 1048576 := by omega
        have d1 : decide (2 * (s.size : Int) < (c.size : Int)) = false := by simp; omega
        have bc := HPC.out
        cases pb
        all_goals
          as_aux_lemma =>
            go_wp2_with fail
            refine (implIsPalindrome c _ hcz).mono ?_
            rintro e wa0 ⟨rfl, hb⟩
            rw [HK3.out]
            have HB_wa0 : Hid (Below w6.heap.size w6 wa0) := HB7.out.trans (hb.mono HB7.out.size)
            clear hb
            go_wp2_with fail
            refine (startsC c s HK5.out _).mono ?_
            rintro e w' ⟨rfl, rfl⟩
            go_wp2_with fail
            refine (implIsPalindrome s _ hs).mono ?_
            rintro e wa1 ⟨rfl, hb⟩
            rw [HPI.out]
            have HB_wa1 : Hid (Below w6.heap.size w6 wa1) := HB_wa0.out.trans (hb.mono HB_wa0.out.size)
            clear hb
            go_wp2_with fail
            go_meet
            exact ⟨rfl, HB_wa1.out⟩
      case rest =>
        obtain ⟨rfl, hbx⟩ := hcut
        obtain ⟨wd, rfl⟩ : ∃ y : World, y = wc := ⟨_, rfl⟩
        have HBD := Lib.hid hbx
        clear hbx HPC HK3 HK5 HB7
        go_upto_block 2 with (fail)
        go_cut [11] (fun _ wx => Below w6.heap.size w6 wx)
        case first => as_aux_lemma =>
          go_wp2_with fail
          go_loopw [11] (fun kv w' => ∃ k : Nat, s.size ≤ k ∧ k ≤ max s.size c.size ∧ kv = .int .i64 (k : Int) ∧ Below w6.heap.size w6 w') (fun kv _ => c.size - (intOf kv).toNat)
          case atStart => exact ⟨s.size, Nat.le_refl _, Nat.le_max_left _ _, rfl, HBD.out⟩
          case round =>
            obtain ⟨k, hk1, hk2, rfl, hb⟩ := hrel
            obtain ⟨wq, rfl⟩ : ∃ y : World, y = wr := ⟨_, rfl⟩
            have HBQ := Lib.hid hb
            clear hb
            by_cases hlt : k < c.size
            · have hne := HK7.out k hk1 hlt
              have hlo : ∀ w : World, (Instr.slice 9 (.string c) none (some (.int .i64 (k : Int))) none).run Try.prog w = .ok (.string (c.extract 0 k)) w := fun w => pal_lo Try.underlying9 c _ k w rfl (by omega)
              have bq := ne_bytes hne
              have hpz : (c.extract 0 k).size ≤ 1048576 := by rw [ByteArray.size_extract]; omega
              have HFC := Lib.hid (fun w => flipC (c.extract 0 k) w hpz)
              clear hne
              generalize c.extract 0 k = y at hlo bq hpz HFC
              generalize flipS y = fy at bq HFC
              go_upto_region 21 with (fail)
              go_cut [160] (fun b wx => b = .bool false ∧ Below w6.heap.size w6 wx)
              case first => as_aux_lemma =>
                have HBC : Hid (Below w6.heap.size w6 wq.drew) := below_drewN HBQ.out 1
                go_region_held3 (fun _ => True) (trivial)
                  (first
                    | (go_at_call 21
                       refine (HFC.out _).mono ?_
                       rintro e wz ⟨rfl, hb⟩
                       replace HBC : Hid (Below w6.heap.size w6 wz) := HBC.out.trans (hb.mono HBC.out.size)
                       clear hb))
                all_goals
                  go_wp2_with fail
                  go_meet
                  exact ⟨rfl, HBC.out⟩
              case rest =>
                obtain ⟨rfl, hbx⟩ := hcut
                have HBY := Lib.hid hbx
                clear hbx
                go_wp2_with fail
                go_roundw
                case rel => exact ⟨k + 1, by omega, by omega, by go_num, HBY.out⟩
                case measure => simp [intOf]; omega
            · go_wp2_with fail
              go_meet
              exact HBQ.out
        case rest => as_aux_lemma =>
          obtain ⟨we, rfl⟩ : ∃ y : World, y = wc := ⟨_, rfl⟩
          have HBE0 := Lib.hid hcut
          have HBE : Hid (Below w.heap.size w we) := HB6.out.trans (HBE0.out.mono HB6.out.size)
          clear hcut HK7 HBD HBE0
          go_wp2_with fail
          refine (makeWord_any _ zs 30 6 _ HZB.out (HLC.out.below HBE.out) (by omega) (by omega) (by omega)).mono ?_
          rintro e wf ⟨u, rfl, hu, hu6, hb⟩
          have HBF : Hid (Below w.heap.size w wf) := HBE.out.trans (hb.mono HBE.out.size)
          have hus : u.size ≤ 1048576 := by omega
          obtain ⟨p1, p2, p3, p4, p5, p6, p7, p8⟩ := pa_dir hu hu6
          have HP1 := Lib.hid p1
          have HP2 := Lib.hid p2
          have HP3 := Lib.hid p3
          have HP4 := Lib.hid p4
          have HP5 := Lib.hid p5
          have HP7 := Lib.hid p7
          have HP8 := Lib.hid p8
          have HLESS := Lib.hid (fun h => pa_less hu hu6 h)
          clear hb p1 p2 p3 p4 p5 p7 p8 hu
          generalize dwS u u.size = x at *
          go_wp2_with fail
          refine (implDirectedWord u _ hus).mono ?_
          rintro e wg ⟨rfl, hb⟩
          rw [HP1.out, HP2.out]
          have HBG : Hid (Below w.heap.size w wg) := HBF.out.trans (hb.mono HBF.out.size)
          clear hb HP1 HP2
          have hxs : x.size ≤ 1048576 := by omega
          go_wp2_with fail
          refine (implDirectionOf x _ hxs).mono ?_
          rintro e wh ⟨rfl, hb⟩
          rw [HP3.out, HP4.out]
          have HBH : Hid (Below w.heap.size w wh) := HBG.out.trans (hb.mono HBG.out.size)
          clear hb HP3 HP4 HBG
          go_upto_region 28 with (fail)
          go_cut [196] (fun b wx => b = .bool false ∧ Below w.heap.size w wx)
          case first => as_aux_lemma =>
            have b1 : (u.toList != u.toList) = false := by simp
            by_cases h60 : x.size ≤ 60
            · have d1 : decide ((x.size : Int) ≤ 60) = true := by simp; omega
              have HRX := Lib.hid (HP7.out h60)
              go_wp2_with fail
              refine (implIsPalindrome x _ hxs).mono ?_
              rintro e wa0 ⟨rfl, hb⟩
              rw [HP5.out]
              have HB_wa0 : Hid (Below w.heap.size w wa0) := HBH.out.trans (hb.mono HBH.out.size)
              clear hb
              go_wp2_with fail
              refine (implIsRich x _ hxs).mono ?_
              rintro e wa1 ⟨rfl, hb⟩
              rw [HRX.out]
              have HB_wa1 : Hid (Below w.heap.size w wa1) := HB_wa0.out.trans (hb.mono HB_wa0.out.size)
              clear hb
              go_wp2_with fail
              go_meet
              exact ⟨rfl, HB_wa1.out⟩
            · have d1 : decide ((x.size : Int) ≤ 60) = false := by simp; omega
              go_wp2_with fail
              refine (implIsPalindrome x _ hxs).mono ?_
              rintro e wa0 ⟨rfl, hb⟩
              rw [HP5.out]
              have HB_wa0 : Hid (Below w.heap.size w wa0) := HBH.out.trans (hb.mono HBH.out.size)
              clear hb
              go_wp2_with fail
              go_meet
              exact ⟨rfl, HB_wa0.out⟩
          case rest =>
            obtain ⟨rfl, hbx⟩ := hcut
            obtain ⟨wk, rfl⟩ : ∃ y : World, y = wc := ⟨_, rfl⟩
            have HBK := Lib.hid hbx
            have bf := HPF.out
            clear hbx HP5 HP7 HBH
            by_cases hu0 : u.size = 0
            · have d1 : decide ((0 : Int) < (u.size : Int)) = false := decide_eq_false (by omega)
              cases pb
              all_goals
                go_wp2_with fail
                refine (implIsPalindrome s _ hs).mono ?_
                rintro e wl ⟨rfl, hb⟩
                rw [HPI.out]
                have HBL : Hid (Below w.heap.size w wl) := HBK.out.trans (hb.mono HBK.out.size)
                clear hb
                go_wp2_with fail
                refine (flipC s _ hs).mono ?_
                rintro e wm ⟨rfl, hb⟩
                have HBM : Hid (Below w.heap.size w wm) := HBL.out.trans (hb.mono HBL.out.size)
                clear hb
                go_wp2_with fail
                go_ret
                exact ⟨rfl, HBM.out⟩
            · have hu1 : 0 < u.size := by omega
              have d1 : decide ((0 : Int) < (u.size : Int)) = true := decide_eq_true (by omega)
              obtain ⟨q1, q2, y, q3, q4, q5⟩ := HLESS.out (by omega)
              have hlo : ∀ w : World, (Instr.slice 9 (.string u) none (some (.int .i64 ((u.size : Int) - 1))) none).run Try.prog w = .ok (.string (u.extract 0 (u.size - 1))) w := fun w => pal_lo Try.underlying9 u _ (u.size - 1) w (by omega) (by omega)
              have huz : (u.extract 0 (u.size - 1)).size ≤ 1048576 := by rw [ByteArray.size_extract]; omega
              have HQ2 := Lib.hid q2
              have HQ3 := Lib.hid q3
              have HQ4 := Lib.hid q4
              have dq : decide ((x.size : Int) ≤ (y.size : Int)) = false := by simp; omega
              have e0 : (u.size : Int).tmod 3 = (u.size : Int) % 3 := Int.tmod_eq_emod_of_nonneg (by omega)
              have HCU := Lib.hid (HP8.out (1 + (u.size : Int) % 3) (by omega) (by omega))
              have hm1 : 0 ≤ (u.size : Int) % 3 ∧ (u.size : Int) % 3 ≤ 2 := by omega
              obtain ⟨m3, hm3⟩ : ∃ m3, (u.size : Int) % 3 = m3 := ⟨_, rfl⟩
              rw [hm3] at e0 HCU hm1
              clear q1 q2 q3 q4 HLESS HP8
              generalize u.extract 0 (u.size - 1) = uu at hlo huz HQ2 HQ3
              cases pb
              all_goals
                as_aux_lemma =>
                  go_wp2_with fail
                  refine (implDirectedWord uu _ huz).mono ?_
                  rintro e wl ⟨rfl, hb⟩
                  rw [HQ2.out, HQ3.out]
                  have HBL : Hid (Below w.heap.size w wl) := HBK.out.trans (hb.mono HBK.out.size)
                  clear hb
                  go_wp2_with fail
                  refine (startsC x y HQ4.out _).mono ?_
                  rintro e w' ⟨rfl, rfl⟩
                  go_wp2_with fail
                  refine (implIsClosedUnderTurn x (1 + m3) _ hxs).mono ?_
                  rintro e wm ⟨rfl, hb⟩
                  rw [HCU.out]
                  have HBM : Hid (Below w.heap.size w wm) := HBL.out.trans (hb.mono HBL.out.size)
                  clear hb
                  go_wp2_with fail
                  refine (implIsPalindrome s _ hs).mono ?_
                  rintro e wn ⟨rfl, hb⟩
                  rw [HPI.out]
                  have HBN : Hid (Below w.heap.size w wn) := HBM.out.trans (hb.mono HBM.out.size)
                  clear hb
                  go_wp2_with fail
                  refine (flipC s _ hs).mono ?_
                  rintro e wo ⟨rfl, hb⟩
                  have HBO : Hid (Below w.heap.size w wo) := HBN.out.trans (hb.mono HBN.out.size)
                  clear hb
                  go_wp2_with fail
                  go_ret
                  exact ⟨rfl, HBO.out⟩
end Go.Proofs.Ytiglikdanhfhfaa
