/- FnTop: for every argument the law returns true. No condition. -/
import Derived.Test.YtfcbfflkajlhnaaMgT1
import Derived.Test.YtfcbfflkajlhnaaMgT13
import Derived.Test.YtfcbfflkajlhnaaMgT14
import Derived.Test.YtfcbfflkajlhnaaMgT16
import Derived.Test.YtfcbfflkajlhnaaMgT41
import Derived.Test.YtfcbfflkajlhnaaMgT21
import Derived.Test.YtfcbfflkajlhnaaMgT22
import Derived.Test.YtfcbfflkajlhnaaMgT27
import Derived.Test.YtfcbfflkajlhnaaMgT26
import Derived.Test.YtfcbfflkajlhnaaMgT24
import Derived.Test.YtfcbfflkajlhnaaMgT31
import Derived.Test.YtfcbfflkajlhnaaMgT32
import Derived.Test.YtfcbfflkajlhnaaMgT35
import Derived.Test.YtfcbfflkajlhnaaMgT36
import Derived.Test.YtfcbfflkajlhnaaMgT37
import Derived.Test.YtfcbfflkajlhnaaMgT40
import Derived.Deep.DeepCutAuto
import Derived.Deep.CutBlock
import Derived.Deep.LoopGhost
import Derived.Deep.QuietTactic
import Derived.BigQuiet
namespace Go.Proofs.Ytfcbfflkajlhnaa
open Go.ChangeShapes Go.WideShapes Go.ChangeAt Go.RowKit

set_option maxHeartbeats 4000000 in
set_option maxRecDepth 100000 in
theorem fnTop_walk0 (zs : List Int) (v : Value) (w : World) (hl : Lst w v (bytesV zs)) (hzs : ∀ z ∈ zs, 0 ≤ z ∧ z ≤ 255) :
    Calls Try.prog 3 #[v] w fun e w' => e = .returned (.bool true) ∧ Below w.heap.size w w' := by
  obtain ⟨i0, hi0, hi1, hi2, hi3⟩ := info_parts int_info
  have HLC := Lib.hid hl
  obtain ⟨Ac, cc, rfl, hcc1, hcc2, _⟩ := hl
  rw [bytesV_length] at hcc1 HLC ⊢
  have hmax : zs.length ≤ 9223372036854775807 := by unfold maxLen at hcc2; omega
  clear hcc1 hcc2
  by_cases hlen : ¬ zs.length ≤ 1048576
  · have hgt : 1048576 < zs.length := by omega
    go_enter Try.func3, Try.ntmps3
    go_wp2_with fail
    go_ret
    exact ⟨rfl, Below.refl _ _⟩
  have hlen : zs.length ≤ 1048576 := by omega
  have HZB : Hid (IsBytes zs) := ⟨hlen, hzs⟩
  clear hzs
  go_enter Try.func3, Try.ntmps3
  go_wp2_with fail
  refine (makeGrowing_any _ zs 0 _ HZB.out HLC.out (by omega) (by omega)).mono ?_
  rintro e w2 ⟨v2, l, rfl, hsb, hgr, ho2, hb2⟩
  obtain ⟨A, cp, rfl⟩ := own_slice ho2
  have HL := Lib.hid hsb
  have HG := Lib.hid hgr
  have HZ := Lib.hid (sub_smallT hsb)
  obtain ⟨hl1, hl4, _⟩ := subst_parts hsb
  have hln : l.length ≤ 1048576 := by omega
  have HS0 := Lib.hid ((Lst.of_own ho2).below ((Below.refl _ _).alloc (Nat.le_refl _) (.cells #[.slice A l.length cp] 25)))
  have HBW := Lib.hid (hb2.alloc hb2.size (.cells #[.slice A l.length cp] 25))
  have c0 : (w2.alloc (.cells #[.slice A l.length cp] 25)).cell? ⟨w2.heap.size, 0, none⟩ = some (.slice A l.length cp) := by rw [World.cell?_alloc_at _ _ _ _ rfl]; rfl
  have hz0 : w2.heap.size < (w2.alloc (.cells #[.slice A l.length cp] 25)).heap.size := by simp
  clear hb2 ho2 hsb hgr
  go_wp2_with fail
  generalize w2.alloc (.cells #[.slice A l.length cp] 25) = W at HS0 HBW c0 hz0 ⊢
  have HB := Lib.hid (Below.refl W.heap.size W)
  refine (makeSize_gen _ zs 20 0 40 _ HZB.out (HLC.out.below HBW.out) (by omega) (by omega) (by omega) (by omega) (by omega) (by omega)).mono ?_
  rintro e w1 ⟨x, rfl, hx1, hx2, hb⟩
  obtain ⟨m, rfl⟩ : ∃ m : Nat, x = m := ⟨x.toNat, by omega⟩
  have hm : m ≤ 40 := by omega
  replace HB : Hid (Below W.heap.size W w1) := HB.out.trans (hb.mono HB.out.size)
  have c1 : w1.cell? ⟨w2.heap.size, 0, none⟩ = some (.slice A l.length cp) := (HB.out.cell (p := ⟨w2.heap.size, 0, none⟩) hz0).trans c0
  clear hb hx1 hx2
  have ha : (⟨#[97]⟩ : ByteArray) = aS := rfl
  obtain ⟨hf1, hf2⟩ := ev_fixOk HL.out HG.out ha (n := 200) (m := 200) rfl (by omega)
  obtain ⟨hf3, hf4⟩ := ev_fixOk HL.out HG.out ha (n := (m : Int)) (m := m) rfl (by omega)
  have HF := Lib.hid hf1
  have HFR := Lib.hid hf2
  have HN := Lib.hid hf3
  have HNR := Lib.hid hf4
  have HIS := Lib.hid (fx_isStart HL.out HG.out (show m ≤ 400 by omega))
  have HWD := Lib.hid (top_word HL.out HG.out (show m ≤ 400 by omega))
  have HST := Lib.hid (top_start HL.out HG.out (show m ≤ 200 by omega))
  have z200 := fxS_size HL.out HG.out 200
  have zm := fxS_size HL.out HG.out m
  have HAP1 := Lib.hid (fun h => top_app HL.out HG.out (m := m) h)
  have HAP2 := Lib.hid (fun h hs => top_app200 HL.out HG.out (m := m) (n := 200) h hs)
  have HLAT := Lib.hid (fun (i : Nat) (hi : i < 200) => ha ▸ top_lat HL.out HG.out (n := 200) hi (by omega))
  have HLOK := Lib.hid (fun (i : Nat) (hi : i ≤ 10000) => ev_lat HL.out HG.out ha hi)
  have HIT : Hid (∀ k : Nat, itOk l ⟨#[97]⟩ (k : Int) = true → (itR l ⟨#[97]⟩ (k : Int)).size ≤ 200 → (itR l ⟨#[97]⟩ (k : Int)).data.toList <+: (fxS l 200).data.toList) := fun k h hs => top_it200 HL.out HG.out (k := k) (n := 200) h hs
  have HAS := Lib.hid ha
  clear hf1 hf2 hf3 hf4 ha
  generalize fxS l 200 = long at HFR HST z200 HLAT HIT HAP2
  generalize fxS l m = wd at HNR HIS HST zm HAP1 HAP2 HWD
  go_wp2_with fail
  refine (implFixedPoint l _ ⟨#[97]⟩ m _ (HS0.out.below HB.out) HZ.out hln (by decide)).mono ?_
  rintro e w3 ⟨rfl, hb⟩
  replace HB : Hid (Below W.heap.size W w3) := HB.out.trans (hb.mono HB.out.size)
  have c3 : w3.cell? ⟨w2.heap.size, 0, none⟩ = some (.slice A l.length cp) := (HB.out.cell (p := ⟨w2.heap.size, 0, none⟩) hz0).trans c0
  clear hb
  rw [HN.out, HNR.out]
  have bm : ((wd.size : Int) != (m : Int)) = false := by rw [zm]; simp
  go_wp2_with fail
  refine (implIsFixedStart l _ wd _ (HS0.out.below HB.out) HZ.out hln (by omega)).mono ?_
  rintro e w4 ⟨rfl, hb⟩
  replace HB : Hid (Below W.heap.size W w4) := HB.out.trans (hb.mono HB.out.size)
  have c4 : w4.cell? ⟨w2.heap.size, 0, none⟩ = some (.slice A l.length cp) := (HB.out.cell (p := ⟨w2.heap.size, 0, none⟩) hz0).trans c0
  clear hb
  rw [HIS.out]
  go_wp2_with fail
  refine (implSubstOkL l _ _ (HS0.out.below HB.out) HZ.out (by omega)).mono ?_
  rintro e w5 ⟨rfl, hb⟩
  replace HB : Hid (Below W.heap.size W w5) := HB.out.trans (hb.mono HB.out.size)
  have c5 : w5.cell? ⟨w2.heap.size, 0, none⟩ = some (.slice A l.length cp) := (HB.out.cell (p := ⟨w2.heap.size, 0, none⟩) hz0).trans c0
  clear hb
  rw [HL.out]
  go_wp2_with fail
  refine (implWordOk wd _ (by omega)).mono ?_
  rintro e w6 ⟨rfl, hb⟩
  replace HB : Hid (Below W.heap.size W w6) := HB.out.trans (hb.mono HB.out.size)
  have c6 : w6.cell? ⟨w2.heap.size, 0, none⟩ = some (.slice A l.length cp) := (HB.out.cell (p := ⟨w2.heap.size, 0, none⟩) hz0).trans c0
  clear hb
  rw [HWD.out]
  go_wp2_with fail
  refine (implFixedPoint l _ ⟨#[97]⟩ 200 _ (HS0.out.below HB.out) HZ.out hln (by decide)).mono ?_
  rintro e w7 ⟨rfl, hb⟩
  replace HB : Hid (Below W.heap.size W w7) := HB.out.trans (hb.mono HB.out.size)
  have c7 : w7.cell? ⟨w2.heap.size, 0, none⟩ = some (.slice A l.length cp) := (HB.out.cell (p := ⟨w2.heap.size, 0, none⟩) hz0).trans c0
  clear hb
  rw [HF.out, HFR.out]
  go_wp2_with fail
  refine (implApplySubst l _ wd _ (HS0.out.below HB.out) HZ.out hln (by omega)).mono ?_
  rintro e w8 ⟨rfl, hb⟩
  replace HB : Hid (Below W.heap.size W w8) := HB.out.trans (hb.mono HB.out.size)
  have c8 : w8.cell? ⟨w2.heap.size, 0, none⟩ = some (.slice A l.length cp) := (HB.out.cell (p := ⟨w2.heap.size, 0, none⟩) hz0).trans c0
  clear hb
  generalize appR l wd = av at HAP1 HAP2 ⊢
  generalize appOk l wd = ao at HAP1 HAP2 ⊢
  have b2 : ((long.size : Int) != 200) = false := by rw [z200]; simp
  go_upto_region 10 with (fail)
  go_cut [10, 66, 69, 71, 107] (fun _ _ _ _ s wx => s = .bool false ∧ Below W.heap.size W wx)
  case first =>
    cases ao
    · go_wp2_with (go_at_call 21; refine (startsC long wd HST.out _).mono ?_; rintro e w' ⟨rfl, rfl⟩)
      go_meet
      exact ⟨rfl, HB.out⟩
    · have HST2 := Lib.hid (HAP1.out rfl)
      by_cases h2 : av.size ≤ 200
      · have HST3 := Lib.hid (HAP2.out rfl h2)
        have d4 : decide ((av.size : Int) ≤ 200) = true := by simp; omega
        go_wp2_with (go_at_call 21; refine (startsC _ _ (by first | exact HST.out | exact HST2.out | exact HST3.out) _).mono ?_; rintro e w' ⟨rfl, rfl⟩)
        go_meet
        exact ⟨rfl, HB.out⟩
      · have d4 : decide ((av.size : Int) ≤ 200) = false := by simp; omega
        go_wp2_with (go_at_call 21; refine (startsC _ _ (by first | exact HST.out | exact HST2.out) _).mono ?_; rintro e w' ⟨rfl, rfl⟩)
        go_meet
        exact ⟨rfl, HB.out⟩
  case rest =>
    obtain ⟨rfl, hbx⟩ := hcut
    obtain ⟨wa, rfl⟩ : ∃ y : World, y = wc := ⟨_, rfl⟩
    replace HB := Lib.hid hbx
    have ca : wa.cell? ⟨w2.heap.size, 0, none⟩ = some (.slice A l.length cp) := (HB.out.cell (p := ⟨w2.heap.size, 0, none⟩) hz0).trans c0
    clear hbx
    go_upto_block 0 with (fail)
    go_cut [11, 12, 13] (fun _ _ _ wx => Below W.heap.size W wx)
    case first =>
      go_wp2_with fail
      go_loopw [11] (fun i w' => ∃ j : Nat, j ≤ 206 ∧ i = .int .i64 j ∧ Below W.heap.size W w') (fun i _ => 207 - (intOf i).toNat)
      case atStart => exact ⟨0, by omega, rfl, HB.out⟩
      case round =>
        obtain ⟨j, hj, rfl, hb⟩ := hrel
        obtain ⟨wi, rfl⟩ : ∃ y : World, y = wr := ⟨_, rfl⟩
        have HBi := Lib.hid hb
        have ci : wi.cell? ⟨w2.heap.size, 0, none⟩ = some (.slice A l.length cp) := (hb.cell (p := ⟨w2.heap.size, 0, none⟩) hz0).trans c0
        clear hb
        by_cases hlt : j < 200
        · have hsl : ∀ w : World, (Instr.slice 9 (.string long) (some (.int .i64 (j : Int))) (some (.int .i64 ((j : Int) + 1))) none).run Try.prog w = .ok (.string (latR l ⟨#[97]⟩ j)) w := fun w => by
            rw [HLAT.out j hlt]
            exact slice_at Try.underlying9 long j 1 w (by omega)
          have HOK := Lib.hid (HLOK.out j (by omega))
          go_wp2_with fail
          refine (implLetterAt l _ ⟨#[97]⟩ j _ (HS0.out.below HBi.out) HZ.out hln (by decide)).mono ?_
          rintro e wj ⟨rfl, hb⟩
          rw [HOK.out]
          have HBj : Hid (Below W.heap.size W wj) := HBi.out.trans (hb.mono HBi.out.size)
          clear hb
          generalize latR l ⟨#[97]⟩ (j : Int) = x at hsl ⊢
          go_wp2_with fail
          go_roundw
          case rel => exact ⟨j + 7, by omega, by go_num, HBj.out⟩
          case measure => simp [intOf]; omega
        · go_wp2_with fail
          go_meet
          exact HBi.out
    case rest =>
      obtain ⟨wd2, rfl⟩ : ∃ y : World, y = wc := ⟨_, rfl⟩
      replace HB := Lib.hid hcut
      have cd : wd2.cell? ⟨w2.heap.size, 0, none⟩ = some (.slice A l.length cp) := (HB.out.cell (p := ⟨w2.heap.size, 0, none⟩) hz0).trans c0
      have hzd : w2.heap.size < wd2.heap.size := by have := HB.out.size; omega
      clear hcut
      go_upto_block 2 with (first
        | (at_make
           refine wpList_make_full _ rfl _ _ 35 rfl wd2.heap.size 3 i0 (.int .i64 0) 1 Try.underlying35 hi0 hi1 hi2 .i64 .i64 _ _ l.length rfl rfl rfl rfl (by rw [hi3]; omega) (by unfold maxLen; omega) (Nat.le_refl _) ?_
           intro w3x hown hgrow
           have HB3 : Hid (Below wd2.heap.size wd2 w3x) := (Below.refl _ _).grown hgrow (Nat.le_refl _) (fun k hk => by cases hk)
           have e0 : ((madeCells (Value.int .i64 0).cells (l.length * 1)).toList) = ints (List.replicate l.length 0) := by
             rw [Nat.mul_one]
             exact (toList_madeCells_one _ _).trans (by simp [ints])
           rw [e0] at hown
           have g3 : w3x.cell? ⟨wd2.heap.size, 0, none⟩ = some (.int .i64 0) := (hown.cellAt 0 (by omega)).trans (by unfold ints; rw [List.map_replicate, List.getElem?_replicate, if_pos (by omega)])
           have f3 : w3x.frozen? ⟨wd2.heap.size, 0, none⟩ = false := hown.frozenAt 0
           have HOWN : Hid ((w3x.setCell ⟨wd2.heap.size, 0, none⟩ (.int .i64 1)).ownsRow wd2.heap.size 3 1 (.slice (some ⟨wd2.heap.size, 0, none⟩) l.length l.length) l.length (ints (unitC l.length 0))) := by
             have := (hown.stored 0 (.int .i64 1)).1
             have e1 : (ints (List.replicate l.length 0)).set 0 (.int .i64 1) = ints (unitC l.length 0) := by
               unfold ints unitC
               rw [List.map_set]
             rw [e1] at this
             exact this
           clear hown hgrow e0))
      have HBS : Hid (Below W.heap.size W (w3x.setCell ⟨wd2.heap.size, 0, none⟩ (.int .i64 1))) := HB.out.trans ((HB3.out.setCell (Nat.le_refl _) _).mono HB.out.size)
      generalize w3x.setCell ⟨wd2.heap.size, 0, none⟩ (.int .i64 1) = Wc at HOWN HBS ⊢
      clear g3 f3 HB3
      have cw : Wc.cell? ⟨w2.heap.size, 0, none⟩ = some (.slice A l.length cp) := (HBS.out.cell (p := ⟨w2.heap.size, 0, none⟩) hz0).trans c0
      have hzw : w2.heap.size < Wc.heap.size := by have := HBS.out.size; omega
      have HSC := Lib.hid (HS0.out.below HBS.out)
      clear HLAT HLOK HAP1 HAP2 HST HIS
      go_cut [15] (fun _ wx => Below Wc.heap.size Wc wx)
      case first =>
        go_wp2_with fail
        go_loopg [15] 7 (fun gk i w' => ∃ k : Nat, i = .int .i64 k ∧ k + gk = 7 ∧ k ≤ 6 ∧ Below Wc.heap.size Wc w')
        case atStart => exact ⟨0, rfl, rfl, by omega, Below.refl _ _⟩
        case round =>
          obtain ⟨k, rfl, hgk, hk6, hb⟩ := hrel
          obtain ⟨wk, rfl⟩ : ∃ y : World, y = wr := ⟨_, rfl⟩
          have HBk := Lib.hid hb
          have HGK := Lib.hid hgk
          have ck : wk.cell? ⟨w2.heap.size, 0, none⟩ = some (.slice A l.length cp) := (hb.cell (p := ⟨w2.heap.size, 0, none⟩) hzw).trans cw
          clear hb hgk
          by_cases hle : k ≤ 5
          · have dle : decide ((k : Int) ≤ 5) = true := by simp; omega
            have HLEK := Lib.hid hle
            have HCAOK : Hid (caOk l (unitC l.length 0) k = true) := top_ca HL.out hle
            have HITE : Hid (itOk l ⟨#[97]⟩ k = decide (isum (caR l (unitC l.length 0) k) l.length ≤ 400)) := HAS.out ▸ top_it HL.out HG.out hle
            have HIT' := Lib.hid (HIT.out k)
            have HSZ' : Hid (itOk l ⟨#[97]⟩ k = true → ((itR l ⟨#[97]⟩ k).size : Int) = isum (caR l (unitC l.length 0) k) l.length ∧ (itR l ⟨#[97]⟩ k).size ≤ 400) := fun h => ev_size (l := l) HAS.out (k := k) h HCAOK.out
            have HCE' : Hid (itOk l ⟨#[97]⟩ k = true → (countsR (itR l ⟨#[97]⟩ k)).length = 4 ∧ ∀ i, i < 4 → (countsR (itR l ⟨#[97]⟩ k)).getD i 0 = (if i < l.length then (caR l (unitC l.length 0) k).getD i 0 else 0)) := fun h => ev_cell (l := l) HAS.out (k := k) h HCAOK.out
            have HLN : Hid (lenR l ⟨#[97]⟩ k = isum (caR l (unitC l.length 0) k) l.length) := ev_lenA HL.out HAS.out (k := k) HCAOK.out
            have HCS := Lib.hid (caR_small HCAOK.out)
            clear hle
            go_wp2_with fail
            refine (implIterateSubst l _ ⟨#[97]⟩ k _ (HSC.out.below HBk.out) HZ.out hln (by decide)).mono ?_
            rintro e wm ⟨rfl, hb⟩
            have HBm := Lib.hid (HBk.out.trans (hb.mono HBk.out.size))
            have cm : wm.cell? ⟨w2.heap.size, 0, none⟩ = some (.slice A l.length cp) := (HBm.out.cell (p := ⟨w2.heap.size, 0, none⟩) hzw).trans cw
            clear hb
            go_wp2_with fail
            refine (implCountAfter l _ (unitC l.length 0) _ k _ (HSC.out.below HBm.out) HZ.out hln ((Lst.of_own HOWN.out).below HBm.out) (by rw [unitC_length]; exact hln)).mono ?_
            rintro e wp ⟨vp, rfl, hop, hb⟩
            obtain ⟨Ap, cpp, rfl⟩ := own_slice hop
            rw [HCAOK.out]
            have HBp := Lib.hid (HBm.out.trans (hb.mono HBm.out.size))
            have cp' : wp.cell? ⟨w2.heap.size, 0, none⟩ = some (.slice A l.length cp) := (HBp.out.cell (p := ⟨w2.heap.size, 0, none⟩) hzw).trans cw
            have HLP := Lib.hid (Lst.of_own hop)
            clear hb hop
            have HLR := Lib.hid (fun (W' : World) (hb : Below Wc.heap.size Wc W') => implLengthAfter l _ ⟨#[97]⟩ k W' (HSC.out.below hb) HZ.out hln (by decide))
            rw [HLN.out] at HLR
            clear HLN HCAOK
            generalize itR l ⟨#[97]⟩ (k : Int) = u at HIT' HSZ' HCE' ⊢
            generalize itOk l ⟨#[97]⟩ (k : Int) = b5 at HIT' HSZ' HCE' HITE ⊢
            generalize caR l (unitC l.length 0) (k : Int) = cs at HSZ' HCE' HCS HLP HITE HLR ⊢
            obtain ⟨hcl, hcb⟩ := HCS.out
            rw [hcl] at HLP ⊢
            have HCLE := Lib.hid hcl
            clear hcl HCS
            obtain ⟨bc, oc, eA, hcells⟩ := ev_ints_at HLP.out (by rw [HCLE.out]; exact hl1)
            subst eA
            have HSUM : Hid (∀ W', Lst W' (.slice (some ⟨bc, oc, none⟩) l.length cpp) (ints cs) → Calls Try.prog 26 #[.slice (some ⟨bc, oc, none⟩) l.length cpp] W' fun e w' => e = .returned (.int .i64 (isum cs l.length)) ∧ W' = w') := fun W' h => by
              have := sumC cs _ _ h (by rw [HCLE.out]; exact hl4) (by rw [HCLE.out]; exact hcb)
              rw [HCLE.out] at this
              exact this
            clear hcells
            cases b5
            · have hs : decide (isum cs l.length ≤ 400) = false := HITE.out.symm
              clear HITE HSZ' HCE' HIT'
              generalize isum cs l.length = sm at HSUM HLR hs
              go_wp2_with fail
              refine (HLR.out _ HBp.out).mono ?_
              rintro e wq ⟨rfl, hb⟩
              have HBq := Lib.hid (HBp.out.trans (hb.mono HBp.out.size))
              have HLQ := Lib.hid (Lst.below HLP.out hb)
              clear hb
              go_wp2_with (go_at_call 26; refine (HSUM.out _ HLQ.out).mono ?_; rintro e w' ⟨rfl, rfl⟩)
              go_roundg (gk - 1)
              case measure => have h1 := HGK.out; have h2 := HLEK.out; omega
              case rel => exact ⟨k + 1, by go_num, by have := HGK.out; have := HLEK.out; omega, by have := HLEK.out; omega, HBq.out⟩
            · obtain ⟨hsz1, hsz2⟩ := HSZ'.out rfl
              obtain ⟨hc4, hcc⟩ := HCE'.out rfl
              have HCC := Lib.hid hcc
              rw [← hsz1] at HSUM HLR
              clear hsz1 hcc HITE HSZ' HCE'
              have d4 : decide ((u.size : Int) ≤ 400) = true := by simp; omega
              go_wp2_with fail
              refine (HLR.out _ HBp.out).mono ?_
              rintro e wq ⟨rfl, hb⟩
              have HBq := Lib.hid (HBp.out.trans (hb.mono HBp.out.size))
              have HLQ := Lib.hid (Lst.below HLP.out hb)
              clear hb
              go_wp2_with (go_at_call 26; refine (HSUM.out _ HLQ.out).mono ?_; rintro e w' ⟨rfl, rfl⟩)
              refine (implCountsOf u _ (by omega)).mono ?_
              rintro e wz ⟨vz, rfl, hoz, hb⟩
              generalize countsR u = cu at HCC hc4 hoz
              rw [hc4] at hoz
              obtain ⟨gz, cz, rfl, _⟩ := own_some hoz (by decide)
              have HZC : Hid (∀ j, j < 4 → wz.cell? ⟨gz, j, none⟩ = some (.int .i64 (cu.getD j 0))) := fun j hj => by
                rw [hoz.cellAt j (by omega)]
                simp [ints, List.getD, List.getElem?_eq_getElem (show j < cu.length by omega)]
              have HLZ := Lib.hid (Lst.below HLQ.out hb)
              have HCZ : Hid (∀ j, j < l.length → wz.cell? ⟨bc, oc + j, none⟩ = some (.int .i64 (cs.getD j 0))) := fun j hj => by
                obtain ⟨b', o', e', h'⟩ := ev_ints_at HLZ.out (by rw [HCLE.out]; exact hl1)
                injection e' with e'
                injection e' with e1 e2
                subst e1
                subst e2
                exact h' j (by rw [HCLE.out]; exact hj)
              have HBz := Lib.hid (HBq.out.trans (hb.mono HBq.out.size))
              clear hb hoz hc4
              go_upto_region 29 with (fail)
              go_cut [192] (fun s wx => s = .bool false ∧ wx = wz)
              case first =>
                by_cases h2 : u.size ≤ 200
                · have HST3 := Lib.hid (HIT'.out (by first | rfl | trivial) h2)
                  have d5 : decide ((u.size : Int) ≤ 200) = true := by simp; omega
                  go_wp2_with (first
                    | (go_at_call 21; refine (startsC _ _ HST3.out _).mono ?_; rintro e w' ⟨rfl, rfl⟩)
                    | (go_at_call 26; refine (HSUM.out _ HLZ.out).mono ?_; rintro e w' ⟨rfl, rfl⟩))
                  go_meet
                  exact ⟨rfl, rfl⟩
                · have d5 : decide ((u.size : Int) ≤ 200) = false := by simp; omega
                  go_wp2_with (go_at_call 26; refine (HSUM.out _ HLZ.out).mono ?_; rintro e w' ⟨rfl, rfl⟩)
                  go_meet
                  exact ⟨rfl, rfl⟩
              case rest =>
                obtain ⟨rfl, hwz⟩ := hcut
                obtain ⟨wy, rfl⟩ : ∃ y : World, y = wc := ⟨_, rfl⟩
                subst hwz
                go_wp2_with fail
                go_loop [195] (fun i => ∃ q : Nat, q ≤ 4 ∧ i = .int .i64 q) (fun i => 4 - (intOf i).toNat)
                case atStart => exact ⟨0, by omega, rfl⟩
                case round =>
                  obtain ⟨q, hq, rfl⟩ := hrel
                  by_cases hlt : q < 4
                  · have g1 := HZC.out q hlt
                    rw [HCC.out q hlt] at g1
                    by_cases hql : q < l.length
                    · rw [if_pos hql] at g1
                      have g2 := HCZ.out q hql
                      generalize cs.getD q 0 = x at g1 g2
                      go_wp2_with fail
                      go_round
                      case rel => exact ⟨q + 1, by omega, by go_num⟩
                      case measure => simp [intOf]; omega
                    · rw [if_neg hql] at g1
                      go_wp2_with fail
                      go_round
                      case rel => exact ⟨q + 1, by omega, by go_num⟩
                      case measure => simp [intOf]; omega
                  · go_wp2_with fail
                    go_roundg (gk - 1)
                    case measure => have h1 := HGK.out; have h2 := HLEK.out; omega
                    case rel => exact ⟨k + 1, by go_num, by have := HGK.out; have := HLEK.out; omega, by have := HLEK.out; omega, HBz.out⟩
          · have dle : decide ((k : Int) ≤ 5) = false := by simp; omega
            go_wp2_with fail
            go_meet
            exact HBk.out
      case rest =>
        obtain ⟨wl, rfl⟩ : ∃ y : World, y = wc := ⟨_, rfl⟩
        have HBL : Hid (Below W.heap.size W wl) := HBS.out.trans (hcut.mono HBS.out.size)
        have cl : wl.cell? ⟨w2.heap.size, 0, none⟩ = some (.slice A l.length cp) := (HBL.out.cell (p := ⟨w2.heap.size, 0, none⟩) hz0).trans c0
        clear hcut
        go_wp2_with fail
        refine (implGrowingLetters l _ _ (HS0.out.below HBL.out) HZ.out hln).mono ?_
        rintro e wg ⟨rfl, hb⟩
        have HBG : Hid (Below W.heap.size W wg) := HBL.out.trans (hb.mono HBL.out.size)
        have cg : wg.cell? ⟨w2.heap.size, 0, none⟩ = some (.slice A l.length cp) := (HBG.out.cell (p := ⟨w2.heap.size, 0, none⟩) hz0).trans c0
        clear hb
        go_wp2_with fail
        refine topLast_walk l A cp w2.heap.size W wg HL.out HG.out HS0.out c0 hz0 HBG.out _ _ (fun a w' hd h2 hb => ?_) _ _ _ _ _ _ _ _ _ _ _ _ _ _ _ _ _ _ _ _ _ _ _ _ _ _ _ _ _ _ _ _ _ _ _ _ _ _ _ _ _ _ _ _ _ _ _ _ _ _ _ _ _ _ _ _ _ _ _ _ _ _ _ _ _ _ _ _ _ _ _ _ _ _ _ _ _ _ _ _ _ _ _ _ _ _ _ _ _ _ _ _ _ _ _ _ _ _ _ _ _ _ _ _ _ _ _ _ _ _ _ _ _ _ _ _ _ _ _ _ _ _ _ _ _ _ _ _ _ _ _ _ _ _ _ _ _ _ _ _ _ _ _ _ _ _ _ _ _ _ _ _ _ _ _ _ _ _ _ _ _ _ _ _ _ _ _ _ _ _ _ _ _ _ _ _ _ _ _ _ _ _ _ _ _ _ _ _ _ _ _ _ _ _ _ _ _ _ _ _ _ _ _ _ _ _ _ _ _ _ _ _ _ _ _ _ _ _ _ _ _ _ _ _ _ _ _ _ _ _ _ _ _ _ _ _ _ _ _ _ _ _ _ _ _ _ _ _ _ _ _ _ _ _ _ _
        refine ‹∀ (a : Act) (w : World), Code.wp Try.prog Code.ret _ a w → _› _ _ (wp_ret ?_)
        exact bodyPost_ret (v := .bool true) (by simp [results, Try.results3, go_sem, h2]) hd ⟨rfl, HBW.out.trans (hb.mono HBW.out.size)⟩
set_option maxRecDepth 100000 in
theorem fnTop_walk {H : Type} {enc : TypeId × Value → H} {base : Nat} {r : Reach} {b0 : Nat} {d0 : DataW H} {ps0 : List MemPlace} (v0 : Value) (w : World) (hval0 : Value.okWide Try.prog w r b0 22 v0) (h0 : DataW.Trod enc Try.prog w base (fun _ => true) true 22 v0 d0 ps0) :
    Calls Try.prog 3 #[v0] w fun e w' => e = .returned (.bool true) ∧ Below w.heap.size w w' := by
  obtain ⟨zs, hl, hz⟩ := bytes_arg Try.underlying22 Try.underlying5 (by kernel_rfl) hval0 h0
  exact fnTop_walk0 zs v0 w hl hz

set_option maxRecDepth 100000 in
theorem fnTop_row (os : Os) (started : os.Started) (H : Type) (enc : TypeId × Value → H) :
    ReturnsInHanded {} Try.checked os 3 .any (Rows.fnTopSpec.pre6 enc Try.prog Try.f3 Rows.fnTopRow.domain false) (Rows.fnTopSpec.post enc Try.prog Try.f3 false true false false) :=
  lawLifted (C := Try.checked) ownKnobs started (by kernel_rfl) Try.func3 laidOut (by kernel_rfl) (by kernel_rfl) Try.underlying4 rfl
    (fun ds h => by match ds, h with | [_], _ => rfl)
    (ChangeSpec.witness6 (enc := enc) (C := Try.checked) false ⟨#[], #[.slice none 0 0], []⟩ 8 (by kernel_rfl) (by kernel_rfl) (by kernel_rfl) (by kernel_rfl))
    (fun W base args ds p hval0 hA0 hlt => by
      have hval : ∀ (j : Nat) t v, Try.f3.params[j]? = some t → args[j]? = some v → Value.okWide Try.prog W .any base t v := hval0
      have hA : DataW.TrodAll enc Try.prog W 0 (fun _ => true) true Try.f3.params.toList args.toList ds p := hA0
      clear hval0 hA0
      rw [Try.params3] at hA hval
      obtain ⟨v0, d0, rfl, rfl, h0⟩ := trodAll_one hA
      exact fnTop_walk v0 W (hval 0 22 v0 rfl rfl) h0)

theorem fnTop_holds : Rows.FnTopSaid :=
  OpenClaim.holds_of_wide 3 Try.f3 rfl rfl rfl rfl rfl rfl rfl ⟨rfl, rfl, rfl, rfl, rfl⟩ rfl rfl rfl rfl rfl (by kernel_rfl) Try.func3 (by kernel_rfl)
    (of_decide_eq_true (by kernel_rfl)) (by unfold Func.isWrapper; first | (rw [if_pos (by decide +kernel)]; kernel_rfl) | (rw [if_neg (by decide +kernel)]; exact ⟨rfl, rfl⟩))
    (fun os started H enc _ => fnTop_row os started H enc)

end Go.Proofs.Ytfcbfflkajlhnaa
