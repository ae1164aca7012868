/- FnEveryText: for every argument the law returns true. No condition. -/
import Derived.Test.YtbbcdeknnfghkaaMgE1
import Derived.Test.YtbbcdeknnfghkaaMgE13
import Derived.Test.YtbbcdeknnfghkaaMgE17
import Derived.Test.YtbbcdeknnfghkaaMgE18
import Derived.Test.YtbbcdeknnfghkaaMgE24
import Derived.Test.YtbbcdeknnfghkaaMgE23
import Derived.Test.YtbbcdeknnfghkaaMgE21
import Derived.Test.YtbbcdeknnfghkaaMgE26
import Derived.Test.YtbbcdeknnfghkaaMgE30
import Derived.Deep.DeepCutAuto
import Derived.Deep.CutBlock
import Derived.Deep.LoopGhost
namespace Go.Proofs.Ytbbcdeknnfghkaa
open Go.ChangeShapes Go.WideShapes Go.ChangeAt Go.RowKit
open Go.ChangeMaps (open_string shut_string)

theorem parse_is {t : ByteArray} (h : parseOk t = true) : substB (parseSub t) = true := by
  have e : parseSub t = splitL t ⟨#[44]⟩ := if_pos h
  rw [e]
  unfold parseOk at h
  simp only [Bool.and_eq_true] at h
  exact h.2.1
theorem sub_small {l : List ByteArray} (hl : substB l = true) : ∀ x ∈ l, x.size ≤ 1048576 := fun x hx => by
  obtain ⟨k, hk, rfl⟩ := List.mem_iff_getElem.1 hx
  have := (img_parts ((subst_parts hl).2.2 k hk)).2.1
  omega

set_option maxHeartbeats 4000000 in
set_option maxRecDepth 100000 in
theorem fnEveryText_walk0 (t : ByteArray) (n tm : Int) (w : World) :
    Calls Try.prog 3 #[.string t, .int .i64 n, .int .i64 tm] w fun e w' => e = .returned (.bool true) ∧ Below w.heap.size w w' := by
  obtain ⟨i0, hi0, hi1, hi2, hi3⟩ := info_parts int_info
  by_cases ht : t.size ≤ 1048576
  · by_cases htm : tm ≤ 40
    · by_cases hp : parseOk t = true
      · have HPO := Lib.hid hp
        have HL := Lib.hid (parse_is hp)
        have HZ := Lib.hid (sub_small HL.out)
        have hln : (parseSub t).length ≤ 1048576 := by have := (subst_parts HL.out).2.1; omega
        clear hp
        by_cases hg : growB (parseSub t) 0 = true
        · have HG := Lib.hid hg
          clear hg
          by_cases hn : 0 ≤ n ∧ n ≤ 400
          · obtain ⟨m, rfl⟩ : ∃ m : Nat, n = m := ⟨n.toNat, by omega⟩
            have hm : m ≤ 400 := by omega
            clear hn
            go_enter Try.func3, Try.ntmps3
            go_wp2_with fail
            refine (implParseSubst t _ ht).mono ?_
            rintro e w1 ⟨v1, rfl, ho1, hb1⟩
            obtain ⟨A1, cp1, rfl⟩ := own_slice ho1
            rw [HPO.out]
            have HB1 := Lib.hid (hb1.alloc hb1.size (.cells #[.slice A1 (parseSub t).length cp1] 24))
            clear hb1 ho1
            go_wp2_with fail
            refine (specParseSubst t _ ht).mono ?_
            rintro e w2 ⟨v2, rfl, ho2, hb2⟩
            obtain ⟨A, cp, rfl⟩ := own_slice ho2
            rw [HPO.out]
            have HB2 := Lib.hid (HB1.out.trans (hb2.mono HB1.out.size))
            have HS0 := Lib.hid ((Lst.of_own ho2).below ((Below.refl _ _).alloc (Nat.le_refl _) (.cells #[.slice A (parseSub t).length cp] 24)))
            have HBW := Lib.hid (HB2.out.alloc HB2.out.size (.cells #[.slice A (parseSub t).length cp] 24))
            have c0 : (w2.alloc (.cells #[.slice A (parseSub t).length cp] 24)).cell? ⟨w2.heap.size, 0, none⟩ = some (.slice A (parseSub t).length cp) := by rw [World.cell?_alloc_at _ _ _ _ rfl]; rfl
            have hz0 : w2.heap.size < (w2.alloc (.cells #[.slice A (parseSub t).length cp] 24)).heap.size := by simp
            clear hb2 ho2
            go_wp2_with fail
            generalize w2.alloc (.cells #[.slice A (parseSub t).length cp] 24) = W at HS0 HBW c0 hz0 ⊢
            generalize parseSub t = l at HL HZ hln HS0 c0 HG ⊢
            have HB := Lib.hid (Below.refl W.heap.size W)
            have ha : (⟨#[97]⟩ : ByteArray) = aS := rfl
            obtain ⟨hf1, hf2⟩ := ev_fixOk HL.out HG.out ha (n := 400) (m := 400) rfl (Nat.le_refl _)
            obtain ⟨hf3, hf4⟩ := ev_fixOk HL.out HG.out ha (n := (m : Int)) (m := m) rfl hm
            obtain ⟨hl1, hl4, _⟩ := subst_parts HL.out
            have HF := Lib.hid hf1
            have HFR := Lib.hid hf2
            have HN := Lib.hid hf3
            have HNR := Lib.hid hf4
            have HIS := Lib.hid (fx_isStart HL.out HG.out hm)
            have HST := Lib.hid (ev_start HL.out HG.out hm)
            have z400 := fxS_size HL.out HG.out 400
            have zm := fxS_size HL.out HG.out m
            have HAPP := Lib.hid (fun h => ev_app HL.out HG.out (m := m) h)
            have HLAT := Lib.hid (fun (i : Nat) (hi : i < 400) => ev_longCell HL.out HG.out ha i hi)
            have HLOK := Lib.hid (fun (i : Nat) (hi : i ≤ 10000) => ev_lat HL.out HG.out ha hi)
            have HIT := Lib.hid (fun (k : Nat) h => ev_it HG.out ha (k := k) h)
            have HSZ := Lib.hid (fun (k : Nat) h1 h2 => ev_size (l := l) ha (k := k) h1 h2)
            have HCE := Lib.hid (fun (k : Nat) h1 h2 => ev_cell (l := l) ha (k := k) h1 h2)
            have HLE := Lib.hid (fun (k : Nat) h2 => ev_lenA HL.out ha (k := k) h2)
            clear hf1 hf2 hf3 hf4 ha
            generalize fxS l 400 = long at HFR HST z400 HLAT HIT HAPP
            generalize fxS l m = wd at HNR HIS HST zm HAPP
            refine (specFixedPoint l _ ⟨#[97]⟩ 400 _ (HS0.out.below HB.out) HZ.out hln (by decide)).mono ?_
            rintro e w3 ⟨rfl, hb⟩
            replace HB : Hid (Below W.heap.size W w3) := HB.out.trans (hb.mono HB.out.size)
            have c3 : w3.cell? ⟨w2.heap.size, 0, none⟩ = some (.slice A l.length cp) := (HB.out.cell (p := ⟨w2.heap.size, 0, none⟩) hz0).trans c0
            clear hb
            rw [HF.out, HFR.out]
            go_wp2_with fail
            refine (implFixedPoint l _ ⟨#[97]⟩ 400 _ (HS0.out.below HB.out) HZ.out hln (by decide)).mono ?_
            rintro e w4 ⟨rfl, hb⟩
            replace HB : Hid (Below W.heap.size W w4) := HB.out.trans (hb.mono HB.out.size)
            have c4 : w4.cell? ⟨w2.heap.size, 0, none⟩ = some (.slice A l.length cp) := (HB.out.cell (p := ⟨w2.heap.size, 0, none⟩) hz0).trans c0
            clear hb
            rw [HF.out, HFR.out]
            go_wp2_with fail
            refine (specFixedPoint l _ ⟨#[97]⟩ m _ (HS0.out.below HB.out) HZ.out hln (by decide)).mono ?_
            rintro e w5 ⟨rfl, hb⟩
            replace HB : Hid (Below W.heap.size W w5) := HB.out.trans (hb.mono HB.out.size)
            have c5 : w5.cell? ⟨w2.heap.size, 0, none⟩ = some (.slice A l.length cp) := (HB.out.cell (p := ⟨w2.heap.size, 0, none⟩) hz0).trans c0
            clear hb
            rw [HN.out, HNR.out]
            go_wp2_with fail
            refine (implFixedPoint l _ ⟨#[97]⟩ m _ (HS0.out.below HB.out) HZ.out hln (by decide)).mono ?_
            rintro e w6 ⟨rfl, hb⟩
            replace HB : Hid (Below W.heap.size W w6) := HB.out.trans (hb.mono HB.out.size)
            have c6 : w6.cell? ⟨w2.heap.size, 0, none⟩ = some (.slice A l.length cp) := (HB.out.cell (p := ⟨w2.heap.size, 0, none⟩) hz0).trans c0
            clear hb
            rw [HN.out, HNR.out]
            go_wp2_with fail
            refine (startsC long wd HST.out _).mono ?_
            rintro e w' ⟨rfl, rfl⟩
            go_wp2_with fail
            refine (implIsFixedStart l _ wd _ (HS0.out.below HB.out) HZ.out hln (by omega)).mono ?_
            rintro e w7 ⟨rfl, hb⟩
            replace HB : Hid (Below W.heap.size W w7) := HB.out.trans (hb.mono HB.out.size)
            have c7 : w7.cell? ⟨w2.heap.size, 0, none⟩ = some (.slice A l.length cp) := (HB.out.cell (p := ⟨w2.heap.size, 0, none⟩) hz0).trans c0
            clear hb
            rw [HIS.out]
            go_wp2_with fail
            refine (implApplySubst l _ wd _ (HS0.out.below HB.out) HZ.out hln (by omega)).mono ?_
            rintro e w8 ⟨rfl, hb⟩
            replace HB : Hid (Below W.heap.size W w8) := HB.out.trans (hb.mono HB.out.size)
            have c8 : w8.cell? ⟨w2.heap.size, 0, none⟩ = some (.slice A l.length cp) := (HB.out.cell (p := ⟨w2.heap.size, 0, none⟩) hz0).trans c0
            clear hb
            have HAS : Hid (appOk l wd = true → (appR l wd).size ≤ 400) := fun h => by
              have h1 := (HAPP.out h).length_le
              have h2 : (appR l wd).data.toList.length = (appR l wd).size := by simp
              have h3 : long.data.toList.length = long.size := by simp
              omega
            generalize appR l wd = av at HAPP HAS ⊢
            generalize appOk l wd = ao at HAPP HAS ⊢
            go_upto_region 20 with (fail)
            go_cut [20, 121, 124, 126, 138] (fun _ _ _ _ s wx => s = .bool false ∧ Below W.heap.size W wx)
            case first =>
              cases ao
              · go_wp2_with fail
                go_meet
                exact ⟨rfl, HB.out⟩
              · have h4 := HAS.out rfl
                have d4 : decide ((av.size : Int) ≤ 400) = true := by simp; omega
                go_wp2_with (go_at_call 15; refine (startsC long av (HAPP.out rfl) _).mono ?_; rintro e w' ⟨rfl, rfl⟩)
                go_meet
                exact ⟨rfl, HB.out⟩
            case rest =>
              obtain ⟨rfl, hbx⟩ := hcut
              obtain ⟨wa, rfl⟩ : ∃ y : World, y = wc := ⟨_, rfl⟩
              replace HB := Lib.hid hbx
              have ca : wa.cell? ⟨w2.heap.size, 0, none⟩ = some (.slice A l.length cp) := (HB.out.cell (p := ⟨w2.heap.size, 0, none⟩) hz0).trans c0
              clear hbx
              go_upto_block 0 with (fail)
              go_cut [21, 22, 23] (fun _ _ _ wx => Below W.heap.size W wx)
              case first =>
                go_wp2_with fail
                go_loopw [21] (fun i w' => ∃ j : Nat, j ≤ 406 ∧ i = .int .i64 j ∧ Below W.heap.size W w') (fun i _ => 407 - (intOf i).toNat)
                case atStart => exact ⟨0, by omega, rfl, HB.out⟩
                case round =>
                  obtain ⟨j, hj, rfl, hb⟩ := hrel
                  obtain ⟨wi, rfl⟩ : ∃ y : World, y = wr := ⟨_, rfl⟩
                  have HBi := Lib.hid hb
                  have ci : wi.cell? ⟨w2.heap.size, 0, none⟩ = some (.slice A l.length cp) := (hb.cell (p := ⟨w2.heap.size, 0, none⟩) hz0).trans c0
                  clear hb
                  by_cases hlt : j < 400
                  · have hsl := HLAT.out j hlt
                    have HOK := Lib.hid (HLOK.out j (by omega))
                    go_wp2_with fail
                    refine (implLetterAt l _ ⟨#[97]⟩ j _ (HS0.out.below HBi.out) HZ.out hln (by decide)).mono ?_
                    rintro e wj ⟨rfl, hb⟩
                    rw [HOK.out]
                    have HBj : Hid (Below W.heap.size W wj) := HBi.out.trans (hb.mono HBi.out.size)
                    clear hb
                    generalize latR l ⟨#[97]⟩ (j : Int) = x at hsl ⊢
                    go_wp2_with fail
                    go_roundw
                    case rel => exact ⟨j + 7, by omega, by go_num, HBj.out⟩
                    case measure => simp [intOf]; omega
                  · go_wp2_with fail
                    go_meet
                    exact HBi.out
              case rest =>
                obtain ⟨wd2, rfl⟩ : ∃ y : World, y = wc := ⟨_, rfl⟩
                replace HB := Lib.hid hcut
                have cd : wd2.cell? ⟨w2.heap.size, 0, none⟩ = some (.slice A l.length cp) := (HB.out.cell (p := ⟨w2.heap.size, 0, none⟩) hz0).trans c0
                have hzd : w2.heap.size < wd2.heap.size := by have := HB.out.size; omega
                clear hcut
                go_upto_block 2 with (first
                  | (at_make
                     refine wpList_make_full _ rfl _ _ 32 rfl wd2.heap.size 3 i0 (.int .i64 0) 1 Try.underlying32 hi0 hi1 hi2 .i64 .i64 _ _ l.length rfl rfl rfl rfl (by rw [hi3]; omega) (by unfold maxLen; omega) (Nat.le_refl _) ?_
                     intro w3x hown hgrow
                     have HB3 : Hid (Below wd2.heap.size wd2 w3x) := (Below.refl _ _).grown hgrow (Nat.le_refl _) (fun k hk => by cases hk)
                     have e0 : ((madeCells (Value.int .i64 0).cells (l.length * 1)).toList) = ints (List.replicate l.length 0) := by
                       rw [Nat.mul_one]
                       exact (toList_madeCells_one _ _).trans (by simp [ints])
                     rw [e0] at hown
                     have g3 : w3x.cell? ⟨wd2.heap.size, 0, none⟩ = some (.int .i64 0) := (hown.cellAt 0 (by omega)).trans (by unfold ints; rw [List.map_replicate, List.getElem?_replicate, if_pos (by omega)])
                     have f3 : w3x.frozen? ⟨wd2.heap.size, 0, none⟩ = false := hown.frozenAt 0
                     have HOWN : Hid ((w3x.setCell ⟨wd2.heap.size, 0, none⟩ (.int .i64 1)).ownsRow wd2.heap.size 3 1 (.slice (some ⟨wd2.heap.size, 0, none⟩) l.length l.length) l.length (ints (unitC l.length 0))) := by
                       have := (hown.stored 0 (.int .i64 1)).1
                       have e1 : (ints (List.replicate l.length 0)).set 0 (.int .i64 1) = ints (unitC l.length 0) := by
                         unfold ints unitC
                         rw [List.map_set]
                       rw [e1] at this
                       exact this
                     clear hown hgrow e0))
                have HBS : Hid (Below W.heap.size W (w3x.setCell ⟨wd2.heap.size, 0, none⟩ (.int .i64 1))) := HB.out.trans ((HB3.out.setCell (Nat.le_refl _) _).mono HB.out.size)
                generalize w3x.setCell ⟨wd2.heap.size, 0, none⟩ (.int .i64 1) = Wc at HOWN HBS ⊢
                clear g3 f3 HB3
                have cw : Wc.cell? ⟨w2.heap.size, 0, none⟩ = some (.slice A l.length cp) := (HBS.out.cell (p := ⟨w2.heap.size, 0, none⟩) hz0).trans c0
                have hzw : w2.heap.size < Wc.heap.size := by have := HBS.out.size; omega
                have HSC := Lib.hid (HS0.out.below HBS.out)
                clear HLAT HLOK HAPP HAS HST HIS
                go_wp2_with fail
                go_loopg [25] 42 (fun gk i w' => ∃ k : Nat, i = .int .i64 k ∧ k + gk = 42 ∧ ((k : Int) ≤ tm + 1 ∨ k = 0) ∧ Below Wc.heap.size Wc w')
                case atStart => exact ⟨0, rfl, rfl, .inr rfl, Below.refl _ _⟩
                case round =>
                  obtain ⟨k, rfl, hgk, hkt, hb⟩ := hrel
                  obtain ⟨wk, rfl⟩ : ∃ y : World, y = wr := ⟨_, rfl⟩
                  have HBk := Lib.hid hb
                  have HGK := Lib.hid hgk
                  have HKT := Lib.hid hkt
                  have ck : wk.cell? ⟨w2.heap.size, 0, none⟩ = some (.slice A l.length cp) := (hb.cell (p := ⟨w2.heap.size, 0, none⟩) hzw).trans cw
                  clear hb hgk hkt
                  by_cases hle : (k : Int) ≤ tm
                  · have dle : decide ((k : Int) ≤ tm) = true := by simpa using hle
                    have HLEK : Hid (k ≤ 40) := by show k ≤ 40; omega
                    have HTL := Lib.hid hle
                    have hk40 : k ≤ 40 := HLEK.out
                    have HIT' := Lib.hid (HIT.out k)
                    have HSZ' := Lib.hid (HSZ.out k)
                    have HCE' := Lib.hid (HCE.out k)
                    have HLE' := Lib.hid (HLE.out k)
                    have HCA : Hid (caOk l (unitC l.length 0) k = true → (caR l (unitC l.length 0) k).length = l.length ∧ ∀ q, q < l.length → 0 ≤ (caR l (unitC l.length 0) k).getD q 0 ∧ (caR l (unitC l.length 0) k).getD q 0 ≤ 1000000000000) := fun h => caR_small h
                    clear hle
                    go_wp2_with fail
                    refine (specIterateSubst l _ ⟨#[97]⟩ k _ (HSC.out.below HBk.out) HZ.out hln (by decide)).mono ?_
                    rintro e wl ⟨rfl, hb⟩
                    have HBl := Lib.hid (HBk.out.trans (hb.mono HBk.out.size))
                    have cl : wl.cell? ⟨w2.heap.size, 0, none⟩ = some (.slice A l.length cp) := (HBl.out.cell (p := ⟨w2.heap.size, 0, none⟩) hzw).trans cw
                    clear hb
                    go_wp2_with fail
                    refine (implIterateSubst l _ ⟨#[97]⟩ k _ (HSC.out.below HBl.out) HZ.out hln (by decide)).mono ?_
                    rintro e wm ⟨rfl, hb⟩
                    have HBm := Lib.hid (HBl.out.trans (hb.mono HBl.out.size))
                    have cm : wm.cell? ⟨w2.heap.size, 0, none⟩ = some (.slice A l.length cp) := (HBm.out.cell (p := ⟨w2.heap.size, 0, none⟩) hzw).trans cw
                    clear hb
                    go_wp2_with fail
                    refine (specCountAfter l _ (unitC l.length 0) _ k _ (HSC.out.below HBm.out) HZ.out hln ((Lst.of_own HOWN.out).below HBm.out) (by rw [unitC_length]; exact hln)).mono ?_
                    rintro e wn ⟨vn, rfl, hon, hb⟩
                    obtain ⟨An, cn, rfl⟩ := own_slice hon
                    have HBn := Lib.hid (HBm.out.trans (hb.mono HBm.out.size))
                    have cn' : wn.cell? ⟨w2.heap.size, 0, none⟩ = some (.slice A l.length cp) := (HBn.out.cell (p := ⟨w2.heap.size, 0, none⟩) hzw).trans cw
                    clear hb hon
                    go_wp2_with fail
                    refine (implCountAfter l _ (unitC l.length 0) _ k _ (HSC.out.below HBn.out) HZ.out hln ((Lst.of_own HOWN.out).below HBn.out) (by rw [unitC_length]; exact hln)).mono ?_
                    rintro e wp ⟨vp, rfl, hop, hb⟩
                    obtain ⟨Ap, cpp, rfl⟩ := own_slice hop
                    have HBp := Lib.hid (HBn.out.trans (hb.mono HBn.out.size))
                    have cp' : wp.cell? ⟨w2.heap.size, 0, none⟩ = some (.slice A l.length cp) := (HBp.out.cell (p := ⟨w2.heap.size, 0, none⟩) hzw).trans cw
                    have HLP := Lib.hid (Lst.of_own hop)
                    clear hb hop
                    have HLR := Lib.hid (fun (W' : World) (hb : Below Wc.heap.size Wc W') => implLengthAfter l _ ⟨#[97]⟩ k W' (HSC.out.below hb) HZ.out hln (by decide))
                    generalize lenR l ⟨#[97]⟩ (k : Int) = ln at HLE' HLR
                    generalize itR l ⟨#[97]⟩ (k : Int) = u at HIT' HSZ' HCE' ⊢
                    generalize itOk l ⟨#[97]⟩ (k : Int) = b5 at HIT' HSZ' HCE' ⊢
                    generalize caR l (unitC l.length 0) (k : Int) = cs at HSZ' HCE' HLE' HCA HLP ⊢
                    generalize caOk l (unitC l.length 0) (k : Int) = b6 at HSZ' HCE' HLE' HCA ⊢
                    cases b6
                    · cases b5
                      · go_wp2_with fail
                        go_roundg (gk - 1)
                        case measure => have h1 := HGK.out; have h2 := HLEK.out; omega
                        case rel => exact ⟨k + 1, by go_num, by have := HGK.out; have := HLEK.out; omega, .inl (by have := HTL.out; omega), HBp.out⟩
                      · go_wp2_with fail
                        go_roundg (gk - 1)
                        case measure => have h1 := HGK.out; have h2 := HLEK.out; omega
                        case rel => exact ⟨k + 1, by go_num, by have := HGK.out; have := HLEK.out; omega, .inl (by have := HTL.out; omega), HBp.out⟩
                    · obtain ⟨hcl, hcb⟩ := HCA.out rfl
                      have HLN := Lib.hid (HLE'.out rfl)
                      rw [hcl] at HLP ⊢
                      have HCLE := Lib.hid hcl
                      clear hcl
                      cases b5
                      · skip
                        go_wp2_with fail
                        refine (HLR.out _ HBp.out).mono ?_
                        rintro e wq ⟨rfl, hb⟩
                        rw [HLN.out]
                        have HBq := Lib.hid (HBp.out.trans (hb.mono HBp.out.size))
                        have cq : wq.cell? ⟨w2.heap.size, 0, none⟩ = some (.slice A l.length cp) := (HBq.out.cell (p := ⟨w2.heap.size, 0, none⟩) hzw).trans cw
                        have HLQ := Lib.hid (Lst.below HLP.out hb)
                        have HSUM : Hid (Calls Try.prog 24 #[.slice Ap l.length cpp] wq fun e w' => e = .returned (.int .i64 (isum cs l.length)) ∧ wq = w') := by
                          have := sumC cs _ _ HLQ.out (by rw [HCLE.out]; exact hl4) (by rw [HCLE.out]; exact hcb)
                          rw [HCLE.out] at this
                          exact this
                        clear hb
                        go_wp2_with fail
                        refine HSUM.out.mono ?_
                        rintro e w' ⟨rfl, rfl⟩
                        generalize isum cs l.length = sm
                        go_wp2_with fail
                        go_roundg (gk - 1)
                        case measure => have h1 := HGK.out; have h2 := HLEK.out; omega
                        case rel => exact ⟨k + 1, by go_num, by have := HGK.out; have := HLEK.out; omega, .inl (by have := HTL.out; omega), HBq.out⟩
                      · obtain ⟨hsz1, hsz2⟩ := HSZ'.out rfl rfl
                        obtain ⟨hc4, hcc⟩ := HCE'.out rfl rfl
                        have HSTU := Lib.hid (HIT'.out rfl)
                        have HCC := Lib.hid hcc
                        have HSM1 := Lib.hid hsz1.symm
                        obtain ⟨bc, oc, eA, hcells⟩ := ev_ints_at HLP.out (by rw [HCLE.out]; exact hl1)
                        subst eA
                        clear hsz1 hcc
                        go_wp2_with fail
                        refine (HLR.out _ HBp.out).mono ?_
                        rintro e wq ⟨rfl, hb⟩
                        rw [HLN.out]
                        have HBq := Lib.hid (HBp.out.trans (hb.mono HBp.out.size))
                        have cq : wq.cell? ⟨w2.heap.size, 0, none⟩ = some (.slice A l.length cp) := (HBq.out.cell (p := ⟨w2.heap.size, 0, none⟩) hzw).trans cw
                        have HLQ := Lib.hid (Lst.below HLP.out hb)
                        have HSUM : Hid (Calls Try.prog 24 #[.slice (some ⟨bc, oc, none⟩) l.length cpp] wq fun e w' => e = .returned (.int .i64 (isum cs l.length)) ∧ wq = w') := by
                          have := sumC cs _ _ HLQ.out (by rw [HCLE.out]; exact hl4) (by rw [HCLE.out]; exact hcb)
                          rw [HCLE.out] at this
                          exact this
                        clear hb
                        go_wp2_with fail
                        refine HSUM.out.mono ?_
                        rintro e w' ⟨rfl, rfl⟩
                        rw [HSM1.out]
                        have HCL : Hid (∀ j, j < l.length → wq.cell? ⟨bc, oc + j, none⟩ = some (.int .i64 (cs.getD j 0))) := fun j hj => by
                          obtain ⟨b', o', e', h'⟩ := ev_ints_at HLQ.out (by rw [HCLE.out]; exact hl1)
                          injection e' with e'
                          injection e' with e1 e2
                          subst e1
                          subst e2
                          exact h' j (by rw [HCLE.out]; exact hj)
                        have d4 : decide ((u.size : Int) ≤ 400) = true := by simp; omega
                        clear hcells
                        go_wp2_with (first
                          | (go_at_call 15; refine (startsC long u HSTU.out _).mono ?_; rintro e w' ⟨rfl, rfl⟩)
                          | (go_at_call 24; refine HSUM.out.mono ?_; rintro e w' ⟨rfl, rfl⟩; rw [HSM1.out]))
                        refine (implCountsOf u _ (by omega)).mono ?_
                        rintro e wz ⟨vz, rfl, hoz, hb⟩
                        generalize countsR u = cu at HCC hc4 hoz
                        rw [hc4] at hoz
                        obtain ⟨gz, cz, rfl, _⟩ := own_some hoz (by decide)
                        have HZC : Hid (∀ j, j < 4 → wz.cell? ⟨gz, j, none⟩ = some (.int .i64 (cu.getD j 0))) := fun j hj => by
                          rw [hoz.cellAt j (by omega)]
                          simp [ints, List.getD, List.getElem?_eq_getElem (show j < cu.length by omega)]
                        have HCZ : Hid (∀ j, j < l.length → wz.cell? ⟨bc, oc + j, none⟩ = some (.int .i64 (cs.getD j 0))) := fun j hj => by
                          have hc := HCL.out j hj
                          rw [← hc]
                          exact hb.cell (p := ⟨bc, oc + j, none⟩) (World.block_lt_of_cell? wq _ hc)
                        have HBz := Lib.hid (HBq.out.trans (hb.mono HBq.out.size))
                        clear hb hoz hc4
                        go_wp2_with fail
                        go_loop [241] (fun i => ∃ q : Nat, q ≤ 4 ∧ i = .int .i64 q) (fun i => 4 - (intOf i).toNat)
                        case atStart => exact ⟨0, by omega, rfl⟩
                        case round =>
                          obtain ⟨q, hq, rfl⟩ := hrel
                          by_cases hlt : q < 4
                          · have g1 := HZC.out q hlt
                            rw [HCC.out q hlt] at g1
                            by_cases hql : q < l.length
                            · rw [if_pos hql] at g1
                              have g2 := HCZ.out q hql
                              generalize cs.getD q 0 = x at g1 g2
                              go_wp2_with fail
                              go_round
                              case rel => exact ⟨q + 1, by omega, by go_num⟩
                              case measure => simp [intOf]; omega
                            · rw [if_neg hql] at g1
                              go_wp2_with fail
                              go_round
                              case rel => exact ⟨q + 1, by omega, by go_num⟩
                              case measure => simp [intOf]; omega
                          · go_wp2_with fail
                            go_roundg (gk - 1)
                            case measure => have h1 := HGK.out; have h2 := HLEK.out; omega
                            case rel => exact ⟨k + 1, by go_num, by have := HGK.out; have := HLEK.out; omega, .inl (by have := HTL.out; omega), HBz.out⟩
                  · have dle : decide ((k : Int) ≤ tm) = false := by simpa using hle
                    go_wp2_with fail
                    go_ret
                    exact ⟨rfl, HBW.out.trans ((HBS.out.trans (HBk.out.mono HBS.out.size)).mono HBW.out.size)⟩
          · skip
            go_enter Try.func3, Try.ntmps3
            go_wp2_with fail
            refine (implParseSubst t _ ht).mono ?_
            rintro e w1 ⟨v1, rfl, ho1, hb1⟩
            obtain ⟨A1, cp1, rfl⟩ := own_slice ho1
            rw [HPO.out]
            have HB1 := Lib.hid (hb1.alloc hb1.size (.cells #[.slice A1 (parseSub t).length cp1] 24))
            clear hb1 ho1
            go_wp2_with fail
            refine (specParseSubst t _ ht).mono ?_
            rintro e w2 ⟨v2, rfl, ho2, hb2⟩
            obtain ⟨A, cp, rfl⟩ := own_slice ho2
            rw [HPO.out]
            have HB2 := Lib.hid (HB1.out.trans (hb2.mono HB1.out.size))
            have HS0 := Lib.hid ((Lst.of_own ho2).below ((Below.refl _ _).alloc (Nat.le_refl _) (.cells #[.slice A (parseSub t).length cp] 24)))
            have HBW := Lib.hid (HB2.out.alloc HB2.out.size (.cells #[.slice A (parseSub t).length cp] 24))
            have c0 : (w2.alloc (.cells #[.slice A (parseSub t).length cp] 24)).cell? ⟨w2.heap.size, 0, none⟩ = some (.slice A (parseSub t).length cp) := by rw [World.cell?_alloc_at _ _ _ _ rfl]; rfl
            have hz0 : w2.heap.size < (w2.alloc (.cells #[.slice A (parseSub t).length cp] 24)).heap.size := by simp
            clear hb2 ho2
            go_wp2_with fail
            generalize w2.alloc (.cells #[.slice A (parseSub t).length cp] 24) = W at HS0 HBW c0 hz0 ⊢
            generalize parseSub t = l at HL HZ hln HS0 c0 HG ⊢
            have HB := Lib.hid (Below.refl W.heap.size W)
            have HF := Lib.hid (ev_fixOk HL.out HG.out (show (⟨#[97]⟩ : ByteArray) = aS from rfl) (n := 400) (m := 400) rfl (Nat.le_refl _)).1
            have HN : Hid (fixOk l ⟨#[97]⟩ n = false) := by
              show fixOk l aS n = false
              unfold fixOk
              rw [show (decide (0 ≤ n) && decide (n ≤ 400)) = false by simp; omega, Bool.and_false]
            refine (specFixedPoint l _ ⟨#[97]⟩ 400 _ (HS0.out.below HB.out) HZ.out hln (by decide)).mono ?_
            rintro e w3 ⟨rfl, hb⟩
            replace HB : Hid (Below W.heap.size W w3) := HB.out.trans (hb.mono HB.out.size)
            have c3 : w3.cell? ⟨w2.heap.size, 0, none⟩ = some (.slice A l.length cp) := (HB.out.cell (p := ⟨w2.heap.size, 0, none⟩) hz0).trans c0
            clear hb
            rw [HF.out]
            go_wp2_with fail
            refine (implFixedPoint l _ ⟨#[97]⟩ 400 _ (HS0.out.below HB.out) HZ.out hln (by decide)).mono ?_
            rintro e w4 ⟨rfl, hb⟩
            replace HB : Hid (Below W.heap.size W w4) := HB.out.trans (hb.mono HB.out.size)
            have c4 : w4.cell? ⟨w2.heap.size, 0, none⟩ = some (.slice A l.length cp) := (HB.out.cell (p := ⟨w2.heap.size, 0, none⟩) hz0).trans c0
            clear hb
            rw [HF.out]
            go_wp2_with fail
            refine (specFixedPoint l _ ⟨#[97]⟩ n _ (HS0.out.below HB.out) HZ.out hln (by decide)).mono ?_
            rintro e w5 ⟨rfl, hb⟩
            replace HB : Hid (Below W.heap.size W w5) := HB.out.trans (hb.mono HB.out.size)
            have c5 : w5.cell? ⟨w2.heap.size, 0, none⟩ = some (.slice A l.length cp) := (HB.out.cell (p := ⟨w2.heap.size, 0, none⟩) hz0).trans c0
            clear hb
            rw [HN.out]
            go_wp2_with fail
            refine (implFixedPoint l _ ⟨#[97]⟩ n _ (HS0.out.below HB.out) HZ.out hln (by decide)).mono ?_
            rintro e w6 ⟨rfl, hb⟩
            replace HB : Hid (Below W.heap.size W w6) := HB.out.trans (hb.mono HB.out.size)
            have c6 : w6.cell? ⟨w2.heap.size, 0, none⟩ = some (.slice A l.length cp) := (HB.out.cell (p := ⟨w2.heap.size, 0, none⟩) hz0).trans c0
            clear hb
            rw [HN.out]
            go_wp2_with fail
            go_ret
            exact ⟨rfl, HBW.out.trans (HB.out.mono HBW.out.size)⟩
        · have hg' : growB (parseSub t) 0 = false := by simpa using hg
          have HG := Lib.hid hg'
          clear hg hg'
          go_enter Try.func3, Try.ntmps3
          go_wp2_with fail
          refine (implParseSubst t _ ht).mono ?_
          rintro e w1 ⟨v1, rfl, ho1, hb1⟩
          obtain ⟨A1, cp1, rfl⟩ := own_slice ho1
          rw [HPO.out]
          have HB1 := Lib.hid (hb1.alloc hb1.size (.cells #[.slice A1 (parseSub t).length cp1] 24))
          clear hb1 ho1
          go_wp2_with fail
          refine (specParseSubst t _ ht).mono ?_
          rintro e w2 ⟨v2, rfl, ho2, hb2⟩
          obtain ⟨A, cp, rfl⟩ := own_slice ho2
          rw [HPO.out]
          have HB2 := Lib.hid (HB1.out.trans (hb2.mono HB1.out.size))
          have HS0 := Lib.hid ((Lst.of_own ho2).below ((Below.refl _ _).alloc (Nat.le_refl _) (.cells #[.slice A (parseSub t).length cp] 24)))
          have HBW := Lib.hid (HB2.out.alloc HB2.out.size (.cells #[.slice A (parseSub t).length cp] 24))
          have c0 : (w2.alloc (.cells #[.slice A (parseSub t).length cp] 24)).cell? ⟨w2.heap.size, 0, none⟩ = some (.slice A (parseSub t).length cp) := by rw [World.cell?_alloc_at _ _ _ _ rfl]; rfl
          have hz0 : w2.heap.size < (w2.alloc (.cells #[.slice A (parseSub t).length cp] 24)).heap.size := by simp
          clear hb2 ho2
          go_wp2_with fail
          generalize w2.alloc (.cells #[.slice A (parseSub t).length cp] 24) = W at HS0 HBW c0 hz0 ⊢
          generalize parseSub t = l at HL HZ hln HS0 c0 HG ⊢
          have HB := Lib.hid (Below.refl W.heap.size W)
          have HF := Lib.hid (ev_fixNo HL.out HG.out (show (⟨#[97]⟩ : ByteArray) = aS from rfl) 400)
          refine (specFixedPoint l _ ⟨#[97]⟩ 400 _ (HS0.out.below HB.out) HZ.out hln (by decide)).mono ?_
          rintro e w3 ⟨rfl, hb⟩
          replace HB : Hid (Below W.heap.size W w3) := HB.out.trans (hb.mono HB.out.size)
          have c3 : w3.cell? ⟨w2.heap.size, 0, none⟩ = some (.slice A l.length cp) := (HB.out.cell (p := ⟨w2.heap.size, 0, none⟩) hz0).trans c0
          clear hb
          rw [HF.out]
          go_wp2_with fail
          refine (implFixedPoint l _ ⟨#[97]⟩ 400 _ (HS0.out.below HB.out) HZ.out hln (by decide)).mono ?_
          rintro e w4 ⟨rfl, hb⟩
          replace HB : Hid (Below W.heap.size W w4) := HB.out.trans (hb.mono HB.out.size)
          have c4 : w4.cell? ⟨w2.heap.size, 0, none⟩ = some (.slice A l.length cp) := (HB.out.cell (p := ⟨w2.heap.size, 0, none⟩) hz0).trans c0
          clear hb
          rw [HF.out]
          go_wp2_with fail
          go_ret
          exact ⟨rfl, HBW.out.trans (HB.out.mono HBW.out.size)⟩
      · have hp' : parseOk t = false := by simpa using hp
        have HPO := Lib.hid hp'
        clear hp hp'
        go_enter Try.func3, Try.ntmps3
        go_wp2_with fail
        refine (implParseSubst t _ ht).mono ?_
        rintro e w1 ⟨v1, rfl, ho1, hb1⟩
        obtain ⟨A1, cp1, rfl⟩ := own_slice ho1
        rw [HPO.out]
        have HB1 := Lib.hid (hb1.alloc hb1.size (.cells #[.slice A1 (parseSub t).length cp1] 24))
        clear hb1 ho1
        go_wp2_with fail
        refine (specParseSubst t _ ht).mono ?_
        rintro e w2 ⟨v2, rfl, ho2, hb2⟩
        obtain ⟨A, cp, rfl⟩ := own_slice ho2
        rw [HPO.out]
        have HB2 := Lib.hid (HB1.out.trans (hb2.mono HB1.out.size))
        have HBW := Lib.hid (HB2.out.alloc HB2.out.size (.cells #[.slice A (parseSub t).length cp] 24))
        clear hb2 ho2
        go_wp2_with fail
        go_ret
        exact ⟨rfl, HBW.out⟩
    · skip
      go_enter Try.func3, Try.ntmps3
      go_wp2_with fail
      go_ret
      exact ⟨rfl, Below.refl _ _⟩
  · skip
    go_enter Try.func3, Try.ntmps3
    go_wp2_with fail
    go_ret
    exact ⟨rfl, Below.refl _ _⟩

theorem fnEveryText_walk (t : ByteArray) (n tm : Int) (w : World) (_ : t.size ≤ maxLen) (_ : (Lit.int .i64 n).wf = true) (_ : (Lit.int .i64 tm).wf = true) :
    Calls Try.prog 3 #[.string t, .int .i64 n, .int .i64 tm] w fun e w' => e = .returned (.bool true) ∧ Below w.heap.size w w' := fnEveryText_walk0 t n tm w

set_option maxRecDepth 100000 in
theorem fnEveryText_row (os : Os) (started : os.Started) (H : Type) (enc : TypeId × Value → H) :
    ReturnsInHanded {} Try.checked os 3 .any (Rows.fnEveryTextSpec.pre6 enc Try.prog Try.f3 Rows.fnEveryTextRow.domain false) (Rows.fnEveryTextSpec.post enc Try.prog Try.f3 false true false false) :=
  lawLifted (C := Try.checked) ownKnobs started (by kernel_rfl) Try.func3 laidOut (by kernel_rfl) (by kernel_rfl) Try.underlying4 rfl
    (fun ds h => by match ds, h with | [_, _, _], _ => rfl)
    (ChangeSpec.witness6 (enc := enc) (C := Try.checked) false ⟨#[], #[.string ⟨#[]⟩, .int .i64 0, .int .i64 0], []⟩ 8 (by kernel_rfl) (by kernel_rfl) (by kernel_rfl) (by kernel_rfl))
    (fun W base args ds p hval0 hA0 hlt => by
      have hval : ∀ (j : Nat) t v, Try.f3.params[j]? = some t → args[j]? = some v → Value.okWide Try.prog W .any base t v := hval0
      have hA : DataW.TrodAll enc Try.prog W 0 (fun _ => true) true Try.f3.params.toList args.toList ds p := hA0
      clear hval0 hA0
      rw [Try.params3] at hA hval
      obtain ⟨v0, v1, v2, d0, d1, d2, p0, p1, p2, rfl, rfl, rfl, h0, h1, h2⟩ := trodAll_three hA
      obtain ⟨a0, rfl, rfl, rfl, b0⟩ := open_string Try.underlying9 (hval 0 9 v0 rfl rfl) h0
      obtain ⟨a1, rfl, rfl, rfl, b1⟩ := open_int Try.underlying3 (hval 1 3 v1 rfl rfl) h1
      obtain ⟨a2, rfl, rfl, rfl, b2⟩ := open_int Try.underlying3 (hval 2 3 v2 rfl rfl) h2
      exact fnEveryText_walk a0 a1 a2 W b0 b1 b2)

theorem fnEveryText_holds : Rows.FnEveryTextSaid :=
  OpenClaim.holds_of_wide 3 Try.f3 rfl rfl rfl rfl rfl rfl rfl ⟨rfl, rfl, rfl, rfl, rfl⟩ rfl rfl rfl rfl rfl (by kernel_rfl) Try.func3 (by kernel_rfl)
    (of_decide_eq_true (by kernel_rfl)) (by unfold Func.isWrapper; first | (rw [if_pos (by decide +kernel)]; kernel_rfl) | (rw [if_neg (by decide +kernel)]; exact ⟨rfl, rfl⟩))
    (fun os started H enc _ => fnEveryText_row os started H enc)

end Go.Proofs.Ytbbcdeknnfghkaa
