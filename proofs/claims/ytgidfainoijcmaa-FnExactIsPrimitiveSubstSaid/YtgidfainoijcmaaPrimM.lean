/- l04Signs and IsPrimitiveSubst of the model. Conditions: lengths of at most 2^20. -/
import Derived.Test.YtgidfainoijcmaaPrimP
import Derived.Test.YtgidfainoijcmaaCountM
namespace Go.Proofs.Ytgidfainoijcmaa
open Go.RowKit

theorem rect_cells {w : World} {v : Value} {n : Nat} {m : List (List Int)} (h : Mat w v m) (hr : RectN n m) (h0 : 0 < n) : ∃ b off cap, v = .slice (some ⟨b, off, none⟩) n cap ∧ ∀ k, k < n → ∃ b2 off2 cap2, w.cell? ⟨b, off + k, none⟩ = some (.slice (some ⟨b2, off2, none⟩) n cap2) ∧ ∀ j, j < n → w.cell? ⟨b2, off2 + j, none⟩ = some (.int .i64 (at2 m k j)) := by
  have := mat_rect h hr.2 (by rw [hr.1]; exact h0) h0
  rwa [hr.1] at this

set_option maxHeartbeats 2000000 in
set_option maxRecDepth 100000 in
theorem specSigns (n : Nat) (a b : List (List Int)) (va vb : Value) (w : World) (h1 : Mat w va a) (h2 : Mat w vb b) (ha : RectN n a) (hb : RectN n b) (h0 : 1 ≤ n) (h4 : n ≤ 4) :
    Calls Try.prog 82 #[va, vb] w fun e w' => ∃ v, e = .returned v ∧ OwnMat w' w.heap.size w'.heap.size v (sgM a b) ∧ Below w.heap.size w w' := by
  obtain ⟨i0, hi0, hz0, hz1, hz2⟩ := info_parts int_info
  obtain ⟨i1, hj0, hy0, hy1, hy2⟩ := info_parts ints_info
  obtain ⟨ba, oa, ca, rfl, hra⟩ := rect_cells h1 ha h0
  obtain ⟨bb, ob, cb, rfl, hrb⟩ := rect_cells h2 hb h0
  have HRA := Lib.hid hra
  have HRB := Lib.hid hrb
  have HML : Hid ((sgM a b).length = n) := by show (sgM a b).length = n; rw [sgM_length]; exact ha.1
  have HBL := Lib.hid hb.1
  clear h1 h2 hra hrb ha hb
  go_enter Try.func82, Try.ntmps82
  go_wp2_with fail
  go_loopw [5, 16] (fun o i w' => ∃ (us : List Value), us.length ≤ n ∧ i = .int .i64 us.length ∧ GrowMat w' w.heap.size o us (sgM a b) ∧ Below w.heap.size w w') (fun _ i _ => n - (intOf i).toNat)
  case atStart => exact ⟨[], by simp, rfl, ⟨own_made0 _ _ _ (Nat.le_refl _), ⟨by simp, fun i h => absurd h (by simp), fun i j h => absurd h (by simp)⟩⟩, (Below.refl _ _).alloc (Nat.le_refl _) _⟩
  case round =>
    obtain ⟨us, hk, rfl, hgm, hbk⟩ := hrel
    obtain ⟨wo, rfl⟩ : ∃ x : World, x = wr := ⟨_, rfl⟩
    obtain ⟨A, cpo, rfl⟩ := own_slice hgm.1
    have HGM := Lib.hid hgm
    have HBK := Lib.hid hbk
    have hszr : w.heap.size ≤ wo.heap.size := hbk.size
    clear hgm hbk
    by_cases hlt : us.length < n
    · obtain ⟨b2, o2, c2, g1, hrow⟩ := HRA.out us.length hlt
      have g1w : wo.cell? ⟨ba, oa + us.length, none⟩ = some (.slice (some ⟨b2, o2, none⟩) n c2) := (HBK.out.cell (p := ⟨ba, oa + us.length, none⟩) (World.block_lt_of_cell? w _ g1)).trans g1
      have HROW := Lib.hid hrow
      clear hrow g1
      go_wp2_with fail
      go_loopw [8, 23] (fun r j w' => ∃ (k : Nat), k ≤ n ∧ j = .int .i64 k ∧ w'.ownsRow wo.heap.size 3 1 r k (ints ((sgRow a b us.length).take k)) ∧ Below wo.heap.size wo w') (fun _ j _ => n - (intOf j).toNat)
      case atStart => exact ⟨0, by omega, rfl, own_made0 _ _ _ (Nat.le_refl _), (Below.refl _ _).alloc (Nat.le_refl _) _⟩
      case round =>
        obtain ⟨k, hk2, rfl, ho, hb2⟩ := hrel
        obtain ⟨wi, rfl⟩ : ∃ x : World, x = wr := ⟨_, rfl⟩
        obtain ⟨Ar, cpr, rfl⟩ := own_slice ho
        have HO := Lib.hid ho
        have HB2 := Lib.hid hb2
        have hszq := hb2.size
        have HBW : Hid (Below w.heap.size w wi) := HBK.out.trans (hb2.mono hszr)
        clear ho hb2
        by_cases hlt2 : k < n
        · have HS : Hid (ints ((sgRow a b us.length).take (k + 1)) = ints ((sgRow a b us.length).take k) ++ [.int .i64 (sgI a b us.length k n)]) := by
            have := sgRow_take a b us.length k (by rw [HBL.out]; exact hlt2)
            rw [HBL.out] at this
            exact this
          go_wp2_with fail
          go_loop [10, 28] (fun s q => ∃ (j : Nat), j ≤ n ∧ q = .int .i64 j ∧ s = .int .i64 (sgI a b us.length k j)) (fun _ q => n - (intOf q).toNat)
          case atStart => exact ⟨0, by omega, rfl, rfl⟩
          case round =>
            obtain ⟨j, hj, rfl, rfl⟩ := hrel
            by_cases hlt3 : j < n
            · obtain ⟨b3, o3, c3, q1, hrow3⟩ := HRB.out j hlt3
              have p1 := HROW.out j hlt3
              have p2 := hrow3 k hlt2
              have g2 : wi.cell? ⟨b2, o2 + j, none⟩ = some (.int .i64 (at2 a us.length j)) := (HBW.out.cell (p := ⟨b2, o2 + j, none⟩) (World.block_lt_of_cell? w _ p1)).trans p1
              have g3 : wi.cell? ⟨bb, ob + j, none⟩ = some (.slice (some ⟨b3, o3, none⟩) n c3) := (HBW.out.cell (p := ⟨bb, ob + j, none⟩) (World.block_lt_of_cell? w _ q1)).trans q1
              have g4 : wi.cell? ⟨b3, o3 + k, none⟩ = some (.int .i64 (at2 b j k)) := (HBW.out.cell (p := ⟨b3, o3 + k, none⟩) (World.block_lt_of_cell? w _ p2)).trans p2
              clear hrow3 q1 p1 p2
              by_cases e1 : 0 < at2 a us.length j
              · have d1 : decide ((0 : Int) < at2 a us.length j) = true := by simpa using e1
                by_cases e2 : 0 < at2 b j k
                · have d2 : decide ((0 : Int) < at2 b j k) = true := by simpa using e2
                  have HV := Lib.hid (sgI_yes e1 e2)
                  go_wp2_with fail
                  go_round
                  case rel => exact ⟨j + 1, by omega, by go_num, by rw [HV.out]⟩
                  case measure => simp [intOf]; omega
                · have d2 : decide ((0 : Int) < at2 b j k) = false := by simpa using e2
                  have HV : Hid (sgI a b us.length k (j + 1) = sgI a b us.length k j) := sgI_no (by rw [d2, Bool.and_false])
                  go_wp2_with fail
                  go_round
                  case rel => exact ⟨j + 1, by omega, by go_num, by rw [HV.out]⟩
                  case measure => simp [intOf]; omega
              · have d1 : decide ((0 : Int) < at2 a us.length j) = false := by simpa using e1
                have HV : Hid (sgI a b us.length k (j + 1) = sgI a b us.length k j) := sgI_no (by rw [d1, Bool.false_and])
                go_wp2_with fail
                go_round
                case rel => exact ⟨j + 1, by omega, by go_num, by rw [HV.out]⟩
                case measure => simp [intOf]; omega
            · have hja : j = n := by omega
              have HJA := Lib.hid hja
              clear hja
              go_wp2_with (at_builtin
                           refine wpList_append1 _ rfl (.tmp 46) (.tmp 48) _ rfl wo.heap.size 3 i0 _ 8 Try.underlying30 hi0 hz0 hz1 hz2 rfl _ k _ rfl HO.out (.int .i64 (sgI a b us.length k j)) rfl rfl (by unfold maxLen; omega) (by omega) hszq ?_
                           intro v' w1 hown1 hbel1
                           have HOW := Lib.hid hown1
                           have HBE := Lib.hid hbel1
                           clear hown1 hbel1)
              go_roundw
              case rel =>
                refine ⟨k + 1, by omega, by go_num, ?_, HB2.out.trans HBE.out⟩
                rw [HS.out, ← HJA.out]
                exact HOW.out
              case measure => simp [intOf]; omega
        · have hkl : k = n := by omega
          have HO2 : Hid (wi.ownsRow wo.heap.size 3 1 (.slice Ar k cpr) n (ints (sgRow a b us.length))) := by
            have := HO.out
            rw [hkl, List.take_of_length_le (by rw [sgRow_length, HBL.out]; exact Nat.le_refl _)] at this
            rw [hkl]
            exact this
          have HG1 := Lib.hid (GrowMat.below HGM.out HB2.out)
          have HGU := Lib.hid HG1.out.1
          clear hkl
          go_wp2_with (at_builtin
                       refine wpList_append1g _ rfl (.tmp 51) (.tmp 53) _ rfl w.heap.size 30 i1 _ 24 Try.underlying27 hj0 hy0 hy1 hy2 rfl _ us.length us rfl HGU.out (.slice Ar k cpr) rfl rfl (by unfold maxLen; omega) (by omega) (by omega) ?_
                       intro v' w1 hown1 hgr1
                       have HOW := Lib.hid hown1
                       have HGR := Lib.hid hgr1
                       clear hown1 hgr1)
          go_roundw
          case rel =>
            have hmm : us.length < (sgM a b).length := by rw [HML.out]; exact hlt
            have hrow : (sgM a b)[us.length] = sgRow a b us.length := sgM_at a b us.length hmm
            refine ⟨us ++ [.slice Ar k cpr], by simp; omega, by simp, ?_, ?_⟩
            · refine GrowMat.snoc HGM.out HB2.out hszr hmm ?_ HOW.out HGR.out
              rw [hrow, sgRow_length, HBL.out]
              exact HO2.out
            · exact HBW.out.grown HGR.out (by omega) (fun x hx => (HGU.out.lt x hx).1)
          case measure => simp [intOf]; omega
    · have hkl : us.length = (sgM a b).length := by have := HML.out; omega
      have HOM : Hid (OwnMat wo w.heap.size wo.heap.size (.slice A us.length cpo) (sgM a b)) := HGM.out.own hkl
      clear hkl
      go_wp2_with fail
      go_ret
      exact ⟨_, rfl, HOM.out, HBK.out⟩

set_option maxHeartbeats 2000000 in
set_option maxRecDepth 100000 in
theorem specIsPrimitiveSubst (l : List ByteArray) (v : Value) (w : World) (h : Lst w v (strs l)) (hz : ∀ x ∈ l, x.size ≤ 1048576) (hn : l.length ≤ 1048576) :
    Calls Try.prog 41 #[.agg #[v]] w fun e w' => e = .returned (.bool (primR l)) ∧ Below w.heap.size w w' := by
  obtain ⟨A, cp, rfl⟩ := lst_slice h
  rw [strs_length] at h ⊢
  have hb0 : Below w.heap.size w (w.alloc (.cells #[.slice A l.length cp] 25)) := (Below.refl _ _).alloc (Nat.le_refl _) _
  have HL := Lib.hid (h.below hb0)
  have HZ := Lib.hid hz
  have HB0 := Lib.hid hb0
  clear h hz hb0
  by_cases h1 : substB l = true
  · obtain ⟨hl1, hl4, _⟩ := subst_parts h1
    have H1 := Lib.hid h1
    have HV : Hid (primR l = primTo l 16) := by show primR l = _; unfold primR; rw [h1]; rfl
    go_enter Try.func41, Try.ntmps41
    go_wp2_with fail
    refine (specSubstOk l _ _ HL.out HZ.out hn).mono ?_
    rintro e w1 ⟨rfl, hb1⟩
    have HB1 : Hid (Below w.heap.size w w1) := HB0.out.trans (hb1.mono (by simp))
    have c0 : w1.cell? ⟨w.heap.size, 0, none⟩ = some (.slice A l.length cp) := (hb1.cell (p := ⟨w.heap.size, 0, none⟩) (by simp)).trans (by go_simp)
    have HL1 := Lib.hid (HL.out.below hb1)
    clear hb1
    go_wp2_with fail
    refine (specMatrix l _ _ HL1.out H1.out).mono ?_
    rintro e w3 ⟨mv, rfl, hom, hb3⟩
    obtain ⟨Am, cm, rfl⟩ := mat_slice hom.mat
    have HM := Lib.hid hom.mat
    have HB3 : Hid (Below w.heap.size w w3) := HB1.out.trans (hb3.mono HB1.out.size)
    clear hom hb3 c0
    go_wp2_with fail
    go_loopw [4, 5] (fun o i w' => ∃ (k : Nat), k ≤ 16 ∧ i = .int .i64 k ∧ Mat w' o (powS l k) ∧ primTo l k = false ∧ Below w3.heap.size w3 w') (fun _ i _ => 16 - (intOf i).toNat)
    case atStart => exact ⟨0, by omega, rfl, HM.out, rfl, Below.refl _ _⟩
    case round =>
      obtain ⟨k, hk, rfl, hmk, hpk, hbk⟩ := hrel
      obtain ⟨b, off, cap, rfl, hrow⟩ := rect_cells hmk (powS_rect l k) (show 0 < l.length by omega)
      have HMK := Lib.hid hmk
      have HPK := Lib.hid hpk
      have HBK := Lib.hid hbk
      have HROW := Lib.hid hrow
      have HPS : Hid (primTo l (k + 1) = posTo (powS l k) l.length l.length) := by show (primTo l k || _) = _; rw [hpk, Bool.false_or]
      clear hmk hpk hbk hrow
      by_cases hlt : k < 16
      · have d0 : decide ((k : Int) < 16) = true := by simp; omega
        go_wp2_with fail
        go_loop [6, 23] (fun f i => ∃ (q : Nat), q ≤ l.length ∧ i = .int .i64 q ∧ f = .bool (posTo (powS l k) l.length q)) (fun _ i => l.length - (intOf i).toNat)
        case atStart => exact ⟨0, by omega, rfl, rfl⟩
        case round =>
          obtain ⟨q, hq, rfl, rfl⟩ := hrel
          by_cases hltq : q < l.length
          · obtain ⟨b2, o2, c2, g1, hc2⟩ := HROW.out q hltq
            have HC2 := Lib.hid hc2
            clear hc2
            go_wp2_with fail
            go_loop [6, 29] (fun f i => ∃ (p : Nat), p ≤ l.length ∧ i = .int .i64 p ∧ f = .bool (posTo (powS l k) l.length q && posRow (powS l k) q p)) (fun _ i => l.length - (intOf i).toNat)
            case atStart => exact ⟨0, by omega, rfl, by show Value.bool _ = Value.bool (_ && true); rw [Bool.and_true]⟩
            case round =>
              obtain ⟨p, hp, rfl, rfl⟩ := hrel
              by_cases hltp : p < l.length
              · have g2 := HC2.out p hltp
                have HE : Hid ((posTo (powS l k) l.length q && posRow (powS l k) q (p + 1)) = ((posTo (powS l k) l.length q && posRow (powS l k) q p) && decide (0 < at2 (powS l k) q p))) := by
                  show (_ && (posRow (powS l k) q p && decide (0 < at2 (powS l k) q p))) = _
                  rw [Bool.and_assoc]
                by_cases hf : (posTo (powS l k) l.length q && posRow (powS l k) q p) = true
                · rw [hf]
                  have HF := Lib.hid hf
                  clear hf
                  go_wp2_with fail
                  go_round
                  case rel => exact ⟨p + 1, by omega, by go_num, by rw [HE.out, HF.out, Bool.true_and]⟩
                  case measure => simp [intOf]; omega
                · have hf' : (posTo (powS l k) l.length q && posRow (powS l k) q p) = false := by simpa only [Bool.not_eq_true] using hf
                  rw [hf']
                  have HF := Lib.hid hf'
                  clear hf hf'
                  go_wp2_with fail
                  go_round
                  case rel => exact ⟨p + 1, by omega, by go_num, by rw [HE.out, HF.out, Bool.false_and]⟩
                  case measure => simp [intOf]; omega
              · have hpl : p = l.length := by omega
                have HE : Hid ((posTo (powS l k) l.length q && posRow (powS l k) q p) = posTo (powS l k) l.length (q + 1)) := by rw [hpl]; exact rfl
                clear hpl
                go_wp2_with fail
                go_round
                case rel => exact ⟨q + 1, by omega, by go_num, by rw [HE.out]⟩
                case measure => simp [intOf]; omega
          · have hql : q = l.length := by omega
            have HQL : Hid (primTo l (k + 1) = posTo (powS l k) l.length q) := by rw [hql]; exact HPS.out
            clear hql
            by_cases hf : posTo (powS l k) l.length q = true
            · have HYES : Hid (primR l = true) := by
                show primR l = true
                rw [HV.out]
                have e := primTo_mono (HQL.out.trans hf) (16 - (k + 1))
                rwa [show k + 1 + (16 - (k + 1)) = 16 from by omega] at e
              rw [hf]
              clear hf
              go_wp2_with fail
              go_ret
              exact ⟨ret_bool HYES.out.symm, HB3.out.trans (HBK.out.mono HB3.out.size)⟩
            · have hf' : posTo (powS l k) l.length q = false := by simpa using hf
              have HNO := Lib.hid (HQL.out.trans hf')
              rw [hf']
              clear hf hf'
              go_wp2_with fail
              refine (specSigns l.length (powS l k) (matL l) _ _ _ HMK.out (HM.out.below HBK.out) (powS_rect l k) (matL_rect l) hl1 hl4).mono ?_
              rintro e w5 ⟨v5, rfl, ho5, hb5⟩
              obtain ⟨A5, c5, rfl⟩ := mat_slice ho5.mat
              have HM5 := Lib.hid ho5.mat
              have HB5 : Hid (Below w3.heap.size w3 w5) := HBK.out.trans (hb5.mono HBK.out.size)
              clear ho5 hb5
              go_wp2_with fail
              go_roundw
              case rel => exact ⟨k + 1, by omega, by go_num, HM5.out, HNO.out, HB5.out⟩
              case measure => simp [intOf]; omega
      · have hk16 : k = 16 := by omega
        have HNO : Hid (primR l = false) := by show primR l = false; rw [HV.out, ← hk16]; exact HPK.out
        go_wp2_with fail
        go_ret
        exact ⟨ret_bool HNO.out.symm, HB3.out.trans (HBK.out.mono HB3.out.size)⟩
  · have h1' : substB l = false := by simpa using h1
    have HV : Hid (primR l = false) := by show primR l = false; unfold primR; rw [h1']; rfl
    clear h1
    go_enter Try.func41, Try.ntmps41
    go_wp2_with fail
    refine (specSubstOk l _ _ HL.out HZ.out hn).mono ?_
    rintro e w1 ⟨rfl, hb1⟩
    have HB1 : Hid (Below w.heap.size w w1) := HB0.out.trans (hb1.mono (by simp))
    clear hb1
    go_wp2_with fail
    go_ret
    exact ⟨ret_bool HV.out.symm, HB1.out⟩
end Go.Proofs.Ytgidfainoijcmaa
