/- Texts put together. -/
import Derived.Test.YtbbcdeknnfghkaaMgL7
import Derived.Test.YtbbcdeknnfghkaaMgL14
import Derived.Test.YtbbcdeknnfghkaaMgL10
import Derived.IntWalk
import Derived.Deep.DeepCutAuto
import Derived.Deep.CutBlock
import Derived.Deep.LoopGhost
import Derived.RangeFuncNested
import Derived.RangeFuncLeaves
import Derived.WalkKit
import Derived.Test.YtbbcdeknnfghkaaMgL1
import Derived.Test.YtbbcdeknnfghkaaChecked
import Derived.Test.YtbbcdeknnfghkaaMgL4
/- LetterAt of the model. Conditions: lengths of at most 2^20. -/
namespace Go.Proofs.Ytbbcdeknnfghkaa
open Go.RowKit

/-- how long the letters are after i applications -/
def szRow (l : List ByteArray) (i : Nat) : List Int := (List.range l.length).map fun j => (szN l i j : Int)
def szM (l : List ByteArray) (T : Nat) : List (List Int) := (List.range T).map (szRow l)
theorem szRow_length (l : List ByteArray) (i : Nat) : (szRow l i).length = l.length := by simp [szRow]
theorem szM_length (l : List ByteArray) (T : Nat) : (szM l T).length = T := by simp [szM]
theorem szM_at (l : List ByteArray) (T i : Nat) (h : i < (szM l T).length) : (szM l T)[i] = szRow l i := by simp [szM]
theorem szRow_getD (l : List ByteArray) (i j : Nat) (h : j < l.length) : (szRow l i).getD j 0 = (szN l i j : Int) := by
  rw [List.getD_eq_getElem?_getD, List.getElem?_eq_getElem (by rw [szRow_length]; exact h)]
  simp [szRow]
theorem szRow_take (l : List ByteArray) (i j : Nat) (h : j < l.length) : ints ((szRow l i).take (j + 1)) = ints ((szRow l i).take j) ++ [.int .i64 (szN l i j : Int)] := by
  have hk : j < (szRow l i).length := by rw [szRow_length]; exact h
  rw [List.take_succ_eq_append_getElem hk, ints_snoc]
  congr 3
  simp [szRow]
theorem szRow_all (l : List ByteArray) (i : Nat) : (szRow l i).take l.length = szRow l i := List.take_of_length_le (by rw [szRow_length]; exact Nat.le_refl _)
/-- the rows that are there, read -/
theorem GrowMat.read {w : World} {B : Nat} {o : Value} {us : List Value} {l : List ByteArray} {T : Nat} (h : GrowMat w B o us (szM l T)) (hl : 0 < l.length) (hu : 0 < us.length) :
    ∃ g c, o = .slice (some ⟨g, 0, none⟩) us.length c ∧ ∀ i (hi : i < us.length), ∃ g2 c2, us[i] = .slice (some ⟨g2, 0, none⟩) l.length c2 ∧ w.cell? ⟨g, i, none⟩ = some us[i] ∧ ∀ j, j < l.length → w.cell? ⟨g2, j, none⟩ = some (.int .i64 (szN l i j : Int)) := by
  obtain ⟨h1, h2, h3, _⟩ := h
  obtain ⟨g, c, rfl, _⟩ := own_some h1 hu
  refine ⟨g, c, rfl, fun i hi => ?_⟩
  have hr := h3 i hi (by omega)
  have e := szM_at l T i (by omega)
  rw [e, szRow_length] at hr
  obtain ⟨g2, c2, e2, _⟩ := own_some hr hl
  refine ⟨g2, c2, e2, ?_, fun j hj => ?_⟩
  · rw [h1.cellAt i (by omega), List.getElem?_eq_getElem hi]
  · rw [e2] at hr
    rw [own_ints_at hr (szRow_length l i) j hj, szRow_getD l i j hj]
theorem GrowMat.last {w : World} {B : Nat} {o u : Value} {us : List Value} {l : List ByteArray} {T : Nat} (h : GrowMat w B o (us ++ [u]) (szM l T)) : w.ownsRow B 3 1 u l.length (ints (szRow l us.length)) := by
  obtain ⟨_, h2, h3, _⟩ := h
  have hT : us.length < (szM l T).length := by rw [List.length_append] at h2; simp only [List.length_singleton] at h2; omega
  have hr := h3 us.length (by simp) hT
  rw [szM_at l T us.length hT, szRow_length, List.getElem_append_right (Nat.le_refl _)] at hr
  simpa using hr
theorem drop_cons {w : List UInt8} {j : Nat} (h : w.drop j ≠ []) : ∃ hj : j < w.length, w.drop j = w[j] :: w.drop (j + 1) := by
  have hj : j < w.length := by
    by_cases e : j < w.length
    · exact e
    · exact absurd (List.drop_eq_nil_of_le (by omega)) h
  exact ⟨hj, List.drop_eq_getElem_cons hj⟩
theorem latR_no {l : List ByteArray} {t : ByteArray} {n : Int} (h : latOk l t n = false) {w w' : World} (hb : Below w.heap.size w w') : PairSaid (latR l t n) (latOk l t n) w (.returned (.tuple #[.string ⟨#[]⟩, .bool false])) w' := by
  refine ⟨?_, hb⟩
  have e : latR l t n = ⟨#[]⟩ := if_neg (by rw [h]; decide)
  rw [h, e]

set_option maxHeartbeats 2000000 in
set_option maxRecDepth 100000 in
theorem specLetterAt (l : List ByteArray) (v : Value) (t : ByteArray) (n : Int) (w : World) (h : Lst w v (strs l)) (hz : ∀ x ∈ l, x.size ≤ 1048576) (hn : l.length ≤ 1048576) (ht : t.size ≤ 1048576) :
    Calls Try.prog 32 #[.agg #[v], .string t, .int .i64 n] w (PairSaid (latR l t n) (latOk l t n) w) := by
  obtain ⟨i0, hi0, hz0, hz1, hz2⟩ := info_parts int_info
  obtain ⟨i1, hj0, hy0, hy1, hy2⟩ := info_parts ints_info
  obtain ⟨A, cp, rfl⟩ := lst_slice h
  rw [strs_length] at h ⊢
  have hb0 : Below w.heap.size w (w.alloc (.cells #[.slice A l.length cp] 24)) := (Below.refl _ _).alloc (Nat.le_refl _) _
  have HL := Lib.hid (h.below hb0)
  have HZ := Lib.hid hz
  have HB0 := Lib.hid hb0
  clear h hz hb0
  by_cases h0 : growOk l t = true
  · obtain ⟨hN, h1, hg⟩ := grow_parts h0
    have hr : glR l t = (letN t : Int) := if_pos h0
    have d0 : decide ((letN t : Int) < 0) = false := by simp
    by_cases hin : 0 ≤ n ∧ n ≤ 10000
    · obtain ⟨m, rfl⟩ : ∃ m : Nat, n = m := ⟨n.toNat, by omega⟩
      have hm : m ≤ 10000 := by omega
      have d1 : decide ((0 : Int) ≤ (m : Int)) = true := by simp
      have d2 : decide ((m : Int) ≤ (10000 : Int)) = true := by simp; omega
      have HOK : Hid (latOk l t m = true) := by show latOk l t m = true; unfold latOk; rw [h0, d1, d2]; rfl
      have HV : Hid (latR l t m = ⟨#[(fixL l (letN t) (m + 1)).getD m 97]⟩) := if_pos HOK.out
      have HG := Lib.hid hg
      have H1 := Lib.hid h1
      obtain ⟨hl1, hl4, hl5⟩ := subst_parts h1
      have HI := Lib.hid hl5
      clear h0 hg hin h1 hl5
      go_enter Try.func32, Try.ntmps32
      go_wp2_with fail
      refine (specGrowLetter l _ t _ HL.out HZ.out hn ht).mono ?_
      rintro e w1 ⟨rfl, hb1⟩
      rw [hr]
      have HB1 : Hid (Below w.heap.size w w1) := HB0.out.trans (hb1.mono (by simp))
      have c1 : w1.cell? ⟨w.heap.size, 0, none⟩ = some (.slice A l.length cp) := (hb1.cell (p := ⟨w.heap.size, 0, none⟩) (by simp)).trans (by go_simp)
      have HL1 := Lib.hid (HL.out.below hb1)
      have hz1w : w.heap.size < w1.heap.size := by have := hb1.size; simp at this; omega
      obtain ⟨b, off, cp', hv, hat⟩ := lst_at HL1.out (by omega)
      injection hv with hA _ hcp
      subst hA; subst hcp
      have HAT := Lib.hid hat
      have HX := Lib.hid (fun i hlt => tgt_start H1.out hN HG.out (i := i) (n := m) hlt)
      have HGR := Lib.hid (fun i hle => szN_grow H1.out hN HG.out (i := i) (n := m) hm hle)
      have HSS := Lib.hid (fun i k hk => szN_succ H1.out i (k := k) hk)
      have HIL := Lib.hid (fun k hk => img_letters H1.out (i := k) hk)
      have HG0 : Hid (GrowMat (w1.alloc (.cells #[] 32)) w1.heap.size (.slice (some ⟨w1.heap.size, 0, none⟩) 0 0) [] (szM l 10001)) := ⟨own_made0 _ _ _ (Nat.le_refl _), ⟨by simp, fun i h => absurd h (by simp), fun i j h => absurd h (by simp)⟩⟩
      have HBa : Hid (Below w1.heap.size w1 (w1.alloc (.cells #[] 32))) := (Below.refl _ _).alloc (Nat.le_refl _) _
      have hszA : (w1.alloc (.cells #[] 32)).heap.size = w1.heap.size + 1 := by simp
      generalize (fixL l (letN t) (m + 1)).getD m 97 = x at HV HX
      clear hb1 hr hat
      go_wp2_with fail
      refine (specIn _ _ _ _).mono ?_
      rintro e w' ⟨rfl, rfl⟩
      go_upto_block 0 with (fail)
      go_cut [10] (fun u wx => ∃ g c, u = .slice (some ⟨g, 0, none⟩) l.length c ∧ wx.ownsRow (w1.heap.size + 1) 3 1 u l.length (ints (szRow l 0)) ∧ Below (w1.heap.size + 1) (w1.alloc (.cells #[] 32)) wx)
      case first =>
        go_wp2_with fail
        go_loopw [10, 34] (fun r j w' => ∃ k : Nat, k ≤ l.length ∧ j = .int .i64 k ∧ w'.ownsRow (w1.heap.size + 1) 3 1 r k (ints ((szRow l 0).take k)) ∧ Below (w1.heap.size + 1) (w1.alloc (.cells #[] 32)) w') (fun _ j _ => l.length - (intOf j).toNat)
        case atStart =>
          have := own_made0 (w1.alloc (.cells #[] 32)) (w1.heap.size + 1) 3 (by simp)
          simp only [World.size_alloc] at this
          exact ⟨0, by omega, rfl, this, (Below.refl _ _).alloc (by simp) _⟩
        case round =>
          obtain ⟨k, hk, rfl, ho, hb⟩ := hrel
          obtain ⟨wo, rfl⟩ : ∃ x : World, x = wr := ⟨_, rfl⟩
          obtain ⟨Ar, cpr, rfl⟩ := own_slice ho
          have HO := Lib.hid ho
          have HB := Lib.hid hb
          have hsz := hb.size
          simp only [World.size_alloc] at hsz
          by_cases hlt : k < l.length
          · have HS := Lib.hid (szRow_take l 0 k hlt)
            clear ho hb
            go_wp2_with (at_builtin
                         refine wpList_append1 _ rfl (.tmp 36) (.tmp 37) _ rfl (w1.heap.size + 1) 3 i0 _ 8 Try.underlying32 hi0 hz0 hz1 hz2 rfl _ k _ rfl HO.out (.int .i64 1) rfl rfl (by unfold maxLen; omega) (by omega) hsz ?_
                         intro v' w2 hown2 hbel2
                         have HOW := Lib.hid hown2
                         have HBE := Lib.hid hbel2
                         clear hown2 hbel2)
            go_roundw
            case rel =>
              refine ⟨k + 1, by omega, by go_num, ?_, HB.out.trans HBE.out⟩
              rw [HS.out]
              exact HOW.out
            case measure => simp [intOf]; omega
          · have hkl : k = l.length := by omega
            have HO2 : Hid (wo.ownsRow (w1.heap.size + 1) 3 1 (.slice Ar k cpr) l.length (ints (szRow l 0))) := by
              have := HO.out
              rw [hkl, szRow_all] at this
              rw [hkl]
              exact this
            obtain ⟨g, c, he, _⟩ := own_some HO2.out (by omega)
            have HE := Lib.hid he
            clear ho hb hkl he
            go_wp2_with fail
            go_meet
            exact ⟨g, c, HE.out, HO2.out, HB.out⟩
      case rest =>
        obtain ⟨g, c, rfl, ho, hb⟩ := hcut
        have HG1 := Lib.hid (GrowMat.below HG0.out (by rw [hszA]; exact hb))
        have HGU := Lib.hid HG1.out.1
        have HO := Lib.hid ho
        have HB := Lib.hid hb
        have hszb := hb.size
        simp only [World.size_alloc] at hszb
        clear ho hb
        go_upto_block 2 with (first
          | (at_builtin
             refine wpList_append1g _ rfl (.tmp 40) (.tmp 42) _ rfl w1.heap.size 32 i1 _ 24 Try.underlying69 hj0 hy0 hy1 hy2 rfl _ 0 [] rfl HGU.out (.slice (some ⟨g, 0, none⟩) l.length c) rfl rfl (by unfold maxLen; omega) (by omega) (by omega) ?_
             intro v' w2 hown2 hgr2
             have HOW := Lib.hid hown2
             have HGR2 := Lib.hid hgr2
             clear hown2 hgr2))
        have HG2 : Hid (GrowMat w2 w1.heap.size v' ([] ++ [.slice (some ⟨g, 0, none⟩) l.length c]) (szM l 10001)) := by
          refine GrowMat.snoc HG0.out (by rw [hszA]; exact HB.out) (by simp) (by rw [szM_length]; decide) ?_ HOW.out HGR2.out
          rw [szM_at l 10001 _ (by rw [szM_length]; decide), szRow_length, hszA]
          exact HO.out
        have HB2 : Hid (Below w1.heap.size w1 w2) := (HBa.out.trans (HB.out.mono (by omega))).grown HGR2.out (by omega) (fun y hy => (HGU.out.lt y hy).1)
        clear hszA
        go_cut [9, 10, 11, 13, 14, 15] (fun o _ _ _ _ _ wx => ∃ us : List Value, 0 < us.length ∧ us.length ≤ 10001 ∧ GrowMat wx w1.heap.size o us (szM l 10001) ∧ m < szN l (us.length - 1) (letN t) ∧ Below w1.heap.size w1 wx)
        case first =>
          go_wp2_with fail
          go_loopg [9, 10] 10000 (fun gk o u w' => ∃ (us : List Value) (g c : Nat), u = .slice (some ⟨g, 0, none⟩) l.length c ∧ us.length + gk = 10000 ∧ GrowMat w' w1.heap.size o (us ++ [u]) (szM l 10001) ∧ Below w1.heap.size w1 w')
          case atStart => exact ⟨[], g, c, rfl, rfl, HG2.out, HB2.out⟩
          case round =>
            obtain ⟨us, g, c, rfl, hgk, hgm, hb⟩ := hrel
            obtain ⟨wo, rfl⟩ : ∃ y : World, y = wr := ⟨_, rfl⟩
            obtain ⟨A9, c9, e9⟩ := own_slice hgm.1
            rw [List.length_append, List.length_singleton] at e9
            subst e9
            have HCELL := Lib.hid (fun j hj => own_ints_at (GrowMat.last hgm) (szRow_length l us.length) j hj)
            have hcur := HCELL.out (letN t) hN
            rw [szRow_getD l us.length _ hN] at hcur
            have HGM := Lib.hid hgm
            have HB := Lib.hid hb
            have hszo := hb.size
            have HGK := Lib.hid hgk
            have hltw : w.heap.size < wo.heap.size := by omega
            have co : wo.cell? ⟨w.heap.size, 0, none⟩ = some (.slice (some ⟨b, off, none⟩) l.length cp) := (hb.cell (p := ⟨w.heap.size, 0, none⟩) hz1w).trans c1
            have HATO : Hid (∀ j (hj : j < l.length), wo.cell? ⟨b, off + j, none⟩ = some (.string l[j]) ∧ b < wo.heap.size) := fun j hj => by
              have hc := HAT.out j hj
              have hlt := World.block_lt_of_cell? w1 _ hc
              refine ⟨?_, by simp at hlt; omega⟩
              rw [← hc]
              exact hb.cell (p := ⟨b, off + j, none⟩) hlt
            clear hgm hb hgk
            by_cases hle : szN l us.length (letN t) ≤ m
            · have dle : decide ((szN l us.length (letN t) : Int) ≤ (m : Int)) = true := by simp; omega
              have dle2 : decide (szN l us.length (letN t) ≤ m) = true := by simpa using hle
              have hus : us.length < m := by
                by_cases e : m ≤ us.length
                · have := HGR.out us.length e; omega
                · omega
              have HLE := Lib.hid hle
              clear hle
              go_upto_block 4 with (fail)
              go_cut [11, 13, 14, 15] (fun r _ _ _ wx => ∃ g2 c2, r = .slice (some ⟨g2, 0, none⟩) l.length c2 ∧ wx.ownsRow wo.heap.size 3 1 r l.length (ints (szRow l (us.length + 1))) ∧ Below wo.heap.size wo wx)
              case first =>
                go_wp2_with fail
                go_loopg [11, 54] l.length (fun gk r j w' => ∃ q : Nat, q + gk = l.length ∧ j = .int .i64 q ∧ w'.ownsRow wo.heap.size 3 1 r q (ints ((szRow l (us.length + 1)).take q)) ∧ Below wo.heap.size wo w')
                case atStart => exact ⟨0, by omega, rfl, own_made0 _ _ _ (Nat.le_refl _), (Below.refl _ _).alloc (Nat.le_refl _) _⟩
                case round =>
                  obtain ⟨q, hq, rfl, ho, hb⟩ := hrel
                  obtain ⟨wi, rfl⟩ : ∃ y : World, y = wr := ⟨_, rfl⟩
                  obtain ⟨Ar, cpr, rfl⟩ := own_slice ho
                  have HO := Lib.hid ho
                  have HBI := Lib.hid hb
                  have HQ := Lib.hid hq
                  have hszi := hb.size
                  replace hq : q ≤ l.length := by omega
                  clear ho hb
                  by_cases hltq : q < l.length
                  · obtain ⟨ci, hbo⟩ := HATO.out q hltq
                    have gi : wi.cell? ⟨b, off + q, none⟩ = some (.string l[q]) := (HBI.out.cell (p := ⟨b, off + q, none⟩) hbo).trans ci
                    have HCW : Hid (∀ j, j < l.length → wi.cell? ⟨g, j, none⟩ = some (.int .i64 (szN l us.length j : Int))) := fun j hj => by
                      have hc := HCELL.out j hj
                      have hlt := World.block_lt_of_cell? wo _ hc
                      rw [szRow_getD l us.length j hj] at hc
                      rw [← hc]
                      exact HBI.out.cell (p := ⟨g, j, none⟩) hlt
                    have HIQ := Lib.hid (HIL.out q hltq)
                    have HSQ : Hid (szN l (us.length + 1) q = capTo l us.length l[q].data.toList l[q].size) := by
                      have := HSS.out us.length q hltq
                      rw [show l[q].data.toList.length = l[q].size from by simp] at this
                      exact this
                    have HST := Lib.hid (szRow_take l (us.length + 1) q hltq)
                    have hs8 := (img_parts (HI.out q hltq)).2.1
                    clear ci
                    go_wp2_with fail
                    go_loop [14, 15] (fun s i => ∃ p : Nat, p ≤ l[q].size ∧ i = .int .i64 p ∧ s = .int .i64 (capTo l us.length l[q].data.toList p : Int)) (fun _ i => l[q].size - (intOf i).toNat)
                    case atStart => exact ⟨0, by omega, rfl, rfl⟩
                    case round =>
                      obtain ⟨p, hp, rfl, rfl⟩ := hrel
                      by_cases hltp : p < l[q].size
                      · have hpl : p < l[q].data.toList.length := by simpa using hltp
                        obtain ⟨r1, r2⟩ := HIQ.out l[q].data.toList[p] (List.getElem_mem _)
                        have er : l[q].data.toList[p] = l[q][p] := rfl
                        rw [er] at r1 r2
                        obtain ⟨j, hj⟩ : ∃ j : Nat, l[q][p].toNat = 97 + j := ⟨l[q][p].toNat - 97, by omega⟩
                        have gj := HCW.out j (by omega)
                        have q1 : IntKind.u8.wrap ((l[q][p].toNat : Int) - 97) = (j : Int) := by rw [IntWalk.u8_in _ (by omega)]; omega
                        have HNX : Hid (capTo l us.length l[q].data.toList (p + 1) = min 10001 (capTo l us.length l[q].data.toList p + szN l us.length j)) := by
                          show min 10001 (capTo l us.length l[q].data.toList p + szN l us.length ((l[q].data.toList.getD p 0).toNat - 97)) = _
                          rw [List.getD_eq_getElem?_getD, List.getElem?_eq_getElem hpl, Option.getD_some, er, hj, Nat.add_sub_cancel_left]
                        have c10 : capTo l us.length l[q].data.toList p ≤ 10001 := by
                          cases p
                          · exact Nat.zero_le _
                          · exact Nat.min_le_left _ _
                        have s10 := szN_le l us.length j
                        have hjl : j < l.length := by omega
                        clear r1 r2 er hj
                        go_wp2_with fail
                        go_round
                        case rel =>
                          refine ⟨p + 1, by omega, by go_num, ?_⟩
                          rw [HNX.out]
                          congr 1
                          split <;> omega
                        case measure => simp [intOf]; omega
                      · have hpl : p = l[q].size := by omega
                        have HE : Hid (capTo l us.length l[q].data.toList p = szN l (us.length + 1) q) := by
                          show capTo l us.length l[q].data.toList p = _
                          rw [hpl]
                          exact HSQ.out.symm
                        rw [HE.out]
                        clear hpl
                        go_wp2_with (at_builtin
                                     refine wpList_append1 _ rfl (.tmp 74) (.tmp 76) _ rfl wo.heap.size 3 i0 _ 8 Try.underlying32 hi0 hz0 hz1 hz2 rfl _ q _ rfl HO.out (.int .i64 (szN l (us.length + 1) q : Int)) rfl rfl (by unfold maxLen; omega) (by omega) hszi ?_
                                     intro v' w3 hown3 hbel3
                                     have HOW3 := Lib.hid hown3
                                     have HBE3 := Lib.hid hbel3
                                     clear hown3 hbel3)
                        have hq2 := HQ.out
                        go_roundg (gk - 1)
                        case measure => omega
                        case rel =>
                          refine ⟨q + 1, by omega, by go_num, ?_, HBI.out.trans HBE3.out⟩
                          rw [HST.out]
                          exact HOW3.out
                  · have hql : q = l.length := by omega
                    have HO2 : Hid (wi.ownsRow wo.heap.size 3 1 (.slice Ar q cpr) l.length (ints (szRow l (us.length + 1)))) := by
                      have := HO.out
                      rw [hql, szRow_all] at this
                      rw [hql]
                      exact this
                    obtain ⟨g2, c2, he, _⟩ := own_some HO2.out (by omega)
                    have HE := Lib.hid he
                    clear hql he
                    go_wp2_with fail
                    go_meet
                    exact ⟨g2, c2, HE.out, HO2.out, HBI.out⟩
              case rest =>
                obtain ⟨g2, c2, rfl, ho3, hb3⟩ := hcut
                have HO3 := Lib.hid ho3
                have HB3 := Lib.hid hb3
                have hsz3 := hb3.size
                have HG3 := Lib.hid (GrowMat.below HGM.out hb3)
                have HGU3 : Hid (wc.ownsRow w1.heap.size 32 1 (.slice A9 (us.length + 1) c9) (us.length + 1) (us ++ [.slice (some ⟨g, 0, none⟩) l.length c])) := by
                  have := HG3.out.1
                  rw [List.length_append, List.length_singleton] at this
                  exact this
                clear ho3 hb3
                go_wp2_with (at_builtin
                             refine wpList_append1g _ rfl (.tmp 80) (.tmp 82) _ rfl w1.heap.size 32 i1 _ 24 Try.underlying69 hj0 hy0 hy1 hy2 rfl _ (us.length + 1) _ rfl HGU3.out (.slice (some ⟨g2, 0, none⟩) l.length c2) rfl rfl (by unfold maxLen; omega) (by omega) (by omega) ?_
                             intro v' w4 hown4 hgr4
                             have HOW4 := Lib.hid hown4
                             have HGR4 := Lib.hid hgr4
                             clear hown4 hgr4)
                have hgk2 := HGK.out
                go_roundg (gk - 1)
                case measure => omega
                case rel =>
                  refine ⟨us ++ [.slice (some ⟨g, 0, none⟩) l.length c], g2, c2, rfl, by simp; omega, ?_, ?_⟩
                  · refine GrowMat.snoc HGM.out HB3.out hszo (by rw [szM_length]; simp; omega) ?_ (by simpa using HOW4.out) HGR4.out
                    rw [szM_at l 10001 _ (by rw [szM_length]; simp; omega), szRow_length, List.length_append, List.length_singleton]
                    exact HO3.out
                  · exact (HB.out.trans (HB3.out.mono hszo)).grown HGR4.out (by omega) (fun y hy => (HGU3.out.lt y hy).1)
            · have dle : decide ((szN l us.length (letN t) : Int) ≤ (m : Int)) = false := by simp; omega
              have dle2 : decide (szN l us.length (letN t) ≤ m) = false := by simpa using hle
              have HLE := Lib.hid hle
              clear hle
              go_wp2_with fail
              go_meet
              refine ⟨us ++ [.slice (some ⟨g, 0, none⟩) l.length c], by simp, by have := HGK.out; simp; omega, HGM.out, ?_, HB.out⟩
              have := HLE.out
              simp
              omega
        case rest =>
          obtain ⟨us, hu0, huT, hgm, hlt, hb⟩ := hcut
          obtain ⟨gs, cs, rfl, hread⟩ := GrowMat.read hgm (by omega) hu0
          have HREAD := Lib.hid hread
          have HTG := Lib.hid (HX.out (us.length - 1) (by unfold szN at hlt; omega))
          have HB := Lib.hid hb

          obtain ⟨wb, rfl⟩ : ∃ y : World, y = wc := ⟨_, rfl⟩
          have co : wb.cell? ⟨w.heap.size, 0, none⟩ = some (.slice (some ⟨b, off, none⟩) l.length cp) := (hb.cell (p := ⟨w.heap.size, 0, none⟩) hz1w).trans c1
          have hltb : w.heap.size < wb.heap.size := by have := hb.size; omega
          have HATB : Hid (∀ j (hj : j < l.length), wb.cell? ⟨b, off + j, none⟩ = some (.string l[j])) := fun j hj => by
            have hc := HAT.out j hj
            rw [← hc]
            exact hb.cell (p := ⟨b, off + j, none⟩) (World.block_lt_of_cell? w1 _ hc)
          clear hgm hread hlt hb
          go_wp2_with fail
          go_loopw [2, 8, 16] (fun nn kk ii w' => ∃ i k' n' : Nat, ii = .int .i64 ((i : Int) - 1) ∧ kk = .int .i64 k' ∧ nn = .int .i64 n' ∧ i ≤ us.length - 1 ∧ k' < l.length ∧ n' ≤ 10000 ∧ Tgt l [letterN k'] i n' x ∧ Below wb.heap.size wb w') (fun _ _ ii _ => (intOf ii + 1).toNat)
          case atStart => exact ⟨us.length - 1, letN t, m, by congr 1; omega, rfl, rfl, Nat.le_refl _, hN, hm, HTG.out, Below.refl _ _⟩
          case round =>
            obtain ⟨i, k', n', rfl, rfl, rfl, hi, hk', hn', htg, hbk⟩ := hrel
            obtain ⟨wr5, rfl⟩ : ∃ y : World, y = wr := ⟨_, rfl⟩
            have HT := Lib.hid htg
            have HBK := Lib.hid hbk
            clear htg hbk
            rcases i with _ | i
            · have d3 : decide ((0 : Int) ≤ ((0 : Nat) : Int) - 1) = false := by decide
              have HEND := Lib.hid (tgt_end HT.out).2
              have HLS := Lib.hid (fun w => letterN_slice Try.prog Try.underlying9 k' (by omega) w)
              have hls := HLS.out
              go_wp2_with fail
              go_ret2
              refine ⟨?_, HB1.out.trans ((HB.out.trans (HBK.out.mono HB.out.size)).mono HB1.out.size)⟩
              rw [HOK.out, HV.out, HEND.out]
              rfl
            · have ei : ((i + 1 : Nat) : Int) - 1 = (i : Int) := by omega
              rw [ei]
              obtain ⟨g2, c2, eu, cu, hcell⟩ := HREAD.out i (by omega)
              rw [eu] at cu
              have HCU : Hid (∀ w' : World, Below wb.heap.size wb w' → w'.cell? ⟨gs, i, none⟩ = some (.slice (some ⟨g2, 0, none⟩) l.length c2) ∧ ∀ j, j < l.length → w'.cell? ⟨g2, j, none⟩ = some (.int .i64 (szN l i j : Int))) := fun w' hw => by
                refine ⟨?_, fun j hj => ?_⟩
                · rw [← cu]
                  exact hw.cell (p := ⟨gs, i, none⟩) (World.block_lt_of_cell? wb _ cu)
                · have := hcell j hj
                  rw [← this]
                  exact hw.cell (p := ⟨g2, j, none⟩) (World.block_lt_of_cell? wb _ this)
              have c5 : wr5.cell? ⟨w.heap.size, 0, none⟩ = some (.slice (some ⟨b, off, none⟩) l.length cp) := (HBK.out.cell (p := ⟨w.heap.size, 0, none⟩) hltb).trans co
              have g5 : wr5.cell? ⟨b, off + k', none⟩ = some (.string l[k']) := (HBK.out.cell (p := ⟨b, off + k', none⟩) (World.block_lt_of_cell? wb _ (HATB.out k' hk'))).trans (HATB.out k' hk')
              have HT2 := Lib.hid (tgt_down H1.out hk' HT.out)
              have HIK := Lib.hid (HIL.out k' hk')
              have hs8 := (img_parts (HI.out k' hk')).2.1
              clear eu cu hcell
              go_wp2_with fail
              go_loopw [2, 18] (fun nn jj w' => ∃ j n2 : Nat, jj = .int .i64 j ∧ nn = .int .i64 n2 ∧ n2 ≤ 10000 ∧ Tgt l (l[k'].data.toList.drop j) i n2 x ∧ Below wb.heap.size wb w') (fun _ jj _ => l[k'].size - (intOf jj).toNat)
              case atStart => exact ⟨0, n', rfl, rfl, hn', by rw [List.drop_zero]; exact HT2.out, HBK.out⟩
              case round =>
                obtain ⟨j, n2, rfl, rfl, hn2, htg, hbk⟩ := hrel
                obtain ⟨wr6, rfl⟩ : ∃ y : World, y = wr := ⟨_, rfl⟩
                obtain ⟨hj, hcons⟩ := drop_cons (tgt_more htg)
                rw [hcons] at htg
                have hjs : j < l[k'].size := by simpa using hj
                obtain ⟨r1, r2⟩ := HIK.out l[k'].data.toList[j] (List.getElem_mem _)
                have er : l[k'].data.toList[j] = l[k'][j] := rfl
                rw [er] at r1 r2 htg
                have elet := letter_of hl4 r1 r2
                obtain ⟨q, hq⟩ : ∃ q : Nat, l[k'][j].toNat = 97 + q := ⟨l[k'][j].toNat - 97, by omega⟩
                rw [hq, Nat.add_sub_cancel_left] at elet
                have hql : q < l.length := by omega
                have q1 : IntKind.u8.wrap ((l[k'][j].toNat : Int) - 97) = (q : Int) := by rw [IntWalk.u8_in _ (by omega)]; omega
                obtain ⟨x1, x2⟩ := szN_at (l := l) (i := i) (j := q) hn2
                have HX12 := Lib.hid (And.intro x1 x2)
                have HT6 := Lib.hid htg
                have HBK6 := Lib.hid hbk
                have HEL := Lib.hid elet
                obtain ⟨p1, p2⟩ := HCU.out wr6 hbk
                have p3 := p2 q hql
                have q2 : IntKind.i64.wrap (q : Int) = (q : Int) := IntWalk.i64_in _ (by omega)
                clear er r1 r2 hq htg hbk elet x1 x2 hcons hj p2
                by_cases hge : szN l i q ≤ n2
                · have dge : decide ((szN l i q : Int) ≤ (n2 : Int)) = true := by simp; omega
                  have dge2 : decide (szN l i q ≤ n2) = true := by simpa using hge
                  have HGE := Lib.hid hge
                  have q3 : IntKind.i64.wrap ((n2 : Int) - (szN l i q : Int)) = ((n2 - szN l i q : Nat) : Int) := by rw [IntWalk.i64_in _ (by omega)]; omega
                  have q4 : (n2 : Int) - (szN l i q : Int) = ((n2 - szN l i q : Nat) : Int) := by omega
                  clear hge
                  go_wp2_with fail
                  go_region
                  go_wp2_with fail
                  go_region
                  go_wp2_with fail
                  go_roundw
                  case rel =>
                    refine ⟨j + 1, n2 - szN l i q, by go_num, rfl, by omega, ?_, below_drewN HBK6.out 2⟩
                    have h6 := HT6.out
                    rw [HEL.out] at h6
                    rw [HX12.out.2 HGE.out]
                    exact tgt_skip h6 (HX12.out.1.1 HGE.out)
                  case measure => simp [intOf] <;> omega
                · have dge : decide ((szN l i q : Int) ≤ (n2 : Int)) = false := by simp; omega
                  have dge2 : decide (szN l i q ≤ n2) = false := by simpa using hge
                  have HGE := Lib.hid hge
                  clear hge
                  go_wp2_with fail
                  go_region
                  go_wp2_with fail
                  go_roundw
                  case rel =>
                    refine ⟨i, q, n2, by go_num, rfl, rfl, by omega, hql, hn2, ?_, below_drewN HBK6.out 1⟩
                    have h6 := HT6.out
                    rw [HEL.out] at h6
                    refine tgt_take h6 ?_
                    have := HX12.out.1
                    have := HGE.out
                    omega
                  case measure => simp [intOf] <;> omega
    · have d1 : (decide ((0 : Int) ≤ n) && decide (n ≤ (10000 : Int))) = false := by simp; omega
      have HNO : Hid (latOk l t n = false) := by show latOk l t n = false; unfold latOk; rw [d1, Bool.and_false]
      clear h0 hg hin
      go_enter Try.func32, Try.ntmps32
      go_wp2_with fail
      refine (specGrowLetter l _ t _ HL.out HZ.out hn ht).mono ?_
      rintro e w1 ⟨rfl, hb1⟩
      rw [hr]
      have HB1 : Hid (Below w.heap.size w w1) := HB0.out.trans (hb1.mono (by simp))
      clear hb1 hr
      go_wp2_with fail
      refine (specIn _ _ _ _).mono ?_
      rintro e w' ⟨rfl, rfl⟩
      go_wp2_with fail
      go_ret2
      exact latR_no HNO.out HB1.out
  · have hr : glR l t = -1 := if_neg h0
    have HNO : Hid (latOk l t n = false) := by show latOk l t n = false; unfold latOk; rw [show growOk l t = false by simpa using h0]; rfl
    clear h0
    go_enter Try.func32, Try.ntmps32
    go_wp2_with fail
    refine (specGrowLetter l _ t _ HL.out HZ.out hn ht).mono ?_
    rintro e w1 ⟨rfl, hb1⟩
    rw [hr]
    have HB1 : Hid (Below w.heap.size w w1) := HB0.out.trans (hb1.mono (by simp))
    clear hb1 hr
    go_wp2_with fail
    go_ret2
    exact latR_no HNO.out HB1.out
end Go.Proofs.Ytbbcdeknnfghkaa

/- A range over an iterator without end whose own blocks may turn: what it promises (Streams), and the statement out of it (rangeOver). No program in it. -/
namespace Go.Proofs.Ytbbcdeknnfghkaa
open Go.RowKit

/-- whatever lay outside X lies as it lay -/
structure Kept (X : Nat → Prop) (w w' : World) : Prop where
  os : w'.os = w.os
  tape : w'.tape = w.tape
  output : w'.output = w.output
  size : w.heap.size ≤ w'.heap.size
  block : ∀ k, k < w.heap.size → ¬ X k → w'.heap[k]? = w.heap[k]?

namespace Kept
variable {X Y : Nat → Prop} {a b c w : World}
theorem refl (X : Nat → Prop) (w : World) : Kept X w w := ⟨rfl, rfl, rfl, Nat.le_refl _, fun _ _ _ => rfl⟩
theorem trans (h : Kept X a b) (k : Kept X b c) : Kept X a c :=
  ⟨k.os.trans h.os, k.tape.trans h.tape, k.output.trans h.output, Nat.le_trans h.size k.size, fun i hi hx => (k.block i (Nat.lt_of_lt_of_le hi h.size) hx).trans (h.block i hi hx)⟩
theorem mono (h : Kept X a b) (hxy : ∀ k, X k → Y k) : Kept Y a b := ⟨h.os, h.tape, h.output, h.size, fun i hi hx => h.block i hi (fun e => hx (hxy i e))⟩
/-- only the blocks that lay in the first world matter -/
theorem mono' (h : Kept X a b) (hxy : ∀ k, k < a.heap.size → X k → Y k) : Kept Y a b := ⟨h.os, h.tape, h.output, h.size, fun i hi hx => h.block i hi (fun e => hx (hxy i hi e))⟩
theorem putObj {l : Nat} (o : Obj) (h : Kept X a b) (hl : X l) : Kept X a (b.putObj l o) :=
  h.trans ⟨rfl, rfl, rfl, by simp, fun k _ hk => World.putObj_heap_other (fun e => hk (e ▸ hl))⟩
theorem alloc (h : Kept X a b) (o : Obj) : Kept X a (b.alloc o) :=
  h.trans ⟨rfl, rfl, rfl, by simp, fun k hk _ => Below.heap_alloc _ _ _ hk⟩
theorem setCell (h : Kept X a b) {p : Addr} (hp : X p.block) (u : Value) : Kept X a (b.setCell p u) :=
  h.trans ⟨rfl, rfl, rfl, by simp [World.setCell], fun k _ hk => Below.heap_setCell _ _ _ _ (fun e => hk (e ▸ hp))⟩
theorem grown {row : Option Nat} (h : Kept X a b) (hg : b.grownBy c row) (hr : ∀ k, row = some k → X k) : Kept X a c :=
  h.trans ⟨hg.os, hg.tape, hg.output, hg.size, fun k hk hx => hg.block k hk (fun e => hx (hr k e.symm))⟩
theorem drew (h : Kept X a b) : Kept X a b.drew := ⟨h.os, h.tape, h.output, h.size, h.block⟩
theorem drewN (h : Kept X a b) (n : Nat) : Kept X a (b.drewN n) := ⟨h.os, h.tape, h.output, h.size, h.block⟩
theorem below {B : Nat} (h : Kept X a b) (hX : ∀ k, X k → B ≤ k) (hB : B ≤ a.heap.size) : Below B a b :=
  ⟨h.os, h.tape, h.output, h.size, fun k hk => h.block k (by omega) (fun e => by have := hX k e; omega)⟩
theorem of_below {B : Nat} (h : Below B a b) (hX : ∀ k, B ≤ k → k < a.heap.size → X k) : Kept X a b :=
  ⟨h.os, h.tape, h.output, h.size, fun k hk hx => h.block k (by rcases Nat.lt_or_ge k B with e | e; · exact e
                                                                exact absurd (hX k e hk) hx)⟩
theorem heap {k : Nat} {o : Obj} (h : Kept X a b) (hk : a.heap[k]? = some o) (hx : ¬ X k) : b.heap[k]? = some o :=
  (h.block k (Array.getElem?_eq_some_iff.1 hk).1 hx).trans hk
theorem cell {p : Addr} {v : Value} (h : Kept X a b) (hc : a.cell? p = some v) (hx : ¬ X p.block) : b.cell? p = some v :=
  (World.cell?_of_block (w := a) (h.block p.block (World.block_lt_of_cell? a _ hc) hx)).trans hc
theorem frozen {p : Addr} {v : Value} (h : Kept X a b) (hc : a.cell? p = some v) (hx : ¬ X p.block) : b.frozen? p = a.frozen? p :=
  World.frozen?_of_block (w := a) (h.block p.block (World.block_lt_of_cell? a _ hc) hx)
theorem boxed {B : Nat} {t : TypeId} {v : Value} (h : Kept X a b) (hc : Boxed a B t v) (hx : ¬ X B) : Boxed b B t v := h.heap hc hx
theorem row {base : Nat} {e : TypeId} {size n : Nat} {v : Value} {xs : List Value} (h : Kept X a b) (ho : a.ownsRow base e size v n xs) (hx : ∀ g, v.ownBlock = some g → ¬ X g) : b.ownsRow base e size v n xs := by
  obtain ⟨h1, h2⟩ := ho
  refine ⟨h1, ?_⟩
  rcases h2 with h2 | ⟨g, cap, cur, rfl, hb, hg, rest⟩
  · exact .inl h2
  · exact .inr ⟨g, cap, cur, rfl, hb, h.heap hg (hx g rfl), rest⟩
end Kept

/-- WHAT AN ITERATOR WITHOUT END PROMISES: at J, carried on from round to round, it hands over enc 0, enc 1, ..; it turns blocks laid since its call began (where Z), nothing else; a round keeps all outside X (and outside the loop's record l). -/
def Streams (P : Program) (gf : FuncId) (lb : Array Value) (enc : Nat → Value) (X : Nat → Prop) (Z : Prop) (N : Nat) (w : World) : Prop :=
  ∀ (l : Nat) (J : Nat → World → Prop) (Jx : World → Prop) (W : World), Below w.heap.size w W → w.heap.size ≤ l → l < W.heap.size →
    (∀ i A C, J i A → Kept (fun k => Z ∧ W.heap.size ≤ k) A C → J i C) →
    (∀ i A, J i A → i < N ∧ YieldAt Fence.wide 7 P l #[enc i] A fun e C => (e = .returned (.bool true) ∧ J (i + 1) C ∧ Kept (fun k => X k ∨ k = l) A C) ∨ (e = .returned (.bool false) ∧ Jx C)) →
    J 0 W → CallsIn Fence.wide 8 P gf (#[.func (.yield l) #[] #[]] ++ lb) W fun e C => (∃ v, e = .returned v) ∧ Jx C

/-- how a round's body may be left: off its end, or by the exit x -/
def overPost (X : Nat → Prop) (I : Nat → World → Prop) (Ix : World → Prop) (x i : Nat) (A : World) : Exit → Act → World → Prop
  | .normal, _, C => Kept X A C ∧ I (i + 1) C
  | .exit id, _, C => id = x ∧ Kept X A C ∧ Ix C
  | _, _, _ => False

theorem rangeOver {P : Program} {g : Operand} {ps : Array Tmp} {assign body : Code} {Q : Exit → Act → World → Prop} {a : Act} {w : World} {gf : Nat} {lb : Array Value}
    (hg : a.eval g = .func (.func gf) #[] lb) (eg : ∀ args w, (callFunc gf args).run P w = .ok (.enter gf args) w) (hps : ps.size = 1)
    {enc : Nat → Value} {X : Nat → Prop} {Z : Prop} {N : Nat} {w0 : World} (hseq : Streams P gf lb enc X Z N w0) (hw0 : Below w0.heap.size w0 w)
    (hX1 : ¬ X w.heap.size) (hX2 : ¬ X (w.heap.size + 1))
    (I : Nat → World → Prop) (Ix : World → Prop) (x : Nat)
    (hI : ∀ i A C, I i A → Kept (fun k => (k = w.heap.size ∨ k = w.heap.size + 1) ∨ (Z ∧ w.heap.size + 2 ≤ k)) A C → I i C)
    (hIx : ∀ A C, Ix A → Kept (fun k => k = w.heap.size + 1) A C → Ix C) (h0 : I 0 w) (a₁ : Nat → Act)
    (hassign : ∀ (l i : Nat) (A : World) (K : Act → World → Prop), K (a₁ i) A →
      assign.wpIn (Fence.wide.inRound l) 7 P (Exit.then K (fun _ _ _ => False)) { tmps := (ps.zip #[enc i]).foldl (fun t (p, v) => t.setIfInBounds p v) a.tmps, defers := [] } A)
    (hbody : ∀ (l i : Nat) (A : World), w.heap.size + 2 ≤ A.heap.size → I i A → i < N ∧ body.wpIn (Fence.wide.inRound l) 7 P (overPost X I Ix x i A) (a₁ i) A)
    (hstop : ∀ (D : Nat) (C : World), w.heap.size ≤ D → Ix C → C.heap[D]? = some (.deferred (some [])) → (Code.exit x).wpIn Fence.wide 9 P Q { a with defers := { target := .collected D, args := #[] } :: a.defers } C) :
    (Code.rangeFunc g ps assign body).wpIn Fence.wide 9 P Q a w := by
  refine wpIn_rangeFunc ?_
  intro fn hfn
  obtain ⟨rec, hrec⟩ : ∃ rec : LoopState → Option Code → Loop, rec = fun st pe => { state := st, pending := pe, fn, tmps := a.tmps, params := ps, assign, body, defers := w.heap.size } := ⟨_, rfl⟩
  obtain ⟨V, hV⟩ : ∃ V, (w.alloc (.deferred (some []))).alloc (.loop (rec .ready none)) = V := ⟨_, rfl⟩
  have kV : Kept (fun _ => False) w V := by rw [← hV]; exact ((Kept.refl _ w).alloc _).alloc _
  have sV : V.heap.size = w.heap.size + 2 := by rw [← hV]; simp
  have lV : V.heap[w.heap.size + 1]? = some (.loop (rec .ready none)) := by
    rw [← hV]
    have := World.alloc_heap_new (w.alloc (.deferred (some []))) (.loop (rec .ready none))
    rwa [World.size_alloc] at this
  have dV : V.heap[w.heap.size]? = some (.deferred (some [])) := by
    rw [← hV]; exact (Below.heap_alloc _ _ _ (by simp)).trans (World.alloc_heap_new w _)
  refine ⟨w.heap.size + 1, [{ target := .collected w.heap.size, args := #[] }], V, { target := .fn (.func gf) lb, args := #[.func (.yield (w.heap.size + 1)) #[] #[]] }, V, gf, #[.func (.yield (w.heap.size + 1)) #[] #[]] ++ lb, V, ?_, ?_, fun _ _ => trivial, ?_, fun _ => by omega, ?_⟩
  · rw [← hV, hrec]; exact run_enterLoop_outer _ _ _ _ _
  · simp only [resolve, hg]
    simp [go_sem]
  · simp [invoke, go_sem, eg]
  · refine (hseq (w.heap.size + 1) (fun i W => I i W ∧ W.heap[w.heap.size + 1]? = some (.loop (rec .ready none)) ∧ W.heap[w.heap.size]? = some (.deferred (some [])))
      (fun W => Ix W ∧ W.heap[w.heap.size + 1]? = some (.loop (rec .done (some (.exit x)))) ∧ W.heap[w.heap.size]? = some (.deferred (some []))) V
      (hw0.trans ((kV.below (fun _ h => h.elim) (Nat.le_refl _)).mono hw0.size)) (by have := hw0.size; omega) (by omega) ?_ ?_ ?_).mono ?_
    · rintro i A C ⟨h1, h2, h3⟩ hk
      have nb : ∀ k, k < w.heap.size + 2 → ¬ (Z ∧ V.heap.size ≤ k) := fun k hk' h => by omega
      exact ⟨hI i A C h1 (hk.mono fun k h => .inr ⟨h.1, by omega⟩), hk.heap h2 (nb _ (by omega)), hk.heap h3 (nb _ (by omega))⟩
    · rintro i A ⟨h1, h2, h3⟩
      have hlt : w.heap.size + 1 < A.heap.size := (Array.getElem?_eq_some_iff.1 h2).1
      refine ⟨(hbody 0 i A (by omega) h1).1, ?_⟩
      have hy := run_yield (P := P) (args := #[enc i]) h2 (by rw [hrec]; simp [hps])
      rw [hrec] at hy
      refine ⟨fn, _, assign, body, hy, roundIn_of_wpIn hfn (hassign _ i A _ ⟨_, run_beginRound h2 (by rw [hrec]), ?_⟩)⟩
      obtain ⟨A2, hA2⟩ : ∃ A2, A.putObj (w.heap.size + 1) (.loop { rec .ready none with state := .busy }) = A2 := ⟨_, rfl⟩
      rw [hA2]
      have k2 : Kept (fun k => k = w.heap.size + 1) A A2 := by rw [← hA2]; exact (Kept.refl _ A).putObj _ rfl
      have l2 : A2.heap[w.heap.size + 1]? = some (.loop { rec .ready none with state := .busy }) := by rw [← hA2]; exact World.putObj_heap_same hlt
      have d2 : A2.heap[w.heap.size]? = some (.deferred (some [])) := k2.heap h3 (by omega)
      refine wpIn_mono (hbody _ i A2 (by have := k2.size; omega) (hI i A A2 h1 (k2.mono fun k h => .inl (.inr h)))).2 ?_
      have fin : ∀ (jump : Option Code) (W3 : World), Kept X A2 W3 →
          (Instr.endRound (w.heap.size + 1) jump).run P W3 = .ok (.bool jump.isNone) (W3.putObj (w.heap.size + 1) (.loop (rec (if jump.isNone then .ready else .done) jump))) ∧
          (W3.putObj (w.heap.size + 1) (.loop (rec (if jump.isNone then .ready else .done) jump))).heap[w.heap.size + 1]? = some (.loop (rec (if jump.isNone then .ready else .done) jump)) ∧
          (W3.putObj (w.heap.size + 1) (.loop (rec (if jump.isNone then .ready else .done) jump))).heap[w.heap.size]? = some (.deferred (some [])) := fun jump W3 k3 => by
        have l3 := k3.heap l2 hX2
        have d3 := k3.heap d2 hX1
        have hr := run_endRound (P := P) jump l3
        rw [hrec] at hr ⊢
        exact ⟨hr, World.putObj_heap_same (Array.getElem?_eq_some_iff.1 l3).1, (World.putObj_heap_other (by omega)).trans d3⟩
      rintro e a3 W3 hp
      cases e with
      | normal =>
        obtain ⟨k3, i3⟩ := hp
        obtain ⟨hr, l4, d4⟩ := fin none W3 k3
        refine ⟨_, _, hr, .inl ⟨rfl, ⟨hI _ _ _ i3 ((Kept.refl _ W3).putObj _ (.inl (.inr rfl))), l4, d4⟩, ?_⟩⟩
        exact ((k2.mono fun k h => .inr h).trans (k3.mono fun k h => .inl h)).putObj _ (.inr rfl)
      | exit id =>
        obtain ⟨rfl, k3, i3⟩ := hp
        obtain ⟨hr, l4, d4⟩ := fin (some (.exit id)) W3 k3
        exact ⟨_, _, hr, .inr ⟨rfl, hIx _ _ i3 ((Kept.refl _ W3).putObj _ rfl), l4, d4⟩⟩
      | ret => exact hp.elim
      | goto t => exact hp.elim
      | panic ch => exact hp.elim
      | outgrown => exact hp.elim
    · exact ⟨hI 0 w V h0 (kV.mono fun _ h => h.elim), lV, dV⟩
    · rintro e C ⟨⟨v, rfl⟩, hx, hl, hd⟩
      have hr := run_endLoop (P := P) hl (by rw [hrec]; simp)
      refine ⟨some (.exit x), _, by rw [hrec] at hr; exact hr, ?_⟩
      exact hstop _ _ (Nat.le_refl _) (hIx _ _ hx ((Kept.refl _ C).putObj _ rfl)) ((World.putObj_heap_other (by omega)).trans hd)
/-- what follows is met off the statement's end alone -/
theorem wp_calm {P : Program} {c : Code} {K : Act → World → Prop} {Q : Exit → Act → World → Prop} {a : Act} {w : World} (h : c.wp P (Exit.then K (fun _ _ _ => False)) a w) : c.wp P (Exit.then K Q) a w :=
  (wpIn_wide (n := 0)).1 (wpIn_mono ((wpIn_wide (n := 0)).2 h) (fun e _ _ q => by cases e <;> first | exact q | exact q.elim))
end Go.Proofs.Ytbbcdeknnfghkaa

/- The program's WordOk: isLetter, ok and WordOk. No condition but that a text has at most 2^63 bytes. -/
namespace Go.Proofs.Ytbbcdeknnfghkaa
open Go.RowKit

theorem isLetter_any (n : Int) (w : World) :
    Calls Try.prog 87 #[.int .i32 n] w fun e w' => e = .returned (.bool (decide (97 ≤ n) && decide (n < 101))) ∧ w = w' := by
  by_cases h1 : 97 ≤ n
  · have hd1 : decide ((97 : Int) ≤ n) = true := by simpa using h1
    go_enter Try.func87, Try.ntmps87
    go_wp2
    go_ret
    exact ⟨ret_bool (by simp [h1]), rfl⟩
  · have hd1 : decide ((97 : Int) ≤ n) = false := by simpa using h1
    go_enter Try.func87, Try.ntmps87
    go_wp2
    go_ret
    exact ⟨ret_bool (by simp), rfl⟩

set_option maxHeartbeats 400000 in
theorem implOk (s : ByteArray) (w : World) (_ : s.size ≤ 1048576) :
    Calls Try.prog 59 #[.string s] w fun e w' => e = .returned (.bool (wordB s)) ∧ Below w.heap.size w w' := by
  by_cases hl : 400 < s.size
  · have HE := Lib.hid (word_long hl)
    go_enter Try.func59, Try.ntmps59
    go_wp2
    go_ret
    exact ⟨ret_bool HE.out.symm, Below.refl _ _⟩
  have hs : s.size ≤ 400 := by omega
  go_enter Try.func59, Try.ntmps59
  go_wp2
  go_loopw [4] (fun _ w' => ∃ k : Nat, k ≤ s.size ∧ w' = w.iter s k ∧ (s.data.toList.take k).all isAbcd = true) (fun _ w' => s.size - w'.iterPos w.heap.size)
  case atStart => exact ⟨0, Nat.zero_le _, rfl, rfl⟩
  case round =>
    obtain ⟨k, hk, rfl, ha⟩ := hrel
    have HA := Lib.hid ha
    clear ha
    by_cases hlt : k < s.size
    · by_cases hc : isAbcd s[k] = true
      · have hasc : s[k].toNat < 128 := by simp [isAbcd] at hc; omega
        have hnx : ∀ ty, (Instr.next (.pointer (some ⟨w.heap.size, 0, none⟩)) true ty).run Try.prog (w.iter s k) = _ := fun ty => run_next_ascii w s k ty hlt hasc
        have hd1 : (decide ((97 : Int) ≤ s[k].toNat) && decide ((s[k].toNat : Int) < 101)) = true := by simp [isAbcd] at hc; simp; omega
        have HC := Lib.hid hc
        clear hc
        go_wp2_with (go_at_call 87; refine (isLetter_any _ _).mono ?_; rintro e w' ⟨rfl, rfl⟩)
        go_roundw
        case rel => exact ⟨k + 1, by omega, rfl, all_snoc s k hlt HA.out HC.out⟩
        case measure => simp; omega
      · have hf : isAbcd s[k] = false := by simpa using hc
        have hn : ∃ n : Nat, ∃ m : Nat, (∀ ty, (Instr.next (.pointer (some ⟨w.heap.size, 0, none⟩)) true ty).run Try.prog (w.iter s k) = .ok (.tuple #[.bool true, .int .i64 k, .int .i32 n]) (w.iter s m)) ∧ (n < 97 ∨ 100 < n) := by
          by_cases hasc : s[k].toNat < 128
          · exact ⟨_, _, fun ty => run_next_ascii w s k ty hlt hasc, by simp [isAbcd] at hf; omega⟩
          · have hd := decode_high s k hlt (by omega)
            exact ⟨_, _, fun ty => run_next_any w s k ty hlt, by omega⟩
        obtain ⟨n, m, hnx, hor⟩ := hn
        have HF := Lib.hid hf
        clear hf hc
        have hd1 : (decide ((97 : Int) ≤ n) && decide ((n : Int) < 101)) = false := by simp; omega
        go_wp2_with (go_at_call 87; refine (isLetter_any _ _).mono ?_; rintro e w' ⟨rfl, rfl⟩)
        go_ret
        exact ⟨ret_bool (word_not k hlt HF.out).symm, below_iter _ _ _⟩
    · have hnx : ∀ ty, (Instr.next (.pointer (some ⟨w.heap.size, 0, none⟩)) true ty).run Try.prog (w.iter s k) = _ := fun ty => run_next_end w s k ty hlt
      have hk' : k = s.size := by omega
      have HY := Lib.hid (word_yes hs (hk' ▸ HA.out))
      clear hk'
      go_wp2
      go_ret
      exact ⟨ret_bool HY.out.symm, below_iter _ _ _⟩

theorem implWordOk (s : ByteArray) (w : World) (hs : s.size ≤ 1048576) :
    Calls Try.prog 67 #[.string s] w fun e w' => e = .returned (.bool (wordB s)) ∧ Below w.heap.size w w' := by
  go_enter Try.func67, Try.ntmps67
  go_wp2_with fail
  refine (implOk s _ hs).mono ?_
  rintro e w' ⟨rfl, hb⟩
  go_wp2_with fail
  go_ret
  exact ⟨rfl, hb⟩

theorem implIsLetterWord (s : ByteArray) (w : World) (hs : s.size ≤ 1048576) :
    Calls Try.prog 82 #[.string s] w fun e w' => e = .returned (.bool (decide (s.size = 1) && wordB s)) ∧ Below w.heap.size w w' := by
  by_cases h1 : s.size = 1
  · have b1 : ((s.size : Int) == 1) = true := by rw [h1]; rfl
    have HD := Lib.hid (decide_eq_true h1)
    clear h1
    go_enter Try.func82, Try.ntmps82
    go_wp2_with fail
    refine (implOk s _ hs).mono ?_
    rintro e w' ⟨rfl, hb⟩
    go_wp2_with fail
    go_ret
    exact ⟨ret_bool (by rw [HD.out, Bool.true_and]), hb⟩
  · have b1 : ((s.size : Int) == 1) = false := by rw [beq_eq_false_iff_ne]; omega
    have HD := Lib.hid (decide_eq_false h1)
    clear h1
    go_enter Try.func82, Try.ntmps82
    go_wp2_with fail
    go_ret
    exact ⟨ret_bool (by rw [HD.out, Bool.false_and]), Below.refl _ _⟩
end Go.Proofs.Ytbbcdeknnfghkaa
