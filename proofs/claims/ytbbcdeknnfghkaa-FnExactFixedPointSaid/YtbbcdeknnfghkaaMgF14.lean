/- Texts put together. -/
import Derived.Test.YtbbcdeknnfghkaaMgF13
import Derived.RangeFuncNested
import Derived.RangeFuncLeaves
import Derived.WalkKit
import Derived.Test.YtbbcdeknnfghkaaMgF1
/- The start of a fixed point, of the model. Conditions: lengths of at most 2^20. -/
namespace Go.Proofs.Ytbbcdeknnfghkaa
open Go.RowKit

section
variable {l : List ByteArray} {k : Nat} (hl : substB l = true) (hk : k < l.length) (hg : growB l k = true)
include hl hk hg
theorem fixL_head (i : Nat) : ∃ r, fixL l k (i + 1) = letterN k :: r ∧ r.length = i := by
  obtain ⟨r, e⟩ := iterL_head hl hk hg (i + 1)
  have h := fixL_length hl hk hg (i + 1)
  unfold fixL at h ⊢
  rw [e, List.take_succ_cons] at h ⊢
  exact ⟨_, rfl, by simpa using h⟩
/-- the images of the first i letters are more than i letters -/
theorem build_long (i : Nat) : i + 2 ≤ (applyL l (fixL l k (i + 1))).length := by
  obtain ⟨r, e, hr⟩ := fixL_head hl hk hg i
  obtain ⟨q, e2, h2⟩ := grow_img hl hk hg
  have hw : Within l r := by
    intro c hc
    refine iterL_within hl hk (i + 1) c ?_
    exact List.mem_of_mem_take (show c ∈ (iterL l [letterN k] (i + 1)).take (i + 1) from by
      show c ∈ fixL l k (i + 1)
      rw [e]; exact List.mem_cons_of_mem _ hc)
  have := apply_grows hl hw
  rw [e, show letterN k :: r = [letterN k] ++ r from rfl, applyL_app, e2, List.length_append]
  simp
  omega
omit hl hk hg in
theorem build_pre (i : Nat) : IsPre l k (applyL l (fixL l k i)) := pre_apply (fixL_pre l k i)
/-- one more letter, and its image -/
theorem build_step (i : Nat) : ∃ (h : i + 1 < (applyL l (fixL l k (i + 1))).length) (j : Nat) (hj : j < l.length), (applyL l (fixL l k (i + 1)))[i + 1].toNat = 97 + j ∧ applyL l (fixL l k (i + 2)) = applyL l (fixL l k (i + 1)) ++ l[j].data.toList := by
  have h1 := build_long hl hk hg i
  have h : i + 1 < (applyL l (fixL l k (i + 1))).length := by omega
  have hp := build_pre (l := l) (k := k) (i + 1)
  have e1 := pre_take hl hk hg hp (i + 1) (by omega)
  have e2 := pre_take hl hk hg hp (i + 2) (by omega)
  have hw : ∀ m, Within l (fixL l k m) := fun m c hc => iterL_within hl hk m c (List.mem_of_mem_take hc)
  have hw2 := hw (i + 2)
  have e0 : applyL l (fixL l k (i + 2)) = applyL l ((applyL l (fixL l k (i + 1))).take (i + 2)) := by rw [e2]
  rw [← e2] at hw2
  rw [e0]
  generalize hp' : applyL l (fixL l k (i + 1)) = p at h e1 hw2 ⊢
  have e3 : p.take (i + 2) = p.take (i + 1) ++ [p[i + 1]] := List.take_succ_eq_append_getElem h
  have hm : p[i + 1] ∈ p.take (i + 2) := by rw [e3]; exact List.mem_append_right _ (List.mem_singleton.2 rfl)
  obtain ⟨a, b⟩ := hw2 _ hm
  obtain ⟨j, hj⟩ : ∃ j, p[i + 1].toNat = 97 + j := ⟨p[i + 1].toNat - 97, by omega⟩
  have hjl : j < l.length := by omega
  refine ⟨h, j, hjl, hj, ?_⟩
  rw [e3, applyL_app, e1, hp']
  congr 1
  show imgOf l _ ++ [] = _
  rw [List.append_nil, imgOf_at l _ j hj hjl]
theorem build_one : applyL l (fixL l k 1) = l[k].data.toList := by
  have h4 := (subst_parts hl).2.1
  obtain ⟨r, e, hr⟩ := fixL_head hl hk hg 0
  have : r = [] := List.eq_nil_of_length_eq_zero hr
  subst this
  rw [e]
  show imgOf l (letterN k) ++ [] = _
  rw [imgOf_at l _ k (letterN_toNat k (by omega)) hk, List.append_nil]
theorem build_end (i n : Nat) (hn : n ≤ (applyL l (fixL l k i)).length) : (applyL l (fixL l k i)).take n = fixL l k n := pre_take hl hk hg (build_pre i) n hn
end

set_option maxHeartbeats 1000000 in
theorem specStart (l : List ByteArray) (v : Value) (k n : Nat) (w : World) (h : Lst w v (strs l)) (hl : substB l = true) (hk : k < l.length) (hg : growB l k = true) (hn : n ≤ 400) :
    Calls Try.prog 50 #[.agg #[v], .int .i64 k, .int .i64 n] w fun e w' => e = .returned (.string ⟨(fixL l k n).toArray⟩) ∧ Below w.heap.size w w' := by
  obtain ⟨i0, hi0, hz0, hz1, hz2⟩ := info_parts u8_info
  obtain ⟨hl1, hl4, hl5⟩ := subst_parts hl
  obtain ⟨b, off, cp, rfl, hat⟩ := lst_at h (by omega)
  have hb0 : Below w.heap.size w (w.alloc (.cells #[.slice (some ⟨b, off, none⟩) l.length cp] 24)) := (Below.refl _ _).alloc (Nat.le_refl _) _
  have g1 : (w.alloc (.cells #[.slice (some ⟨b, off, none⟩) l.length cp] 24)).cell? ⟨b, off + k, none⟩ = some (.string l[k]) := by
    have hc := hat k hk
    rw [← hc]
    exact hb0.cell (p := ⟨b, off + k, none⟩) (World.block_lt_of_cell? w _ hc)
  obtain ⟨vb, wc, hrun, hown, hbel⟩ := ownB_text (w.alloc (.cells #[.slice (some ⟨b, off, none⟩) l.length cp] 24)) l[k] Try.underlying9 (by have := (img_parts (hl5 k hk)).2.1; unfold maxLen; omega)
  have HAT := Lib.hid hat
  have HB0 := Lib.hid hb0
  clear hat hb0 h
  go_enter Try.func50, Try.ntmps50
  go_wp2
  have hzW : (w.alloc (.cells #[.slice (some ⟨b, off, none⟩) l.length cp] 24)).heap.size = w.heap.size + 1 := by simp
  have c0 : (w.alloc (.cells #[.slice (some ⟨b, off, none⟩) l.length cp] 24)).cell? ⟨w.heap.size, 0, none⟩ = some (.slice (some ⟨b, off, none⟩) l.length cp) := by rw [World.cell?_alloc_at _ _ _ _ rfl]; rfl
  have HAT0 : Hid (∀ j (hj : j < l.length), (w.alloc (.cells #[.slice (some ⟨b, off, none⟩) l.length cp] 24)).cell? ⟨b, off + j, none⟩ = some (.string l[j])) := fun j hj => by
    have hc := HAT.out j hj
    rw [← hc]
    exact HB0.out.cell (p := ⟨b, off + j, none⟩) (World.block_lt_of_cell? w _ hc)
  rw [← build_one hl hk hg] at hown
  have HOWN := Lib.hid hown
  have HBEL := Lib.hid hbel
  have HIM := Lib.hid hl5
  have HSTEP := Lib.hid (fun i => build_step hl hk hg i)
  have HEND := Lib.hid (fun i m h => build_end hl hk hg i m h)
  have HLONG := Lib.hid (fun i => build_long hl hk hg i)
  clear hown hbel hl5 g1 hrun
  generalize w.alloc (.cells #[.slice (some ⟨b, off, none⟩) l.length cp] 24) = W0 at HOWN HBEL HB0 HAT0 c0 hzW ⊢
  go_loopw [7, 8] (fun o ix w' => ∃ i m : Nat, m = i + 1 ∧ ix = .int .i64 (m : Int) ∧ i ≤ 408 ∧ OwnB w' W0.heap.size o (applyL l (fixL l k (i + 1))) ∧ (applyL l (fixL l k (i + 1))).length ≤ 408 ∧ Below W0.heap.size W0 w') (fun _ ix _ => 409 - (intOf ix).toNat)
  case atStart =>
    refine ⟨0, 1, rfl, rfl, by omega, HOWN.out, ?_, HBEL.out⟩
    rw [build_one hl hk hg]
    have := (img_parts (HIM.out k hk)).2.1
    simp
    omega
  case round =>
    obtain ⟨i, m, hmi, rfl, hi, ho, h408, hb⟩ := hrel
    obtain ⟨x1, j, hjl, hj, hnext⟩ := HSTEP.out i
    have hlong := HLONG.out i
    have HE := Lib.hid (HEND.out (i + 1))
    have HO := Lib.hid ho
    have HB := Lib.hid hb
    have HN := Lib.hid hnext
    obtain ⟨g, cap, rfl, hcap, hg1, hg2, hcell⟩ := ownB_some ho (by omega)
    have HC := Lib.hid hcell
    clear ho hb hnext hcell
    generalize applyL l (fixL l k (i + 1)) = p at HO HE HN HC h408 x1 hlong hj hcap ⊢
    rw [← hmi] at x1
    have hjm : (p[m]'x1).toNat = 97 + j := by
      have e : p[m]'x1 = p[i + 1]'(by omega) := by congr 1
      rw [e]; exact hj
    have HMI := Lib.hid hmi
    have HJM := Lib.hid hjm
    clear hj hmi hjm
    by_cases hlt : p.length < n
    · have d1 : decide ((p.length : Int) < n) = true := by simp; omega
      have gi : wr.cell? ⟨g, m, none⟩ = some (.int .u8 (p[m].toNat : Int)) := HC.out m _ (by simp [byteCells, List.getElem?_eq_getElem x1])
      have gc : wr.cell? ⟨w.heap.size, 0, none⟩ = some (.slice (some ⟨b, off, none⟩) l.length cp) := (HB.out.cell (p := ⟨w.heap.size, 0, none⟩) (by simp; omega)).trans c0
      have g1 : wr.cell? ⟨b, off + j, none⟩ = some (.string l[j]) := (HB.out.cell (p := ⟨b, off + j, none⟩) (World.block_lt_of_cell? W0 _ (HAT0.out j hjl))).trans (HAT0.out j hjl)
      have q1 : IntKind.u8.wrap ((p[m].toNat : Int) - 97) = (j : Int) := by have := HJM.out; rw [IntWalk.u8_in _ (by omega)]; omega
      obtain ⟨r1, r2, r3, r4⟩ := img_parts (HIM.out j hjl)
      obtain ⟨c, wc', hrun, hbc, hzc, hcell⟩ := conv_text wr.drew l[j] Try.underlying9
      simp only [World.size_drew] at hrun hzc
      have HO2 := Lib.hid (ownB_below (w := wr.drew) (HO.out : OwnB wr.drew W0.heap.size _ p) hbc)
      have HCELL := Lib.hid hcell
      have HBC := Lib.hid hbc
      have hsz := HB.out.size
      clear hcell hbc r3 r4
      go_wp2_with fail
      go_region_law (refine step_ownB rfl (.tmp 21) (.tmp 31) rfl W0.heap.size i0 _ hi0 hz0 hz1 hz2 rfl _ p l[j].data.toList (by simp [Act.eval]) HO2.out ⟨wr.heap.size, 0, none⟩ l[j].size c (by simp [Act.eval]) (by simp) (fun q u hu => by rw [Addr.add_lit, Nat.zero_add]; exact HCELL.out q u hu) (by omega) (by omega) ?_; intro v' w' hown' hbel')
      all_goals
        have HOW := Lib.hid hown'
        have HBE := Lib.hid hbel'
        clear hown' hbel'
        obtain ⟨A9, cap9, rfl⟩ := ownB_slice HOW.out
        go_wp2_with fail
        go_roundw
        case rel =>
          have hm := HMI.out
          refine ⟨i + 1, m + 1, by omega, by go_num, ?_, ?_, ?_, ?_⟩
          · omega
          · rw [HN.out]
            have e := HOW.out
            rw [List.length_append, show l[j].data.toList.length = l[j].size from by simp] at e
            exact e
          · rw [HN.out, List.length_append]; simp; omega
          · exact ((below_drewN HB.out 1).trans (HBC.out.mono (by simp; omega))).trans HBE.out
        case measure => have hm := HMI.out; simp [intOf]; omega
    · have d1 : decide ((p.length : Int) < n) = false := by simp; omega
      have hconv := fun (wx : World) (h : ∀ (k : Nat) (u : Value), (byteCells p)[k]? = some u → wx.cell? ⟨g, k, none⟩ = some u) => ownB_conv (n := n) (cap := cap) Try.underlying9 h (by omega)
      have hc2 := hconv wr HC.out
      have HF := Lib.hid (HE.out n (by omega))
      clear hconv
      go_wp2_with fail
      go_ret
      refine ⟨ret_str ?_, HB0.out.trans (HB.out.mono (by omega))⟩
      rw [HF.out]
end Go.Proofs.Ytbbcdeknnfghkaa

/- FixedPoint and IsFixedStart of the model. Conditions: lengths of at most 2^20. -/
namespace Go.Proofs.Ytbbcdeknnfghkaa
open Go.RowKit

theorem fixR_no {l : List ByteArray} {t : ByteArray} {n : Int} (h : fixOk l t n = false) {w w' : World} (hb : Below w.heap.size w w') : PairSaid (fixR l t n) (fixOk l t n) w (.returned (.tuple #[.string ⟨#[]⟩, .bool false])) w' := by
  refine ⟨?_, hb⟩
  have e : fixR l t n = ⟨#[]⟩ := if_neg (by rw [h]; decide)
  rw [h, e]
set_option maxHeartbeats 1000000 in
theorem specFixedPoint (l : List ByteArray) (v : Value) (t : ByteArray) (n : Int) (w : World) (h : Lst w v (strs l)) (hz : ∀ x ∈ l, x.size ≤ 1048576) (hn : l.length ≤ 1048576) (ht : t.size ≤ 1048576) :
    Calls Try.prog 13 #[.agg #[v], .string t, .int .i64 n] w (PairSaid (fixR l t n) (fixOk l t n) w) := by
  obtain ⟨A, cp, rfl⟩ := lst_slice h
  rw [strs_length] at h ⊢
  have hb0 : Below w.heap.size w (w.alloc (.cells #[.slice A l.length cp] 24)) := (Below.refl _ _).alloc (Nat.le_refl _) _
  have HL := Lib.hid (h.below hb0)
  have HZ := Lib.hid hz
  have HB0 := Lib.hid hb0
  clear h hz hb0
  by_cases h0 : growOk l t = true
  · obtain ⟨hN, h1, hg⟩ := grow_parts h0
    have hr : glR l t = (letN t : Int) := if_pos h0
    have d0 : decide ((letN t : Int) < 0) = false := by simp
    by_cases hin : 0 ≤ n ∧ n ≤ 400
    · obtain ⟨m, rfl⟩ : ∃ m : Nat, n = m := ⟨n.toNat, by omega⟩
      have hm : m ≤ 400 := by omega
      have d1 : decide ((0 : Int) ≤ (m : Int)) = true := by simp
      have d2 : decide ((m : Int) ≤ (400 : Int)) = true := by simp; omega
      have HS := Lib.hid (fun w h => specStart l (.slice A l.length cp) (letN t) m w h h1 hN hg hm)
      have HOK : Hid (fixOk l t m = true) := by show fixOk l t m = true; unfold fixOk; rw [h0, d1, d2]; rfl
      have HV : Hid (fixR l t m = ⟨(fixL l (letN t) m).toArray⟩) := if_pos HOK.out
      clear h0 hg hin
      go_enter Try.func13, Try.ntmps13
      go_wp2_with fail
      refine (specGrowLetter l _ t _ HL.out HZ.out hn ht).mono ?_
      rintro e w1 ⟨rfl, hb1⟩
      rw [hr]
      have HB1 : Hid (Below w.heap.size w w1) := HB0.out.trans (hb1.mono (by simp))
      have c1 : w1.cell? ⟨w.heap.size, 0, none⟩ = some (.slice A l.length cp) := (hb1.cell (p := ⟨w.heap.size, 0, none⟩) (by simp)).trans (by go_simp)
      have HL1 := Lib.hid (HL.out.below hb1)
      clear hb1 hr
      go_wp2_with fail
      refine (specIn _ _ _ _).mono ?_
      rintro e w' ⟨rfl, rfl⟩
      go_wp2_with fail
      refine (HS.out _ HL1.out).mono ?_
      rintro e w2 ⟨rfl, hb2⟩
      have HB2 : Hid (Below w.heap.size w w2) := HB1.out.trans (hb2.mono HB1.out.size)
      clear hb2 c1
      go_wp2_with fail
      go_ret2
      refine ⟨?_, HB2.out⟩
      rw [HOK.out, HV.out]
      rfl
    · have d1 : (decide ((0 : Int) ≤ n) && decide (n ≤ (400 : Int))) = false := by simp; omega
      have HNO : Hid (fixOk l t n = false) := by show fixOk l t n = false; unfold fixOk; rw [d1, Bool.and_false]
      clear h0 hg hin
      go_enter Try.func13, Try.ntmps13
      go_wp2_with fail
      refine (specGrowLetter l _ t _ HL.out HZ.out hn ht).mono ?_
      rintro e w1 ⟨rfl, hb1⟩
      rw [hr]
      have HB1 : Hid (Below w.heap.size w w1) := HB0.out.trans (hb1.mono (by simp))
      clear hb1 hr
      go_wp2_with fail
      refine (specIn _ _ _ _).mono ?_
      rintro e w' ⟨rfl, rfl⟩
      go_wp2_with fail
      go_ret2
      exact fixR_no HNO.out HB1.out
  · have hr : glR l t = -1 := if_neg h0
    have HNO : Hid (fixOk l t n = false) := by show fixOk l t n = false; unfold fixOk; rw [show growOk l t = false by simpa using h0]; rfl
    clear h0
    go_enter Try.func13, Try.ntmps13
    go_wp2_with fail
    refine (specGrowLetter l _ t _ HL.out HZ.out hn ht).mono ?_
    rintro e w1 ⟨rfl, hb1⟩
    rw [hr]
    have HB1 : Hid (Below w.heap.size w w1) := HB0.out.trans (hb1.mono (by simp))
    clear hb1 hr
    go_wp2_with fail
    go_ret2
    exact fixR_no HNO.out HB1.out

theorem fixStart_eq {l : List ByteArray} {s : ByteArray} (h0 : 0 < s.size) : fixStart l s = (fixOk l (oneOf s) s.size && decide ((fixR l (oneOf s) s.size).toList = s.toList)) := by
  unfold fixStart
  rw [decide_eq_false (show ¬ s.size = 0 by omega), Bool.false_or]
  by_cases h : fixOk l (oneOf s) s.size = true
  · have e : fixR l (oneOf s) s.size = ⟨(fixL l (letN (oneOf s)) s.size).toArray⟩ := if_pos h
    rw [h, e, Bool.true_and, Bool.true_and, ByteArray.toList_eq, ByteArray.toList_eq]
  · rw [show fixOk l (oneOf s) s.size = false by simpa using h, Bool.false_and, Bool.false_and]
set_option maxHeartbeats 1000000 in
theorem specIsFixedStart (l : List ByteArray) (v : Value) (s : ByteArray) (w : World) (h : Lst w v (strs l)) (hz : ∀ x ∈ l, x.size ≤ 1048576) (hn : l.length ≤ 1048576) (hs : s.size ≤ 1048576) :
    Calls Try.prog 31 #[.agg #[v], .string s] w fun e w' => e = .returned (.bool (fixStart l s)) ∧ Below w.heap.size w w' := by
  obtain ⟨A, cp, rfl⟩ := lst_slice h
  rw [strs_length] at h ⊢
  have hb0 : Below w.heap.size w (w.alloc (.cells #[.slice A l.length cp] 24)) := (Below.refl _ _).alloc (Nat.le_refl _) _
  have HL := Lib.hid (h.below hb0)
  have HZ := Lib.hid hz
  have HB0 := Lib.hid hb0
  clear h hz hb0
  by_cases h0 : s.size = 0
  · have HV : Hid (fixStart l s = true) := by show fixStart l s = true; unfold fixStart; rw [decide_eq_true h0]; rfl
    have es : s = ⟨#[]⟩ := bytes_ext (by rw [ByteArray.toList_eq, ByteArray.toList_eq]; exact List.eq_nil_of_length_eq_zero (by simpa using h0))
    subst es
    go_enter Try.func31, Try.ntmps31
    go_wp2_with fail
    go_ret
    exact ⟨ret_bool HV.out.symm, HB0.out⟩
  · have h1 : 1 ≤ s.size := by omega
    have HV := Lib.hid (fixStart_eq (l := l) (s := s) h1)
    have b0 : (s.toList == (⟨#[]⟩ : ByteArray).toList) = false := by
      rw [beq_eq_false_iff_ne]
      intro e
      apply h0
      have h6 := congrArg List.length e
      rw [ByteArray.toList_eq, ByteArray.toList_eq, Array.length_toList, Array.length_toList] at h6
      exact h6
    have b0' : (s.toList == []) = false := by
      rw [show (⟨#[]⟩ : ByteArray).toList = [] from by rw [ByteArray.toList_eq]] at b0
      exact b0
    have hsl : ∀ w : World, (Instr.slice 9 (.string s) none (some (.int .i64 (1 : Int))) none).run Try.prog w = .ok (.string (oneOf s)) w := fun w => by
      rw [run_slice_string_to_if (P := Try.prog) w 9 s .i64 1 Try.underlying9, if_pos ⟨by omega, by omega⟩]
      rfl
    have ho1 : (oneOf s).size ≤ 1048576 := by unfold oneOf; rw [ByteArray.size_extract]; omega
    go_enter Try.func31, Try.ntmps31
    go_wp2_with fail
    go_region_with (go_at_call 13
                    refine (specFixedPoint l _ (oneOf s) s.size _ (HL.out.drewN 1) HZ.out hn ho1).mono ?_
                    rintro e w1 ⟨rfl, hb1⟩
                    have HB1 : Hid (Below w.heap.size w w1) := (below_drewN HB0.out 1).trans (hb1.mono (by simp))
                    clear hb1)
    cases hok : fixOk l (oneOf s) s.size
    · have HF : Hid (fixStart l s = false) := by show fixStart l s = false; rw [HV.out, hok]; rfl
      clear hok
      go_wp2_with fail
      go_ret
      exact ⟨ret_bool HF.out.symm, HB1.out⟩
    · have HF : Hid (fixStart l s = ((fixR l (oneOf s) s.size).toList == s.toList)) := by
        show fixStart l s = _
        rw [HV.out, hok, Bool.true_and]
        rw [Bool.eq_iff_iff]
        simp
      clear hok
      go_wp2_with fail
      go_ret
      exact ⟨ret_bool HF.out.symm, HB1.out⟩
end Go.Proofs.Ytbbcdeknnfghkaa

/- A range over an iterator without end whose own blocks may turn: what it promises (Streams), and the statement out of it (rangeOver). No program in it. -/
namespace Go.Proofs.Ytbbcdeknnfghkaa
open Go.RowKit

/-- whatever lay outside X lies as it lay -/
structure Kept (X : Nat → Prop) (w w' : World) : Prop where
  os : w'.os = w.os
  tape : w'.tape = w.tape
  output : w'.output = w.output
  size : w.heap.size ≤ w'.heap.size
  block : ∀ k, k < w.heap.size → ¬ X k → w'.heap[k]? = w.heap[k]?

namespace Kept
variable {X Y : Nat → Prop} {a b c w : World}
theorem refl (X : Nat → Prop) (w : World) : Kept X w w := ⟨rfl, rfl, rfl, Nat.le_refl _, fun _ _ _ => rfl⟩
theorem trans (h : Kept X a b) (k : Kept X b c) : Kept X a c :=
  ⟨k.os.trans h.os, k.tape.trans h.tape, k.output.trans h.output, Nat.le_trans h.size k.size, fun i hi hx => (k.block i (Nat.lt_of_lt_of_le hi h.size) hx).trans (h.block i hi hx)⟩
theorem mono (h : Kept X a b) (hxy : ∀ k, X k → Y k) : Kept Y a b := ⟨h.os, h.tape, h.output, h.size, fun i hi hx => h.block i hi (fun e => hx (hxy i e))⟩
/-- only the blocks that lay in the first world matter -/
theorem mono' (h : Kept X a b) (hxy : ∀ k, k < a.heap.size → X k → Y k) : Kept Y a b := ⟨h.os, h.tape, h.output, h.size, fun i hi hx => h.block i hi (fun e => hx (hxy i hi e))⟩
theorem putObj {l : Nat} (o : Obj) (h : Kept X a b) (hl : X l) : Kept X a (b.putObj l o) :=
  h.trans ⟨rfl, rfl, rfl, by simp, fun k _ hk => World.putObj_heap_other (fun e => hk (e ▸ hl))⟩
theorem alloc (h : Kept X a b) (o : Obj) : Kept X a (b.alloc o) :=
  h.trans ⟨rfl, rfl, rfl, by simp, fun k hk _ => Below.heap_alloc _ _ _ hk⟩
theorem setCell (h : Kept X a b) {p : Addr} (hp : X p.block) (u : Value) : Kept X a (b.setCell p u) :=
  h.trans ⟨rfl, rfl, rfl, by simp [World.setCell], fun k _ hk => Below.heap_setCell _ _ _ _ (fun e => hk (e ▸ hp))⟩
theorem grown {row : Option Nat} (h : Kept X a b) (hg : b.grownBy c row) (hr : ∀ k, row = some k → X k) : Kept X a c :=
  h.trans ⟨hg.os, hg.tape, hg.output, hg.size, fun k hk hx => hg.block k hk (fun e => hx (hr k e.symm))⟩
theorem drew (h : Kept X a b) : Kept X a b.drew := ⟨h.os, h.tape, h.output, h.size, h.block⟩
theorem drewN (h : Kept X a b) (n : Nat) : Kept X a (b.drewN n) := ⟨h.os, h.tape, h.output, h.size, h.block⟩
theorem below {B : Nat} (h : Kept X a b) (hX : ∀ k, X k → B ≤ k) (hB : B ≤ a.heap.size) : Below B a b :=
  ⟨h.os, h.tape, h.output, h.size, fun k hk => h.block k (by omega) (fun e => by have := hX k e; omega)⟩
theorem of_below {B : Nat} (h : Below B a b) (hX : ∀ k, B ≤ k → k < a.heap.size → X k) : Kept X a b :=
  ⟨h.os, h.tape, h.output, h.size, fun k hk hx => h.block k (by rcases Nat.lt_or_ge k B with e | e; · exact e
                                                                exact absurd (hX k e hk) hx)⟩
theorem heap {k : Nat} {o : Obj} (h : Kept X a b) (hk : a.heap[k]? = some o) (hx : ¬ X k) : b.heap[k]? = some o :=
  (h.block k (Array.getElem?_eq_some_iff.1 hk).1 hx).trans hk
theorem cell {p : Addr} {v : Value} (h : Kept X a b) (hc : a.cell? p = some v) (hx : ¬ X p.block) : b.cell? p = some v :=
  (World.cell?_of_block (w := a) (h.block p.block (World.block_lt_of_cell? a _ hc) hx)).trans hc
theorem frozen {p : Addr} {v : Value} (h : Kept X a b) (hc : a.cell? p = some v) (hx : ¬ X p.block) : b.frozen? p = a.frozen? p :=
  World.frozen?_of_block (w := a) (h.block p.block (World.block_lt_of_cell? a _ hc) hx)
theorem boxed {B : Nat} {t : TypeId} {v : Value} (h : Kept X a b) (hc : Boxed a B t v) (hx : ¬ X B) : Boxed b B t v := h.heap hc hx
theorem row {base : Nat} {e : TypeId} {size n : Nat} {v : Value} {xs : List Value} (h : Kept X a b) (ho : a.ownsRow base e size v n xs) (hx : ∀ g, v.ownBlock = some g → ¬ X g) : b.ownsRow base e size v n xs := by
  obtain ⟨h1, h2⟩ := ho
  refine ⟨h1, ?_⟩
  rcases h2 with h2 | ⟨g, cap, cur, rfl, hb, hg, rest⟩
  · exact .inl h2
  · exact .inr ⟨g, cap, cur, rfl, hb, h.heap hg (hx g rfl), rest⟩
end Kept

/-- WHAT AN ITERATOR WITHOUT END PROMISES: at J, carried on from round to round, it hands over enc 0, enc 1, ..; it turns blocks laid since its call began (where Z), nothing else; a round keeps all outside X (and outside the loop's record l). -/
def Streams (P : Program) (gf : FuncId) (lb : Array Value) (enc : Nat → Value) (X : Nat → Prop) (Z : Prop) (N : Nat) (w : World) : Prop :=
  ∀ (l : Nat) (J : Nat → World → Prop) (Jx : World → Prop) (W : World), Below w.heap.size w W → w.heap.size ≤ l → l < W.heap.size →
    (∀ i A C, J i A → Kept (fun k => Z ∧ W.heap.size ≤ k) A C → J i C) →
    (∀ i A, J i A → i < N ∧ YieldAt Fence.wide 7 P l #[enc i] A fun e C => (e = .returned (.bool true) ∧ J (i + 1) C ∧ Kept (fun k => X k ∨ k = l) A C) ∨ (e = .returned (.bool false) ∧ Jx C)) →
    J 0 W → CallsIn Fence.wide 8 P gf (#[.func (.yield l) #[] #[]] ++ lb) W fun e C => (∃ v, e = .returned v) ∧ Jx C

/-- how a round's body may be left: off its end, or by the exit x -/
def overPost (X : Nat → Prop) (I : Nat → World → Prop) (Ix : World → Prop) (x i : Nat) (A : World) : Exit → Act → World → Prop
  | .normal, _, C => Kept X A C ∧ I (i + 1) C
  | .exit id, _, C => id = x ∧ Kept X A C ∧ Ix C
  | _, _, _ => False

theorem rangeOver {P : Program} {g : Operand} {ps : Array Tmp} {assign body : Code} {Q : Exit → Act → World → Prop} {a : Act} {w : World} {gf : Nat} {lb : Array Value}
    (hg : a.eval g = .func (.func gf) #[] lb) (eg : ∀ args w, (callFunc gf args).run P w = .ok (.enter gf args) w) (hps : ps.size = 1)
    {enc : Nat → Value} {X : Nat → Prop} {Z : Prop} {N : Nat} {w0 : World} (hseq : Streams P gf lb enc X Z N w0) (hw0 : Below w0.heap.size w0 w)
    (hX1 : ¬ X w.heap.size) (hX2 : ¬ X (w.heap.size + 1))
    (I : Nat → World → Prop) (Ix : World → Prop) (x : Nat)
    (hI : ∀ i A C, I i A → Kept (fun k => (k = w.heap.size ∨ k = w.heap.size + 1) ∨ (Z ∧ w.heap.size + 2 ≤ k)) A C → I i C)
    (hIx : ∀ A C, Ix A → Kept (fun k => k = w.heap.size + 1) A C → Ix C) (h0 : I 0 w) (a₁ : Nat → Act)
    (hassign : ∀ (l i : Nat) (A : World) (K : Act → World → Prop), K (a₁ i) A →
      assign.wpIn (Fence.wide.inRound l) 7 P (Exit.then K (fun _ _ _ => False)) { tmps := (ps.zip #[enc i]).foldl (fun t (p, v) => t.setIfInBounds p v) a.tmps, defers := [] } A)
    (hbody : ∀ (l i : Nat) (A : World), w.heap.size + 2 ≤ A.heap.size → I i A → i < N ∧ body.wpIn (Fence.wide.inRound l) 7 P (overPost X I Ix x i A) (a₁ i) A)
    (hstop : ∀ (D : Nat) (C : World), w.heap.size ≤ D → Ix C → C.heap[D]? = some (.deferred (some [])) → (Code.exit x).wpIn Fence.wide 9 P Q { a with defers := { target := .collected D, args := #[] } :: a.defers } C) :
    (Code.rangeFunc g ps assign body).wpIn Fence.wide 9 P Q a w := by
  refine wpIn_rangeFunc ?_
  intro fn hfn
  obtain ⟨rec, hrec⟩ : ∃ rec : LoopState → Option Code → Loop, rec = fun st pe => { state := st, pending := pe, fn, tmps := a.tmps, params := ps, assign, body, defers := w.heap.size } := ⟨_, rfl⟩
  obtain ⟨V, hV⟩ : ∃ V, (w.alloc (.deferred (some []))).alloc (.loop (rec .ready none)) = V := ⟨_, rfl⟩
  have kV : Kept (fun _ => False) w V := by rw [← hV]; exact ((Kept.refl _ w).alloc _).alloc _
  have sV : V.heap.size = w.heap.size + 2 := by rw [← hV]; simp
  have lV : V.heap[w.heap.size + 1]? = some (.loop (rec .ready none)) := by
    rw [← hV]
    have := World.alloc_heap_new (w.alloc (.deferred (some []))) (.loop (rec .ready none))
    rwa [World.size_alloc] at this
  have dV : V.heap[w.heap.size]? = some (.deferred (some [])) := by
    rw [← hV]; exact (Below.heap_alloc _ _ _ (by simp)).trans (World.alloc_heap_new w _)
  refine ⟨w.heap.size + 1, [{ target := .collected w.heap.size, args := #[] }], V, { target := .fn (.func gf) lb, args := #[.func (.yield (w.heap.size + 1)) #[] #[]] }, V, gf, #[.func (.yield (w.heap.size + 1)) #[] #[]] ++ lb, V, ?_, ?_, fun _ _ => trivial, ?_, fun _ => by omega, ?_⟩
  · rw [← hV, hrec]; exact run_enterLoop_outer _ _ _ _ _
  · simp only [resolve, hg]
    simp [go_sem]
  · simp [invoke, go_sem, eg]
  · refine (hseq (w.heap.size + 1) (fun i W => I i W ∧ W.heap[w.heap.size + 1]? = some (.loop (rec .ready none)) ∧ W.heap[w.heap.size]? = some (.deferred (some [])))
      (fun W => Ix W ∧ W.heap[w.heap.size + 1]? = some (.loop (rec .done (some (.exit x)))) ∧ W.heap[w.heap.size]? = some (.deferred (some []))) V
      (hw0.trans ((kV.below (fun _ h => h.elim) (Nat.le_refl _)).mono hw0.size)) (by have := hw0.size; omega) (by omega) ?_ ?_ ?_).mono ?_
    · rintro i A C ⟨h1, h2, h3⟩ hk
      have nb : ∀ k, k < w.heap.size + 2 → ¬ (Z ∧ V.heap.size ≤ k) := fun k hk' h => by omega
      exact ⟨hI i A C h1 (hk.mono fun k h => .inr ⟨h.1, by omega⟩), hk.heap h2 (nb _ (by omega)), hk.heap h3 (nb _ (by omega))⟩
    · rintro i A ⟨h1, h2, h3⟩
      have hlt : w.heap.size + 1 < A.heap.size := (Array.getElem?_eq_some_iff.1 h2).1
      refine ⟨(hbody 0 i A (by omega) h1).1, ?_⟩
      have hy := run_yield (P := P) (args := #[enc i]) h2 (by rw [hrec]; simp [hps])
      rw [hrec] at hy
      refine ⟨fn, _, assign, body, hy, roundIn_of_wpIn hfn (hassign _ i A _ ⟨_, run_beginRound h2 (by rw [hrec]), ?_⟩)⟩
      obtain ⟨A2, hA2⟩ : ∃ A2, A.putObj (w.heap.size + 1) (.loop { rec .ready none with state := .busy }) = A2 := ⟨_, rfl⟩
      rw [hA2]
      have k2 : Kept (fun k => k = w.heap.size + 1) A A2 := by rw [← hA2]; exact (Kept.refl _ A).putObj _ rfl
      have l2 : A2.heap[w.heap.size + 1]? = some (.loop { rec .ready none with state := .busy }) := by rw [← hA2]; exact World.putObj_heap_same hlt
      have d2 : A2.heap[w.heap.size]? = some (.deferred (some [])) := k2.heap h3 (by omega)
      refine wpIn_mono (hbody _ i A2 (by have := k2.size; omega) (hI i A A2 h1 (k2.mono fun k h => .inl (.inr h)))).2 ?_
      have fin : ∀ (jump : Option Code) (W3 : World), Kept X A2 W3 →
          (Instr.endRound (w.heap.size + 1) jump).run P W3 = .ok (.bool jump.isNone) (W3.putObj (w.heap.size + 1) (.loop (rec (if jump.isNone then .ready else .done) jump))) ∧
          (W3.putObj (w.heap.size + 1) (.loop (rec (if jump.isNone then .ready else .done) jump))).heap[w.heap.size + 1]? = some (.loop (rec (if jump.isNone then .ready else .done) jump)) ∧
          (W3.putObj (w.heap.size + 1) (.loop (rec (if jump.isNone then .ready else .done) jump))).heap[w.heap.size]? = some (.deferred (some [])) := fun jump W3 k3 => by
        have l3 := k3.heap l2 hX2
        have d3 := k3.heap d2 hX1
        have hr := run_endRound (P := P) jump l3
        rw [hrec] at hr ⊢
        exact ⟨hr, World.putObj_heap_same (Array.getElem?_eq_some_iff.1 l3).1, (World.putObj_heap_other (by omega)).trans d3⟩
      rintro e a3 W3 hp
      cases e with
      | normal =>
        obtain ⟨k3, i3⟩ := hp
        obtain ⟨hr, l4, d4⟩ := fin none W3 k3
        refine ⟨_, _, hr, .inl ⟨rfl, ⟨hI _ _ _ i3 ((Kept.refl _ W3).putObj _ (.inl (.inr rfl))), l4, d4⟩, ?_⟩⟩
        exact ((k2.mono fun k h => .inr h).trans (k3.mono fun k h => .inl h)).putObj _ (.inr rfl)
      | exit id =>
        obtain ⟨rfl, k3, i3⟩ := hp
        obtain ⟨hr, l4, d4⟩ := fin (some (.exit id)) W3 k3
        exact ⟨_, _, hr, .inr ⟨rfl, hIx _ _ i3 ((Kept.refl _ W3).putObj _ rfl), l4, d4⟩⟩
      | ret => exact hp.elim
      | goto t => exact hp.elim
      | panic ch => exact hp.elim
      | outgrown => exact hp.elim
    · exact ⟨hI 0 w V h0 (kV.mono fun _ h => h.elim), lV, dV⟩
    · rintro e C ⟨⟨v, rfl⟩, hx, hl, hd⟩
      have hr := run_endLoop (P := P) hl (by rw [hrec]; simp)
      refine ⟨some (.exit x), _, by rw [hrec] at hr; exact hr, ?_⟩
      exact hstop _ _ (Nat.le_refl _) (hIx _ _ hx ((Kept.refl _ C).putObj _ rfl)) ((World.putObj_heap_other (by omega)).trans hd)
/-- what follows is met off the statement's end alone -/
theorem wp_calm {P : Program} {c : Code} {K : Act → World → Prop} {Q : Exit → Act → World → Prop} {a : Act} {w : World} (h : c.wp P (Exit.then K (fun _ _ _ => False)) a w) : c.wp P (Exit.then K Q) a w :=
  (wpIn_wide (n := 0)).1 (wpIn_mono ((wpIn_wide (n := 0)).2 h) (fun e _ _ q => by cases e <;> first | exact q | exact q.elim))
end Go.Proofs.Ytbbcdeknnfghkaa
