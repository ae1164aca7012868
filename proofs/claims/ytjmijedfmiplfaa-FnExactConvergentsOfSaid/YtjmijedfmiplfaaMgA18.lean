/- Texts put together. -/
import Derived.Test.YtjmijedfmiplfaaMgA3
import Derived.Test.YtjmijedfmiplfaaMgA1
import Derived.RegionTactic
import Derived.Laws.Cover1
import Derived.Test.YtjmijedfmiplfaaMgA17
import Derived.BigRegion
import Derived.IntWalk
import Derived.Test.YtjmijedfmiplfaaMgA16
import Derived.Test.YtjmijedfmiplfaaMgA4
import Derived.Test.YtjmijedfmiplfaaMgA5
/- slices.Reverse, slices.Index and slices.Contains of the library, of a row of ints that the call owns. Condition: at most 2^20 of them. -/
namespace Go.Proofs.Ytjmijedfmiplfaa
open Go.RowKit

/-- turned as far as i from both ends -/
def HalfTurned (L : List Int) (i : Nat) (M : List Int) : Prop := M.length = L.length ∧ ∀ p, p < L.length → M[p]? = if p < i ∨ L.length - i ≤ p then L[L.length - 1 - p]? else L[p]?
theorem half_start (L : List Int) : HalfTurned L 0 L := ⟨rfl, fun p hp => by rw [if_neg (by omega)]⟩
theorem half_step {L M : List Int} {i j : Nat} (h : HalfTurned L i M) (hij : i < j) (hj : j + i + 1 = L.length) (a b : Int) (ha : M[i]? = some a) (hb : M[j]? = some b) : HalfTurned L (i + 1) ((M.set i b).set j a) := by
  obtain ⟨h1, h2⟩ := h
  refine ⟨by rw [List.length_set, List.length_set, h1], fun p hp => ?_⟩
  by_cases hpj : p = j
  · subst hpj
    rw [List.getElem?_set_self (by rw [List.length_set]; omega), if_pos (by omega), ← ha, h2 i (by omega), if_neg (by omega)]
    congr 1
    omega
  · rw [List.getElem?_set_ne (fun e => hpj e.symm)]
    by_cases hpi : p = i
    · subst hpi
      rw [List.getElem?_set_self (by omega), if_pos (by omega), ← hb, h2 j (by omega), if_neg (by omega)]
      congr 1
      omega
    · rw [List.getElem?_set_ne (fun e => hpi e.symm), h2 p hp]
      by_cases hc : p < i ∨ L.length - i ≤ p
      · rw [if_pos hc, if_pos (by omega)]
      · rw [if_neg hc, if_neg (by omega)]
theorem half_end {L M : List Int} {i : Nat} (h : HalfTurned L i M) (hi : L.length ≤ i + i + 1) : M = L.reverse := by
  obtain ⟨h1, h2⟩ := h
  apply List.ext_getElem?
  intro p
  by_cases hp : p < L.length
  · rw [h2 p hp, List.getElem?_reverse hp]
    by_cases hc : p < i ∨ L.length - i ≤ p
    · rw [if_pos hc]
    · rw [if_neg hc]
      congr 1
      omega
  · rw [List.getElem?_eq_none (by omega), List.getElem?_eq_none (by rw [List.length_reverse]; omega)]
theorem ints_set (M : List Int) (i : Nat) (a : Int) : ints (M.set i a) = (ints M).set i (.int .i64 a) := by unfold ints; rw [List.map_set]
theorem ints_get {M : List Int} {i : Nat} {a : Int} (h : M[i]? = some a) : (ints M)[i]? = some (.int .i64 a) := by unfold ints; rw [List.getElem?_map, h]; rfl

set_option maxHeartbeats 1000000 in
theorem implIndexInts (B : Nat) (v : Value) (L : List Int) (x : Int) (w : World) (ho : w.ownsRow B 3 1 v L.length (ints L)) (hn : L.length ≤ 1048576) :
    Calls Try.prog 64 #[v, .int .i64 x] w fun e w' => (∃ q : Int, e = .returned (.int .i64 q) ∧ (0 ≤ q ↔ x ∈ L)) ∧ w = w' := by
  obtain ⟨A, cp, rfl⟩ := own_slice ho
  have HO := Lib.hid ho
  clear ho
  go_enter Try.func64, Try.ntmps64
  go_wp2_with fail
  go_loop [8] (fun ix => ∃ i : Nat, i ≤ L.length ∧ ix = .int .i64 (i : Int) ∧ ∀ j (hj : j < L.length), j < i → L[j] ≠ x) (fun ix => L.length - (RowKit.intOf ix).toNat)
  case atStart => exact ⟨0, by omega, rfl, fun j _ h => by omega⟩
  case round =>
    obtain ⟨i, hi, rfl, hno⟩ := hrel
    have HNO := Lib.hid hno
    clear hno
    by_cases hlt : i < L.length
    · obtain ⟨g, cap, e, hcap⟩ := own_some HO.out (by omega)
      injection e with hA _ hc
      subst hA; subst hc
      have gi : w.cell? ⟨g, i, none⟩ = some (.int .i64 (L[i]'hlt)) := (World.ownsRow.cellAt HO.out i (by omega)).trans (ints_get (List.getElem?_eq_getElem hlt))
      by_cases he : L[i]'hlt = x
      · have dE : (x == (L[i]'hlt)) = true := by rw [beq_iff_eq]; exact he.symm
        have HM : Hid (x ∈ L) := by show x ∈ L; rw [← he]; exact List.getElem_mem _
        clear he
        generalize L[i]'hlt = y at gi dE
        go_wp2_with fail
        go_ret
        refine ⟨⟨_, rfl, ?_⟩, rfl⟩
        exact ⟨fun _ => HM.out, fun _ => by omega⟩
      · have dE : (x == (L[i]'hlt)) = false := by rw [beq_eq_false_iff_ne]; exact fun h => he h.symm
        have HE := Lib.hid he
        clear he
        generalize hy : L[i]'hlt = y at gi dE
        clear hy
        go_wp2_with fail
        go_round
        case rel => exact ⟨i + 1, by omega, by go_num, fun j hj h => by
          by_cases e : j = i
          · subst e; exact HE.out
          · exact HNO.out j hj (by omega)⟩
        case measure => simp [RowKit.intOf]; omega
    · have HM : Hid (¬ x ∈ L) := by
        intro h
        obtain ⟨j, hj, e⟩ := List.mem_iff_getElem.1 h
        exact HNO.out j hj (by omega) e
      have hin : i = L.length := by omega
      have hlt2 : ¬ (i : Int) < (L.length : Int) := by omega
      clear hin
      go_wp2_with fail
      go_ret
      refine ⟨⟨_, rfl, ?_⟩, rfl⟩
      exact ⟨fun h => by omega, fun h => absurd h HM.out⟩

theorem implContainsInts (B : Nat) (v : Value) (L : List Int) (x : Int) (w : World) (ho : w.ownsRow B 3 1 v L.length (ints L)) (hn : L.length ≤ 1048576) :
    Calls Try.prog 44 #[v, .int .i64 x] w fun e w' => e = .returned (.bool (decide (x ∈ L))) ∧ w = w' := by
  obtain ⟨A, cp, rfl⟩ := own_slice ho
  have HC := Lib.hid (implIndexInts B _ L x w ho hn)
  clear ho
  go_enter Try.func44, Try.ntmps44
  go_wp2_with fail
  refine HC.out.mono ?_
  rintro e w' ⟨⟨q, rfl, hq⟩, rfl⟩
  have HQ := Lib.hid hq
  clear hq
  go_wp2_with fail
  go_ret
  exact ⟨ret_bool (decide_eq_decide.2 HQ.out), rfl⟩
end Go.Proofs.Ytjmijedfmiplfaa

/- The program's numeratorsOf. Condition: valid quotients. -/
namespace Go.Proofs.Ytjmijedfmiplfaa
open Go.RowKit

/-- held numbers behind i, the quotients themselves up to i -/
def NumAt (l : List Int) (S : Nat → Int) (i : Int) (M : List Int) : Prop := M.length = l.length + 1 ∧ ∀ j (hj : j < M.length), M[j] = if (j : Int) ≤ i then l.getD j 0 else S j

set_option maxRecDepth 100000 in
set_option maxHeartbeats 2000000 in
theorem implNumeratorsOf (l : List Int) (v : Value) (w : World) (h : Lst w v (ints l)) (hq : Quots l) :
    Calls Try.prog 43 #[v] w fun e w' => ∃ v', e = .returned v' ∧ w'.ownsRow w.heap.size 3 1 v' (l.length + 1) (ints (nuL l)) ∧ Below w.heap.size w w' := by
  obtain ⟨i0, hi0, hz0, hz1, hz2⟩ := info_parts int_info
  have HL := Lib.hid h
  obtain ⟨A, c, rfl, hc1, hc2, h1⟩ := h
  rw [ints_length] at hc1 HL ⊢
  clear h1
  unfold maxLen at hc2
  have hn1 := hq.1.1
  have hn2 := hq.1.2
  have HB1 : Hid (∀ j (hj : j < l.length), 0 ≤ l[j] ∧ l[j] ≤ 1000) := fun j hj => ⟨(hq.2 j hj).1, (hq.2 j hj).2.1⟩
  have HST := Lib.hid (fun i (hi : i + 2 ≤ l.length) => nu_step hq hi)
  have HLO := Lib.hid (fun i => nu_low hq i)
  have HEN := Lib.hid (nu_end l)
  have HLA : Hid (∀ h : l.length - 1 < l.length, nuS l (l.length - 1) = l[l.length - 1]) := fun _ => nu_last hq
  have HAT := Lib.hid (nuL_at l)
  have hlen : Hid ((nuL l).length = l.length + 1) := nuL_len l
  generalize nuS l = S at *
  generalize nuL l = R at *
  have hne : Hid (ints l ≠ []) := fun e => by
    have := congrArg List.length e
    rw [ints_length] at this
    simp at this
    subst this
    simp at hn1
  have hone : Hid (∀ v ∈ ints l, v.oneCell' = true) := fun v hv => by
    unfold ints at hv
    obtain ⟨x, _, rfl⟩ := List.mem_map.1 hv
    rfl
  clear hq
  go_enter Try.func43, Try.ntmps43
  go_wp2_with (at_make; refine wpList_make_full _ rfl _ _ 22 rfl w.heap.size 3 i0 (.int .i64 0) 1 Try.underlying22 hi0 hz0 hz1 .i64 .i64 _ _ (l.length + 1) rfl rfl (by omega) (by omega) (by rw [hz2]; omega) (by unfold maxLen; omega) (Nat.le_refl _) ?_; intro w1 hown hgrow)
  have hb1 : Below w.heap.size w w1 := (Below.refl _ _).grown hgrow (Nat.le_refl _) (fun k hk => by cases hk)
  have hlc := HL.out.below hb1
  clear HL
  obtain ⟨zs, hzs⟩ : ∃ zs, zs = (madeCells (Value.int .i64 0).cells ((l.length + 1) * 1)).toList := ⟨_, rfl⟩
  rw [← hzs] at hown
  have hzl : zs.length = l.length + 1 := by have := hown.1; omega
  have HO1 := Lib.hid hown
  have HB1' := Lib.hid hb1
  clear hown hgrow hb1 hzs
  obtain ⟨xs, hxs⟩ : ∃ xs, xs = ints l := ⟨_, rfl⟩
  rw [← hxs] at hlc hne hone
  have hxl : xs.length = l.length := by rw [hxs, ints_length]
  have HXS := Lib.hid hxs
  have HLC := Lib.hid hlc
  clear hxs hlc
  obtain ⟨w2, hrun, hown2, hb2⟩ := run_copy_own (P := Try.prog) 22 22 3 3 Try.underlying22 (by rw [hi0]; simp [hz1]) w.heap.size w.heap.size (l.length + 1) (l.length + 1) _ xs zs HO1.out HLC.out (by omega) hne.out hone.out
  rw [hrun]
  have hex : ∃ z, zs.drop l.length = [z] := by
    have h1 : (zs.drop l.length).length = 1 := by rw [List.length_drop, hzl]; omega
    exact List.length_eq_one_iff.1 h1
  obtain ⟨z, hz⟩ := hex
  rw [hxl, hz, HXS.out] at hown2
  have hb3 : Below w.heap.size w w2 := HB1'.out.trans hb2
  have g2 : w2.cell? ⟨w.heap.size, l.length, none⟩ = some z := (hown2.cellAt l.length (by omega)).trans (by rw [List.getElem?_append_right (by rw [ints_length]; exact Nat.le_refl _), ints_length, Nat.sub_self]; rfl)
  have g3 := hown2.frozenAt l.length
  have hgl := (hown2.lt w.heap.size rfl).1
  have HO2 := Lib.hid hown2
  have HB2 := Lib.hid hb3
  have hix : (l.length : Int) < (l.length : Int) + 1 := by omega
  clear hown2 hb2 hb3 HO1 HB1' HXS HLC hne hone hxl hz hzl
  go_wp2_with fail
  have ho3 : (w2.setCell ⟨w.heap.size, l.length, none⟩ (.int .i64 1)).ownsRow w.heap.size 3 1 (.slice (some ⟨w.heap.size, 0, none⟩) (l.length + 1) (l.length + 1)) (l.length + 1) (ints (l ++ [1])) := by
    have := (HO2.out.stored l.length (.int .i64 1)).1
    have e : (ints l ++ [z]).set l.length (.int .i64 1) = ints (l ++ [1]) := by
      rw [List.set_append_right _ _ (by rw [ints_length]; exact Nat.le_refl _), ints_length, Nat.sub_self, ints_snoc]
      rfl
    rw [e] at this
    exact this
  have HO3 := Lib.hid ho3
  have HB3 : Hid (Below w.heap.size w (w2.setCell ⟨w.heap.size, l.length, none⟩ (.int .i64 1))) := HB2.out.setCell (p := ⟨w.heap.size, l.length, none⟩) hgl _
  clear ho3 g2 g3 HO2 HB2
  generalize w2.setCell ⟨w.heap.size, l.length, none⟩ (.int .i64 1) = w3 at *
  go_loopw [5] (fun iv w' => ∃ (i : Int) (M : List Int), -1 ≤ i ∧ i + 2 ≤ (l.length : Int) ∧ iv = .int .i64 i ∧ NumAt l S i M ∧ w'.ownsRow w.heap.size 3 1 (.slice (some ⟨w.heap.size, 0, none⟩) (l.length + 1) (l.length + 1)) (l.length + 1) (ints M) ∧ Below w.heap.size w w') (fun iv _ => (RowKit.intOf iv + 1).toNat)
  case atStart =>
    refine ⟨(l.length : Int) - 2, l ++ [1], by omega, by omega, rfl, ⟨by simp, fun j hj => ?_⟩, HO3.out, HB3.out⟩
    by_cases hjl : j < l.length
    · rw [List.getElem_append_left hjl]
      by_cases hc : (j : Int) ≤ (l.length : Int) - 2
      · rw [if_pos hc, List.getD_eq_getElem?_getD, List.getElem?_eq_getElem hjl]
        rfl
      · have : j = l.length - 1 := by omega
        subst this
        rw [if_neg hc]
        exact (HLA.out (by omega)).symm
    · have : j = l.length := by rw [List.length_append] at hj; simp at hj; omega
      subst this
      rw [if_neg (by omega), HEN.out]
      simp
  case round =>
    obtain ⟨i, M, hi1, hi2, rfl, hM, ho, hb⟩ := hrel
    obtain ⟨wq, rfl⟩ : ∃ y : World, y = wr := ⟨_, rfl⟩
    have HO := Lib.hid ho
    have HB := Lib.hid hb
    have HM := Lib.hid hM
    have hml := hM.1
    clear ho hb hM HO3 HB3
    by_cases hge : 0 ≤ i
    · obtain ⟨k, rfl⟩ : ∃ k : Nat, i = k := ⟨i.toNat, by omega⟩
      have hk2 : k + 2 ≤ l.length := by omega
      have m0 : M[k]'(by omega) = l[k]'(by omega) := by
        rw [HM.out.2 k (by omega), if_pos (by omega), List.getD_eq_getElem?_getD, List.getElem?_eq_getElem (by omega)]
        rfl
      have m1 : M[k + 1]'(by omega) = S (k + 1) := by rw [HM.out.2 (k + 1) (by omega), if_neg (by omega)]
      have m2 : M[k + 2]'(by omega) = S (k + 2) := by rw [HM.out.2 (k + 2) (by omega), if_neg (by omega)]
      have c0 : wq.cell? ⟨w.heap.size, k, none⟩ = some (.int .i64 (l[k]'(by omega))) := (HO.out.cellAt k (by omega)).trans (ints_get (by rw [List.getElem?_eq_getElem (by omega), m0]))
      have c1 : wq.cell? ⟨w.heap.size, k + 1, none⟩ = some (.int .i64 (S (k + 1))) := (HO.out.cellAt (k + 1) (by omega)).trans (ints_get (by rw [List.getElem?_eq_getElem (by omega), m1]))
      have c2 : wq.cell? ⟨w.heap.size, k + 2, none⟩ = some (.int .i64 (S (k + 2))) := (HO.out.cellAt (k + 2) (by omega)).trans (ints_get (by rw [List.getElem?_eq_getElem (by omega), m2]))
      have f0 := HO.out.frozenAt k
      have hgl2 := (HO.out.lt w.heap.size rfl).1
      have bx := HB1.out k (by omega)
      have by1 := HLO.out (k + 1)
      have bz := HLO.out (k + 2)
      have HS := Lib.hid (HST.out k hk2)
      have HNX : Hid (NumAt l S ((k : Int) - 1) (M.set k (S k))) := by
        refine ⟨by rw [List.length_set]; exact HM.out.1, fun j hj => ?_⟩
        by_cases hjk : j = k
        · subst hjk
          rw [List.getElem_set_self, if_neg (by omega)]
        · rw [List.getElem_set_ne (fun e => hjk e.symm), HM.out.2 j (by rw [List.length_set] at hj; exact hj)]
          by_cases hc : (j : Int) ≤ (k : Int)
          · rw [if_pos hc, if_pos (by omega)]
          · rw [if_neg hc, if_neg (by omega)]
      clear m0 m1 m2
      generalize l[k]'(by omega) = x at *
      generalize S (k + 1) = y at *
      generalize S (k + 2) = zz at *
      have mm1 := Int.mul_nonneg bx.1 by1.1
      have mm2 : x * y ≤ 1000 * y := Int.mul_le_mul_of_nonneg_right bx.2 by1.1
      obtain ⟨p, hp⟩ : ∃ p, p = x * y := ⟨_, rfl⟩
      rw [← hp] at mm1 mm2 HS
      have e1 : wrap64 (x * y) = p := by rw [← hp]; exact IntWalk.wrap64_in _ (by omega)
      have e2 : IntKind.i64.wrap (x * y) = p := by rw [← hp]; exact IntWalk.i64_in _ (by omega)
      have e3 : IntKind.i64.wrap (p + zz) = p + zz := IntWalk.i64_in _ (by omega)
      have e4 : IntKind.i64.wrap ((k : Int) + 1) = (k : Int) + 1 := IntWalk.i64_in _ (by omega)
      have e5 : IntKind.i64.wrap ((k : Int) + 2) = (k : Int) + 2 := IntWalk.i64_in _ (by omega)
      have i0 : (k : Int) < (l.length : Int) + 1 := by omega
      have i1 : (k : Int) + 1 < (l.length : Int) + 1 := by omega
      have i2 : (k : Int) + 2 < (l.length : Int) + 1 := by omega
      clear hp hi1 hge
      generalize S k = sk at HS HNX
      by_cases hmin : p + zz ≤ 1000000001
      · have HSV : Hid (sk = p + zz) := by show _ = _; rw [HS.out]; omega
        go_wp2_with fail
        go_region
        all_goals
          go_wp2_with fail
          go_roundw
          case rel =>
            refine ⟨(k : Int) - 1, M.set k sk, by omega, by omega, by first | rfl | go_num, HNX.out, ?_, ?_⟩
            · have := (HO.out.stored k (.int .i64 (p + zz))).1
              rw [ints_set, HSV.out]
              exact this
            · exact below_drewN (HB.out.setCell (p := ⟨w.heap.size, k, none⟩) hgl2 _) _
          case measure => first | (simp [RowKit.intOf]; done) | (simp [RowKit.intOf]; omega)
      · have HSV : Hid (sk = 1000000001) := by show _ = _; rw [HS.out]; omega
        go_wp2_with fail
        go_region
        all_goals
          go_wp2_with fail
          go_roundw
          case rel =>
            refine ⟨(k : Int) - 1, M.set k sk, by omega, by omega, by first | rfl | go_num, HNX.out, ?_, ?_⟩
            · have := (HO.out.stored k (.int .i64 1000000001)).1
              rw [ints_set, HSV.out]
              exact this
            · exact below_drewN (HB.out.setCell (p := ⟨w.heap.size, k, none⟩) hgl2 _) _
          case measure => first | (simp [RowKit.intOf]; done) | (simp [RowKit.intOf]; omega)
    · have HE : Hid (M = R) := by
        show _ = _
        apply List.ext_getElem (by rw [hml, hlen.out])
        intro j h1 h2
        rw [HM.out.2 j h1, HAT.out j h2, if_neg (by omega)]
      clear hi1 hi2
      go_wp2_with fail
      go_ret
      exact ⟨_, rfl, by rw [← HE.out]; exact HO.out, HB.out⟩
end Go.Proofs.Ytjmijedfmiplfaa

/- Chapter 13 of the model: ConvergentsOf. No condition. -/
namespace Go.Proofs.Ytjmijedfmiplfaa
open Go.RowKit Go.Lib

theorem row_xy (w : World) (B : Nat) (hB : B ≤ w.heap.size) (x y : Int) : (w.alloc (.cells #[.int .i64 x, .int .i64 y] 3)).ownsRow B 3 1 (.slice (some ⟨w.heap.size, 0, none⟩) 2 2) 2 (ints [x, y]) :=
  World.ownsRow_lit w #[.int .i64 x, .int .i64 y] 2 hB (by decide) rfl
theorem lst_upto {w : World} {b off cap : Nat} {l : List Int} (hc1 : l.length ≤ cap) (hc2 : cap ≤ maxLen) (h : ∀ (i : Nat) u, (ints l)[i]? = some u → w.cell? ⟨b, off + i, none⟩ = some u) (k : Nat) (hk : k ≤ l.length) : Lst w (.slice (some ⟨b, off, none⟩) k cap) (ints (l.take k)) := by
  have hl : (ints (l.take k)).length = k := by rw [ints_length, List.length_take]; omega
  refine ⟨some ⟨b, off, none⟩, cap, by rw [hl], by rw [hl]; omega, hc2, .inr ⟨b, off, rfl, fun i u hu => h i u ?_⟩⟩
  have hi : i < k := by
    have := (List.getElem?_eq_some_iff.1 hu).1
    omega
  have e : ints (l.take k) = (ints l).take k := by unfold ints; rw [List.map_take]
  rw [e, List.getElem?_take, if_pos hi] at hu
  exact hu

theorem cvR_few (l : List Int) : (cvR l).length ≤ 20 := by
  unfold cvR
  split
  next h =>
    have hq : qtB l = true := by
      refine Classical.byContradiction fun hn => ?_
      have e : frO l = none := if_neg hn
      unfold frOk at h
      rw [e] at h
      cases h
    have := qt_len hq
    rw [List.length_map, List.length_range]
    omega
  · exact Nat.zero_le _
theorem cvR_sum (l : List Int) : sumN ((cvR l).map List.length) ≤ 40 := by
  have h1 := cvR_few l
  have h2 := sum_rect (m := cvR l) (c := 2) (fun x hx => by
    unfold cvR at hx
    split at hx
    · obtain ⟨i, _, rfl⟩ := List.mem_map.1 hx
      exact Nat.le_refl 2
    · cases hx)
  omega

set_option maxRecDepth 100000 in
set_option maxHeartbeats 1000000 in
theorem specConvergentsOf (l : List Int) (v : Value) (w : World) (h : Lst w v (ints l)) :
    Calls Try.prog 20 #[v] w fun e w' => ∃ v, e = .returned v ∧ OwnMat w' w.heap.size w'.heap.size v (cvR l) ∧ Below w.heap.size w w' := by
  have HF := Lib.hid (fun w' (hb : Below w.heap.size w w') => specFractionOfQ l v w' (h.below hb))
  cases hok : frOk l
  · have HV : Hid (cvR l = []) := if_neg (by rw [hok]; decide)
    rw [hok] at HF
    obtain ⟨A, c, rfl, hc1, hc2, h1⟩ := h
    rw [ints_length] at HF ⊢
    clear hok h1
    go_enter Try.func20, Try.ntmps20
    go_wp2_with fail
    refine (HF.out _ (Below.refl _ _)).mono ?_
    rintro e w' ⟨rfl, rfl⟩
    go_wp2_with fail
    go_ret
    exact ⟨_, rfl, by rw [HV.out]; exact OwnMat.nil _ _ _, Below.refl _ _⟩
  have HV : Hid (cvR l = (List.range l.length).map (cvOf l)) := if_pos hok
  rw [hok] at HF
  have hq : qtB l = true := by
    refine Classical.byContradiction fun hn => ?_
    have : frO l = none := if_neg hn
    unfold frOk at hok
    rw [this] at hok
    cases hok
  obtain ⟨hl1, hl2⟩ := qt_len hq
  obtain ⟨A, c, rfl, hc1, hc2, h1⟩ := h
  rw [ints_length] at hc1 HF ⊢
  have hl : l ≠ [] := fun e => by subst e; simp at hl1
  obtain ⟨b, off, rfl, h2⟩ := h1.resolve_left (by simp [ints, hl])
  have hbw : b < w.heap.size := World.block_lt_of_cell? w _ (ints_at h2 0 (by omega))
  have HT : Hid (∀ k (w' : World), k ≤ l.length → Below w.heap.size w w' → Calls Try.prog 17 #[.slice (some ⟨b, off, none⟩) k c] w' fun e w'' => e = .returned (.tuple #[.int .i64 (frA (l.take k)), .int .i64 (frB (l.take k)), .bool (frOk (l.take k))]) ∧ w' = w'') := fun k w' hk hb =>
    specFractionOfQ (l.take k) _ w' (lst_upto hc1 hc2 (fun i u hu => (hb.cell (p := ⟨b, off + i, none⟩) hbw).trans (h2 i u hu)) k hk)
  unfold maxLen at hc2
  obtain ⟨i1, hj0, hy0, hy1, hy2⟩ := info_parts ints_info
  obtain ⟨E, hE⟩ : ∃ E, E = (List.range l.length).map (cvOf l) := ⟨_, rfl⟩
  rw [← hE] at HV
  have HEL : Hid (E.length = l.length) := by show _ = _; rw [hE]; simp
  have HEA : Hid (∀ k (hk : k < E.length), E[k] = [frA (l.take (k + 1)), frB (l.take (k + 1))]) := fun k hk => by
    subst hE
    simp [cvOf]
  have HSU := Lib.hid (fun k (hk : k ≤ l.length) => slice_upto (P := Try.prog) (t := 22) (e := 3) Try.underlying22 sizeOf_int b off l.length c k hk hc1)
  clear hok hq h1 h2 hl hE
  go_enter Try.func20, Try.ntmps20
  go_wp2_with fail
  refine (HF.out _ (Below.refl _ _)).mono ?_
  rintro e w' ⟨rfl, rfl⟩
  go_wp2_with fail
  go_loopw [6, 22] (fun o iv w' => ∃ us : List Value, us.length ≤ l.length ∧ iv = .int .i64 (us.length : Int) ∧ GrowMat w' w.heap.size o us E ∧ Below w.heap.size w w') (fun _ iv _ => l.length - (RowKit.intOf iv).toNat)
  case atStart =>
    refine ⟨[], by simp, rfl, ?_, (Below.refl _ _).alloc (Nat.le_refl _) _⟩
    exact ⟨own_made0 _ _ _ (Nat.le_refl _), ⟨by simp, fun i h => absurd h (by simp), fun i j h => absurd h (by simp)⟩⟩
  case round =>
    obtain ⟨us, hus, rfl, hgm, hb⟩ := hrel
    obtain ⟨wo, rfl⟩ : ∃ x : World, x = wr := ⟨_, rfl⟩
    obtain ⟨Ao, cpo, rfl⟩ := own_slice hgm.1
    have HGM := Lib.hid hgm
    have HGU := Lib.hid hgm.1
    have HB := Lib.hid hb
    have hszw := hb.size
    clear hgm hb
    by_cases hlt : us.length < l.length
    · have hlt' : (us.length : Int) < (l.length : Int) := by omega
      obtain ⟨X, hX, hX2⟩ := HSU.out (us.length + 1) (by omega)
      subst hX2
      rw [show ((us.length + 1 : Nat) : Int) = (us.length : Int) + 1 from rfl] at hX
      have HTK := Lib.hid (fun w' hb => HT.out (us.length + 1) w' (by omega) hb)
      have hel : us.length < E.length := by rw [HEL.out]; exact hlt
      have HEK := Lib.hid (HEA.out us.length hel)
      generalize frA (l.take (us.length + 1)) = x at *
      generalize frB (l.take (us.length + 1)) = y at *
      generalize frOk (l.take (us.length + 1)) = z at *
      go_wp2_with fail
      refine (HTK.out _ HB.out).mono ?_
      rintro e w2 ⟨rfl, rfl⟩
      have HRT := Lib.hid (row_xy wo wo.heap.size (Nat.le_refl _) x y)
      go_wp2_with (at_builtin
                   refine wpList_append1g (wo.alloc (.cells #[.int .i64 x, .int .i64 y] 3)) rfl (.tmp 34) (.tmp 38) _ rfl w.heap.size 22 i1 _ 24 Try.underlying31 hj0 hy0 hy1 hy2 rfl (.slice Ao us.length cpo) us.length us rfl (HGU.out.alloc _) (.slice (some ⟨wo.heap.size, 0, none⟩) 2 2) rfl (by simp [Act.eval]) (by unfold maxLen; omega) (by omega) (by simp; omega) ?_
                   intro v3 w3 hown3 hgr3
                   obtain ⟨A3, cp3, rfl⟩ := own_slice hown3
                   have HOc := Lib.hid hown3
                   have HGc := Lib.hid hgr3
                   clear hown3 hgr3)
      go_roundw
      case rel =>
        refine ⟨us ++ [.slice (some ⟨wo.heap.size, 0, none⟩) 2 2], by simp; omega, by simp, ?_, ?_⟩
        · refine GrowMat.snoc (w1 := wo.alloc (.cells #[.int .i64 x, .int .i64 y] 3)) HGM.out ((Below.refl _ _).alloc (Nat.le_refl _) _) hszw hel ?_ HOc.out HGc.out
          rw [HEK.out]
          exact HRT.out
        · exact (HB.out.alloc hszw _).grown HGc.out (by simp; omega) (fun x hx => (HGU.out.lt x hx).1)
      case measure => simp [RowKit.intOf]; omega
    · have hkl : us.length = E.length := by have := HEL.out; omega
      have hlt' : ¬ (us.length : Int) < (l.length : Int) := by omega
      have HOM : Hid (OwnMat wo w.heap.size wo.heap.size (.slice Ao us.length cpo) E) := HGM.out.own hkl
      clear hkl
      go_wp2_with fail
      go_ret
      exact ⟨_, rfl, by rw [HV.out]; exact HOM.out, HB.out⟩
end Go.Proofs.Ytjmijedfmiplfaa

/- The program's FractionOf, ConvergentsOf. Condition: a list that lies somewhere. -/
namespace Go.Proofs.Ytjmijedfmiplfaa
open Go.RowKit

theorem few_quots {l : List Int} : fewB l 20 1000 = qtB l := by
  rw [Bool.eq_iff_iff, few_iff, qt_quots]
  constructor
  · rintro ⟨⟨a, b⟩, c⟩; exact ⟨⟨a, by omega⟩, c⟩
  · rintro ⟨⟨a, b⟩, c⟩; exact ⟨⟨a, by omega⟩, c⟩

set_option maxRecDepth 100000 in
set_option maxHeartbeats 1000000 in
theorem implFractionOf (l : List Int) (v : Value) (w : World) (h : Lst w v (ints l)) :
    Calls Try.prog 19 #[v] w fun e w' => e = .returned (.tuple #[.int .i64 (frA l), .int .i64 (frB l), .bool (frOk l)]) ∧ Below w.heap.size w w' := by
  have HARE := Lib.hid (implAre l 20 1000 v w h)
  rw [few_quots] at HARE
  obtain ⟨A, c, hv⟩ := lst_slice h
  rw [ints_length] at hv
  subst hv
  cases hq : qtB l
  · have hO : frO l = none := if_neg (by rw [hq]; decide)
    have HA : Hid (frA l = 0) := by show _ = _; unfold frA; rw [hO]
    have HB : Hid (frB l = 0) := by show _ = _; unfold frB; rw [hO]
    have HK : Hid (frOk l = false) := by show _ = _; unfold frOk; rw [hO]; rfl
    rw [hq] at HARE
    clear hq hO h
    generalize frA l = ra at *
    generalize frB l = rb at *
    generalize frOk l = rk at *
    go_enter Try.func19, Try.ntmps19
    go_wp2_with fail
    refine HARE.out.mono ?_
    rintro e w' ⟨rfl, rfl⟩
    go_wp2_with fail
    go_ret3
    exact ⟨by rw [HA.out, HB.out, HK.out]; rfl, Below.refl _ _⟩
  rw [hq] at HARE
  have hQ := qt_quots.1 hq
  have HN := Lib.hid (implNumeratorsOf l _ w h hQ)
  have hs := nu_says hQ
  have HY := Lib.hid hs.1
  have HX := Lib.hid hs.2
  have hlen := nuL_len l
  have HAT := Lib.hid (nuL_at l)
  have hl1 := hQ.1.1
  have hl2 := hQ.1.2
  have hr1 : 2 ≤ (nuL l).length := by omega
  have hr2 : (nuL l).length ≤ 21 := by omega
  have HLN := Lib.hid hlen
  clear hq hQ hs h hlen
  generalize nuL l = R at *
  generalize nuS l = S at *
  generalize frA l = ra at *
  generalize frB l = rb at *
  generalize frOk l = rk at *
  go_enter Try.func19, Try.ntmps19
  go_wp2_with fail
  refine HARE.out.mono ?_
  rintro e w' ⟨rfl, rfl⟩
  go_wp2_with fail
  refine HN.out.mono ?_
  rintro e w1 ⟨v1, rfl, ho, hb⟩
  have ho' : w1.ownsRow w.heap.size 3 1 v1 R.length (ints R) := by rw [HLN.out]; exact ho
  obtain ⟨A1, c1, rfl⟩ := own_slice ho'
  have HO := Lib.hid ho'
  have HB := Lib.hid hb
  have HC := Lib.hid (implContainsInts w.heap.size _ R 1000000001 w1 ho' (by omega))
  clear ho ho' hb HARE HN
  by_cases hin : (1000000001 : Int) ∈ R
  · obtain ⟨n1, n2, n3⟩ := HY.out hin
    have HN1 := Lib.hid n1
    have HN2 := Lib.hid n2
    have HN3 := Lib.hid n3
    rw [decide_eq_true hin] at HC
    clear n1 n2 n3 hin
    go_wp2_with fail
    refine HC.out.mono ?_
    rintro e w' ⟨rfl, rfl⟩
    go_wp2_with fail
    go_ret3
    exact ⟨by rw [HN1.out, HN2.out, HN3.out]; rfl, HB.out⟩
  · obtain ⟨n1, n2, n3⟩ := HX.out hin
    have HN1 := Lib.hid n1
    have HN2 := Lib.hid n2
    have HN3 := Lib.hid n3
    rw [decide_eq_false hin] at HC
    obtain ⟨g, cp, he, _⟩ := own_some HO.out (by omega)
    injection he with he hz he2
    clear hz
    subst he; subst he2
    have c0 : w1.cell? ⟨g, 0, none⟩ = some (.int .i64 (S 0)) := (HO.out.cellAt 0 (by omega)).trans (ints_get (by rw [List.getElem?_eq_getElem (by omega), HAT.out 0 (by omega)]))
    have c1 : w1.cell? ⟨g, 1, none⟩ = some (.int .i64 (S 1)) := (HO.out.cellAt 1 (by omega)).trans (ints_get (by rw [List.getElem?_eq_getElem (by omega), HAT.out 1 (by omega)]))
    have i0 : (0 : Int) < (R.length : Int) := by omega
    have i1 : (1 : Int) < (R.length : Int) := by omega
    generalize S 0 = x0 at *
    generalize S 1 = x1 at *
    clear n1 n2 n3 hin
    go_wp2_with fail
    refine HC.out.mono ?_
    rintro e w' ⟨rfl, rfl⟩
    go_wp2_with fail
    go_quiet (fail)
    go_wp2_with fail
    go_ret3
    exact ⟨by rw [HN1.out, HN2.out, HN3.out]; rfl, below_drewN HB.out _⟩

theorem slice_exact {P : Program} {t e : TypeId} (ht : P.underlying t = some (.slice e)) (hz : ∀ w, (sizeOf (P.elem t)).run P w = .ok 1 w) (b off n cap k : Nat) (hk : k ≤ n) (hn : n ≤ cap) : ∃ X, (∀ w, (Instr.slice t (.slice (some ⟨b, off, none⟩) n cap) none (some (.int .i64 (k : Int))) (some (.int .i64 (k : Int)))).run P w = .ok (.slice (some X) k k) w) ∧ (k ≠ 0 → X = ⟨b, off, none⟩) := by
  have ht' : P.underlying t = some (.slice (P.elem t)) := by
    have : P.elem t = e := by simp [Program.elem, ht]
    rw [this]; exact ht
  refine ⟨if k = 0 then (⟨b, off, none⟩ : Addr) else ⟨b, off, none⟩, fun w => ?_, fun _ => by split <;> rfl⟩
  rw [run_slice_hm (P := P) w t _ _ _ ht' .i64 .i64 k k (by omega) (by omega) (by omega), hz w]
  simp only [Result.andThen, sliced, Int.toNat_natCast]
  by_cases hc : k = 0
  · subst hc; simp
  · simp [Addr.add, hc]

theorem row_2 (w : World) (B : Nat) (hB : B ≤ w.heap.size) (a b : Int) : (w.alloc (.cells #[.int .i64 a, .int .i64 b] 3)).ownsRow B 3 1 (.slice (some ⟨w.heap.size, 0, none⟩) 2 2) 2 (ints [a, b]) :=
  World.ownsRow_lit w _ 2 hB (by unfold maxLen; omega) rfl

set_option maxRecDepth 100000 in
set_option maxHeartbeats 2000000 in
theorem implConvergentsOf (l : List Int) (v : Value) (w : World) (h : Lst w v (ints l)) :
    Calls Try.prog 21 #[v] w fun e w' => ∃ v, e = .returned v ∧ OwnMat w' w.heap.size w'.heap.size v (cvR l) ∧ Below w.heap.size w w' := by
  have HF := Lib.hid (implFractionOf l v w h)
  cases hok : frOk l
  · have HV : Hid (cvR l = []) := if_neg (by rw [hok]; decide)
    rw [hok] at HF
    obtain ⟨A, c, rfl, hc1, hc2, h1⟩ := h
    rw [ints_length] at HF ⊢
    clear hok h1
    go_enter Try.func21, Try.ntmps21
    go_wp2_with fail
    refine HF.out.mono ?_
    rintro e w' ⟨rfl, hb⟩
    have HB := Lib.hid hb
    clear hb
    go_wp2_with fail
    go_ret
    exact ⟨_, rfl, by rw [HV.out]; exact OwnMat.nil _ _ _, HB.out⟩
  have HV : Hid (cvR l = (List.range l.length).map (cvOf l)) := if_pos hok
  rw [hok] at HF
  have hq : qtB l = true := by
    refine Classical.byContradiction fun hn => ?_
    have : frO l = none := if_neg hn
    unfold frOk at hok
    rw [this] at hok
    cases hok
  obtain ⟨hl1, hl2⟩ := qt_len hq
  obtain ⟨A, c, rfl, hc1, hc2, h1⟩ := h
  rw [ints_length] at hc1 HF ⊢
  have hl : l ≠ [] := fun e => by subst e; simp at hl1
  obtain ⟨b, off, rfl, h2⟩ := h1.resolve_left (by simp [ints, hl])
  have hbw : b < w.heap.size := World.block_lt_of_cell? w _ (ints_at h2 0 (by omega))
  have HT : Hid (∀ k (w' : World), k ≤ l.length → Below w.heap.size w w' → Calls Try.prog 19 #[.slice (some ⟨b, off, none⟩) k k] w' fun e w'' => e = .returned (.tuple #[.int .i64 (frA (l.take k)), .int .i64 (frB (l.take k)), .bool (frOk (l.take k))]) ∧ Below w'.heap.size w' w'') := fun k w' hk hb => by
    have hlst := lst_upto hc1 hc2 (fun i u hu => (hb.cell (p := ⟨b, off + i, none⟩) hbw).trans (h2 i u hu)) k hk
    obtain ⟨A', c', e', g1, g2, g3⟩ := hlst
    refine implFractionOf (l.take k) _ w' ⟨some ⟨b, off, none⟩, k, ?_, ?_, ?_, ?_⟩
    · rw [ints_length, List.length_take, Nat.min_eq_left hk]
    · rw [ints_length, List.length_take]; omega
    · unfold maxLen; omega
    · refine g3.imp id ?_
      rintro ⟨b', o', e2, g4⟩
      refine ⟨b, off, rfl, ?_⟩
      subst e2
      injection e' with e3 _ _
      injection e3 with e3
      injection e3 with e3 e4
      subst e3
      subst e4
      exact g4
  unfold maxLen at hc2
  obtain ⟨i1, hi0, hz0, hz1, hz2⟩ := info_parts ints_info
  obtain ⟨E, hE⟩ : ∃ E, E = (List.range l.length).map (cvOf l) := ⟨_, rfl⟩
  rw [← hE] at HV
  have HEL : Hid (E.length = l.length) := by show _ = _; rw [hE]; simp
  have HEA : Hid (∀ k (hk : k < E.length), E[k] = [frA (l.take (k + 1)), frB (l.take (k + 1))]) := fun k hk => by
    subst hE
    simp [cvOf]
  have HSU := Lib.hid (fun k (hk : k ≤ l.length) => slice_exact (P := Try.prog) (t := 22) (e := 3) Try.underlying22 sizeOf_int b off l.length c k hk hc1)
  clear hok hq h1 h2 hl hE
  go_enter Try.func21, Try.ntmps21
  go_wp2_with fail
  refine HF.out.mono ?_
  rintro e w5 ⟨rfl, hb⟩
  have HB5 := Lib.hid hb
  clear hb HF
  go_wp2_with (at_make; refine wpList_make_full _ rfl _ _ 31 rfl w5.heap.size 22 i1 (.slice none 0 0) 1 Try.underlying31 hi0 hz0 hz1 .i64 .i64 _ _ l.length rfl rfl rfl rfl (by rw [hz2]; omega) (by unfold maxLen; omega) (Nat.le_refl _) ?_; intro w6 hown hgrow)
  have hb6 : Below w5.heap.size w5 w6 := (Below.refl _ _).grown hgrow (Nat.le_refl _) (fun k hk => by cases hk)
  have HD : Hid (((madeCells (Value.slice none 0 0).cells (l.length * 1)).toList).length = l.length) := by
    have := hown.1
    unfold Hid
    omega
  generalize (madeCells (Value.slice none 0 0).cells (l.length * 1)).toList = zs at hown HD
  have hz6 : w5.heap.size + 1 ≤ w6.heap.size := by have := (hown.lt w5.heap.size rfl).2; omega
  have HOWN := Lib.hid hown
  have HB6 := Lib.hid hb6
  clear hown hgrow hb6
  go_loopw [25] (fun i w' => ∃ (us : List Value), us.length ≤ l.length ∧ i = .int .i64 us.length ∧ w'.ownsRow w5.heap.size 22 1 (.slice (some ⟨w5.heap.size, 0, none⟩) l.length l.length) l.length (us ++ zs.drop us.length) ∧ RowsTo w' (w5.heap.size + 1) us E ∧ Below w5.heap.size w5 w' ∧ w5.heap.size + 1 ≤ w'.heap.size) (fun i _ => l.length - (RowKit.intOf i).toNat)
  case atStart => exact ⟨[], by simp, rfl, by simpa using HOWN.out, ⟨by simp, fun i h => absurd h (by simp), fun i j h => absurd h (by simp)⟩, HB6.out, hz6⟩
  case round =>
    obtain ⟨us, hk, rfl, ho, hrw, hbk, hzk⟩ := hrel
    obtain ⟨wq, rfl⟩ : ∃ y : World, y = wr := ⟨_, rfl⟩
    have HO := Lib.hid ho
    have HW := Lib.hid hrw
    have HB := Lib.hid hbk
    clear ho hrw hbk
    by_cases hlt : us.length < l.length
    · have hlt' : (us.length : Int) < (l.length : Int) := by omega
      have hel : us.length < E.length := by rw [HEL.out]; exact hlt
      have HEQ := Lib.hid (HEA.out us.length hel)
      obtain ⟨X, hX, hX2⟩ := HSU.out (us.length + 1) (by omega)
      have hX3 := hX2 (by omega)
      subst hX3
      rw [show ((us.length + 1 : Nat) : Int) = (us.length : Int) + 1 from rfl] at hX
      have HTK := Lib.hid (HT.out (us.length + 1) wq (by omega) (HB5.out.trans (HB.out.mono HB5.out.size)))
      generalize frA (l.take (us.length + 1)) = x at *
      generalize frB (l.take (us.length + 1)) = y at *
      generalize frOk (l.take (us.length + 1)) = z at *
      clear hX2
      go_wp2_with fail
      refine HTK.out.mono ?_
      rintro e w7 ⟨rfl, hb⟩
      have HO7 := Lib.hid (own_below HO.out hb)
      have HW7 : Hid (RowsTo w7 (w5.heap.size + 1) us E) := ⟨HW.out.1, fun i h1 h2 => own_below (HW.out.2.1 i h1 h2) hb, HW.out.2.2⟩
      have HB7 : Hid (Below w5.heap.size w5 w7) := HB.out.trans (hb.mono HB.out.size)
      have hz7 : w5.heap.size + 1 ≤ w7.heap.size := by have := hb.size; omega
      clear hb HO HW HB HTK
      have HRT := Lib.hid (row_2 w7 w7.heap.size (Nat.le_refl _) x y)
      obtain ⟨u0, hu0⟩ : ∃ u0, (us ++ zs.drop us.length)[us.length]? = some u0 := ⟨(us ++ zs.drop us.length)[us.length]'(by rw [List.length_append, List.length_drop, HD.out]; omega), List.getElem?_eq_getElem _⟩
      have c0 : (w7.alloc (.cells #[.int .i64 x, .int .i64 y] 3)).cell? ⟨w5.heap.size, us.length, none⟩ = some u0 := (((Below.refl _ _).alloc (Nat.le_refl w7.heap.size) _).cell (p := ⟨w5.heap.size, us.length, none⟩) (by simp; omega)).trans ((HO7.out.cellAt us.length (by omega)).trans hu0)
      have f0 : (w7.alloc (.cells #[.int .i64 x, .int .i64 y] 3)).frozen? ⟨w5.heap.size, us.length, none⟩ = false := (((Below.refl _ _).alloc (Nat.le_refl w7.heap.size) _).frozen (p := ⟨w5.heap.size, us.length, none⟩) (by simp; omega)).trans (HO7.out.frozenAt us.length)
      clear hu0
      go_wp2_with fail
      go_roundw
      case rel =>
        have hset : (us ++ zs.drop us.length).set us.length (.slice (some ⟨w7.heap.size, 0, none⟩) 2 2) = (us ++ [.slice (some ⟨w7.heap.size, 0, none⟩) 2 2]) ++ zs.drop (us.length + 1) := by
          have hd : zs.drop us.length = zs[us.length]'(by rw [HD.out]; exact hlt) :: zs.drop (us.length + 1) := List.drop_eq_getElem_cons _
          rw [hd, List.set_append_right _ _ (Nat.le_refl _), Nat.sub_self, List.set_cons_zero, List.append_assoc]
          rfl
        have hbl : Below w7.heap.size w7 (w7.alloc (.cells #[.int .i64 x, .int .i64 y] 3)) := (Below.refl _ _).alloc (Nat.le_refl _) _
        refine ⟨us ++ [.slice (some ⟨w7.heap.size, 0, none⟩) 2 2], by simp; omega, by simp, ?_, ?_, ?_, ?_⟩
        · have := ((own_below HO7.out hbl).stored us.length (.slice (some ⟨w7.heap.size, 0, none⟩) 2 2)).1
          rw [hset] at this
          simpa using this
        · refine (HW7.out.snoc hbl hz7 hel ?_).setCell (by simp) _
          rw [HEQ.out]
          exact HRT.out
        · exact (HB7.out.trans (hbl.mono (by omega))).setCell (by simp) _
        · simp; omega
      case measure => simp [RowKit.intOf]; omega
    · have hlt' : ¬ (us.length : Int) < (l.length : Int) := by omega
      have hkl : us.length = E.length := by have := HEL.out; omega
      have HKL := Lib.hid hkl
      have hkm : us.length = l.length := by omega
      have HKM := Lib.hid hkm
      clear hkl hkm
      go_wp2_with fail
      go_ret
      refine ⟨_, rfl, ?_, HB5.out.trans (HB.out.mono HB5.out.size)⟩
      rw [HV.out]
      refine OwnMat.mono ?_ HB5.out.size
      refine ⟨22, us, HKL.out, ?_, fun i a b => ⟨3, own_mono (HW.out.2.1 i a b) (by omega)⟩, HW.out.2.2, fun i a k e => ⟨fun h => ?_, ((HW.out.2.1 i a (by rw [← HKL.out]; exact a)).lt k e).2⟩, fun k e => (HO.out.lt k e).2⟩
      · have := HO.out
        rw [HKM.out, List.drop_of_length_le (by rw [HD.out]; exact Nat.le_refl _), List.append_nil] at this
        rw [HEL.out]
        exact this
      · have h1 := ((HW.out.2.1 i a (by rw [← HKL.out]; exact a)).lt k e).1
        have h2 : w5.heap.size = k := by simpa [Value.ownBlock] using h
        omega
end Go.Proofs.Ytjmijedfmiplfaa
