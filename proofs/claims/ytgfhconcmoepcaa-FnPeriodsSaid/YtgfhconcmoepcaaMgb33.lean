/- Texts put together. -/
import Derived.Test.YtgfhconcmoepcaaMgb1
import Derived.Test.YtgfhconcmoepcaaMgb17
import Derived.Test.YtgfhconcmoepcaaMgb18
import Derived.Test.YtgfhconcmoepcaaMgb19
import Derived.Test.YtgfhconcmoepcaaMgb20
import Derived.Test.YtgfhconcmoepcaaMgb26
import Derived.Test.YtgfhconcmoepcaaMgb27
import Derived.Test.YtgfhconcmoepcaaMgb28
import Derived.Test.YtgfhconcmoepcaaMgb29
import Derived.Test.YtgfhconcmoepcaaMgb31
import Derived.Test.YtgfhconcmoepcaaMgb32
import Derived.Laws.Cover1
import Derived.Deep.DeepCutAuto
import Derived.Deep.RegionHeld3
import Derived.Deep.RegionWith
import Derived.Deep.CutBlock
import Derived.Deep.LoopGhost
import Derived.Deep.QuietTactic
import Derived.BigQuiet
/- The walk of FnPeriods. -/
namespace Go.Proofs.Ytgfhconcmoepcaa
open Go.ChangeShapes Go.WideShapes Go.ChangeAt Go.RowKit

theorem lsti_at {w : World} {v : Value} {l : List Int} (h : Lst w v (ints l)) (h1 : 0 < l.length) : ∃ b off cp, v = .slice (some ⟨b, off, none⟩) l.length cp ∧ ∀ q (hq : q < l.length), w.cell? ⟨b, off + q, none⟩ = some (.int .i64 l[q]) := by
  obtain ⟨A, cap, rfl, _, _, h3⟩ := h
  rcases h3 with h3 | ⟨b, off, rfl, h3⟩
  · have := congrArg List.length h3
    rw [ints_length, List.length_nil] at this
    omega
  · exact ⟨b, off, cap, by rw [ints_length], fun q hq => ints_at h3 q hq⟩
theorem lsts_at {w : World} {v : Value} {l : List ByteArray} (h : Lst w v (strs l)) (h1 : 0 < l.length) : ∃ b off cp, v = .slice (some ⟨b, off, none⟩) l.length cp ∧ ∀ q (hq : q < l.length), w.cell? ⟨b, off + q, none⟩ = some (.string l[q]) := by
  obtain ⟨A, cap, rfl, _, _, h3⟩ := h
  rcases h3 with h3 | ⟨b, off, rfl, h3⟩
  · have := congrArg List.length h3
    rw [strs_length, List.length_nil] at this
    omega
  · exact ⟨b, off, cap, by rw [strs_length], fun q hq => strs_at h3 q hq⟩
/-- what the list of borders and the list of periods say of each other -/
def PerPair (s : ByteArray) (L Q : List Int) : Prop :=
  (1 ≤ s.size → Q.length = L.length + 1 ∧ ∃ h0 : 0 < Q.length, perR s = Q[0]) ∧ (s.size = 0 → Q.length = 0) ∧ L.length ≤ 400 ∧ (∀ q ∈ L, 1 ≤ q ∧ q ≤ 400) ∧ (∀ i (hi : i < Q.length), 1 ≤ Q[i] ∧ Q[i] ≤ 400) ∧
  (∀ i (hi : i < Q.length) (hb : i < L.length), Q[i] + L[L.length - 1 - i] = (s.size : Int)) ∧ (∀ i (hi : i < Q.length), i = L.length → Q[i] = (s.size : Int)) ∧ (∀ i j (_ : i < j) (hj : j < Q.length), Q[i] < Q[j]) ∧ (∀ i j (hi : i < Q.length) (hj : j < Q.length), afR s Q[i] Q[j] = true)
theorem per_pair {s : ByteArray} (hw : wordB s = true) : PerPair s (boR s) (peR s) := by
  have h4 := word_size hw
  obtain ⟨a, b⟩ := py_len hw
  refine ⟨fun h => ⟨a h, py_least hw h⟩, b, boR_le s, fun q hq => ?_, fun i hi => ?_, fun i hi hb => ?_, fun i hi he => ?_, fun i j hij hj => py_up hw hij hj, fun i j hi hj => py_fine hw hi hj⟩
  · have e1 : boR s = boTo s (s.size - 1) := if_pos hw
    rw [e1] at hq
    obtain ⟨n, rfl, h1, h2, _⟩ := (boTo_mem s q (s.size - 1)).1 hq
    omega
  · obtain ⟨p, e1, a1, a2, _⟩ := py_is hw hi
    rw [e1]
    omega
  · have h1 : 1 ≤ s.size := by
      rcases Nat.eq_zero_or_pos s.size with e | e
      · have := b e; omega
      · exact e
    exact (py_at hw h1 hi).1 hb
  · have h1 : 1 ≤ s.size := by
      rcases Nat.eq_zero_or_pos s.size with e | e
      · have := b e; omega
      · exact e
    exact (py_at hw h1 hi).2 he

/-- what root and exponent say of each other -/
def RtPair (s r : ByteArray) (K : Nat) : Prop :=
  K ≤ 14 ∧ timesB r K = s ∧ prmR s = ((K : Int) == 1) ∧ r.size ≤ 1048576 ∧ (1 ≤ s.size → 1 ≤ K ∧ prmR r = true) ∧ (1 ≤ s.size → (rtN s = s.size ↔ K = 1))
theorem rt_pair {s : ByteArray} (hw : wordB s = true) (h14 : s.size ≤ 14) : ∃ K : Nat, rtK s = K ∧ RtPair s (rtR s) K := by
  by_cases h : 1 ≤ s.size
  · obtain ⟨k, e, h1, h2, h3, h4, h5⟩ := py_root hw h
    have hr : (rtR s).size ≤ 1048576 := by
      unfold rtR
      split
      · rw [ByteArray.size_extract]; omega
      · exact Nat.zero_le _
    exact ⟨k, e, by omega, h3, by rw [prm_eq, e], hr, fun _ => ⟨h1, h4⟩, fun _ => h5⟩
  · have hk : rtOk s = false := by unfold rtOk; rw [decide_eq_false h, Bool.and_false]
    have h1 : rtR s = ⟨#[]⟩ := if_neg (by rw [hk]; decide)
    have h2 : rtK s = 0 := if_neg (by rw [hk]; decide)
    have h3 : s = ⟨#[]⟩ := ByteArray.ext (Array.eq_empty_of_size_eq_zero (by show s.size = 0; omega))
    refine ⟨0, h2, by omega, ?_, by rw [prm_eq, h2]; rfl, by rw [h1]; exact Nat.zero_le _, fun h' => absurd h' h, fun h' => absurd h' h⟩
    rw [h3]; rfl
theorem flat_snoc : ∀ (l : List ByteArray) (x : ByteArray), flatB (l ++ [x]) = flatB l ++ x
  | [], x => by show x ++ ByteArray.empty = ByteArray.empty ++ x; rw [ByteArray.append_empty, ByteArray.empty_append]
  | y :: l, x => by show y ++ flatB (l ++ [x]) = (y ++ flatB l) ++ x; rw [flat_snoc l x, ByteArray.append_assoc]

noncomputable def okL (m : Nat) (x : ByteArray) : Bool := decide (x.size = m) && lyR x
theorem lvl_word : ∀ L ∈ [1, 2, 3], ∀ m ∈ [1, 2, 3, 4], ((allW L m).all fun x => wordB (ba x)) = true := by decide +kernel
theorem mkTo_small (k : Nat) : ∀ n, ∀ x ∈ mkTo k n, x.size ≤ n
  | 0, x, h => Nat.le_of_eq (lvl_size k 0 x h)
  | n + 1, x, h => by
    rcases List.mem_append.1 h with h | h
    · have := mkTo_small k n x h; omega
    · exact Nat.le_of_eq (lvl_size k (n + 1) x h)
theorem mkTo_count {k m : Nat} (h1 : 1 ≤ k) (h2 : k ≤ 3) (h3 : 1 ≤ m) (h4 : m ≤ 4) : clyR (k : Int) (m : Int) = (((mkTo k m).filter (okL m)).length : Int) := by
  have hk : k ∈ [1, 2, 3] := by
    have : k = 1 ∨ k = 2 ∨ k = 3 := by omega
    simpa using this
  have hm : m ∈ [1, 2, 3, 4] := by
    have : m = 1 ∨ m = 2 ∨ m = 3 ∨ m = 4 := by omega
    simpa using this
  have hc := cly_small k hk m hm
  have hv := List.all_eq_true.1 (lvl_word k hk m hm)
  obtain ⟨n, rfl⟩ : ∃ n, m = n + 1 := ⟨m - 1, by omega⟩
  have e1 : mkTo k (n + 1) = mkTo k n ++ lvl k (n + 1) := rfl
  have e2 : (mkTo k n).filter (okL (n + 1)) = [] := List.filter_eq_nil_iff.2 fun x hx => by
    have := mkTo_small k n x hx
    unfold okL
    rw [decide_eq_false (by omega), Bool.false_and]
    decide
  have e3 : (lvl k (n + 1)).filter (okL (n + 1)) = ((allW k (n + 1)).filter lyC).map ba := by
    unfold lvl
    rw [List.filter_map]
    congr 1
    refine List.filter_congr fun x hx => ?_
    have a1 := lvl_size k (n + 1) (ba x) (List.mem_map_of_mem hx)
    show (decide ((ba x).size = n + 1) && (wordB (ba x) && lyB (ba x))) = _
    rw [decide_eq_true a1, hv x hx, Bool.true_and, Bool.true_and, lyC_eq]
    rfl
  rw [hc, e1, List.filter_append, e2, e3, List.nil_append, List.length_map]
theorem times_size (r : ByteArray) : ∀ i, (timesB r i).size = i * r.size
  | 0 => by rw [Nat.zero_mul]; rfl
  | i + 1 => by show (timesB r i ++ r).size = _; rw [ByteArray.size_append, times_size r i, Nat.succ_mul]
theorem flat_size : ∀ l : List ByteArray, (∀ x ∈ l, x.size ≤ 400) → (flatB l).size ≤ l.length * 400
  | [], _ => Nat.zero_le _
  | x :: l, h => by
    have h1 := h x (List.mem_cons_self ..)
    have h2 := flat_size l fun y hy => h y (List.mem_cons_of_mem _ hy)
    show (x ++ flatB l).size ≤ (l.length + 1) * 400
    rw [ByteArray.size_append]
    omega

set_option maxHeartbeats 40000000 in
set_option maxRecDepth 100000 in
theorem fnPeriods_walk0 (zs : List Int) (v : Value) (w : World) (mx : Int) (hmx : w.cell? ⟨0, 0, none⟩ = some (.int .i64 mx)) (hl : Lst w v (bytesV zs)) (hzs : ∀ z ∈ zs, 0 ≤ z ∧ z ≤ 255) :
    Calls Try.prog 3 #[v] w fun e w' => e = .returned (.bool true) ∧ Below w.heap.size w w' := by
  have HLC := Lib.hid hl
  have HMX := Lib.hid hmx
  clear hmx
  obtain ⟨Ac, cc, rfl, hcc1, hcc2, _⟩ := hl
  rw [bytesV_length] at hcc1 HLC ⊢
  have hmax : zs.length ≤ 9223372036854775807 := by unfold maxLen at hcc2; omega
  clear hcc1 hcc2
  by_cases hlen : ¬ zs.length ≤ 1048576
  · have hgt : 1048576 < zs.length := by omega
    go_enter Try.func3, Try.ntmps3
    go_wp2_with fail
    go_ret
    exact ⟨rfl, Below.refl _ _⟩
  have hlen : zs.length ≤ 1048576 := by omega
  have HZB : Hid (IsBytes zs) := ⟨hlen, hzs⟩
  clear hzs
  go_enter Try.func3, Try.ntmps3
  go_wp2_with fail
  refine (makeWord_any _ zs 0 14 _ HZB.out HLC.out (by omega) (by omega) (by omega)).mono ?_
  rintro e w1 ⟨s, rfl, hw, h14, hb⟩
  have HW := Lib.hid hw
  have HB1 := Lib.hid hb
  have hs : s.size ≤ 1048576 := by omega
  have HPP := Lib.hid (per_pair hw)
  clear hb hw
  go_wp2_with fail
  refine (implBordersOf s _ hs).mono ?_
  rintro e w2 ⟨v2, rfl, ho, hb⟩
  obtain ⟨AL, cL, rfl⟩ := own_slice ho
  have HL2 := Lib.hid (Lst.of_own ho)
  have HB2 : Hid (Below w.heap.size w w2) := HB1.out.trans (hb.mono HB1.out.size)
  clear ho hb HB1
  generalize boR s = L at HPP HL2 ⊢
  go_wp2_with fail
  refine (implPeriodsOf s _ hs).mono ?_
  rintro e w3 ⟨v3, rfl, ho, hb⟩
  obtain ⟨AQ, cQ, rfl⟩ := own_slice ho
  have HQ3 := Lib.hid (Lst.of_own ho)
  have HL3 := Lib.hid (HL2.out.below hb)
  have HB3 : Hid (Below w.heap.size w w3) := HB2.out.trans (hb.mono HB2.out.size)
  clear ho hb HB2 HL2
  generalize peR s = Q at HPP HQ3 ⊢
  obtain ⟨wa, rfl⟩ : ∃ y : World, y = w3 := ⟨_, rfl⟩
  have hLL : L.length ≤ 400 := HPP.out.2.2.1
  have HS0 : Hid (s.size = 0 → Q.length = 0) := HPP.out.2.1
  have HS1 : Hid (1 ≤ s.size → Q.length = L.length + 1) := fun h => (HPP.out.1 h).1
  go_upto_region 7 with (fail)
  go_cut [55] (fun b wx => b = .bool false ∧ wa = wx)
  case first => as_aux_lemma =>
    by_cases h0 : s.size = 0
    · have hq0 := HS0.out h0
      have d1 : decide ((0 : Int) < (s.size : Int)) = false := decide_eq_false (by omega)
      have d1' : decide (0 < s.size) = false := decide_eq_false (by omega)
      have b1 : ((s.size : Int) == 0) = true := beq_iff_eq.2 (by omega)
      have b2 : ((Q.length : Int) != 0) = false := by rw [bne_eq_false_iff_eq]; omega
      go_wp2_with fail
      go_meet
      exact ⟨rfl, rfl⟩
    · have hq0 := HS1.out (by omega)
      have d1 : decide ((0 : Int) < (s.size : Int)) = true := decide_eq_true (by omega)
      have d1' : decide (0 < s.size) = true := decide_eq_true (by omega)
      have b1 : ((s.size : Int) == 0) = false := beq_eq_false_iff_ne.2 (by omega)
      have b2 : ((Q.length : Int) != (L.length : Int) + 1) = false := by rw [bne_eq_false_iff_eq]; omega
      go_wp2_with fail
      go_meet
      exact ⟨rfl, rfl⟩
  case rest =>
    obtain ⟨rfl, rfl⟩ := hcut
    have hQL : Q.length ≤ L.length + 1 := by
      by_cases h0 : s.size = 0
      · rw [HS0.out h0]; omega
      · rw [HS1.out (by omega)]; omega

    go_upto_block 0 with (fail)
    go_cut [58] (fun _ wx => Below w.heap.size w wx ∧ Below wa.heap.size wa wx)
    case first => as_aux_lemma =>
      go_wp2_with fail
      go_loopw [58] (fun iv w' => ∃ i : Nat, i ≤ Q.length ∧ iv = .int .i64 (i : Int) ∧ Below wa.heap.size wa w') (fun iv _ => Q.length - (intOf iv).toNat)
      case atStart => exact ⟨0, by omega, rfl, Below.refl _ _⟩
      case round =>
        obtain ⟨i, hi, rfl, hb⟩ := hrel
        obtain ⟨wq, rfl⟩ : ∃ y : World, y = wr := ⟨_, rfl⟩
        have HBQ := Lib.hid hb
        clear hb
        by_cases hlt : i < Q.length
        · obtain ⟨bq, oq, cq', he, hcq⟩ := lsti_at (HQ3.out.below HBQ.out) (by omega)
          injection he with hA hA2 hc
          subst hA; subst hc
          clear hA2
          obtain ⟨_, _, _, p4, p5, p6, p7, p8, p9⟩ := HPP.out
          have g1 := hcq i hlt
          obtain ⟨x1, x2⟩ := p5 i hlt
          have HUP := Lib.hid (fun (h : 1 ≤ i) => p8 (i - 1) i (by omega) hlt)
          have HPR := Lib.hid (fun (h : 1 ≤ i) => hcq (i - 1) (by omega))
          have HB6 := Lib.hid (fun (hb : i < L.length) => p6 i hlt hb)
          have HE7 := Lib.hid (fun (he : i = L.length) => p7 i hlt he)
          have HFI := Lib.hid (fun j (hj : j < Q.length) => p9 i j hlt hj)
          have HCQ := Lib.hid hcq
          clear p4 p5 p6 p7 p8 p9 hcq
          generalize hQi : Q[i] = x at g1 x1 x2 HUP HB6 HE7 HFI
          clear hQi
          obtain ⟨wq2, hwq2⟩ : ∃ y : World, y = wq := ⟨_, rfl⟩
          go_upto_region 12 with (fail)
          go_cut [58, 104] from 58 to 119 (fun iv b wx => iv = .int .i64 (i : Int) ∧ b = .bool false ∧ wq = wx)
          case first => as_aux_lemma =>
            by_cases hb : i < L.length
            · obtain ⟨bl, ol, cl', he, hcl⟩ := lsti_at (HL3.out.below HBQ.out) (by omega)
              injection he with hA hA2 hc
              subst hA; subst hc
              clear hA2
              have g2 := hcl (L.length - 1 - i) (by omega)
              have g3 := HB6.out hb
              generalize L[L.length - 1 - i] = y at g2 g3
              have d1 : decide ((i : Int) < (L.length : Int)) = true := by simp; omega
              have d1' : decide (i < L.length) = true := by simp; omega
              have e1 : (L.length : Int) - 1 - (i : Int) = ((L.length - 1 - i : Nat) : Int) := by omega
              have b1 : (x + y != (s.size : Int)) = false := by rw [bne_eq_false_iff_eq]; exact g3
              have b2 : ((i : Int) == (L.length : Int)) = false := by simp; omega
              have HG3 := Lib.hid g3
              have hxy : x + y = (s.size : Int) := g3
              clear g3 hcl
              by_cases h0 : 1 ≤ i
              · have g4 := HPR.out h0
                have g5 := HUP.out h0
                generalize Q[i - 1]'(by omega) = z at g4 g5
                have d2 : decide ((0 : Int) < (i : Int)) = true := by simp; omega
                have d2' : decide (0 < i) = true := by simp; omega
                have e2 : (i : Int) - 1 = ((i - 1 : Nat) : Int) := by omega
                have d3 : decide (x ≤ z) = false := by simp; omega
                go_wp2_with fail
                go_meet
                exact ⟨rfl, rfl, rfl⟩
              · have d2 : decide ((0 : Int) < (i : Int)) = false := by simp; omega
                have d2' : decide (0 < i) = false := by simp; omega
                go_wp2_with fail
                go_meet
                exact ⟨rfl, rfl, rfl⟩
            · have hie : i = L.length := by omega
              have g3 := HE7.out hie
              have d1 : decide ((i : Int) < (L.length : Int)) = false := by simp; omega
              have d1' : decide (i < L.length) = false := by simp; omega
              have b2 : ((i : Int) == (L.length : Int)) = true := by simp; omega
              have b1 : (x != (s.size : Int)) = false := by rw [bne_eq_false_iff_eq]; exact g3
              have HIE := Lib.hid hie
              clear hie g3
              by_cases h0 : 1 ≤ i
              · have g4 := HPR.out h0
                have g5 := HUP.out h0
                generalize Q[i - 1]'(by omega) = z at g4 g5
                have d2 : decide ((0 : Int) < (i : Int)) = true := by simp; omega
                have d2' : decide (0 < i) = true := by simp; omega
                have e2 : (i : Int) - 1 = ((i - 1 : Nat) : Int) := by omega
                have d3 : decide (x ≤ z) = false := by simp; omega
                go_wp2_with fail
                go_meet
                exact ⟨rfl, rfl, rfl⟩
              · have d2 : decide ((0 : Int) < (i : Int)) = false := by simp; omega
                have d2' : decide (0 < i) = false := by simp; omega
                go_wp2_with fail
                go_meet
                exact ⟨rfl, rfl, rfl⟩
          case rest =>
            obtain ⟨rfl, rfl, rfl⟩ := hcut
            obtain ⟨X, hsl, hX⟩ := slice_upto Try.underlying24 sizeOf_int bq oq Q.length cQ i hi (by
              obtain ⟨A', cap', e, h1, _⟩ := HQ3.out
              injection e with _ e2 e3
              rw [ints_length] at h1
              omega)
            subst hX
            have HHI := Lib.hid hi
            go_wp2_with fail
            go_loopw [109] (fun jv w' => ∃ j : Nat, j ≤ i ∧ jv = .int .i64 (j : Int) ∧ Below wa.heap.size wa w') (fun jv _ => i - (intOf jv).toNat)
            case atStart => exact ⟨0, by omega, rfl, HBQ.out⟩
            case round =>
              obtain ⟨j, hj, rfl, hb⟩ := hrel
              obtain ⟨wj, rfl⟩ : ∃ y : World, y = wr := ⟨_, rfl⟩
              have HBJ := Lib.hid hb
              clear hb
              by_cases hjl : j < i
              · obtain ⟨bq', oq', cq'', he, hcq⟩ := lsti_at (HQ3.out.below HBJ.out) (by omega)
                injection he with hA hA2 hc
                injection hA with hA
                injection hA with hA hA3 hA4
                subst hA; subst hA3; subst hc
                have g6 := hcq j (by omega)
                have g7 := HFI.out j (by omega)
                have HG7 := Lib.hid g7
                clear hcq g7 hA2 hA4
                generalize Q[j]'(by omega) = y at g6 HG7
                go_wp2_with fail
                refine (implAllPeriodsFine s x y _ hs).mono ?_
                rintro e wz ⟨rfl, hb⟩
                rw [HG7.out]
                have HBZ : Hid (Below wa.heap.size wa wz) := HBJ.out.trans (hb.mono HBJ.out.size)
                clear hb
                go_wp2_with fail
                go_roundw
                case rel => exact ⟨j + 1, by omega, by go_num, HBZ.out⟩
                case measure => simp [intOf]; omega
              · go_wp2_with fail
                go_roundw
                case rel => exact ⟨i + 1, by omega, by go_num, HBJ.out⟩
                case measure => simp [intOf]; omega
        · go_wp2_with fail
          go_meet
          exact ⟨HB3.out.trans (HBQ.out.mono HB3.out.size), HBQ.out⟩
    case rest =>
      obtain ⟨h1, h2⟩ := hcut
      obtain ⟨wb, rfl⟩ : ∃ y : World, y = wc := ⟨_, rfl⟩
      have HB4 := Lib.hid h1
      have HQ4 := Lib.hid (HQ3.out.below h2)
      clear h1 h2 HL3 HQ3 HB3
      go_upto_region 21 with (fail)
      go_cut [129] (fun b wx => b = .bool false ∧ Below w.heap.size w wx)
      case first => as_aux_lemma =>
        by_cases h0 : s.size = 0
        · have d1 : decide ((0 : Int) < (s.size : Int)) = false := decide_eq_false (by omega)
          have d1' : decide (0 < s.size) = false := decide_eq_false (by omega)
          have HH0 := Lib.hid h0
          clear h0
          go_wp2_with fail
          go_quiet (fail)
          go_wp2_with fail
          go_meet
          exact ⟨rfl, below_drewN HB4.out _⟩
        · have d1 : decide ((0 : Int) < (s.size : Int)) = true := decide_eq_true (by omega)
          have d1' : decide (0 < s.size) = true := decide_eq_true (by omega)
          obtain ⟨hq0, hpr⟩ := (HPP.out.1 (by omega)).2
          obtain ⟨bq, oq, cq', he, hcq⟩ := lsti_at HQ4.out hq0
          injection he with hA hA2 hc
          subst hA; subst hc
          clear hA2
          have g1 := hcq 0 hq0
          have hblk := World.block_lt_of_cell? wb _ g1
          have HPR := Lib.hid hpr
          clear hpr hcq
          generalize Q[0] = x at g1 HPR
          have HG1 := Lib.hid g1
          have b3 : (x != x) = false := by simp
          have HBC : Hid (Below wb.heap.size wb wb.drew) := below_drewN (Below.refl _ _) 1
          have hkeep : wb.drew.cell? ⟨bq, oq, none⟩ = some (.int .i64 x) := g1
          clear g1
          go_region_held3 (fun w' => w'.cell? ⟨bq, oq, none⟩ = some (.int .i64 x))
            (first | exact hkeep | assumption | (go_simp; done))
            (first
              | (go_at_call 19
                 refine (implLeastPeriod s _ hs).mono ?_
                 rintro e wz ⟨rfl, hb⟩
                 rw [HPR.out]
                 replace HBC : Hid (Below wb.heap.size wb wz) := HBC.out.trans (hb.mono HBC.out.size)
                 have hkeep2 : wz.cell? ⟨bq, oq, none⟩ = some (.int .i64 x) := (HBC.out.cell (p := ⟨bq, oq, none⟩) hblk).trans HG1.out
                 clear hb))
          all_goals
            go_wp2_with fail
            go_meet
            exact ⟨rfl, HB4.out.trans (HBC.out.mono HB4.out.size)⟩
      case rest =>
        obtain ⟨rfl, hbx⟩ := hcut
        obtain ⟨wd, rfl⟩ : ∃ y : World, y = wc := ⟨_, rfl⟩
        have HB5 := Lib.hid hbx
        clear hbx HQ4 HB4 HPP HS0 HS1 hQL hLL
        obtain ⟨K, hK, hrt⟩ := rt_pair HW.out h14
        have HK := Lib.hid hK
        have HRT := Lib.hid hrt
        clear hK hrt
        go_wp2_with fail
        refine (implRootOf s _ hs).mono ?_
        rintro e w6 ⟨rfl, hb⟩
        rw [HK.out]
        generalize rtR s = r at HRT ⊢
        have HB6 : Hid (Below w.heap.size w w6) := HB5.out.trans (hb.mono HB5.out.size)
        clear hb HB5 HK
        obtain ⟨q1, q2, q3, q4, q5, q6⟩ := HRT.out
        have HRS : Hid (timesB r K = s) := q2
        have HRP := Lib.hid q3
        have HRQ := Lib.hid q5
        have HRN := Lib.hid q6
        clear q2 q3 q5 q6 HRT
        go_upto_block 4 with (fail)
        go_cut [13, 14] (fun a _ wx => a = .string s ∧ w6 = wx)
        case first => as_aux_lemma =>
          have HR0 : Hid ((⟨#[]⟩ : ByteArray) = timesB r 0) := rfl
          have HR1 : Hid (∀ i, timesB r i ++ r = timesB r (i + 1)) := fun _ => rfl
          have HRZ : Hid (∀ i, i ≤ K → (timesB r i).size ≤ 14) := fun i hi => by
            have e1 := times_size r i
            have e2 := times_size r K
            rw [HRS.out] at e2
            have := Nat.mul_le_mul_right r.size hi
            omega
          generalize timesB r = F at HRS HR0 HR1 HRZ
          go_wp2_with fail
          go_loopw [13, 14] (fun a iv w' => ∃ i : Nat, i ≤ K ∧ a = .string (F i) ∧ iv = .int .i64 (i : Int) ∧ w6 = w') (fun _ iv _ => K - (intOf iv).toNat)
          case atStart => exact ⟨0, by omega, by rw [← HR0.out], rfl, rfl⟩
          case round =>
            obtain ⟨i, hi, rfl, rfl, rfl⟩ := hrel
            have c1 : decide ((i : Int) < 20) = true := decide_eq_true (by omega)
            have c1' : decide (i < 20) = true := decide_eq_true (by omega)
            by_cases hlt : i < K
            · have c2 : decide ((i : Int) < (K : Int)) = true := decide_eq_true (by omega)
              have c2' : decide (i < K) = true := decide_eq_true (by omega)
              have hFz := HRZ.out i (by omega)
              go_wp2_with fail
              rw [HR1.out]
              go_roundw
              case rel => exact ⟨i + 1, by omega, rfl, by go_num, by trivial⟩
              case measure => simp [intOf]; omega
            · have c2 : decide ((i : Int) < (K : Int)) = false := decide_eq_false (by omega)
              have c2' : decide (i < K) = false := decide_eq_false (by omega)
              have hik : i = K := by omega
              have HIK := Lib.hid hik
              clear hik
              go_wp2_with fail
              rw [HIK.out, HRS.out]
              go_meet
              exact ⟨rfl, rfl⟩
        case rest =>
          obtain ⟨rfl, rfl⟩ := hcut
          go_upto_region 29 with (fail)
          go_cut [169] (fun b wx => b = .bool false ∧ Below w.heap.size w wx)
          case first => as_aux_lemma =>
            have b1 : (s.toList != s.toList) = false := by simp
            have HBC := Lib.hid HB6.out
            by_cases h0 : s.size = 0
            · have d1 : decide ((0 : Int) < (s.size : Int)) = false := decide_eq_false (by omega)
              have d1' : decide (0 < s.size) = false := decide_eq_false (by omega)
              have HH0 := Lib.hid h0
              clear h0
              generalize hkb : ((K : Int) == 1) = kb at HRP
              go_wp2_with fail
              refine (implIsPrimitiveWord s _ hs).mono ?_
              rintro e wz ⟨rfl, hb⟩
              rw [HRP.out]
              have HBZ : Hid (Below w.heap.size w wz) := HB6.out.trans (hb.mono HB6.out.size)
              clear hb
              cases kb
              all_goals
                go_wp2_with fail
                go_meet
                exact ⟨rfl, HBZ.out⟩
            · have d1 : decide ((0 : Int) < (s.size : Int)) = true := decide_eq_true (by omega)
              have d1' : decide (0 < s.size) = true := decide_eq_true (by omega)
              obtain ⟨k1, k2⟩ := HRQ.out (by omega)
              have d2 : decide ((K : Int) < 1) = false := decide_eq_false (by omega)
              have HK2 := Lib.hid k2
              clear k2
              generalize hkb : ((K : Int) == 1) = kb at HRP
              go_wp2_with fail
              refine (implIsPrimitiveWord s _ hs).mono ?_
              rintro e wz ⟨rfl, hb⟩
              rw [HRP.out]
              have HBZ : Hid (Below w.heap.size w wz) := HB6.out.trans (hb.mono HB6.out.size)
              clear hb
              cases kb
              all_goals
                go_wp2_with fail
                refine (implIsPrimitiveWord r _ q4).mono ?_
                rintro e wy ⟨rfl, hb⟩
                rw [HK2.out]
                have HBY : Hid (Below w.heap.size w wy) := HBZ.out.trans (hb.mono HBZ.out.size)
                clear hb
                go_wp2_with fail
                go_meet
                exact ⟨rfl, HBY.out⟩
          case rest =>
            obtain ⟨rfl, hbx⟩ := hcut
            obtain ⟨w7, rfl⟩ : ∃ y : World, y = wc := ⟨_, rfl⟩
            have HB7 := Lib.hid hbx
            clear hbx HB6 HRS HRP q4
            go_wp2_with fail
            refine (implLyndonParts s _ hs).mono ?_
            rintro e w8 ⟨v8, rfl, ho, hb⟩
            obtain ⟨AP, cP, rfl⟩ := own_slice ho
            have HP8 := Lib.hid (Lst.of_own ho)
            have HB8 : Hid (Below w.heap.size w w8) := HB7.out.trans (hb.mono HB7.out.size)
            clear ho hb HB7
            obtain ⟨y1, y2, y3, y4, y5⟩ := py_parts HW.out
            have HF0 : Hid ((⟨#[]⟩ : ByteArray) = flatB ((lyP s).take 0)) := rfl
            have HF1 : Hid (∀ i (h : i < (lyP s).length), flatB ((lyP s).take i) ++ (lyP s)[i]'h = flatB ((lyP s).take (i + 1))) := fun i h => by
              rw [List.take_succ_eq_append_getElem h, flat_snoc]
            have HF2 : Hid (flatB ((lyP s).take (lyP s).length) = s) := by show _ = _; rw [List.take_length, y1]
            have HPY : Hid (∀ i (h : i < (lyP s).length), lyR ((lyP s)[i]'h) = true ∧ ((lyP s)[i]'h).size ≤ 400) := fun i h => by
              obtain ⟨c1, c2⟩ := y2 _ (List.getElem_mem h)
              exact ⟨c1, word_size c2⟩
            have HPD : Hid (∀ i (h0 : i < (lyP s).length) (h1 : i + 1 < (lyP s).length), ¬ lessB ((lyP s)[i]'h0) ((lyP s)[i + 1]'h1) = true) := fun i _ h1 => y3 i h1
            have HFZ : Hid (∀ i, (flatB ((lyP s).take i)).size ≤ 5600) := fun i => by
              have e1 := flat_size ((lyP s).take i) fun x hx => word_size (y2 x (List.mem_of_mem_take hx)).2
              have e2 : ((lyP s).take i).length ≤ (lyP s).length := by rw [List.length_take]; omega
              omega
            have HLY := Lib.hid y5
            clear y1 y2 y3 y5
            generalize hFF : (fun i => flatB ((lyP s).take i)) = F
            have hFe : ∀ i, flatB ((lyP s).take i) = F i := fun i => by rw [← hFF]
            simp only [hFe] at HF0 HF1 HF2 HFZ
            clear hFF hFe
            generalize lyP s = P at y4 HP8 HF1 HF2 HPY HPD HLY ⊢
            go_upto_block 6 with (fail)
            go_cut [16, 174] (fun a _ wx => a = .string s ∧ Below w8.heap.size w8 wx)
            case first => as_aux_lemma =>
              go_wp2_with fail
              go_loopw [16, 174] (fun a iv w' => ∃ i : Nat, i ≤ P.length ∧ a = .string (F i) ∧ iv = .int .i64 (i : Int) ∧ Below w8.heap.size w8 w') (fun _ iv _ => P.length - (intOf iv).toNat)
              case atStart => exact ⟨0, by omega, by rw [← HF0.out], rfl, Below.refl _ _⟩
              case round =>
                obtain ⟨i, hi, rfl, rfl, hb⟩ := hrel
                obtain ⟨wq, rfl⟩ : ∃ y : World, y = wr := ⟨_, rfl⟩
                have HBQ := Lib.hid hb
                clear hb
                by_cases hlt : i < P.length
                · obtain ⟨bq, oq, cq', he, hcq⟩ := lsts_at (HP8.out.below HBQ.out) (by omega)
                  injection he with hA hA2 hc
                  subst hA; subst hc
                  clear hA2
                  have g1 := hcq i hlt
                  obtain ⟨x1, x2⟩ := HPY.out i hlt
                  have HX1 := Lib.hid x1
                  have HF3 := Lib.hid (HF1.out i hlt)
                  have hFz := HFZ.out i
                  have HPR := Lib.hid (fun (h : 1 ≤ i) => hcq (i - 1) (by omega))
                  have HDN := Lib.hid (fun (h : 1 ≤ i) => HPD.out (i - 1) (by omega) (by omega))
                  have HIX : ∀ h : 1 ≤ i, P[i - 1 + 1]'(by omega) = P[i]'hlt := fun h => by congr 1; omega
                  have HDM : Hid (∀ h : 1 ≤ i, ¬ lessB (P[i - 1]'(by omega)) (P[i]'hlt) = true) := fun h => by
                    have := HDN.out h
                    rwa [HIX h] at this
                  clear HDN HIX x1 hcq
                  generalize P[i]'hlt = x at g1 x2 HX1 HF3 HDM
                  go_wp2_with fail
                  rw [HF3.out]
                  refine (implIsLyndon x _ (by omega)).mono ?_
                  rintro e wz ⟨rfl, hbz⟩
                  rw [HX1.out]
                  have HBZ : Hid (Below w8.heap.size w8 wz) := HBQ.out.trans (hbz.mono HBQ.out.size)
                  by_cases h0 : 1 ≤ i
                  · have g4 := HPR.out h0
                    have hblk := World.block_lt_of_cell? wq _ g4
                    have g5 : wz.cell? ⟨bq, oq + (i - 1), none⟩ = some (.string (P[i - 1]'(by omega))) := (hbz.cell (p := ⟨bq, oq + (i - 1), none⟩) hblk).trans g4
                    have hlf := HDM.out h0
                    clear g4 hbz
                    generalize P[i - 1]'(by omega) = z at g5 hlf
                    have b6 : Op.bytesLess z.toList x.toList = false := by
                      cases hz : Op.bytesLess z.toList x.toList
                      · rfl
                      · exact absurd hz hlf
                    clear hlf
                    have d2 : decide ((0 : Int) < (i : Int)) = true := decide_eq_true (by omega)
                    have d2' : decide (0 < i) = true := decide_eq_true (by omega)
                    have e2 : (i : Int) - 1 = ((i - 1 : Nat) : Int) := by omega
                    go_wp2_with fail
                    go_roundw
                    case rel => exact ⟨i + 1, by omega, rfl, by go_num, HBZ.out⟩
                    case measure => simp [intOf]; omega
                  · have d2 : decide ((0 : Int) < (i : Int)) = false := decide_eq_false (by omega)
                    have d2' : decide (0 < i) = false := decide_eq_false (by omega)
                    clear hbz
                    go_wp2_with fail
                    go_roundw
                    case rel => exact ⟨i + 1, by omega, rfl, by go_num, HBZ.out⟩
                    case measure => simp [intOf]; omega
                · have hik : i = P.length := by omega
                  have HIK := Lib.hid hik
                  clear hik
                  go_wp2_with fail
                  rw [HIK.out, HF2.out]
                  go_meet
                  exact ⟨rfl, HBQ.out⟩
            case rest =>
              obtain ⟨rfl, hbx⟩ := hcut
              obtain ⟨w9, rfl⟩ : ∃ y : World, y = wc := ⟨_, rfl⟩
              have HB9 : Hid (Below w.heap.size w w9) := HB8.out.trans (hbx.mono HB8.out.size)
              clear hbx HB8 HP8 HF0 HF1 HF2 HPY HPD HFZ
              go_upto_region 40 with (fail)
              go_cut [209] (fun b wx => b = .bool false ∧ Below w.heap.size w wx)
              case first => as_aux_lemma =>
                have b1 : (s.toList != s.toList) = false := by simp
                by_cases hp : P.length = 1
                · have d1 : ((P.length : Int) == 1) = true := beq_iff_eq.2 (by omega)
                  have d1' : decide (P.length = 1) = true := decide_eq_true hp
                  have HL1 : Hid (lyR s = true) := HLY.out.trans d1'
                  have HPH := Lib.hid hp
                  clear hp
                  go_wp2_with fail
                  refine (implIsLyndon s _ hs).mono ?_
                  rintro e wz ⟨rfl, hb⟩
                  rw [HL1.out]
                  have HBZ : Hid (Below w.heap.size w wz) := HB9.out.trans (hb.mono HB9.out.size)
                  clear hb
                  go_wp2_with fail
                  go_meet
                  exact ⟨rfl, HBZ.out⟩
                · have d1 : ((P.length : Int) == 1) = false := beq_eq_false_iff_ne.2 (by omega)
                  have d1' : decide (P.length = 1) = false := decide_eq_false hp
                  have HL1 : Hid (lyR s = false) := HLY.out.trans d1'
                  have HPH := Lib.hid hp
                  clear hp
                  go_wp2_with fail
                  refine (implIsLyndon s _ hs).mono ?_
                  rintro e wz ⟨rfl, hb⟩
                  rw [HL1.out]
                  have HBZ : Hid (Below w.heap.size w wz) := HB9.out.trans (hb.mono HB9.out.size)
                  clear hb
                  go_wp2_with fail
                  go_meet
                  exact ⟨rfl, HBZ.out⟩
              case rest =>
                obtain ⟨rfl, hbx⟩ := hcut
                obtain ⟨w10, rfl⟩ : ∃ y : World, y = wc := ⟨_, rfl⟩
                have HB10 := Lib.hid hbx
                clear hbx HB9 HLY y4
                go_upto_region 42 with (fail)
                go_cut [211] (fun b wx => (∃ nz : Bool, (nz = true ↔ 1 ≤ s.size) ∧ b = .bool nz) ∧ w10 = wx)
                case first => as_aux_lemma =>
                  by_cases h0 : s.size = 0
                  · have d1 : decide ((0 : Int) < (s.size : Int)) = false := decide_eq_false (by omega)
                    have d1' : decide (0 < s.size) = false := decide_eq_false (by omega)
                    have HH0 := Lib.hid h0
                    clear h0
                    go_wp2_with fail
                    go_meet
                    exact ⟨⟨false, ⟨fun h => (by cases h), fun h => (by have := HH0.out; omega)⟩, rfl⟩, rfl⟩
                  · have d1 : decide ((0 : Int) < (s.size : Int)) = true := decide_eq_true (by omega)
                    have d1' : decide (0 < s.size) = true := decide_eq_true (by omega)
                    go_wp2_with fail
                    go_meet
                    exact ⟨⟨true, ⟨fun _ => (by omega), fun _ => rfl⟩, rfl⟩, rfl⟩
                case rest =>
                  obtain ⟨⟨nz, hnz, rfl⟩, rfl⟩ := hcut
                  have HNZ := Lib.hid hnz
                  clear hnz
                  go_upto_if 211 with (fail)
                  go_cut [20] (fun _ wx => Below w.heap.size w wx)
                  case first => as_aux_lemma =>
                    cases nz
                    · go_wp2_with fail
                      go_meet
                      exact HB10.out
                    · have h1 : 1 ≤ s.size := HNZ.out.1 rfl
                      obtain ⟨k, e1, k1, k2, k3⟩ := py_shift HW.out h1
                      have hks : k ≤ s.size := by omega
                      have HE1 := Lib.hid e1
                      have HSR := Lib.hid (shift_rot HW.out hks)
                      have HCJ := Lib.hid (cj_rot HW.out hks)
                      have hrz : (rotS s k).size ≤ 1048576 := by rw [rot_size s hks]; exact hs
                      have HLY : Hid (lyR (rotS s k) = decide (K = 1)) := by
                        show _ = _
                        unfold lyR
                        rw [rot_word HW.out hks, Bool.true_and, Bool.eq_iff_iff, lyB_iff, k2, HRN.out h1, decide_eq_true_eq]
                      have HNL : Hid (Op.bytesLess s.toList (rotS s k).toList = false) := by
                        show _ = _
                        cases hz : Op.bytesLess s.toList (rotS s k).toList
                        · rfl
                        · exact absurd hz k3
                      clear e1 k2 k3 HNZ
                      have c1 : decide ((k : Int) < 0) = false := decide_eq_false (by omega)
                      have c2 : decide ((s.size : Int) ≤ (k : Int)) = false := decide_eq_false (by omega)
                      have c2' : decide (s.size ≤ k) = false := decide_eq_false (by omega)
                      go_wp2_with fail
                      refine (implLeastShift s _ hs).mono ?_
                      rintro e wa ⟨rfl, hb⟩
                      rw [HE1.out]
                      have HBa : Hid (Below w.heap.size w wa) := HB10.out.trans (hb.mono HB10.out.size)
                      clear hb
                      go_wp2_with fail
                      refine (implShiftWord s (k : Int) _ hs).mono ?_
                      rintro e wb ⟨rfl, hb⟩
                      rw [HSR.out]
                      have HBb : Hid (Below w.heap.size w wb) := HBa.out.trans (hb.mono HBa.out.size)
                      clear hb HSR HBa
                      generalize rotS s k = t at HLY HNL HCJ hrz ⊢
                      have HBL : Hid ((t = s ∧ Op.bytesLess t.toList s.toList = false) ∨ Op.bytesLess t.toList s.toList = true) := by
                        show _ ∨ _
                        rcases bl_three t.toList s.toList with ⟨q1, _, _⟩ | ⟨_, q2, _⟩ | ⟨q1, _, q3⟩
                        · exact .inr q1
                        · rw [HNL.out] at q2; cases q2
                        · exact .inl ⟨bytes_ext (eq_of_beq q3).symm, q1⟩
                      go_wp2_with fail
                      refine (implIsLyndon t _ hrz).mono ?_
                      rintro e wd ⟨rfl, hb⟩
                      rw [HLY.out]
                      have HBd : Hid (Below w.heap.size w wd) := HBb.out.trans (hb.mono HBb.out.size)
                      clear hb HBb HLY
                      by_cases hk : K = 1
                      · have d1 : decide (K = 1) = true := decide_eq_true hk
                        have d2 : ((K : Int) == 1) = true := beq_iff_eq.2 (by omega)
                        have HKK := Lib.hid hk
                        rw [d1]
                        clear hk
                        rcases HBL.out with ⟨rfl, b7⟩ | b7
                        all_goals
                          have b8 : (t.toList == t.toList) = true := by simp
                          go_wp2_with fail
                          refine (implAreConjugate _ t mx _ ((HBd.out.cell (World.block_lt_of_cell? w _ HMX.out)).trans HMX.out) hs hrz).mono ?_
                          rintro e we ⟨rfl, hb⟩
                          rw [HCJ.out]
                          have HBe : Hid (Below w.heap.size w we) := HBd.out.trans (hb.mono HBd.out.size)
                          clear hb
                          go_wp2_with fail
                          go_meet
                          exact HBe.out
                      · have d1 : decide (K = 1) = false := decide_eq_false hk
                        have d2 : ((K : Int) == 1) = false := beq_eq_false_iff_ne.2 (by omega)
                        have HKK := Lib.hid hk
                        rw [d1]
                        clear hk
                        rcases HBL.out with ⟨rfl, b7⟩ | b7
                        all_goals
                          have b8 : (t.toList == t.toList) = true := by simp
                          go_wp2_with fail
                          refine (implAreConjugate _ t mx _ ((HBd.out.cell (World.block_lt_of_cell? w _ HMX.out)).trans HMX.out) hs hrz).mono ?_
                          rintro e we ⟨rfl, hb⟩
                          rw [HCJ.out]
                          have HBe : Hid (Below w.heap.size w we) := HBd.out.trans (hb.mono HBd.out.size)
                          clear hb
                          go_wp2_with fail
                          go_meet
                          exact HBe.out
                  case rest => as_aux_lemma =>
                    obtain ⟨w11, rfl⟩ : ∃ y : World, y = wc := ⟨_, rfl⟩
                    have HB11 := Lib.hid hcut
                    clear hcut HB10 HRN HRQ HNZ
                    go_wp2_with fail
                    refine (makeSize_gen _ zs 30 1 3 _ HZB.out (HLC.out.below HB11.out) (by omega) (by omega) (by omega) (by omega) (by omega) (by omega)).mono ?_
                    rintro e w12 ⟨kk, rfl, hk0, hk1, hb⟩
                    obtain ⟨k, rfl⟩ : ∃ k : Nat, kk = k := ⟨kk.toNat, by omega⟩
                    have HB12 : Hid (Below w.heap.size w w12) := HB11.out.trans (hb.mono HB11.out.size)
                    clear hb HB11
                    go_wp2_with fail
                    refine (makeSize_gen _ zs 31 1 4 _ HZB.out (HLC.out.below HB12.out) (by omega) (by omega) (by omega) (by omega) (by omega) (by omega)).mono ?_
                    rintro e w13 ⟨mm, rfl, hm0, hm1, hb⟩
                    obtain ⟨m, rfl⟩ : ∃ m : Nat, mm = m := ⟨mm.toNat, by omega⟩
                    have HB13 : Hid (Below w.heap.size w w13) := HB12.out.trans (hb.mono HB12.out.size)
                    clear hb HB12
                    go_wp2_with fail
                    refine (specMakeAll k m _ (by omega) (by omega) (by omega)).mono ?_
                    rintro e w14 ⟨g, cp, rfl, ho, hb⟩
                    have HM := Lib.hid (Lst.of_own ho)
                    have HB14 : Hid (Below w.heap.size w w14) := HB13.out.trans (hb.mono HB13.out.size)
                    clear hb ho HB13
                    have hml : (mkTo k m).length ≤ 405 := by have := mkTo_len (k := k) (by omega) m (by omega); omega
                    have HXZ : Hid (∀ i (h : i < (mkTo k m).length), ((mkTo k m)[i]'h).size ≤ m) := fun i h => mkTo_small k m _ (List.getElem_mem h)
                    have HC0 : Hid ((((mkTo k m).take 0).filter (okL m)).length = 0) := rfl
                    have HC1 : Hid (∀ i (h : i < (mkTo k m).length), (((mkTo k m).take (i + 1)).filter (okL m)).length = (((mkTo k m).take i).filter (okL m)).length + if okL m ((mkTo k m)[i]'h) = true then 1 else 0) := fun i h => by
                      rw [List.take_succ_eq_append_getElem h, List.filter_append, List.length_append]
                      congr 1
                      cases hq : okL m ((mkTo k m)[i]'h) <;> simp [hq]
                    have HCF : Hid (clyR (k : Int) (m : Int) = ((((mkTo k m).take (mkTo k m).length).filter (okL m)).length : Int)) := by
                      show _ = _
                      rw [List.take_length]
                      exact mkTo_count (by omega) (by omega) (by omega) (by omega)
                    have HCZ : Hid (∀ i, i ≤ (mkTo k m).length → (((mkTo k m).take i).filter (okL m)).length ≤ i) := fun i hi => by
                      have h1 := List.length_filter_le (okL m) ((mkTo k m).take i)
                      rw [List.length_take] at h1
                      omega
                    generalize hCC : (fun i => (((mkTo k m).take i).filter (okL m)).length) = C
                    have hCe : ∀ i, (((mkTo k m).take i).filter (okL m)).length = C i := fun i => by rw [← hCC]
                    simp only [hCe] at HC0 HC1 HCF HCZ
                    clear hCC hCe
                    generalize mkTo k m = M at hml HM HXZ HC1 HCF HCZ ⊢
                    go_wp2_with fail
                    go_loopw [23, 250] (fun n iv w' => ∃ i : Nat, i ≤ M.length ∧ n = .int .i64 (C i : Int) ∧ iv = .int .i64 (i : Int) ∧ Below w14.heap.size w14 w') (fun _ iv _ => M.length - (intOf iv).toNat)
                    case atStart => exact ⟨0, by omega, by rw [HC0.out]; rfl, rfl, Below.refl _ _⟩
                    case round =>
                      obtain ⟨i, hi, rfl, rfl, hb⟩ := hrel
                      obtain ⟨wq, rfl⟩ : ∃ y : World, y = wr := ⟨_, rfl⟩
                      have HBQ := Lib.hid hb
                      clear hb
                      by_cases hlt : i < M.length
                      · obtain ⟨bq, oq, cq', he, hcq⟩ := lsts_at (HM.out.below HBQ.out) (by omega)
                        injection he with hA hA2 hc
                        injection hA with hA
                        injection hA with hA hA3 hA4
                        subst hA; subst hA3; subst hc
                        clear hA2 hA4
                        have g1 := hcq i hlt
                        rw [Nat.zero_add] at g1
                        have hxz := HXZ.out i hlt
                        have HXC := Lib.hid (HC1.out i hlt)
                        have hcz := HCZ.out i hi
                        clear hcq
                        generalize M[i]'hlt = x at g1 hxz HXC
                        by_cases hz : x.size = m
                        · have d1 : ((x.size : Int) == (m : Int)) = true := beq_iff_eq.2 (by omega)
                          have d1' : decide (x.size = m) = true := decide_eq_true hz
                          have HEX : Hid (okL m x = lyR x) := by show (decide (x.size = m) && lyR x) = _; rw [d1', Bool.true_and]
                          have HZZ := Lib.hid hz
                          clear hz
                          go_wp2_with fail
                          refine (implIsLyndon x _ (by omega)).mono ?_
                          rintro e wz ⟨rfl, hbz⟩
                          have HBZ : Hid (Below w14.heap.size w14 wz) := HBQ.out.trans (hbz.mono HBQ.out.size)
                          clear hbz
                          cases hl : lyR x
                          · have HN : Hid (C (i + 1) = C i) := by show _ = _; rw [HXC.out, HEX.out, hl]; rfl
                            clear hl
                            go_wp2_with fail
                            go_roundw
                            case rel => exact ⟨i + 1, by omega, by rw [HN.out], by go_num, HBZ.out⟩
                            case measure => simp [intOf]; omega
                          · have HN : Hid (C (i + 1) = C i + 1) := by show _ = _; rw [HXC.out, HEX.out, hl]; rfl
                            clear hl
                            go_wp2_with fail
                            go_roundw
                            case rel => exact ⟨i + 1, by omega, by rw [HN.out]; go_num, by go_num, HBZ.out⟩
                            case measure => simp [intOf]; omega
                        · have d1 : ((x.size : Int) == (m : Int)) = false := beq_eq_false_iff_ne.2 (by omega)
                          have d1' : decide (x.size = m) = false := decide_eq_false hz
                          have HN : Hid (C (i + 1) = C i) := by
                            show _ = _
                            have : okL m x = false := by show (decide (x.size = m) && lyR x) = _; rw [d1', Bool.false_and]
                            rw [HXC.out, this]; rfl
                          go_wp2_with fail
                          go_roundw
                          case rel => exact ⟨i + 1, by omega, by rw [HN.out], by go_num, HBQ.out⟩
                          case measure => simp [intOf]; omega
                      · have hik : i = M.length := by omega
                        have HIK := Lib.hid hik
                        clear hik
                        go_wp2_with fail
                        refine (implCountLyndon (k : Int) (m : Int) _).mono ?_
                        rintro e wz ⟨rfl, hbz⟩
                        rw [HCF.out, HIK.out]
                        have HBZ : Hid (Below w14.heap.size w14 wz) := HBQ.out.trans (hbz.mono HBQ.out.size)
                        clear hbz
                        go_wp2_with fail
                        go_ret
                        exact ⟨by simp, HB14.out.trans (HBZ.out.mono HB14.out.size)⟩
end Go.Proofs.Ytgfhconcmoepcaa
