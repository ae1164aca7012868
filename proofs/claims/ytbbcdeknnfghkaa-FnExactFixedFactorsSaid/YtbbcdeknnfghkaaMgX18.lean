/- Texts put together. -/
import Derived.Test.YtbbcdeknnfghkaaMgX16
import Derived.Test.YtbbcdeknnfghkaaMgX17
import Derived.Test.YtbbcdeknnfghkaaMgX14
import Derived.OwnWalkIn
import Derived.TacticsInMore
import Derived.LoopNIn
import Derived.LoopIn
import Derived.Sort.LoopGhostIn
import Derived.Deep.DeepCutAuto
import Derived.Deep.CutBlock
import Derived.Deep.LoopGhost
import Derived.Test.YtbbcdeknnfghkaaMgX11
import Derived.Deep.QuietTactic
import Derived.BigQuiet
/- The letters of the fixed point: the program's iterator. Condition: the substitution is valid, its letter growing. -/
namespace Go.Proofs.Ytbbcdeknnfghkaa
open Go.RowKit
attribute [local go_sem] Oper.semAt_some

/-- the i-th letter of the fixed point -/
def fixB (l : List ByteArray) (k i : Nat) : UInt8 := (fixL l k (i + 1)).getD i 97
def encFix (l : List ByteArray) (k i : Nat) : Value := .int .u8 ((fixB l k i).toNat : Int)
section
variable {l : List ByteArray} {k : Nat} (hl : substB l = true) (hk : k < l.length) (hg : growB l k = true)
include hl hk hg
theorem fixB_at (m i : Nat) (h : i < (applyL l (fixL l k m)).length) : (applyL l (fixL l k m))[i] = fixB l k i := by
  have e := pre_take hl hk hg (build_pre m) (i + 1) (by omega)
  unfold fixB
  rw [← e, List.getD_eq_getElem?_getD, List.getElem?_take_of_lt (by omega), List.getElem?_eq_getElem h]
  rfl
theorem fixL_snoc (i : Nat) : fixL l k (i + 1) = fixL l k i ++ [fixB l k i] := by
  have e := pre_take hl hk hg (fixL_pre l k (i + 1)) i (by rw [fixL_length hl hk hg]; omega)
  have h := fixL_length hl hk hg (i + 1)
  have h2 : i < (fixL l k (i + 1)).length := by omega
  have h3 : fixL l k (i + 1) = (fixL l k (i + 1)).take (i + 1) := (List.take_of_length_le (by omega)).symm
  rw [h3, List.take_succ_eq_append_getElem h2, e]
  congr 2
  unfold fixB
  rw [List.getD_eq_getElem?_getD, List.getElem?_eq_getElem h2]
  rfl
theorem fix_step (i : Nat) (h : 1 ≤ i) : ∃ (j : Nat) (hj : j < l.length), (fixB l k i).toNat = 97 + j ∧ applyL l (fixL l k (i + 1)) = applyL l (fixL l k i) ++ l[j].data.toList := by
  obtain ⟨i', rfl⟩ : ∃ i', i = i' + 1 := ⟨i - 1, by omega⟩
  obtain ⟨h1, j, hj, h2, h3⟩ := build_step hl hk hg i'
  exact ⟨j, hj, by rw [← fixB_at hl hk hg (i' + 1) (i' + 1) h1]; exact h2, h3⟩
theorem fixL_len8 (m : Nat) : (applyL l (fixL l k m)).length ≤ 8 * m := by
  have := applyL_le hl (fixL l k m)
  rwa [fixL_length hl hk hg] at this
end

set_option maxRecDepth 100000 in
set_option maxHeartbeats 1000000 in
theorem fixStreams (l : List ByteArray) (k : Nat) (X : Nat → Prop) (N pt pg g cp S : Nat) (w : World) (hl : substB l = true) (hk : k < l.length) (hg : growB l k = true) (hN : N ≤ 10002)
    (hpg : w.cell? ⟨pg, 0, none⟩ = some (.int .u8 (97 + (k : Int)))) (hpt : w.cell? ⟨pt, 0, none⟩ = some (.slice (some ⟨g, 0, none⟩) l.length cp))
    (hat : ImgTab w S g l) (hx1 : ¬ X pt) (hx2 : ¬ X g) (hx3 : ∀ j, j < l.length → ¬ X (S + j)) (hx4 : ∀ q, w.heap.size ≤ q → ¬ X q) :
    Streams Try.prog 96 #[.pointer (some ⟨pt, 0, none⟩), .pointer (some ⟨pg, 0, none⟩)] (encFix l k) X True N w := by
  intro lp J Jx W hW hl1 hl2 hab hy h0
  obtain ⟨hm1, hm4, hm5⟩ := subst_parts hl
  have c1 := (hW.cell (World.block_lt_of_cell? w _ hpg)).trans hpg
  have c2 := (hW.cell (World.block_lt_of_cell? w _ hpt)).trans hpt
  have n2 : pt ≠ lp ∧ pt < W.heap.size := by have : pt < w.heap.size := World.block_lt_of_cell? w ⟨pt, 0, none⟩ hpt; omega
  have HAT : Hid (ImgTab W S g l) := hat.below hW
  have n3 : g ≠ lp ∧ g < W.heap.size := by have : g < w.heap.size := World.block_lt_of_cell? w ⟨g, 0, none⟩ (hat 0 (by omega)).1; omega
  have n4 : Hid (∀ j, j < l.length → S + j ≠ lp ∧ S + j < W.heap.size) := fun j hj => by have : S + j < w.heap.size := World.block_lt_of_cell? w ⟨S + j, 0, none⟩ (hat j hj).2; omega
  have n5 : Hid (∀ q, W.heap.size ≤ q → ¬ (X q ∨ q = lp)) := fun q hq h => by
    have := hW.size
    rcases h with h | h
    · exact hx4 q (by omega) h
    · omega
  have HY := Lib.hid hy
  have HC2 := Lib.hid c2
  have HAB := Lib.hid hab
  have g0 := (HAT.out k hk).1
  have g1 := (HAT.out k hk).2
  have HI := Lib.hid hm5
  have HX3 := Lib.hid hx3
  have HX4 := Lib.hid hx4
  unfold clo at g0
  have hsk := (img_parts (hm5 k hk)).2.1
  have e1 := build_one hl hk hg
  have HLI := Lib.hid (fun w => letterAt (97 + (k : Int)) (k : Int) w (by omega) (by omega) (by omega))
  have HAP := Lib.hid (implAppendText l[k] (S + k) W.heap.size (.slice none 0 0) 0 [] W.drew g1 (World.ownsRow_nil _ _ _ _) (by omega) (by omega) (by simp))
  have b1 : (k : Int) < (l.length : Int) := by omega
  clear hpg hpt hat hl1 hl2 hab hy hm5 hx3 hx4
  refine callsIn_of_wp Try.func96 rfl trivial ?_ rfl
  simp only [Try.ntmps96, List.size_toArray, List.length_cons, List.length_nil, Nat.reduceAdd, Nat.reduceSub, Array.replicate_succ, Array.replicate_zero, List.push_toArray, List.append_toArray, List.nil_append, List.cons_append]
  refine wpIn_wide.2 ?_
  go_upto_region 0 with (fail)
  go_cut [4] (fun o wx => wx.ownsRow W.heap.size 5 1 o (applyL l (fixL l k 1)).length (byteCells (applyL l (fixL l k 1))) ∧ Kept (fun _ => False) W wx)
  case first =>
    go_region_with (first
      | (go_at_call 72; refine (HLI.out _).mono ?_; rintro e w' ⟨rfl, rfl⟩)
      | (refine HAP.out.mono ?_; rintro e w1 ⟨v1, rfl, ho1, hg1⟩))
    all_goals
      go_wp2_with fail
      go_meet
      refine ⟨?_, ((Kept.refl _ W).drew).grown hg1 (fun q e => by cases e)⟩
      rw [e1]
      have := ho1
      simp only [Nat.zero_add, List.nil_append] at this
      rw [show l[k].data.toList.length = l[k].size by simp]
      exact this
  case rest =>
    obtain ⟨ho0, hk0⟩ := hcut
    obtain ⟨wx, rfl⟩ : ∃ x : World, x = wc := ⟨_, rfl⟩
    clear g0 g1 HAP HLI b1 e1 c1
    have HK0 : Hid (Kept (fun q => (X q ∨ q = lp) ∨ W.heap.size ≤ q) W wx) := hk0.mono fun _ h => h.elim
    have HJ0 : Hid (J 0 wx) := HAB.out 0 W wx h0 (hk0.mono fun _ h => h.elim)
    have HO0 := Lib.hid ho0
    have HB1 := Lib.hid (fun m i h => fixB_at hl hk hg m i h)
    have HB2 := Lib.hid (fun i => build_long hl hk hg i)
    have HB3 := Lib.hid (fun i h => fix_step hl hk hg i h)
    have HB8 := Lib.hid (fun m => fixL_len8 hl hk hg m)
    have HS0 := Lib.hid hk0.size
    clear ho0 hk0 h0 hsk
    go_wp2_with fail
    go_loopg [4, 5] N (fun mm o ix wr => ∃ i m, i + mm = N ∧ ((i = 0 ∧ m = 1) ∨ (1 ≤ i ∧ m = i)) ∧ ix = .int .i64 (i : Int) ∧ wr.ownsRow W.heap.size 5 1 o (applyL l (fixL l k m)).length (byteCells (applyL l (fixL l k m))) ∧ J i wr ∧ Kept (fun q => (X q ∨ q = lp) ∨ W.heap.size ≤ q) W wr)
    case atStart => exact ⟨0, 1, by omega, .inl ⟨rfl, rfl⟩, rfl, HO0.out, HJ0.out, HK0.out⟩
    case round =>
      obtain ⟨i, m, him, hmi, rfl, ho, hj, hkp⟩ := hrel
      obtain ⟨hlt, fn, tmps, assign, body, hy, hR⟩ := HY.out i _ hj
      have hlen : i < (applyL l (fixL l k m)).length := by
        rcases hmi with h | h
        · have := HB2.out 0
          rw [h.2]
          rw [show 0 + 1 = 1 from rfl] at this
          omega
        · have := HB2.out (i - 1)
          rw [show i - 1 + 1 = m by omega] at this
          omega
      have hfb := HB1.out m i hlen
      have h8 := HB8.out m
      have HM : Hid (m ≤ i + 1) := by show m ≤ i + 1; omega
      have HHIM := Lib.hid him
      have HR := Lib.hid hR
      have HKP := Lib.hid hkp
      have HPF : Hid (1 ≤ i → ∃ (j : Nat) (hj : j < l.length), (fixB l k i).toNat = 97 + j ∧ applyL l (fixL l k (i + 1)) = applyL l (fixL l k i) ++ l[j].data.toList) := HB3.out i
      unfold encFix at hy
      have HP : Hid (∃ p, applyL l (fixL l k m) = p) := ⟨_, rfl⟩
      obtain ⟨p, hp⟩ := HP.out
      rw [hp] at hlen ho h8
      have hpi : p[i] = fixB l k i := by rw [← hfb]; congr 1; exact hp.symm
      have HPP := Lib.hid hp
      clear hfb hR hkp hp HP
      obtain ⟨gr, cp', rfl, hcap⟩ := own_some ho (by omega)
      have gi := ho.cells (g := gr) rfl i (.int .u8 (p[i].toNat : Int)) (by simp [byteCells, List.getElem?_eq_getElem hlen])
      rw [hpi, Addr.add_lit, Nat.zero_add] at gi
      have hgr : W.heap.size ≤ gr := (ho.lt gr (by simp [Value.ownBlock])).1
      have HO := Lib.hid ho
      have bi : (i : Int) < (p.length : Int) := by omega
      have HNX : Hid (∀ q, (Value.slice (some ⟨gr, 0, none⟩) p.length cp').ownBlock = some q → ¬ (X q ∨ q = lp)) := fun q e => by
        simp [Value.ownBlock] at e
        exact n5.out q (by omega)
      have hiN : i ≤ 10002 := by omega
      rcases hmi with hi | hi
      · have HI0 := Lib.hid hi
        have d1 : ¬ 0 < i := by omega
        have d2 : decide (0 < i) = false := by simp; omega
        clear hi ho him
        refine (wpIn_wide (n := 8)).1 ?_
        gi_wp2
        refine HR.out.mono ?_
        rintro e W3 (⟨rfl, hJ3, hk3⟩ | ⟨rfl, hJx3⟩)
        · have HO3 : Hid (W3.ownsRow W.heap.size 5 1 (.slice (some ⟨gr, 0, none⟩) p.length cp') p.length (byteCells p)) := hk3.row HO.out HNX.out
          have HK3 : Hid (Kept (fun q => (X q ∨ q = lp) ∨ W.heap.size ≤ q) W W3) := HKP.out.trans (hk3.mono fun q h => .inl h)
          have HJ3 := Lib.hid hJ3
          clear hk3 hJ3
          gi_wp2
          go_roundg (gk - 1)
          case rel =>
            obtain ⟨h1, h2⟩ := HI0.out
            have h3 := HHIM.out
            refine ⟨i + 1, m, by omega, .inr ⟨by omega, by omega⟩, by go_num, ?_, HJ3.out, HK3.out⟩
            rw [HPP.out]
            exact HO3.out
          case measure => have h3 := HHIM.out; omega
        · gi_wp2
          go_end0
          exact ⟨⟨_, rfl⟩, hJx3⟩
      · have HI0 := Lib.hid hi
        obtain ⟨j, hjl, hbj, hnext⟩ := HPF.out hi.1
        have d1 : 0 < i := hi.1
        have d2 : decide (0 < i) = true := by simp; omega
        have HNEXT : Hid (applyL l (fixL l k (m + 1)) = p ++ l[j].data.toList) := by
          show _ = _
          rw [hi.2, hnext, ← hi.2, HPP.out]
        have hsj := (img_parts (HI.out j hjl)).2.1
        have HBJ := Lib.hid hbj
        clear hi ho him hnext hbj
        refine (wpIn_wide (n := 8)).1 ?_
        gi_wp2
        refine HR.out.mono ?_
        rintro e W3 (⟨rfl, hJ3, hk3⟩ | ⟨rfl, hJx3⟩)
        · have ho3 : W3.ownsRow W.heap.size 5 1 (.slice (some ⟨gr, 0, none⟩) p.length cp') p.length (byteCells p) := hk3.row HO.out HNX.out
          have HK3 : Hid (Kept (fun q => (X q ∨ q = lp) ∨ W.heap.size ≤ q) W W3) := HKP.out.trans (hk3.mono fun q h => .inl h)
          have HJ3 := Lib.hid hJ3
          have gi3 := ho3.cells (g := gr) rfl i (.int .u8 (p[i].toNat : Int)) (by simp [byteCells, List.getElem?_eq_getElem hlen])
          rw [hpi, Addr.add_lit, Nat.zero_add] at gi3
          have t3 : W3.cell? ⟨pt, 0, none⟩ = some (.slice (some ⟨g, 0, none⟩) l.length cp) := HK3.out.cell HC2.out (by simp [hx1]; omega)
          have t4 := HK3.out.cell (HAT.out j hjl).1 (by simp [hx2]; omega)
          have t5 := HK3.out.cell (HAT.out j hjl).2 (by have := n4.out j hjl; simp [HX3.out j hjl]; omega)
          unfold clo at t4
          have hs3 : W.heap.size ≤ W3.heap.size := HK3.out.size
          have HLI := Lib.hid (fun w => letterAt ((fixB l k i).toNat : Int) (j : Int) w (by have := HBJ.out; omega) (by omega) (by omega))
          have HAP := Lib.hid (implAppendText l[j] (S + j) W.heap.size (.slice (some ⟨gr, 0, none⟩) p.length cp') p.length p W3.drew t5 ho3.drew (by have := HM.out; omega) (by omega) (by simpa using hs3))
          have bj : (j : Int) < (l.length : Int) := by omega
          clear hk3 hJ3 ho3
          gi_wp2
          refine wpIn_wide.2 ?_
          go_region_with (first
            | (go_at_call 72; refine (HLI.out _).mono ?_; rintro e w' ⟨rfl, rfl⟩)
            | (refine HAP.out.mono ?_; rintro e w1 ⟨v1, rfl, ho1, hg1⟩))
          all_goals
            have HOX := Lib.hid ho1
            have HKX : Hid (Kept (fun q => W.heap.size ≤ q) W3 w1) := ((Kept.refl _ W3).drew).grown hg1 (fun q e => (HO.out.lt q e).1)
            clear ho1 hg1 t3 t4 t5 gi3
            go_wp2_with fail
            gi_wp2
            go_roundg (gk - 1)
            case rel =>
              obtain ⟨h1, h2⟩ := HI0.out
              have h3 := HHIM.out
              refine ⟨i + 1, m + 1, by omega, .inr ⟨by omega, by omega⟩, by go_num, ?_, HAB.out _ _ _ HJ3.out (HKX.out.mono fun q h => ⟨trivial, h⟩), HK3.out.trans (HKX.out.mono fun q h => .inr h)⟩
              rw [HNEXT.out, List.length_append, show l[j].data.toList.length = l[j].size by simp]
              exact HOX.out
            case measure => have h3 := HHIM.out; omega
        · gi_wp2
          go_end0
          exact ⟨⟨_, rfl⟩, hJx3⟩
end Go.Proofs.Ytbbcdeknnfghkaa

/- The letters that come first, again and again: the program's iterator. Condition: the substitution is valid. -/
namespace Go.Proofs.Ytbbcdeknnfghkaa
open Go.RowKit
attribute [local go_sem] Oper.semAt_some

/-- the i-th letter as a byte -/
def encGo (l : List ByteArray) (k i : Nat) : Value := .int .u8 (97 + (goN l k i : Int))

set_option maxRecDepth 100000 in
set_option maxHeartbeats 1000000 in
theorem firstStreams (l : List ByteArray) (k : Nat) (X : Nat → Prop) (N pl ps b off cp : Nat) (w : World) (hl : substB l = true) (hk : k < l.length)
    (hpl : w.cell? ⟨pl, 0, none⟩ = some (.int .u8 (97 + (k : Int)))) (hps : w.cell? ⟨ps, 0, none⟩ = some (.slice (some ⟨b, off, none⟩) l.length cp))
    (hat : ∀ j (_ : j < l.length), w.cell? ⟨b, off + j, none⟩ = some (.string l[j])) (hx1 : ¬ X ps) (hx2 : ¬ X b) :
    Streams Try.prog 97 #[.pointer (some ⟨pl, 0, none⟩), .pointer (some ⟨ps, 0, none⟩)] (encGo l k) X False N w := by
  intro lp J Jx W hW hl1 hl2 hab hy h0
  obtain ⟨hm1, hm4, _⟩ := subst_parts hl
  have c1 := (hW.cell (World.block_lt_of_cell? w _ hpl)).trans hpl
  have c2 := (hW.cell (World.block_lt_of_cell? w _ hps)).trans hps
  have n2 : ps ≠ lp := by have : ps < w.heap.size := World.block_lt_of_cell? w ⟨ps, 0, none⟩ hps; omega
  have HAT : Hid (∀ j (_ : j < l.length), W.cell? ⟨b, off + j, none⟩ = some (.string l[j])) := fun j hj => (hW.cell (World.block_lt_of_cell? w _ (hat j hj))).trans (hat j hj)
  have n3 : b ≠ lp := by have : b < w.heap.size := World.block_lt_of_cell? w ⟨b, off + 0, none⟩ (hat 0 (by omega)); omega
  have HY := Lib.hid hy
  have HC2 := Lib.hid c2
  have HAB := Lib.hid hab
  clear hpl hps hat hW hl1 hl2 hab hy c2
  refine callsIn_of_wp Try.func97 rfl trivial ?_ rfl
  simp only [Try.ntmps97, List.size_toArray, List.length_cons, List.length_nil, Nat.reduceAdd, Nat.reduceSub, Array.replicate_succ, Array.replicate_zero, List.push_toArray, List.append_toArray, List.nil_append, List.cons_append]
  gi_wp2
  gi_loopg [4] N (fun m o wr => ∃ i : Nat, i + m = N ∧ o = encGo l k i ∧ J i wr ∧ Kept (fun q => X q ∨ q = lp) W wr)
  case atStart => exact ⟨0, by omega, rfl, h0, Kept.refl _ _⟩
  case round =>
    obtain ⟨i, him, rfl, hj, hkp⟩ := hrel
    obtain ⟨hlt, fn, tmps, assign, body, hy, hR⟩ := HY.out i _ hj
    obtain ⟨f0, f1, f2⟩ := first_at hl (goN_lt hl hk i)
    have hgi := goN_lt hl hk i
    have hgs : goN l k (i + 1) = firstN l (goN l k i) := rfl
    unfold encGo at hy ⊢
    have HR := Lib.hid hR
    have HKP := Lib.hid hkp
    have HLI := Lib.hid (fun w => letterAt (97 + (goN l k i : Int)) (goN l k i : Int) w (by omega) (by omega) (by omega))
    clear hR hkp
    gi_wp2
    refine HR.out.mono ?_
    rintro e W3 (⟨rfl, hJ3, hk3⟩ | ⟨rfl, hJx3⟩)
    · have g2 := (HKP.out.trans hk3).cell HC2.out (by simp [hx1, n2])
      have g3 := (HKP.out.trans hk3).cell (HAT.out _ hgi) (by simp [hx2, n3])
      have hkp3 := Lib.hid (HKP.out.trans hk3)
      gi_wp2
      refine wpIn_wide.2 ?_
      have HQ : ∀ n, Calls Try.prog 72 #[.int .u8 (97 + (goN l k i : Int))] (W3.drewN n) fun e w'' => e = .returned (.int .i64 (goN l k i)) ∧ ∃ m, w'' = W3.drewN m := fun n => Calls.quiet_of_same ((HLI.out (W3.drewN n)).mono (by rintro e w' ⟨rfl, rfl⟩; exact ⟨rfl, rfl⟩))
      have b1 : (goN l k i : Int) < (l.length : Int) := by omega
      have b2 : (0 : Int) < ((l[goN l k i].size : Nat) : Int) := by omega
      go_quiet (exact HQ _)
      go_wp2_with fail
      go_roundg (gk - 1)
      case rel => exact ⟨i + 1, by omega, rfl, HAB.out _ _ _ hJ3 ((Kept.refl _ W3).drewN nq), hkp3.out.drewN nq⟩
      case measure => omega
    · gi_wp2
      go_end0
      exact ⟨⟨_, rfl⟩, hJx3⟩
end Go.Proofs.Ytbbcdeknnfghkaa

/- The makers of the two iterators: they box their arguments and hand over the closure. No condition. -/
namespace Go.Proofs.Ytbbcdeknnfghkaa
open Go.RowKit

set_option maxRecDepth 100000 in
theorem implFixedLetters (A : Option Addr) (n cp : Nat) (c : Int) (w : World) :
    Calls Try.prog 84 #[.slice A n cp, .int .u8 c] w fun e w' => e = .returned (.func (.func 96) #[] #[.pointer (some ⟨w.heap.size, 0, none⟩), .pointer (some ⟨w.heap.size + 1, 0, none⟩)]) ∧ w' = (w.alloc (.cells #[.slice A n cp] 65)).alloc (.cells #[.int .u8 c] 5) := by
  go_enter Try.func84, Try.ntmps84
  go_wp2
  go_ret
  exact ⟨rfl, rfl⟩

set_option maxRecDepth 100000 in
theorem implFirstLetters (A : Option Addr) (n cp : Nat) (c : Int) (w : World) :
    Calls Try.prog 89 #[.agg #[.slice A n cp], .int .u8 c] w fun e w' => e = .returned (.func (.func 97) #[] #[.pointer (some ⟨w.heap.size + 1, 0, none⟩), .pointer (some ⟨w.heap.size, 0, none⟩)]) ∧ w' = (w.alloc (.cells #[.slice A n cp] 24)).alloc (.cells #[.int .u8 c] 5) := by
  go_enter Try.func89, Try.ntmps89
  go_wp2
  go_ret
  exact ⟨rfl, rfl⟩
end Go.Proofs.Ytbbcdeknnfghkaa
