/- Texts put together. -/
import Derived.Test.YtbbcdeknnfghkaaMgL15
import Derived.Test.YtbbcdeknnfghkaaMgL16
import Derived.Test.YtbbcdeknnfghkaaMgL8
import Derived.OwnWalkIn
import Derived.TacticsInMore
import Derived.LoopNIn
import Derived.LoopIn
import Derived.Sort.LoopGhostIn
import Derived.Deep.QuietTactic
import Derived.BigQuiet
import Derived.Shelf.Abstract
import Derived.Maps.AppendAt
/- The letters that come first, again and again: the program's iterator. Condition: the substitution is valid. -/
namespace Go.Proofs.Ytbbcdeknnfghkaa
open Go.RowKit
attribute [local go_sem] Oper.semAt_some

/-- the i-th letter as a byte -/
def encGo (l : List ByteArray) (k i : Nat) : Value := .int .u8 (97 + (goN l k i : Int))

set_option maxRecDepth 100000 in
set_option maxHeartbeats 1000000 in
theorem firstStreams (l : List ByteArray) (k : Nat) (X : Nat → Prop) (N pl ps b off cp : Nat) (w : World) (hl : substB l = true) (hk : k < l.length)
    (hpl : w.cell? ⟨pl, 0, none⟩ = some (.int .u8 (97 + (k : Int)))) (hps : w.cell? ⟨ps, 0, none⟩ = some (.slice (some ⟨b, off, none⟩) l.length cp))
    (hat : ∀ j (_ : j < l.length), w.cell? ⟨b, off + j, none⟩ = some (.string l[j])) (hx1 : ¬ X ps) (hx2 : ¬ X b) :
    Streams Try.prog 97 #[.pointer (some ⟨pl, 0, none⟩), .pointer (some ⟨ps, 0, none⟩)] (encGo l k) X False N w := by
  intro lp J Jx W hW hl1 hl2 hab hy h0
  obtain ⟨hm1, hm4, _⟩ := subst_parts hl
  have c1 := (hW.cell (World.block_lt_of_cell? w _ hpl)).trans hpl
  have c2 := (hW.cell (World.block_lt_of_cell? w _ hps)).trans hps
  have n2 : ps ≠ lp := by have : ps < w.heap.size := World.block_lt_of_cell? w ⟨ps, 0, none⟩ hps; omega
  have HAT : Hid (∀ j (_ : j < l.length), W.cell? ⟨b, off + j, none⟩ = some (.string l[j])) := fun j hj => (hW.cell (World.block_lt_of_cell? w _ (hat j hj))).trans (hat j hj)
  have n3 : b ≠ lp := by have : b < w.heap.size := World.block_lt_of_cell? w ⟨b, off + 0, none⟩ (hat 0 (by omega)); omega
  have HY := Lib.hid hy
  have HC2 := Lib.hid c2
  have HAB := Lib.hid hab
  clear hpl hps hat hW hl1 hl2 hab hy c2
  refine callsIn_of_wp Try.func97 rfl trivial ?_ rfl
  simp only [Try.ntmps97, List.size_toArray, List.length_cons, List.length_nil, Nat.reduceAdd, Nat.reduceSub, Array.replicate_succ, Array.replicate_zero, List.push_toArray, List.append_toArray, List.nil_append, List.cons_append]
  gi_wp2
  gi_loopg [4] N (fun m o wr => ∃ i : Nat, i + m = N ∧ o = encGo l k i ∧ J i wr ∧ Kept (fun q => X q ∨ q = lp) W wr)
  case atStart => exact ⟨0, by omega, rfl, h0, Kept.refl _ _⟩
  case round =>
    obtain ⟨i, him, rfl, hj, hkp⟩ := hrel
    obtain ⟨hlt, fn, tmps, assign, body, hy, hR⟩ := HY.out i _ hj
    obtain ⟨f0, f1, f2⟩ := first_at hl (goN_lt hl hk i)
    have hgi := goN_lt hl hk i
    have hgs : goN l k (i + 1) = firstN l (goN l k i) := rfl
    unfold encGo at hy ⊢
    have HR := Lib.hid hR
    have HKP := Lib.hid hkp
    have HLI := Lib.hid (fun w => letterAt (97 + (goN l k i : Int)) (goN l k i : Int) w (by omega) (by omega) (by omega))
    clear hR hkp
    gi_wp2
    refine HR.out.mono ?_
    rintro e W3 (⟨rfl, hJ3, hk3⟩ | ⟨rfl, hJx3⟩)
    · have g2 := (HKP.out.trans hk3).cell HC2.out (by simp [hx1, n2])
      have g3 := (HKP.out.trans hk3).cell (HAT.out _ hgi) (by simp [hx2, n3])
      have hkp3 := Lib.hid (HKP.out.trans hk3)
      gi_wp2
      refine wpIn_wide.2 ?_
      have HQ : ∀ n, Calls Try.prog 72 #[.int .u8 (97 + (goN l k i : Int))] (W3.drewN n) fun e w'' => e = .returned (.int .i64 (goN l k i)) ∧ ∃ m, w'' = W3.drewN m := fun n => Calls.quiet_of_same ((HLI.out (W3.drewN n)).mono (by rintro e w' ⟨rfl, rfl⟩; exact ⟨rfl, rfl⟩))
      have b1 : (goN l k i : Int) < (l.length : Int) := by omega
      have b2 : (0 : Int) < ((l[goN l k i].size : Nat) : Int) := by omega
      go_quiet (exact HQ _)
      go_wp2_with fail
      go_roundg (gk - 1)
      case rel => exact ⟨i + 1, by omega, rfl, HAB.out _ _ _ hJ3 ((Kept.refl _ W3).drewN nq), hkp3.out.drewN nq⟩
      case measure => omega
    · gi_wp2
      go_end0
      exact ⟨⟨_, rfl⟩, hJx3⟩
end Go.Proofs.Ytbbcdeknnfghkaa

/- The makers of the two iterators: they box their arguments and hand over the closure. No condition. -/
namespace Go.Proofs.Ytbbcdeknnfghkaa
open Go.RowKit

set_option maxRecDepth 100000 in
theorem implFixedLetters (A : Option Addr) (n cp : Nat) (c : Int) (w : World) :
    Calls Try.prog 84 #[.slice A n cp, .int .u8 c] w fun e w' => e = .returned (.func (.func 96) #[] #[.pointer (some ⟨w.heap.size, 0, none⟩), .pointer (some ⟨w.heap.size + 1, 0, none⟩)]) ∧ w' = (w.alloc (.cells #[.slice A n cp] 65)).alloc (.cells #[.int .u8 c] 5) := by
  go_enter Try.func84, Try.ntmps84
  go_wp2
  go_ret
  exact ⟨rfl, rfl⟩

set_option maxRecDepth 100000 in
theorem implFirstLetters (A : Option Addr) (n cp : Nat) (c : Int) (w : World) :
    Calls Try.prog 89 #[.agg #[.slice A n cp], .int .u8 c] w fun e w' => e = .returned (.func (.func 97) #[] #[.pointer (some ⟨w.heap.size + 1, 0, none⟩), .pointer (some ⟨w.heap.size, 0, none⟩)]) ∧ w' = (w.alloc (.cells #[.slice A n cp] 24)).alloc (.cells #[.int .u8 c] 5) := by
  go_enter Try.func89, Try.ntmps89
  go_wp2
  go_ret
  exact ⟨rfl, rfl⟩
end Go.Proofs.Ytbbcdeknnfghkaa

/- fixedStart of the program: the first n letters of the fixed point. Conditions: the substitution is valid, the letter growing, n of at most 10,001. -/
namespace Go.Proofs.Ytbbcdeknnfghkaa
open Go.RowKit Go.Shelf
attribute [local go_sem] Oper.semAt_some

set_option maxRecDepth 100000 in
set_option maxHeartbeats 1000000 in
theorem implFixedStart (l : List ByteArray) (v : Value) (t : ByteArray) (n : Nat) (w : World) (h : Lst w v (strs l)) (hg : growOk l t = true) (hn : n ≤ 10001) :
    Calls Try.prog 52 #[.agg #[v], .string t, .int .i64 n] w fun e w' => ∃ v', e = .returned v' ∧ w'.ownsRow w.heap.size 5 1 v' n (byteCells (fixL l (letN t) n)) ∧ Below w.heap.size w w' := by
  obtain ⟨i0, hi0, hz0, hz1, hz2⟩ := info_parts u8_info
  obtain ⟨A, cp, rfl⟩ := lst_slice h
  rw [strs_length] at h ⊢
  refine (callsIn_wide (n := 9)).1 (callsIn_of_wp_marks Try.func52 rfl trivial ?_ rfl)
  simp only [Try.ntmps52, List.size_toArray, List.length_cons, List.length_nil, Nat.reduceAdd, Nat.reduceSub, Array.replicate_succ, Array.replicate_zero, List.push_toArray, List.append_toArray, List.nil_append, List.cons_append]
  refine wpIn_wide.2 ?_
  go_upto_region 2 with (at_make; refine wpList_make_own _ rfl _ _ 59 rfl w.heap.size 5 i0 (.int .u8 0) 1 Try.underlying59 hi0 hz0 hz1 .i64 .i64 n n rfl rfl rfl (by rw [hz2]; omega) (by unfold maxLen; omega) (by simp; omega) ?_; intro w1 hown1 hgrow1)
  obtain ⟨hN, hl, hgb⟩ := grow_parts hg
  obtain ⟨hm1, hm4, _⟩ := subst_parts hl
  have hlet : ∃ h0 : 0 < t.size, t[0].toNat = 97 + letN t := by
    unfold growOk letOk at hg
    simp only [Bool.and_eq_true, decide_eq_true_eq] at hg
    exact ⟨by omega, (letN_at hg.1.1.1.1 hg.1.1.1.2).1⟩
  have hs1 : w.heap.size + 3 ≤ w1.heap.size := by
    have := (hown1.lt (w.heap.size + 1 + 1) (by simp [Value.ownBlock])).2
    omega
  have hb1 : Below w.heap.size w w1 := (((Below.refl _ w).alloc (Nat.le_refl _) _).alloc (by simp) _).grown hgrow1 (by simp; omega) (fun k e => by cases e)
  obtain ⟨W2, hW2⟩ : ∃ W2, w1.alloc (.cells #[.slice (some ⟨w.heap.size + 1 + 1, 0, none⟩) 0 n] 59) = W2 := ⟨_, rfl⟩
  have hS2 : W2.heap.size = w1.heap.size + 1 := by rw [← hW2]; simp
  have HB2 : Hid (Below w.heap.size w W2) := by rw [← hW2]; exact hb1.alloc (by omega) _
  have HX2 : Hid (Boxed W2 w1.heap.size 59 (.slice (some ⟨w.heap.size + 1 + 1, 0, none⟩) 0 n)) := by rw [← hW2]; exact Boxed.new _ _ _
  have HR2 : Hid (W2.ownsRow w.heap.size 5 1 (.slice (some ⟨w.heap.size + 1 + 1, 0, none⟩) 0 n) 0 []) := by rw [← hW2]; have := hown1.alloc (.cells #[.slice (some ⟨w.heap.size + 1 + 1, 0, none⟩) 0 n] 59); simp only [World.size_alloc] at this; exact this
  have c0 : W2.cell? ⟨w.heap.size, 0, none⟩ = some (.slice A l.length cp) := by
    rw [← hW2]
    have hK1 := hgrow1.cell (a := ⟨w.heap.size, 0, none⟩) (v := .slice A l.length cp) (by go_simp) (by simp)
    exact ((Below.refl w1.heap.size w1).alloc (Nat.le_refl _) _).cell (World.block_lt_of_cell? w1 _ hK1) |>.trans hK1
  have c1 : W2.cell? ⟨w.heap.size + 1, 0, none⟩ = some (.int .i64 n) := by
    rw [← hW2]
    have hK1 := hgrow1.cell (a := ⟨w.heap.size + 1, 0, none⟩) (v := .int .i64 n) (by go_simp) (by simp)
    exact ((Below.refl w1.heap.size w1).alloc (Nat.le_refl _) _).cell (World.block_lt_of_cell? w1 _ hK1) |>.trans hK1
  have HL2 : Hid (Lst W2.drew (.slice A l.length cp) (strs l)) := h.below HB2.out.drew
  rw [hW2]
  clear hW2 hgrow1 hown1 hb1 h hz0 hz2
  obtain ⟨ht0, htl⟩ := hlet
  have HTL := Lib.hid htl
  have bt : (0 : Int) < (t.size : Int) := by omega
  clear htl
  go_cut [15] from 11 to 25 (fun f wx => ∃ g S pt pg, f = .func (.func 96) #[] #[.pointer (some ⟨pt, 0, none⟩), .pointer (some ⟨pg, 0, none⟩)] ∧ W2.heap.size ≤ g ∧ W2.heap.size ≤ S ∧ W2.heap.size ≤ pt ∧ wx.cell? ⟨pg, 0, none⟩ = some (.int .u8 (97 + (letN t : Int))) ∧ wx.cell? ⟨pt, 0, none⟩ = some (.slice (some ⟨g, 0, none⟩) l.length l.length) ∧ ImgTab wx S g l ∧ Below W2.heap.size W2 wx)
  case first =>
    refine wp_calm ?_
    go_region_with (first
      | (go_at_call 57; refine (implTableAt l _ _ HL2.out hm1 hm4).mono ?_; rintro e wt ⟨g, S, hgg, hSS, rfl, hT, hbt⟩)
      | (go_at_call 84; refine (implFixedLetters _ _ _ _ _).mono ?_; rintro e wf ⟨rfl, rfl⟩))
    all_goals
      go_wp2_with fail
      go_meet
      have hsz := hbt.size
      simp only [World.size_drew] at hgg hSS hsz hbt
      have hbb : Below W2.heap.size W2 wt := (Below.refl _ W2).drew.trans hbt
      refine ⟨g, S, wt.heap.size, wt.heap.size + 1, rfl, hgg, hSS, by omega, ?_, ?_, hT.below (((Below.refl _ _).alloc (Nat.le_refl _) _).alloc (by simp) _), (hbb.alloc hsz _).alloc (by simp; omega) _⟩
      · have e : ((t[0].toNat : Nat) : Int) = 97 + (letN t : Int) := by have := HTL.out; omega
        rw [← e]
        go_simp
      · go_simp
  case rest =>
    obtain ⟨g, S, pt, pg, rfl, hgg, hSS, hpt, c2, c3, hT, hbx⟩ := hcut
    obtain ⟨wx, rfl⟩ : ∃ x : World, x = wc := ⟨_, rfl⟩
    have hsx := hbx.size
    have HBX : Hid (Below w.heap.size w wx) := HB2.out.trans (hbx.mono HB2.out.size)
    have HXX : Hid (Boxed wx w1.heap.size 59 (.slice (some ⟨w.heap.size + 1 + 1, 0, none⟩) 0 n)) := (hbx.block _ (by omega)).trans HX2.out
    have kx : Kept (fun _ => False) W2 wx := ⟨hbx.os, hbx.tape, hbx.output, hbx.size, fun k hk _ => hbx.block k hk⟩
    have HRX : Hid (wx.ownsRow w.heap.size 5 1 (.slice (some ⟨w.heap.size + 1 + 1, 0, none⟩) 0 n) 0 (byteCells (fixL l (letN t) 0))) := kx.row HR2.out (fun _ _ h => h)
    have d1 : wx.cell? ⟨w.heap.size + 1, 0, none⟩ = some (.int .i64 n) := kx.cell c1 (fun h => h)
    go_wp2_with fail
    refine (wpIn_wide (n := 9)).1 ?_
    refine rangeOver (gf := 96) (lb := #[.pointer (some ⟨pt, 0, none⟩), .pointer (some ⟨pg, 0, none⟩)]) rfl (enters_of Try.func96 (by kernel_rfl) rfl) rfl
      (enc := encFix l (letN t)) (X := fun k => k = w.heap.size + 1 + 1 ∨ k = w1.heap.size) (Z := True) (N := n + 1) (w0 := wx)
      (fixStreams l (letN t) _ (n + 1) pt pg g l.length S wx hl hN hgb (by omega) c2 c3 hT (by omega) (by omega) (fun j hj => by omega) (fun q hq => by omega)) (Below.refl _ _) (by omega) (by omega)
      (fun i W => (i ≤ n ∧ W.cell? ⟨w.heap.size + 1, 0, none⟩ = some (.int .i64 n)) ∧ Boxed W w1.heap.size 59 (.slice (some ⟨w.heap.size + 1 + 1, 0, none⟩) i n) ∧ W.ownsRow w.heap.size 5 1 (.slice (some ⟨w.heap.size + 1 + 1, 0, none⟩) i n) i (byteCells (fixL l (letN t) i)) ∧ Below w.heap.size w W)
      (fun W => Boxed W w1.heap.size 59 (.slice (some ⟨w.heap.size + 1 + 1, 0, none⟩) n n) ∧ W.ownsRow w.heap.size 5 1 (.slice (some ⟨w.heap.size + 1 + 1, 0, none⟩) n n) n (byteCells (fixL l (letN t) n)) ∧ Below w.heap.size w W)
      0 ?keep ?keepx ⟨⟨Nat.zero_le _, d1⟩, HXX.out, HRX.out, HBX.out⟩ (fun i => { tmps := #[.agg #[.slice A l.length cp], .string t, .int .i64 n, .pointer (some ⟨w.heap.size, 0, none⟩), undef, .pointer (some ⟨w.heap.size + 1, 0, none⟩), .slice none 0 0, .pointer (some ⟨w1.heap.size, 0, none⟩), .int .u8 ((fixB l (letN t) i).toNat : Int), .int .i64 n, .slice (some ⟨w.heap.size + 1 + 1, 0, none⟩) 0 n, u11, u12, u13, u14, .func (.func 96) #[] #[.pointer (some ⟨pt, 0, none⟩), .pointer (some ⟨pg, 0, none⟩)], .int .u8 ((fixB l (letN t) i).toNat : Int), u17, u18, u19, u20, u21, u22, u23, u24, u25], defers := [] }) ?assign ?body ?stop
    case keep =>
      rintro i A1 C ⟨⟨h1, h2⟩, h3, h4, h5⟩ hk
      have nx : ∀ q, q < wx.heap.size → ¬ ((q = wx.heap.size ∨ q = wx.heap.size + 1) ∨ (True ∧ wx.heap.size + 2 ≤ q)) := fun q hq h => by omega
      refine ⟨⟨h1, hk.cell h2 (nx _ (by simp; omega))⟩, hk.boxed h3 (nx _ (by omega)), hk.row h4 (fun q e => nx _ ?_), h5.trans (hk.below (B := w.heap.size) (fun q h => by omega) h5.size)⟩
      simp [Value.ownBlock] at e
      omega
    case keepx =>
      rintro A1 C ⟨h3, h4, h5⟩ hk
      refine ⟨hk.boxed h3 (by omega), hk.row h4 (fun q e => ?_), h5.trans (hk.below (B := w.heap.size) (fun q h => by omega) h5.size)⟩
      simp [Value.ownBlock] at e
      omega
    case assign =>
      intro lp i A' K hK
      gi_wp2
      exact hK
    case body =>
      rintro lp i A1 _ ⟨⟨hin, hcn⟩, hbx1, hro, hbl⟩
      refine ⟨by omega, ?_⟩
      have hc1 := hbx1.cell
      have hf1 := hbx1.frozen
      by_cases e : i = n
      · have dE : ((i : Int) == (n : Int)) = true := by simp; omega
        have HE := Lib.hid e
        clear e
        gi_wp2
        refine ⟨rfl, Kept.refl _ _, ?_⟩
        rw [HE.out] at hbx1 hro
        exact ⟨hbx1, hro, hbl⟩
      · have dE : ((i : Int) == (n : Int)) = false := by simp; omega
        have HBX1 := Lib.hid hbx1
        have HRO := Lib.hid hro
        have HCN := Lib.hid hcn
        have HBL := Lib.hid hbl
        have HSN := Lib.hid (fixL_snoc hl hN hgb i)
        have hlt1 := hbx1.lt
        clear hbx1 hro hbl
        gi_wp2_with (gi_at_builtin; refine wpListIn_append_fits _ rfl (.tmp 21) (.tmp 23) 59 rfl w.heap.size 5 i0 1 Try.underlying59 hi0 hz1 (w.heap.size + 1 + 1) i n _ rfl (HRO.out.alloc _) ⟨A1.heap.size, 0, none⟩ 1 1 [.int .u8 ((fixB l (letN t) i).toNat : Int)] rfl rfl (cell_one_new _ _ _) (by simp [Value.oneCell']) (by omega) ?_; intro w5 hown5 hgrow5; have hc5 : w5.cell? ⟨w1.heap.size, 0, none⟩ = some (.slice (some ⟨w.heap.size + 1 + 1, 0, none⟩) i n) := (hgrow5.cell (a := ⟨w1.heap.size, 0, none⟩) (((Below.refl _ A1).alloc (Nat.le_refl _) _).cell hlt1 |>.trans hc1) (by simp; omega)); have hf5 : w5.frozen? ⟨w1.heap.size, 0, none⟩ = false := (World.frozen?_of_block (hgrow5.block w1.heap.size (by simp; omega) (by simp; omega))).trans ((((Below.refl _ A1).alloc (Nat.le_refl _) _).frozen hlt1).trans hf1))
        have ka : Kept (fun k => k = w.heap.size + 1 + 1 ∨ k = w1.heap.size) A1 (w5.setCell ⟨w1.heap.size, 0, none⟩ (.slice (some ⟨w.heap.size + 1 + 1, 0, none⟩) (i + 1) n)) :=
          ((((Kept.refl _ A1).alloc _).grown hgrow5 (fun k e => by cases e; exact .inl rfl)).setCell (.inr rfl) _)
        have hb5 : Boxed w5 w1.heap.size 59 (.slice (some ⟨w.heap.size + 1 + 1, 0, none⟩) i n) := (HBX1.out.alloc _).kept hgrow5 (by simp; omega)
        refine ⟨ka, ⟨by omega, ka.cell HCN.out (by simp; omega)⟩, hb5.set _, ?_, HBL.out.trans (ka.below (fun q h => by omega) HBL.out.size)⟩
        rw [HSN.out, byteCells_snoc]
        exact hown5.kept (grownBy_setCell' w5 w1.heap.size _) (.inr (by simp [Value.ownBlock]; omega))
    case stop =>
      rintro D C hD ⟨h3, h4, h5⟩ hK
      have hc1 := h3.cell
      gi_wp2
      go_wp2_with fail
      have kD : Kept (fun k => k = D) C (C.putObj D (.deferred none)) := (Kept.refl _ C).putObj _ rfl
      refine ⟨by simp, .inl ⟨_, _, rfl, run_takeDeferred hK, ?_⟩⟩
      refine ⟨_, results_tmp rfl _ _ _, .slice (some ⟨w.heap.size + 1 + 1, 0, none⟩) n n, rfl, kD.row h4 (fun q e => ?_), h5.trans (kD.below (fun q h => by omega) h5.size)⟩
      simp [Value.ownBlock] at e
      omega
end Go.Proofs.Ytbbcdeknnfghkaa
