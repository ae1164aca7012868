/- Texts put together. -/
import Derived.Test.YthckpgfhldocdaaMgp27
import Derived.Shelf.Abstract
import Derived.Maps.AppendAt
import Derived.OwnWalkIn
import Derived.Test.YthckpgfhldocdaaMgp2
import Derived.Deep.WholeRow
import Derived.Deep.MidRow
import Derived.Laws.CopyOwn
import Derived.Test.YthckpgfhldocdaaRows
import Derived.Lib.Hide
import Derived.OwnWalk
import Derived.IntWalk
import Derived.BigRegion
/- The makers of the two iterators: they box their arguments and hand over the closure. No condition. -/
namespace Go.Proofs.Ythckpgfhldocdaa
open Go.RowKit

set_option maxRecDepth 100000 in
theorem implFixedLetters (A : Option Addr) (n cp : Nat) (c : Int) (w : World) :
    Calls Try.prog 50 #[.slice A n cp, .int .u8 c] w fun e w' => e = .returned (.func (.func 69) #[] #[.pointer (some ⟨w.heap.size, 0, none⟩), .pointer (some ⟨w.heap.size + 1, 0, none⟩)]) ∧ w' = (w.alloc (.cells #[.slice A n cp] 76)).alloc (.cells #[.int .u8 c] 5) := by
  go_enter Try.func50, Try.ntmps50
  go_wp2
  go_ret
  exact ⟨rfl, rfl⟩

end Go.Proofs.Ythckpgfhldocdaa

/- fixedStart of the program: the first n letters of the fixed point. Conditions: the substitution is valid, the letter growing, n of at most 10,001. -/
namespace Go.Proofs.Ythckpgfhldocdaa
open Go.RowKit Go.Shelf
attribute [local go_sem] Oper.semAt_some

set_option maxRecDepth 100000 in
set_option maxHeartbeats 1000000 in
theorem implFixedStart (l : List ByteArray) (v : Value) (t : ByteArray) (n : Nat) (w : World) (h : Lst w v (strs l)) (hg : growOk l t = true) (hn : n ≤ 10001) :
    Calls Try.prog 32 #[.agg #[v], .string t, .int .i64 n] w fun e w' => ∃ v', e = .returned v' ∧ w'.ownsRow w.heap.size 5 1 v' n (byteCells (fixL l (letN t) n)) ∧ Below w.heap.size w w' := by
  obtain ⟨i0, hi0, hz0, hz1, hz2⟩ := info_parts u8_info
  obtain ⟨A, cp, rfl⟩ := lst_slice h
  rw [strs_length] at h ⊢
  refine (callsIn_wide (n := 9)).1 (callsIn_of_wp_marks Try.func32 rfl trivial ?_ rfl)
  simp only [Try.ntmps32, List.size_toArray, List.length_cons, List.length_nil, Nat.reduceAdd, Nat.reduceSub, Array.replicate_succ, Array.replicate_zero, List.push_toArray, List.append_toArray, List.nil_append, List.cons_append]
  refine wpIn_wide.2 ?_
  go_upto_region 2 with (at_make; refine wpList_make_own _ rfl _ _ 22 rfl w.heap.size 5 i0 (.int .u8 0) 1 Try.underlying22 hi0 hz0 hz1 .i64 .i64 n n rfl rfl rfl (by rw [hz2]; omega) (by unfold maxLen; omega) (by simp; omega) ?_; intro w1 hown1 hgrow1)
  obtain ⟨hN, hl, hgb⟩ := grow_parts hg
  obtain ⟨hm1, hm4, _⟩ := subst_parts hl
  have hlet : ∃ h0 : 0 < t.size, t[0].toNat = 97 + letN t := by
    unfold growOk letOk at hg
    simp only [Bool.and_eq_true, decide_eq_true_eq] at hg
    exact ⟨by omega, (letN_at hg.1.1.1.1 hg.1.1.1.2).1⟩
  have hs1 : w.heap.size + 3 ≤ w1.heap.size := by
    have := (hown1.lt (w.heap.size + 1 + 1) (by simp [Value.ownBlock])).2
    omega
  have hb1 : Below w.heap.size w w1 := (((Below.refl _ w).alloc (Nat.le_refl _) _).alloc (by simp) _).grown hgrow1 (by simp; omega) (fun k e => by cases e)
  obtain ⟨W2, hW2⟩ : ∃ W2, w1.alloc (.cells #[.slice (some ⟨w.heap.size + 1 + 1, 0, none⟩) 0 n] 22) = W2 := ⟨_, rfl⟩
  have hS2 : W2.heap.size = w1.heap.size + 1 := by rw [← hW2]; simp
  have HB2 : Hid (Below w.heap.size w W2) := by rw [← hW2]; exact hb1.alloc (by omega) _
  have HX2 : Hid (Boxed W2 w1.heap.size 22 (.slice (some ⟨w.heap.size + 1 + 1, 0, none⟩) 0 n)) := by rw [← hW2]; exact Boxed.new _ _ _
  have HR2 : Hid (W2.ownsRow w.heap.size 5 1 (.slice (some ⟨w.heap.size + 1 + 1, 0, none⟩) 0 n) 0 []) := by rw [← hW2]; have := hown1.alloc (.cells #[.slice (some ⟨w.heap.size + 1 + 1, 0, none⟩) 0 n] 22); simp only [World.size_alloc] at this; exact this
  have c0 : W2.cell? ⟨w.heap.size, 0, none⟩ = some (.slice A l.length cp) := by
    rw [← hW2]
    have hK1 := hgrow1.cell (a := ⟨w.heap.size, 0, none⟩) (v := .slice A l.length cp) (by go_simp) (by simp)
    exact ((Below.refl w1.heap.size w1).alloc (Nat.le_refl _) _).cell (World.block_lt_of_cell? w1 _ hK1) |>.trans hK1
  have c1 : W2.cell? ⟨w.heap.size + 1, 0, none⟩ = some (.int .i64 n) := by
    rw [← hW2]
    have hK1 := hgrow1.cell (a := ⟨w.heap.size + 1, 0, none⟩) (v := .int .i64 n) (by go_simp) (by simp)
    exact ((Below.refl w1.heap.size w1).alloc (Nat.le_refl _) _).cell (World.block_lt_of_cell? w1 _ hK1) |>.trans hK1
  have HL2 : Hid (Lst W2.drew (.slice A l.length cp) (strs l)) := h.below HB2.out.drew
  rw [hW2]
  clear hW2 hgrow1 hown1 hb1 h hz0 hz2
  obtain ⟨ht0, htl⟩ := hlet
  have HTL := Lib.hid htl
  have bt : (0 : Int) < (t.size : Int) := by omega
  clear htl
  go_cut [15] from 11 to 25 (fun f wx => ∃ g S pt pg, f = .func (.func 69) #[] #[.pointer (some ⟨pt, 0, none⟩), .pointer (some ⟨pg, 0, none⟩)] ∧ W2.heap.size ≤ g ∧ W2.heap.size ≤ S ∧ W2.heap.size ≤ pt ∧ wx.cell? ⟨pg, 0, none⟩ = some (.int .u8 (97 + (letN t : Int))) ∧ wx.cell? ⟨pt, 0, none⟩ = some (.slice (some ⟨g, 0, none⟩) l.length l.length) ∧ ImgTab wx S g l ∧ Below W2.heap.size W2 wx)
  case first =>
    refine wp_calm ?_
    go_region_with (first
      | (go_at_call 49; refine (implTableAt l _ _ HL2.out hm1 hm4).mono ?_; rintro e wt ⟨g, S, hgg, hSS, rfl, hT, hbt⟩)
      | (go_at_call 50; refine (implFixedLetters _ _ _ _ _).mono ?_; rintro e wf ⟨rfl, rfl⟩))
    all_goals
      go_wp2_with fail
      go_meet
      have hsz := hbt.size
      simp only [World.size_drew] at hgg hSS hsz hbt
      have hbb : Below W2.heap.size W2 wt := (Below.refl _ W2).drew.trans hbt
      refine ⟨g, S, wt.heap.size, wt.heap.size + 1, rfl, hgg, hSS, by omega, ?_, ?_, hT.below (((Below.refl _ _).alloc (Nat.le_refl _) _).alloc (by simp) _), (hbb.alloc hsz _).alloc (by simp; omega) _⟩
      · have e : ((t[0].toNat : Nat) : Int) = 97 + (letN t : Int) := by have := HTL.out; omega
        rw [← e]
        go_simp
      · go_simp
  case rest =>
    obtain ⟨g, S, pt, pg, rfl, hgg, hSS, hpt, c2, c3, hT, hbx⟩ := hcut
    obtain ⟨wx, rfl⟩ : ∃ x : World, x = wc := ⟨_, rfl⟩
    have hsx := hbx.size
    have HBX : Hid (Below w.heap.size w wx) := HB2.out.trans (hbx.mono HB2.out.size)
    have HXX : Hid (Boxed wx w1.heap.size 22 (.slice (some ⟨w.heap.size + 1 + 1, 0, none⟩) 0 n)) := (hbx.block _ (by omega)).trans HX2.out
    have kx : Kept (fun _ => False) W2 wx := ⟨hbx.os, hbx.tape, hbx.output, hbx.size, fun k hk _ => hbx.block k hk⟩
    have HRX : Hid (wx.ownsRow w.heap.size 5 1 (.slice (some ⟨w.heap.size + 1 + 1, 0, none⟩) 0 n) 0 (byteCells (fixL l (letN t) 0))) := kx.row HR2.out (fun _ _ h => h)
    have d1 : wx.cell? ⟨w.heap.size + 1, 0, none⟩ = some (.int .i64 n) := kx.cell c1 (fun h => h)
    go_wp2_with fail
    refine (wpIn_wide (n := 9)).1 ?_
    refine rangeOver (gf := 69) (lb := #[.pointer (some ⟨pt, 0, none⟩), .pointer (some ⟨pg, 0, none⟩)]) rfl (enters_of Try.func69 (by kernel_rfl) rfl) rfl
      (enc := encFix l (letN t)) (X := fun k => k = w.heap.size + 1 + 1 ∨ k = w1.heap.size) (Z := True) (N := n + 1) (w0 := wx)
      (fixStreams l (letN t) _ (n + 1) pt pg g l.length S wx hl hN hgb (by omega) c2 c3 hT (by omega) (by omega) (fun j hj => by omega) (fun q hq => by omega)) (Below.refl _ _) (by omega) (by omega)
      (fun i W => (i ≤ n ∧ W.cell? ⟨w.heap.size + 1, 0, none⟩ = some (.int .i64 n)) ∧ Boxed W w1.heap.size 22 (.slice (some ⟨w.heap.size + 1 + 1, 0, none⟩) i n) ∧ W.ownsRow w.heap.size 5 1 (.slice (some ⟨w.heap.size + 1 + 1, 0, none⟩) i n) i (byteCells (fixL l (letN t) i)) ∧ Below w.heap.size w W)
      (fun W => Boxed W w1.heap.size 22 (.slice (some ⟨w.heap.size + 1 + 1, 0, none⟩) n n) ∧ W.ownsRow w.heap.size 5 1 (.slice (some ⟨w.heap.size + 1 + 1, 0, none⟩) n n) n (byteCells (fixL l (letN t) n)) ∧ Below w.heap.size w W)
      0 ?keep ?keepx ⟨⟨Nat.zero_le _, d1⟩, HXX.out, HRX.out, HBX.out⟩ (fun i => { tmps := #[.agg #[.slice A l.length cp], .string t, .int .i64 n, .pointer (some ⟨w.heap.size, 0, none⟩), undef, .pointer (some ⟨w.heap.size + 1, 0, none⟩), .slice none 0 0, .pointer (some ⟨w1.heap.size, 0, none⟩), .int .u8 ((fixB l (letN t) i).toNat : Int), .int .i64 n, .slice (some ⟨w.heap.size + 1 + 1, 0, none⟩) 0 n, u11, u12, u13, u14, .func (.func 69) #[] #[.pointer (some ⟨pt, 0, none⟩), .pointer (some ⟨pg, 0, none⟩)], .int .u8 ((fixB l (letN t) i).toNat : Int), u17, u18, u19, u20, u21, u22, u23, u24, u25], defers := [] }) ?assign ?body ?stop
    case keep =>
      rintro i A1 C ⟨⟨h1, h2⟩, h3, h4, h5⟩ hk
      have nx : ∀ q, q < wx.heap.size → ¬ ((q = wx.heap.size ∨ q = wx.heap.size + 1) ∨ (True ∧ wx.heap.size + 2 ≤ q)) := fun q hq h => by omega
      refine ⟨⟨h1, hk.cell h2 (nx _ (by simp; omega))⟩, hk.boxed h3 (nx _ (by omega)), hk.row h4 (fun q e => nx _ ?_), h5.trans (hk.below (B := w.heap.size) (fun q h => by omega) h5.size)⟩
      simp [Value.ownBlock] at e
      omega
    case keepx =>
      rintro A1 C ⟨h3, h4, h5⟩ hk
      refine ⟨hk.boxed h3 (by omega), hk.row h4 (fun q e => ?_), h5.trans (hk.below (B := w.heap.size) (fun q h => by omega) h5.size)⟩
      simp [Value.ownBlock] at e
      omega
    case assign =>
      intro lp i A' K hK
      gi_wp2
      exact hK
    case body =>
      rintro lp i A1 _ ⟨⟨hin, hcn⟩, hbx1, hro, hbl⟩
      refine ⟨by omega, ?_⟩
      have hc1 := hbx1.cell
      have hf1 := hbx1.frozen
      by_cases e : i = n
      · have dE : ((i : Int) == (n : Int)) = true := by simp; omega
        have HE := Lib.hid e
        clear e
        gi_wp2
        refine ⟨rfl, Kept.refl _ _, ?_⟩
        rw [HE.out] at hbx1 hro
        exact ⟨hbx1, hro, hbl⟩
      · have dE : ((i : Int) == (n : Int)) = false := by simp; omega
        have HBX1 := Lib.hid hbx1
        have HRO := Lib.hid hro
        have HCN := Lib.hid hcn
        have HBL := Lib.hid hbl
        have HSN := Lib.hid (fixL_snoc hl hN hgb i)
        have hlt1 := hbx1.lt
        clear hbx1 hro hbl
        gi_wp2_with (gi_at_builtin; refine wpListIn_append_fits _ rfl (.tmp 21) (.tmp 23) 22 rfl w.heap.size 5 i0 1 Try.underlying22 hi0 hz1 (w.heap.size + 1 + 1) i n _ rfl (HRO.out.alloc _) ⟨A1.heap.size, 0, none⟩ 1 1 [.int .u8 ((fixB l (letN t) i).toNat : Int)] rfl rfl (cell_one_new _ _ _) (by simp [Value.oneCell']) (by omega) ?_; intro w5 hown5 hgrow5; have hc5 : w5.cell? ⟨w1.heap.size, 0, none⟩ = some (.slice (some ⟨w.heap.size + 1 + 1, 0, none⟩) i n) := (hgrow5.cell (a := ⟨w1.heap.size, 0, none⟩) (((Below.refl _ A1).alloc (Nat.le_refl _) _).cell hlt1 |>.trans hc1) (by simp; omega)); have hf5 : w5.frozen? ⟨w1.heap.size, 0, none⟩ = false := (World.frozen?_of_block (hgrow5.block w1.heap.size (by simp; omega) (by simp; omega))).trans ((((Below.refl _ A1).alloc (Nat.le_refl _) _).frozen hlt1).trans hf1))
        have ka : Kept (fun k => k = w.heap.size + 1 + 1 ∨ k = w1.heap.size) A1 (w5.setCell ⟨w1.heap.size, 0, none⟩ (.slice (some ⟨w.heap.size + 1 + 1, 0, none⟩) (i + 1) n)) :=
          ((((Kept.refl _ A1).alloc _).grown hgrow5 (fun k e => by cases e; exact .inl rfl)).setCell (.inr rfl) _)
        have hb5 : Boxed w5 w1.heap.size 22 (.slice (some ⟨w.heap.size + 1 + 1, 0, none⟩) i n) := (HBX1.out.alloc _).kept hgrow5 (by simp; omega)
        refine ⟨ka, ⟨by omega, ka.cell HCN.out (by simp; omega)⟩, hb5.set _, ?_, HBL.out.trans (ka.below (fun q h => by omega) HBL.out.size)⟩
        rw [HSN.out, byteCells_snoc]
        exact hown5.kept (grownBy_setCell' w5 w1.heap.size _) (.inr (by simp [Value.ownBlock]; omega))
    case stop =>
      rintro D C hD ⟨h3, h4, h5⟩ hK
      have hc1 := h3.cell
      gi_wp2
      go_wp2_with fail
      have kD : Kept (fun k => k = D) C (C.putObj D (.deferred none)) := (Kept.refl _ C).putObj _ rfl
      refine ⟨by simp, .inl ⟨_, _, rfl, run_takeDeferred hK, ?_⟩⟩
      refine ⟨_, results_tmp rfl _ _ _, .slice (some ⟨w.heap.size + 1 + 1, 0, none⟩) n n, rfl, kD.row h4 (fun q e => ?_), h5.trans (kD.below (fun q h => by omega) h5.size)⟩
      simp [Value.ownBlock] at e
      omega
end Go.Proofs.Ythckpgfhldocdaa

/- Squares and rows of the program as cells of an array: 17 and 4 of them. -/
namespace Go.Proofs.Ythckpgfhldocdaa
open Go.RowKit

/-- the cells of a square: its size, its four rows -/
def sqA (n : Int) (f : Nat → Nat → Int) : Array Value := #[.int .i64 n,
  .int .i64 (f 0 0), .int .i64 (f 0 1), .int .i64 (f 0 2), .int .i64 (f 0 3),
  .int .i64 (f 1 0), .int .i64 (f 1 1), .int .i64 (f 1 2), .int .i64 (f 1 3),
  .int .i64 (f 2 0), .int .i64 (f 2 1), .int .i64 (f 2 2), .int .i64 (f 2 3),
  .int .i64 (f 3 0), .int .i64 (f 3 1), .int .i64 (f 3 2), .int .i64 (f 3 3)]
def rowA (c : Nat → Int) : Array Value := #[.int .i64 (c 0), .int .i64 (c 1), .int .i64 (c 2), .int .i64 (c 3)]
theorem sqA_size (n : Int) (f : Nat → Nat → Int) : (sqA n f).size = 17 := rfl
theorem rowA_size (c : Nat → Int) : (rowA c).size = 4 := rfl
theorem four_cases {k : Nat} (h : k < 4) : k = 0 ∨ k = 1 ∨ k = 2 ∨ k = 3 := by omega
theorem sqA_get (n : Int) (f : Nat → Nat → Int) (i k : Nat) (hi : i < 4) (hk : k < 4) : (sqA n f)[1 + i * 4 + k]? = some (.int .i64 (f i k)) := by
  rcases four_cases hi with rfl | rfl | rfl | rfl <;> rcases four_cases hk with rfl | rfl | rfl | rfl <;> rfl
theorem rowA_get (c : Nat → Int) (k : Nat) (hk : k < 4) : (rowA c)[k]? = some (.int .i64 (c k)) := by
  rcases four_cases hk with rfl | rfl | rfl | rfl <;> rfl
def upd2 (f : Nat → Nat → Int) (i k : Nat) (x : Int) : Nat → Nat → Int := fun a b => if a = i ∧ b = k then x else f a b
def upd1 (c : Nat → Int) (k : Nat) (x : Int) : Nat → Int := fun a => if a = k then x else c a
theorem sqA_set (n : Int) (f : Nat → Nat → Int) (i k : Nat) (x : Int) (hi : i < 4) (hk : k < 4) : (sqA n f).toList.set (1 + i * 4 + k) (.int .i64 x) = (sqA n (upd2 f i k x)).toList := by
  rcases four_cases hi with rfl | rfl | rfl | rfl <;> rcases four_cases hk with rfl | rfl | rfl | rfl <;> rfl
theorem rowA_set (c : Nat → Int) (k : Nat) (x : Int) (hk : k < 4) : (rowA c).toList.set k (.int .i64 x) = (rowA (upd1 c k x)).toList := by
  rcases four_cases hk with rfl | rfl | rfl | rfl <;> rfl
theorem sqA_congr {n : Int} {f g : Nat → Nat → Int} (h : ∀ i k, i < 4 → k < 4 → f i k = g i k) : sqA n f = sqA n g := by
  simp [sqA, h]
theorem rowA_congr {c d : Nat → Int} (h : ∀ k, k < 4 → c k = d k) : rowA c = rowA d := by
  simp [rowA, h]

/-- a block of the call's own that holds these cells, whole -/
def Arr (w : World) (B : Nat) (T : TypeId) (b : Nat) (c : Array Value) : Prop :=
  w.ownsRow B T 1 (.slice (some ⟨b, 0, none⟩) c.size c.size) c.size c.toList
theorem Arr.cell {w : World} {B : Nat} {T : TypeId} {b : Nat} {c : Array Value} (h : Arr w B T b c) (k : Nat) (u : Value) (hu : c[k]? = some u) : w.cell? ⟨b, k, none⟩ = some u := by
  have hk : k < c.size := (Array.getElem?_eq_some_iff.1 hu).1
  have h2 := World.ownsRow.cellAt h k (by omega)
  rw [h2]
  simpa using hu
theorem Arr.frozen {w : World} {B : Nat} {T : TypeId} {b : Nat} {c : Array Value} (h : Arr w B T b c) (k : Nat) : w.frozen? ⟨b, k, none⟩ = false :=
  World.ownsRow.frozenAt h k
theorem Arr.made (w : World) (B : Nat) (T : TypeId) (c : Array Value) (hB : B ≤ w.heap.size) (hm : c.size ≤ maxLen) : Arr (w.alloc (.cells c T)) B T w.heap.size c :=
  World.ownsRow_lit w c c.size hB hm (by omega)
theorem Arr.alloc {w : World} {B : Nat} {T : TypeId} {b : Nat} {c : Array Value} (h : Arr w B T b c) (o : Obj) : Arr (w.alloc o) B T b c := World.ownsRow.alloc h o
theorem Arr.below {w w' : World} {B : Nat} {T : TypeId} {b : Nat} {c : Array Value} (h : Arr w B T b c) (hb : Below w.heap.size w w') : Arr w' B T b c := own_below h hb
theorem Arr.lt {w : World} {B : Nat} {T : TypeId} {b : Nat} {c : Array Value} (h : Arr w B T b c) : B ≤ b ∧ b < w.heap.size := World.ownsRow.lt h b rfl
theorem Arr.set {w : World} {B : Nat} {T : TypeId} {b : Nat} {c c' : Array Value} (h : Arr w B T b c) (k : Nat) (u : Value) (hc : c.toList.set k u = c'.toList) : Arr (w.setCell ⟨b, k, none⟩ u) B T b c' := by
  have hs : c'.size = c.size := by
    have := congrArg List.length hc
    simpa using this.symm
  have := (World.ownsRow.stored h k u).1
  rw [hc] at this
  unfold Arr
  rw [hs]
  exact this
theorem Arr.other {w : World} {B : Nat} {T : TypeId} {b : Nat} {c : Array Value} (h : Arr w B T b c) {a : Addr} (ha : a.block ≠ b) (u : Value) : Arr (w.setCell a u) B T b c :=
  own_setCell2 h (fun k hk => by simp [Value.ownBlock] at hk; omega) u
theorem Arr.load {P : Program} {w : World} {B : Nat} {T : TypeId} {b : Nat} {c : Array Value} (h : Arr w B T b c) (n : Nat) (hn : c.size = n) :
    (loadCellsFrom ⟨b, 0, none⟩ 0 n #[]).run P w = .ok c w := by
  subst hn
  have := run_loadCells_list (P := P) w ⟨b, 0, none⟩ c.toList (fun j v hv => by
    have hadd : (⟨b, 0, none⟩ : Addr).add j = ⟨b, j, none⟩ := by unfold Addr.add; split <;> simp_all
    rw [hadd]
    exact h.cell j v (by simpa using hv))
  simpa [loadCells] using this
theorem Arr.heap {w : World} {B : Nat} {T : TypeId} {b : Nat} {c : Array Value} (h : Arr w B T b c) : w.heap[b]? = some (.cells c T (0, 0)) := by
  rcases h.2 with ⟨h', _⟩ | ⟨g', cap', cur, h', hb, hg, hnc, hcm, hcs, htake⟩
  · simp at h'
  · simp only [Value.slice.injEq, Option.some.injEq, Addr.mk.injEq, and_true, true_and] at h'
    obtain ⟨rfl, rfl⟩ := h'
    have e : cur.toList = c.toList := by
      rw [← htake, List.take_of_length_le]
      simp only [Array.length_toList]
      omega
    rw [hg, Array.toList_inj.1 e]
theorem Arr.row {w : World} {B : Nat} {T : TypeId} {b : Nat} {c c' : Array Value} (h : Arr w B T b c) (hs : c'.size = c.size) : Arr (w.setRow b c') B T b c' := by
  rcases h.2 with ⟨h', _⟩ | ⟨g', cap', cur, h', hb, hg, hnc, hcm, hcs, htake⟩
  · simp at h'
  · simp only [Value.slice.injEq, Option.some.injEq, Addr.mk.injEq, and_true, true_and] at h'
    obtain ⟨rfl, rfl⟩ := h'
    refine ⟨by simp, .inr ⟨b, c'.size, c', rfl, hb, setRow_heap w b _ _ T _ h.heap, Nat.le_refl _, by omega, by omega, ?_⟩⟩
    rw [List.take_of_length_le]
    simp
theorem Arr.store {P : Program} {w : World} {B : Nat} {T : TypeId} {b : Nat} {c c' : Array Value} (h : Arr w B T b c) (hs : c'.size = c.size) (hi : (P.info? T).map (·.size) = some c'.size) (h1 : c'.all (·.oneCell') = true) :
    (storeCells ⟨b, 0, none⟩ c'.toList 0).run P w = .ok () (w.setRow b c') := by
  have := run_storeVar_row (P := P) w b T T c c' h.heap hi hs.symm h1
  cases hq : P.info? T with
  | none => simp [hq] at hi
  | some i =>
    have hs : c'.size = i.size := by simp [hq] at hi; omega
    simpa [storeVar, sizeOf, typeInfo, hq, Value.cells, hs] using this
theorem Arr.otherRow {w : World} {B : Nat} {T : TypeId} {b : Nat} {c : Array Value} (h : Arr w B T b c) {g : Nat} (hg : g ≠ b) (cs : Array Value) : Arr (w.setRow g cs) B T b c := by
  refine World.ownsRow.kept h (row := some g) ⟨rfl, rfl, rfl, by simp, fun k _ hk => setRow_other w g k cs (fun e => hk (by rw [e]))⟩ (.inr ?_)
  intro e
  exact hg (by simpa [Value.ownBlock] using e.symm)
theorem sqA_one (n : Int) (f : Nat → Nat → Int) : (sqA n f).all (·.oneCell') = true := by simp [sqA, Value.oneCell']
theorem rowA_one (c : Nat → Int) : (rowA c).all (·.oneCell') = true := by simp [rowA, Value.oneCell']
/-- the first j numbers of c, then 0 -/
def upTo (c : Nat → Int) (j : Nat) : Nat → Int := fun a => if a < j then c a else 0
theorem upTo_succ (c : Nat → Int) (j : Nat) : upd1 (upTo c j) j (c j) = upTo c (j + 1) := by
  funext a
  unfold upd1 upTo
  by_cases h : a = j
  · subst h; simp
  · have e : (a < j + 1) ↔ a < j := by omega
    simp [h, e]
theorem rowA_upTo (c : Nat → Int) : rowA (upTo c 4) = rowA c := rfl
/-- what a load and a store of a whole array or struct of that type ask of the program -/
def RowType (P : Program) (T : TypeId) (n : Nat) : Prop := ∃ d, P.underlying T = some d ∧ d.isRow = true ∧ (P.info? T).map (·.size) = some n
theorem load_arr {P : Program} {w : World} {ops : Array Oper} {rest : List Oper} {op : Oper} {a : Act} {Q : Exit → Act → World → Prop} (hgd : op.guard = none) (ty : TypeId) (x : Operand) (ho : op.op = .load ty x)
    (b B : Nat) (T : TypeId) (c : Array Value) (hx : a.eval x = .pointer (some ⟨b, 0, none⟩)) (hc : Arr w B T b c) (n : Nat) (ht : RowType P ty n) (hn : c.size = n)
    (h : wpList P ops Q rest (a.put op.dst (.agg c)) w) : wpList P ops Q (op :: rest) a w := by
  obtain ⟨d, hu, hd, hi⟩ := ht
  refine wpList_load_mid hgd ty x ho b 0 hx c.toList d (fun j v hv => ?_) hu hd (by simpa [hn] using hi) (by simpa using h)
  rw [Nat.zero_add]
  exact hc.cell j v (by simpa using hv)
/-- the rows of a square, all at once -/
theorem load_part {P : Program} {w : World} {ops : Array Oper} {rest : List Oper} {op : Oper} {a : Act} {Q : Exit → Act → World → Prop} (hgd : op.guard = none) (ty : TypeId) (x : Operand) (ho : op.op = .load ty x)
    (b o B : Nat) (T : TypeId) (c c' : Array Value) (hx : a.eval x = .pointer (some ⟨b, o, none⟩)) (hc : Arr w B T b c) (n : Nat) (ht : RowType P ty n) (hn : c'.size = n)
    (hp : ∀ j v, c'[j]? = some v → c[o + j]? = some v)
    (h : wpList P ops Q rest (a.put op.dst (.agg c')) w) : wpList P ops Q (op :: rest) a w := by
  obtain ⟨d, hu, hd, hi⟩ := ht
  refine wpList_load_mid hgd ty x ho b o hx c'.toList d (fun j v hv => ?_) hu hd (by simpa [hn] using hi) (by simpa using h)
  exact hc.cell _ v (hp j v (by simpa using hv))
theorem store_arr {P : Program} {w : World} {ops : Array Oper} {rest : List Oper} {op : Oper} {a : Act} {Q : Exit → Act → World → Prop} (hgd : op.guard = none) (T : TypeId) (x y : Operand) (ho : op.op = .store T x y)
    (b B : Nat) (c c' : Array Value) (hx : a.eval x = .pointer (some ⟨b, 0, none⟩)) (hy : a.eval y = .agg c') (hc : Arr w B T b c) (n : Nat) (ht : RowType P T n) (hn : c'.size = n) (hs : c'.size = c.size) (h1 : c'.all (·.oneCell') = true)
    (h : wpList P ops Q rest (a.put op.dst undef) (w.setRow b c')) : wpList P ops Q (op :: rest) a w := by
  obtain ⟨d, hu, hd, hi⟩ := ht
  refine wpList_plain hgd fun _ hK => ?_
  unfold Oper.wp execOp
  have := run_storeVar_row (P := P) w b T T c c' hc.heap (by rw [hi, hn]) hs.symm h1
  simp only [ho, hx, hy, Instr.storeAt, Instr.sureAddr, Sem.run_bind, Sem.run_pure, Result.andThen_ok, this]
  exact hK _ _ h
/-- the block that was made last is overwritten -/
theorem store_new {P : Program} {w : World} {ops : Array Oper} {rest : List Oper} {op : Oper} {a : Act} {Q : Exit → Act → World → Prop} (hgd : op.guard = none) (T : TypeId) (x y : Operand) (ho : op.op = .store T x y)
    (b : Nat) (c c' : Array Value) (hb : w.heap.size = b) (hx : a.eval x = .pointer (some ⟨b, 0, none⟩)) (hy : a.eval y = .agg c') (n : Nat) (ht : RowType P T n) (hn : c'.size = n) (hs : c'.size = c.size) (h1 : c'.all (·.oneCell') = true)
    (h : wpList P ops Q rest (a.put op.dst undef) (w.alloc (.cells c' T))) : wpList P ops Q (op :: rest) a (w.alloc (.cells c T)) := by
  subst hb
  obtain ⟨d, hu, hd, hi⟩ := ht
  refine wpList_plain hgd fun _ hK => ?_
  unfold Oper.wp execOp
  have := run_storeVar_new (P := P) w T c c' (by rw [hi, hn]) hs.symm h1
  simp only [ho, hx, hy, Instr.storeAt, Instr.sureAddr, Sem.run_bind, Sem.run_pure, Result.andThen_ok, this]
  exact hK _ _ h
theorem below_drew {B : Nat} {w0 w : World} (hb : Below B w0 w) : Below B w0 w.drew := hb.drew
theorem below_row {B g : Nat} {w0 w : World} (hb : Below B w0 w) (hg : B ≤ g) (cs : Array Value) : Below B w0 (w.setRow g cs) := below_setRow hb hg cs
/-- the result variable in a block of its own -/
theorem result_arr {P : Program} {w : World} {B : Nat} {T : TypeId} {b n : Nat} {c : Array Value} (ty : TypeId) (hc : Arr w B T b c) (ht : RowType P ty n) (hn : c.size = n) :
    (loadVar ty ⟨b, 0, none⟩).run P w = .ok (.agg c) w := by
  obtain ⟨d, hu, hd, hi⟩ := ht
  exact run_loadVar_row w b T ty c (0, 0) d hc.heap hu (by cases d <;> simp_all) (by rw [hi, hn])
/-- a function whose one result is an array or a struct in a variable -/
theorem post_arr {P : Program} {fn : Func} {R : Ending → World → Prop} {a : Act} {w : World} {B : Nat} {T : TypeId} {b n p : Nat} {c : Array Value} (ty : TypeId) (hr : fn.results = #[.cell p ty]) (hp : a.tmps.getD p undef = .pointer (some ⟨b, 0, none⟩))
    (hc : Arr w B T b c) (ht : RowType P ty n) (hn : c.size = n) (hd : a.defers = []) (h : R (.returned (.agg c)) w) : bodyPost P fn R .ret a w := by
  refine bodyPost_ret (v := .agg c) ?_ hd h
  have hp' : a.tmps[p]?.getD undef = .pointer (some ⟨b, 0, none⟩) := by rw [← Array.getD_eq_getD_getElem?]; exact hp
  simp only [results, hr]
  simp [asAddr, hp', result_arr (P := P) ty hc ht hn]
/-- the sixteen numbers of a square, row by row -/
def rowsA (f : Nat → Nat → Int) : Array Value := #[.int .i64 (f 0 0), .int .i64 (f 0 1), .int .i64 (f 0 2), .int .i64 (f 0 3), .int .i64 (f 1 0), .int .i64 (f 1 1), .int .i64 (f 1 2), .int .i64 (f 1 3), .int .i64 (f 2 0), .int .i64 (f 2 1), .int .i64 (f 2 2), .int .i64 (f 2 3), .int .i64 (f 3 0), .int .i64 (f 3 1), .int .i64 (f 3 2), .int .i64 (f 3 3)]
theorem rowPart (n : Int) (f : Nat → Nat → Int) (j : Nat) (v : Value) (h : (rowsA f)[j]? = some v) : (sqA n f)[1 + j]? = some v := by
  have e : (sqA n f).toList.tail = (rowsA f).toList := rfl
  rw [← Array.getElem?_toList] at h ⊢
  rw [← e] at h
  rw [Nat.add_comm]
  simpa using h
theorem index_row {w : World} {ops : Array Oper} {rest : List Oper} {op : Oper} {a : Act} {Q : Exit → Act → World → Prop} (hgd : op.guard = none) (T : TypeId) (hT : Try.prog.underlying T = some (.array 4 3)) (x y : Operand) (ho : op.op = .index T x y)
    (c : Nat → Int) (i : Nat) (hx : a.eval x = .agg (rowA c)) (hy : a.eval y = .int .i64 i) (hi : i < 4)
    (h : wpList Try.prog ops Q rest (a.put op.dst (.int .i64 (c i))) w) : wpList Try.prog ops Q (op :: rest) a w := by
  refine wpList_plain hgd fun _ hK => ?_
  unfold Oper.wp execOp
  have : (Instr.index T (.agg (rowA c)) (.int .i64 i)).run Try.prog w = .ok (.int .i64 (c i)) w := by
    rcases four_cases hi with rfl | rfl | rfl | rfl <;> (simp [Instr.index, asIntOf, run_underlying hT, part, rowA]; try rfl)
  simp only [ho, hx, hy, this, Sem.run_bind, Result.andThen_ok]
  exact hK _ _ h
end Go.Proofs.Ythckpgfhldocdaa

/- Columns, products and marks of the program's squares. -/
namespace Go.Proofs.Ythckpgfhldocdaa
open Go.RowKit
/-- the sum of the first j products of row i of the square and the column -/
def dotF (f : Nat → Nat → Int) (c : Nat → Int) (i : Nat) : Nat → Int
  | 0 => 0
  | j + 1 => dotF f c i j + f i j * c j
/-- each number of the square from -100 to 100, each of the column of at most 10^13 -/
def Small (f : Nat → Nat → Int) (c : Nat → Int) : Prop := ∀ i j, i < 4 → j < 4 → -1000000000000000 ≤ f i j * c j ∧ f i j * c j ≤ 1000000000000000
theorem dotF_small {f : Nat → Nat → Int} {c : Nat → Int} (h : Small f c) (i : Nat) (hi : i < 4) : ∀ j : Nat, j ≤ 4 → -((j : Int) * 1000000000000000) ≤ dotF f c i j ∧ dotF f c i j ≤ (j : Int) * 1000000000000000
  | 0, _ => by simp [dotF]
  | j + 1, hj => by
    have ih := dotF_small h i hi j (by omega)
    have := h i j hi (by omega)
    unfold dotF
    omega
/-- the result's cells while row i is at column j -/
def dotR (f : Nat → Nat → Int) (c : Nat → Int) (i j : Nat) : Nat → Int := fun a => if a < i then dotF f c a 4 else if a = i then dotF f c i j else 0
theorem dotR_at (f : Nat → Nat → Int) (c : Nat → Int) (i j : Nat) : dotR f c i j i = dotF f c i j := by simp [dotR]
theorem dotR_succ (f : Nat → Nat → Int) (c : Nat → Int) (i j : Nat) : upd1 (dotR f c i j) i (dotF f c i j + f i j * c j) = dotR f c i (j + 1) := by
  funext a
  unfold upd1 dotR
  by_cases h : a = i
  · subst h; simp [dotF]
  · simp [h]
theorem dotR_next (f : Nat → Nat → Int) (c : Nat → Int) (i : Nat) : dotR f c i 4 = dotR f c (i + 1) 0 := by
  funext a
  unfold dotR
  by_cases h : a < i
  · rw [if_pos h, if_pos (by omega)]
  · by_cases h2 : a = i
    · subst h2; simp
    · rw [if_neg h, if_neg h2, if_neg (by omega)]
      split <;> rfl

end Go.Proofs.Ythckpgfhldocdaa
