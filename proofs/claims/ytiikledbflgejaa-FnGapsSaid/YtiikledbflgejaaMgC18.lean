/- Texts put together. -/
import Derived.Test.YtiikledbflgejaaChecked
import Derived.Test.YtiikledbflgejaaMgC3
import Derived.Deep.QuietTactic
import Derived.BigQuiet
import Derived.Test.YtiikledbflgejaaMgC12
import Derived.Test.YtiikledbflgejaaMgC6
import Derived.IntWalk
import Derived.Test.YtiikledbflgejaaMgC7
import Derived.Deep.AppendLies
/- The model's draws: l01New makes a cursor over the bytes, l01Byte gives a number from 0 to 255 and turns the cursor alone. Condition: the bytes are at most 2^20. -/
namespace Go.Proofs.Ytiikledbflgejaa
open Go.RowKit

def bytesV (zs : List Int) : List Value := zs.map (Value.int .u8)
theorem bytesV_length (zs : List Int) : (bytesV zs).length = zs.length := by simp [bytesV]
def IsBytes (zs : List Int) : Prop := zs.length ≤ 1048576 ∧ ∀ z ∈ zs, 0 ≤ z ∧ z ≤ 255
theorem and255 (y : Int) : 0 ≤ bits .and .i64 y 255 ∧ bits .and .i64 y 255 ≤ 255 := by
  have h : (BitVec.ofInt 64 y &&& BitVec.ofInt 64 255).toNat ≤ 255 := by
    rw [BitVec.toNat_and]
    exact Nat.and_le_right
  have e : bits .and .i64 y 255 = IntKind.i64.wrap ((BitVec.ofInt 64 y &&& BitVec.ofInt 64 255).toNat : Int) := rfl
  rw [e, IntWalk.i64_in _ (by omega)]
  omega

theorem Lst.far {w w' : World} {v : Value} {zs : List Int} {g : Nat} (h : Lst w v (bytesV zs)) (hg : w.grownBy w' (some g)) (hne : zs = [] ∨ v.ownBlock ≠ some g) : Lst w' v (bytesV zs) := by
  rcases hne with rfl | hne
  · obtain ⟨A, c, h1, h2, h3, _⟩ := h
    exact ⟨A, c, h1, h2, h3, .inl rfl⟩
  · exact h.grown hg (.inr hne)

/-- the cursor in block g, over the bytes zs that the slice v holds -/
def Cur (w : World) (g : Nat) (v : Value) (zs : List Int) : Prop :=
  ∃ (i : Nat) (h : Int), w.heap[g]? = some (.cells #[v, .int .i64 i, .int .i64 h] 46 (0, 0)) ∧ i ≤ zs.length ∧ Lst w v (bytesV zs) ∧ (zs = [] ∨ v.ownBlock ≠ some g)

theorem Cur.keep {w w' : World} {g : Nat} {v : Value} {zs : List Int} (h : Cur w g v zs) (hk : ∀ b, b < w.heap.size → w'.heap[b]? = w.heap[b]?) : Cur w' g v zs := by
  obtain ⟨i, hh, h1, h2, h3, h4⟩ := h
  have hg : g < w.heap.size := by
    rcases Nat.lt_or_ge g w.heap.size with hl | hl
    · exact hl
    · rw [Array.getElem?_eq_none hl] at h1; cases h1
  refine ⟨i, hh, (hk g hg).trans h1, h2, h3.keep (fun b o u _ hc => ?_), h4⟩
  rw [World.cell?_of_block (w := w) (hk b (World.block_lt_of_cell? w _ hc))]
  exact hc
theorem Cur.below {w w' : World} {g : Nat} {v : Value} {zs : List Int} (h : Cur w g v zs) (hb : Below w.heap.size w w') : Cur w' g v zs := h.keep hb.block

def ByteSaid (g : Nat) (v : Value) (zs : List Int) (w : World) (e : Ending) (w' : World) : Prop := ∃ x : Int, e = .returned (.int .i64 x) ∧ 0 ≤ x ∧ x ≤ 255 ∧ Cur w' g v zs ∧ w.grownBy w' (some g)

theorem row_set {w : World} {g : Nat} {cs : Array Value} {T : TypeId} (hg : w.heap[g]? = some (.cells cs T (0, 0))) (j : Nat) (u : Value) :
    (w.setCell ⟨g, j, none⟩ u).heap[g]? = some (.cells (cs.setIfInBounds j u) T (0, 0)) ∧ w.grownBy (w.setCell ⟨g, j, none⟩ u) (some g) :=
  ⟨heap_setCell_same w g j cs T u hg, ⟨rfl, rfl, rfl, by simp, fun k _ hk => heap_setCell_other w ⟨g, j, none⟩ k u (fun e => hk (by simp [e]))⟩⟩
theorem grown_drewN {a b : World} {row : Option Nat} (h : a.grownBy b row) (n : Nat) : a.grownBy (b.drewN n) row := ⟨h.os, h.tape, h.output, h.size, h.block⟩

set_option maxHeartbeats 1000000 in
theorem l01Byte_any (g : Nat) (v : Value) (zs : List Int) (w : World) (hz : IsBytes zs) (hc : Cur w g v zs) :
    Calls Try.prog 23 #[.pointer (some ⟨g, 0, none⟩)] w (ByteSaid g v zs w) := by
  obtain ⟨i, h, hg, hi, hl, hne⟩ := hc
  obtain ⟨hz1, hz2⟩ := hz
  have c2 : w.cell? ⟨g, 2, none⟩ = some (.int .i64 h) := cell_of_row w g 2 _ _ (0, 0) hg
  have f2 : w.frozen? ⟨g, 2, none⟩ = false := frozen_of_row w g 2 _ _ hg
  have HR := Lib.hid (fun u => row_set hg 2 u)
  have HL := Lib.hid hl
  have HN := Lib.hid hne
  have HZ := Lib.hid hz2
  obtain ⟨A, c, rfl, -, -, -⟩ := hl
  rw [bytesV_length] at HR HL HN ⊢
  clear hg hne hz2
  go_enter Try.func23, Try.ntmps23
  go_wp2_with fail
  generalize wrap64 (wrap64 (h * 6364136223846793005) + 1442695040888963407) = H
  obtain ⟨r1, r2⟩ := HR.out (.int .i64 H)
  have l1 : Lst (w.setCell ⟨g, 2, none⟩ (.int .i64 H)) (.slice A zs.length c) (bytesV zs) := HL.out.far r2 HN.out
  generalize w.setCell ⟨g, 2, none⟩ (.int .i64 H) = w1 at r1 r2 l1 ⊢
  clear c2 f2 HL HR
  have r1' : w1.heap[g]? = some (.cells #[.slice A zs.length c, .int .i64 i, .int .i64 H] 46 (0, 0)) := r1
  have c0 : w1.cell? ⟨g, 0, none⟩ = some (.slice A zs.length c) := cell_of_row w1 g 0 _ _ (0, 0) r1'
  have c1 : w1.cell? ⟨g, 1, none⟩ = some (.int .i64 i) := cell_of_row w1 g 1 _ _ (0, 0) r1'
  have c2 : w1.cell? ⟨g, 2, none⟩ = some (.int .i64 H) := cell_of_row w1 g 2 _ _ (0, 0) r1'
  have f1 : w1.frozen? ⟨g, 1, none⟩ = false := frozen_of_row w1 g 1 _ _ r1'
  have HR := Lib.hid r1'
  have HL := Lib.hid l1
  clear r1 r1' l1
  go_quiet (fail)
  go_wp2_with fail
  obtain ⟨x0, x1⟩ := and255 (bits .xor .i64 (H / 8589934592) (H / 35184372088832))
  generalize bits .and .i64 (bits .xor .i64 (H / 8589934592) (H / 35184372088832)) 255 = x at x0 x1 ⊢
  by_cases hin : i < zs.length
  · obtain ⟨A', c', he, -, -, l2⟩ := HL.out
    replace l2 := l2.resolve_left (by
      intro e
      have := congrArg List.length e
      rw [bytesV_length] at this
      simp only [List.length_nil] at this
      omega)
    obtain ⟨b, off, rfl, l2⟩ := l2
    rw [bytesV_length] at he
    injection he with hA _ _
    subst hA
    have hzi : zs[i]? = some zs[i] := List.getElem?_eq_getElem hin
    obtain ⟨z0, z1⟩ := HZ.out zs[i] (List.getElem_mem hin)
    have g1 : w1.cell? ⟨b, off + i, none⟩ = some (.int .u8 zs[i]) := l2 i _ (by simp [bytesV, hin])
    generalize zs[i] = z at z0 z1 g1
    have e1 : IntKind.i64.wrap (x + z) = x + z := IntWalk.i64_in _ (by omega)
    have e2 : IntKind.i64.wrap z = z := IntWalk.i64_in _ (by omega)
    have HC := Lib.hid hzi
    clear l2 hzi
    go_quiet (fail)
    go_wp2_with fail
    go_quiet (fail)
    go_wp2_with fail
    go_ret
    obtain ⟨y0, y1⟩ := and255 (x + z)
    refine ⟨_, rfl, y0, y1, ⟨i + 1, H, ?_, by omega, ?_, HN.out⟩, ?_⟩
    · exact (row_set (w := World.drewN _ _) HR.out 1 _).1
    · exact Lst.far (w := World.drewN _ _) HL.out (row_set (w := World.drewN _ _) HR.out 1 _).2 HN.out
    · exact grown_trans (grown_drewN r2 _) (row_set (w := World.drewN _ _) HR.out 1 _).2
  · go_quiet (fail)
    go_wp2_with fail
    go_ret
    exact ⟨x, rfl, x0, x1, ⟨i, H, HR.out, hi, HL.out, HN.out⟩, grown_drewN (grown_drewN r2 _) _⟩

theorem Cur.ptr {w : World} {g : Nat} {v : Value} {zs : List Int} (h : Cur w g v zs) : g < w.heap.size := by
  obtain ⟨_, _, h1, _⟩ := h
  rcases Nat.lt_or_ge g w.heap.size with hl | hl
  · exact hl
  · rw [Array.getElem?_eq_none hl] at h1; cases h1

def NewSaid (v : Value) (zs : List Int) (w : World) (e : Ending) (w' : World) : Prop := ∃ g : Nat, e = .returned (.pointer (some ⟨g, 0, none⟩)) ∧ w.heap.size ≤ g ∧ Cur w' g v zs ∧ Below w.heap.size w w'

set_option maxRecDepth 100000 in
set_option maxHeartbeats 1000000 in
theorem l01New_any (v : Value) (zs : List Int) (w : World) (hz : IsBytes zs) (hl : Lst w v (bytesV zs)) :
    Calls Try.prog 24 #[v] w (NewSaid v zs w) := by
  obtain ⟨hz1, hz2⟩ := hz
  have HL := Lib.hid hl
  have HZ := Lib.hid hz2
  obtain ⟨A, c, rfl, -, -, hA⟩ := hl
  rw [bytesV_length] at HL ⊢
  have HA : Hid (∀ k (hk : k < zs.length), ∃ b off, A = some ⟨b, off, none⟩ ∧ b < w.heap.size ∧ w.cell? ⟨b, off + k, none⟩ = some (.int .u8 zs[k])) := by
    intro k hk
    replace hA := hA.resolve_left (by
      intro e
      have := congrArg List.length e
      rw [bytesV_length] at this
      simp only [List.length_nil] at this
      omega)
    obtain ⟨b, off, rfl, l2⟩ := hA
    have hc := l2 k (.int .u8 zs[k]) (by simp [bytesV, hk])
    exact ⟨b, off, rfl, World.block_lt_of_cell? w _ hc, hc⟩
  clear hA hz2
  go_enter Try.func24, Try.ntmps24
  go_wp2_with fail
  go_loop [3, 4] (fun h i => ∃ (k : Nat) (H : Int), k ≤ zs.length ∧ i = .int .i64 k ∧ h = .int .i64 H) (fun _ i => zs.length - (intOf i).toNat)
  case atStart => exact ⟨0, _, by omega, rfl, rfl⟩
  case round =>
    obtain ⟨k, H, hk, rfl, rfl⟩ := hrel
    by_cases hlt : k < zs.length ∧ k < 4000
    · obtain ⟨hlt1, hlt2⟩ := hlt
      obtain ⟨b, off, rfl, -, g1⟩ := HA.out k hlt1
      obtain ⟨z0, z1⟩ := HZ.out zs[k] (List.getElem_mem hlt1)
      generalize zs[k] = z at g1 z0 z1
      have d1 : decide ((k : Int) < zs.length) = true := by simp; omega
      have d2 : decide ((k : Int) < 4000) = true := by simp; omega
      go_wp2_with fail
      go_round
      case rel => exact ⟨k + 1, _, by omega, by go_num, rfl⟩
      case measure => simp [intOf]; omega
    · have hor : ¬ k < zs.length ∨ (k < zs.length ∧ ¬ k < 4000) := by omega
      have hfin : ∀ H : Int, NewSaid (.slice A zs.length c) zs w (.returned (.pointer (some ⟨w.heap.size, 0, none⟩))) (w.alloc (.cells #[.slice A zs.length c, .int .i64 0, .int .i64 H] 46)) := by
        intro H
        refine ⟨w.heap.size, rfl, Nat.le_refl _, ⟨0, H, heap_alloc_new w _, by omega, HL.out.below ((Below.refl _ _).alloc (Nat.le_refl _) _), ?_⟩, (Below.refl _ _).alloc (Nat.le_refl _) _⟩
        by_cases h0 : 0 < zs.length
        · obtain ⟨b, off, rfl, hb, _⟩ := HA.out 0 h0
          refine .inr ?_
          simp only [Value.ownBlock, ne_eq, Option.some.injEq]
          omega
        · exact .inl (List.eq_nil_of_length_eq_zero (by omega))
      have HF := Lib.hid hfin
      clear hfin hlt
      rcases hor with h1 | ⟨h1, h2⟩
      · go_wp2_with fail
        go_ret
        exact HF.out H
      · have d1 : decide ((k : Int) < zs.length) = true := by simp; omega
        have d2 : decide ((k : Int) < 4000) = false := by simp; omega
        go_wp2_with fail
        go_ret
        exact HF.out H
end Go.Proofs.Ytiikledbflgejaa

/- More of the model's draws: l01Below, l01Str, l31New, MakeNum, MakeText: what they give is in range; nothing old turns. Condition: the bytes are at most 2^20. -/
namespace Go.Proofs.Ytiikledbflgejaa
open Go.RowKit

def BelowSaid (g : Nat) (v : Value) (zs : List Int) (n : Int) (w : World) (e : Ending) (w' : World) : Prop := ∃ x : Int, e = .returned (.int .i64 x) ∧ 0 ≤ x ∧ x < n ∧ Cur w' g v zs ∧ w.grownBy w' (some g)
theorem mod_in (x n : Int) (h : 0 < n) : 0 ≤ x % n ∧ x % n < n := ⟨Int.emod_nonneg _ (by omega), Int.emod_lt_of_pos _ h⟩

set_option maxHeartbeats 400000 in
theorem l01Below_small (g : Nat) (v : Value) (zs : List Int) (n : Int) (w : World) (hz : IsBytes zs) (hc : Cur w g v zs) (h0 : 0 < n) (h1 : n ≤ 256) :
    Calls Try.prog 14 #[.pointer (some ⟨g, 0, none⟩), .int .i64 n] w (BelowSaid g v zs n w) := by
  have HB := Lib.hid (l01Byte_any g v zs w hz hc)
  have HM := Lib.hid (fun x => mod_in x n h0)
  clear hz hc
  go_enter Try.func14, Try.ntmps14
  go_wp2_with fail
  refine HB.out.mono ?_
  rintro e w1 ⟨x, rfl, x0, x1, hc1, hg1⟩
  have HC := Lib.hid hc1
  clear hc1
  go_wp2_with fail
  go_ret
  exact ⟨x % n, rfl, (HM.out x).1, (HM.out x).2, HC.out, hg1⟩

def StrSaid (g : Nat) (v : Value) (zs : List Int) (L : List ByteArray) (w : World) (e : Ending) (w' : World) : Prop := ∃ s : ByteArray, s ∈ L ∧ e = .returned (.string s) ∧ Cur w' g v zs ∧ w.grownBy w' (some g)

set_option maxHeartbeats 400000 in
theorem l31New_any (v : Value) (zs : List Int) (n : Int) (w : World) (hz : IsBytes zs) (hl : Lst w v (bytesV zs)) (h0 : 0 ≤ n) (h1 : n ≤ 1048576) :
    Calls Try.prog 15 #[v, .int .i64 n] w (NewSaid v zs w) := by
  have HN := Lib.hid (l01New_any v zs w hz hl)
  have HZ := Lib.hid hz
  obtain ⟨m, rfl⟩ := Int.eq_ofNat_of_zero_le h0
  obtain ⟨A, c, rfl, -, -, -⟩ := hl
  rw [bytesV_length] at HN ⊢
  clear hz
  go_enter Try.func15, Try.ntmps15
  go_wp2_with fail
  refine HN.out.mono ?_
  rintro e w1 ⟨g, rfl, hg, hc1, hb1⟩
  have HC := Lib.hid hc1
  clear hc1
  go_wp2_with fail
  go_loopw [6] (fun i w' => ∃ k : Nat, k ≤ m ∧ i = .int .i64 k ∧ Cur w' g (.slice A zs.length c) zs ∧ Below w.heap.size w w') (fun i _ => m - (intOf i).toNat)
  case atStart => exact ⟨0, by omega, rfl, HC.out, hb1⟩
  case round =>
    obtain ⟨k, hk, rfl, hc, hb⟩ := hrel
    have HK := Lib.hid hc
    clear hc
    by_cases hlt : k < m
    · go_wp2_with fail
      refine (l01Byte_any g _ zs _ HZ.out HK.out).mono ?_
      rintro e w2 ⟨x, rfl, x0, x1, hc2, hg2⟩
      have HC2 := Lib.hid hc2
      clear hc2
      go_wp2_with fail
      go_roundw
      case rel => exact ⟨k + 1, by omega, by go_num, HC2.out, hb.grown hg2 hb.size (fun j hj => by cases hj; exact hg)⟩
      case measure => simp [intOf]; omega
    · go_wp2_with fail
      go_ret
      exact ⟨g, rfl, hg, HK.out, hb⟩

def NumSaid (w : World) (e : Ending) (w' : World) : Prop := ∃ x : Int, e = .returned (.int .i64 x) ∧ 0 ≤ x ∧ x ≤ 65535 ∧ Below w.heap.size w w'

end Go.Proofs.Ytiikledbflgejaa

/- The model's draws of words: l02Word. Condition: the bytes are at most 2^20. -/
namespace Go.Proofs.Ytiikledbflgejaa
open Go.RowKit

theorem Cur.apart {w w' : World} {g : Nat} {v : Value} {zs : List Int} {row : Option Nat} (h : Cur w g v zs) (hg : w.grownBy w' row) (h1 : row ≠ some g) (h2 : zs = [] ∨ ∀ k, v.ownBlock = some k → row ≠ some k) : Cur w' g v zs := by
  obtain ⟨i, hh, a, b, c, d⟩ := h
  have hgl : g < w.heap.size := by
    rcases Nat.lt_or_ge g w.heap.size with hl | hl
    · exact hl
    · rw [Array.getElem?_eq_none hl] at a; cases a
  refine ⟨i, hh, (hg.block g hgl (fun e => h1 e.symm)).trans a, b, ?_, d⟩
  refine c.grown2 hg ?_
  rcases h2 with rfl | h2
  · exact .inl rfl
  · exact .inr h2
theorem cur_lt {w : World} {g : Nat} {v : Value} {zs : List Int} (h : Cur w g v zs) : g < w.heap.size ∧ (zs = [] ∨ ∀ k, v.ownBlock = some k → k < w.heap.size) := by
  obtain ⟨i, hh, a, b, c, d⟩ := id h
  refine ⟨h.ptr, ?_⟩
  rcases lst_lt c with e | e
  · left
    have := congrArg List.length e
    rw [bytesV_length] at this
    exact List.eq_nil_of_length_eq_zero this
  · exact .inr e
/-- what the call makes itself does not touch the cursor -/
theorem Cur.made {w w1 w2 : World} {g B : Nat} {v : Value} {zs : List Int} {row : Option Nat} (h0 : Cur w g v zs) (h : Cur w1 g v zs) (hg : w1.grownBy w2 row) (hr : ∀ k, row = some k → B ≤ k) (hB : w.heap.size ≤ B) : Cur w2 g v zs := by
  obtain ⟨a, b⟩ := cur_lt h0
  refine h.apart hg (fun e => by have := hr g e; omega) ?_
  rcases b with b | b
  · exact .inl b
  · exact .inr fun k hk e => by have := hr k e; have := b k hk; omega
theorem grown_made {w w1 w2 : World} {g B : Nat} {row : Option Nat} (h : w.grownBy w1 (some g)) (hg : w1.grownBy w2 row) (hr : ∀ k, row = some k → B ≤ k) (hB : w.heap.size ≤ B) : w.grownBy w2 (some g) :=
  ⟨hg.os.trans h.os, hg.tape.trans h.tape, hg.output.trans h.output, Nat.le_trans h.size hg.size, fun k hk hne => (hg.block k (Nat.lt_of_lt_of_le hk h.size) (fun e => by have := hr k e.symm; omega)).trans (h.block k hk hne)⟩

def WordSaid (n k : Int) (g : Nat) (v : Value) (zs : List Int) (w : World) (e : Ending) (w' : World) : Prop :=
  ∃ s : ByteArray, e = .returned (.string s) ∧ (s.size : Int) = n ∧ (∀ c ∈ s.data.toList, 97 ≤ c.toNat ∧ (c.toNat : Int) < 97 + k) ∧ Cur w' g v zs ∧ w.grownBy w' (some g)

end Go.Proofs.Ytiikledbflgejaa

/- The model's draws of matrices: l04Draw, MakeMatrix, MakeSize. Condition: the bytes are at most 2^20. -/
namespace Go.Proofs.Ytiikledbflgejaa
open Go.RowKit

/-- n rows of n numbers from -2 to 4 -/
def SmallM (n : Nat) (m : List (List Int)) : Prop := m.length = n ∧ ∀ r ∈ m, r.length = n ∧ ∀ x ∈ r, -2 ≤ x ∧ x ≤ 4

/-- a matrix that is being drawn: its rows are known as they come -/
theorem rows_more {w : World} {B : Nat} {us : List Value} {m : List (List Int)} (h : RowsTo w B us m) (hl : us.length = m.length) (r : List Int) : RowsTo w B us (m ++ [r]) :=
  ⟨by simp; omega, fun i a b => by have hi : i < m.length := by omega
                                   rw [List.getElem_append_left hi]; exact h.2.1 i a hi, h.2.2⟩

def MatDrawn (n : Nat) (g : Nat) (w : World) (e : Ending) (w' : World) : Prop :=
  ∃ (u : Value) (m : List (List Int)), e = .returned u ∧ SmallM n m ∧ OwnMat w' w.heap.size w'.heap.size u m ∧ w.grownBy w' (some g)
theorem grown_two {a b c : World} {g B : Nat} {row : Option Nat} (h : a.grownBy b (some g)) (k : b.grownBy c row) (hr : ∀ j, row = some j → B ≤ j) (hB : a.heap.size ≤ B) : a.grownBy c (some g) := grown_made h k hr hB

def MatMade (n : Nat) (w : World) (e : Ending) (w' : World) : Prop :=
  ∃ (u : Value) (m : List (List Int)), e = .returned u ∧ SmallM n m ∧ OwnMat w' w.heap.size w'.heap.size u m ∧ Below w.heap.size w w'

def SizeSaid (lo hi : Int) (w : World) (e : Ending) (w' : World) : Prop := ∃ x : Int, e = .returned (.int .i64 x) ∧ lo ≤ x ∧ x ≤ hi ∧ Below w.heap.size w w'

set_option maxHeartbeats 400000 in
theorem makeSize_any (v : Value) (zs : List Int) (c : Int) (w : World) (hz : IsBytes zs) (hl : Lst w v (bytesV zs)) (h0 : 0 ≤ c) (h1 : c ≤ 1048576) :
    Calls Try.prog 4 #[v, .int .i64 c, .int .i64 1, .int .i64 3] w (SizeSaid 1 3 w) := by
  have HN := Lib.hid (fun w' (hb : Below w.heap.size w w') => l31New_any v zs c w' hz (hl.below hb) h0 h1)
  have HZ := Lib.hid hz
  obtain ⟨A, cp, rfl, -, -, -⟩ := hl
  rw [bytesV_length] at HN ⊢
  clear hz
  go_enter Try.func4, Try.ntmps4
  go_wp2_with fail
  go_loop [9, 10] (fun s k => ∃ j : Nat, j ≤ 2 ∧ k = .int .i64 ((j : Int) + 1) ∧ s = .int .i64 ((j : Int) + 1)) (fun _ k => 3 - (intOf k).toNat)
  case atStart => exact ⟨0, by omega, rfl, rfl⟩
  case round =>
    obtain ⟨j, hj, rfl, rfl⟩ := hrel
    by_cases hlt : j < 2
    · have d1 : decide ((j : Int) + 1 < 3) = true := by simp; omega
      have d2 : decide ((j : Int) + 1 < 100) = true := by simp; omega
      go_wp2_with fail
      go_round
      case rel => exact ⟨j + 1, by omega, by go_num, by go_num⟩
      case measure => simp [intOf]; omega
    · have hj2 : j = 2 := by omega
      subst hj2
      go_wp2_with fail
      refine (HN.out _ (Below.refl _ _)).mono ?_
      rintro e w1 ⟨g, rfl, hg, hc1, hb1⟩
      have HC := Lib.hid hc1
      have HB1 := Lib.hid hb1
      clear hc1 hb1
      go_wp2_with fail
      refine (l01Below_small g _ zs 3 _ HZ.out HC.out (by omega) (by omega)).mono ?_
      rintro e w2 ⟨x, rfl, x0, x1, hc2, hg2⟩
      have HB2 : Hid (Below w.heap.size w w2) := HB1.out.grown hg2 HB1.out.size (fun j hj => by cases hj; exact hg)
      obtain ⟨q, rfl⟩ := Int.eq_ofNat_of_zero_le x0
      clear hc2 hg2
      go_wp2_with fail
      go_loop [11, 12] (fun o k => ∃ r : Nat, r ≤ q ∧ k = .int .i64 r ∧ o = .int .i64 (1 + ((q : Int) - r))) (fun _ k => (intOf k).toNat)
      case atStart => exact ⟨q, Nat.le_refl _, rfl, by simp⟩
      case round =>
        obtain ⟨r, hr, rfl, rfl⟩ := hrel
        by_cases hlt2 : 0 < r
        · go_wp2_with fail
          go_round
          case rel => exact ⟨r - 1, by omega, by rw [show (r : Int) - 1 = ((r - 1 : Nat) : Int) from by omega], by congr 1; omega⟩
          case measure => simp [intOf]; omega
        · go_wp2_with fail
          go_ret
          exact ⟨_, rfl, by omega, by omega, HB2.out⟩
end Go.Proofs.Ytiikledbflgejaa
