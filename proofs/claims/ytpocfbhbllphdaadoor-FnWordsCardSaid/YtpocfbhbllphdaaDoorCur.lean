/- The model's draws: l01New makes a cursor over the bytes, l01Byte gives a number from 0 to 255 and turns the cursor alone. Condition: the bytes are at most 2^20. -/
import Derived.Test.YtpocfbhbllphdaaDoorChecked
import Derived.Test.YtpocfbhbllphdaaDoorLst
import Derived.Deep.QuietTactic
import Derived.BigQuiet
namespace Go.Proofs.YtpocfbhbllphdaaDoor
open Go.RowKit

def bytesV (zs : List Int) : List Value := zs.map (Value.int .u8)
theorem bytesV_length (zs : List Int) : (bytesV zs).length = zs.length := by simp [bytesV]
def IsBytes (zs : List Int) : Prop := zs.length ≤ 1048576 ∧ ∀ z ∈ zs, 0 ≤ z ∧ z ≤ 255
theorem and255 (y : Int) : 0 ≤ bits .and .i64 y 255 ∧ bits .and .i64 y 255 ≤ 255 := by
  have h : (BitVec.ofInt 64 y &&& BitVec.ofInt 64 255).toNat ≤ 255 := by
    rw [BitVec.toNat_and]
    exact Nat.and_le_right
  have e : bits .and .i64 y 255 = IntKind.i64.wrap ((BitVec.ofInt 64 y &&& BitVec.ofInt 64 255).toNat : Int) := rfl
  rw [e, IntWalk.i64_in _ (by omega)]
  omega

theorem Lst.far {w w' : World} {v : Value} {zs : List Int} {g : Nat} (h : Lst w v (bytesV zs)) (hg : w.grownBy w' (some g)) (hne : zs = [] ∨ v.ownBlock ≠ some g) : Lst w' v (bytesV zs) := by
  rcases hne with rfl | hne
  · obtain ⟨A, c, h1, h2, h3, _⟩ := h
    exact ⟨A, c, h1, h2, h3, .inl rfl⟩
  · exact h.grown hg (.inr hne)

/-- the cursor in block g, over the bytes zs that the slice v holds -/
def Cur (w : World) (g : Nat) (v : Value) (zs : List Int) : Prop :=
  ∃ (i : Nat) (h : Int), w.heap[g]? = some (.cells #[v, .int .i64 i, .int .i64 h] 49 (0, 0)) ∧ i ≤ zs.length ∧ Lst w v (bytesV zs) ∧ (zs = [] ∨ v.ownBlock ≠ some g)

theorem Cur.keep {w w' : World} {g : Nat} {v : Value} {zs : List Int} (h : Cur w g v zs) (hk : ∀ b, b < w.heap.size → w'.heap[b]? = w.heap[b]?) : Cur w' g v zs := by
  obtain ⟨i, hh, h1, h2, h3, h4⟩ := h
  have hg : g < w.heap.size := by
    rcases Nat.lt_or_ge g w.heap.size with hl | hl
    · exact hl
    · rw [Array.getElem?_eq_none hl] at h1; cases h1
  refine ⟨i, hh, (hk g hg).trans h1, h2, h3.keep (fun b o u _ hc => ?_), h4⟩
  rw [World.cell?_of_block (w := w) (hk b (World.block_lt_of_cell? w _ hc))]
  exact hc
theorem Cur.below {w w' : World} {g : Nat} {v : Value} {zs : List Int} (h : Cur w g v zs) (hb : Below w.heap.size w w') : Cur w' g v zs := h.keep hb.block

def ByteSaid (g : Nat) (v : Value) (zs : List Int) (w : World) (e : Ending) (w' : World) : Prop := ∃ x : Int, e = .returned (.int .i64 x) ∧ 0 ≤ x ∧ x ≤ 255 ∧ Cur w' g v zs ∧ w.grownBy w' (some g)

theorem row_set {w : World} {g : Nat} {cs : Array Value} {T : TypeId} (hg : w.heap[g]? = some (.cells cs T (0, 0))) (j : Nat) (u : Value) :
    (w.setCell ⟨g, j, none⟩ u).heap[g]? = some (.cells (cs.setIfInBounds j u) T (0, 0)) ∧ w.grownBy (w.setCell ⟨g, j, none⟩ u) (some g) :=
  ⟨heap_setCell_same w g j cs T u hg, ⟨rfl, rfl, rfl, by simp, fun k _ hk => heap_setCell_other w ⟨g, j, none⟩ k u (fun e => hk (by simp [e]))⟩⟩
theorem grown_drewN {a b : World} {row : Option Nat} (h : a.grownBy b row) (n : Nat) : a.grownBy (b.drewN n) row := ⟨h.os, h.tape, h.output, h.size, h.block⟩

set_option maxHeartbeats 1000000 in
theorem l01Byte_any (g : Nat) (v : Value) (zs : List Int) (w : World) (hz : IsBytes zs) (hc : Cur w g v zs) :
    Calls Tryd.prog 17 #[.pointer (some ⟨g, 0, none⟩)] w (ByteSaid g v zs w) := by
  obtain ⟨i, h, hg, hi, hl, hne⟩ := hc
  obtain ⟨hz1, hz2⟩ := hz
  have c2 : w.cell? ⟨g, 2, none⟩ = some (.int .i64 h) := cell_of_row w g 2 _ _ (0, 0) hg
  have f2 : w.frozen? ⟨g, 2, none⟩ = false := frozen_of_row w g 2 _ _ hg
  have HR := Lib.hid (fun u => row_set hg 2 u)
  have HL := Lib.hid hl
  have HN := Lib.hid hne
  have HZ := Lib.hid hz2
  obtain ⟨A, c, rfl, -, -, -⟩ := hl
  rw [bytesV_length] at HR HL HN ⊢
  clear hg hne hz2
  go_enter Tryd.func17, Tryd.ntmps17
  go_wp2_with fail
  generalize wrap64 (wrap64 (h * 6364136223846793005) + 1442695040888963407) = H
  obtain ⟨r1, r2⟩ := HR.out (.int .i64 H)
  have l1 : Lst (w.setCell ⟨g, 2, none⟩ (.int .i64 H)) (.slice A zs.length c) (bytesV zs) := HL.out.far r2 HN.out
  generalize w.setCell ⟨g, 2, none⟩ (.int .i64 H) = w1 at r1 r2 l1 ⊢
  clear c2 f2 HL HR
  have r1' : w1.heap[g]? = some (.cells #[.slice A zs.length c, .int .i64 i, .int .i64 H] 49 (0, 0)) := r1
  have c0 : w1.cell? ⟨g, 0, none⟩ = some (.slice A zs.length c) := cell_of_row w1 g 0 _ _ (0, 0) r1'
  have c1 : w1.cell? ⟨g, 1, none⟩ = some (.int .i64 i) := cell_of_row w1 g 1 _ _ (0, 0) r1'
  have c2 : w1.cell? ⟨g, 2, none⟩ = some (.int .i64 H) := cell_of_row w1 g 2 _ _ (0, 0) r1'
  have f1 : w1.frozen? ⟨g, 1, none⟩ = false := frozen_of_row w1 g 1 _ _ r1'
  have HR := Lib.hid r1'
  have HL := Lib.hid l1
  clear r1 r1' l1
  go_quiet (fail)
  go_wp2_with fail
  obtain ⟨x0, x1⟩ := and255 (bits .xor .i64 (H / 8589934592) (H / 35184372088832))
  generalize bits .and .i64 (bits .xor .i64 (H / 8589934592) (H / 35184372088832)) 255 = x at x0 x1 ⊢
  by_cases hin : i < zs.length
  · obtain ⟨A', c', he, -, -, l2⟩ := HL.out
    replace l2 := l2.resolve_left (by
      intro e
      have := congrArg List.length e
      rw [bytesV_length] at this
      simp only [List.length_nil] at this
      omega)
    obtain ⟨b, off, rfl, l2⟩ := l2
    rw [bytesV_length] at he
    injection he with hA _ _
    subst hA
    have hzi : zs[i]? = some zs[i] := List.getElem?_eq_getElem hin
    obtain ⟨z0, z1⟩ := HZ.out zs[i] (List.getElem_mem hin)
    have g1 : w1.cell? ⟨b, off + i, none⟩ = some (.int .u8 zs[i]) := l2 i _ (by simp [bytesV, hin])
    generalize zs[i] = z at z0 z1 g1
    have e1 : IntKind.i64.wrap (x + z) = x + z := IntWalk.i64_in _ (by omega)
    have e2 : IntKind.i64.wrap z = z := IntWalk.i64_in _ (by omega)
    have HC := Lib.hid hzi
    clear l2 hzi
    go_quiet (fail)
    go_wp2_with fail
    go_quiet (fail)
    go_wp2_with fail
    go_ret
    obtain ⟨y0, y1⟩ := and255 (x + z)
    refine ⟨_, rfl, y0, y1, ⟨i + 1, H, ?_, by omega, ?_, HN.out⟩, ?_⟩
    · exact (row_set (w := World.drewN _ _) HR.out 1 _).1
    · exact Lst.far (w := World.drewN _ _) HL.out (row_set (w := World.drewN _ _) HR.out 1 _).2 HN.out
    · exact grown_trans (grown_drewN r2 _) (row_set (w := World.drewN _ _) HR.out 1 _).2
  · go_quiet (fail)
    go_wp2_with fail
    go_ret
    exact ⟨x, rfl, x0, x1, ⟨i, H, HR.out, hi, HL.out, HN.out⟩, grown_drewN (grown_drewN r2 _) _⟩

theorem Cur.ptr {w : World} {g : Nat} {v : Value} {zs : List Int} (h : Cur w g v zs) : g < w.heap.size := by
  obtain ⟨_, _, h1, _⟩ := h
  rcases Nat.lt_or_ge g w.heap.size with hl | hl
  · exact hl
  · rw [Array.getElem?_eq_none hl] at h1; cases h1

def NewSaid (v : Value) (zs : List Int) (w : World) (e : Ending) (w' : World) : Prop := ∃ g : Nat, e = .returned (.pointer (some ⟨g, 0, none⟩)) ∧ w.heap.size ≤ g ∧ Cur w' g v zs ∧ Below w.heap.size w w'

set_option maxRecDepth 100000 in
set_option maxHeartbeats 1000000 in
theorem l01New_any (v : Value) (zs : List Int) (w : World) (hz : IsBytes zs) (hl : Lst w v (bytesV zs)) :
    Calls Tryd.prog 20 #[v] w (NewSaid v zs w) := by
  obtain ⟨hz1, hz2⟩ := hz
  have HL := Lib.hid hl
  have HZ := Lib.hid hz2
  obtain ⟨A, c, rfl, -, -, hA⟩ := hl
  rw [bytesV_length] at HL ⊢
  have HA : Hid (∀ k (hk : k < zs.length), ∃ b off, A = some ⟨b, off, none⟩ ∧ b < w.heap.size ∧ w.cell? ⟨b, off + k, none⟩ = some (.int .u8 zs[k])) := by
    intro k hk
    replace hA := hA.resolve_left (by
      intro e
      have := congrArg List.length e
      rw [bytesV_length] at this
      simp only [List.length_nil] at this
      omega)
    obtain ⟨b, off, rfl, l2⟩ := hA
    have hc := l2 k (.int .u8 zs[k]) (by simp [bytesV, hk])
    exact ⟨b, off, rfl, World.block_lt_of_cell? w _ hc, hc⟩
  clear hA hz2
  go_enter Tryd.func20, Tryd.ntmps20
  go_wp2_with fail
  go_loop [3, 4] (fun h i => ∃ (k : Nat) (H : Int), k ≤ zs.length ∧ i = .int .i64 k ∧ h = .int .i64 H) (fun _ i => zs.length - (intOf i).toNat)
  case atStart => exact ⟨0, _, by omega, rfl, rfl⟩
  case round =>
    obtain ⟨k, H, hk, rfl, rfl⟩ := hrel
    by_cases hlt : k < zs.length ∧ k < 4000
    · obtain ⟨hlt1, hlt2⟩ := hlt
      obtain ⟨b, off, rfl, -, g1⟩ := HA.out k hlt1
      obtain ⟨z0, z1⟩ := HZ.out zs[k] (List.getElem_mem hlt1)
      generalize zs[k] = z at g1 z0 z1
      have d1 : decide ((k : Int) < zs.length) = true := by simp; omega
      have d2 : decide ((k : Int) < 4000) = true := by simp; omega
      go_wp2_with fail
      go_round
      case rel => exact ⟨k + 1, _, by omega, by go_num, rfl⟩
      case measure => simp [intOf]; omega
    · have hor : ¬ k < zs.length ∨ (k < zs.length ∧ ¬ k < 4000) := by omega
      have hfin : ∀ H : Int, NewSaid (.slice A zs.length c) zs w (.returned (.pointer (some ⟨w.heap.size, 0, none⟩))) (w.alloc (.cells #[.slice A zs.length c, .int .i64 0, .int .i64 H] 49)) := by
        intro H
        refine ⟨w.heap.size, rfl, Nat.le_refl _, ⟨0, H, heap_alloc_new w _, by omega, HL.out.below ((Below.refl _ _).alloc (Nat.le_refl _) _), ?_⟩, (Below.refl _ _).alloc (Nat.le_refl _) _⟩
        by_cases h0 : 0 < zs.length
        · obtain ⟨b, off, rfl, hb, _⟩ := HA.out 0 h0
          refine .inr ?_
          simp only [Value.ownBlock, ne_eq, Option.some.injEq]
          omega
        · exact .inl (List.eq_nil_of_length_eq_zero (by omega))
      have HF := Lib.hid hfin
      clear hfin hlt
      rcases hor with h1 | ⟨h1, h2⟩
      · go_wp2_with fail
        go_ret
        exact HF.out H
      · have d1 : decide ((k : Int) < zs.length) = true := by simp; omega
        have d2 : decide ((k : Int) < 4000) = false := by simp; omega
        go_wp2_with fail
        go_ret
        exact HF.out H
end Go.Proofs.YtpocfbhbllphdaaDoor
