/- Texts put together. -/
import Derived.Test.YtgidfainoijcmaaChecked
import Derived.Test.YtgidfainoijcmaaMg1
import Derived.Deep.QuietTactic
import Derived.BigQuiet
import Derived.ChangeSlices
/- The model's draws: l01New makes a cursor over the bytes, l01Byte gives a number from 0 to 255 and turns the cursor alone. Condition: the bytes are at most 2^20. -/
namespace Go.Proofs.Ytgidfainoijcmaa
open Go.RowKit

def bytesV (zs : List Int) : List Value := zs.map (Value.int .u8)
theorem bytesV_length (zs : List Int) : (bytesV zs).length = zs.length := by simp [bytesV]
def IsBytes (zs : List Int) : Prop := zs.length ≤ 1048576 ∧ ∀ z ∈ zs, 0 ≤ z ∧ z ≤ 255
theorem and255 (y : Int) : 0 ≤ bits .and .i64 y 255 ∧ bits .and .i64 y 255 ≤ 255 := by
  have h : (BitVec.ofInt 64 y &&& BitVec.ofInt 64 255).toNat ≤ 255 := by
    rw [BitVec.toNat_and]
    exact Nat.and_le_right
  have e : bits .and .i64 y 255 = IntKind.i64.wrap ((BitVec.ofInt 64 y &&& BitVec.ofInt 64 255).toNat : Int) := rfl
  rw [e, IntWalk.i64_in _ (by omega)]
  omega

theorem Lst.far {w w' : World} {v : Value} {zs : List Int} {g : Nat} (h : Lst w v (bytesV zs)) (hg : w.grownBy w' (some g)) (hne : zs = [] ∨ v.ownBlock ≠ some g) : Lst w' v (bytesV zs) := by
  rcases hne with rfl | hne
  · obtain ⟨A, c, h1, h2, h3, _⟩ := h
    exact ⟨A, c, h1, h2, h3, .inl rfl⟩
  · exact h.grown hg (.inr hne)

/-- the cursor in block g, over the bytes zs that the slice v holds -/
def Cur (w : World) (g : Nat) (v : Value) (zs : List Int) : Prop :=
  ∃ (i : Nat) (h : Int), w.heap[g]? = some (.cells #[v, .int .i64 i, .int .i64 h] 113 (0, 0)) ∧ i ≤ zs.length ∧ Lst w v (bytesV zs) ∧ (zs = [] ∨ v.ownBlock ≠ some g)

theorem Cur.keep {w w' : World} {g : Nat} {v : Value} {zs : List Int} (h : Cur w g v zs) (hk : ∀ b, b < w.heap.size → w'.heap[b]? = w.heap[b]?) : Cur w' g v zs := by
  obtain ⟨i, hh, h1, h2, h3, h4⟩ := h
  have hg : g < w.heap.size := by
    rcases Nat.lt_or_ge g w.heap.size with hl | hl
    · exact hl
    · rw [Array.getElem?_eq_none hl] at h1; cases h1
  refine ⟨i, hh, (hk g hg).trans h1, h2, h3.keep (fun b o u _ hc => ?_), h4⟩
  rw [World.cell?_of_block (w := w) (hk b (World.block_lt_of_cell? w _ hc))]
  exact hc
theorem Cur.below {w w' : World} {g : Nat} {v : Value} {zs : List Int} (h : Cur w g v zs) (hb : Below w.heap.size w w') : Cur w' g v zs := h.keep hb.block

def ByteSaid (g : Nat) (v : Value) (zs : List Int) (w : World) (e : Ending) (w' : World) : Prop := ∃ x : Int, e = .returned (.int .i64 x) ∧ 0 ≤ x ∧ x ≤ 255 ∧ Cur w' g v zs ∧ w.grownBy w' (some g)

theorem row_set {w : World} {g : Nat} {cs : Array Value} {T : TypeId} (hg : w.heap[g]? = some (.cells cs T (0, 0))) (j : Nat) (u : Value) :
    (w.setCell ⟨g, j, none⟩ u).heap[g]? = some (.cells (cs.setIfInBounds j u) T (0, 0)) ∧ w.grownBy (w.setCell ⟨g, j, none⟩ u) (some g) :=
  ⟨heap_setCell_same w g j cs T u hg, ⟨rfl, rfl, rfl, by simp, fun k _ hk => heap_setCell_other w ⟨g, j, none⟩ k u (fun e => hk (by simp [e]))⟩⟩
theorem grown_drewN {a b : World} {row : Option Nat} (h : a.grownBy b row) (n : Nat) : a.grownBy (b.drewN n) row := ⟨h.os, h.tape, h.output, h.size, h.block⟩

set_option maxHeartbeats 1000000 in
theorem l01Byte_any (g : Nat) (v : Value) (zs : List Int) (w : World) (hz : IsBytes zs) (hc : Cur w g v zs) :
    Calls Try.prog 91 #[.pointer (some ⟨g, 0, none⟩)] w (ByteSaid g v zs w) := by
  obtain ⟨i, h, hg, hi, hl, hne⟩ := hc
  obtain ⟨hz1, hz2⟩ := hz
  have c2 : w.cell? ⟨g, 2, none⟩ = some (.int .i64 h) := cell_of_row w g 2 _ _ (0, 0) hg
  have f2 : w.frozen? ⟨g, 2, none⟩ = false := frozen_of_row w g 2 _ _ hg
  have HR := Lib.hid (fun u => row_set hg 2 u)
  have HL := Lib.hid hl
  have HN := Lib.hid hne
  have HZ := Lib.hid hz2
  obtain ⟨A, c, rfl, -, -, -⟩ := hl
  rw [bytesV_length] at HR HL HN ⊢
  clear hg hne hz2
  go_enter Try.func91, Try.ntmps91
  go_wp2_with fail
  generalize wrap64 (wrap64 (h * 6364136223846793005) + 1442695040888963407) = H
  obtain ⟨r1, r2⟩ := HR.out (.int .i64 H)
  have l1 : Lst (w.setCell ⟨g, 2, none⟩ (.int .i64 H)) (.slice A zs.length c) (bytesV zs) := HL.out.far r2 HN.out
  generalize w.setCell ⟨g, 2, none⟩ (.int .i64 H) = w1 at r1 r2 l1 ⊢
  clear c2 f2 HL HR
  have r1' : w1.heap[g]? = some (.cells #[.slice A zs.length c, .int .i64 i, .int .i64 H] 113 (0, 0)) := r1
  have c0 : w1.cell? ⟨g, 0, none⟩ = some (.slice A zs.length c) := cell_of_row w1 g 0 _ _ (0, 0) r1'
  have c1 : w1.cell? ⟨g, 1, none⟩ = some (.int .i64 i) := cell_of_row w1 g 1 _ _ (0, 0) r1'
  have c2 : w1.cell? ⟨g, 2, none⟩ = some (.int .i64 H) := cell_of_row w1 g 2 _ _ (0, 0) r1'
  have f1 : w1.frozen? ⟨g, 1, none⟩ = false := frozen_of_row w1 g 1 _ _ r1'
  have HR := Lib.hid r1'
  have HL := Lib.hid l1
  clear r1 r1' l1
  go_quiet (fail)
  go_wp2_with fail
  obtain ⟨x0, x1⟩ := and255 (bits .xor .i64 (H / 8589934592) (H / 35184372088832))
  generalize bits .and .i64 (bits .xor .i64 (H / 8589934592) (H / 35184372088832)) 255 = x at x0 x1 ⊢
  by_cases hin : i < zs.length
  · obtain ⟨A', c', he, -, -, l2⟩ := HL.out
    replace l2 := l2.resolve_left (by
      intro e
      have := congrArg List.length e
      rw [bytesV_length] at this
      simp only [List.length_nil] at this
      omega)
    obtain ⟨b, off, rfl, l2⟩ := l2
    rw [bytesV_length] at he
    injection he with hA _ _
    subst hA
    have hzi : zs[i]? = some zs[i] := List.getElem?_eq_getElem hin
    obtain ⟨z0, z1⟩ := HZ.out zs[i] (List.getElem_mem hin)
    have g1 : w1.cell? ⟨b, off + i, none⟩ = some (.int .u8 zs[i]) := l2 i _ (by simp [bytesV, hin])
    generalize zs[i] = z at z0 z1 g1
    have e1 : IntKind.i64.wrap (x + z) = x + z := IntWalk.i64_in _ (by omega)
    have e2 : IntKind.i64.wrap z = z := IntWalk.i64_in _ (by omega)
    have HC := Lib.hid hzi
    clear l2 hzi
    go_quiet (fail)
    go_wp2_with fail
    go_quiet (fail)
    go_wp2_with fail
    go_ret
    obtain ⟨y0, y1⟩ := and255 (x + z)
    refine ⟨_, rfl, y0, y1, ⟨i + 1, H, ?_, by omega, ?_, HN.out⟩, ?_⟩
    · exact (row_set (w := World.drewN _ _) HR.out 1 _).1
    · exact Lst.far (w := World.drewN _ _) HL.out (row_set (w := World.drewN _ _) HR.out 1 _).2 HN.out
    · exact grown_trans (grown_drewN r2 _) (row_set (w := World.drewN _ _) HR.out 1 _).2
  · go_quiet (fail)
    go_wp2_with fail
    go_ret
    exact ⟨x, rfl, x0, x1, ⟨i, H, HR.out, hi, HL.out, HN.out⟩, grown_drewN (grown_drewN r2 _) _⟩

theorem Cur.ptr {w : World} {g : Nat} {v : Value} {zs : List Int} (h : Cur w g v zs) : g < w.heap.size := by
  obtain ⟨_, _, h1, _⟩ := h
  rcases Nat.lt_or_ge g w.heap.size with hl | hl
  · exact hl
  · rw [Array.getElem?_eq_none hl] at h1; cases h1

def NewSaid (v : Value) (zs : List Int) (w : World) (e : Ending) (w' : World) : Prop := ∃ g : Nat, e = .returned (.pointer (some ⟨g, 0, none⟩)) ∧ w.heap.size ≤ g ∧ Cur w' g v zs ∧ Below w.heap.size w w'

set_option maxRecDepth 100000 in
set_option maxHeartbeats 1000000 in
theorem l01New_any (v : Value) (zs : List Int) (w : World) (hz : IsBytes zs) (hl : Lst w v (bytesV zs)) :
    Calls Try.prog 90 #[v] w (NewSaid v zs w) := by
  obtain ⟨hz1, hz2⟩ := hz
  have HL := Lib.hid hl
  have HZ := Lib.hid hz2
  obtain ⟨A, c, rfl, -, -, hA⟩ := hl
  rw [bytesV_length] at HL ⊢
  have HA : Hid (∀ k (hk : k < zs.length), ∃ b off, A = some ⟨b, off, none⟩ ∧ b < w.heap.size ∧ w.cell? ⟨b, off + k, none⟩ = some (.int .u8 zs[k])) := by
    intro k hk
    replace hA := hA.resolve_left (by
      intro e
      have := congrArg List.length e
      rw [bytesV_length] at this
      simp only [List.length_nil] at this
      omega)
    obtain ⟨b, off, rfl, l2⟩ := hA
    have hc := l2 k (.int .u8 zs[k]) (by simp [bytesV, hk])
    exact ⟨b, off, rfl, World.block_lt_of_cell? w _ hc, hc⟩
  clear hA hz2
  go_enter Try.func90, Try.ntmps90
  go_wp2_with fail
  go_loop [3, 4] (fun h i => ∃ (k : Nat) (H : Int), k ≤ zs.length ∧ i = .int .i64 k ∧ h = .int .i64 H) (fun _ i => zs.length - (intOf i).toNat)
  case atStart => exact ⟨0, _, by omega, rfl, rfl⟩
  case round =>
    obtain ⟨k, H, hk, rfl, rfl⟩ := hrel
    by_cases hlt : k < zs.length ∧ k < 4000
    · obtain ⟨hlt1, hlt2⟩ := hlt
      obtain ⟨b, off, rfl, -, g1⟩ := HA.out k hlt1
      obtain ⟨z0, z1⟩ := HZ.out zs[k] (List.getElem_mem hlt1)
      generalize zs[k] = z at g1 z0 z1
      have d1 : decide ((k : Int) < zs.length) = true := by simp; omega
      have d2 : decide ((k : Int) < 4000) = true := by simp; omega
      go_wp2_with fail
      go_round
      case rel => exact ⟨k + 1, _, by omega, by go_num, rfl⟩
      case measure => simp [intOf]; omega
    · have hor : ¬ k < zs.length ∨ (k < zs.length ∧ ¬ k < 4000) := by omega
      have hfin : ∀ H : Int, NewSaid (.slice A zs.length c) zs w (.returned (.pointer (some ⟨w.heap.size, 0, none⟩))) (w.alloc (.cells #[.slice A zs.length c, .int .i64 0, .int .i64 H] 113)) := by
        intro H
        refine ⟨w.heap.size, rfl, Nat.le_refl _, ⟨0, H, heap_alloc_new w _, by omega, HL.out.below ((Below.refl _ _).alloc (Nat.le_refl _) _), ?_⟩, (Below.refl _ _).alloc (Nat.le_refl _) _⟩
        by_cases h0 : 0 < zs.length
        · obtain ⟨b, off, rfl, hb, _⟩ := HA.out 0 h0
          refine .inr ?_
          simp only [Value.ownBlock, ne_eq, Option.some.injEq]
          omega
        · exact .inl (List.eq_nil_of_length_eq_zero (by omega))
      have HF := Lib.hid hfin
      clear hfin hlt
      rcases hor with h1 | ⟨h1, h2⟩
      · go_wp2_with fail
        go_ret
        exact HF.out H
      · have d1 : decide ((k : Int) < zs.length) = true := by simp; omega
        have d2 : decide ((k : Int) < 4000) = false := by simp; omega
        go_wp2_with fail
        go_ret
        exact HF.out H
end Go.Proofs.Ytgidfainoijcmaa

/- More of the model's draws: l01Below, l01Str, l31New, MakeNum, MakeText: what they give is in range; nothing old turns. Condition: the bytes are at most 2^20. -/
namespace Go.Proofs.Ytgidfainoijcmaa
open Go.RowKit

def BelowSaid (g : Nat) (v : Value) (zs : List Int) (n : Int) (w : World) (e : Ending) (w' : World) : Prop := ∃ x : Int, e = .returned (.int .i64 x) ∧ 0 ≤ x ∧ x < n ∧ Cur w' g v zs ∧ w.grownBy w' (some g)
theorem mod_in (x n : Int) (h : 0 < n) : 0 ≤ x % n ∧ x % n < n := ⟨Int.emod_nonneg _ (by omega), Int.emod_lt_of_pos _ h⟩

set_option maxHeartbeats 400000 in
theorem l01Below_small (g : Nat) (v : Value) (zs : List Int) (n : Int) (w : World) (hz : IsBytes zs) (hc : Cur w g v zs) (h0 : 0 < n) (h1 : n ≤ 256) :
    Calls Try.prog 58 #[.pointer (some ⟨g, 0, none⟩), .int .i64 n] w (BelowSaid g v zs n w) := by
  have HB := Lib.hid (l01Byte_any g v zs w hz hc)
  have HM := Lib.hid (fun x => mod_in x n h0)
  clear hz hc
  go_enter Try.func58, Try.ntmps58
  go_wp2_with fail
  refine HB.out.mono ?_
  rintro e w1 ⟨x, rfl, x0, x1, hc1, hg1⟩
  have HC := Lib.hid hc1
  clear hc1
  go_wp2_with fail
  go_ret
  exact ⟨x % n, rfl, (HM.out x).1, (HM.out x).2, HC.out, hg1⟩

def StrSaid (g : Nat) (v : Value) (zs : List Int) (L : List ByteArray) (w : World) (e : Ending) (w' : World) : Prop := ∃ s : ByteArray, s ∈ L ∧ e = .returned (.string s) ∧ Cur w' g v zs ∧ w.grownBy w' (some g)

set_option maxHeartbeats 400000 in
theorem l01Str_any (g : Nat) (v : Value) (zs : List Int) (b : Nat) (L : List ByteArray) (w : World) (hz : IsBytes zs) (hc : Cur w g v zs) (hL : 0 < L.length) (hL2 : L.length ≤ 256) (hb : b ≠ g)
    (hl : ∀ k (hk : k < L.length), w.cell? ⟨b, k, none⟩ = some (.string L[k])) :
    Calls Try.prog 88 #[.pointer (some ⟨g, 0, none⟩), .slice (some ⟨b, 0, none⟩) L.length L.length] w (StrSaid g v zs L w) := by
  have HB := Lib.hid (l01Below_small g v zs L.length w hz hc (by omega) (by omega))
  have HL := Lib.hid hl
  clear hz hc hl
  go_enter Try.func88, Try.ntmps88
  go_wp2_with fail
  refine HB.out.mono ?_
  rintro e w1 ⟨x, rfl, x0, x1, hc1, hg1⟩
  obtain ⟨k, rfl⟩ := Int.eq_ofNat_of_zero_le x0
  have hk : k < L.length := by omega
  have g1 : w1.cell? ⟨b, k, none⟩ = some (.string L[k]) := hg1.cell (HL.out k hk) (by simpa using hb)
  have HC := Lib.hid hc1
  clear hc1
  go_wp2_with fail
  go_ret
  exact ⟨L[k], List.getElem_mem hk, rfl, HC.out, hg1⟩

set_option maxHeartbeats 400000 in
theorem l31New_any (v : Value) (zs : List Int) (n : Int) (w : World) (hz : IsBytes zs) (hl : Lst w v (bytesV zs)) (h0 : 0 ≤ n) (h1 : n ≤ 1048576) :
    Calls Try.prog 49 #[v, .int .i64 n] w (NewSaid v zs w) := by
  have HN := Lib.hid (l01New_any v zs w hz hl)
  have HZ := Lib.hid hz
  obtain ⟨m, rfl⟩ := Int.eq_ofNat_of_zero_le h0
  obtain ⟨A, c, rfl, -, -, -⟩ := hl
  rw [bytesV_length] at HN ⊢
  clear hz
  go_enter Try.func49, Try.ntmps49
  go_wp2_with fail
  refine HN.out.mono ?_
  rintro e w1 ⟨g, rfl, hg, hc1, hb1⟩
  have HC := Lib.hid hc1
  clear hc1
  go_wp2_with fail
  go_loopw [6] (fun i w' => ∃ k : Nat, k ≤ m ∧ i = .int .i64 k ∧ Cur w' g (.slice A zs.length c) zs ∧ Below w.heap.size w w') (fun i _ => m - (intOf i).toNat)
  case atStart => exact ⟨0, by omega, rfl, HC.out, hb1⟩
  case round =>
    obtain ⟨k, hk, rfl, hc, hb⟩ := hrel
    have HK := Lib.hid hc
    clear hc
    by_cases hlt : k < m
    · go_wp2_with fail
      refine (l01Byte_any g _ zs _ HZ.out HK.out).mono ?_
      rintro e w2 ⟨x, rfl, x0, x1, hc2, hg2⟩
      have HC2 := Lib.hid hc2
      clear hc2
      go_wp2_with fail
      go_roundw
      case rel => exact ⟨k + 1, by omega, by go_num, HC2.out, hb.grown hg2 hb.size (fun j hj => by cases hj; exact hg)⟩
      case measure => simp [intOf]; omega
    · go_wp2_with fail
      go_ret
      exact ⟨g, rfl, hg, HK.out, hb⟩

def NumSaid (w : World) (e : Ending) (w' : World) : Prop := ∃ x : Int, e = .returned (.int .i64 x) ∧ 0 ≤ x ∧ x ≤ 65535 ∧ Below w.heap.size w w'

end Go.Proofs.Ytgidfainoijcmaa

/- MakeText gives a text of at most 16 bytes; nothing old turns. And a slice of bytes that came in, opened. -/
namespace Go.Proofs.Ytgidfainoijcmaa
open Go.ChangeShapes Go.WideShapes Go.RowKit

theorem bytes_arg {H : Type} {enc : TypeId × Value → H} {P : Program} {w : World} {base : Nat} {r : Reach} {b0 : Nat} {t e : TypeId} {v : Value} {d : DataW H} {ps : List MemPlace} (ht : P.underlying t = some (.slice e)) (he : P.underlying e = some (.int .u8)) (hc : P.cellsOf e = 1)
    (hval : Value.okWide P w r b0 t v) (h : DataW.Trod enc P w base (fun _ => true) true t v d ps) : ∃ zs : List Int, Lst w v (bytesV zs) ∧ ∀ z ∈ zs, 0 ≤ z ∧ z ≤ 255 := by
  obtain ⟨fuel, hf⟩ := h
  obtain ⟨A, ln, cp, rfl⟩ : ∃ A ln cp, v = .slice A ln cp := by
    simp only [Value.okWide, ht, Cell.okWide] at hval
    cases v <;> simp_all [Cell.ok]
  rcases open_ints ht he hc hf with ⟨hcs, _⟩ | ⟨a, len, cap, zs, hcs, _, hl, hm, hlen, _, hcell, hwf⟩
  · simp [Value.cells] at hcs
    obtain ⟨rfl, rfl, rfl⟩ := hcs
    exact ⟨[], ⟨none, 0, by simp [bytesV], by simp [bytesV], by simp [maxLen], .inl rfl⟩, by simp⟩
  · simp [Value.cells] at hcs
    obtain ⟨rfl, rfl, rfl⟩ := hcs
    simp at hlen
    refine ⟨zs.take ln, ?_, fun z hz => ?_⟩
    · refine ⟨some a, cp, by simp [bytesV, hlen, Nat.min_eq_left hl], by simp [bytesV, hlen]; omega, hm, ?_⟩
      by_cases h0 : ln = 0
      · subst h0
        exact .inl (by simp [bytesV])
      · obtain ⟨b, off, spot⟩ := a
        have h1 := hcell 0 (by omega)
        have hspot : spot = none := by simpa [Addr.add] using World.cell?_spot h1
        subst hspot
        refine .inr ⟨b, off, rfl, fun i u hu => ?_⟩
        have hi : i < ln := by
          have := (List.getElem?_eq_some_iff.1 hu).1
          simp [bytesV, hlen] at this
          omega
        have h2 := hcell i (by omega)
        rw [Addr.add_lit] at h2
        rw [h2]
        simp [bytesV, hi] at hu
        obtain ⟨x, hx, rfl⟩ := hu
        simp [List.getD, hx]
    · have := hwf z (List.mem_of_mem_take hz)
      simp [Lit.wf, IntKind.min, IntKind.max, IntKind.signed, IntKind.bits] at this
      exact this

def TextSaid (w : World) (e : Ending) (w' : World) : Prop := ∃ s : ByteArray, e = .returned (.string s) ∧ s.size ≤ 16 ∧ Below w.heap.size w w'
def five : List ByteArray := [⟨#[97]⟩, ⟨#[98, 99]⟩, ⟨#[32]⟩, ⟨#[44]⟩, ⟨#[120, 49]⟩]
theorem five_short : ∀ s ∈ five, s.size ≤ 2 := by
  intro s hs
  simp only [five, List.mem_cons, List.not_mem_nil, or_false] at hs
  rcases hs with rfl | rfl | rfl | rfl | rfl <;> decide

end Go.Proofs.Ytgidfainoijcmaa

/- Plain facts on the digits of a text. No program in it. -/
namespace Go.Proofs.Ytgidfainoijcmaa
open Go.RowKit

def isDigB (c : UInt8) : Bool := decide (48 ≤ c.toNat) && decide (c.toNat ≤ 57)
def isLowB (c : UInt8) : Bool := decide (97 ≤ c.toNat) && decide (c.toNat ≤ 122)
def digs (l : List UInt8) : Bool := l.all isDigB && !l.isEmpty

theorem take_snoc (s : ByteArray) (k : Nat) (h : k < s.size) : s.data.toList.take (k + 1) = s.data.toList.take k ++ [s[k]] := by
  rw [List.take_succ_eq_append_getElem (by simpa using h)]; rfl
theorem take_all (s : ByteArray) (k : Nat) (h : s.size ≤ k) : s.data.toList.take k = s.data.toList := List.take_of_length_le (by simpa using h)
theorem all_snoc {p : UInt8 → Bool} (s : ByteArray) (k : Nat) (h : k < s.size) (ha : (s.data.toList.take k).all p = true) (hp : p s[k] = true) : (s.data.toList.take (k + 1)).all p = true := by
  rw [take_snoc s k h, List.all_append, ha]; simp [hp]
theorem all_not {p : UInt8 → Bool} (s : ByteArray) (k : Nat) (h : k < s.size) (hp : p s[k] = false) : s.data.toList.all p = false := by
  have hm : s[k] ∈ s.data.toList := by
    have : s[k] = s.data.toList[k]'(by simpa using h) := rfl
    rw [this]; exact List.getElem_mem _
  exact List.all_eq_false.2 ⟨_, hm, by simp [hp]⟩
theorem digs_no (s : ByteArray) (k : Nat) (h : k < s.size) (hp : isDigB s[k] = false) : digs s.data.toList = false := by
  unfold digs; rw [all_not s k h hp]; rfl
theorem digs_end (s : ByteArray) (ha : (s.data.toList.take s.size).all isDigB = true) : digs s.data.toList = decide (0 < s.size) := by
  rw [take_all s _ (Nat.le_refl _)] at ha
  unfold digs; rw [ha]
  obtain ⟨⟨l⟩⟩ := s
  cases l <;> simp [ByteArray.size]
end Go.Proofs.Ytgidfainoijcmaa
