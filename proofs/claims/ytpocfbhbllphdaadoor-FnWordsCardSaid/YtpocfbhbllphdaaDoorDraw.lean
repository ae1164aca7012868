/- More of the model's draws: l01Below, l01Str, l31New, MakeNum, MakeText: what they give is in range; nothing old turns. Condition: the bytes are at most 2^20. -/
import Derived.Test.YtpocfbhbllphdaaDoorCur
namespace Go.Proofs.YtpocfbhbllphdaaDoor
open Go.RowKit

def BelowSaid (g : Nat) (v : Value) (zs : List Int) (n : Int) (w : World) (e : Ending) (w' : World) : Prop := ∃ x : Int, e = .returned (.int .i64 x) ∧ 0 ≤ x ∧ x < n ∧ Cur w' g v zs ∧ w.grownBy w' (some g)
theorem mod_in (x n : Int) (h : 0 < n) : 0 ≤ x % n ∧ x % n < n := ⟨Int.emod_nonneg _ (by omega), Int.emod_lt_of_pos _ h⟩

set_option maxHeartbeats 400000 in
theorem l01Below_small (g : Nat) (v : Value) (zs : List Int) (n : Int) (w : World) (hz : IsBytes zs) (hc : Cur w g v zs) (h0 : 0 < n) (h1 : n ≤ 256) :
    Calls Tryd.prog 21 #[.pointer (some ⟨g, 0, none⟩), .int .i64 n] w (BelowSaid g v zs n w) := by
  have HB := Lib.hid (l01Byte_any g v zs w hz hc)
  have HM := Lib.hid (fun x => mod_in x n h0)
  clear hz hc
  go_enter Tryd.func21, Tryd.ntmps21
  go_wp2_with fail
  refine HB.out.mono ?_
  rintro e w1 ⟨x, rfl, x0, x1, hc1, hg1⟩
  have HC := Lib.hid hc1
  clear hc1
  go_wp2_with fail
  go_ret
  exact ⟨x % n, rfl, (HM.out x).1, (HM.out x).2, HC.out, hg1⟩

def StrSaid (g : Nat) (v : Value) (zs : List Int) (L : List ByteArray) (w : World) (e : Ending) (w' : World) : Prop := ∃ s : ByteArray, s ∈ L ∧ e = .returned (.string s) ∧ Cur w' g v zs ∧ w.grownBy w' (some g)

set_option maxHeartbeats 400000 in
theorem l01Str_any (g : Nat) (v : Value) (zs : List Int) (b : Nat) (L : List ByteArray) (w : World) (hz : IsBytes zs) (hc : Cur w g v zs) (hL : 0 < L.length) (hL2 : L.length ≤ 256) (hb : b ≠ g)
    (hl : ∀ k (hk : k < L.length), w.cell? ⟨b, k, none⟩ = some (.string L[k])) :
    Calls Tryd.prog 22 #[.pointer (some ⟨g, 0, none⟩), .slice (some ⟨b, 0, none⟩) L.length L.length] w (StrSaid g v zs L w) := by
  have HB := Lib.hid (l01Below_small g v zs L.length w hz hc (by omega) (by omega))
  have HL := Lib.hid hl
  clear hz hc hl
  go_enter Tryd.func22, Tryd.ntmps22
  go_wp2_with fail
  refine HB.out.mono ?_
  rintro e w1 ⟨x, rfl, x0, x1, hc1, hg1⟩
  obtain ⟨k, rfl⟩ := Int.eq_ofNat_of_zero_le x0
  have hk : k < L.length := by omega
  have g1 : w1.cell? ⟨b, k, none⟩ = some (.string L[k]) := hg1.cell (HL.out k hk) (by simpa using hb)
  have HC := Lib.hid hc1
  clear hc1
  go_wp2_with fail
  go_ret
  exact ⟨L[k], List.getElem_mem hk, rfl, HC.out, hg1⟩

set_option maxHeartbeats 400000 in
theorem l31New_any (v : Value) (zs : List Int) (n : Int) (w : World) (hz : IsBytes zs) (hl : Lst w v (bytesV zs)) (h0 : 0 ≤ n) (h1 : n ≤ 1048576) :
    Calls Tryd.prog 16 #[v, .int .i64 n] w (NewSaid v zs w) := by
  have HN := Lib.hid (l01New_any v zs w hz hl)
  have HZ := Lib.hid hz
  obtain ⟨m, rfl⟩ := Int.eq_ofNat_of_zero_le h0
  obtain ⟨A, c, rfl, -, -, -⟩ := hl
  rw [bytesV_length] at HN ⊢
  clear hz
  go_enter Tryd.func16, Tryd.ntmps16
  go_wp2_with fail
  refine HN.out.mono ?_
  rintro e w1 ⟨g, rfl, hg, hc1, hb1⟩
  have HC := Lib.hid hc1
  clear hc1
  go_wp2_with fail
  go_loopw [6] (fun i w' => ∃ k : Nat, k ≤ m ∧ i = .int .i64 k ∧ Cur w' g (.slice A zs.length c) zs ∧ Below w.heap.size w w') (fun i _ => m - (intOf i).toNat)
  case atStart => exact ⟨0, by omega, rfl, HC.out, hb1⟩
  case round =>
    obtain ⟨k, hk, rfl, hc, hb⟩ := hrel
    have HK := Lib.hid hc
    clear hc
    by_cases hlt : k < m
    · go_wp2_with fail
      refine (l01Byte_any g _ zs _ HZ.out HK.out).mono ?_
      rintro e w2 ⟨x, rfl, x0, x1, hc2, hg2⟩
      have HC2 := Lib.hid hc2
      clear hc2
      go_wp2_with fail
      go_roundw
      case rel => exact ⟨k + 1, by omega, by go_num, HC2.out, hb.grown hg2 hb.size (fun j hj => by cases hj; exact hg)⟩
      case measure => simp [intOf]; omega
    · go_wp2_with fail
      go_ret
      exact ⟨g, rfl, hg, HK.out, hb⟩

def NumSaid (w : World) (e : Ending) (w' : World) : Prop := ∃ x : Int, e = .returned (.int .i64 x) ∧ 0 ≤ x ∧ x ≤ 65535 ∧ Below w.heap.size w w'

set_option maxHeartbeats 400000 in
theorem makeNum_any (v : Value) (zs : List Int) (n : Int) (w : World) (hz : IsBytes zs) (hl : Lst w v (bytesV zs)) (h0 : 0 ≤ n) (h1 : n ≤ 1048576) :
    Calls Tryd.prog 6 #[v, .int .i64 n] w (NumSaid w) := by
  have HN := Lib.hid (l31New_any v zs n w hz hl h0 h1)
  have HZ := Lib.hid hz
  obtain ⟨A, c, rfl, -, -, -⟩ := hl
  rw [bytesV_length] at HN ⊢
  clear hz
  go_enter Tryd.func6, Tryd.ntmps6
  go_wp2_with fail
  refine HN.out.mono ?_
  rintro e w1 ⟨g, rfl, hg, hc1, hb1⟩
  have HC := Lib.hid hc1
  clear hc1
  go_wp2_with fail
  refine (l01Byte_any g _ zs _ HZ.out HC.out).mono ?_
  rintro e w2 ⟨x, rfl, x0, x1, hc2, hg2⟩
  have HC2 := Lib.hid hc2
  clear hc2
  go_wp2_with fail
  refine (l01Byte_any g _ zs _ HZ.out HC2.out).mono ?_
  rintro e w3 ⟨y, rfl, y0, y1, hc3, hg3⟩
  clear hc3
  go_wp2_with fail
  go_ret
  have hb2 := hb1.grown hg2 hb1.size (fun j hj => by cases hj; exact hg)
  exact ⟨x * 256 + y, rfl, by omega, by omega, hb2.grown hg3 hb2.size (fun j hj => by cases hj; exact hg)⟩
end Go.Proofs.YtpocfbhbllphdaaDoor
