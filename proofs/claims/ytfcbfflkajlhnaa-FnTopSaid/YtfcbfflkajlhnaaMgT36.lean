/- Texts put together. -/
import Derived.Test.YtfcbfflkajlhnaaMgT33
import Derived.Test.YtfcbfflkajlhnaaMgT8
import Derived.Test.YtfcbfflkajlhnaaMgT4
import Derived.Deep.AppendLies
import Derived.Test.YtfcbfflkajlhnaaMgT14
import Derived.Test.YtfcbfflkajlhnaaMgT13
/- The model's draws of matrices: l04Draw, MakeMatrix, MakeSize. Condition: the bytes are at most 2^20. -/
namespace Go.Proofs.Ytfcbfflkajlhnaa
open Go.RowKit

/-- n rows of n numbers from -2 to 4 -/
def SmallM (n : Nat) (m : List (List Int)) : Prop := m.length = n ∧ ∀ r ∈ m, r.length = n ∧ ∀ x ∈ r, -2 ≤ x ∧ x ≤ 4

/-- a matrix that is being drawn: its rows are known as they come -/
theorem rows_more {w : World} {B : Nat} {us : List Value} {m : List (List Int)} (h : RowsTo w B us m) (hl : us.length = m.length) (r : List Int) : RowsTo w B us (m ++ [r]) :=
  ⟨by simp; omega, fun i a b => by have hi : i < m.length := by omega
                                   rw [List.getElem_append_left hi]; exact h.2.1 i a hi, h.2.2⟩

def MatDrawn (n : Nat) (g : Nat) (w : World) (e : Ending) (w' : World) : Prop :=
  ∃ (u : Value) (m : List (List Int)), e = .returned u ∧ SmallM n m ∧ OwnMat w' w.heap.size w'.heap.size u m ∧ w.grownBy w' (some g)
theorem grown_two {a b c : World} {g B : Nat} {row : Option Nat} (h : a.grownBy b (some g)) (k : b.grownBy c row) (hr : ∀ j, row = some j → B ≤ j) (hB : a.heap.size ≤ B) : a.grownBy c (some g) := grown_made h k hr hB

def MatMade (n : Nat) (w : World) (e : Ending) (w' : World) : Prop :=
  ∃ (u : Value) (m : List (List Int)), e = .returned u ∧ SmallM n m ∧ OwnMat w' w.heap.size w'.heap.size u m ∧ Below w.heap.size w w'

def SizeSaid (lo hi : Int) (w : World) (e : Ending) (w' : World) : Prop := ∃ x : Int, e = .returned (.int .i64 x) ∧ lo ≤ x ∧ x ≤ hi ∧ Below w.heap.size w w'

set_option maxHeartbeats 400000 in
theorem makeSize_any (v : Value) (zs : List Int) (c : Int) (w : World) (hz : IsBytes zs) (hl : Lst w v (bytesV zs)) (h0 : 0 ≤ c) (h1 : c ≤ 1048576) :
    Calls Try.prog 15 #[v, .int .i64 c, .int .i64 1, .int .i64 3] w (SizeSaid 1 3 w) := by
  have HN := Lib.hid (fun w' (hb : Below w.heap.size w w') => l31New_any v zs c w' hz (hl.below hb) h0 h1)
  have HZ := Lib.hid hz
  obtain ⟨A, cp, rfl, -, -, -⟩ := hl
  rw [bytesV_length] at HN ⊢
  clear hz
  go_enter Try.func15, Try.ntmps15
  go_wp2_with fail
  go_loop [9, 10] (fun s k => ∃ j : Nat, j ≤ 2 ∧ k = .int .i64 ((j : Int) + 1) ∧ s = .int .i64 ((j : Int) + 1)) (fun _ k => 3 - (intOf k).toNat)
  case atStart => exact ⟨0, by omega, rfl, rfl⟩
  case round =>
    obtain ⟨j, hj, rfl, rfl⟩ := hrel
    by_cases hlt : j < 2
    · have d1 : decide ((j : Int) + 1 < 3) = true := by simp; omega
      have d2 : decide ((j : Int) + 1 < 100) = true := by simp; omega
      go_wp2_with fail
      go_round
      case rel => exact ⟨j + 1, by omega, by go_num, by go_num⟩
      case measure => simp [intOf]; omega
    · have hj2 : j = 2 := by omega
      subst hj2
      go_wp2_with fail
      refine (HN.out _ (Below.refl _ _)).mono ?_
      rintro e w1 ⟨g, rfl, hg, hc1, hb1⟩
      have HC := Lib.hid hc1
      have HB1 := Lib.hid hb1
      clear hc1 hb1
      go_wp2_with fail
      refine (l01Below_small g _ zs 3 _ HZ.out HC.out (by omega) (by omega)).mono ?_
      rintro e w2 ⟨x, rfl, x0, x1, hc2, hg2⟩
      have HB2 : Hid (Below w.heap.size w w2) := HB1.out.grown hg2 HB1.out.size (fun j hj => by cases hj; exact hg)
      obtain ⟨q, rfl⟩ := Int.eq_ofNat_of_zero_le x0
      clear hc2 hg2
      go_wp2_with fail
      go_loop [11, 12] (fun o k => ∃ r : Nat, r ≤ q ∧ k = .int .i64 r ∧ o = .int .i64 (1 + ((q : Int) - r))) (fun _ k => (intOf k).toNat)
      case atStart => exact ⟨q, Nat.le_refl _, rfl, by simp⟩
      case round =>
        obtain ⟨r, hr, rfl, rfl⟩ := hrel
        by_cases hlt2 : 0 < r
        · go_wp2_with fail
          go_round
          case rel => exact ⟨r - 1, by omega, by rw [show (r : Int) - 1 = ((r - 1 : Nat) : Int) from by omega], by congr 1; omega⟩
          case measure => simp [intOf]; omega
        · go_wp2_with fail
          go_ret
          exact ⟨_, rfl, by omega, by omega, HB2.out⟩
end Go.Proofs.Ytfcbfflkajlhnaa

/- MakeSize for any two bounds that lie at most 98 apart. -/
namespace Go.Proofs.Ytfcbfflkajlhnaa
open Go.RowKit

set_option maxHeartbeats 1000000 in
theorem makeSize_gen (v : Value) (zs : List Int) (c low high : Int) (w : World) (hz : IsBytes zs) (hl : Lst w v (bytesV zs)) (h0 : 0 ≤ c) (h1 : c ≤ 1048576) (hlow : 0 ≤ low) (hlh : low ≤ high) (hhi : high ≤ low + 98) (hmax : low ≤ 1000) :
    Calls Try.prog 15 #[v, .int .i64 c, .int .i64 low, .int .i64 high] w (SizeSaid low high w) := by
  have HN := Lib.hid (fun w' (hb : Below w.heap.size w w') => l31New_any v zs c w' hz (hl.below hb) h0 h1)
  have HZ := Lib.hid hz
  obtain ⟨n, hn⟩ : ∃ n : Nat, high = low + n := ⟨(high - low).toNat, by omega⟩
  subst hn
  obtain ⟨A, cp, rfl, -, -, -⟩ := hl
  rw [bytesV_length] at HN ⊢
  clear hz
  go_enter Try.func15, Try.ntmps15
  go_wp2_with fail
  go_loop [9, 10] (fun s k => ∃ j : Nat, j ≤ n ∧ k = .int .i64 (low + (j : Int)) ∧ s = .int .i64 ((j : Int) + 1)) (fun _ k => (low + n - intOf k).toNat)
  case atStart => exact ⟨0, by omega, by simp, rfl⟩
  case round =>
    obtain ⟨j, hj, rfl, rfl⟩ := hrel
    by_cases hlt : j < n
    · have d1 : decide (low + (j : Int) < low + (n : Int)) = true := by simp; omega
      have d2 : decide ((j : Int) + 1 < 100) = true := by simp; omega
      go_wp2_with fail
      go_round
      case rel => exact ⟨j + 1, by omega, by congr 1; omega, by go_num⟩
      case measure => simp [intOf]; omega
    · have hj2 : j = n := by omega
      subst hj2
      go_wp2_with fail
      refine (HN.out _ (Below.refl _ _)).mono ?_
      rintro e w1 ⟨g, rfl, hg, hc1, hb1⟩
      have HC := Lib.hid hc1
      have HB1 := Lib.hid hb1
      clear hc1 hb1
      go_wp2_with fail
      refine (l01Below_small g _ zs ((j : Int) + 1) _ HZ.out HC.out (by omega) (by omega)).mono ?_
      rintro e w2 ⟨x, rfl, x0, x1, hc2, hg2⟩
      have HB2 : Hid (Below w.heap.size w w2) := HB1.out.grown hg2 HB1.out.size (fun j hj => by cases hj; exact hg)
      obtain ⟨q, rfl⟩ := Int.eq_ofNat_of_zero_le x0
      clear hc2 hg2
      go_wp2_with fail
      go_loop [11, 12] (fun o k => ∃ r : Nat, r ≤ q ∧ k = .int .i64 r ∧ o = .int .i64 (low + ((q : Int) - r))) (fun _ k => (intOf k).toNat)
      case atStart => exact ⟨q, Nat.le_refl _, rfl, by simp⟩
      case round =>
        obtain ⟨r, hr, rfl, rfl⟩ := hrel
        by_cases hlt2 : 0 < r
        · go_wp2_with fail
          go_round
          case rel => exact ⟨r - 1, by omega, by rw [show (r : Int) - 1 = ((r - 1 : Nat) : Int) from by omega], by congr 1; omega⟩
          case measure => simp [intOf]; omega
        · go_wp2_with fail
          go_ret
          exact ⟨_, rfl, by omega, by omega, HB2.out⟩
end Go.Proofs.Ytfcbfflkajlhnaa

/- Factors of a word: what chapter 7 is to return. No program in it. -/
namespace Go.Proofs.Ytfcbfflkajlhnaa
open Go.RowKit

/-- the factors of n letters, ascending -/
def fctL (s : ByteArray) (n : Nat) : List ByteArray := facTo s n (s.size + 1 - n)
def fctOk (s : ByteArray) (n : Int) : Bool := wordB s && (decide (1 ≤ n) && decide (n ≤ 400))
def fctR (s : ByteArray) (n : Int) : List ByteArray := if fctOk s n = true then fctL s n.toNat else []
def cpxR (s : ByteArray) (n : Int) : Int := if fctOk s n = true then ((fctL s n.toNat).length : Int) else -1
def allTo (s : ByteArray) : Nat → Nat
  | 0 => 0
  | k + 1 => allTo s k + (fctL s (k + 1)).length
def allOk (s : ByteArray) : Bool := wordB s && decide (s.size ≤ 60)
def allR (s : ByteArray) : Int := if allOk s = true then (allTo s s.size : Int) else -1
/-- the factor and a letter behind it or ahead of it -/
def exL (f : ByteArray) (before : Bool) (k : Nat) : ByteArray := if before = true then ⟨#[letterN k]⟩ ++ f else f ++ ⟨#[letterN k]⟩
/-- the letters behind or ahead of a factor -/
noncomputable def nxtS (s f : ByteArray) (before : Bool) : ByteArray := ⟨(outTo (fun k => hasR s (exL f before k)) 4).toArray⟩
noncomputable def nxtR (s f : ByteArray) (before : Bool) : ByteArray := if (wordB s && wordB f) = true then nxtS s f before else ⟨#[]⟩
noncomputable def spcL (s : ByteArray) (n : Nat) (before : Bool) : List ByteArray := (fctL s n).filter fun f => decide (1 < (nxtS s f before).size)
noncomputable def spcR (s : ByteArray) (n : Int) (before : Bool) : List ByteArray := if fctOk s n = true then spcL s n.toNat before else []
/-- the index of a string in a list, or -1 -/
def atN (l : List ByteArray) (x : ByteArray) : Nat := l.findIdx fun y => x.toList == y.toList
def atR (l : List ByteArray) (x : ByteArray) : Int := if atN l x < l.length then (atN l x : Int) else -1
def edgeL (s : ByteArray) (n : Nat) : List (List Int) := (fctL s (n + 1)).map fun f => [atR (fctL s n) (f.extract 0 n), atR (fctL s n) (f.extract 1 f.size)]
def grfR (s : ByteArray) (n : Int) : List (List Int) := if fctOk s n = true then edgeL s n.toNat else []
end Go.Proofs.Ytfcbfflkajlhnaa
