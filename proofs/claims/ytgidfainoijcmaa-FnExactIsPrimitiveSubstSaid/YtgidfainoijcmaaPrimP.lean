/- Signs of powers of a matrix. No program in it. -/
import Derived.Test.YtgidfainoijcmaaCountP
namespace Go.Proofs.Ytgidfainoijcmaa
open Go.RowKit

/-- whether one of the first j products of a row and a column has both numbers above 0 -/
def sgB (a b : List (List Int)) (i k : Nat) : Nat → Bool
  | 0 => false
  | j + 1 => sgB a b i k j || (decide (0 < at2 a i j) && decide (0 < at2 b j k))
def sgI (a b : List (List Int)) (i k j : Nat) : Int := if sgB a b i k j = true then 1 else 0
def sgRow (a b : List (List Int)) (i : Nat) : List Int := (List.range b.length).map fun k => sgI a b i k b.length
def sgM (a b : List (List Int)) : List (List Int) := (List.range a.length).map (sgRow a b)
theorem sgM_length (a b : List (List Int)) : (sgM a b).length = a.length := by simp [sgM]
theorem sgRow_length (a b : List (List Int)) (i : Nat) : (sgRow a b i).length = b.length := by simp [sgRow]
theorem sgM_at (a b : List (List Int)) (i : Nat) (h : i < (sgM a b).length) : (sgM a b)[i] = sgRow a b i := by simp [sgM]
theorem sgRow_take (a b : List (List Int)) (i k : Nat) (h : k < b.length) : ints ((sgRow a b i).take (k + 1)) = ints ((sgRow a b i).take k) ++ [.int .i64 (sgI a b i k b.length)] := by
  have hk : k < (sgRow a b i).length := by rw [sgRow_length]; exact h
  rw [List.take_succ_eq_append_getElem hk, ints_snoc]
  congr 3
  simp [sgRow]
theorem sgI_yes {a b : List (List Int)} {i k j : Nat} (h1 : 0 < at2 a i j) (h2 : 0 < at2 b j k) : sgI a b i k (j + 1) = 1 := by
  unfold sgI
  rw [if_pos]
  show (sgB a b i k j || _) = true
  rw [decide_eq_true h1, decide_eq_true h2]
  simp
theorem sgI_no {a b : List (List Int)} {i k j : Nat} (h : (decide (0 < at2 a i j) && decide (0 < at2 b j k)) = false) : sgI a b i k (j + 1) = sgI a b i k j := by
  unfold sgI
  have : sgB a b i k (j + 1) = sgB a b i k j := by
    show (sgB a b i k j || _) = _
    rw [h, Bool.or_false]
  rw [this]
/-- all rows have n numbers, and there are n rows -/
def RectN (n : Nat) (m : List (List Int)) : Prop := m.length = n ∧ ∀ i (h : i < m.length), m[i].length = n
theorem sgM_rect {n : Nat} {a b : List (List Int)} (ha : RectN n a) (hb : RectN n b) : RectN n (sgM a b) :=
  ⟨by rw [sgM_length]; exact ha.1, fun i h => by rw [sgM_at, sgRow_length]; exact hb.1⟩
theorem matL_rect (l : List ByteArray) : RectN l.length (matL l) := ⟨matL_length l, matL_row l⟩
/-- the signs of a power -/
def powS (l : List ByteArray) : Nat → List (List Int)
  | 0 => matL l
  | i + 1 => sgM (powS l i) (matL l)
theorem powS_rect (l : List ByteArray) : ∀ i, RectN l.length (powS l i)
  | 0 => matL_rect l
  | i + 1 => sgM_rect (powS_rect l i) (matL_rect l)
def posRow (m : List (List Int)) (i : Nat) : Nat → Bool
  | 0 => true
  | k + 1 => posRow m i k && decide (0 < at2 m i k)
def posTo (m : List (List Int)) (n : Nat) : Nat → Bool
  | 0 => true
  | i + 1 => posTo m n i && posRow m i n
/-- whether one of the first powers has no number 0 -/
def primTo (l : List ByteArray) : Nat → Bool
  | 0 => false
  | i + 1 => primTo l i || posTo (powS l i) l.length l.length
theorem primTo_mono {l : List ByteArray} {i : Nat} (h : primTo l i = true) : ∀ n, primTo l (i + n) = true
  | 0 => h
  | n + 1 => by
    show (primTo l (i + n) || _) = true
    rw [primTo_mono h n, Bool.true_or]
/-- what IsPrimitiveSubst is to return -/
def primR (l : List ByteArray) : Bool := substB l && primTo l 16
end Go.Proofs.Ytgidfainoijcmaa
