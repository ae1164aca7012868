/- The matrix of a substitution, what becomes of counts, products, determinants. No program in it. -/
import Derived.Test.YtbbcdeknnfghkaaSubstW
import Derived.Test.YtbbcdeknnfghkaaInts
namespace Go.Proofs.Ytbbcdeknnfghkaa
open Go.RowKit

def letterN (i : Nat) : UInt8 := UInt8.ofNat (97 + i)
theorem letterN_toNat (i : Nat) (h : i ≤ 4) : (letterN i).toNat = 97 + i := by
  unfold letterN
  rw [UInt8.toNat_ofNat']
  omega
/-- row i of the matrix: how often the letter i stands in each image -/
def rowL (l : List ByteArray) (i : Nat) : List Int := l.map fun x => (cnt x.data.toList (letterN i) : Int)
def matL (l : List ByteArray) : List (List Int) := (List.range l.length).map (rowL l)
theorem rowL_length (l : List ByteArray) (i : Nat) : (rowL l i).length = l.length := by simp [rowL]
theorem matL_length (l : List ByteArray) : (matL l).length = l.length := by simp [matL]
theorem matL_at (l : List ByteArray) (i : Nat) (h : i < (matL l).length) : (matL l)[i] = rowL l i := by simp [matL]
theorem rowL_at (l : List ByteArray) (i k : Nat) (h : k < l.length) (h' : k < (rowL l i).length) : (rowL l i)[k] = (cnt l[k].data.toList (letterN i) : Int) := by simp [rowL]
theorem rowL_succ (l : List ByteArray) (i k : Nat) (h : k < l.length) : ints (rowL (l.take (k + 1)) i) = ints (rowL (l.take k) i) ++ [.int .i64 (cnt l[k].data.toList (letterN i) : Int)] := by
  unfold rowL
  rw [List.take_succ_eq_append_getElem h, List.map_append, List.map_cons, List.map_nil, ints_snoc]
/-- what MatrixOf is to return -/
def matR (l : List ByteArray) : List (List Int) := if substB l = true then matL l else []
theorem matR_le (l : List ByteArray) : (matR l).length ≤ 4 := by
  unfold matR; split
  · rename_i h; rw [matL_length]; exact (subst_parts h).2.1
  · simp
/-- the sum of the first k products -/
def dotTo (a b : List Int) : Nat → Int
  | 0 => 0
  | k + 1 => dotTo a b k + a.getD k 0 * b.getD k 0
end Go.Proofs.Ytbbcdeknnfghkaa
