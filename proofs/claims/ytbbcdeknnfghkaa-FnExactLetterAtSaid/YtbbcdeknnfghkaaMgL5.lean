/- Texts put together. -/
import Derived.Test.YtbbcdeknnfghkaaChecked
import Derived.Test.YtbbcdeknnfghkaaMgL1
import Derived.Deep.QuietTactic
import Derived.BigQuiet
import Derived.Test.YtbbcdeknnfghkaaMgL4
/- The laws' own helpers on slices of ints: eqIntS, markIntS, heldIntS, as contracts. Conditions: lengths as Go has them. -/
namespace Go.Proofs.Ytbbcdeknnfghkaa
open Go.RowKit

def ints (l : List Int) : List Value := l.map (Value.int .i64)
theorem ints_length (l : List Int) : (ints l).length = l.length := by simp [ints]
theorem ints_snoc (l : List Int) (x : Int) : ints (l ++ [x]) = ints l ++ [.int .i64 x] := by simp [ints]
theorem ints_at {w : World} {b off : Nat} {l : List Int} (h : ∀ (i : Nat) u, (ints l)[i]? = some u → w.cell? ⟨b, off + i, none⟩ = some u) (k : Nat) (hk : k < l.length) : w.cell? ⟨b, off + k, none⟩ = some (.int .i64 l[k]) :=
  h k _ (by simp [ints, hk])
theorem int_info : (Try.prog.info? 3).map (fun i => (i.zero, i.size, i.bytes)) = some (some (.int .i64 0), 1, 8) := by kernel_rfl

/-- the n numbers from k on -/
def upto (k : Int) (n : Nat) : List Int := (List.range n).map fun (i : Nat) => k + (i : Int)
theorem upto_length (k : Int) (n : Nat) : (upto k n).length = n := by simp [upto]
theorem upto_at (k : Int) (n i : Nat) (h : i < n) : (upto k n)[i]'(by simpa [upto] using h) = k + i := by simp [upto]
theorem upto_succ (k : Int) (n : Nat) : ints (upto k (n + 1)) = ints (upto k n) ++ [.int .i64 (k + n)] := by simp [upto, ints, List.range_succ]

end Go.Proofs.Ytbbcdeknnfghkaa

/- The matrix of a substitution, what becomes of counts, products, determinants. No program in it. -/
namespace Go.Proofs.Ytbbcdeknnfghkaa
open Go.RowKit

def letterN (i : Nat) : UInt8 := UInt8.ofNat (97 + i)
theorem letterN_toNat (i : Nat) (h : i ≤ 4) : (letterN i).toNat = 97 + i := by
  unfold letterN
  rw [UInt8.toNat_ofNat']
  omega
/-- row i of the matrix: how often the letter i stands in each image -/
def rowL (l : List ByteArray) (i : Nat) : List Int := l.map fun x => (cnt x.data.toList (letterN i) : Int)
def matL (l : List ByteArray) : List (List Int) := (List.range l.length).map (rowL l)
theorem rowL_length (l : List ByteArray) (i : Nat) : (rowL l i).length = l.length := by simp [rowL]
theorem matL_length (l : List ByteArray) : (matL l).length = l.length := by simp [matL]
theorem matL_at (l : List ByteArray) (i : Nat) (h : i < (matL l).length) : (matL l)[i] = rowL l i := by simp [matL]
theorem rowL_at (l : List ByteArray) (i k : Nat) (h : k < l.length) (h' : k < (rowL l i).length) : (rowL l i)[k] = (cnt l[k].data.toList (letterN i) : Int) := by simp [rowL]
theorem rowL_succ (l : List ByteArray) (i k : Nat) (h : k < l.length) : ints (rowL (l.take (k + 1)) i) = ints (rowL (l.take k) i) ++ [.int .i64 (cnt l[k].data.toList (letterN i) : Int)] := by
  unfold rowL
  rw [List.take_succ_eq_append_getElem h, List.map_append, List.map_cons, List.map_nil, ints_snoc]
/-- what MatrixOf is to return -/
def matR (l : List ByteArray) : List (List Int) := if substB l = true then matL l else []
theorem matR_le (l : List ByteArray) : (matR l).length ≤ 4 := by
  unfold matR; split
  · rename_i h; rw [matL_length]; exact (subst_parts h).2.1
  · simp
/-- the sum of the first k products -/
def dotTo (a b : List Int) : Nat → Int
  | 0 => 0
  | k + 1 => dotTo a b k + a.getD k 0 * b.getD k 0
end Go.Proofs.Ytbbcdeknnfghkaa

/- Square matrices, traces, products. No program in it. -/
namespace Go.Proofs.Ytbbcdeknnfghkaa
open Go.RowKit

def rowOk (n : Nat) (r : List Int) : Bool := decide (r.length = n) && r.all fun x => decide (-100 ≤ x) && decide (x ≤ 100)
/-- a square matrix with one to four rows and small numbers -/
def sqB (m : List (List Int)) : Bool := (decide (1 ≤ m.length) && decide (m.length ≤ 4)) && m.all (rowOk m.length)
theorem sq_len {m : List (List Int)} (h : ¬ (1 ≤ m.length ∧ m.length ≤ 4)) : sqB m = false := by
  unfold sqB
  have : (decide (1 ≤ m.length) && decide (m.length ≤ 4)) = false := by simpa using h
  rw [this, Bool.false_and]
theorem sq_no {m : List (List Int)} (k : Nat) (hk : k < m.length) (h : rowOk m.length m[k] = false) : sqB m = false := by
  unfold sqB
  rw [lall_no m k hk h, Bool.and_false]
theorem sq_yes {m : List (List Int)} (h1 : 1 ≤ m.length) (h2 : m.length ≤ 4) (ha : (m.take m.length).all (rowOk m.length) = true) : sqB m = true := by
  unfold sqB
  rw [lall_end m ha, decide_eq_true h1, decide_eq_true h2]
  rfl
theorem sq_parts {m : List (List Int)} (h : sqB m = true) : 1 ≤ m.length ∧ m.length ≤ 4 ∧ (∀ k (hk : k < m.length), m[k].length = m.length) ∧ (∀ k (hk : k < m.length) j (hj : j < m[k].length), -100 ≤ m[k][j] ∧ m[k][j] ≤ 100) := by
  unfold sqB at h
  simp only [Bool.and_eq_true, decide_eq_true_eq] at h
  have hr : ∀ k (hk : k < m.length), rowOk m.length m[k] = true := fun k hk => List.all_eq_true.1 h.2 _ (List.getElem_mem hk)
  refine ⟨h.1.1, h.1.2, fun k hk => ?_, fun k hk j hj => ?_⟩
  · have := hr k hk
    unfold rowOk at this
    rw [Bool.and_eq_true] at this
    simpa using this.1
  · have := hr k hk
    unfold rowOk at this
    rw [Bool.and_eq_true] at this
    have h2 := List.all_eq_true.1 this.2 _ (List.getElem_mem hj)
    simpa using h2
/-- the number in row i and column k -/
def at2 (m : List (List Int)) (i k : Nat) : Int := (m.getD i []).getD k 0
theorem at2_eq (m : List (List Int)) (i k : Nat) (hi : i < m.length) (hk : k < m[i].length) : at2 m i k = m[i][k] := by
  unfold at2
  rw [List.getD_eq_getElem?_getD, List.getD_eq_getElem?_getD, List.getElem?_eq_getElem hi]
  simp [hk]
def trTo (m : List (List Int)) : Nat → Int
  | 0 => 0
  | k + 1 => trTo m k + at2 m k k
/-- what TraceOf is to return -/
def trR (m : List (List Int)) : Int := if sqB m = true then trTo m m.length else 0

/-- the sum of the first products of a row and a column -/
def colTo (a b : List (List Int)) (i k : Nat) : Nat → Int
  | 0 => 0
  | j + 1 => colTo a b i k j + at2 a i j * at2 b j k
def mulRow (a b : List (List Int)) (i : Nat) : List Int := (List.range b.length).map fun k => colTo a b i k b.length
def mulM (a b : List (List Int)) : List (List Int) := (List.range a.length).map (mulRow a b)
def mulOk (a b : List (List Int)) : Bool := sqB a && (sqB b && decide (a.length = b.length))
/-- what MultiplyMatrices is to return -/
def mulR (a b : List (List Int)) : List (List Int) := if mulOk a b = true then mulM a b else []
theorem mulM_length (a b : List (List Int)) : (mulM a b).length = a.length := by simp [mulM]
theorem mulRow_length (a b : List (List Int)) (i : Nat) : (mulRow a b i).length = b.length := by simp [mulRow]
theorem mulM_at (a b : List (List Int)) (i : Nat) (h : i < (mulM a b).length) : (mulM a b)[i] = mulRow a b i := by simp [mulM]
theorem mulRow_take (a b : List (List Int)) (i k : Nat) (h : k < b.length) : ints ((mulRow a b i).take (k + 1)) = ints ((mulRow a b i).take k) ++ [.int .i64 (colTo a b i k b.length)] := by
  have hk : k < (mulRow a b i).length := by rw [mulRow_length]; exact h
  rw [List.take_succ_eq_append_getElem hk, ints_snoc]
  congr 3
  simp [mulRow]
theorem mulR_le (a b : List (List Int)) : (mulR a b).length ≤ 4 := by
  unfold mulR; split
  · rename_i h
    unfold mulOk at h
    rw [Bool.and_eq_true] at h
    rw [mulM_length]
    exact (sq_parts h.1).2.1
  · simp
theorem mul_bound {x y : Int} {B C : Int} (h1 : -B ≤ x ∧ x ≤ B) (h2 : -C ≤ y ∧ y ≤ C) : -(B * C) ≤ x * y ∧ x * y ≤ B * C := by
  have hB : 0 ≤ B := by omega
  have hC : 0 ≤ C := by omega
  have h3 : x.natAbs * y.natAbs ≤ B.toNat * C.toNat := Nat.mul_le_mul (by omega) (by omega)
  have h4 : (x * y).natAbs = x.natAbs * y.natAbs := Int.natAbs_mul x y
  have h5 : ((B.toNat * C.toNat : Nat) : Int) = B * C := by rw [Int.natCast_mul, Int.toNat_of_nonneg hB, Int.toNat_of_nonneg hC]
  rw [← h4] at h3
  rw [← h5]
  generalize B.toNat * C.toNat = M at h3
  omega
theorem colTo_bound {a b : List (List Int)} {i k : Nat} {B C : Int} (n : Nat) (h1 : ∀ j, j < n → -B ≤ at2 a i j ∧ at2 a i j ≤ B) (h2 : ∀ j, j < n → -C ≤ at2 b j k ∧ at2 b j k ≤ C) : ∀ j, j ≤ n → -(j * (B * C)) ≤ colTo a b i k j ∧ colTo a b i k j ≤ j * (B * C)
  | 0, _ => by simp [colTo]
  | j + 1, hj => by
    have ih := colTo_bound n h1 h2 j (by omega)
    have hb := mul_bound (h1 j (by omega)) (h2 j (by omega))
    have e : ((j + 1 : Nat) : Int) * (B * C) = j * (B * C) + B * C := by rw [Int.natCast_add, Int.add_mul]; simp
    rw [e]
    unfold colTo
    omega
end Go.Proofs.Ytbbcdeknnfghkaa
