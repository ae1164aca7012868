/- Texts put together. -/
import Derived.Test.YtjmijedfmiplfaaMgA5
import Derived.Test.YtjmijedfmiplfaaMgA3
/- What a valid substitution makes of a valid word is a valid word, if it is short enough; applied again and again. No program in it. -/
namespace Go.Proofs.Ytjmijedfmiplfaa
open Go.RowKit

def stepS (l : List ByteArray) (s : ByteArray) : ByteArray := ⟨(applyL l s.data.toList).toArray⟩
theorem stepS_list (l : List ByteArray) (s : ByteArray) : (stepS l s).data.toList = applyL l s.data.toList := rfl
theorem stepS_size (l : List ByteArray) (s : ByteArray) : (stepS l s).size = (applyL l s.data.toList).length := by
  show (applyL l s.data.toList).toArray.size = _
  simp
theorem all_of_word {s : ByteArray} (h : wordB s = true) : s.data.toList.all isAbcd = true := by
  unfold wordB at h
  rw [Bool.and_eq_true] at h
  exact h.2
theorem applyL_all (p : UInt8 → Bool) {l : List ByteArray} (hp : ∀ k (hk : k < l.length), l[k].data.toList.all p = true) (w : List UInt8) (hw : ∀ c ∈ w, 97 ≤ c.toNat ∧ c.toNat < 97 + l.length) : (applyL l w).all p = true := by
  unfold applyL
  rw [List.all_flatMap, List.all_eq_true]
  intro c hc
  obtain ⟨h1, h2⟩ := hw c hc
  rw [imgOf_at l c (c.toNat - 97) (by omega) (by omega)]
  exact hp _ _
theorem word_mem {s : ByteArray} (h : wordB s = true) {n : Nat} (h2 : withinB n s = true) : ∀ c ∈ s.data.toList, 97 ≤ c.toNat ∧ c.toNat < 97 + n := by
  intro c hc
  have a := List.all_eq_true.1 (all_of_word h) c hc
  have b := List.all_eq_true.1 h2 c hc
  simp [isAbcd] at a b
  omega
theorem step_word {l : List ByteArray} {s : ByteArray} (hl : substB l = true) (hs : wordB s = true) (hw : withinB l.length s = true) (h4 : (applyL l s.data.toList).length ≤ 400) : wordB (stepS l s) = true ∧ withinB l.length (stepS l s) = true := by
  obtain ⟨_, _, hi⟩ := subst_parts hl
  constructor
  · unfold wordB
    rw [stepS_size, decide_eq_true h4, stepS_list, applyL_all isAbcd (fun k hk => all_of_word (img_parts (hi k hk)).2.2.1) _ (word_mem hs hw)]
    rfl
  · exact applyL_all _ (fun k hk => (img_parts (hi k hk)).2.2.2) _ (word_mem hs hw)

/-- what ApplySubst is to return -/
def appOk (l : List ByteArray) (s : ByteArray) : Bool := (substB l && (wordB s && withinB l.length s)) && decide ((applyL l s.data.toList).length ≤ 400)
def appR (l : List ByteArray) (s : ByteArray) : ByteArray := if appOk l s = true then stepS l s else ⟨#[]⟩

def iterS (l : List ByteArray) (s : ByteArray) : Nat → ByteArray
  | 0 => s
  | n + 1 => stepS l (iterS l s n)
def iterOk (l : List ByteArray) (s : ByteArray) : Nat → Bool
  | 0 => true
  | n + 1 => iterOk l s n && decide ((applyL l (iterS l s n).data.toList).length ≤ 400)
theorem iterOk_mono {l : List ByteArray} {s : ByteArray} {k : Nat} (h : iterOk l s k = false) : ∀ n, iterOk l s (k + n) = false
  | 0 => h
  | n + 1 => by
    show (iterOk l s (k + n) && _) = false
    rw [iterOk_mono h n, Bool.false_and]
theorem iter_word {l : List ByteArray} {s : ByteArray} (hl : substB l = true) (hs : wordB s = true) (hw : withinB l.length s = true) : ∀ n, iterOk l s n = true → wordB (iterS l s n) = true ∧ withinB l.length (iterS l s n) = true
  | 0, _ => ⟨hs, hw⟩
  | n + 1, h => by
    have h' : (iterOk l s n && decide ((applyL l (iterS l s n).data.toList).length ≤ 400)) = true := h
    rw [Bool.and_eq_true, decide_eq_true_eq] at h'
    obtain ⟨a, b⟩ := iter_word hl hs hw n h'.1
    exact step_word hl a b h'.2
/-- what IterateSubst is to return -/
def itOk (l : List ByteArray) (s : ByteArray) (n : Int) : Bool := (decide (0 ≤ n) && decide (n ≤ 20)) && ((substB l && (wordB s && withinB l.length s)) && iterOk l s n.toNat)
def itR (l : List ByteArray) (s : ByteArray) (n : Int) : ByteArray := if itOk l s n = true then iterS l s n.toNat else ⟨#[]⟩
def PairSaid (r : ByteArray) (ok : Bool) (w : World) (e : Ending) (w' : World) : Prop := e = .returned (.tuple #[.string r, .bool ok]) ∧ Below w.heap.size w w'
theorem appR_no {l : List ByteArray} {s : ByteArray} (h : appOk l s = false) {w w' : World} (hb : Below w.heap.size w w') : PairSaid (appR l s) (appOk l s) w (.returned (.tuple #[.string ⟨#[]⟩, .bool false])) w' := by
  refine ⟨?_, hb⟩
  have e : appR l s = ⟨#[]⟩ := if_neg (by rw [h]; decide)
  rw [h, e]
theorem itR_no {l : List ByteArray} {s : ByteArray} {n : Int} (h : itOk l s n = false) {w w' : World} (hb : Below w.heap.size w w') : PairSaid (itR l s n) (itOk l s n) w (.returned (.tuple #[.string ⟨#[]⟩, .bool false])) w' := by
  refine ⟨?_, hb⟩
  have e : itR l s n = ⟨#[]⟩ := if_neg (by rw [h]; decide)
  rw [h, e]

theorem img_le {l : List ByteArray} (hl : substB l = true) (c : UInt8) : (imgOf l c).length ≤ 8 := by
  obtain ⟨_, _, hi⟩ := subst_parts hl
  unfold imgOf
  rw [List.getD_eq_getElem?_getD]
  by_cases h : c.toNat - 97 < l.length
  · rw [List.getElem?_eq_getElem h]
    have := (img_parts (hi _ h)).2.1
    simpa using this
  · rw [List.getElem?_eq_none (by omega)]
    simp
theorem applyL_le {l : List ByteArray} (hl : substB l = true) : ∀ w : List UInt8, (applyL l w).length ≤ 8 * w.length
  | [] => by simp [applyL]
  | c :: w => by
    have h1 := img_le hl c
    have h2 := applyL_le hl w
    unfold applyL at h2 ⊢
    rw [List.flatMap_cons, List.length_append, List.length_cons]
    omega
/-- what ComposeSubst is to return -/
def compR (l m : List ByteArray) : List ByteArray := l.map (stepS m)
def compOk (l m : List ByteArray) : Bool := (substB l && (substB m && decide (l.length = m.length))) && substB (compR l m)
def compSub (l m : List ByteArray) : List ByteArray := if compOk l m = true then compR l m else []
theorem compSub_le (l m : List ByteArray) : (compSub l m).length ≤ 4 := by
  unfold compSub; split
  · rename_i h
    unfold compOk at h
    rw [Bool.and_eq_true] at h
    exact (subst_parts h.2).2.1
  · simp
theorem compR_succ (l m : List ByteArray) (k : Nat) (hk : k < l.length) : strs (compR (l.take (k + 1)) m) = strs (compR (l.take k) m) ++ [.string (stepS m l[k])] := by
  unfold compR
  rw [List.take_succ_eq_append_getElem hk, List.map_append, List.map_cons, List.map_nil, strs_snoc]
theorem compR_small {l m : List ByteArray} (hl : substB l = true) (hm : substB m = true) : ∀ x ∈ compR l m, x.size ≤ 1048576 := by
  intro x hx
  obtain ⟨y, hy, rfl⟩ := List.mem_map.1 hx
  obtain ⟨k, hk, rfl⟩ := List.mem_iff_getElem.1 hy
  have h1 := (img_parts ((subst_parts hl).2.2 k hk)).2.1
  have h2 := applyL_le hm l[k].data.toList
  rw [stepS_size]
  have : l[k].data.toList.length = l[k].size := by simp
  omega
end Go.Proofs.Ytjmijedfmiplfaa

/- The matrix of a substitution, what becomes of counts, products, determinants. No program in it. -/
namespace Go.Proofs.Ytjmijedfmiplfaa
open Go.RowKit

def letterN (i : Nat) : UInt8 := UInt8.ofNat (97 + i)
theorem letterN_toNat (i : Nat) (h : i ≤ 4) : (letterN i).toNat = 97 + i := by
  unfold letterN
  rw [UInt8.toNat_ofNat']
  omega
/-- row i of the matrix: how often the letter i stands in each image -/
def rowL (l : List ByteArray) (i : Nat) : List Int := l.map fun x => (cnt x.data.toList (letterN i) : Int)
def matL (l : List ByteArray) : List (List Int) := (List.range l.length).map (rowL l)
theorem rowL_length (l : List ByteArray) (i : Nat) : (rowL l i).length = l.length := by simp [rowL]
theorem matL_length (l : List ByteArray) : (matL l).length = l.length := by simp [matL]
theorem matL_at (l : List ByteArray) (i : Nat) (h : i < (matL l).length) : (matL l)[i] = rowL l i := by simp [matL]
theorem rowL_at (l : List ByteArray) (i k : Nat) (h : k < l.length) (h' : k < (rowL l i).length) : (rowL l i)[k] = (cnt l[k].data.toList (letterN i) : Int) := by simp [rowL]
theorem rowL_succ (l : List ByteArray) (i k : Nat) (h : k < l.length) : ints (rowL (l.take (k + 1)) i) = ints (rowL (l.take k) i) ++ [.int .i64 (cnt l[k].data.toList (letterN i) : Int)] := by
  unfold rowL
  rw [List.take_succ_eq_append_getElem h, List.map_append, List.map_cons, List.map_nil, ints_snoc]
/-- what MatrixOf is to return -/
def matR (l : List ByteArray) : List (List Int) := if substB l = true then matL l else []
theorem matR_le (l : List ByteArray) : (matR l).length ≤ 4 := by
  unfold matR; split
  · rename_i h; rw [matL_length]; exact (subst_parts h).2.1
  · simp
/-- the sum of the first k products -/
def dotTo (a b : List Int) : Nat → Int
  | 0 => 0
  | k + 1 => dotTo a b k + a.getD k 0 * b.getD k 0
end Go.Proofs.Ytjmijedfmiplfaa

/- Square matrices, traces, products. No program in it. -/
namespace Go.Proofs.Ytjmijedfmiplfaa
open Go.RowKit

def rowOk (n : Nat) (r : List Int) : Bool := decide (r.length = n) && r.all fun x => decide (-100 ≤ x) && decide (x ≤ 100)
/-- a square matrix with one to four rows and small numbers -/
def sqB (m : List (List Int)) : Bool := (decide (1 ≤ m.length) && decide (m.length ≤ 4)) && m.all (rowOk m.length)
theorem sq_len {m : List (List Int)} (h : ¬ (1 ≤ m.length ∧ m.length ≤ 4)) : sqB m = false := by
  unfold sqB
  have : (decide (1 ≤ m.length) && decide (m.length ≤ 4)) = false := by simpa using h
  rw [this, Bool.false_and]
theorem sq_no {m : List (List Int)} (k : Nat) (hk : k < m.length) (h : rowOk m.length m[k] = false) : sqB m = false := by
  unfold sqB
  rw [lall_no m k hk h, Bool.and_false]
theorem sq_yes {m : List (List Int)} (h1 : 1 ≤ m.length) (h2 : m.length ≤ 4) (ha : (m.take m.length).all (rowOk m.length) = true) : sqB m = true := by
  unfold sqB
  rw [lall_end m ha, decide_eq_true h1, decide_eq_true h2]
  rfl
theorem sq_parts {m : List (List Int)} (h : sqB m = true) : 1 ≤ m.length ∧ m.length ≤ 4 ∧ (∀ k (hk : k < m.length), m[k].length = m.length) ∧ (∀ k (hk : k < m.length) j (hj : j < m[k].length), -100 ≤ m[k][j] ∧ m[k][j] ≤ 100) := by
  unfold sqB at h
  simp only [Bool.and_eq_true, decide_eq_true_eq] at h
  have hr : ∀ k (hk : k < m.length), rowOk m.length m[k] = true := fun k hk => List.all_eq_true.1 h.2 _ (List.getElem_mem hk)
  refine ⟨h.1.1, h.1.2, fun k hk => ?_, fun k hk j hj => ?_⟩
  · have := hr k hk
    unfold rowOk at this
    rw [Bool.and_eq_true] at this
    simpa using this.1
  · have := hr k hk
    unfold rowOk at this
    rw [Bool.and_eq_true] at this
    have h2 := List.all_eq_true.1 this.2 _ (List.getElem_mem hj)
    simpa using h2
/-- the number in row i and column k -/
def at2 (m : List (List Int)) (i k : Nat) : Int := (m.getD i []).getD k 0
theorem at2_eq (m : List (List Int)) (i k : Nat) (hi : i < m.length) (hk : k < m[i].length) : at2 m i k = m[i][k] := by
  unfold at2
  rw [List.getD_eq_getElem?_getD, List.getD_eq_getElem?_getD, List.getElem?_eq_getElem hi]
  simp [hk]
def trTo (m : List (List Int)) : Nat → Int
  | 0 => 0
  | k + 1 => trTo m k + at2 m k k
/-- what TraceOf is to return -/
def trR (m : List (List Int)) : Int := if sqB m = true then trTo m m.length else 0

/-- the sum of the first products of a row and a column -/
def colTo (a b : List (List Int)) (i k : Nat) : Nat → Int
  | 0 => 0
  | j + 1 => colTo a b i k j + at2 a i j * at2 b j k
def mulRow (a b : List (List Int)) (i : Nat) : List Int := (List.range b.length).map fun k => colTo a b i k b.length
def mulM (a b : List (List Int)) : List (List Int) := (List.range a.length).map (mulRow a b)
def mulOk (a b : List (List Int)) : Bool := sqB a && (sqB b && decide (a.length = b.length))
/-- what MultiplyMatrices is to return -/
def mulR (a b : List (List Int)) : List (List Int) := if mulOk a b = true then mulM a b else []
theorem mulM_length (a b : List (List Int)) : (mulM a b).length = a.length := by simp [mulM]
theorem mulRow_length (a b : List (List Int)) (i : Nat) : (mulRow a b i).length = b.length := by simp [mulRow]
theorem mulM_at (a b : List (List Int)) (i : Nat) (h : i < (mulM a b).length) : (mulM a b)[i] = mulRow a b i := by simp [mulM]
theorem mulRow_take (a b : List (List Int)) (i k : Nat) (h : k < b.length) : ints ((mulRow a b i).take (k + 1)) = ints ((mulRow a b i).take k) ++ [.int .i64 (colTo a b i k b.length)] := by
  have hk : k < (mulRow a b i).length := by rw [mulRow_length]; exact h
  rw [List.take_succ_eq_append_getElem hk, ints_snoc]
  congr 3
  simp [mulRow]
theorem mulR_le (a b : List (List Int)) : (mulR a b).length ≤ 4 := by
  unfold mulR; split
  · rename_i h
    unfold mulOk at h
    rw [Bool.and_eq_true] at h
    rw [mulM_length]
    exact (sq_parts h.1).2.1
  · simp
theorem mul_bound {x y : Int} {B C : Int} (h1 : -B ≤ x ∧ x ≤ B) (h2 : -C ≤ y ∧ y ≤ C) : -(B * C) ≤ x * y ∧ x * y ≤ B * C := by
  have hB : 0 ≤ B := by omega
  have hC : 0 ≤ C := by omega
  have h3 : x.natAbs * y.natAbs ≤ B.toNat * C.toNat := Nat.mul_le_mul (by omega) (by omega)
  have h4 : (x * y).natAbs = x.natAbs * y.natAbs := Int.natAbs_mul x y
  have h5 : ((B.toNat * C.toNat : Nat) : Int) = B * C := by rw [Int.natCast_mul, Int.toNat_of_nonneg hB, Int.toNat_of_nonneg hC]
  rw [← h4] at h3
  rw [← h5]
  generalize B.toNat * C.toNat = M at h3
  omega
theorem colTo_bound {a b : List (List Int)} {i k : Nat} {B C : Int} (n : Nat) (h1 : ∀ j, j < n → -B ≤ at2 a i j ∧ at2 a i j ≤ B) (h2 : ∀ j, j < n → -C ≤ at2 b j k ∧ at2 b j k ≤ C) : ∀ j, j ≤ n → -(j * (B * C)) ≤ colTo a b i k j ∧ colTo a b i k j ≤ j * (B * C)
  | 0, _ => by simp [colTo]
  | j + 1, hj => by
    have ih := colTo_bound n h1 h2 j (by omega)
    have hb := mul_bound (h1 j (by omega)) (h2 j (by omega))
    have e : ((j + 1 : Nat) : Int) * (B * C) = j * (B * C) + B * C := by rw [Int.natCast_add, Int.add_mul]; simp
    rw [e]
    unfold colTo
    omega
end Go.Proofs.Ytjmijedfmiplfaa

/- What counts of letters become. No program in it. -/
namespace Go.Proofs.Ytjmijedfmiplfaa
open Go.RowKit

def cTo (l : List ByteArray) (cs : List Int) (j : Nat) : Nat → Int
  | 0 => 0
  | k + 1 => cTo l cs j k + at2 (matL l) j k * cs.getD k 0
/-- the counts after one application -/
def stepC (l : List ByteArray) (cs : List Int) : List Int := (List.range l.length).map fun j => cTo l cs j l.length
def itC (l : List ByteArray) (cs : List Int) : Nat → List Int
  | 0 => cs
  | n + 1 => stepC l (itC l cs n)
def smallC (x : Int) : Bool := decide (x ≤ 1000000000000)
def itCok (l : List ByteArray) (cs : List Int) : Nat → Bool
  | 0 => true
  | n + 1 => itCok l cs n && (stepC l (itC l cs n)).all smallC
theorem itCok_mono {l : List ByteArray} {cs : List Int} {k : Nat} (h : itCok l cs k = false) : ∀ n, itCok l cs (k + n) = false
  | 0 => h
  | n + 1 => by
    show (itCok l cs (k + n) && _) = false
    rw [itCok_mono h n, Bool.false_and]
def cntOk (x : Int) : Bool := decide (0 ≤ x) && decide (x ≤ 1000)
/-- whether CountAfter has an answer -/
def caOk (l : List ByteArray) (cs : List Int) (n : Int) : Bool := ((substB l && decide (cs.length = l.length)) && (decide (0 ≤ n) && decide (n ≤ 40))) && (cs.all cntOk && itCok l cs n.toNat)
def caR (l : List ByteArray) (cs : List Int) (n : Int) : List Int := if caOk l cs n = true then itC l cs n.toNat else []
theorem caR_no {l : List ByteArray} {cs : List Int} {n : Int} (h : caOk l cs n = false) : caR l cs n = [] := if_neg (by rw [h]; decide)
theorem stepC_length (l : List ByteArray) (cs : List Int) : (stepC l cs).length = l.length := by simp [stepC]
theorem stepC_at (l : List ByteArray) (cs : List Int) (j : Nat) (h : j < (stepC l cs).length) : (stepC l cs)[j] = cTo l cs j l.length := by simp [stepC]
theorem stepC_take (l : List ByteArray) (cs : List Int) (j : Nat) (h : j < l.length) : (stepC l cs).take (j + 1) = (stepC l cs).take j ++ [cTo l cs j l.length] := by
  have hj : j < (stepC l cs).length := by rw [stepC_length]; exact h
  rw [List.take_succ_eq_append_getElem hj, stepC_at l cs j hj]
theorem itC_length {l : List ByteArray} {cs : List Int} (h : cs.length = l.length) : ∀ n, (itC l cs n).length = l.length
  | 0 => h
  | _ + 1 => stepC_length _ _
theorem caR_le (l : List ByteArray) (cs : List Int) (n : Int) : (caR l cs n).length ≤ 4 := by
  unfold caR; split
  · rename_i h
    unfold caOk at h
    simp only [Bool.and_eq_true, decide_eq_true_eq] at h
    rw [itC_length h.1.1.2]
    exact (subst_parts h.1.1.1).2.1
  · simp
theorem matL_row (l : List ByteArray) (i : Nat) (h : i < (matL l).length) : (matL l)[i].length = l.length := by rw [matL_at, rowL_length]
theorem matL_small {l : List ByteArray} (hl : substB l = true) (i k : Nat) (hi : i < l.length) (hk : k < l.length) : 0 ≤ at2 (matL l) i k ∧ at2 (matL l) i k ≤ 8 := by
  have h1 : i < (matL l).length := by rw [matL_length]; exact hi
  have h2 : k < (matL l)[i].length := by rw [matL_row]; exact hk
  rw [at2_eq _ _ _ h1 h2]
  have e : (matL l)[i][k] = (cnt l[k].data.toList (letterN i) : Int) := by simp [matL, rowL]
  rw [e]
  have := cnt_le l[k].data.toList (letterN i)
  have h3 := (img_parts ((subst_parts hl).2.2 k hk)).2.1
  have h4 : l[k].data.toList.length = l[k].size := by simp
  omega
theorem mul_nat {x y B C : Int} (h1 : 0 ≤ x ∧ x ≤ B) (h2 : 0 ≤ y ∧ y ≤ C) : 0 ≤ x * y ∧ x * y ≤ B * C :=
  ⟨Int.mul_nonneg h1.1 h2.1, Int.mul_le_mul h1.2 h2.2 h2.1 (by omega)⟩
theorem cTo_bound {l : List ByteArray} {cs : List Int} (hl : substB l = true) (hc : ∀ k, k < l.length → 0 ≤ cs.getD k 0 ∧ cs.getD k 0 ≤ 1000000000000) (j : Nat) (hj : j < l.length) : ∀ k, k ≤ l.length → 0 ≤ cTo l cs j k ∧ cTo l cs j k ≤ k * 8000000000000
  | 0, _ => by simp [cTo]
  | k + 1, hk => by
    have ih := cTo_bound hl hc j hj k (by omega)
    have hb := mul_nat (matL_small hl j k hj (by omega)) (hc k (by omega))
    unfold cTo
    omega
theorem all_getD {p : Int → Bool} {cs : List Int} (h : cs.all p = true) (k : Nat) (hk : k < cs.length) : p (cs.getD k 0) = true := by
  rw [List.getD_eq_getElem?_getD, List.getElem?_eq_getElem hk]
  exact List.all_eq_true.1 h _ (List.getElem_mem hk)
/-- counts that have come out well are small -/
theorem itC_small {l : List ByteArray} {cs : List Int} (hl : substB l = true) (h0 : cs.length = l.length) (hc : cs.all cntOk = true) : ∀ n, itCok l cs n = true → ∀ k, k < l.length → 0 ≤ (itC l cs n).getD k 0 ∧ (itC l cs n).getD k 0 ≤ 1000000000000
  | 0, _, k, hk => by
    have := all_getD hc k (by omega)
    simp [cntOk] at this
    show 0 ≤ cs.getD k 0 ∧ cs.getD k 0 ≤ 1000000000000
    rw [List.getD_eq_getElem?_getD] at *
    omega
  | n + 1, h, k, hk => by
    have h' : (itCok l cs n && (stepC l (itC l cs n)).all smallC) = true := h
    rw [Bool.and_eq_true] at h'
    have ih := itC_small hl h0 hc n h'.1
    have hks : k < (stepC l (itC l cs n)).length := by rw [stepC_length]; exact hk
    have h1 := all_getD h'.2 k hks
    show 0 ≤ (stepC l (itC l cs n)).getD k 0 ∧ (stepC l (itC l cs n)).getD k 0 ≤ 1000000000000
    have e : (stepC l (itC l cs n)).getD k 0 = cTo l (itC l cs n) k l.length := by
      rw [List.getD_eq_getElem?_getD, List.getElem?_eq_getElem hks, stepC_at]
      rfl
    rw [e] at h1 ⊢
    simp [smallC] at h1
    exact ⟨(cTo_bound hl ih k hk l.length (Nat.le_refl _)).1, h1⟩
end Go.Proofs.Ytjmijedfmiplfaa
