/- What counts of letters become. No program in it. -/
import Derived.Test.YtbbcdeknnfghkaaMatQ
namespace Go.Proofs.Ytbbcdeknnfghkaa
open Go.RowKit

def cTo (l : List ByteArray) (cs : List Int) (j : Nat) : Nat → Int
  | 0 => 0
  | k + 1 => cTo l cs j k + at2 (matL l) j k * cs.getD k 0
/-- the counts after one application -/
def stepC (l : List ByteArray) (cs : List Int) : List Int := (List.range l.length).map fun j => cTo l cs j l.length
def itC (l : List ByteArray) (cs : List Int) : Nat → List Int
  | 0 => cs
  | n + 1 => stepC l (itC l cs n)
def smallC (x : Int) : Bool := decide (x ≤ 1000000000000)
def itCok (l : List ByteArray) (cs : List Int) : Nat → Bool
  | 0 => true
  | n + 1 => itCok l cs n && (stepC l (itC l cs n)).all smallC
theorem itCok_mono {l : List ByteArray} {cs : List Int} {k : Nat} (h : itCok l cs k = false) : ∀ n, itCok l cs (k + n) = false
  | 0 => h
  | n + 1 => by
    show (itCok l cs (k + n) && _) = false
    rw [itCok_mono h n, Bool.false_and]
def cntOk (x : Int) : Bool := decide (0 ≤ x) && decide (x ≤ 1000)
/-- whether CountAfter has an answer -/
def caOk (l : List ByteArray) (cs : List Int) (n : Int) : Bool := ((substB l && decide (cs.length = l.length)) && (decide (0 ≤ n) && decide (n ≤ 40))) && (cs.all cntOk && itCok l cs n.toNat)
def caR (l : List ByteArray) (cs : List Int) (n : Int) : List Int := if caOk l cs n = true then itC l cs n.toNat else []
theorem caR_no {l : List ByteArray} {cs : List Int} {n : Int} (h : caOk l cs n = false) : caR l cs n = [] := if_neg (by rw [h]; decide)
theorem stepC_length (l : List ByteArray) (cs : List Int) : (stepC l cs).length = l.length := by simp [stepC]
theorem stepC_at (l : List ByteArray) (cs : List Int) (j : Nat) (h : j < (stepC l cs).length) : (stepC l cs)[j] = cTo l cs j l.length := by simp [stepC]
theorem stepC_take (l : List ByteArray) (cs : List Int) (j : Nat) (h : j < l.length) : (stepC l cs).take (j + 1) = (stepC l cs).take j ++ [cTo l cs j l.length] := by
  have hj : j < (stepC l cs).length := by rw [stepC_length]; exact h
  rw [List.take_succ_eq_append_getElem hj, stepC_at l cs j hj]
theorem itC_length {l : List ByteArray} {cs : List Int} (h : cs.length = l.length) : ∀ n, (itC l cs n).length = l.length
  | 0 => h
  | _ + 1 => stepC_length _ _
theorem caR_le (l : List ByteArray) (cs : List Int) (n : Int) : (caR l cs n).length ≤ 4 := by
  unfold caR; split
  · rename_i h
    unfold caOk at h
    simp only [Bool.and_eq_true, decide_eq_true_eq] at h
    rw [itC_length h.1.1.2]
    exact (subst_parts h.1.1.1).2.1
  · simp
theorem matL_row (l : List ByteArray) (i : Nat) (h : i < (matL l).length) : (matL l)[i].length = l.length := by rw [matL_at, rowL_length]
theorem matL_small {l : List ByteArray} (hl : substB l = true) (i k : Nat) (hi : i < l.length) (hk : k < l.length) : 0 ≤ at2 (matL l) i k ∧ at2 (matL l) i k ≤ 8 := by
  have h1 : i < (matL l).length := by rw [matL_length]; exact hi
  have h2 : k < (matL l)[i].length := by rw [matL_row]; exact hk
  rw [at2_eq _ _ _ h1 h2]
  have e : (matL l)[i][k] = (cnt l[k].data.toList (letterN i) : Int) := by simp [matL, rowL]
  rw [e]
  have := cnt_le l[k].data.toList (letterN i)
  have h3 := (img_parts ((subst_parts hl).2.2 k hk)).2.1
  have h4 : l[k].data.toList.length = l[k].size := by simp
  omega
theorem mul_nat {x y B C : Int} (h1 : 0 ≤ x ∧ x ≤ B) (h2 : 0 ≤ y ∧ y ≤ C) : 0 ≤ x * y ∧ x * y ≤ B * C :=
  ⟨Int.mul_nonneg h1.1 h2.1, Int.mul_le_mul h1.2 h2.2 h2.1 (by omega)⟩
theorem cTo_bound {l : List ByteArray} {cs : List Int} (hl : substB l = true) (hc : ∀ k, k < l.length → 0 ≤ cs.getD k 0 ∧ cs.getD k 0 ≤ 1000000000000) (j : Nat) (hj : j < l.length) : ∀ k, k ≤ l.length → 0 ≤ cTo l cs j k ∧ cTo l cs j k ≤ k * 8000000000000
  | 0, _ => by simp [cTo]
  | k + 1, hk => by
    have ih := cTo_bound hl hc j hj k (by omega)
    have hb := mul_nat (matL_small hl j k hj (by omega)) (hc k (by omega))
    unfold cTo
    omega
theorem all_getD {p : Int → Bool} {cs : List Int} (h : cs.all p = true) (k : Nat) (hk : k < cs.length) : p (cs.getD k 0) = true := by
  rw [List.getD_eq_getElem?_getD, List.getElem?_eq_getElem hk]
  exact List.all_eq_true.1 h _ (List.getElem_mem hk)
/-- counts that have come out well are small -/
theorem itC_small {l : List ByteArray} {cs : List Int} (hl : substB l = true) (h0 : cs.length = l.length) (hc : cs.all cntOk = true) : ∀ n, itCok l cs n = true → ∀ k, k < l.length → 0 ≤ (itC l cs n).getD k 0 ∧ (itC l cs n).getD k 0 ≤ 1000000000000
  | 0, _, k, hk => by
    have := all_getD hc k (by omega)
    simp [cntOk] at this
    show 0 ≤ cs.getD k 0 ∧ cs.getD k 0 ≤ 1000000000000
    rw [List.getD_eq_getElem?_getD] at *
    omega
  | n + 1, h, k, hk => by
    have h' : (itCok l cs n && (stepC l (itC l cs n)).all smallC) = true := h
    rw [Bool.and_eq_true] at h'
    have ih := itC_small hl h0 hc n h'.1
    have hks : k < (stepC l (itC l cs n)).length := by rw [stepC_length]; exact hk
    have h1 := all_getD h'.2 k hks
    show 0 ≤ (stepC l (itC l cs n)).getD k 0 ∧ (stepC l (itC l cs n)).getD k 0 ≤ 1000000000000
    have e : (stepC l (itC l cs n)).getD k 0 = cTo l (itC l cs n) k l.length := by
      rw [List.getD_eq_getElem?_getD, List.getElem?_eq_getElem hks, stepC_at]
      rfl
    rw [e] at h1 ⊢
    simp [smallC] at h1
    exact ⟨(cTo_bound hl ih k hk l.length (Nat.le_refl _)).1, h1⟩
end Go.Proofs.Ytbbcdeknnfghkaa
