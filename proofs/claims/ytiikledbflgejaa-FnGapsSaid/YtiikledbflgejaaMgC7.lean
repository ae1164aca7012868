/- Texts put together. -/
import Derived.Test.YtiikledbflgejaaMgC6
/- Square matrices, traces, products. No program in it. -/
namespace Go.Proofs.Ytiikledbflgejaa
open Go.RowKit

def rowOk (n : Nat) (r : List Int) : Bool := decide (r.length = n) && r.all fun x => decide (-100 ≤ x) && decide (x ≤ 100)
/-- a square matrix with one to four rows and small numbers -/
def sqB (m : List (List Int)) : Bool := (decide (1 ≤ m.length) && decide (m.length ≤ 4)) && m.all (rowOk m.length)
theorem sq_len {m : List (List Int)} (h : ¬ (1 ≤ m.length ∧ m.length ≤ 4)) : sqB m = false := by
  unfold sqB
  have : (decide (1 ≤ m.length) && decide (m.length ≤ 4)) = false := by simpa using h
  rw [this, Bool.false_and]
theorem sq_no {m : List (List Int)} (k : Nat) (hk : k < m.length) (h : rowOk m.length m[k] = false) : sqB m = false := by
  unfold sqB
  rw [lall_no m k hk h, Bool.and_false]
theorem sq_yes {m : List (List Int)} (h1 : 1 ≤ m.length) (h2 : m.length ≤ 4) (ha : (m.take m.length).all (rowOk m.length) = true) : sqB m = true := by
  unfold sqB
  rw [lall_end m ha, decide_eq_true h1, decide_eq_true h2]
  rfl
theorem sq_parts {m : List (List Int)} (h : sqB m = true) : 1 ≤ m.length ∧ m.length ≤ 4 ∧ (∀ k (hk : k < m.length), m[k].length = m.length) ∧ (∀ k (hk : k < m.length) j (hj : j < m[k].length), -100 ≤ m[k][j] ∧ m[k][j] ≤ 100) := by
  unfold sqB at h
  simp only [Bool.and_eq_true, decide_eq_true_eq] at h
  have hr : ∀ k (hk : k < m.length), rowOk m.length m[k] = true := fun k hk => List.all_eq_true.1 h.2 _ (List.getElem_mem hk)
  refine ⟨h.1.1, h.1.2, fun k hk => ?_, fun k hk j hj => ?_⟩
  · have := hr k hk
    unfold rowOk at this
    rw [Bool.and_eq_true] at this
    simpa using this.1
  · have := hr k hk
    unfold rowOk at this
    rw [Bool.and_eq_true] at this
    have h2 := List.all_eq_true.1 this.2 _ (List.getElem_mem hj)
    simpa using h2
/-- the number in row i and column k -/
def at2 (m : List (List Int)) (i k : Nat) : Int := (m.getD i []).getD k 0
theorem at2_eq (m : List (List Int)) (i k : Nat) (hi : i < m.length) (hk : k < m[i].length) : at2 m i k = m[i][k] := by
  unfold at2
  rw [List.getD_eq_getElem?_getD, List.getD_eq_getElem?_getD, List.getElem?_eq_getElem hi]
  simp [hk]
def trTo (m : List (List Int)) : Nat → Int
  | 0 => 0
  | k + 1 => trTo m k + at2 m k k
/-- what TraceOf is to return -/
def trR (m : List (List Int)) : Int := if sqB m = true then trTo m m.length else 0

/-- the sum of the first products of a row and a column -/
def colTo (a b : List (List Int)) (i k : Nat) : Nat → Int
  | 0 => 0
  | j + 1 => colTo a b i k j + at2 a i j * at2 b j k
def mulRow (a b : List (List Int)) (i : Nat) : List Int := (List.range b.length).map fun k => colTo a b i k b.length
def mulM (a b : List (List Int)) : List (List Int) := (List.range a.length).map (mulRow a b)
def mulOk (a b : List (List Int)) : Bool := sqB a && (sqB b && decide (a.length = b.length))
/-- what MultiplyMatrices is to return -/
def mulR (a b : List (List Int)) : List (List Int) := if mulOk a b = true then mulM a b else []
theorem mulM_length (a b : List (List Int)) : (mulM a b).length = a.length := by simp [mulM]
theorem mulRow_length (a b : List (List Int)) (i : Nat) : (mulRow a b i).length = b.length := by simp [mulRow]
theorem mulM_at (a b : List (List Int)) (i : Nat) (h : i < (mulM a b).length) : (mulM a b)[i] = mulRow a b i := by simp [mulM]
theorem mulRow_take (a b : List (List Int)) (i k : Nat) (h : k < b.length) : ints ((mulRow a b i).take (k + 1)) = ints ((mulRow a b i).take k) ++ [.int .i64 (colTo a b i k b.length)] := by
  have hk : k < (mulRow a b i).length := by rw [mulRow_length]; exact h
  rw [List.take_succ_eq_append_getElem hk, ints_snoc]
  congr 3
  simp [mulRow]
theorem mulR_le (a b : List (List Int)) : (mulR a b).length ≤ 4 := by
  unfold mulR; split
  · rename_i h
    unfold mulOk at h
    rw [Bool.and_eq_true] at h
    rw [mulM_length]
    exact (sq_parts h.1).2.1
  · simp
theorem mul_bound {x y : Int} {B C : Int} (h1 : -B ≤ x ∧ x ≤ B) (h2 : -C ≤ y ∧ y ≤ C) : -(B * C) ≤ x * y ∧ x * y ≤ B * C := by
  have hB : 0 ≤ B := by omega
  have hC : 0 ≤ C := by omega
  have h3 : x.natAbs * y.natAbs ≤ B.toNat * C.toNat := Nat.mul_le_mul (by omega) (by omega)
  have h4 : (x * y).natAbs = x.natAbs * y.natAbs := Int.natAbs_mul x y
  have h5 : ((B.toNat * C.toNat : Nat) : Int) = B * C := by rw [Int.natCast_mul, Int.toNat_of_nonneg hB, Int.toNat_of_nonneg hC]
  rw [← h4] at h3
  rw [← h5]
  generalize B.toNat * C.toNat = M at h3
  omega
theorem colTo_bound {a b : List (List Int)} {i k : Nat} {B C : Int} (n : Nat) (h1 : ∀ j, j < n → -B ≤ at2 a i j ∧ at2 a i j ≤ B) (h2 : ∀ j, j < n → -C ≤ at2 b j k ∧ at2 b j k ≤ C) : ∀ j, j ≤ n → -(j * (B * C)) ≤ colTo a b i k j ∧ colTo a b i k j ≤ j * (B * C)
  | 0, _ => by simp [colTo]
  | j + 1, hj => by
    have ih := colTo_bound n h1 h2 j (by omega)
    have hb := mul_bound (h1 j (by omega)) (h2 j (by omega))
    have e : ((j + 1 : Nat) : Int) * (B * C) = j * (B * C) + B * C := by rw [Int.natCast_add, Int.add_mul]; simp
    rw [e]
    unfold colTo
    omega
end Go.Proofs.Ytiikledbflgejaa

/- What counts of letters become. No program in it. -/
namespace Go.Proofs.Ytiikledbflgejaa
open Go.RowKit

def cTo (l : List ByteArray) (cs : List Int) (j : Nat) : Nat → Int
  | 0 => 0
  | k + 1 => cTo l cs j k + at2 (matL l) j k * cs.getD k 0
/-- the counts after one application -/
def stepC (l : List ByteArray) (cs : List Int) : List Int := (List.range l.length).map fun j => cTo l cs j l.length
def itC (l : List ByteArray) (cs : List Int) : Nat → List Int
  | 0 => cs
  | n + 1 => stepC l (itC l cs n)
def smallC (x : Int) : Bool := decide (x ≤ 1000000000000)
def itCok (l : List ByteArray) (cs : List Int) : Nat → Bool
  | 0 => true
  | n + 1 => itCok l cs n && (stepC l (itC l cs n)).all smallC
theorem itCok_mono {l : List ByteArray} {cs : List Int} {k : Nat} (h : itCok l cs k = false) : ∀ n, itCok l cs (k + n) = false
  | 0 => h
  | n + 1 => by
    show (itCok l cs (k + n) && _) = false
    rw [itCok_mono h n, Bool.false_and]
def cntOk (x : Int) : Bool := decide (0 ≤ x) && decide (x ≤ 1000)
/-- whether CountAfter has an answer -/
def caOk (l : List ByteArray) (cs : List Int) (n : Int) : Bool := ((substB l && decide (cs.length = l.length)) && (decide (0 ≤ n) && decide (n ≤ 40))) && (cs.all cntOk && itCok l cs n.toNat)
def caR (l : List ByteArray) (cs : List Int) (n : Int) : List Int := if caOk l cs n = true then itC l cs n.toNat else []
theorem caR_no {l : List ByteArray} {cs : List Int} {n : Int} (h : caOk l cs n = false) : caR l cs n = [] := if_neg (by rw [h]; decide)
theorem stepC_length (l : List ByteArray) (cs : List Int) : (stepC l cs).length = l.length := by simp [stepC]
theorem stepC_at (l : List ByteArray) (cs : List Int) (j : Nat) (h : j < (stepC l cs).length) : (stepC l cs)[j] = cTo l cs j l.length := by simp [stepC]
theorem stepC_take (l : List ByteArray) (cs : List Int) (j : Nat) (h : j < l.length) : (stepC l cs).take (j + 1) = (stepC l cs).take j ++ [cTo l cs j l.length] := by
  have hj : j < (stepC l cs).length := by rw [stepC_length]; exact h
  rw [List.take_succ_eq_append_getElem hj, stepC_at l cs j hj]
theorem itC_length {l : List ByteArray} {cs : List Int} (h : cs.length = l.length) : ∀ n, (itC l cs n).length = l.length
  | 0 => h
  | _ + 1 => stepC_length _ _
theorem caR_le (l : List ByteArray) (cs : List Int) (n : Int) : (caR l cs n).length ≤ 4 := by
  unfold caR; split
  · rename_i h
    unfold caOk at h
    simp only [Bool.and_eq_true, decide_eq_true_eq] at h
    rw [itC_length h.1.1.2]
    exact (subst_parts h.1.1.1).2.1
  · simp
theorem matL_row (l : List ByteArray) (i : Nat) (h : i < (matL l).length) : (matL l)[i].length = l.length := by rw [matL_at, rowL_length]
theorem matL_small {l : List ByteArray} (hl : substB l = true) (i k : Nat) (hi : i < l.length) (hk : k < l.length) : 0 ≤ at2 (matL l) i k ∧ at2 (matL l) i k ≤ 8 := by
  have h1 : i < (matL l).length := by rw [matL_length]; exact hi
  have h2 : k < (matL l)[i].length := by rw [matL_row]; exact hk
  rw [at2_eq _ _ _ h1 h2]
  have e : (matL l)[i][k] = (cnt l[k].data.toList (letterN i) : Int) := by simp [matL, rowL]
  rw [e]
  have := cnt_le l[k].data.toList (letterN i)
  have h3 := (img_parts ((subst_parts hl).2.2 k hk)).2.1
  have h4 : l[k].data.toList.length = l[k].size := by simp
  omega
theorem mul_nat {x y B C : Int} (h1 : 0 ≤ x ∧ x ≤ B) (h2 : 0 ≤ y ∧ y ≤ C) : 0 ≤ x * y ∧ x * y ≤ B * C :=
  ⟨Int.mul_nonneg h1.1 h2.1, Int.mul_le_mul h1.2 h2.2 h2.1 (by omega)⟩
theorem cTo_bound {l : List ByteArray} {cs : List Int} (hl : substB l = true) (hc : ∀ k, k < l.length → 0 ≤ cs.getD k 0 ∧ cs.getD k 0 ≤ 1000000000000) (j : Nat) (hj : j < l.length) : ∀ k, k ≤ l.length → 0 ≤ cTo l cs j k ∧ cTo l cs j k ≤ k * 8000000000000
  | 0, _ => by simp [cTo]
  | k + 1, hk => by
    have ih := cTo_bound hl hc j hj k (by omega)
    have hb := mul_nat (matL_small hl j k hj (by omega)) (hc k (by omega))
    unfold cTo
    omega
theorem all_getD {p : Int → Bool} {cs : List Int} (h : cs.all p = true) (k : Nat) (hk : k < cs.length) : p (cs.getD k 0) = true := by
  rw [List.getD_eq_getElem?_getD, List.getElem?_eq_getElem hk]
  exact List.all_eq_true.1 h _ (List.getElem_mem hk)
/-- counts that have come out well are small -/
theorem itC_small {l : List ByteArray} {cs : List Int} (hl : substB l = true) (h0 : cs.length = l.length) (hc : cs.all cntOk = true) : ∀ n, itCok l cs n = true → ∀ k, k < l.length → 0 ≤ (itC l cs n).getD k 0 ∧ (itC l cs n).getD k 0 ≤ 1000000000000
  | 0, _, k, hk => by
    have := all_getD hc k (by omega)
    simp [cntOk] at this
    show 0 ≤ cs.getD k 0 ∧ cs.getD k 0 ≤ 1000000000000
    rw [List.getD_eq_getElem?_getD] at *
    omega
  | n + 1, h, k, hk => by
    have h' : (itCok l cs n && (stepC l (itC l cs n)).all smallC) = true := h
    rw [Bool.and_eq_true] at h'
    have ih := itC_small hl h0 hc n h'.1
    have hks : k < (stepC l (itC l cs n)).length := by rw [stepC_length]; exact hk
    have h1 := all_getD h'.2 k hks
    show 0 ≤ (stepC l (itC l cs n)).getD k 0 ∧ (stepC l (itC l cs n)).getD k 0 ≤ 1000000000000
    have e : (stepC l (itC l cs n)).getD k 0 = cTo l (itC l cs n) k l.length := by
      rw [List.getD_eq_getElem?_getD, List.getElem?_eq_getElem hks, stepC_at]
      rfl
    rw [e] at h1 ⊢
    simp [smallC] at h1
    exact ⟨(cTo_bound hl ih k hk l.length (Nat.le_refl _)).1, h1⟩
end Go.Proofs.Ytiikledbflgejaa

/- A letter with an image, and how long the word is that it becomes. No program in it. -/
namespace Go.Proofs.Ytiikledbflgejaa
open Go.RowKit

def letN (t : ByteArray) : Nat := (t.data.toList.getD 0 0).toNat - 97
def letOk (l : List ByteArray) (t : ByteArray) : Bool := (decide (t.size = 1) && wordB t) && decide (letN t < l.length)
/-- the index of a letter with an image, or -1 -/
def letR (l : List ByteArray) (t : ByteArray) : Int := if letOk l t = true then (letN t : Int) else -1
theorem letN_eq {t : ByteArray} (h1 : t.size = 1) : letN t = (t[0]'(by omega)).toNat - 97 := by
  unfold letN
  have h0 : 0 < t.data.toList.length := by simp; omega
  rw [List.getD_eq_getElem?_getD, List.getElem?_eq_getElem h0]
  rfl
theorem letN_at {t : ByteArray} (h1 : t.size = 1) (h2 : wordB t = true) : (t[0]'(by omega)).toNat = 97 + letN t ∧ letN t ≤ 3 := by
  obtain ⟨a, b⟩ := word_at h2 0 (by omega)
  rw [letN_eq h1]
  omega
/-- one of one letter, none of the others -/
def unitC (n k : Nat) : List Int := (List.replicate n (0 : Int)).set k 1
theorem unitC_length (n k : Nat) : (unitC n k).length = n := by simp [unitC]
def isum (cs : List Int) : Nat → Int
  | 0 => 0
  | k + 1 => isum cs k + cs.getD k 0
/-- what LengthAfter is to return -/
def lenR (l : List ByteArray) (t : ByteArray) (n : Int) : Int :=
  if (letOk l t && substB l) = true then (if caOk l (unitC l.length (letN t)) n = true then isum (caR l (unitC l.length (letN t)) n) l.length else -1) else -1
theorem caR_small {l : List ByteArray} {cs : List Int} {n : Int} (h : caOk l cs n = true) : (caR l cs n).length = l.length ∧ ∀ k, k < l.length → 0 ≤ (caR l cs n).getD k 0 ∧ (caR l cs n).getD k 0 ≤ 1000000000000 := by
  have e : caR l cs n = itC l cs n.toNat := if_pos h
  have h' := h
  unfold caOk at h'
  simp only [Bool.and_eq_true, decide_eq_true_eq] at h'
  rw [e]
  exact ⟨itC_length h'.1.1.2 _, itC_small h'.1.1.1 h'.1.1.2 h'.2.1 _ h'.2.2⟩
theorem isum_bound {cs : List Int} {n : Nat} (h : ∀ k, k < n → 0 ≤ cs.getD k 0 ∧ cs.getD k 0 ≤ 1000000000000) : ∀ k, k ≤ n → 0 ≤ isum cs k ∧ isum cs k ≤ k * 1000000000000
  | 0, _ => by simp [isum]
  | k + 1, hk => by
    have ih := isum_bound h k (by omega)
    have := h k (by omega)
    unfold isum
    omega
end Go.Proofs.Ytiikledbflgejaa

/- Which letters are reached from a letter. No program in it. -/
namespace Go.Proofs.Ytiikledbflgejaa
open Go.RowKit

/-- the letter i stands in the image j -/
def Occ (l : List ByteArray) (j i : Nat) : Prop := ∃ (hj : j < l.length) (p : Nat) (hp : p < l[j].size), l[j][p].toNat = 97 + i
inductive Reached (l : List ByteArray) (k : Nat) : Nat → Prop
  | refl : Reached l k k
  | step {j i : Nat} : Reached l k j → Occ l j i → Reached l k i

def got (s : List Bool) (i : Nat) : Bool := s.getD i false
theorem got_set (s : List Bool) (i j : Nat) (hi : i < s.length) : got (s.set i true) j = (got s j || decide (j = i)) := by
  unfold got
  rw [List.getD_eq_getElem?_getD, List.getD_eq_getElem?_getD, List.getElem?_set]
  by_cases h : i = j
  · subst h
    rw [if_pos rfl, if_pos hi]
    simp
  · rw [if_neg h, decide_eq_false (fun e => h e.symm), Bool.or_false]
def markW (s : List Bool) (w : List UInt8) : List Bool := w.foldl (fun s c => s.set (c.toNat - 97) true) s
theorem markW_length (w : List UInt8) : ∀ s : List Bool, (markW s w).length = s.length := by
  induction w with
  | nil => intro s; rfl
  | cons c w ih => intro s; show (markW (s.set _ true) w).length = _; rw [ih]; simp
theorem markW_snoc (s : List Bool) (w : List UInt8) (c : UInt8) : markW s (w ++ [c]) = (markW s w).set (c.toNat - 97) true := by
  unfold markW
  rw [List.foldl_append]
  rfl
theorem markW_got (w : List UInt8) : ∀ (s : List Bool), (∀ c ∈ w, c.toNat - 97 < s.length) → ∀ i, got (markW s w) i = true ↔ (got s i = true ∨ ∃ c ∈ w, c.toNat - 97 = i) := by
  induction w with
  | nil => intro s _ i; simp [markW]
  | cons c w ih =>
    intro s h i
    show got (markW (s.set (c.toNat - 97) true) w) i = true ↔ _
    rw [ih _ (fun x hx => by simpa using h x (List.mem_cons_of_mem _ hx)) i, got_set _ _ _ (h c (List.mem_cons_self ..))]
    simp only [Bool.or_eq_true, decide_eq_true_eq, List.mem_cons, exists_eq_or_imp]
    constructor
    · rintro ((a | a) | a)
      · exact .inl a
      · exact .inr (.inl a.symm)
      · exact .inr (.inr a)
    · rintro (a | a | a)
      · exact .inl (.inl a)
      · exact .inl (.inr a.symm)
      · exact .inr a
/-- one pass over the first images -/
def passTo (l : List ByteArray) (s : List Bool) : Nat → List Bool
  | 0 => s
  | i + 1 => if got (passTo l s i) i = true then markW (passTo l s i) (l.getD i ⟨#[]⟩).data.toList else passTo l s i
theorem passTo_yes {l : List ByteArray} {s : List Bool} {i : Nat} (hi : i < l.length) (h : got (passTo l s i) i = true) : passTo l s (i + 1) = markW (passTo l s i) l[i].data.toList := by
  show (if _ then _ else _) = _
  rw [if_pos h, List.getD_eq_getElem?_getD, List.getElem?_eq_getElem hi]
  rfl
theorem passTo_no {l : List ByteArray} {s : List Bool} {i : Nat} (h : got (passTo l s i) i = false) : passTo l s (i + 1) = passTo l s i := by
  show (if _ then _ else _) = _
  rw [if_neg (by rw [h]; decide)]
theorem passTo_length (l : List ByteArray) (s : List Bool) : ∀ i, (passTo l s i).length = s.length
  | 0 => rfl
  | i + 1 => by
    show (if _ then _ else _ : List Bool).length = _
    split
    · rw [markW_length, passTo_length l s i]
    · exact passTo_length l s i
theorem img_letters {l : List ByteArray} (hl : substB l = true) {i : Nat} (hi : i < l.length) : ∀ c ∈ l[i].data.toList, 97 ≤ c.toNat ∧ c.toNat < 97 + l.length := by
  obtain ⟨_, _, h3, h4⟩ := img_parts ((subst_parts hl).2.2 i hi)
  exact word_mem h3 h4
theorem occ_iff {l : List ByteArray} (hl : substB l = true) {j : Nat} (hj : j < l.length) (i : Nat) : Occ l j i ↔ ∃ c ∈ l[j].data.toList, c.toNat - 97 = i := by
  constructor
  · rintro ⟨_, p, hp, e⟩
    refine ⟨l[j][p], ?_, by omega⟩
    have : l[j][p] = l[j].data.toList[p]'(by simpa using hp) := rfl
    rw [this]; exact List.getElem_mem _
  · rintro ⟨c, hc, e⟩
    have h1 := (img_letters hl hj c hc).1
    obtain ⟨p, hp, rfl⟩ := List.mem_iff_getElem.1 hc
    exact ⟨hj, p, by simpa using hp, by show (l[j].data.toList[p]).toNat = _; omega⟩
theorem passTo_got {l : List ByteArray} {s : List Bool} (hl : substB l = true) (hs : s.length = l.length) {i : Nat} (hi : i < l.length) (x : Nat) : got (passTo l s (i + 1)) x = true ↔ (got (passTo l s i) x = true ∨ (got (passTo l s i) i = true ∧ Occ l i x)) := by
  by_cases h : got (passTo l s i) i = true
  · rw [passTo_yes hi h, markW_got _ _ (fun c hc => by have := img_letters hl hi c hc; rw [passTo_length]; omega), occ_iff hl hi]
    simp [h]
  · rw [passTo_no (by simpa using h)]
    simp [h]
theorem passTo_mono {l : List ByteArray} {s : List Bool} (hl : substB l = true) (hs : s.length = l.length) {x : Nat} (h : got s x = true) : ∀ i, i ≤ l.length → got (passTo l s i) x = true
  | 0, _ => h
  | i + 1, hi => (passTo_got hl hs (by omega) x).2 (.inl (passTo_mono hl hs h i (by omega)))
theorem passTo_sound {l : List ByteArray} {s : List Bool} {k : Nat} (hl : substB l = true) (hs : s.length = l.length) (h : ∀ x, got s x = true → Reached l k x) : ∀ i, i ≤ l.length → ∀ x, got (passTo l s i) x = true → Reached l k x
  | 0, _ => h
  | i + 1, hi => fun x hx => by
    have ih := passTo_sound hl hs h i (by omega)
    rcases (passTo_got hl hs (by omega) x).1 hx with a | ⟨a, b⟩
    · exact ih x a
    · exact .step (ih i a) b
theorem passTo_full {l : List ByteArray} {s : List Bool} (hl : substB l = true) (hs : s.length = l.length) {j x : Nat} (hj : got s j = true) (ho : Occ l j x) : ∀ i, i ≤ l.length → j < i → got (passTo l s i) x = true
  | 0, _, h => absurd h (by omega)
  | i + 1, hi, h => by
    by_cases e : j = i
    · subst e
      exact (passTo_got hl hs (by omega) x).2 (.inr ⟨passTo_mono hl hs hj j (by omega), ho⟩)
    · exact (passTo_got hl hs (by omega) x).2 (.inl (passTo_full hl hs hj ho i (by omega) (by omega)))
def passN (l : List ByteArray) (s : List Bool) : Nat → List Bool
  | 0 => s
  | r + 1 => passTo l (passN l s r) l.length
theorem passN_length (l : List ByteArray) (s : List Bool) : ∀ r, (passN l s r).length = s.length
  | 0 => rfl
  | r + 1 => by show (passTo l (passN l s r) l.length).length = _; rw [passTo_length, passN_length l s r]
theorem cnt_mono : ∀ (s t : List Bool), s.length = t.length → (∀ i, got s i = true → got t i = true) → s.count true ≤ t.count true ∧ (s.count true = t.count true → s = t)
  | [], [], _, _ => by simp
  | [], _ :: _, h, _ => by simp at h
  | _ :: _, [], h, _ => by simp at h
  | a :: s, b :: t, h, hm => by
    obtain ⟨ih1, ih2⟩ := cnt_mono s t (by simpa using h) (fun i hi => by have := hm (i + 1); simp [got] at this hi ⊢; exact this hi)
    have h0 := hm 0
    simp [got] at h0
    cases a <;> cases b
    · exact ⟨by simpa using ih1, fun e => by rw [ih2 (by simpa using e)]⟩
    · refine ⟨by simp; omega, fun e => ?_⟩
      simp at e; omega
    · simp at h0
    · exact ⟨by simpa using ih1, fun e => by rw [ih2 (by simpa using e)]⟩
def Shut (l : List ByteArray) (s : List Bool) : Prop := ∀ j x, got s j = true → Occ l j x → got s x = true
theorem pass_step {l : List ByteArray} {s : List Bool} (hl : substB l = true) (hs : s.length = l.length) : (Shut l s → passTo l s l.length = s) ∧ (¬ Shut l s → s.count true + 1 ≤ (passTo l s l.length).count true) := by
  have hm : ∀ i, got s i = true → got (passTo l s l.length) i = true := fun i h => passTo_mono hl hs h _ (Nat.le_refl _)
  have hc := cnt_mono s (passTo l s l.length) (passTo_length ..).symm hm
  constructor
  · intro h
    have : ∀ i, i ≤ l.length → passTo l s i = s := by
      intro i
      induction i with
      | zero => intro _; rfl
      | succ i ih =>
        intro hi
        have e := ih (by omega)
        by_cases hg : got s i = true
        · refine (cnt_mono s (passTo l s (i + 1)) (passTo_length ..).symm (fun x hx => passTo_mono hl hs hx _ hi)).2 ?_ |>.symm
          refine Nat.le_antisymm (cnt_mono s (passTo l s (i + 1)) (passTo_length ..).symm (fun x hx => passTo_mono hl hs hx _ hi)).1 ?_
          refine (cnt_mono (passTo l s (i + 1)) s (passTo_length ..) (fun x hx => ?_)).1
          rcases (passTo_got hl hs (by omega) x).1 hx with a | ⟨a, b⟩
          · rwa [e] at a
          · exact h i x hg b
        · rw [passTo_no (by rw [e]; simpa using hg), e]
    exact this _ (Nat.le_refl _)
  · intro h
    rcases Nat.lt_or_eq_of_le hc.1 with a | a
    · omega
    · exact absurd (fun j x hj ho => by
        have e := hc.2 a
        rw [e]
        have hjl : j < l.length := by obtain ⟨h1, _⟩ := ho; exact h1
        exact passTo_full hl hs hj ho _ (Nat.le_refl _) hjl) h
theorem passN_shut {l : List ByteArray} {s : List Bool} (hl : substB l = true) (hs : s.length = l.length) (h1 : 1 ≤ s.count true) : ∀ r, Shut l (passN l s r) ∨ r + 1 ≤ (passN l s r).count true
  | 0 => .inr h1
  | r + 1 => by
    have hr : (passN l s r).length = l.length := by rw [passN_length]; exact hs
    obtain ⟨p1, p2⟩ := pass_step hl hr
    rcases passN_shut hl hs h1 r with a | a
    · left
      show Shut l (passTo l (passN l s r) l.length)
      rw [p1 a]; exact a
    · by_cases hsh : Shut l (passN l s r)
      · left
        show Shut l (passTo l (passN l s r) l.length)
        rw [p1 hsh]; exact hsh
      · right
        have := p2 hsh
        show r + 1 + 1 ≤ (passTo l (passN l s r) l.length).count true
        omega
def oneB (n k : Nat) : List Bool := (List.replicate n false).set k true
theorem oneB_length (n k : Nat) : (oneB n k).length = n := by simp [oneB]
theorem oneB_got (n k : Nat) (hk : k < n) (i : Nat) : got (oneB n k) i = true ↔ i = k := by
  unfold oneB
  rw [got_set _ _ _ (by simpa using hk)]
  have : got (List.replicate n false) i = false := by
    unfold got
    rw [List.getD_eq_getElem?_getD, List.getElem?_replicate]
    split <;> rfl
  rw [this]
  simp
/-- four passes reach all that can be reached -/
theorem reach_iff {l : List ByteArray} {k : Nat} (hl : substB l = true) (hk : k < l.length) (i : Nat) : got (passN l (oneB l.length k) 4) i = true ↔ Reached l k i := by
  have hs : (oneB l.length k).length = l.length := oneB_length _ _
  have h1 : 1 ≤ (oneB l.length k).count true := by
    refine List.count_pos_iff.2 ?_
    have : (oneB l.length k)[k]'(by rw [hs]; exact hk) = true := by simp [oneB]
    rw [← this]; exact List.getElem_mem _
  have hsh : Shut l (passN l (oneB l.length k) 4) := by
    rcases passN_shut hl hs h1 4 with a | a
    · exact a
    · have h2 : (passN l (oneB l.length k) 4).count true ≤ (passN l (oneB l.length k) 4).length := List.count_le_length
      rw [passN_length, hs] at h2
      have := (subst_parts hl).2.1
      omega
  have hmono : ∀ r x, got (oneB l.length k) x = true → got (passN l (oneB l.length k) r) x = true := by
    intro r
    induction r with
    | zero => intro x h; exact h
    | succ r ih => intro x h; exact passTo_mono hl (by rw [passN_length]; exact hs) (ih x h) _ (Nat.le_refl _)
  have hsound : ∀ r x, got (passN l (oneB l.length k) r) x = true → Reached l k x := by
    intro r
    induction r with
    | zero =>
      intro x h
      rw [(oneB_got _ k hk x).1 h]
      exact .refl
    | succ r ih => intro x h; exact passTo_sound hl (by rw [passN_length]; exact hs) ih _ (Nat.le_refl _) x h
  constructor
  · exact hsound 4 i
  · intro h
    induction h with
    | refl => exact hmono 4 k ((oneB_got _ k hk k).2 rfl)
    | step _ ho ih => exact hsh _ _ ih ho
def outTo (s : Nat → Bool) : Nat → List UInt8
  | 0 => []
  | j + 1 => outTo s j ++ if s j = true then [letterN j] else []
/-- what ReachedBy is to return -/
noncomputable def reachR (l : List ByteArray) (t : ByteArray) : ByteArray := if (letOk l t && substB l) = true then ⟨(outTo (fun i => @decide (Reached l (letN t) i) (Classical.propDecidable _)) l.length).toArray⟩ else ⟨#[]⟩
theorem outTo_congr {s t : Nat → Bool} : ∀ n, (∀ i, i < n → s i = t i) → outTo s n = outTo t n
  | 0, _ => rfl
  | n + 1, h => by
    unfold outTo
    rw [outTo_congr n (fun i hi => h i (by omega)), h n (by omega)]
end Go.Proofs.Ytiikledbflgejaa
