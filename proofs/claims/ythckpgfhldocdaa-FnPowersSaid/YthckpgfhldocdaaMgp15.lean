/- Texts put together. -/
import Derived.Test.YthckpgfhldocdaaMgp4
import Derived.Test.YthckpgfhldocdaaMgp5
import Derived.Test.YthckpgfhldocdaaMgp2
import Derived.Test.YthckpgfhldocdaaMgp6
/- Letters counted: in a word, in what it becomes; the columns of a matrix. No program in it. -/
namespace Go.Proofs.Ythckpgfhldocdaa
open Go.RowKit

-- the columns
def cntSum (s : List UInt8) : Nat → Nat
  | 0 => 0
  | i + 1 => cntSum s i + cnt s (letterN i)
theorem cnt_cons (c : UInt8) (s : List UInt8) (x : UInt8) : cnt (c :: s) x = cnt s x + if c = x then 1 else 0 := by
  unfold cnt
  rw [List.count_cons]
  simp
theorem letterN_eq (c : UInt8) (i : Nat) (hi : i ≤ 4) : c = letterN i ↔ c.toNat = 97 + i := by
  constructor
  · rintro rfl; exact letterN_toNat i hi
  · intro h; exact UInt8.toNat_inj.1 (by rw [letterN_toNat i hi]; exact h)
theorem cntSum_cons (c : UInt8) (s : List UInt8) : ∀ n, n ≤ 4 → cntSum (c :: s) n = cntSum s n + if 97 ≤ c.toNat ∧ c.toNat < 97 + n then 1 else 0
  | 0, _ => by simp [cntSum]
  | n + 1, h => by
    have ih := cntSum_cons c s n (by omega)
    unfold cntSum
    rw [ih, cnt_cons]
    have e := letterN_eq c n (by omega)
    by_cases h1 : c = letterN n
    · have h2 := e.1 h1
      rw [if_pos h1, if_neg (by omega), if_pos (by omega)]
      omega
    · have h2 : ¬ c.toNat = 97 + n := fun h => h1 (e.2 h)
      rw [if_neg h1]
      by_cases h3 : 97 ≤ c.toNat ∧ c.toNat < 97 + n
      · rw [if_pos h3, if_pos (by omega)]; omega
      · rw [if_neg h3, if_neg (by omega)]; omega
theorem cntSum_all (n : Nat) (hn : n ≤ 4) : ∀ s : List UInt8, (∀ c ∈ s, 97 ≤ c.toNat ∧ c.toNat < 97 + n) → cntSum s n = s.length
  | [], _ => by
    have : ∀ n, cntSum [] n = 0 := by
      intro n
      induction n with
      | zero => rfl
      | succ n ih => unfold cntSum; rw [ih]; rfl
    exact this n
  | c :: s, h => by
    rw [cntSum_cons c s n hn, cntSum_all n hn s (fun x hx => h x (List.mem_cons_of_mem _ hx)), if_pos (h c (List.mem_cons_self ..))]
    rfl
theorem matL_at2 (l : List ByteArray) (i k : Nat) (hi : i < l.length) (hk : k < l.length) : at2 (matL l) i k = (cnt l[k].data.toList (letterN i) : Int) := by
  have h1 : i < (matL l).length := by rw [matL_length]; exact hi
  have h2 : k < (matL l)[i].length := by rw [matL_row]; exact hk
  rw [at2_eq _ _ _ h1 h2]
  simp [matL, rowL]
/-- the sum of the first numbers of a column -/
def colSum (m : List (List Int)) (k : Nat) : Nat → Int
  | 0 => 0
  | i + 1 => colSum m k i + at2 m i k
theorem colSum_eq (l : List ByteArray) (k : Nat) (hk : k < l.length) : ∀ i, i ≤ l.length → colSum (matL l) k i = (cntSum l[k].data.toList i : Int)
  | 0, _ => rfl
  | i + 1, h => by
    unfold colSum cntSum
    rw [colSum_eq l k hk i (by omega), matL_at2 l i k (by omega) hk]
    omega
theorem colSum_size {l : List ByteArray} (hl : substB l = true) (k : Nat) (hk : k < l.length) : colSum (matL l) k l.length = (l[k].size : Int) := by
  rw [colSum_eq l k hk _ (Nat.le_refl _), cntSum_all l.length (subst_parts hl).2.1 _ (img_letters hl hk)]
  simp
theorem colSum_small {l : List ByteArray} (hl : substB l = true) (k : Nat) (hk : k < l.length) : ∀ i, i ≤ l.length → 0 ≤ colSum (matL l) k i ∧ colSum (matL l) k i ≤ 8 * i
  | 0, _ => by simp [colSum]
  | i + 1, h => by
    have ih := colSum_small hl k hk i (by omega)
    have := matL_small hl i k (by omega) hk
    unfold colSum
    omega

-- composition is the product
def cntDot (t : List ByteArray) (w : List UInt8) (c : UInt8) : Nat → Nat
  | 0 => 0
  | j + 1 => cntDot t w c j + cnt (t.getD j ⟨#[]⟩).data.toList c * cnt w (letterN j)
theorem cntDot_cons (t : List ByteArray) (x : UInt8) (w : List UInt8) (c : UInt8) : ∀ n, n ≤ 4 → cntDot t (x :: w) c n = cntDot t w c n + if 97 ≤ x.toNat ∧ x.toNat < 97 + n then cnt (t.getD (x.toNat - 97) ⟨#[]⟩).data.toList c else 0
  | 0, _ => by simp [cntDot]; omega
  | n + 1, h => by
    have ih := cntDot_cons t x w c n (by omega)
    unfold cntDot
    rw [ih, cnt_cons]
    have e := letterN_eq x n (by omega)
    by_cases h1 : x = letterN n
    · have h2 := e.1 h1
      rw [if_pos h1, if_neg (by omega), if_pos (by omega), Nat.mul_add, show x.toNat - 97 = n from by omega]
      omega
    · have h2 : ¬ x.toNat = 97 + n := fun h => h1 (e.2 h)
      rw [if_neg h1]
      by_cases h3 : 97 ≤ x.toNat ∧ x.toNat < 97 + n
      · rw [if_pos h3, if_pos (by omega)]; simp only [Nat.add_zero]; omega
      · rw [if_neg h3, if_neg (by omega)]; simp only [Nat.add_zero]
theorem cnt_apply (t : List ByteArray) (n : Nat) (hn : n ≤ 4) (c : UInt8) : ∀ w : List UInt8, (∀ x ∈ w, 97 ≤ x.toNat ∧ x.toNat < 97 + n) → cnt (applyL t w) c = cntDot t w c n
  | [], _ => by
    have : ∀ n, cntDot t [] c n = 0 := by
      intro n
      induction n with
      | zero => rfl
      | succ n ih => unfold cntDot; rw [ih]; simp [cnt]
    rw [this]
    rfl
  | x :: w, h => by
    rw [cntDot_cons t x w c n hn, if_pos (h x (List.mem_cons_self ..)), ← cnt_apply t n hn c w (fun y hy => h y (List.mem_cons_of_mem _ hy))]
    have e : applyL t (x :: w) = imgOf t x ++ applyL t w := rfl
    rw [e]
    unfold cnt
    rw [List.count_append]
    show List.count c (imgOf t x) + _ = _
    unfold imgOf
    omega
end Go.Proofs.Ythckpgfhldocdaa

/- The model's CountLetter, CountsOf, ShiftWord, BeforeWord and IsFactor. Condition: texts of at most 2^20 bytes. -/
namespace Go.Proofs.Ythckpgfhldocdaa
open Go.RowKit

/-- what CountLetter is to return -/
def countR (s t : ByteArray) : Int := if h : wordB s = true ∧ t.size = 1 ∧ wordB t = true then (cnt s.data.toList (t[0]'(by omega)) : Int) else -1

/-- what CountsOf is to return -/
def countsR (s : ByteArray) : List Int := if wordB s = true then [(cnt s.data.toList 97 : Int), (cnt s.data.toList 98 : Int), (cnt s.data.toList 99 : Int), (cnt s.data.toList 100 : Int)] else []

theorem countsR_le (s : ByteArray) : (countsR s).length ≤ 4 := by
  unfold countsR; split <;> simp

/-- what BeforeWord is to return -/
def beforeR (s t : ByteArray) : Bool := wordB s && (wordB t && Op.bytesLess s.toList t.toList)
/-- what ShiftWord is to return -/
def shiftR (s : ByteArray) (k : Int) : ByteArray := if wordB s = true ∧ 0 ≤ k ∧ k ≤ s.size then s.extract k.toNat s.size ++ s.extract 0 k.toNat else ⟨#[]⟩
end Go.Proofs.Ythckpgfhldocdaa

/- What the functions say of every text that is a substitution under which a grows. No program in it. -/
namespace Go.Proofs.Ythckpgfhldocdaa
open Go.RowKit

def aS : ByteArray := ⟨#[97]⟩
theorem aS_list : aS.data.toList = [letterN 0] := rfl
theorem aS_let : letN aS = 0 := rfl
theorem aS_word : wordB aS = true := by decide
theorem aS_within {n : Nat} (h : 1 ≤ n) : withinB n aS = true := by
  unfold withinB
  rw [aS_list]
  have : (letterN 0).toNat = 97 := rfl
  simp [this]
  omega
theorem aS_grow {l : List ByteArray} (hl : substB l = true) : growOk l aS = growB l 0 := by
  have h1 := (subst_parts hl).1
  unfold growOk letOk
  rw [hl, aS_word, aS_let, decide_eq_true (show aS.size = 1 from rfl), decide_eq_true (by omega)]
  rfl
theorem aS_fix {l : List ByteArray} (hl : substB l = true) (m : Nat) : fixOk l aS m = (growB l 0 && decide (m ≤ 400)) := by
  unfold fixOk
  rw [aS_grow hl, decide_eq_true (show (0 : Int) ≤ (m : Int) by omega), Bool.true_and]
  congr 1
  rw [Bool.eq_iff_iff, decide_eq_true_eq, decide_eq_true_eq]
  omega
/-- the fixed point's start as a text -/
def fxS (l : List ByteArray) (m : Nat) : ByteArray := ⟨(fixL l 0 m).toArray⟩
theorem fxS_list (l : List ByteArray) (m : Nat) : (fxS l m).data.toList = fixL l 0 m := rfl
section
variable {l : List ByteArray} (hl : substB l = true) (hg : growB l 0 = true)
include hl hg
theorem fxS_size (m : Nat) : (fxS l m).size = m := by
  have := fixL_length hl (subst_parts hl).1 hg m
  show (fixL l 0 m).toArray.size = m
  simpa using this
theorem fx_fixR {m : Nat} (hm : m ≤ 400) : fixR l aS m = fxS l m := by
  have h : fixOk l aS m = true := by rw [aS_fix hl, hg, decide_eq_true hm]; rfl
  unfold fixR
  rw [if_pos h]
  rfl
theorem pre_self {p : List UInt8} (h : IsPre l 0 p) : p = fixL l 0 p.length := by
  have := pre_take hl (subst_parts hl).1 hg h p.length (Nat.le_refl _)
  rwa [List.take_length] at this
theorem fix_take {m n : Nat} (h : m ≤ n) : (fixL l 0 n).take m = fixL l 0 m :=
  pre_take hl (subst_parts hl).1 hg (fixL_pre l 0 n) m (by rw [fixL_length hl (subst_parts hl).1 hg]; exact h)
/-- each start of at most 400 letters is a start of the long one -/
theorem pre_long {p : List UInt8} (h : IsPre l 0 p) (h4 : p.length ≤ 400) : p <+: fixL l 0 400 := by
  rw [pre_self hl hg h, ← fix_take hl hg h4]
  exact List.take_prefix _ _
theorem fx_start (m : Nat) (hm : m ≤ 400) : fixL l 0 m <+: fixL l 0 400 := pre_long hl hg (fixL_pre l 0 m) (by rw [fixL_length hl (subst_parts hl).1 hg]; exact hm)
theorem fx_isStart {m : Nat} (hm : m ≤ 400) : fixStart l (fxS l m) = true := by
  have hs := fxS_size hl hg m
  unfold fixStart
  rcases m with _ | m
  · rw [hs]; rfl
  · have e1 : oneOf (fxS l (m + 1)) = aS := by
      have hlen := fixL_length hl (subst_parts hl).1 hg (m + 1)
      have h1 := fix_take hl hg (show 1 ≤ m + 1 by omega)
      have h2 : fixL l 0 1 = [letterN 0] := by
        obtain ⟨r, e⟩ := iterL_head hl (subst_parts hl).1 hg 1
        unfold fixL
        rw [e]
        rfl
      rw [h2] at h1
      apply bytes_ext
      rw [ByteArray.toList_eq, ByteArray.toList_eq, aS_list]
      unfold oneOf
      rw [ByteArray.data_extract, Array.toList_extract, fxS_list]
      simpa using h1
    rw [e1, aS_let, hs, aS_fix hl, hg, decide_eq_true hm, fxS_list]
    simp
theorem fx_app {m : Nat} (h : appOk l (fxS l m) = true) : (appR l (fxS l m)).data.toList <+: fixL l 0 400 := by
  have h4 : (applyL l (fixL l 0 m)).length ≤ 400 := by
    unfold appOk at h
    simp only [Bool.and_eq_true, decide_eq_true_eq] at h
    exact h.2
  unfold appR
  rw [if_pos h, stepS_list, fxS_list]
  exact pre_long hl hg (pre_apply (fixL_pre l 0 m)) h4
theorem fx_latOk {i : Nat} (hi : i ≤ 10000) : latOk l aS i = true := by
  unfold latOk
  rw [aS_grow hl, hg, decide_eq_true (show (0 : Int) ≤ (i : Int) by omega), decide_eq_true (show (i : Int) ≤ 10000 by omega)]
  rfl
theorem fx_lat {i : Nat} (hi : i < 400) : latR l aS i = (fxS l 400).extract i (i + 1) := by
  have hk := (subst_parts hl).1
  have hlen := fixL_length hl hk hg 400
  have hlen1 := fixL_length hl hk hg (i + 1)
  unfold latR
  rw [if_pos (fx_latOk hl hg (by omega))]
  apply bytes_ext
  rw [ByteArray.toList_eq, ByteArray.toList_eq, ByteArray.data_extract, Array.toList_extract, fxS_list]
  show [(fixL l 0 (i + 1)).getD i 97] = _
  rw [← fix_take hl hg (show i + 1 ≤ 400 by omega), List.getD_eq_getElem?_getD, List.getElem?_take, if_pos (by omega), List.getElem?_eq_getElem (by omega)]
  rw [List.extract_eq_take_drop]
  refine List.ext_getElem (by simp [hlen]; omega) fun q hq hq2 => ?_
  have : q = 0 := by simp at hq; omega
  subst this
  simp
end
theorem iterS_list (l : List ByteArray) (s : ByteArray) : ∀ n, (iterS l s n).data.toList = iterL l s.data.toList n
  | 0 => rfl
  | n + 1 => by
    show applyL l (iterS l s n).data.toList = applyL l (iterL l s.data.toList n)
    rw [iterS_list l s n]
/-- the counts are those of the letters -/
theorem it_counts {l : List ByteArray} (hl : substB l = true) : ∀ k i, i < l.length → (itC l (unitC l.length 0) k).getD i 0 = (cnt (iterL l [letterN 0] k) (letterN i) : Int)
  | 0, i, hi => by
    have h4 := (subst_parts hl).2.1
    show (unitC l.length 0).getD i 0 = (cnt [letterN 0] (letterN i) : Int)
    unfold unitC
    rw [List.getD_eq_getElem?_getD, List.getElem?_set]
    rcases i with _ | i
    · rw [if_pos rfl, if_pos (by simpa using hi)]
      rfl
    · rw [if_neg (by omega), List.getElem?_replicate, if_pos hi]
      have hne : letterN 0 ≠ letterN (i + 1) := by
        intro e
        have := (letterN_eq (letterN 0) (i + 1) (by omega)).1 e
        have h0 : (letterN 0).toNat = 97 := rfl
        omega
      have : cnt [letterN 0] (letterN (i + 1)) = 0 := by
        rw [cnt_cons, if_neg hne]
        rfl
      rw [this]
      rfl
  | k + 1, i, hi => by
    have h4 := (subst_parts hl).2.1
    have hk := (subst_parts hl).1
    have ih := it_counts hl k
    have hlen : i < (stepC l (itC l (unitC l.length 0) k)).length := by rw [stepC_length]; exact hi
    show (stepC l (itC l (unitC l.length 0) k)).getD i 0 = _
    rw [List.getD_eq_getElem?_getD, List.getElem?_eq_getElem hlen, Option.getD_some, stepC_at]
    show _ = (cnt (applyL l (iterL l [letterN 0] k)) (letterN i) : Int)
    rw [cnt_apply l l.length h4 _ _ (iterL_within hl hk k)]
    have : ∀ j, j ≤ l.length → cTo l (itC l (unitC l.length 0) k) i j = (cntDot l (iterL l [letterN 0] k) (letterN i) j : Int) := by
      intro j
      induction j with
      | zero => intro _; rfl
      | succ j ihj =>
        intro hj
        unfold cTo cntDot
        rw [ihj (by omega), ih j (by omega), matL_at2 l i j hi (by omega), Int.natCast_add, Int.natCast_mul, List.getD_eq_getElem?_getD, List.getElem?_eq_getElem (show j < l.length by omega)]
        rfl
    exact this _ (Nat.le_refl _)
theorem isum_counts {cs : List Int} {s : List UInt8} {n : Nat} (h : ∀ i, i < n → cs.getD i 0 = (cnt s (letterN i) : Int)) : ∀ k, k ≤ n → isum cs k = (cntSum s k : Int)
  | 0, _ => rfl
  | k + 1, hk => by
    unfold isum cntSum
    rw [isum_counts h k (by omega), h k (by omega)]
    omega
theorem it_parts {l : List ByteArray} {k : Nat} (h : itOk l aS k = true) : substB l = true ∧ (itR l aS k).data.toList = iterL l [letterN 0] k ∧ wordB (itR l aS k) = true := by
  have e : itR l aS k = iterS l aS k := if_pos h
  have h2 := h
  unfold itOk at h2
  simp only [Bool.and_eq_true] at h2
  obtain ⟨_, ⟨h3, h4, h5⟩, h6⟩ := h2
  rw [Int.toNat_natCast] at h6
  rw [e]
  exact ⟨h3, by rw [iterS_list, aS_list], (iter_word h3 h4 h5 k h6).1⟩
theorem ca_parts {l : List ByteArray} {k : Nat} (h : caOk l (unitC l.length 0) k = true) : caR l (unitC l.length 0) k = itC l (unitC l.length 0) k ∧ (caR l (unitC l.length 0) k).length = l.length := by
  have e : caR l (unitC l.length 0) k = itC l (unitC l.length 0) k := if_pos h
  rw [e]
  exact ⟨rfl, itC_length (unitC_length _ _) k⟩
theorem it_size {l : List ByteArray} {k : Nat} (h1 : itOk l aS k = true) (h2 : caOk l (unitC l.length 0) k = true) : ((itR l aS k).size : Int) = isum (caR l (unitC l.length 0) k) l.length := by
  obtain ⟨hl, e1, _⟩ := it_parts h1
  obtain ⟨e2, _⟩ := ca_parts h2
  rw [e2, isum_counts (fun i hi => it_counts hl k i hi) _ (Nat.le_refl _), cntSum_all l.length (subst_parts hl).2.1 _ (iterL_within hl (subst_parts hl).1 k), ← e1]
  rfl
theorem it_long {l : List ByteArray} {k : Nat} (hg : growB l 0 = true) (h1 : itOk l aS k = true) : (itR l aS k).data.toList <+: fixL l 0 400 := by
  obtain ⟨hl, e1, hw⟩ := it_parts h1
  have hs : (itR l aS k).size ≤ 400 := by
    unfold wordB at hw
    simp only [Bool.and_eq_true, decide_eq_true_eq] at hw
    exact hw.1
  refine pre_long hl hg ?_ (by simpa using hs)
  rw [e1]
  exact ⟨k, List.prefix_refl _⟩
theorem it_cell {l : List ByteArray} {k : Nat} (h1 : itOk l aS k = true) (h2 : caOk l (unitC l.length 0) k = true) (i : Nat) (hi : i < 4) : (countsR (itR l aS k)).length = 4 ∧ (countsR (itR l aS k)).getD i 0 = (if i < l.length then (caR l (unitC l.length 0) k).getD i 0 else 0) := by
  obtain ⟨hl, e1, hw⟩ := it_parts h1
  obtain ⟨e2, _⟩ := ca_parts h2
  have hin := iterL_within hl (subst_parts hl).1 k
  have e3 : countsR (itR l aS k) = [(cnt (iterL l [letterN 0] k) 97 : Int), (cnt (iterL l [letterN 0] k) 98 : Int), (cnt (iterL l [letterN 0] k) 99 : Int), (cnt (iterL l [letterN 0] k) 100 : Int)] := by
    unfold countsR
    rw [if_pos hw, e1]
  have e4 : (countsR (itR l aS k)).getD i 0 = (cnt (iterL l [letterN 0] k) (letterN i) : Int) := by
    rw [e3]
    rcases (by omega : i = 0 ∨ i = 1 ∨ i = 2 ∨ i = 3) with rfl | rfl | rfl | rfl <;> rfl
  refine ⟨by rw [e3]; rfl, ?_⟩
  rw [e4]
  by_cases hil : i < l.length
  · rw [if_pos hil, e2, it_counts hl k i hil]
  · rw [if_neg hil]
    have : cnt (iterL l [letterN 0] k) (letterN i) = 0 := by
      unfold cnt
      rw [List.count_eq_zero]
      intro hm
      have := hin _ hm
      rw [letterN_toNat i (by omega)] at this
      omega
    rw [this]
    rfl
theorem ev_len {l : List ByteArray} {k : Nat} (hl : substB l = true) (h2 : caOk l (unitC l.length 0) k = true) : lenR l aS k = isum (caR l (unitC l.length 0) k) l.length := by
  have h0 : letOk l aS = true := by
    have h1 := (subst_parts hl).1
    unfold letOk
    rw [aS_word, aS_let, decide_eq_true (show aS.size = 1 from rfl), decide_eq_true (show 0 < l.length by omega)]
    rfl
  unfold lenR
  rw [h0, hl, aS_let]
  simp [h2]
/-- what the law takes, said of any name of the letter a -/
theorem ev_start {l : List ByteArray} (hl : substB l = true) (hg : growB l 0 = true) {m : Nat} (hm : m ≤ 400) : (fxS l m).data.toList <+: (fxS l 400).data.toList := by
  rw [fxS_list, fxS_list]
  exact fx_start hl hg m hm
theorem ev_app {l : List ByteArray} (hl : substB l = true) (hg : growB l 0 = true) {m : Nat} (h : appOk l (fxS l m) = true) : (appR l (fxS l m)).data.toList <+: (fxS l 400).data.toList := by
  rw [fxS_list l 400]
  exact fx_app hl hg h
theorem ev_it {l : List ByteArray} (hg : growB l 0 = true) {a : ByteArray} (ha : a = aS) {k : Nat} (h : itOk l a k = true) : (itR l a k).data.toList <+: (fxS l 400).data.toList := by
  subst ha
  rw [fxS_list l 400]
  exact it_long hg h
theorem ev_fixOk {l : List ByteArray} (hl : substB l = true) (hg : growB l 0 = true) {a : ByteArray} (ha : a = aS) {n : Int} {m : Nat} (hn : n = m) (hm : m ≤ 400) : fixOk l a n = true ∧ fixR l a n = fxS l m := by
  subst ha
  subst hn
  exact ⟨by rw [aS_fix hl, hg, decide_eq_true hm]; rfl, fx_fixR hl hg hm⟩
theorem ev_fixNo {l : List ByteArray} (hl : substB l = true) (hg : growB l 0 = false) {a : ByteArray} (ha : a = aS) (n : Int) : fixOk l a n = false := by
  subst ha
  unfold fixOk
  rw [aS_grow hl, hg]
  rfl
theorem ev_lat {l : List ByteArray} (hl : substB l = true) (hg : growB l 0 = true) {a : ByteArray} (ha : a = aS) {i : Nat} (hi : i ≤ 10000) : latOk l a i = true := by
  subst ha
  exact fx_latOk hl hg hi
theorem ev_size {l : List ByteArray} {a : ByteArray} (ha : a = aS) {k : Nat} (h1 : itOk l a k = true) (h2 : caOk l (unitC l.length 0) k = true) : ((itR l a k).size : Int) = isum (caR l (unitC l.length 0) k) l.length ∧ (itR l a k).size ≤ 400 := by
  subst ha
  refine ⟨it_size h1 h2, ?_⟩
  have hw := (it_parts h1).2.2
  unfold wordB at hw
  simp only [Bool.and_eq_true, decide_eq_true_eq] at hw
  exact hw.1
theorem ev_cell {l : List ByteArray} {a : ByteArray} (ha : a = aS) {k : Nat} (h1 : itOk l a k = true) (h2 : caOk l (unitC l.length 0) k = true) : (countsR (itR l a k)).length = 4 ∧ ∀ i, i < 4 → (countsR (itR l a k)).getD i 0 = (if i < l.length then (caR l (unitC l.length 0) k).getD i 0 else 0) := by
  subst ha
  exact ⟨(it_cell h1 h2 0 (by decide)).1, fun i hi => (it_cell h1 h2 i hi).2⟩
theorem ev_lenA {l : List ByteArray} (hl : substB l = true) {a : ByteArray} (ha : a = aS) {k : Nat} (h2 : caOk l (unitC l.length 0) k = true) : lenR l a k = isum (caR l (unitC l.length 0) k) l.length := by
  subst ha
  exact ev_len hl h2
end Go.Proofs.Ythckpgfhldocdaa

/- The mathematics of FnTop: a substitution under which the letter a grows. No program in it. -/
namespace Go.Proofs.Ythckpgfhldocdaa
open Go.RowKit

section
variable {l : List ByteArray} (hl : substB l = true) (hg : growB l 0 = true)
include hl hg
theorem pre_any {p : List UInt8} (h : IsPre l 0 p) {n : Nat} (hn : p.length ≤ n) : p <+: fixL l 0 n := by
  rw [pre_self hl hg h, ← fix_take hl hg hn]
  exact List.take_prefix _ _
theorem top_start {m n : Nat} (h : m ≤ n) : (fxS l m).data.toList <+: (fxS l n).data.toList := by
  rw [fxS_list, fxS_list]
  exact pre_any hl hg (fixL_pre l 0 m) (by rw [fixL_length hl (subst_parts hl).1 hg]; exact h)
theorem top_grow (m : Nat) : m ≤ (applyL l (fixL l 0 m)).length := by
  have hw : Within l (fixL l 0 m) := fun c hc => iterL_within hl (subst_parts hl).1 m c (List.mem_of_mem_take hc)
  have := apply_grows hl hw
  rwa [fixL_length hl (subst_parts hl).1 hg] at this
/-- the image of a beginning begins with it -/
theorem top_app {m : Nat} (h : appOk l (fxS l m) = true) : (fxS l m).data.toList <+: (appR l (fxS l m)).data.toList := by
  have e : (appR l (fxS l m)).data.toList = applyL l (fixL l 0 m) := by
    rw [show appR l (fxS l m) = stepS l (fxS l m) from if_pos h, stepS_list, fxS_list]
  rw [e, fxS_list]
  have h1 := pre_any hl hg (fixL_pre l 0 m) (n := (applyL l (fixL l 0 m)).length) (by rw [fixL_length hl (subst_parts hl).1 hg]; exact top_grow hl hg m)
  rwa [← pre_self hl hg (pre_apply (fixL_pre l 0 m))] at h1
theorem top_app200 {m n : Nat} (h : appOk l (fxS l m) = true) (hs : (appR l (fxS l m)).size ≤ n) : (appR l (fxS l m)).data.toList <+: (fxS l n).data.toList := by
  have e : (appR l (fxS l m)).data.toList = applyL l (fixL l 0 m) := by
    rw [show appR l (fxS l m) = stepS l (fxS l m) from if_pos h, stepS_list, fxS_list]
  have hlen : (applyL l (fixL l 0 m)).length = (appR l (fxS l m)).size := by rw [← e]; simp
  rw [e, fxS_list]
  exact pre_any hl hg (pre_apply (fixL_pre l 0 m)) (by omega)
theorem top_lat {i n : Nat} (hi : i < n) (hn : n ≤ 400) : latR l aS i = (fxS l n).extract i (i + 1) := by
  rw [fx_lat hl hg (show i < 400 by omega)]
  apply bytes_ext
  rw [ByteArray.toList_eq, ByteArray.toList_eq, ByteArray.data_extract, ByteArray.data_extract, Array.toList_extract, Array.toList_extract, List.extract_eq_take_drop, List.extract_eq_take_drop, fxS_list, fxS_list, ← fix_take hl hg hn, List.drop_take, List.take_take]
  congr 1
  omega
theorem top_word {m : Nat} (hm : m ≤ 400) : wordB (fxS l m) = true := by
  unfold wordB
  rw [fxS_size hl hg, decide_eq_true hm, Bool.true_and, List.all_eq_true]
  intro c hc
  rw [fxS_list] at hc
  have h4 := (subst_parts hl).2.1
  have := iterL_within hl (subst_parts hl).1 m c (List.mem_of_mem_take hc)
  unfold isAbcd
  rw [decide_eq_true (by omega), decide_eq_true (by omega)]
  rfl
omit hl in
/-- the letters that grow begin with a -/
theorem top_out (n : Nat) : [letterN 0] <+: outTo (growB l) (n + 1) := by
  induction n with
  | zero =>
    show [letterN 0] <+: [] ++ (if growB l 0 = true then [letterN 0] else [])
    rw [if_pos hg]
    exact List.prefix_refl _
  | succ n ih => exact ih.trans (List.prefix_append _ _)
theorem top_growR : aS.data.toList <+: (growR l).data.toList := by
  have e : growR l = ⟨(outTo (growB l) l.length).toArray⟩ := if_pos hl
  rw [e, aS_list]
  have h1 := (subst_parts hl).1
  show [letterN 0] <+: outTo (growB l) l.length
  rw [show l.length = (l.length - 1) + 1 by omega]
  exact top_out hg _
omit hl in
theorem top_first : firstN l 0 = 0 := by
  unfold growB at hg
  simp only [Bool.and_eq_true, decide_eq_true_eq] at hg
  exact hg.2
theorem top_pow : powR l = 1 := by
  have hb : backB l 1 = true := backB_iff.2 ⟨0, (subst_parts hl).1, top_first hg⟩
  unfold powR
  rw [if_pos hl, hb]
  rfl
theorem top_orb : orbR l aS = aS := by
  have h1 : goN l 0 1 = 0 := top_first hg
  have hn : orbN l 0 = 1 := by
    unfold orbN
    rw [if_pos (by rw [h1]; exact List.mem_singleton.2 rfl)]
  have hk : (letOk l aS && substB l) = true := by
    unfold letOk
    rw [hl, aS_word, aS_let, decide_eq_true (show aS.size = 1 from rfl), decide_eq_true (by have := (subst_parts hl).1; omega)]
    rfl
  unfold orbR
  rw [if_pos hk, aS_let, hn]
  rfl
theorem top_fac {n : Nat} (h1 : 1 ≤ n) (h8 : n ≤ 8) : facR l aS n = facTo (fxS l 400) n (401 - n) := by
  have e : facOk l aS n = true := by
    unfold facOk
    rw [aS_grow hl, hg, decide_eq_true (show (1 : Int) ≤ n by omega), decide_eq_true (show (n : Int) ≤ 8 by omega)]
    rfl
  unfold facR
  rw [if_pos e, aS_let]
  rfl
end

theorem insL_few : ∀ (l : List ByteArray) (x : ByteArray), (insL l x).length ≤ l.length + 1
  | [], _ => Nat.le_refl _
  | a :: l, x => by
    have ih := insL_few l x
    unfold insL
    split
    · exact Nat.le_refl _
    · split
      · rw [List.length_cons, List.length_cons]; omega
      · rw [List.length_cons]; omega
theorem facTo_few (s : ByteArray) (n : Nat) : ∀ i, (facTo s n i).length ≤ i
  | 0 => Nat.le_refl _
  | i + 1 => by
    have ih := facTo_few s n i
    have := insL_few (facTo s n i) (s.extract i (i + n))
    show (insL _ _).length ≤ _
    omega
/-! ### five applications are never too many -/
section
variable {l : List ByteArray} (hl : substB l = true)
include hl
theorem top_len8 : ∀ k, (iterL l [letterN 0] k).length ≤ 8 ^ k
  | 0 => by simp [iterL]
  | k + 1 => by
    have ih := top_len8 k
    have := applyL_le hl (iterL l [letterN 0] k)
    show (applyL l (iterL l [letterN 0] k)).length ≤ _
    rw [Nat.pow_succ]
    omega
theorem top_itCok : ∀ k, k ≤ 5 → itCok l (unitC l.length 0) k = true
  | 0, _ => rfl
  | k + 1, hk => by
    show (itCok l (unitC l.length 0) k && (stepC l (itC l (unitC l.length 0) k)).all smallC) = true
    rw [top_itCok k (by omega), Bool.true_and, List.all_eq_true]
    intro x hx
    obtain ⟨i, hi, rfl⟩ := List.mem_iff_getElem.1 hx
    have hil : i < l.length := by rwa [stepC_length] at hi
    have h := it_counts hl (k + 1) i hil
    have e : (stepC l (itC l (unitC l.length 0) k))[i] = (itC l (unitC l.length 0) (k + 1)).getD i 0 := by
      show _ = (stepC l (itC l (unitC l.length 0) k)).getD i 0
      rw [List.getD_eq_getElem?_getD, List.getElem?_eq_getElem hi]
      rfl
    rw [e, h]
    have h1 : cnt (iterL l [letterN 0] (k + 1)) (letterN i) ≤ (iterL l [letterN 0] (k + 1)).length := List.count_le_length
    have h2 := top_len8 hl (k + 1)
    have h3 : 8 ^ (k + 1) ≤ 8 ^ 5 := Nat.pow_le_pow_right (by omega) (by omega)
    have h4 : (8 : Nat) ^ 5 = 32768 := rfl
    unfold smallC
    rw [decide_eq_true (by omega)]
omit hl in
theorem unitC_all (n : Nat) : (unitC n 0).all cntOk = true := by
  rw [List.all_eq_true]
  intro x hx
  have hm : x = 1 ∨ x = 0 := by
    unfold unitC at hx
    rcases List.mem_or_eq_of_mem_set hx with h | h
    · exact .inr (List.eq_of_mem_replicate h)
    · exact .inl h
  rcases hm with rfl | rfl <;> rfl
theorem top_ca {k : Nat} (hk : k ≤ 5) : caOk l (unitC l.length 0) k = true := by
  unfold caOk
  rw [hl, decide_eq_true (unitC_length _ _), decide_eq_true (show (0 : Int) ≤ k by omega), decide_eq_true (show (k : Int) ≤ 40 by omega), unitC_all, Int.toNat_natCast, top_itCok hl k hk]
  rfl
theorem top_sum {k : Nat} (hk : k ≤ 5) : isum (caR l (unitC l.length 0) k) l.length = ((iterL l [letterN 0] k).length : Int) := by
  obtain ⟨e2, _⟩ := ca_parts (top_ca hl hk)
  rw [e2, isum_counts (fun i hi => it_counts hl k i hi) _ (Nat.le_refl _), cntSum_all l.length (subst_parts hl).2.1 _ (iterL_within hl (subst_parts hl).1 k)]
theorem top_up (hg : growB l 0 = true) (k : Nat) : (iterL l [letterN 0] k).length ≤ (iterL l [letterN 0] (k + 1)).length := (iterL_step hl (subst_parts hl).1 hg k).length_le
theorem top_iter (hg : growB l 0 = true) : ∀ k, iterOk l aS k = true ↔ (iterL l [letterN 0] k).length ≤ 400
  | 0 => by simp [iterOk, iterL]
  | k + 1 => by
    show (iterOk l aS k && decide ((applyL l (iterS l aS k).data.toList).length ≤ 400)) = true ↔ _
    rw [iterS_list, aS_list, Bool.and_eq_true, decide_eq_true_eq, top_iter hg k]
    have := top_up hl hg k
    show _ ∧ (iterL l [letterN 0] (k + 1)).length ≤ 400 ↔ _
    constructor
    · exact fun h => h.2
    · exact fun h => ⟨by omega, h⟩
theorem top_it (hg : growB l 0 = true) {k : Nat} (hk : k ≤ 5) : itOk l aS k = decide (isum (caR l (unitC l.length 0) k) l.length ≤ 400) := by
  have h1 := (subst_parts hl).1
  rw [top_sum hl hk]
  unfold itOk
  rw [hl, aS_word, aS_within h1, decide_eq_true (show (0 : Int) ≤ k by omega), decide_eq_true (show (k : Int) ≤ 20 by omega), Int.toNat_natCast]
  simp only [Bool.true_and]
  rw [Bool.eq_iff_iff, top_iter hl hg k, decide_eq_true_eq]
  omega
theorem top_it200 (hg : growB l 0 = true) {k n : Nat} (h : itOk l aS k = true) (hs : (itR l aS k).size ≤ n) : (itR l aS k).data.toList <+: (fxS l n).data.toList := by
  obtain ⟨_, e1, _⟩ := it_parts h
  have hlen : (iterL l [letterN 0] k).length = (itR l aS k).size := by rw [← e1]; simp
  rw [e1, fxS_list]
  exact pre_any hl hg ⟨k, List.prefix_refl _⟩ (by omega)
end
end Go.Proofs.Ythckpgfhldocdaa
