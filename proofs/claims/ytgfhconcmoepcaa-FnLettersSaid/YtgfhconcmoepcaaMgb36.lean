/- Texts put together. -/
import Derived.Test.YtgfhconcmoepcaaMgb4
import Derived.Test.YtgfhconcmoepcaaMgb35
import Derived.Test.YtgfhconcmoepcaaMgb31
import Derived.Test.YtgfhconcmoepcaaMgb12
import Derived.Test.YtgfhconcmoepcaaMgb6
import Derived.Test.YtgfhconcmoepcaaMgb28
import Derived.Test.YtgfhconcmoepcaaMgb18
/- Letters counted: in a word, in what it becomes; the columns of a matrix. No program in it. -/
namespace Go.Proofs.Ytgfhconcmoepcaa
open Go.RowKit

-- the columns
def cntSum (s : List UInt8) : Nat → Nat
  | 0 => 0
  | i + 1 => cntSum s i + cnt s (letterN i)
theorem cnt_cons (c : UInt8) (s : List UInt8) (x : UInt8) : cnt (c :: s) x = cnt s x + if c = x then 1 else 0 := by
  unfold cnt
  rw [List.count_cons]
  simp
theorem letterN_eq (c : UInt8) (i : Nat) (hi : i ≤ 4) : c = letterN i ↔ c.toNat = 97 + i := by
  constructor
  · rintro rfl; exact letterN_toNat i hi
  · intro h; exact UInt8.toNat_inj.1 (by rw [letterN_toNat i hi]; exact h)
theorem cntSum_cons (c : UInt8) (s : List UInt8) : ∀ n, n ≤ 4 → cntSum (c :: s) n = cntSum s n + if 97 ≤ c.toNat ∧ c.toNat < 97 + n then 1 else 0
  | 0, _ => by simp [cntSum]
  | n + 1, h => by
    have ih := cntSum_cons c s n (by omega)
    unfold cntSum
    rw [ih, cnt_cons]
    have e := letterN_eq c n (by omega)
    by_cases h1 : c = letterN n
    · have h2 := e.1 h1
      rw [if_pos h1, if_neg (by omega), if_pos (by omega)]
      omega
    · have h2 : ¬ c.toNat = 97 + n := fun h => h1 (e.2 h)
      rw [if_neg h1]
      by_cases h3 : 97 ≤ c.toNat ∧ c.toNat < 97 + n
      · rw [if_pos h3, if_pos (by omega)]; omega
      · rw [if_neg h3, if_neg (by omega)]; omega
theorem cntSum_all (n : Nat) (hn : n ≤ 4) : ∀ s : List UInt8, (∀ c ∈ s, 97 ≤ c.toNat ∧ c.toNat < 97 + n) → cntSum s n = s.length
  | [], _ => by
    have : ∀ n, cntSum [] n = 0 := by
      intro n
      induction n with
      | zero => rfl
      | succ n ih => unfold cntSum; rw [ih]; rfl
    exact this n
  | c :: s, h => by
    rw [cntSum_cons c s n hn, cntSum_all n hn s (fun x hx => h x (List.mem_cons_of_mem _ hx)), if_pos (h c (List.mem_cons_self ..))]
    rfl
theorem matL_at2 (l : List ByteArray) (i k : Nat) (hi : i < l.length) (hk : k < l.length) : at2 (matL l) i k = (cnt l[k].data.toList (letterN i) : Int) := by
  have h1 : i < (matL l).length := by rw [matL_length]; exact hi
  have h2 : k < (matL l)[i].length := by rw [matL_row]; exact hk
  rw [at2_eq _ _ _ h1 h2]
  simp [matL, rowL]
/-- the sum of the first numbers of a column -/
def colSum (m : List (List Int)) (k : Nat) : Nat → Int
  | 0 => 0
  | i + 1 => colSum m k i + at2 m i k
theorem colSum_eq (l : List ByteArray) (k : Nat) (hk : k < l.length) : ∀ i, i ≤ l.length → colSum (matL l) k i = (cntSum l[k].data.toList i : Int)
  | 0, _ => rfl
  | i + 1, h => by
    unfold colSum cntSum
    rw [colSum_eq l k hk i (by omega), matL_at2 l i k (by omega) hk]
    omega
theorem colSum_size {l : List ByteArray} (hl : substB l = true) (k : Nat) (hk : k < l.length) : colSum (matL l) k l.length = (l[k].size : Int) := by
  rw [colSum_eq l k hk _ (Nat.le_refl _), cntSum_all l.length (subst_parts hl).2.1 _ (img_letters hl hk)]
  simp
theorem colSum_small {l : List ByteArray} (hl : substB l = true) (k : Nat) (hk : k < l.length) : ∀ i, i ≤ l.length → 0 ≤ colSum (matL l) k i ∧ colSum (matL l) k i ≤ 8 * i
  | 0, _ => by simp [colSum]
  | i + 1, h => by
    have ih := colSum_small hl k hk i (by omega)
    have := matL_small hl i k (by omega) hk
    unfold colSum
    omega

-- composition is the product
def cntDot (t : List ByteArray) (w : List UInt8) (c : UInt8) : Nat → Nat
  | 0 => 0
  | j + 1 => cntDot t w c j + cnt (t.getD j ⟨#[]⟩).data.toList c * cnt w (letterN j)
theorem cntDot_cons (t : List ByteArray) (x : UInt8) (w : List UInt8) (c : UInt8) : ∀ n, n ≤ 4 → cntDot t (x :: w) c n = cntDot t w c n + if 97 ≤ x.toNat ∧ x.toNat < 97 + n then cnt (t.getD (x.toNat - 97) ⟨#[]⟩).data.toList c else 0
  | 0, _ => by simp [cntDot]; omega
  | n + 1, h => by
    have ih := cntDot_cons t x w c n (by omega)
    unfold cntDot
    rw [ih, cnt_cons]
    have e := letterN_eq x n (by omega)
    by_cases h1 : x = letterN n
    · have h2 := e.1 h1
      rw [if_pos h1, if_neg (by omega), if_pos (by omega), Nat.mul_add, show x.toNat - 97 = n from by omega]
      omega
    · have h2 : ¬ x.toNat = 97 + n := fun h => h1 (e.2 h)
      rw [if_neg h1]
      by_cases h3 : 97 ≤ x.toNat ∧ x.toNat < 97 + n
      · rw [if_pos h3, if_pos (by omega)]; simp only [Nat.add_zero]; omega
      · rw [if_neg h3, if_neg (by omega)]; simp only [Nat.add_zero]
theorem cnt_apply (t : List ByteArray) (n : Nat) (hn : n ≤ 4) (c : UInt8) : ∀ w : List UInt8, (∀ x ∈ w, 97 ≤ x.toNat ∧ x.toNat < 97 + n) → cnt (applyL t w) c = cntDot t w c n
  | [], _ => by
    have : ∀ n, cntDot t [] c n = 0 := by
      intro n
      induction n with
      | zero => rfl
      | succ n ih => unfold cntDot; rw [ih]; simp [cnt]
    rw [this]
    rfl
  | x :: w, h => by
    rw [cntDot_cons t x w c n hn, if_pos (h x (List.mem_cons_self ..)), ← cnt_apply t n hn c w (fun y hy => h y (List.mem_cons_of_mem _ hy))]
    have e : applyL t (x :: w) = imgOf t x ++ applyL t w := rfl
    rw [e]
    unfold cnt
    rw [List.count_append]
    show List.count c (imgOf t x) + _ = _
    unfold imgOf
    omega
end Go.Proofs.Ytgfhconcmoepcaa

/- What the matrices of substitutions say of each other. No program in it. -/
namespace Go.Proofs.Ytgfhconcmoepcaa
open Go.RowKit

theorem comp_at2 {l : List ByteArray} (hl : substB l = true) (i k : Nat) (hi : i < l.length) (hk : k < l.length) : at2 (matL (compR l l)) i k = colTo (matL l) (matL l) i k l.length := by
  have hn := (subst_parts hl).2.1
  have hcl : (compR l l).length = l.length := by simp [compR]
  rw [matL_at2 (compR l l) i k (by omega) (by omega)]
  have e : (compR l l)[k]'(by omega) = stepS l l[k] := by simp [compR]
  rw [e, stepS_list, cnt_apply l l.length hn _ _ (img_letters hl hk)]
  have : ∀ j, j ≤ l.length → (cntDot l l[k].data.toList (letterN i) j : Int) = colTo (matL l) (matL l) i k j := by
    intro j
    induction j with
    | zero => intro _; rfl
    | succ j ih =>
      intro hj
      unfold cntDot colTo
      rw [Int.natCast_add, ih (by omega), matL_at2 l i j hi (by omega), matL_at2 l j k (by omega) hk, Int.natCast_mul, List.getD_eq_getElem?_getD, List.getElem?_eq_getElem (show j < l.length by omega)]
      rfl
  exact this _ (Nat.le_refl _)
theorem mulM_at2 (a b : List (List Int)) (i k : Nat) (hi : i < a.length) (hk : k < b.length) : at2 (mulM a b) i k = colTo a b i k b.length := by
  have h1 : i < (mulM a b).length := by rw [mulM_length]; exact hi
  have h2 : k < (mulM a b)[i].length := by rw [mulM_at, mulRow_length]; exact hk
  rw [at2_eq _ _ _ h1 h2]
  simp [mulM, mulRow]

-- small matrices
theorem small_at2 {n : Nat} {m : List (List Int)} (h : SmallM n m) (i k : Nat) (hi : i < n) (hk : k < n) : -2 ≤ at2 m i k ∧ at2 m i k ≤ 4 := by
  obtain ⟨h1, h2⟩ := h
  have hi' : i < m.length := by omega
  obtain ⟨h3, h4⟩ := h2 _ (List.getElem_mem hi')
  have hk' : k < m[i].length := by omega
  rw [at2_eq _ _ _ hi' hk']
  exact h4 _ (List.getElem_mem hk')
theorem sqB_of {n : Nat} {m : List (List Int)} (h1 : m.length = n) (hn : 1 ≤ n) (h4 : n ≤ 4) (h2 : ∀ r ∈ m, r.length = n) (h3 : ∀ i k, i < n → k < n → -100 ≤ at2 m i k ∧ at2 m i k ≤ 100) : sqB m = true := by
  unfold sqB
  rw [decide_eq_true (show 1 ≤ m.length by omega), decide_eq_true (show m.length ≤ 4 by omega)]
  show (true && m.all (rowOk m.length)) = true
  rw [Bool.true_and, List.all_eq_true]
  intro r hr
  obtain ⟨i, hi, rfl⟩ := List.mem_iff_getElem.1 hr
  unfold rowOk
  rw [decide_eq_true (show m[i].length = m.length by rw [h2 _ hr, h1]), Bool.true_and, List.all_eq_true]
  intro x hx
  obtain ⟨k, hk, rfl⟩ := List.mem_iff_getElem.1 hx
  have := h3 i k (by omega) (by rw [h2 _ hr] at hk; exact hk)
  rw [at2_eq _ _ _ hi hk] at this
  simp
  exact this
theorem small_sq {n : Nat} {m : List (List Int)} (h : SmallM n m) (hn : 1 ≤ n) (h4 : n ≤ 4) : sqB m = true :=
  sqB_of h.1 hn h4 (fun r hr => (h.2 r hr).1) (fun i k hi hk => by have := small_at2 h i k hi hk; omega)
theorem mul_small {n : Nat} {a b : List (List Int)} (ha : SmallM n a) (hb : SmallM n b) (hn : 1 ≤ n) (h3 : n ≤ 3) : sqB (mulM a b) = true := by
  refine sqB_of (by rw [mulM_length]; exact ha.1) hn (by omega) (fun r hr => ?_) (fun i k hi hk => ?_)
  · obtain ⟨i, hi, rfl⟩ := List.mem_iff_getElem.1 hr
    rw [mulM_at, mulRow_length]
    exact hb.1
  · rw [mulM_at2 a b i k (by rw [ha.1]; exact hi) (by rw [hb.1]; exact hk)]
    have := colTo_bound (a := a) (b := b) (i := i) (k := k) (B := 4) (C := 4) n (fun j hj => by have := small_at2 ha i j hi hj; omega) (fun j hj => by have := small_at2 hb j k hj hk; omega) n (Nat.le_refl _)
    rw [hb.1]
    omega
theorem minor2 {m : List (List Int)} {n : Nat} (h : RectN (n + 1) m) (k : Nat) (hk : k < n + 1) (i q : Nat) (hi : i < n) : at2 (minorM m k) i q = at2 m (i + 1) (if q < k then q else q + 1) := by
  obtain ⟨h1, h2⟩ := h
  have hl : i < (minorM m k).length := by rw [minorM_length]; omega
  have hi1 : i + 1 < m.length := by omega
  unfold at2
  rw [List.getD_eq_getElem?_getD (l := minorM m k), List.getD_eq_getElem?_getD (l := m), List.getElem?_eq_getElem hl, List.getElem?_eq_getElem hi1, Option.getD_some, Option.getD_some, minorM_at m k i hl hi1]
  exact cutR_getD k _ (by rw [h2 _ hi1]; exact hk) q
theorem minor_rect {m : List (List Int)} {n : Nat} (h : RectN (n + 1) m) (k : Nat) (hk : k < n + 1) : RectN n (minorM m k) := by
  obtain ⟨h1, h2⟩ := h
  refine ⟨by rw [minorM_length]; omega, fun i hi => ?_⟩
  have hi1 : i + 1 < m.length := by rw [minorM_length] at hi; omega
  rw [minorM_at m k i hi hi1, cutR_length k _ (by rw [h2 _ hi1]; exact hk), h2 _ hi1]
  rfl
theorem det_1 (m : List (List Int)) : detS 1 m = at2 m 0 0 := by
  simp [detS, sumTo, sgnN]
theorem det_2 {m : List (List Int)} (h : RectN 2 m) : detS 2 m = at2 m 0 0 * at2 m 1 1 - at2 m 0 1 * at2 m 1 0 := by
  have e0 := minor2 h 0 (by omega) 0 0 (by omega)
  have e1 := minor2 h 1 (by omega) 0 0 (by omega)
  simp at e0 e1
  simp only [detS, sumTo, sgnN] at *
  simp [e0, e1]
  grind
theorem det_3 {m : List (List Int)} (h : RectN 3 m) : detS 3 m = at2 m 0 0 * (at2 m 1 1 * at2 m 2 2 - at2 m 1 2 * at2 m 2 1) - at2 m 0 1 * (at2 m 1 0 * at2 m 2 2 - at2 m 1 2 * at2 m 2 0) + at2 m 0 2 * (at2 m 1 0 * at2 m 2 1 - at2 m 1 1 * at2 m 2 0) := by
  have d0 := det_2 (minor_rect h 0 (by omega))
  have d1 := det_2 (minor_rect h 1 (by omega))
  have d2 := det_2 (minor_rect h 2 (by omega))
  simp [minor2 h] at d0 d1 d2
  show sumTo (fun k => sgnN k * at2 m 0 k * detS 2 (minorM m k)) 3 = _
  simp only [sumTo, d0, d1, d2]
  simp [sgnN]
  grind
theorem mul_rect {n : Nat} {a b : List (List Int)} (ha : RectN n a) (hb : RectN n b) : RectN n (mulM a b) :=
  ⟨by rw [mulM_length]; exact ha.1, fun i h => by rw [mulM_at, mulRow_length]; exact hb.1⟩
theorem det_mul {n : Nat} {a b : List (List Int)} (ha : RectN n a) (hb : RectN n b) (h1 : 1 ≤ n) (h3 : n ≤ 3) : detS n (mulM a b) = detS n a * detS n b := by
  have e : ∀ i k, i < n → k < n → at2 (mulM a b) i k = colTo a b i k n := fun i k hi hk => by
    rw [mulM_at2 a b i k (by rw [ha.1]; exact hi) (by rw [hb.1]; exact hk), hb.1]
  rcases (show n = 1 ∨ n = 2 ∨ n = 3 by omega) with rfl | rfl | rfl
  · rw [det_1, det_1, det_1, e 0 0 (by omega) (by omega)]
    simp [colTo]
  · rw [det_2 (mul_rect ha hb), det_2 ha, det_2 hb, e 0 0 (by omega) (by omega), e 0 1 (by omega) (by omega), e 1 0 (by omega) (by omega), e 1 1 (by omega) (by omega)]
    simp only [colTo]
    grind
  · rw [det_3 (mul_rect ha hb), det_3 ha, det_3 hb, e 0 0 (by omega) (by omega), e 0 1 (by omega) (by omega), e 0 2 (by omega) (by omega), e 1 0 (by omega) (by omega), e 1 1 (by omega) (by omega), e 1 2 (by omega) (by omega), e 2 0 (by omega) (by omega), e 2 1 (by omega) (by omega), e 2 2 (by omega) (by omega)]
    simp only [colTo]
    grind
theorem trace_mul {n : Nat} {a b : List (List Int)} (ha : RectN n a) (hb : RectN n b) (h3 : n ≤ 3) : trTo (mulM a b) n = trTo (mulM b a) n := by
  have e : ∀ i k, i < n → k < n → at2 (mulM a b) i k = colTo a b i k n := fun i k hi hk => by
    rw [mulM_at2 a b i k (by rw [ha.1]; exact hi) (by rw [hb.1]; exact hk), hb.1]
  have f : ∀ i k, i < n → k < n → at2 (mulM b a) i k = colTo b a i k n := fun i k hi hk => by
    rw [mulM_at2 b a i k (by rw [hb.1]; exact hi) (by rw [ha.1]; exact hk), ha.1]
  rcases (show n = 0 ∨ n = 1 ∨ n = 2 ∨ n = 3 by omega) with rfl | rfl | rfl | rfl
  · rfl
  · simp only [trTo]
    rw [e 0 0 (by omega) (by omega), f 0 0 (by omega) (by omega)]
    simp only [colTo]
    grind
  · simp only [trTo]
    rw [e 0 0 (by omega) (by omega), e 1 1 (by omega) (by omega), f 0 0 (by omega) (by omega), f 1 1 (by omega) (by omega)]
    simp only [colTo]
    grind
  · simp only [trTo]
    rw [e 0 0 (by omega) (by omega), e 1 1 (by omega) (by omega), e 2 2 (by omega) (by omega), f 0 0 (by omega) (by omega), f 1 1 (by omega) (by omega), f 2 2 (by omega) (by omega)]
    simp only [colTo]
    grind

-- a primitive substitution reaches every letter from every letter
theorem reached_trans {l : List ByteArray} {a b c : Nat} (h1 : Reached l a b) (h2 : Reached l b c) : Reached l a c := by
  induction h2 with
  | refl => exact h1
  | step _ ho ih => exact .step ih ho
theorem occ_of_pos {l : List ByteArray} (hl : substB l = true) {i k : Nat} (hi : i < l.length) (hk : k < l.length) (h : 0 < at2 (matL l) i k) : Occ l k i := by
  rw [matL_at2 l i k hi hk] at h
  have hc : 0 < cnt l[k].data.toList (letterN i) := by omega
  unfold cnt at hc
  have hm := List.count_pos_iff.1 hc
  have hn := (subst_parts hl).2.1
  exact (occ_iff hl hk i).2 ⟨_, hm, by rw [letterN_toNat i (by omega)]; omega⟩
theorem sgB_ex {a b : List (List Int)} {i k : Nat} : ∀ {j : Nat}, sgB a b i k j = true → ∃ q, q < j ∧ 0 < at2 a i q ∧ 0 < at2 b q k
  | 0, h => by simp [sgB] at h
  | j + 1, h => by
    unfold sgB at h
    rw [Bool.or_eq_true, Bool.and_eq_true, decide_eq_true_eq, decide_eq_true_eq] at h
    rcases h with h | h
    · obtain ⟨q, h1, h2⟩ := sgB_ex h
      exact ⟨q, by omega, h2⟩
    · exact ⟨j, by omega, h⟩
theorem pow_reach {l : List ByteArray} (hl : substB l = true) : ∀ n i k, i < l.length → k < l.length → 0 < at2 (powS l n) i k → Reached l k i
  | 0, i, k, hi, hk, h => .step .refl (occ_of_pos hl hi hk h)
  | n + 1, i, k, hi, hk, h => by
    have h1 : i < (sgM (powS l n) (matL l)).length := by rw [sgM_length, (powS_rect l n).1]; exact hi
    have h2 : k < (sgM (powS l n) (matL l))[i].length := by rw [sgM_at, sgRow_length, matL_length]; exact hk
    have e : at2 (powS l (n + 1)) i k = sgI (powS l n) (matL l) i k l.length := by
      show at2 (sgM (powS l n) (matL l)) i k = _
      rw [at2_eq _ _ _ h1 h2]
      simp [sgM, sgRow, matL_length]
    rw [e] at h
    have hs : sgB (powS l n) (matL l) i k l.length = true := by
      by_cases hs : sgB (powS l n) (matL l) i k l.length = true
      · exact hs
      · unfold sgI at h
        rw [if_neg hs] at h
        omega
    obtain ⟨q, hq, p1, p2⟩ := sgB_ex hs
    exact reached_trans (.step .refl (occ_of_pos hl hq hk p2)) (pow_reach hl n i q hi hq p1)
theorem posRow_at {m : List (List Int)} {i : Nat} : ∀ {n : Nat}, posRow m i n = true → ∀ k, k < n → 0 < at2 m i k
  | 0, _, k, hk => absurd hk (by omega)
  | n + 1, h, k, hk => by
    unfold posRow at h
    rw [Bool.and_eq_true, decide_eq_true_eq] at h
    by_cases e : k = n
    · subst e; exact h.2
    · exact posRow_at h.1 k (by omega)
theorem posTo_at {m : List (List Int)} {n : Nat} : ∀ {i : Nat}, posTo m n i = true → ∀ q, q < i → ∀ k, k < n → 0 < at2 m q k
  | 0, _, q, hq, _, _ => absurd hq (by omega)
  | i + 1, h, q, hq, k, hk => by
    unfold posTo at h
    rw [Bool.and_eq_true] at h
    by_cases e : q = i
    · subst e; exact posRow_at h.2 k hk
    · exact posTo_at h.1 q (by omega) k hk
theorem primTo_ex {l : List ByteArray} : ∀ {n : Nat}, primTo l n = true → ∃ i, posTo (powS l i) l.length l.length = true
  | 0, h => by simp [primTo] at h
  | n + 1, h => by
    unfold primTo at h
    rw [Bool.or_eq_true] at h
    rcases h with h | h
    · exact primTo_ex h
    · exact ⟨n, h⟩
theorem prim_reach {l : List ByteArray} (h : primR l = true) (k i : Nat) (hk : k < l.length) (hi : i < l.length) : Reached l k i := by
  unfold primR at h
  rw [Bool.and_eq_true] at h
  obtain ⟨n, hn⟩ := primTo_ex h.2
  exact pow_reach h.1 n i k hi hk (posTo_at hn i hi k hk)
end Go.Proofs.Ytgfhconcmoepcaa

/- What FnMatrices asks of letters that are reached, and of the product of a matrix with itself. -/
namespace Go.Proofs.Ytgfhconcmoepcaa
open Go.RowKit

def oneL (k : Nat) : ByteArray := ⟨#[letterN k]⟩
theorem oneL_size (k : Nat) : (oneL k).size = 1 := rfl
theorem oneL_word (k : Nat) (hk : k ≤ 3) : wordB (oneL k) = true := by
  rcases (show k = 0 ∨ k = 1 ∨ k = 2 ∨ k = 3 by omega) with e | e | e | e <;> subst e <;> kernel_rfl
theorem oneL_let (k : Nat) (hk : k ≤ 3) : letN (oneL k) = k := by
  show (letterN k).toNat - 97 = k
  rw [letterN_toNat k (by omega)]
  omega
theorem letOk_one {l : List ByteArray} {k : Nat} (hl : substB l = true) (hk : k < l.length) : letOk l (oneL k) = true := by
  have h4 := (subst_parts hl).2.1
  unfold letOk
  rw [oneL_word k (by omega), oneL_let k (by omega), decide_eq_true (oneL_size k), decide_eq_true hk]
  rfl
/-- whether a letter is reached -/
noncomputable def reachD (l : List ByteArray) (k : Nat) : Nat → Bool := fun i => @decide (Reached l k i) (Classical.propDecidable _)
theorem reachR_one {l : List ByteArray} {k : Nat} (hl : substB l = true) (hk : k < l.length) : reachR l (oneL k) = outS (reachD l k) l.length := by
  have h4 := (subst_parts hl).2.1
  unfold reachR outS reachD
  rw [letOk_one hl hk, hl, oneL_let k (by omega)]
  rfl
theorem reachR_e (l : List ByteArray) : reachR l ⟨#[101]⟩ = ⟨#[]⟩ := by
  unfold reachR
  have : letOk l ⟨#[101]⟩ = false := by
    unfold letOk
    have : wordB ⟨#[101]⟩ = false := by kernel_rfl
    rw [this, Bool.and_false, Bool.false_and]
  rw [this, Bool.false_and, if_neg (by decide)]
theorem outTo_mem {s : Nat → Bool} {k : Nat} (h : s k = true) : ∀ n, k < n → letterN k ∈ outTo s n
  | 0, hk => absurd hk (by omega)
  | n + 1, hk => by
    show letterN k ∈ outTo s n ++ if s n = true then [letterN n] else []
    by_cases e : k = n
    · subst e
      rw [if_pos h]
      simp
    · exact List.mem_append_left _ (outTo_mem h n (by omega))
theorem outTo_letters (s : Nat → Bool) : ∀ n, ∀ c ∈ outTo s n, ∃ i, i < n ∧ c = letterN i
  | 0, c, hc => by simp [outTo] at hc
  | n + 1, c, hc => by
    have hc' : c ∈ outTo s n ++ if s n = true then [letterN n] else [] := hc
    rcases List.mem_append.1 hc' with h | h
    · obtain ⟨i, hi, e⟩ := outTo_letters s n c h
      exact ⟨i, by omega, e⟩
    · split at h
      · simp at h
        exact ⟨n, by omega, h⟩
      · simp at h
theorem outS_word (s : Nat → Bool) (n : Nat) (hn : n ≤ 4) : wordB (outS s n) = true := by
  unfold wordB
  have h1 := outS_size s n
  rw [decide_eq_true (show (outS s n).size ≤ 400 by omega)]
  show (true && (outTo s n).toArray.toList.all isAbcd) = true
  rw [Bool.true_and, List.all_eq_true]
  intro c hc
  obtain ⟨i, hi, rfl⟩ := outTo_letters s n c (by simpa using hc)
  simp [isAbcd, letterN_toNat i (by omega)]
  omega
theorem outS_has {s : Nat → Bool} {k n : Nat} (h : s k = true) (hk : k < n) (hn : n ≤ 4) : factR (outS s n) (oneL k) = true := by
  have hm := outTo_mem h n hk
  obtain ⟨i, hi, he⟩ := List.mem_iff_getElem.1 hm
  have hsz : (outS s n).size = (outTo s n).length := by show (outTo s n).toArray.size = _; simp
  have hat : At (outS s n) (oneL k) i := by
    refine ⟨by rw [oneL_size, hsz]; omega, ?_⟩
    apply bytes_ext
    rw [ByteArray.toList_eq, ByteArray.toList_eq, oneL_size, ext_list]
    show ((outTo s n).toArray.toList.drop i).take 1 = [letterN k]
    rw [List.toList_toArray, List.drop_eq_getElem_cons hi, List.take_succ_cons, he]
    simp
  unfold factR hasR
  rw [outS_word s n hn, oneL_word k (by omega), @decide_eq_true _ (Classical.propDecidable _) ⟨i, hat⟩]
  rfl
theorem outS_full {s : Nat → Bool} {n : Nat} (h : ∀ i, i < n → s i = true) (hn : n ≤ 4) : outS s n = (⟨#[97, 98, 99, 100]⟩ : ByteArray).extract 0 n := by
  have e : outS s n = outS (fun _ => true) n := by unfold outS; rw [outTo_congr n h]
  rw [e]
  rcases (show n = 0 ∨ n = 1 ∨ n = 2 ∨ n = 3 ∨ n = 4 by omega) with e | e | e | e | e <;> subst e <;> rfl
theorem reach_full {l : List ByteArray} (hl : substB l = true) (hp : primR l = true) {k : Nat} (hk : k < l.length) : reachR l (oneL k) = (⟨#[97, 98, 99, 100]⟩ : ByteArray).extract 0 l.length := by
  rw [reachR_one hl hk]
  exact outS_full (fun i hi => @decide_eq_true _ (Classical.propDecidable _) (prim_reach hp k i hk hi)) (subst_parts hl).2.1
theorem reach_has {l : List ByteArray} (hl : substB l = true) {k : Nat} (hk : k < l.length) : factR (reachR l (oneL k)) (oneL k) = true := by
  rw [reachR_one hl hk]
  exact outS_has (@decide_eq_true _ (Classical.propDecidable _) .refl) hk (subst_parts hl).2.1
theorem reach_size {l : List ByteArray} (hl : substB l = true) {k : Nat} (hk : k < l.length) : (reachR l (oneL k)).size ≤ l.length := by
  rw [reachR_one hl hk]
  exact outS_size _ _
theorem mat_ext {n : Nat} {a b : List (List Int)} (ha : RectN n a) (hb : RectN n b) (h : ∀ i k, i < n → k < n → at2 a i k = at2 b i k) : a = b := by
  refine List.ext_getElem (by rw [ha.1, hb.1]) (fun i h1 h2 => ?_)
  refine List.ext_getElem (by rw [ha.2 i h1, hb.2 i h2]) (fun k h3 h4 => ?_)
  have := h i k (by rw [← ha.1]; exact h1) (by rw [← ha.2 i h1]; exact h3)
  rwa [at2_eq _ _ _ h1 h3, at2_eq _ _ _ h2 h4] at this
/-- the matrix of s after s is the square of the matrix of s -/
theorem comp_mul {l : List ByteArray} (hl : substB l = true) : matL (compR l l) = mulM (matL l) (matL l) := by
  have hcl : (compR l l).length = l.length := by simp [compR]
  have h1 : RectN l.length (matL (compR l l)) := by have := matL_rect (compR l l); rwa [hcl] at this
  refine mat_ext h1 (mul_rect (matL_rect l) (matL_rect l)) (fun i k hi hk => ?_)
  rw [comp_at2 hl i k hi hk, mulM_at2 _ _ _ _ (by rw [matL_length]; exact hi) (by rw [matL_length]; exact hk), matL_length]
theorem matL_sq {l : List ByteArray} (hl : substB l = true) : sqB (matL l) = true := by
  obtain ⟨h1, h4, _⟩ := subst_parts hl
  refine sqB_of (matL_length l) h1 h4 (fun r hr => ?_) (fun i k hi hk => by have := matL_small hl i k hi hk; omega)
  obtain ⟨i, hi, rfl⟩ := List.mem_iff_getElem.1 hr
  exact matL_row l i hi
theorem rect_of_small {n : Nat} {m : List (List Int)} (h : SmallM n m) : RectN n m := ⟨h.1, fun _ hi => (h.2 _ (List.getElem_mem hi)).1⟩
theorem detMax_le {n : Nat} (h : n ≤ 3) : detMax n ≤ 6000000 := by
  rcases (show n = 0 ∨ n = 1 ∨ n = 2 ∨ n = 3 by omega) with e | e | e | e <;> subst e <;> decide

set_option maxHeartbeats 400000 in
theorem same_ints (l : List Int) (v1 v2 : Value) (w : World) (h1 : Lst w v1 (ints l)) (h2 : Lst w v2 (ints l)) :
    Calls Try.prog 33 #[v1, v2] w fun e w' => e = .returned (.bool true) ∧ w = w' := by
  have hnn : ((l.length : Int) != (l.length : Int)) = false := by simp
  obtain ⟨A, c, rfl, hc1, hc2, h1⟩ := h1
  obtain ⟨B, d, rfl, hd1, hd2, h2⟩ := h2
  rw [ints_length] at hc1 hd1 ⊢
  by_cases hl : l = []
  · subst hl
    go_enter Try.func33, Try.ntmps33
    go_wp2
    refine wp_loop_rounds 1 ?_
    rw [rounds_succ]
    go_wp2
    go_ret
    exact ⟨rfl, rfl⟩
  have hpos : 0 < l.length := List.length_pos_iff.2 hl
  have hmax : l.length ≤ 9223372036854775807 := by unfold maxLen at hc2; omega
  have hne : ints l ≠ [] := by simpa [ints] using hl
  replace h1 := h1.resolve_left hne
  replace h2 := h2.resolve_left hne
  obtain ⟨b, off, rfl, h1⟩ := h1
  obtain ⟨b', off', rfl, h2⟩ := h2
  have H1 := Lib.hid (ints_at h1)
  have H2 := Lib.hid (ints_at h2)
  clear h1 h2 hl hc1 hc2 hd1 hd2 hne
  go_enter Try.func33, Try.ntmps33
  go_wp2
  go_loop [14] (fun i => ∃ k : Nat, k ≤ l.length ∧ i = .int .i64 k) (fun i => l.length - (intOf i).toNat)
  case atStart => exact ⟨0, by omega, rfl⟩
  case round =>
    obtain ⟨k, hk, rfl⟩ := hrel
    by_cases hlt : k < l.length
    · have g1 := H1.out k hlt
      have g2 := H2.out k hlt
      have b1 : (l[k] != l[k]) = false := by simp
      go_wp2_with fail
      go_round
      case rel => exact ⟨k + 1, by omega, by go_num⟩
      case measure => simp [intOf]; omega
    · go_wp2_with fail
      go_ret
      exact ⟨rfl, rfl⟩
theorem letters_upto (P : Program) {t : TypeId} (ht : P.underlying t = some .string) (n : Nat) (hn : n ≤ 4) (w : World) :
    (Instr.slice t (.string ⟨#[97, 98, 99, 100]⟩) none (some (.int .i64 (n : Int))) none).run P w = .ok (.string ((⟨#[97, 98, 99, 100]⟩ : ByteArray).extract 0 n)) w := by
  have h4 : ((⟨#[97, 98, 99, 100]⟩ : ByteArray).size : Int) = 4 := rfl
  rw [run_slice_string_to_if (P := P) w t ⟨#[97, 98, 99, 100]⟩ .i64 (n : Int) ht, if_pos ⟨by omega, by omega⟩]
  rfl
end Go.Proofs.Ytgfhconcmoepcaa

/- What the functions say of every text that is a substitution under which a grows. No program in it. -/
namespace Go.Proofs.Ytgfhconcmoepcaa
open Go.RowKit

def aS : ByteArray := ⟨#[97]⟩
theorem aS_list : aS.data.toList = [letterN 0] := rfl
theorem aS_let : letN aS = 0 := rfl
theorem aS_word : wordB aS = true := by decide
theorem aS_within {n : Nat} (h : 1 ≤ n) : withinB n aS = true := by
  unfold withinB
  rw [aS_list]
  have : (letterN 0).toNat = 97 := rfl
  simp [this]
  omega
theorem aS_grow {l : List ByteArray} (hl : substB l = true) : growOk l aS = growB l 0 := by
  have h1 := (subst_parts hl).1
  unfold growOk letOk
  rw [hl, aS_word, aS_let, decide_eq_true (show aS.size = 1 from rfl), decide_eq_true (by omega)]
  rfl
theorem aS_fix {l : List ByteArray} (hl : substB l = true) (m : Nat) : fixOk l aS m = (growB l 0 && decide (m ≤ 400)) := by
  unfold fixOk
  rw [aS_grow hl, decide_eq_true (show (0 : Int) ≤ (m : Int) by omega), Bool.true_and]
  congr 1
  rw [Bool.eq_iff_iff, decide_eq_true_eq, decide_eq_true_eq]
  omega
/-- the fixed point's start as a text -/
def fxS (l : List ByteArray) (m : Nat) : ByteArray := ⟨(fixL l 0 m).toArray⟩
theorem fxS_list (l : List ByteArray) (m : Nat) : (fxS l m).data.toList = fixL l 0 m := rfl
section
variable {l : List ByteArray} (hl : substB l = true) (hg : growB l 0 = true)
include hl hg
theorem fxS_size (m : Nat) : (fxS l m).size = m := by
  have := fixL_length hl (subst_parts hl).1 hg m
  show (fixL l 0 m).toArray.size = m
  simpa using this
theorem fx_fixR {m : Nat} (hm : m ≤ 400) : fixR l aS m = fxS l m := by
  have h : fixOk l aS m = true := by rw [aS_fix hl, hg, decide_eq_true hm]; rfl
  unfold fixR
  rw [if_pos h]
  rfl
theorem pre_self {p : List UInt8} (h : IsPre l 0 p) : p = fixL l 0 p.length := by
  have := pre_take hl (subst_parts hl).1 hg h p.length (Nat.le_refl _)
  rwa [List.take_length] at this
theorem fix_take {m n : Nat} (h : m ≤ n) : (fixL l 0 n).take m = fixL l 0 m :=
  pre_take hl (subst_parts hl).1 hg (fixL_pre l 0 n) m (by rw [fixL_length hl (subst_parts hl).1 hg]; exact h)
/-- each start of at most 400 letters is a start of the long one -/
theorem pre_long {p : List UInt8} (h : IsPre l 0 p) (h4 : p.length ≤ 400) : p <+: fixL l 0 400 := by
  rw [pre_self hl hg h, ← fix_take hl hg h4]
  exact List.take_prefix _ _
theorem fx_start (m : Nat) (hm : m ≤ 400) : fixL l 0 m <+: fixL l 0 400 := pre_long hl hg (fixL_pre l 0 m) (by rw [fixL_length hl (subst_parts hl).1 hg]; exact hm)
theorem fx_isStart {m : Nat} (hm : m ≤ 400) : fixStart l (fxS l m) = true := by
  have hs := fxS_size hl hg m
  unfold fixStart
  rcases m with _ | m
  · rw [hs]; rfl
  · have e1 : oneOf (fxS l (m + 1)) = aS := by
      have hlen := fixL_length hl (subst_parts hl).1 hg (m + 1)
      have h1 := fix_take hl hg (show 1 ≤ m + 1 by omega)
      have h2 : fixL l 0 1 = [letterN 0] := by
        obtain ⟨r, e⟩ := iterL_head hl (subst_parts hl).1 hg 1
        unfold fixL
        rw [e]
        rfl
      rw [h2] at h1
      apply bytes_ext
      rw [ByteArray.toList_eq, ByteArray.toList_eq, aS_list]
      unfold oneOf
      rw [ByteArray.data_extract, Array.toList_extract, fxS_list]
      simpa using h1
    rw [e1, aS_let, hs, aS_fix hl, hg, decide_eq_true hm, fxS_list]
    simp
theorem fx_app {m : Nat} (h : appOk l (fxS l m) = true) : (appR l (fxS l m)).data.toList <+: fixL l 0 400 := by
  have h4 : (applyL l (fixL l 0 m)).length ≤ 400 := by
    unfold appOk at h
    simp only [Bool.and_eq_true, decide_eq_true_eq] at h
    exact h.2
  unfold appR
  rw [if_pos h, stepS_list, fxS_list]
  exact pre_long hl hg (pre_apply (fixL_pre l 0 m)) h4
theorem fx_latOk {i : Nat} (hi : i ≤ 10000) : latOk l aS i = true := by
  unfold latOk
  rw [aS_grow hl, hg, decide_eq_true (show (0 : Int) ≤ (i : Int) by omega), decide_eq_true (show (i : Int) ≤ 10000 by omega)]
  rfl
theorem fx_lat {i : Nat} (hi : i < 400) : latR l aS i = (fxS l 400).extract i (i + 1) := by
  have hk := (subst_parts hl).1
  have hlen := fixL_length hl hk hg 400
  have hlen1 := fixL_length hl hk hg (i + 1)
  unfold latR
  rw [if_pos (fx_latOk hl hg (by omega))]
  apply bytes_ext
  rw [ByteArray.toList_eq, ByteArray.toList_eq, ByteArray.data_extract, Array.toList_extract, fxS_list]
  show [(fixL l 0 (i + 1)).getD i 97] = _
  rw [← fix_take hl hg (show i + 1 ≤ 400 by omega), List.getD_eq_getElem?_getD, List.getElem?_take, if_pos (by omega), List.getElem?_eq_getElem (by omega)]
  rw [List.extract_eq_take_drop]
  refine List.ext_getElem (by simp [hlen]; omega) fun q hq hq2 => ?_
  have : q = 0 := by simp at hq; omega
  subst this
  simp
end
theorem iterS_list (l : List ByteArray) (s : ByteArray) : ∀ n, (iterS l s n).data.toList = iterL l s.data.toList n
  | 0 => rfl
  | n + 1 => by
    show applyL l (iterS l s n).data.toList = applyL l (iterL l s.data.toList n)
    rw [iterS_list l s n]
/-- the counts are those of the letters -/
theorem it_counts {l : List ByteArray} (hl : substB l = true) : ∀ k i, i < l.length → (itC l (unitC l.length 0) k).getD i 0 = (cnt (iterL l [letterN 0] k) (letterN i) : Int)
  | 0, i, hi => by
    have h4 := (subst_parts hl).2.1
    show (unitC l.length 0).getD i 0 = (cnt [letterN 0] (letterN i) : Int)
    unfold unitC
    rw [List.getD_eq_getElem?_getD, List.getElem?_set]
    rcases i with _ | i
    · rw [if_pos rfl, if_pos (by simpa using hi)]
      rfl
    · rw [if_neg (by omega), List.getElem?_replicate, if_pos hi]
      have hne : letterN 0 ≠ letterN (i + 1) := by
        intro e
        have := (letterN_eq (letterN 0) (i + 1) (by omega)).1 e
        have h0 : (letterN 0).toNat = 97 := rfl
        omega
      have : cnt [letterN 0] (letterN (i + 1)) = 0 := by
        rw [cnt_cons, if_neg hne]
        rfl
      rw [this]
      rfl
  | k + 1, i, hi => by
    have h4 := (subst_parts hl).2.1
    have hk := (subst_parts hl).1
    have ih := it_counts hl k
    have hlen : i < (stepC l (itC l (unitC l.length 0) k)).length := by rw [stepC_length]; exact hi
    show (stepC l (itC l (unitC l.length 0) k)).getD i 0 = _
    rw [List.getD_eq_getElem?_getD, List.getElem?_eq_getElem hlen, Option.getD_some, stepC_at]
    show _ = (cnt (applyL l (iterL l [letterN 0] k)) (letterN i) : Int)
    rw [cnt_apply l l.length h4 _ _ (iterL_within hl hk k)]
    have : ∀ j, j ≤ l.length → cTo l (itC l (unitC l.length 0) k) i j = (cntDot l (iterL l [letterN 0] k) (letterN i) j : Int) := by
      intro j
      induction j with
      | zero => intro _; rfl
      | succ j ihj =>
        intro hj
        unfold cTo cntDot
        rw [ihj (by omega), ih j (by omega), matL_at2 l i j hi (by omega), Int.natCast_add, Int.natCast_mul, List.getD_eq_getElem?_getD, List.getElem?_eq_getElem (show j < l.length by omega)]
        rfl
    exact this _ (Nat.le_refl _)
theorem isum_counts {cs : List Int} {s : List UInt8} {n : Nat} (h : ∀ i, i < n → cs.getD i 0 = (cnt s (letterN i) : Int)) : ∀ k, k ≤ n → isum cs k = (cntSum s k : Int)
  | 0, _ => rfl
  | k + 1, hk => by
    unfold isum cntSum
    rw [isum_counts h k (by omega), h k (by omega)]
    omega
theorem it_parts {l : List ByteArray} {k : Nat} (h : itOk l aS k = true) : substB l = true ∧ (itR l aS k).data.toList = iterL l [letterN 0] k ∧ wordB (itR l aS k) = true := by
  have e : itR l aS k = iterS l aS k := if_pos h
  have h2 := h
  unfold itOk at h2
  simp only [Bool.and_eq_true] at h2
  obtain ⟨_, ⟨h3, h4, h5⟩, h6⟩ := h2
  rw [Int.toNat_natCast] at h6
  rw [e]
  exact ⟨h3, by rw [iterS_list, aS_list], (iter_word h3 h4 h5 k h6).1⟩
theorem ca_parts {l : List ByteArray} {k : Nat} (h : caOk l (unitC l.length 0) k = true) : caR l (unitC l.length 0) k = itC l (unitC l.length 0) k ∧ (caR l (unitC l.length 0) k).length = l.length := by
  have e : caR l (unitC l.length 0) k = itC l (unitC l.length 0) k := if_pos h
  rw [e]
  exact ⟨rfl, itC_length (unitC_length _ _) k⟩
theorem it_size {l : List ByteArray} {k : Nat} (h1 : itOk l aS k = true) (h2 : caOk l (unitC l.length 0) k = true) : ((itR l aS k).size : Int) = isum (caR l (unitC l.length 0) k) l.length := by
  obtain ⟨hl, e1, _⟩ := it_parts h1
  obtain ⟨e2, _⟩ := ca_parts h2
  rw [e2, isum_counts (fun i hi => it_counts hl k i hi) _ (Nat.le_refl _), cntSum_all l.length (subst_parts hl).2.1 _ (iterL_within hl (subst_parts hl).1 k), ← e1]
  rfl
theorem it_long {l : List ByteArray} {k : Nat} (hg : growB l 0 = true) (h1 : itOk l aS k = true) : (itR l aS k).data.toList <+: fixL l 0 400 := by
  obtain ⟨hl, e1, hw⟩ := it_parts h1
  have hs : (itR l aS k).size ≤ 400 := by
    unfold wordB at hw
    simp only [Bool.and_eq_true, decide_eq_true_eq] at hw
    exact hw.1
  refine pre_long hl hg ?_ (by simpa using hs)
  rw [e1]
  exact ⟨k, List.prefix_refl _⟩
theorem it_cell {l : List ByteArray} {k : Nat} (h1 : itOk l aS k = true) (h2 : caOk l (unitC l.length 0) k = true) (i : Nat) (hi : i < 4) : (countsR (itR l aS k)).length = 4 ∧ (countsR (itR l aS k)).getD i 0 = (if i < l.length then (caR l (unitC l.length 0) k).getD i 0 else 0) := by
  obtain ⟨hl, e1, hw⟩ := it_parts h1
  obtain ⟨e2, _⟩ := ca_parts h2
  have hin := iterL_within hl (subst_parts hl).1 k
  have e3 : countsR (itR l aS k) = [(cnt (iterL l [letterN 0] k) 97 : Int), (cnt (iterL l [letterN 0] k) 98 : Int), (cnt (iterL l [letterN 0] k) 99 : Int), (cnt (iterL l [letterN 0] k) 100 : Int)] := by
    unfold countsR
    rw [if_pos hw, e1]
  have e4 : (countsR (itR l aS k)).getD i 0 = (cnt (iterL l [letterN 0] k) (letterN i) : Int) := by
    rw [e3]
    rcases (by omega : i = 0 ∨ i = 1 ∨ i = 2 ∨ i = 3) with rfl | rfl | rfl | rfl <;> rfl
  refine ⟨by rw [e3]; rfl, ?_⟩
  rw [e4]
  by_cases hil : i < l.length
  · rw [if_pos hil, e2, it_counts hl k i hil]
  · rw [if_neg hil]
    have : cnt (iterL l [letterN 0] k) (letterN i) = 0 := by
      unfold cnt
      rw [List.count_eq_zero]
      intro hm
      have := hin _ hm
      rw [letterN_toNat i (by omega)] at this
      omega
    rw [this]
    rfl
theorem ev_len {l : List ByteArray} {k : Nat} (hl : substB l = true) (h2 : caOk l (unitC l.length 0) k = true) : lenR l aS k = isum (caR l (unitC l.length 0) k) l.length := by
  have h0 : letOk l aS = true := by
    have h1 := (subst_parts hl).1
    unfold letOk
    rw [aS_word, aS_let, decide_eq_true (show aS.size = 1 from rfl), decide_eq_true (show 0 < l.length by omega)]
    rfl
  unfold lenR
  rw [h0, hl, aS_let]
  simp [h2]
/-- what the law takes, said of any name of the letter a -/
theorem ev_start {l : List ByteArray} (hl : substB l = true) (hg : growB l 0 = true) {m : Nat} (hm : m ≤ 400) : (fxS l m).data.toList <+: (fxS l 400).data.toList := by
  rw [fxS_list, fxS_list]
  exact fx_start hl hg m hm
theorem ev_app {l : List ByteArray} (hl : substB l = true) (hg : growB l 0 = true) {m : Nat} (h : appOk l (fxS l m) = true) : (appR l (fxS l m)).data.toList <+: (fxS l 400).data.toList := by
  rw [fxS_list l 400]
  exact fx_app hl hg h
theorem ev_it {l : List ByteArray} (hg : growB l 0 = true) {a : ByteArray} (ha : a = aS) {k : Nat} (h : itOk l a k = true) : (itR l a k).data.toList <+: (fxS l 400).data.toList := by
  subst ha
  rw [fxS_list l 400]
  exact it_long hg h
theorem ev_fixOk {l : List ByteArray} (hl : substB l = true) (hg : growB l 0 = true) {a : ByteArray} (ha : a = aS) {n : Int} {m : Nat} (hn : n = m) (hm : m ≤ 400) : fixOk l a n = true ∧ fixR l a n = fxS l m := by
  subst ha
  subst hn
  exact ⟨by rw [aS_fix hl, hg, decide_eq_true hm]; rfl, fx_fixR hl hg hm⟩
theorem ev_fixNo {l : List ByteArray} (hl : substB l = true) (hg : growB l 0 = false) {a : ByteArray} (ha : a = aS) (n : Int) : fixOk l a n = false := by
  subst ha
  unfold fixOk
  rw [aS_grow hl, hg]
  rfl
theorem ev_lat {l : List ByteArray} (hl : substB l = true) (hg : growB l 0 = true) {a : ByteArray} (ha : a = aS) {i : Nat} (hi : i ≤ 10000) : latOk l a i = true := by
  subst ha
  exact fx_latOk hl hg hi
theorem ev_size {l : List ByteArray} {a : ByteArray} (ha : a = aS) {k : Nat} (h1 : itOk l a k = true) (h2 : caOk l (unitC l.length 0) k = true) : ((itR l a k).size : Int) = isum (caR l (unitC l.length 0) k) l.length ∧ (itR l a k).size ≤ 400 := by
  subst ha
  refine ⟨it_size h1 h2, ?_⟩
  have hw := (it_parts h1).2.2
  unfold wordB at hw
  simp only [Bool.and_eq_true, decide_eq_true_eq] at hw
  exact hw.1
theorem ev_cell {l : List ByteArray} {a : ByteArray} (ha : a = aS) {k : Nat} (h1 : itOk l a k = true) (h2 : caOk l (unitC l.length 0) k = true) : (countsR (itR l a k)).length = 4 ∧ ∀ i, i < 4 → (countsR (itR l a k)).getD i 0 = (if i < l.length then (caR l (unitC l.length 0) k).getD i 0 else 0) := by
  subst ha
  exact ⟨(it_cell h1 h2 0 (by decide)).1, fun i hi => (it_cell h1 h2 i hi).2⟩
theorem ev_lenA {l : List ByteArray} (hl : substB l = true) {a : ByteArray} (ha : a = aS) {k : Nat} (h2 : caOk l (unitC l.length 0) k = true) : lenR l a k = isum (caR l (unitC l.length 0) k) l.length := by
  subst ha
  exact ev_len hl h2
end Go.Proofs.Ytgfhconcmoepcaa
