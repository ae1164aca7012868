/- Texts put together. -/
import Derived.Test.YtfcbfflkajlhnaaMgT5
import Derived.Test.YtfcbfflkajlhnaaMgT6
import Derived.Test.YtfcbfflkajlhnaaMgT13
import Derived.Test.YtfcbfflkajlhnaaMgT4
import Derived.Test.YtfcbfflkajlhnaaMgT12
/- Lists of texts in ascending order, each once; the factors of a word. No program in it. -/
namespace Go.Proofs.Ytfcbfflkajlhnaa
open Go.RowKit

def lessB (a b : ByteArray) : Bool := Op.bytesLess a.toList b.toList
theorem bl_self : ∀ a : List UInt8, Op.bytesLess a a = false
  | [] => rfl
  | x :: a => by simp [Op.bytesLess, bl_self a]
theorem bl_trans : ∀ a b c : List UInt8, Op.bytesLess a b = true → Op.bytesLess b c = true → Op.bytesLess a c = true
  | _, [], c, h, _ => by cases ‹List UInt8› <;> simp [Op.bytesLess] at h
  | _, _ :: _, [], _, k => by simp [Op.bytesLess] at k
  | [], _ :: _, _ :: _, _, _ => by simp [Op.bytesLess]
  | x :: a, y :: b, z :: c, h, k => by
    have ih := bl_trans a b c
    simp only [Op.bytesLess, Bool.or_eq_true, Bool.and_eq_true, decide_eq_true_eq, beq_iff_eq] at h k ⊢
    rcases h with h | ⟨rfl, h⟩
    · rcases k with k | ⟨rfl, _⟩
      · exact .inl (UInt8.lt_trans h k)
      · exact .inl h
    · rcases k with k | ⟨rfl, k⟩
      · exact .inl k
      · exact .inr ⟨rfl, ih h k⟩
theorem bl_tri : ∀ a b : List UInt8, Op.bytesLess a b = true ∨ a = b ∨ Op.bytesLess b a = true
  | [], [] => .inr (.inl rfl)
  | [], _ :: _ => .inl (by simp [Op.bytesLess])
  | _ :: _, [] => .inr (.inr (by simp [Op.bytesLess]))
  | x :: a, y :: b => by
    simp only [Op.bytesLess, Bool.or_eq_true, Bool.and_eq_true, decide_eq_true_eq, beq_iff_eq]
    rcases (show x < y ∨ x = y ∨ y < x by
      rcases Nat.lt_trichotomy x.toNat y.toNat with h | h | h
      · exact .inl (UInt8.lt_iff_toNat_lt.2 h)
      · exact .inr (.inl (UInt8.toNat.inj h))
      · exact .inr (.inr (UInt8.lt_iff_toNat_lt.2 h))) with h | rfl | h
    · exact .inl (.inl h)
    · rcases bl_tri a b with k | rfl | k
      · exact .inl (.inr ⟨rfl, k⟩)
      · exact .inr (.inl rfl)
      · exact .inr (.inr (.inr ⟨rfl, k⟩))
    · exact .inr (.inr (.inl h))
theorem less_self (a : ByteArray) : ¬ lessB a a = true := by unfold lessB; rw [bl_self]; decide
theorem less_trans {a b c : ByteArray} (h : lessB a b = true) (k : lessB b c = true) : lessB a c = true := bl_trans _ _ _ h k
theorem less_tri (a b : ByteArray) : lessB a b = true ∨ a = b ∨ lessB b a = true := by
  rcases bl_tri a.toList b.toList with h | h | h
  · exact .inl h
  · exact .inr (.inl (bytes_ext h))
  · exact .inr (.inr h)
def Asc (l : List ByteArray) : Prop := l.Pairwise fun a b => lessB a b = true
theorem asc_ext : ∀ {l m : List ByteArray}, Asc l → Asc m → (∀ x, x ∈ l ↔ x ∈ m) → l = m
  | [], [], _, _, _ => rfl
  | [], b :: m, _, _, h => absurd ((h b).2 (List.mem_cons_self ..)) (by simp)
  | a :: l, [], _, _, h => absurd ((h a).1 (List.mem_cons_self ..)) (by simp)
  | a :: l, b :: m, hl, hm, h => by
    obtain ⟨l1, l2⟩ := List.pairwise_cons.1 hl
    obtain ⟨m1, m2⟩ := List.pairwise_cons.1 hm
    have e : a = b := by
      rcases List.mem_cons.1 ((h a).1 (List.mem_cons_self ..)) with e | e
      · exact e
      · rcases List.mem_cons.1 ((h b).2 (List.mem_cons_self ..)) with e' | e'
        · exact e'.symm
        · exact absurd (less_trans (m1 a e) (l1 b e')) (less_self b)
    subst e
    congr 1
    refine asc_ext l2 m2 (fun x => ⟨fun hx => ?_, fun hx => ?_⟩)
    · rcases List.mem_cons.1 ((h x).1 (List.mem_cons_of_mem _ hx)) with e | e
      · subst e; exact absurd (l1 x hx) (less_self x)
      · exact e
    · rcases List.mem_cons.1 ((h x).2 (List.mem_cons_of_mem _ hx)) with e | e
      · subst e; exact absurd (m1 x hx) (less_self x)
      · exact e
/-- one more text, if it is not there -/
def insL : List ByteArray → ByteArray → List ByteArray
  | [], x => [x]
  | a :: l, x => if lessB x a = true then x :: a :: l else if lessB a x = true then a :: insL l x else a :: l
theorem insL_mem : ∀ (l : List ByteArray) (x y : ByteArray), y ∈ insL l x ↔ (y = x ∨ y ∈ l)
  | [], x, y => by simp [insL]
  | a :: l, x, y => by
    unfold insL
    by_cases h1 : lessB x a = true
    · rw [if_pos h1]; simp
    · rw [if_neg h1]
      by_cases h2 : lessB a x = true
      · rw [if_pos h2, List.mem_cons, insL_mem l x y, List.mem_cons]
        constructor
        · rintro (e | e | e)
          · exact .inr (.inl e)
          · exact .inl e
          · exact .inr (.inr e)
        · rintro (e | e | e)
          · exact .inr (.inl e)
          · exact .inl e
          · exact .inr (.inr e)
      · rw [if_neg h2]
        have e : a = x := by
          rcases less_tri a x with e | e | e
          · exact absurd e h2
          · exact e
          · exact absurd e h1
        subst e
        simp
theorem insL_asc : ∀ {l : List ByteArray} (x : ByteArray), Asc l → Asc (insL l x)
  | [], x, _ => by simp [insL, Asc]
  | a :: l, x, h => by
    obtain ⟨h1, h2⟩ := List.pairwise_cons.1 h
    unfold insL
    by_cases k1 : lessB x a = true
    · rw [if_pos k1]
      refine List.pairwise_cons.2 ⟨fun y hy => ?_, h⟩
      rcases List.mem_cons.1 hy with e | e
      · rw [e]; exact k1
      · exact less_trans k1 (h1 y e)
    · rw [if_neg k1]
      by_cases k2 : lessB a x = true
      · rw [if_pos k2]
        refine List.pairwise_cons.2 ⟨fun y hy => ?_, insL_asc x h2⟩
        rcases (insL_mem l x y).1 hy with e | e
        · rw [e]; exact k2
        · exact h1 y e
      · rw [if_neg k2]; exact h
theorem insL_there {l : List ByteArray} {x : ByteArray} (h : Asc l) (hx : x ∈ l) : insL l x = l :=
  asc_ext (insL_asc x h) h fun y => by
    rw [insL_mem]
    constructor
    · rintro (rfl | e)
      · exact hx
      · exact e
    · exact .inr
/-- laid at its place -/
theorem insL_at {l : List ByteArray} {x : ByteArray} (h : Asc l) {k : Nat} (hk : k ≤ l.length) (h1 : ∀ (j : Nat) (hj : j < l.length), k ≤ j → lessB x l[j] = true) (h2 : ∀ (j : Nat) (hj : j < l.length), j < k → lessB l[j] x = true) : l.take k ++ x :: l.drop k = insL l x := by
  refine asc_ext ?_ (insL_asc x h) fun y => ?_
  · refine List.pairwise_append.2 ⟨h.sublist (List.take_sublist _ _), List.pairwise_cons.2 ⟨fun y hy => ?_, h.sublist (List.drop_sublist _ _)⟩, fun a ha b hb => ?_⟩
    · obtain ⟨j, hj, rfl⟩ := List.mem_iff_getElem.1 hy
      rw [List.length_drop] at hj
      rw [List.getElem_drop]
      exact h1 _ (by omega) (by omega)
    · obtain ⟨j, hj, rfl⟩ := List.mem_iff_getElem.1 ha
      rw [List.length_take] at hj
      rw [List.getElem_take]
      have hjx := h2 j (by omega) (by omega)
      rcases List.mem_cons.1 hb with e | e
      · rw [e]; exact hjx
      · obtain ⟨i, hi, rfl⟩ := List.mem_iff_getElem.1 e
        rw [List.length_drop] at hi
        rw [List.getElem_drop]
        exact less_trans hjx (h1 _ (by omega) (by omega))
  · rw [insL_mem]
    have e : y ∈ l ↔ y ∈ l.take k ∨ y ∈ l.drop k := by
      rw [← List.mem_append, List.take_append_drop]
    rw [e, List.mem_append, List.mem_cons]
    constructor
    · rintro (a | a | a)
      · exact .inr (.inl a)
      · exact .inl a
      · exact .inr (.inr a)
    · rintro (a | a | a)
      · exact .inr (.inl a)
      · exact .inl a
      · exact .inr (.inr a)
/-- the factors of n letters that begin at the first indexes -/
def facTo (s : ByteArray) (n : Nat) : Nat → List ByteArray
  | 0 => []
  | i + 1 => insL (facTo s n i) (s.extract i (i + n))
theorem facTo_asc (s : ByteArray) (n : Nat) : ∀ i, Asc (facTo s n i)
  | 0 => List.Pairwise.nil
  | i + 1 => insL_asc _ (facTo_asc s n i)
theorem facTo_mem (s : ByteArray) (n : Nat) (x : ByteArray) : ∀ i, x ∈ facTo s n i ↔ ∃ j, j < i ∧ x = s.extract j (j + n)
  | 0 => by simp [facTo]
  | i + 1 => by
    show x ∈ insL _ _ ↔ _
    rw [insL_mem, facTo_mem s n x i]
    constructor
    · rintro (e | ⟨j, h, e⟩)
      · exact ⟨i, by omega, e⟩
      · exact ⟨j, by omega, e⟩
    · rintro ⟨j, h, e⟩
      by_cases hj : j = i
      · subst hj; exact .inl e
      · exact .inr ⟨j, by omega, e⟩
/-- what FixedFactors is to return -/
def facOk (l : List ByteArray) (t : ByteArray) (n : Int) : Bool := growOk l t && (decide (1 ≤ n) && decide (n ≤ 8))
def facR (l : List ByteArray) (t : ByteArray) (n : Int) : List ByteArray := if facOk l t n = true then facTo ⟨(fixL l (letN t) 400).toArray⟩ n.toNat (401 - n.toNat) else []
end Go.Proofs.Ytfcbfflkajlhnaa

/- The mathematics of FnTop: a substitution under which the letter a grows. No program in it. -/
namespace Go.Proofs.Ytfcbfflkajlhnaa
open Go.RowKit

section
variable {l : List ByteArray} (hl : substB l = true) (hg : growB l 0 = true)
include hl hg
theorem pre_any {p : List UInt8} (h : IsPre l 0 p) {n : Nat} (hn : p.length ≤ n) : p <+: fixL l 0 n := by
  rw [pre_self hl hg h, ← fix_take hl hg hn]
  exact List.take_prefix _ _
theorem top_start {m n : Nat} (h : m ≤ n) : (fxS l m).data.toList <+: (fxS l n).data.toList := by
  rw [fxS_list, fxS_list]
  exact pre_any hl hg (fixL_pre l 0 m) (by rw [fixL_length hl (subst_parts hl).1 hg]; exact h)
theorem top_grow (m : Nat) : m ≤ (applyL l (fixL l 0 m)).length := by
  have hw : Within l (fixL l 0 m) := fun c hc => iterL_within hl (subst_parts hl).1 m c (List.mem_of_mem_take hc)
  have := apply_grows hl hw
  rwa [fixL_length hl (subst_parts hl).1 hg] at this
/-- the image of a beginning begins with it -/
theorem top_app {m : Nat} (h : appOk l (fxS l m) = true) : (fxS l m).data.toList <+: (appR l (fxS l m)).data.toList := by
  have e : (appR l (fxS l m)).data.toList = applyL l (fixL l 0 m) := by
    rw [show appR l (fxS l m) = stepS l (fxS l m) from if_pos h, stepS_list, fxS_list]
  rw [e, fxS_list]
  have h1 := pre_any hl hg (fixL_pre l 0 m) (n := (applyL l (fixL l 0 m)).length) (by rw [fixL_length hl (subst_parts hl).1 hg]; exact top_grow hl hg m)
  rwa [← pre_self hl hg (pre_apply (fixL_pre l 0 m))] at h1
theorem top_app200 {m n : Nat} (h : appOk l (fxS l m) = true) (hs : (appR l (fxS l m)).size ≤ n) : (appR l (fxS l m)).data.toList <+: (fxS l n).data.toList := by
  have e : (appR l (fxS l m)).data.toList = applyL l (fixL l 0 m) := by
    rw [show appR l (fxS l m) = stepS l (fxS l m) from if_pos h, stepS_list, fxS_list]
  have hlen : (applyL l (fixL l 0 m)).length = (appR l (fxS l m)).size := by rw [← e]; simp
  rw [e, fxS_list]
  exact pre_any hl hg (pre_apply (fixL_pre l 0 m)) (by omega)
theorem top_lat {i n : Nat} (hi : i < n) (hn : n ≤ 400) : latR l aS i = (fxS l n).extract i (i + 1) := by
  rw [fx_lat hl hg (show i < 400 by omega)]
  apply bytes_ext
  rw [ByteArray.toList_eq, ByteArray.toList_eq, ByteArray.data_extract, ByteArray.data_extract, Array.toList_extract, Array.toList_extract, List.extract_eq_take_drop, List.extract_eq_take_drop, fxS_list, fxS_list, ← fix_take hl hg hn, List.drop_take, List.take_take]
  congr 1
  omega
theorem top_word {m : Nat} (hm : m ≤ 400) : wordB (fxS l m) = true := by
  unfold wordB
  rw [fxS_size hl hg, decide_eq_true hm, Bool.true_and, List.all_eq_true]
  intro c hc
  rw [fxS_list] at hc
  have h4 := (subst_parts hl).2.1
  have := iterL_within hl (subst_parts hl).1 m c (List.mem_of_mem_take hc)
  unfold isAbcd
  rw [decide_eq_true (by omega), decide_eq_true (by omega)]
  rfl
omit hl in
/-- the letters that grow begin with a -/
theorem top_out (n : Nat) : [letterN 0] <+: outTo (growB l) (n + 1) := by
  induction n with
  | zero =>
    show [letterN 0] <+: [] ++ (if growB l 0 = true then [letterN 0] else [])
    rw [if_pos hg]
    exact List.prefix_refl _
  | succ n ih => exact ih.trans (List.prefix_append _ _)
theorem top_growR : aS.data.toList <+: (growR l).data.toList := by
  have e : growR l = ⟨(outTo (growB l) l.length).toArray⟩ := if_pos hl
  rw [e, aS_list]
  have h1 := (subst_parts hl).1
  show [letterN 0] <+: outTo (growB l) l.length
  rw [show l.length = (l.length - 1) + 1 by omega]
  exact top_out hg _
omit hl in
theorem top_first : firstN l 0 = 0 := by
  unfold growB at hg
  simp only [Bool.and_eq_true, decide_eq_true_eq] at hg
  exact hg.2
theorem top_pow : powR l = 1 := by
  have hb : backB l 1 = true := backB_iff.2 ⟨0, (subst_parts hl).1, top_first hg⟩
  unfold powR
  rw [if_pos hl, hb]
  rfl
theorem top_orb : orbR l aS = aS := by
  have h1 : goN l 0 1 = 0 := top_first hg
  have hn : orbN l 0 = 1 := by
    unfold orbN
    rw [if_pos (by rw [h1]; exact List.mem_singleton.2 rfl)]
  have hk : (letOk l aS && substB l) = true := by
    unfold letOk
    rw [hl, aS_word, aS_let, decide_eq_true (show aS.size = 1 from rfl), decide_eq_true (by have := (subst_parts hl).1; omega)]
    rfl
  unfold orbR
  rw [if_pos hk, aS_let, hn]
  rfl
theorem top_fac {n : Nat} (h1 : 1 ≤ n) (h8 : n ≤ 8) : facR l aS n = facTo (fxS l 400) n (401 - n) := by
  have e : facOk l aS n = true := by
    unfold facOk
    rw [aS_grow hl, hg, decide_eq_true (show (1 : Int) ≤ n by omega), decide_eq_true (show (n : Int) ≤ 8 by omega)]
    rfl
  unfold facR
  rw [if_pos e, aS_let]
  rfl
end

theorem insL_few : ∀ (l : List ByteArray) (x : ByteArray), (insL l x).length ≤ l.length + 1
  | [], _ => Nat.le_refl _
  | a :: l, x => by
    have ih := insL_few l x
    unfold insL
    split
    · exact Nat.le_refl _
    · split
      · rw [List.length_cons, List.length_cons]; omega
      · rw [List.length_cons]; omega
theorem facTo_few (s : ByteArray) (n : Nat) : ∀ i, (facTo s n i).length ≤ i
  | 0 => Nat.le_refl _
  | i + 1 => by
    have ih := facTo_few s n i
    have := insL_few (facTo s n i) (s.extract i (i + n))
    show (insL _ _).length ≤ _
    omega
/-! ### five applications are never too many -/
section
variable {l : List ByteArray} (hl : substB l = true)
include hl
theorem top_len8 : ∀ k, (iterL l [letterN 0] k).length ≤ 8 ^ k
  | 0 => by simp [iterL]
  | k + 1 => by
    have ih := top_len8 k
    have := applyL_le hl (iterL l [letterN 0] k)
    show (applyL l (iterL l [letterN 0] k)).length ≤ _
    rw [Nat.pow_succ]
    omega
theorem top_itCok : ∀ k, k ≤ 5 → itCok l (unitC l.length 0) k = true
  | 0, _ => rfl
  | k + 1, hk => by
    show (itCok l (unitC l.length 0) k && (stepC l (itC l (unitC l.length 0) k)).all smallC) = true
    rw [top_itCok k (by omega), Bool.true_and, List.all_eq_true]
    intro x hx
    obtain ⟨i, hi, rfl⟩ := List.mem_iff_getElem.1 hx
    have hil : i < l.length := by rwa [stepC_length] at hi
    have h := it_counts hl (k + 1) i hil
    have e : (stepC l (itC l (unitC l.length 0) k))[i] = (itC l (unitC l.length 0) (k + 1)).getD i 0 := by
      show _ = (stepC l (itC l (unitC l.length 0) k)).getD i 0
      rw [List.getD_eq_getElem?_getD, List.getElem?_eq_getElem hi]
      rfl
    rw [e, h]
    have h1 : cnt (iterL l [letterN 0] (k + 1)) (letterN i) ≤ (iterL l [letterN 0] (k + 1)).length := List.count_le_length
    have h2 := top_len8 hl (k + 1)
    have h3 : 8 ^ (k + 1) ≤ 8 ^ 5 := Nat.pow_le_pow_right (by omega) (by omega)
    have h4 : (8 : Nat) ^ 5 = 32768 := rfl
    unfold smallC
    rw [decide_eq_true (by omega)]
omit hl in
theorem unitC_all (n : Nat) : (unitC n 0).all cntOk = true := by
  rw [List.all_eq_true]
  intro x hx
  have hm : x = 1 ∨ x = 0 := by
    unfold unitC at hx
    rcases List.mem_or_eq_of_mem_set hx with h | h
    · exact .inr (List.eq_of_mem_replicate h)
    · exact .inl h
  rcases hm with rfl | rfl <;> rfl
theorem top_ca {k : Nat} (hk : k ≤ 5) : caOk l (unitC l.length 0) k = true := by
  unfold caOk
  rw [hl, decide_eq_true (unitC_length _ _), decide_eq_true (show (0 : Int) ≤ k by omega), decide_eq_true (show (k : Int) ≤ 40 by omega), unitC_all, Int.toNat_natCast, top_itCok hl k hk]
  rfl
theorem top_sum {k : Nat} (hk : k ≤ 5) : isum (caR l (unitC l.length 0) k) l.length = ((iterL l [letterN 0] k).length : Int) := by
  obtain ⟨e2, _⟩ := ca_parts (top_ca hl hk)
  rw [e2, isum_counts (fun i hi => it_counts hl k i hi) _ (Nat.le_refl _), cntSum_all l.length (subst_parts hl).2.1 _ (iterL_within hl (subst_parts hl).1 k)]
theorem top_up (hg : growB l 0 = true) (k : Nat) : (iterL l [letterN 0] k).length ≤ (iterL l [letterN 0] (k + 1)).length := (iterL_step hl (subst_parts hl).1 hg k).length_le
theorem top_iter (hg : growB l 0 = true) : ∀ k, iterOk l aS k = true ↔ (iterL l [letterN 0] k).length ≤ 400
  | 0 => by simp [iterOk, iterL]
  | k + 1 => by
    show (iterOk l aS k && decide ((applyL l (iterS l aS k).data.toList).length ≤ 400)) = true ↔ _
    rw [iterS_list, aS_list, Bool.and_eq_true, decide_eq_true_eq, top_iter hg k]
    have := top_up hl hg k
    show _ ∧ (iterL l [letterN 0] (k + 1)).length ≤ 400 ↔ _
    constructor
    · exact fun h => h.2
    · exact fun h => ⟨by omega, h⟩
theorem top_it (hg : growB l 0 = true) {k : Nat} (hk : k ≤ 5) : itOk l aS k = decide (isum (caR l (unitC l.length 0) k) l.length ≤ 400) := by
  have h1 := (subst_parts hl).1
  rw [top_sum hl hk]
  unfold itOk
  rw [hl, aS_word, aS_within h1, decide_eq_true (show (0 : Int) ≤ k by omega), decide_eq_true (show (k : Int) ≤ 20 by omega), Int.toNat_natCast]
  simp only [Bool.true_and]
  rw [Bool.eq_iff_iff, top_iter hl hg k, decide_eq_true_eq]
  omega
theorem top_it200 (hg : growB l 0 = true) {k n : Nat} (h : itOk l aS k = true) (hs : (itR l aS k).size ≤ n) : (itR l aS k).data.toList <+: (fxS l n).data.toList := by
  obtain ⟨_, e1, _⟩ := it_parts h
  have hlen : (iterL l [letterN 0] k).length = (itR l aS k).size := by rw [← e1]; simp
  rw [e1, fxS_list]
  exact pre_any hl hg ⟨k, List.prefix_refl _⟩ (by omega)
end
end Go.Proofs.Ytfcbfflkajlhnaa

/- l04Letter and LengthAfter of the model. Conditions: lengths of at most 2^20. -/
namespace Go.Proofs.Ytfcbfflkajlhnaa
open Go.RowKit
end Go.Proofs.Ytfcbfflkajlhnaa
