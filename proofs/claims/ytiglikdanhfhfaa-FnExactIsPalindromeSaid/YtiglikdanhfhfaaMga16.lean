/- Texts put together. -/
import Derived.Test.YtiglikdanhfhfaaMga15
import Derived.Test.YtiglikdanhfhfaaMga9
import Derived.Test.YtiglikdanhfhfaaMga6
import Derived.Test.YtiglikdanhfhfaaMga14
import Derived.Test.YtiglikdanhfhfaaMga1
import Derived.Deep.OwnRows
import Derived.Lib.Hide
/- The mathematics of FnFactors: members of the list of factors, a word turned round. No program in it. -/
namespace Go.Proofs.Ytiglikdanhfhfaa
open Go.RowKit

theorem fct_mem (s : ByteArray) (n : Nat) (x : ByteArray) : x ∈ fctL s n ↔ ∃ j, j < s.size + 1 - n ∧ x = s.extract j (j + n) := by
  unfold fctL
  exact facTo_mem s n x _
theorem asc_nodup {l : List ByteArray} (h : Asc l) : l.Nodup := h.imp fun {a b} hab e => by
  rw [e] at hab
  exact less_self _ hab
theorem nodup_le {α : Type} : ∀ {l m : List α}, l.Nodup → (∀ x ∈ l, x ∈ m) → l.length ≤ m.length
  | [], _, _, _ => Nat.zero_le _
  | a :: l, m, hl, h => by
    obtain ⟨h1, h2⟩ := List.pairwise_cons.1 hl
    obtain ⟨m1, m2, rfl⟩ := List.append_of_mem (h a (List.mem_cons_self ..))
    have := nodup_le (m := m1 ++ m2) h2 (fun x hx => by
      rcases List.mem_append.1 (h x (List.mem_cons_of_mem _ hx)) with e | e
      · exact List.mem_append_left _ e
      · rcases List.mem_cons.1 e with e | e
        · exact absurd e.symm (h1 x hx)
        · exact List.mem_append_right _ e)
    rw [List.length_append] at this
    rw [List.length_append, List.length_cons, List.length_cons]
    omega
theorem nodup_eq {α : Type} {l m : List α} (hl : l.Nodup) (hm : m.Nodup) (h : ∀ x, x ∈ l ↔ x ∈ m) : l.length = m.length :=
  Nat.le_antisymm (nodup_le hl fun x hx => (h x).1 hx) (nodup_le hm fun x hx => (h x).2 hx)
theorem flip_flip (s : ByteArray) : flipS (flipS s) = s := by
  unfold flipS
  apply bytes_ext
  rw [ByteArray.toList_eq, ByteArray.toList_eq]
  simp
theorem flip_size (s : ByteArray) : (flipS s).size = s.size := by
  show (s.data.toList.reverse.toArray).size = s.size
  simp
theorem flip_ext (s : ByteArray) (j n : Nat) (h : j + n ≤ s.size) : (flipS s).extract j (j + n) = flipS (s.extract (s.size - j - n) (s.size - j - n + n)) := by
  apply bytes_ext
  rw [ByteArray.toList_eq, ByteArray.toList_eq]
  show ((flipS s).extract j (j + n)).data.toList = (s.extract (s.size - j - n) (s.size - j - n + n)).data.toList.reverse
  rw [ByteArray.data_extract, ByteArray.data_extract, Array.toList_extract, Array.toList_extract, List.extract_eq_take_drop, List.extract_eq_take_drop]
  show ((s.data.toList.reverse).drop j).take (j + n - j) = _
  have hl : s.data.toList.length = s.size := by simp
  generalize s.data.toList = l at hl
  rw [← hl] at h ⊢
  rw [Nat.add_sub_cancel_left, Nat.add_sub_cancel_left]
  apply List.ext_getElem
  · simp; omega
  · intro i h1 h2
    simp only [List.getElem_take, List.getElem_drop, List.getElem_reverse]
    congr 1
    simp at h1 h2 ⊢
    omega
theorem flip_inj {a b : ByteArray} (h : flipS a = flipS b) : a = b := by rw [← flip_flip a, h, flip_flip]
theorem flip_fct (s : ByteArray) (n : Nat) (x : ByteArray) : x ∈ fctL (flipS s) n ↔ x ∈ (fctL s n).map flipS := by
  rw [fct_mem, List.mem_map]
  constructor
  · rintro ⟨j, hj, rfl⟩
    rw [flip_size] at hj
    exact ⟨s.extract (s.size - j - n) (s.size - j - n + n), (fct_mem s n _).2 ⟨s.size - j - n, by omega, rfl⟩, (flip_ext s j n (by omega)).symm⟩
  · rintro ⟨y, hy, rfl⟩
    obtain ⟨j, hj, rfl⟩ := (fct_mem s n y).1 hy
    refine ⟨s.size - j - n, by rw [flip_size]; omega, ?_⟩
    rw [flip_ext s (s.size - j - n) n (by omega)]
    congr 2 <;> omega
/-- a word and the word turned round have as many factors of a length -/
theorem flip_len (s : ByteArray) (n : Nat) : (fctL (flipS s) n).length = (fctL s n).length := by
  have h1 : (fctL (flipS s) n).Nodup := asc_nodup (facTo_asc _ _ _)
  have h2 : ((fctL s n).map flipS).Nodup := List.pairwise_map.2 ((asc_nodup (facTo_asc s n (s.size + 1 - n))).imp fun {a b} hab e => hab (flip_inj e))
  rw [nodup_eq h1 h2 (flip_fct s n), List.length_map]

/-! ### the letters behind and ahead of factors -/
theorem exL_sz (f : ByteArray) (b : Bool) (k : Nat) : (exL f b k).size = f.size + 1 := by
  have h1 : (⟨#[letterN k]⟩ : ByteArray).size = 1 := rfl
  unfold exL
  split
  · rw [ByteArray.size_append, h1]; omega
  · rw [ByteArray.size_append, h1]
theorem exL_list (f : ByteArray) (b : Bool) (k : Nat) : (exL f b k).data.toList = if b = true then letterN k :: f.data.toList else f.data.toList ++ [letterN k] := by
  unfold exL
  split
  · rw [ByteArray.data_append, Array.toList_append]; rfl
  · rw [ByteArray.data_append, Array.toList_append]
theorem exL_inj {f f' : ByteArray} {b : Bool} {k k' : Nat} (hk : k ≤ 3) (hk' : k' ≤ 3) (h : exL f b k = exL f' b k') : f = f' ∧ k = k' := by
  have e := congrArg (fun x : ByteArray => x.data.toList) h
  simp only [exL_list] at e
  by_cases hb : b = true
  · rw [if_pos hb, if_pos hb] at e
    injection e with e1 e2
    exact ⟨bytes_ext (by rw [ByteArray.toList_eq, ByteArray.toList_eq]; exact e2), letterN_inj hk hk' e1⟩
  · rw [if_neg hb, if_neg hb] at e
    obtain ⟨e1, e2⟩ := List.append_inj' e rfl
    injection e2 with e2 _
    exact ⟨bytes_ext (by rw [ByteArray.toList_eq, ByteArray.toList_eq]; exact e1), letterN_inj hk hk' e2⟩
theorem has_iff (s x : ByteArray) : hasR s x = true ↔ ∃ i, i + x.size ≤ s.size ∧ s.extract i (i + x.size) = x := by
  unfold hasR
  constructor
  · intro h
    obtain ⟨i, h1, h2⟩ := @of_decide_eq_true _ (Classical.propDecidable _) h
    exact ⟨i, h1, h2⟩
  · rintro ⟨i, h1, h2⟩
    exact @decide_eq_true _ (Classical.propDecidable _) ⟨i, h1, h2⟩
theorem fct_sz {s x : ByteArray} {n : Nat} (hn : n ≤ s.size) (h : x ∈ fctL s n) : x.size = n := by
  obtain ⟨j, hj, rfl⟩ := (fct_mem s n x).1 h
  rw [ByteArray.size_extract]
  omega
theorem word_letter {s : ByteArray} (h : wordB s = true) {j : Nat} (hj : j < s.size) : ∃ k, k ≤ 3 ∧ s.data.toList[j]'(by simpa using hj) = letterN k := by
  have hm := List.all_eq_true.1 (all_of_word h) (s.data.toList[j]'(by simpa using hj)) (List.getElem_mem _)
  unfold isAbcd at hm
  simp only [Bool.and_eq_true, decide_eq_true_eq] at hm
  refine ⟨(s.data.toList[j]'(by simpa using hj)).toNat - 97, by omega, ?_⟩
  apply UInt8.toNat.inj
  rw [letterN_toNat _ (by omega)]
  omega
theorem ext_list2 (s : ByteArray) (i n : Nat) : (s.extract i (i + n)).data.toList = (s.data.toList.drop i).take n := by
  rw [ByteArray.data_extract, Array.toList_extract, List.extract_eq_take_drop, Nat.add_sub_cancel_left]
/-- each longer factor is a factor and a letter -/
theorem ext_split {s : ByteArray} (hw : wordB s = true) {j n : Nat} (h : j + (n + 1) ≤ s.size) (b : Bool) : ∃ k i, k ≤ 3 ∧ i + n ≤ s.size ∧ s.extract j (j + (n + 1)) = exL (s.extract i (i + n)) b k := by
  have hl : s.data.toList.length = s.size := by simp
  cases b
  · obtain ⟨k, hk, e⟩ := word_letter hw (show j + n < s.size by omega)
    refine ⟨k, j, hk, by omega, bytes_ext ?_⟩
    rw [ByteArray.toList_eq, ByteArray.toList_eq]
    show (s.extract j (j + (n + 1))).data.toList = (exL (s.extract j (j + n)) false k).data.toList
    rw [exL_list, if_neg (by decide), ext_list2, ext_list2, List.take_succ_eq_append_getElem (by rw [List.length_drop]; omega), List.getElem_drop, e]
  · obtain ⟨k, hk, e⟩ := word_letter hw (show j < s.size by omega)
    refine ⟨k, j + 1, hk, by omega, bytes_ext ?_⟩
    rw [ByteArray.toList_eq, ByteArray.toList_eq]
    show (s.extract j (j + (n + 1))).data.toList = (exL (s.extract (j + 1) (j + 1 + n)) true k).data.toList
    rw [exL_list, if_pos rfl, ext_list2, ext_list2, ← e, List.drop_eq_getElem_cons (show j < s.data.toList.length by omega), List.take_succ_cons]
/-- the factors of n letters, each with each letter behind (or ahead of) it -/
noncomputable def extsL (s : ByteArray) (n : Nat) (b : Bool) : List ByteArray := (fctL s n).flatMap fun f => ((List.range 4).filter fun k => hasR s (exL f b k)).map (exL f b)
theorem outTo_len (p : Nat → Bool) : ∀ n, (outTo p n).length = ((List.range n).filter p).length
  | 0 => rfl
  | n + 1 => by
    rw [List.range_succ, List.filter_append, List.length_append, ← outTo_len p n]
    show (outTo p n ++ (if p n = true then [letterN n] else [])).length = _
    rw [List.length_append]
    congr 1
    by_cases h : p n = true
    · rw [if_pos h, List.filter_cons_of_pos h]; rfl
    · rw [if_neg h, List.filter_cons_of_neg h]; rfl
theorem nxt_size (s f : ByteArray) (b : Bool) : (nxtS s f b).size = ((List.range 4).filter fun k => hasR s (exL f b k)).length := by
  show ((outTo _ 4).toArray).size = _
  rw [List.size_toArray, outTo_len]
theorem exts_len (s : ByteArray) (n : Nat) (b : Bool) : (extsL s n b).length = ((fctL s n).map fun f => (nxtS s f b).size).sum := by
  unfold extsL
  rw [List.length_flatMap]
  congr 1
  apply List.map_congr_left
  intro f _
  rw [List.length_map, nxt_size]
theorem exts_mem {s : ByteArray} (hw : wordB s = true) (n : Nat) (hn : n + 1 ≤ s.size) (b : Bool) (x : ByteArray) : x ∈ extsL s n b ↔ x ∈ fctL s (n + 1) := by
  unfold extsL
  rw [List.mem_flatMap]
  constructor
  · rintro ⟨f, hf, hx⟩
    obtain ⟨k, hk, rfl⟩ := List.mem_map.1 hx
    obtain ⟨hk4, hh⟩ := List.mem_filter.1 hk
    obtain ⟨i, h1, h2⟩ := (has_iff _ _).1 hh
    rw [exL_sz, fct_sz (by omega) hf] at h1 h2
    exact (fct_mem _ _ _).2 ⟨i, by omega, h2.symm⟩
  · intro h
    obtain ⟨j, hj, rfl⟩ := (fct_mem _ _ _).1 h
    obtain ⟨k, i, hk, hi, e⟩ := ext_split hw (show j + (n + 1) ≤ s.size by omega) b
    refine ⟨s.extract i (i + n), (fct_mem _ _ _).2 ⟨i, by omega, rfl⟩, List.mem_map.2 ⟨k, List.mem_filter.2 ⟨List.mem_range.2 (by omega), ?_⟩, e.symm⟩⟩
    refine (has_iff _ _).2 ⟨j, ?_, ?_⟩
    · rw [exL_sz, ByteArray.size_extract]; omega
    · rw [exL_sz, ByteArray.size_extract, show min (i + n) s.size - i + 1 = n + 1 by omega]; exact e
theorem exts_nodup (s : ByteArray) (n : Nat) (b : Bool) : (extsL s n b).Nodup := by
  unfold extsL
  have hnd := asc_nodup (facTo_asc s n (s.size + 1 - n))
  change (fctL s n).Nodup at hnd
  generalize fctL s n = l at hnd
  induction l with
  | nil => exact List.Pairwise.nil
  | cons f l ih =>
    obtain ⟨h1, h2⟩ := List.pairwise_cons.1 hnd
    rw [List.flatMap_cons]
    refine List.pairwise_append.2 ⟨?_, ih h2, ?_⟩
    · refine List.pairwise_map.2 ?_
      have hr : ((List.range 4).filter fun k => hasR s (exL f b k)).Pairwise (fun i j => i ≠ j ∧ i < 4 ∧ j < 4) := by
        refine List.Pairwise.filter _ ?_
        decide
      exact hr.imp fun {i j} h e => h.1 (exL_inj (by omega) (by omega) e).2
    · intro x hx y hy e
      obtain ⟨k, hk, rfl⟩ := List.mem_map.1 hx
      obtain ⟨g, hg, hy⟩ := List.mem_flatMap.1 hy
      obtain ⟨k', hk', rfl⟩ := List.mem_map.1 hy
      have a := List.mem_range.1 (List.mem_filter.1 hk).1
      have c := List.mem_range.1 (List.mem_filter.1 hk').1
      exact h1 g hg (exL_inj (by omega) (by omega) e).1
/-- the followers of all factors are as many as the factors with a letter more -/
theorem exts_count {s : ByteArray} (hw : wordB s = true) (n : Nat) (hn : n + 1 ≤ s.size) (b : Bool) : ((fctL s n).map fun f => (nxtS s f b).size).sum = (fctL s (n + 1)).length := by
  rw [← exts_len]
  exact nodup_eq (exts_nodup s n b) (asc_nodup (facTo_asc _ _ _)) (exts_mem hw n hn b)
end Go.Proofs.Ytiglikdanhfhfaa

/- The mathematics of FnPalindromes, first part: how many palindromes there are, turned words, the longest one, closing. No program in it. -/
namespace Go.Proofs.Ytiglikdanhfhfaa
open Go.RowKit

/-! ### letters -/
theorem pl_len (s : ByteArray) : s.data.toList.length = s.size := by simp
theorem pl_ext {s t : ByteArray} (hz : s.size = t.size) (h : ∀ i, i < s.size → s.data.toList[i]? = t.data.toList[i]?) : s = t := by
  apply bytes_ext
  rw [ByteArray.toList_eq, ByteArray.toList_eq]
  apply List.ext_getElem?
  intro i
  by_cases hi : i < s.size
  · exact h i hi
  · rw [List.getElem?_eq_none (by rw [pl_len]; omega), List.getElem?_eq_none (by rw [pl_len]; omega)]
theorem pl_ext2 {s t : ByteArray} {i k h : Nat} (h1 : i + h ≤ s.size) (h2 : k + h ≤ t.size) : s.extract i (i + h) = t.extract k (k + h) ↔ ∀ j, j < h → s.data.toList[i + j]? = t.data.toList[k + j]? := by
  have z1 := pz_size s i h h1
  have z2 := pz_size t k h h2
  constructor
  · intro e j hj
    rw [← pz_list s i h j hj, ← pz_list t k h j hj, e]
  · intro e
    refine pl_ext (by omega) fun j hj => ?_
    rw [pz_list s i h j (by omega), pz_list t k h j (by omega)]
    exact e j (by omega)
theorem pl_turn (s : ByteArray) {i : Nat} (h : i < s.size) : (turnS s).data.toList[i]? = s.data.toList[s.size - 1 - i]? := by
  show (s.data.toList.reverse.toArray).toList[i]? = _
  rw [List.getElem?_reverse (by rw [pl_len]; exact h), pl_len]
theorem pal_get (s : ByteArray) : PalS s ↔ ∀ i, i < s.size → s.data.toList[i]? = s.data.toList[s.size - 1 - i]? := by
  unfold PalS
  constructor
  · intro e i hi
    rw [← pl_turn s hi, e]
  · intro e
    refine pl_ext (turn_size s) fun i hi => ?_
    rw [turn_size] at hi
    rw [pl_turn s hi, e i hi]
theorem pl_at {s : ByteArray} {j n : Nat} (h : j + n ≤ s.size) : PalS (s.extract j (j + n)) ↔ ∀ i, i < n → s.data.toList[j + i]? = s.data.toList[j + (n - 1 - i)]? := by
  rw [pal_get, pz_size s j n h]
  constructor
  · intro e i hi
    have := e i hi
    rwa [pz_list s j n i hi, pz_list s j n (n - 1 - i) (by omega)] at this
  · intro e i hi
    rw [pz_list s j n i hi, pz_list s j n (n - 1 - i) (by omega)]
    exact e i hi
theorem pal_whole (s : ByteArray) : PalS (s.extract 0 s.size) ↔ PalS s := by
  have : s.extract 0 s.size = s := by
    refine pl_ext (by rw [ByteArray.size_extract]; omega) fun i hi => ?_
    rw [ByteArray.size_extract] at hi
    have := pz_list s 0 s.size i (by omega)
    rwa [Nat.zero_add, Nat.zero_add] at this
  rw [this]

/-! ### at most one more than letters -/
def OccE (s x : ByteArray) (e : Nat) : Prop := x.size ≤ e ∧ e ≤ s.size ∧ s.extract (e - x.size) e = x
noncomputable def feN (s x : ByteArray) : Nat := firstP (OccE s x) 0 s.size
theorem fe_spec {s x : ByteArray} {e : Nat} (h : OccE s x e) : OccE s x (feN s x) ∧ ∀ e, OccE s x e → feN s x ≤ e := by
  obtain ⟨a, b⟩ := firstP_spec (P := OccE s x) s.size 0 ⟨e, Nat.zero_le _, by have := h.2.1; omega, h⟩
  exact ⟨a, fun e he => b e (Nat.zero_le _) he⟩
theorem pl_border {s : ByteArray} {a b n m : Nat} (he : a + m = b + n) (hs : a + m ≤ s.size) (hnm : n ≤ m) (hx : PalS (s.extract b (b + n))) (hy : PalS (s.extract a (a + m))) : s.extract a (a + n) = s.extract b (b + n) := by
  rw [pl_ext2 (by omega) (by omega)]
  intro i hi
  rw [(pl_at hs).1 hy i (by omega), (pl_at (by omega)).1 hx i hi]
  congr 1
  omega
theorem fe_inj {s x y : ByteArray} {e1 e2 : Nat} (hx : PalS x) (hy : PalS y) (h1 : OccE s x e1) (h2 : OccE s y e2) (h : feN s x = feN s y) (hxy : x.size ≤ y.size) : x = y := by
  obtain ⟨⟨a1, a2, a3⟩, a4⟩ := fe_spec h1
  obtain ⟨⟨b1, b2, b3⟩, b4⟩ := fe_spec h2
  rw [← h] at b1 b2 b3 b4
  generalize feN s x = e at *
  by_cases hz : x.size = y.size
  · rw [← a3, ← b3, hz]
  · exfalso
    have ex : s.extract (e - x.size) (e - x.size + x.size) = x := by rw [Nat.sub_add_cancel a1]; exact a3
    have ey : s.extract (e - y.size) (e - y.size + y.size) = y := by rw [Nat.sub_add_cancel b1]; exact b3
    have hb := pl_border (s := s) (a := e - y.size) (b := e - x.size) (n := x.size) (m := y.size) (by omega) (by omega) hxy (by rw [ex]; exact hx) (by rw [ey]; exact hy)
    rw [ex] at hb
    have := a4 (e - y.size + x.size) ⟨by omega, by omega, by rw [Nat.add_sub_cancel]; exact hb⟩
    omega
theorem pp_occ {s x : ByteArray} (h : x ∈ ppL s) (h0 : x.size ≠ 0) : PalS x ∧ ∃ e, OccE s x e := by
  rcases (ppL_mem s x).1 h with rfl | ⟨j, n, h1, h2, h3, rfl⟩
  · exact absurd rfl h0
  · have hz := pz_size s j n h2
    exact ⟨h3, j + n, by omega, h2, by rw [hz, Nat.add_sub_cancel]⟩
theorem pl_zero {x : ByteArray} (h : x.size = 0) : x = ⟨#[]⟩ := pl_ext h fun i hi => absurd hi (by omega)
theorem pp_count (s : ByteArray) : (ppL s).length ≤ s.size + 1 := by
  have hnd : ((ppL s).map fun x => if x.size = 0 then 0 else feN s x).Nodup := by
    refine List.pairwise_map.2 ((asc_nodup (ppTo_asc s s.size)).imp_of_mem fun {a b} ha hb hab => ?_)
    intro e
    apply hab
    by_cases ha0 : a.size = 0
    · by_cases hb0 : b.size = 0
      · rw [pl_zero ha0, pl_zero hb0]
      · rw [if_pos ha0, if_neg hb0] at e
        obtain ⟨_, e2, h2⟩ := pp_occ hb hb0
        have := (fe_spec h2).1.1
        omega
    · obtain ⟨p1, e1, h1⟩ := pp_occ ha ha0
      by_cases hb0 : b.size = 0
      · rw [if_neg ha0, if_pos hb0] at e
        have := (fe_spec h1).1.1
        omega
      · rw [if_neg ha0, if_neg hb0] at e
        obtain ⟨p2, e2, h2⟩ := pp_occ hb hb0
        by_cases hs : a.size ≤ b.size
        · exact fe_inj p1 p2 h1 h2 e hs
        · exact (fe_inj p2 p1 h2 h1 e.symm (by omega)).symm
  have := nodup_le hnd (m := List.range (s.size + 1)) (fun k hk => by
    obtain ⟨x, hx, rfl⟩ := List.mem_map.1 hk
    rw [List.mem_range]
    by_cases h0 : x.size = 0
    · rw [if_pos h0]; omega
    · rw [if_neg h0]
      obtain ⟨_, e, h⟩ := pp_occ hx h0
      have := (fe_spec h).1.2.1
      omega)
  rwa [List.length_map, List.length_range] at this

/-! ### turned -/
theorem turn_turn (s : ByteArray) : turnS (turnS s) = s := by
  refine pl_ext (by rw [turn_size, turn_size]) fun i hi => ?_
  rw [turn_size, turn_size] at hi
  rw [pl_turn _ (by rw [turn_size]; exact hi), turn_size, pl_turn s (by omega)]
  congr 1
  omega
theorem turn_part {s : ByteArray} {j n : Nat} (h : j + n ≤ s.size) : turnS (s.extract j (j + n)) = (turnS s).extract (s.size - j - n) (s.size - j - n + n) := by
  have hz := pz_size s j n h
  have hz2 := pz_size (turnS s) (s.size - j - n) n (by rw [turn_size]; omega)
  refine pl_ext (by rw [turn_size]; omega) fun i hi => ?_
  rw [turn_size, hz] at hi
  rw [pl_turn _ (by omega), hz, pz_list s j n _ (by omega), pz_list _ _ n i hi, pl_turn s (by omega)]
  congr 1
  omega
theorem pp_turn_in {s x : ByteArray} (h : x ∈ ppL s) : x ∈ ppL (turnS s) := by
  rcases (ppL_mem s x).1 h with e | ⟨j, n, h1, h2, h3, e⟩
  · exact (ppL_mem _ x).2 (.inl e)
  · refine (ppL_mem _ x).2 (.inr ⟨s.size - j - n, n, h1, by rw [turn_size]; omega, ?_, ?_⟩)
    · rw [← turn_part h2, h3]; exact h3
    · rw [← turn_part h2, h3]; exact e
theorem pp_turn (s : ByteArray) : ppL (turnS s) = ppL s :=
  asc_ext (ppTo_asc _ _) (ppTo_asc _ _) fun x => ⟨fun h => by have := pp_turn_in h; rwa [turn_turn] at this, pp_turn_in⟩

/-! ### the longest one -/
theorem lp_is (s : ByteArray) : LpAt s (lpD s) (lpI s) ∧ ∀ d i, LpAt s d i → lpD s ≤ d := by
  have h0 : LpAt s s.size 0 := ⟨Nat.zero_le _, Nat.le_refl _, pal_small (by rw [ByteArray.size_extract]; omega)⟩
  obtain ⟨⟨i, hi⟩, m1⟩ := firstP_spec (P := fun d => ∃ i, LpAt s d i) s.size 0 ⟨s.size, Nat.zero_le _, by omega, 0, h0⟩
  have hi' : LpAt s (lpD s) i := hi
  obtain ⟨m2, _⟩ := firstP_spec (P := LpAt s (lpD s)) s.size 0 ⟨i, Nat.zero_le _, by have := hi'.1; have := hi'.2.1; omega, hi'⟩
  exact ⟨m2, fun d i h => m1 d (Nat.zero_le _) ⟨i, h⟩⟩
theorem pp_longest {s x : ByteArray} (h : x ∈ ppL s) : x.size ≤ s.size - lpD s := by
  rcases (ppL_mem s x).1 h with rfl | ⟨j, n, h1, h2, h3, rfl⟩
  · exact Nat.zero_le _
  · have hz := pz_size s j n h2
    have := (lp_is s).2 (s.size - n) j ⟨by omega, by omega, by rw [show s.size - (s.size - n) = n by omega]; exact h3⟩
    omega

/-! ### closing -/
theorem cl_spec (s : ByteArray) : PalS (s.extract (clK s) s.size) ∧ ∀ j, PalS (s.extract j s.size) → clK s ≤ j := by
  obtain ⟨a, b⟩ := firstP_spec (P := fun k => PalS (s.extract k s.size)) s.size 0 ⟨s.size, Nat.zero_le _, by omega, cl_end s⟩
  exact ⟨a, fun j h => b j (Nat.zero_le _) h⟩
theorem cl_get (s : ByteArray) : (∀ i, i < s.size → (clS s).data.toList[i]? = s.data.toList[i]?) ∧ ∀ i, s.size ≤ i → i < s.size + clK s → (clS s).data.toList[i]? = s.data.toList[s.size + clK s - 1 - i]? := by
  have hk := clK_le s
  have hz : (s.extract 0 (clK s)).size = clK s := by rw [ByteArray.size_extract]; omega
  constructor
  · intro i hi
    unfold clS
    rw [ByteArray.data_append, Array.toList_append, List.getElem?_append_left (by rw [pl_len]; exact hi)]
  · intro i h1 h2
    unfold clS
    rw [ByteArray.data_append, Array.toList_append, List.getElem?_append_right (by rw [pl_len]; exact h1), pl_len, pl_turn _ (by omega), hz]
    have := pz_list s 0 (clK s) (clK s - 1 - (i - s.size)) (by omega)
    rw [Nat.zero_add] at this
    rw [this]
    congr 1
    omega
theorem cl_pal (s : ByteArray) : PalS (clS s) := by
  obtain ⟨g1, g2⟩ := cl_get s
  have hk := clK_le s
  have hp : PalS (s.extract (clK s) (clK s + (s.size - clK s))) := by
    rw [Nat.add_sub_cancel' hk]; exact (cl_spec s).1
  rw [pl_at (by omega)] at hp
  rw [pal_get, clS_size]
  generalize clK s = k at *
  intro i hi
  by_cases h1 : i < s.size
  · by_cases h2 : s.size + k - 1 - i < s.size
    · rw [g1 i h1, g1 _ h2]
      have := hp (i - k) (by omega)
      rw [show k + (i - k) = i by omega] at this
      rw [this]
      congr 1
      omega
    · rw [g1 i h1, g2 _ (by omega) (by omega)]
      congr 1
      omega
  · rw [g2 i (by omega) hi, g1 _ (by omega)]
theorem cl_start (s : ByteArray) : s.data.toList <+: (clS s).data.toList := by
  unfold clS
  rw [ByteArray.data_append, Array.toList_append]
  exact List.prefix_append _ _
theorem cl_self (s : ByteArray) : clS s = s ↔ PalS s := by
  constructor
  · intro h
    have := cl_pal s
    rwa [h] at this
  · intro h
    have h0 : clK s = 0 := by
      have := (cl_spec s).2 0 ((pal_whole s).2 h)
      omega
    refine pl_ext (by rw [clS_size, h0]; rfl) fun i hi => ?_
    rw [clS_size, h0] at hi
    exact (cl_get s).1 i hi
theorem cl_short {s : ByteArray} {n : Nat} (h1 : s.size ≤ n) (h2 : n < s.size + clK s) : ¬ PalS ((clS s).extract 0 n) := by
  intro h
  obtain ⟨g1, g2⟩ := cl_get s
  have hz := clS_size s
  have hk := clK_le s
  have hp := (pl_at (s := clS s) (j := 0) (n := n) (by omega)).1 (by rw [Nat.zero_add]; exact h)
  have : PalS (s.extract (n - s.size) (n - s.size + (2 * s.size - n))) := by
    rw [pl_at (by omega)]
    intro i hi
    have := hp (n - s.size + i) (by omega)
    rw [Nat.zero_add, Nat.zero_add, g1 _ (by omega), g1 _ (by omega)] at this
    rw [this]
    congr 1
    omega
  rw [show n - s.size + (2 * s.size - n) = s.size by omega] at this
  have := (cl_spec s).2 _ this
  omega
end Go.Proofs.Ytiglikdanhfhfaa

/- The tree of palindromes: what it is, and what a letter does to it. No program in it. -/
namespace Go.Proofs.Ytiglikdanhfhfaa

/-! ### letters, parts, palindromes -/
def SameAt (c : Nat → Nat) (a b n : Nat) : Prop := ∀ i, i < n → c (a + i) = c (b + i)
def PalAt (c : Nat → Nat) (a n : Nat) : Prop := ∀ i, i < n → c (a + i) = c (a + (n - 1 - i))
theorem sa_refl (c : Nat → Nat) (a n : Nat) : SameAt c a a n := fun _ _ => rfl
theorem sa_symm {c : Nat → Nat} {a b n : Nat} (h : SameAt c a b n) : SameAt c b a n := fun i hi => (h i hi).symm
theorem sa_trans {c : Nat → Nat} {a b d n : Nat} (h : SameAt c a b n) (k : SameAt c b d n) : SameAt c a d n := fun i hi => (h i hi).trans (k i hi)
theorem sa_zero (c : Nat → Nat) (a b : Nat) : SameAt c a b 0 := fun _ hi => absurd hi (by omega)
theorem at_eq (c : Nat → Nat) {a b : Nat} (h : a = b) : c a = c b := congrArg c h
theorem sa_at {c : Nat → Nat} {a b n x y : Nat} (h : SameAt c a b n) (i : Nat) (hi : i < n) (hx : x = a + i) (hy : y = b + i) : c x = c y := by subst hx; subst hy; exact h i hi
/-- a part of two like parts -/
theorem sa_sub {c : Nat → Nat} {a b n x y k : Nat} (h : SameAt c a b n) (d : Nat) (hd : d + k ≤ n) (hx : x = a + d) (hy : y = b + d) : SameAt c x y k := fun i hi => sa_at h (d + i) (by omega) (by omega) (by omega)
theorem pa_zero (c : Nat → Nat) (a : Nat) : PalAt c a 0 := fun _ hi => absurd hi (by omega)
theorem pa_one (c : Nat → Nat) (a : Nat) : PalAt c a 1 := fun i hi => at_eq c (by omega)
theorem pa_at {c : Nat → Nat} {a n x y : Nat} (h : PalAt c a n) (i : Nat) (hi : i < n) (hx : x = a + i) (hy : y = a + (n - 1 - i)) : c x = c y := by subst hx; subst hy; exact h i hi
theorem pa_same {c : Nat → Nat} {a b n : Nat} (h : SameAt c a b n) (k : PalAt c a n) : PalAt c b n := fun i hi => by
  rw [← h i hi, ← h (n - 1 - i) (by omega)]
  exact k i hi
/-- a palindrome at the end of a palindrome stands at its beginning, too -/
theorem pa_border {c : Nat → Nat} {a b m n : Nat} (he : a + m = b + n) (hn : n ≤ m) (hm : PalAt c a m) (hb : PalAt c b n) : SameAt c a b n := fun i hi => by
  rw [hm i (by omega), hb i hi]
  exact at_eq c (by omega)
theorem pa_grow {c : Nat → Nat} {i p : Nat} (hp : p ≤ i) (he : c (i - p) = c i) (h : PalAt c (i + 1 - p) (p - 1)) : PalAt c (i - p) (p + 1) := fun j hj => by
  by_cases h0 : j = 0
  · subst h0
    rw [Nat.add_zero, he]
    exact at_eq c (by omega)
  · by_cases h1 : j = p
    · subst h1
      rw [at_eq c (show i - j + j = i by omega), ← he]
      exact at_eq c (by omega)
    · exact pa_at h (j - 1) (by omega) (by omega) (by omega)
theorem pa_inner {c : Nat → Nat} {i p : Nat} (hp : p ≤ i) (h : PalAt c (i - p) (p + 1)) : c (i - p) = c i ∧ PalAt c (i + 1 - p) (p - 1) :=
  ⟨pa_at h 0 (by omega) (by omega) (by omega), fun j hj => pa_at h (j + 1) (by omega) (by omega) (by omega)⟩

/-! ### the tree -/
/-- nodes 0 .. m (0 the center, 1 the empty one): the block of each, its start, its length and 1, the one that it is linked to as the shorter one, and those that it becomes -/
structure Eer where
  m : Nat
  bl : Nat → Nat
  st : Nat → Nat
  lp : Nat → Nat
  sh : Nat → Nat
  wd : Nat → Nat → Option Nat
structure EerOk (c : Nat → Nat) (i : Nat) (T : Eer) : Prop where
  m1 : 1 ≤ T.m
  lp0 : T.lp 0 = 0
  lp1 : T.lp 1 = 1
  st1 : T.st 1 = 0
  big : ∀ k, 2 ≤ k → k ≤ T.m → 2 ≤ T.lp k
  inn : ∀ k, 1 ≤ k → k ≤ T.m → T.st k + T.lp k ≤ i + 1
  asc : ∀ k k', 1 ≤ k → k < k' → k' ≤ T.m → T.st k + T.lp k < T.st k' + T.lp k'
  pal : ∀ k, 1 ≤ k → k ≤ T.m → PalAt c (T.st k) (T.lp k - 1)
  fst : ∀ k, 1 ≤ k → k ≤ T.m → ∀ a, SameAt c (T.st k) a (T.lp k - 1) → T.st k ≤ a
  shk : ∀ k, 1 ≤ k → k ≤ T.m → T.sh k < k ∧ T.lp (T.sh k) < T.lp k ∧ SameAt c (T.st (T.sh k)) (T.st k + T.lp k - T.lp (T.sh k)) (T.lp (T.sh k) - 1) ∧ ∀ p, T.lp (T.sh k) < p → p < T.lp k → ¬ PalAt c (T.st k + T.lp k - p) (p - 1)
  full : ∀ a n, a + n ≤ i → PalAt c a n → ∃ k, 1 ≤ k ∧ k ≤ T.m ∧ T.lp k = n + 1 ∧ SameAt c (T.st k) a n
  wid : ∀ k x, k ≤ T.m → ∀ j, T.wd k x = some j ↔ (2 ≤ j ∧ j ≤ T.m ∧ T.lp j = T.lp k + 2 ∧ c (T.st j) = x ∧ SameAt c (T.st j + 1) (T.st k) (T.lp k - 1))
/-- node k stands at the end of the first i letters -/
def EndAt (c : Nat → Nat) (i : Nat) (T : Eer) (k : Nat) : Prop := k ≤ T.m ∧ T.lp k ≤ i + 1 ∧ SameAt c (T.st k) (i + 1 - T.lp k) (T.lp k - 1)
/-- node k is the longest one there -/
def CurAt (c : Nat → Nat) (i : Nat) (T : Eer) (k : Nat) : Prop := 1 ≤ k ∧ EndAt c i T k ∧ ∀ p, T.lp k < p → p ≤ i + 1 → ¬ PalAt c (i + 1 - p) (p - 1)
/-- the letter before one of length p - 1 at the end is the next letter -/
def GoodP (c : Nat → Nat) (i p : Nat) : Prop := p ≤ i ∧ c (i - p) = c i
/-- node r stands at the end, and none that is longer, up to node k, has the next letter before it -/
def DownTo (c : Nat → Nat) (i : Nat) (T : Eer) (k r : Nat) : Prop := EndAt c i T r ∧ T.lp r ≤ T.lp k ∧ ∀ p, T.lp r < p → p ≤ T.lp k → PalAt c (i + 1 - p) (p - 1) → ¬ GoodP c i p
theorem good_zero (c : Nat → Nat) (i : Nat) : GoodP c i 0 := ⟨Nat.zero_le _, rfl⟩

theorem EerOk.pos {c i T} (h : EerOk c i T) {k : Nat} (h1 : 1 ≤ k) (h2 : k ≤ T.m) : 1 ≤ T.lp k := by
  by_cases e : k = 1
  · subst e; rw [h.lp1]; omega
  · have := h.big k (by omega) h2; omega
/-- nodes of like letters are one -/
theorem EerOk.inj {c i T} (h : EerOk c i T) {k k' : Nat} (h1 : 1 ≤ k) (h2 : k ≤ T.m) (h1' : 1 ≤ k') (h2' : k' ≤ T.m) (hl : T.lp k = T.lp k') (hs : SameAt c (T.st k) (T.st k') (T.lp k - 1)) : k = k' := by
  have a := h.fst k h1 h2 _ hs
  have b := h.fst k' h1' h2' _ (by rw [← hl]; exact sa_symm hs)
  rcases Nat.lt_trichotomy k k' with x | x | x
  · have := h.asc k k' h1 x h2'; omega
  · exact x
  · have := h.asc k' k h1' x h2; omega
theorem down_self {c i T k} (h : EndAt c i T k) : DownTo c i T k k := ⟨h, Nat.le_refl _, fun p a b => absurd a (by omega)⟩
theorem EndAt.pal {c i T k} (h : EerOk c i T) (e : EndAt c i T k) : PalAt c (i + 1 - T.lp k) (T.lp k - 1) := by
  by_cases h0 : k = 0
  · subst h0; rw [h.lp0]; exact pa_zero _ _
  · exact pa_same e.2.2 (h.pal k (by omega) e.1)
/-- the shorter one stands at the end, too -/
theorem EndAt.shorter {c i T k} (h : EerOk c i T) (e : EndAt c i T k) (h1 : 1 ≤ k) : EndAt c i T (T.sh k) := by
  obtain ⟨a1, a2, a3, _⟩ := h.shk k h1 e.1
  refine ⟨by have := e.1; omega, by have := e.2.1; omega, ?_⟩
  by_cases h0 : T.lp (T.sh k) = 0
  · rw [h0]; exact sa_zero _ _ _
  · refine sa_trans a3 (sa_sub e.2.2 (T.lp k - T.lp (T.sh k)) (by omega) (by omega) ?_)
    have := e.2.1
    omega
theorem down_step {c i T k q} (h : EerOk c i T) (d : DownTo c i T k q) (hg : ¬ GoodP c i (T.lp q)) : 1 ≤ q ∧ T.sh q < q ∧ DownTo c i T k (T.sh q) := by
  have hq : 1 ≤ q := by
    rcases Nat.eq_zero_or_pos q with e | e
    · subst e; rw [h.lp0] at hg; exact absurd (good_zero c i) hg
    · exact e
  obtain ⟨a1, a2, a3, a4⟩ := h.shk q hq d.1.1
  refine ⟨hq, a1, d.1.shorter h hq, by have := d.2.1; omega, fun p p1 p2 pp => ?_⟩
  rcases Nat.lt_trichotomy p (T.lp q) with x | x | x
  · exfalso
    refine a4 p p1 x (pa_same (sa_symm (sa_sub d.1.2.2 (T.lp q - p) (by omega) (by omega) ?_)) pp)
    have := d.1.2.1
    omega
  · rw [x]; exact hg
  · exact d.2.2 p x p2 pp

/-! ### what a letter does -/
/-- all that ends with the next letter is no longer than the one found and its two letters -/
theorem next_longest {c i T L r} (hL : CurAt c i T L) (d : DownTo c i T L r) (p : Nat) (h1 : T.lp r + 2 < p) (h2 : p ≤ i + 2) : ¬ PalAt c (i + 2 - p) (p - 1) := fun hp => by
  obtain ⟨q, rfl⟩ : ∃ q, p = q + 2 := ⟨p - 2, by omega⟩
  have hq : q ≤ i := by omega
  obtain ⟨b1, b2⟩ := pa_inner (c := c) hq (by rw [show i + 2 - (q + 2) = i - q from by omega] at hp; exact hp)
  by_cases hL2 : q ≤ T.lp L
  · exact d.2.2 q (by omega) hL2 b2 ⟨hq, b1⟩
  · exact hL.2.2 q (by omega) (by omega) b2
/-- all palindromes that end with the next letter are known, but for the longest one -/
theorem full_next {c i T} (h : EerOk c i T) {b n : Nat} (hn : b + n = i + 1) (hp : PalAt c b n) {a m : Nat} (ha : a + m = i + 1) (hm : m < n) (hq : PalAt c a m) : ∃ k, 1 ≤ k ∧ k ≤ T.m ∧ T.lp k = m + 1 ∧ SameAt c (T.st k) a m := by
  have e := pa_border (c := c) (a := b) (b := a) (m := n) (n := m) (by omega) (by omega) hp hq
  obtain ⟨k, k1, k2, k3, k4⟩ := h.full b m (by omega) (pa_same (sa_symm e) hq)
  exact ⟨k, k1, k2, k3, sa_trans k4 e⟩
/-- the node that one becomes with the next letter on both sides stands at the end -/
theorem wid_end {c i T r j} (h : EerOk c i T) (e : EndAt c i T r) (hg : GoodP c i (T.lp r)) (hj : T.wd r (c i) = some j) : 2 ≤ j ∧ j ≤ T.m ∧ T.lp j = T.lp r + 2 ∧ SameAt c (T.st j) (i - T.lp r) (T.lp r + 1) ∧ T.st j + T.lp r + 1 ≤ i := by
  obtain ⟨j1, j2, j3, j4, j5⟩ := (h.wid r (c i) e.1 j).1 hj
  have jp := h.pal j (by omega) j2
  rw [j3] at jp
  have j6 := h.inn j (by omega) j2
  rw [j3] at j6
  have g1 := hg.1
  refine ⟨j1, j2, j3, fun t ht => ?_, by omega⟩
  by_cases h0 : t = 0
  · subst h0
    rw [Nat.add_zero, Nat.add_zero, j4, hg.2]
  · by_cases h1 : t = T.lp r
    · rw [pa_at jp t (by omega) rfl rfl, at_eq c (show T.st j + (T.lp r + 2 - 1 - 1 - t) = T.st j by omega), j4]
      exact at_eq c (by omega)
    · rw [sa_at j5 (t - 1) (by omega) (show T.st j + t = _ by omega) rfl]
      exact sa_at e.2.2 (t - 1) (by omega) rfl (by omega)
theorem EerOk.mono {c i T} (h : EerOk c i T) (hf : ∀ a n, a + n ≤ i + 1 → PalAt c a n → ∃ k, 1 ≤ k ∧ k ≤ T.m ∧ T.lp k = n + 1 ∧ SameAt c (T.st k) a n) : EerOk c (i + 1) T :=
  { h with inn := fun k a b => by have := h.inn k a b; omega, full := hf }
/-- the longest one that ends with the next letter is known -/
theorem eer_old {c i T L r j} (h : EerOk c i T) (hL : CurAt c i T L) (d : DownTo c i T L r) (hg : GoodP c i (T.lp r)) (hj : T.wd r (c i) = some j) : EerOk c (i + 1) T ∧ CurAt c (i + 1) T j := by
  obtain ⟨j1, j2, j3, j4, j5⟩ := wid_end h d.1 hg hj
  have g1 := hg.1
  have hcur : CurAt c (i + 1) T j := by
    refine ⟨by omega, ⟨j2, by omega, ?_⟩, fun p p1 p2 => next_longest hL d p (by omega) p2⟩
    rw [j3]
    have e1 : i + 1 + 1 - (T.lp r + 2) = i - T.lp r := by omega
    rw [e1]
    exact j4
  refine ⟨h.mono fun a n hn hp => ?_, hcur⟩
  by_cases hi : a + n ≤ i
  · exact h.full a n hi hp
  · have hpal := pa_same j4 (by have := h.pal j (by omega) j2; rw [j3] at this; exact this)
    rcases Nat.lt_trichotomy n (T.lp r + 1) with x | x | x
    · exact full_next h (b := i - T.lp r) (n := T.lp r + 1) (by omega) hpal (by omega) x hp
    · subst x
      exact ⟨j, by omega, j2, by omega, by rw [show a = i - T.lp r by omega]; exact j4⟩
    · exfalso
      refine next_longest hL d (n + 1) (by omega) (by omega) ?_
      rw [show i + 2 - (n + 1) = a by omega]
      exact hp
/-- what the next letter makes is new -/
theorem new_first {c i T r} (h : EerOk c i T) (e : EndAt c i T r) (hg : GoodP c i (T.lp r)) (hn : T.wd r (c i) = none) (a : Nat) (ha : SameAt c (i - T.lp r) a (T.lp r + 1)) : i - T.lp r ≤ a := by
  by_cases hlt : i - T.lp r ≤ a
  · exact hlt
  · exfalso
    have g1 := hg.1
    have hp := pa_grow hg.1 hg.2 (e.pal h)
    obtain ⟨k, k1, k2, k3, k4⟩ := h.full a (T.lp r + 1) (by omega) (pa_same ha hp)
    have k5 := sa_trans k4 (sa_symm ha)
    have : T.wd r (c i) = some k := (h.wid r (c i) e.1 k).2 ⟨by
      by_cases hk : k = 1
      · subst hk; rw [h.lp1] at k3; omega
      · omega, k2, by omega, by rw [sa_at k5 0 (by omega) (by omega) rfl]; exact hg.2, fun t ht => by
      rw [sa_at k5 (t + 1) (by omega) (by omega) rfl]
      exact (sa_at e.2.2 t (by omega) rfl (by omega)).symm⟩
    rw [hn] at this
    cases this
/-- the one with which the new one ends is known -/
theorem new_shorter {c i T r r'} (h : EerOk c i T) (h1 : 1 ≤ r) (e : EndAt c i T r) (hg : GoodP c i (T.lp r)) (d : DownTo c i T (T.sh r) r') (hg' : GoodP c i (T.lp r')) : ∃ j, T.wd r' (c i) = some j := by
  obtain ⟨a1, a2, a3, a4⟩ := h.shk r h1 e.1
  have g1 := hg.1
  have d2 := d.2.1
  have hp := pa_grow hg.1 hg.2 (e.pal h)
  have hp' := pa_grow hg'.1 hg'.2 (d.1.pal h)
  have hb := pa_border (c := c) (a := i - T.lp r) (b := i - T.lp r') (m := T.lp r + 1) (n := T.lp r' + 1) (by omega) (by omega) hp hp'
  obtain ⟨k, k1, k2, k3, k4⟩ := h.full (i - T.lp r) (T.lp r' + 1) (by omega) (pa_same (sa_symm hb) hp')
  have k5 := sa_trans k4 hb
  refine ⟨k, (h.wid r' (c i) d.1.1 k).2 ⟨?_, k2, by omega, ?_, fun t ht => ?_⟩⟩
  · by_cases hk : k = 1
    · subst hk; rw [h.lp1] at k3; omega
    · omega
  · rw [sa_at k5 0 (by omega) (by omega) rfl]; exact hg'.2
  · rw [sa_at k5 (t + 1) (by omega) (by omega) rfl]
    exact (sa_at d.1.2.2 t (by omega) rfl (by omega)).symm
/-- the tree with a new node -/
def Eer.more (T : Eer) (b s l j r x : Nat) : Eer where
  m := T.m + 1
  bl k := if k = T.m + 1 then b else T.bl k
  st k := if k = T.m + 1 then s else T.st k
  lp k := if k = T.m + 1 then l else T.lp k
  sh k := if k = T.m + 1 then j else T.sh k
  wd k y := if k = T.m + 1 then none else if k = r ∧ y = x then some (T.m + 1) else T.wd k y
theorem more_st {T : Eer} {b s l j r x k : Nat} (h : k ≤ T.m) : (T.more b s l j r x).st k = T.st k := if_neg (by omega)
theorem more_lp {T : Eer} {b s l j r x k : Nat} (h : k ≤ T.m) : (T.more b s l j r x).lp k = T.lp k := if_neg (by omega)
theorem more_sh {T : Eer} {b s l j r x k : Nat} (h : k ≤ T.m) : (T.more b s l j r x).sh k = T.sh k := if_neg (by omega)
theorem more_bl {T : Eer} {b s l j r x k : Nat} (h : k ≤ T.m) : (T.more b s l j r x).bl k = T.bl k := if_neg (by omega)
theorem more_st1 {T : Eer} {b s l j r x : Nat} : (T.more b s l j r x).st (T.m + 1) = s := if_pos rfl
theorem more_lp1 {T : Eer} {b s l j r x : Nat} : (T.more b s l j r x).lp (T.m + 1) = l := if_pos rfl
theorem more_sh1 {T : Eer} {b s l j r x : Nat} : (T.more b s l j r x).sh (T.m + 1) = j := if_pos rfl
theorem more_bl1 {T : Eer} {b s l j r x : Nat} : (T.more b s l j r x).bl (T.m + 1) = b := if_pos rfl
theorem more_wd1 {T : Eer} {b s l j r x y : Nat} : (T.more b s l j r x).wd (T.m + 1) y = none := if_pos rfl
theorem more_wd {T : Eer} {b s l j r x k y : Nat} (h : k ≤ T.m) : (T.more b s l j r x).wd k y = if k = r ∧ y = x then some (T.m + 1) else T.wd k y := if_neg (by omega)

/-- what a new node is to be linked to -/
def LinkOk (c : Nat → Nat) (i : Nat) (T : Eer) (r j : Nat) : Prop := (r = 0 ∧ j = 1) ∨ (1 ≤ r ∧ ∃ r', DownTo c i T (T.sh r) r' ∧ GoodP c i (T.lp r') ∧ T.wd r' (c i) = some j)
theorem link_sh {c i T r j} (h : EerOk c i T) (e : EndAt c i T r) (hg : GoodP c i (T.lp r)) (hj : LinkOk c i T r j) : 1 ≤ j ∧ j ≤ T.m ∧ T.lp j < T.lp r + 2 ∧ SameAt c (T.st j) (i + 2 - T.lp j) (T.lp j - 1) ∧ ∀ p, T.lp j < p → p < T.lp r + 2 → ¬ PalAt c (i + 2 - p) (p - 1) := by
  rcases hj with ⟨rfl, rfl⟩ | ⟨h1, r', d, g', hw⟩
  · rw [h.lp0, h.lp1]
    exact ⟨Nat.le_refl _, h.m1, by omega, sa_zero _ _ _, fun p a b => by omega⟩
  · obtain ⟨j1, j2, j3, j4, j5⟩ := wid_end h d.1 g' hw
    obtain ⟨a1, a2, a3, a4⟩ := h.shk r h1 e.1
    have d2 := d.2.1
    have g1 := hg.1
    refine ⟨by omega, j2, by omega, ?_, fun p p1 p2 hp => ?_⟩
    · rw [j3]
      exact sa_sub j4 0 (by omega) (by omega) (by omega)
    · obtain ⟨q, rfl⟩ : ∃ q, p = q + 2 := ⟨p - 2, by omega⟩
      obtain ⟨b1, b2⟩ := pa_inner (c := c) (i := i) (p := q) (by omega) (by rw [show i + 2 - (q + 2) = i - q from by omega] at hp; exact hp)
      by_cases hq : q ≤ T.lp (T.sh r)
      · exact d.2.2 q (by omega) hq b2 ⟨by omega, b1⟩
      · refine a4 q (by omega) (by omega) (pa_same (sa_symm (sa_sub e.2.2 (T.lp r - q) (by omega) (by omega) ?_)) b2)
        have := e.2.1
        omega
/-- the longest one that ends with the next letter is new -/
theorem eer_new {c i T L r j} (b : Nat) (h : EerOk c i T) (hL : CurAt c i T L) (d : DownTo c i T L r) (hg : GoodP c i (T.lp r)) (hn : T.wd r (c i) = none) (hj : LinkOk c i T r j) :
    EerOk c (i + 1) (T.more b (i - T.lp r) (T.lp r + 2) j r (c i)) ∧ CurAt c (i + 1) (T.more b (i - T.lp r) (T.lp r + 2) j r (c i)) (T.m + 1) := by
  have hfirst := new_first h d.1 hg hn
  obtain ⟨l1, l2, l3, l4, l5⟩ := link_sh h d.1 hg hj
  have hpal := pa_grow hg.1 hg.2 (d.1.pal h)
  have g1 := hg.1
  have hr := d.1.1
  have hm := h.m1
  have hlong := next_longest hL d
  generalize hT' : T.more b (i - T.lp r) (T.lp r + 2) j r (c i) = T'
  have em : T'.m = T.m + 1 := by rw [← hT']; rfl
  have est : ∀ k, k ≤ T.m → T'.st k = T.st k := fun k hk => by rw [← hT']; exact more_st hk
  have elp : ∀ k, k ≤ T.m → T'.lp k = T.lp k := fun k hk => by rw [← hT']; exact more_lp hk
  have esh : ∀ k, k ≤ T.m → T'.sh k = T.sh k := fun k hk => by rw [← hT']; exact more_sh hk
  have ewd : ∀ k y, k ≤ T.m → T'.wd k y = if k = r ∧ y = c i then some (T.m + 1) else T.wd k y := fun k y hk => by rw [← hT']; exact more_wd hk
  have nst : T'.st (T.m + 1) = i - T.lp r := by rw [← hT']; exact more_st1
  have nlp : T'.lp (T.m + 1) = T.lp r + 2 := by rw [← hT']; exact more_lp1
  have nsh : T'.sh (T.m + 1) = j := by rw [← hT']; exact more_sh1
  have nwd : ∀ y, T'.wd (T.m + 1) y = none := fun y => by rw [← hT']; exact more_wd1
  clear hT'
  have two : ∀ {k}, k ≤ T'.m → k = T.m + 1 ∨ k ≤ T.m := fun {k} hk => by omega
  refine ⟨{ m1 := by omega, lp0 := by rw [elp 0 (by omega), h.lp0], lp1 := by rw [elp 1 hm, h.lp1], st1 := by rw [est 1 hm, h.st1], big := ?_, inn := ?_, asc := ?_, pal := ?_, fst := ?_, shk := ?_, full := ?_, wid := ?_ }, ⟨by omega, ⟨by omega, by omega, ?_⟩, ?_⟩⟩
  · intro k k1 k2
    rcases two k2 with rfl | k3
    · omega
    · rw [elp k k3]; exact h.big k k1 k3
  · intro k k1 k2
    rcases two k2 with rfl | k3
    · omega
    · rw [elp k k3, est k k3]; have := h.inn k k1 k3; omega
  · intro k k' k1 k2 k3
    rcases two k3 with rfl | k4
    · rw [nst, nlp, elp k (by omega), est k (by omega)]
      have := h.inn k k1 (by omega)
      omega
    · rw [elp k (by omega), est k (by omega), elp k' k4, est k' k4]
      exact h.asc k k' k1 k2 k4
  · intro k k1 k2
    rcases two k2 with rfl | k3
    · rw [nst, nlp]; exact hpal
    · rw [elp k k3, est k k3]; exact h.pal k k1 k3
  · intro k k1 k2 a ha
    rcases two k2 with rfl | k3
    · rw [nst, nlp] at ha; rw [nst]; exact hfirst a ha
    · rw [elp k k3, est k k3] at ha; rw [est k k3]; exact h.fst k k1 k3 a ha
  · intro k k1 k2
    rcases two k2 with rfl | k3
    · rw [nsh, nst, nlp, elp j l2, est j l2]
      refine ⟨by omega, by omega, ?_, fun p p1 p2 => ?_⟩
      · rw [show i - T.lp r + (T.lp r + 2) - T.lp j = i + 2 - T.lp j by omega]
        exact l4
      · rw [show i - T.lp r + (T.lp r + 2) - p = i + 2 - p by omega]
        exact l5 p p1 p2
    · obtain ⟨a1, a2⟩ := h.shk k k1 k3
      rw [esh k k3, elp k k3, est k k3, elp _ (by omega), est _ (by omega)]
      exact ⟨a1, a2⟩
  · intro a n han hp
    have old : (∃ k, 1 ≤ k ∧ k ≤ T.m ∧ T.lp k = n + 1 ∧ SameAt c (T.st k) a n) → ∃ k, 1 ≤ k ∧ k ≤ T'.m ∧ T'.lp k = n + 1 ∧ SameAt c (T'.st k) a n := fun ⟨k, k1, k2, k3, k4⟩ => ⟨k, k1, by omega, by rw [elp k k2]; exact k3, by rw [est k k2]; exact k4⟩
    by_cases hi : a + n ≤ i
    · exact old (h.full a n hi hp)
    · rcases Nat.lt_trichotomy n (T.lp r + 1) with x | x | x
      · exact old (full_next h (b := i - T.lp r) (n := T.lp r + 1) (by omega) hpal (by omega) x hp)
      · subst x
        exact ⟨T.m + 1, by omega, by omega, by omega, by rw [nst, show a = i - T.lp r by omega]; exact sa_refl _ _ _⟩
      · exfalso
        refine hlong (n + 1) (by omega) (by omega) ?_
        rw [show i + 2 - (n + 1) = a by omega]
        exact hp
  · intro k x k2 jj
    rcases two k2 with rfl | k3
    · rw [nwd, nlp, nst]
      constructor
      · intro e; cases e
      · rintro ⟨j1, j2, j3, j4, j5⟩
        exfalso
        rcases two j2 with rfl | j6
        · omega
        · rw [elp jj j6] at j3
          rw [est jj j6] at j5
          have i1 := h.inn jj (by omega) j6
          have := hfirst (T.st jj + 1) (sa_symm (sa_sub j5 0 (by omega) (by omega) (by omega)))
          omega
    · rw [ewd k x k3, elp k k3, est k k3]
      by_cases hkx : k = r ∧ x = c i
      · obtain ⟨rfl, rfl⟩ := hkx
        rw [if_pos ⟨rfl, rfl⟩]
        constructor
        · intro e
          injection e with e
          subst e
          refine ⟨by omega, by omega, nlp, by rw [nst]; exact hg.2, ?_⟩
          rw [nst]
          exact sa_symm (sa_sub d.1.2.2 0 (by omega) (by omega) (by omega))
        · rintro ⟨j1, j2, j3, j4, j5⟩
          rcases two j2 with rfl | j6
          · rfl
          · exfalso
            rw [elp jj j6] at j3
            rw [est jj j6] at j4 j5
            have := (h.wid k (c i) hr jj).2 ⟨j1, j6, j3, j4, j5⟩
            rw [hn] at this
            cases this
      · rw [if_neg hkx, h.wid k x k3 jj]
        constructor
        · rintro ⟨j1, j2, j3, j4, j5⟩
          exact ⟨j1, by omega, by rw [elp jj j2]; exact j3, by rw [est jj j2]; exact j4, by rw [est jj j2]; exact j5⟩
        · rintro ⟨j1, j2, j3, j4, j5⟩
          rcases two j2 with rfl | j6
          · exfalso
            rw [nlp] at j3
            rw [nst] at j4 j5
            refine hkx ⟨?_, by rw [← j4]; exact hg.2.symm ▸ rfl⟩
            by_cases hk0 : k = 0
            · subst hk0
              rw [h.lp0] at j3
              by_cases hr0 : r = 0
              · exact hr0.symm
              · have := h.pos (by omega) hr; omega
            · by_cases hr0 : r = 0
              · subst hr0
                rw [h.lp0] at j3
                have := h.pos (by omega) k3; omega
              · refine h.inj (by omega) k3 (by omega) hr (by omega) (sa_trans (sa_symm j5) (sa_symm ?_))
                have := sa_sub d.1.2.2 0 (k := T.lp k - 1) (x := T.st r) (y := i - T.lp r + 1) (by omega) (by omega) (by omega)
                exact this
          · rw [elp jj j6] at j3
            rw [est jj j6] at j4 j5
            exact ⟨j1, j6, j3, j4, j5⟩
  · rw [nst, nlp, show i + 1 + 1 - (T.lp r + 2) = i - T.lp r by omega]
    exact sa_refl _ _ _
  · intro p p1 p2
    rw [nlp] at p1
    exact hlong p p1 p2
/-- the tree of no letter -/
def eer0 (b : Nat) : Eer where
  m := 1
  bl k := b + k
  st _ := 0
  lp k := k
  sh _ := 0
  wd _ _ := none
theorem eer_start (c : Nat → Nat) (b : Nat) : EerOk c 0 (eer0 b) ∧ CurAt c 0 (eer0 b) 1 := by
  refine ⟨{ m1 := Nat.le_refl _, lp0 := rfl, lp1 := rfl, st1 := rfl, big := fun k a b => absurd b (by show ¬ k ≤ 1; omega), inn := fun k a b => ?_, asc := fun k k' a b d => absurd d (by show ¬ k' ≤ 1; omega), pal := fun k a b => ?_, fst := fun k a b p _ => Nat.zero_le _, shk := fun k a b => ?_, full := fun a n hn _ => ?_, wid := fun k x a j => ?_ }, Nat.le_refl _, ⟨Nat.le_refl _, Nat.le_refl _, sa_zero _ _ _⟩, fun p p1 p2 => ?_⟩
  · have : k ≤ 1 := b
    show 0 + k ≤ 1
    omega
  · have : k ≤ 1 := b
    have : k = 1 := by omega
    subst this
    exact pa_zero _ _
  · have : k ≤ 1 := b
    have : k = 1 := by omega
    subst this
    exact ⟨Nat.zero_lt_one, Nat.zero_lt_one, sa_zero _ _ _, fun p a b => absurd b (by have : 0 < p := a; show ¬ p < 1; omega)⟩
  · have : a = 0 ∧ n = 0 := by omega
    obtain ⟨rfl, rfl⟩ := this
    exact ⟨1, Nat.le_refl _, Nat.le_refl _, rfl, sa_zero _ _ _⟩
  · constructor
    · intro e; cases e
    · rintro ⟨j1, j2, _⟩
      have : j ≤ 1 := j2
      omega
  · have : 1 < p := p1
    omega
end Go.Proofs.Ytiglikdanhfhfaa

/- The tree of palindromes in memory: a block of seven cells a node. -/
namespace Go.Proofs.Ytiglikdanhfhfaa
open Go.RowKit

abbrev tPal : TypeId := 52
/-- the letters of a text as numbers -/
def bt (s : ByteArray) (i : Nat) : Nat := ((s.data.toList[i]?).getD 0).toNat
def Eer.opt (T : Eer) : Option Nat → Value
  | none => .pointer none
  | some j => .pointer (some ⟨T.bl j, 0, none⟩)
/-- what lies in cell o of node k -/
def Eer.cell (T : Eer) (k : Nat) : Nat → Value
  | 0 => .int .i64 (T.st k : Int)
  | 1 => .int .i64 ((T.lp k : Int) - 1)
  | 2 => if k = 0 then .pointer none else .pointer (some ⟨T.bl (T.sh k), 0, none⟩)
  | o + 3 => T.opt (T.wd k (97 + o))
def Lies (w : World) (B : Nat) (T : Eer) : Prop := (∀ k, k ≤ T.m → B ≤ T.bl k ∧ w.rowIs (T.bl k) tPal 7 (T.cell k)) ∧ ∀ k k', k ≤ T.m → k' ≤ T.m → T.bl k = T.bl k' → k = k'
theorem Lies.lt {w : World} {B : Nat} {T : Eer} (h : Lies w B T) {k : Nat} (hk : k ≤ T.m) : T.bl k < w.heap.size := (h.1 k hk).2.lt
theorem Lies.at {w : World} {B : Nat} {T : Eer} (h : Lies w B T) {k : Nat} (hk : k ≤ T.m) (o : Nat) (ho : o < 7) : w.cell? ⟨T.bl k, o, none⟩ = some (T.cell k o) := (h.1 k hk).2.cell ho
theorem Lies.start {w : World} {B : Nat} {T : Eer} (h : Lies w B T) {k : Nat} (hk : k ≤ T.m) : w.cell? ⟨T.bl k, 0, none⟩ = some (.int .i64 (T.st k : Int)) := h.at hk 0 (by omega)
theorem Lies.length {w : World} {B : Nat} {T : Eer} (h : Lies w B T) {k : Nat} (hk : k ≤ T.m) : w.cell? ⟨T.bl k, 1, none⟩ = some (.int .i64 ((T.lp k : Int) - 1)) := h.at hk 1 (by omega)
theorem Lies.shorter {w : World} {B : Nat} {T : Eer} (h : Lies w B T) {k : Nat} (hk : k ≤ T.m) (h1 : 1 ≤ k) : w.cell? ⟨T.bl k, 2, none⟩ = some (.pointer (some ⟨T.bl (T.sh k), 0, none⟩)) := by
  rw [h.at hk 2 (by omega)]
  show some (if k = 0 then Value.pointer none else Value.pointer (some ⟨T.bl (T.sh k), 0, none⟩)) = _
  rw [if_neg (by omega)]
theorem Lies.wider {w : World} {B : Nat} {T : Eer} (h : Lies w B T) {k : Nat} (hk : k ≤ T.m) (o : Nat) (ho : o < 4) : w.cell? ⟨T.bl k, 3 + o, none⟩ = some (T.opt (T.wd k (97 + o))) := by
  rw [h.at hk (3 + o) (by omega), show 3 + o = o + 3 from by omega]
  rfl
theorem Lies.free {w : World} {B : Nat} {T : Eer} (h : Lies w B T) {k : Nat} (hk : k ≤ T.m) (o : Nat) : w.frozen? ⟨T.bl k, o, none⟩ = false := (h.1 k hk).2.frozen o
theorem Lies.below {w w' : World} {B : Nat} {T : Eer} (h : Lies w B T) (hb : Below w.heap.size w w') : Lies w' B T := ⟨fun k hk => ⟨(h.1 k hk).1, (h.1 k hk).2.of_block (hb.block _ (h.lt hk))⟩, h.2⟩
theorem Lies.alloc {w : World} {B : Nat} {T : Eer} (h : Lies w B T) (o : Obj) : Lies (w.alloc o) B T := ⟨fun k hk => ⟨(h.1 k hk).1, (h.1 k hk).2.alloc o⟩, h.2⟩
theorem Lies.setOther {w : World} {B : Nat} {T : Eer} (h : Lies w B T) {a : Addr} (ha : ∀ k, k ≤ T.m → T.bl k ≠ a.block) (v : Value) : Lies (w.setCell a v) B T := ⟨fun k hk => ⟨(h.1 k hk).1, (h.1 k hk).2.setOther (ha k hk) v⟩, h.2⟩
theorem Lies.grown {w w' : World} {B : Nat} {T : Eer} {row : Option Nat} (h : Lies w B T) (hg : w.grownBy w' row) (hne : ∀ k, k ≤ T.m → row ≠ some (T.bl k)) : Lies w' B T :=
  ⟨fun k hk => ⟨(h.1 k hk).1, (h.1 k hk).2.of_block (hg.block _ (h.lt hk) fun e => hne k hk e.symm)⟩, h.2⟩
/-- a row of another type is none of the nodes -/
theorem Lies.apart {w : World} {B B' : Nat} {T : Eer} (h : Lies w B T) {e : TypeId} {v : Value} {n : Nat} {xs : List Value} (hv : w.ownsRow B' e 1 v n xs) (he : e ≠ tPal) (k : Nat) (hk : k ≤ T.m) : v.ownBlock ≠ some (T.bl k) := by
  obtain ⟨c, hc, _⟩ := (h.1 k hk).2
  rcases hv.2 with ⟨rfl, _⟩ | ⟨g, cap, cur, rfl, _, hg, _⟩
  · intro h'; cases h'
  · intro h'
    injection h' with h'
    subst h'
    rw [hc] at hg
    injection hg with hg
    injection hg with _ e2
    exact he e2.symm
/-- a new node, as the tree is to know it -/
theorem lies_more {w : World} {B : Nat} {T : Eer} {c : Nat → Nat} {i : Nat} (hok : EerOk c i T) (h : Lies w B T) {b s l j r x : Nat} {f : Nat → Value} (hn : w.rowIs b tPal 7 f) (hb : B ≤ b) (hne : ∀ k, k ≤ T.m → T.bl k ≠ b)
    (h0 : f 0 = .int .i64 (s : Int)) (h1 : f 1 = .int .i64 ((l : Int) - 1)) (h2 : f 2 = .pointer (some ⟨T.bl j, 0, none⟩)) (h3 : ∀ o, o < 4 → f (3 + o) = .pointer none) (hr : r ≤ T.m) (hj : j ≤ T.m) (o : Nat) (hx : x = 97 + o) :
    Lies (w.setCell ⟨T.bl r, 3 + o, none⟩ (.pointer (some ⟨b, 0, none⟩))) B (T.more b s l j r x) := by
  have em : (T.more b s l j r x).m = T.m + 1 := rfl
  have hopt : ∀ k y, k ≤ T.m → (T.more b s l j r x).opt (T.wd k y) = T.opt (T.wd k y) := fun k y hk => by
    cases e : T.wd k y with
    | none => rfl
    | some jj =>
      show Value.pointer (some ⟨(T.more b s l j r x).bl jj, 0, none⟩) = .pointer (some ⟨T.bl jj, 0, none⟩)
      rw [more_bl ((hok.wid k y hk jj).1 e).2.1]
  refine ⟨fun k hk => ?_, fun k k' hk hk' e => ?_⟩
  · by_cases hk1 : k = T.m + 1
    · subst hk1
      rw [more_bl1]
      refine ⟨hb, (hn.setOther (a := ⟨T.bl r, 3 + o, none⟩) (fun e => hne r hr e.symm) _).congr fun q hq => ?_⟩
      match q, hq with
      | 0, _ => rw [h0]; show _ = Value.int .i64 ((T.more b s l j r x).st (T.m + 1) : Int); rw [more_st1]
      | 1, _ => rw [h1]; show _ = Value.int .i64 (((T.more b s l j r x).lp (T.m + 1) : Int) - 1); rw [more_lp1]
      | 2, _ =>
        rw [h2]
        show _ = if T.m + 1 = 0 then Value.pointer none else Value.pointer (some ⟨(T.more b s l j r x).bl ((T.more b s l j r x).sh (T.m + 1)), 0, none⟩)
        rw [if_neg (by omega), more_sh1, more_bl hj]
      | q + 3, hq =>
        rw [show q + 3 = 3 + q from by omega, h3 q (by omega), show 3 + q = q + 3 from by omega]
        show _ = (T.more b s l j r x).opt ((T.more b s l j r x).wd (T.m + 1) (97 + q))
        rw [more_wd1]
        rfl
    · have hk2 : k ≤ T.m := by rw [em] at hk; omega
      rw [more_bl hk2]
      refine ⟨(h.1 k hk2).1, ?_⟩
      have same : ∀ q, q < 7 → ¬ (k = r ∧ q = 3 + o) → T.cell k q = (T.more b s l j r x).cell k q := fun q hq hnq => by
        match q, hq with
        | 0, _ => show Value.int .i64 (T.st k : Int) = .int .i64 ((T.more b s l j r x).st k : Int); rw [more_st hk2]
        | 1, _ => show Value.int .i64 ((T.lp k : Int) - 1) = .int .i64 (((T.more b s l j r x).lp k : Int) - 1); rw [more_lp hk2]
        | 2, _ =>
          show (if k = 0 then Value.pointer none else Value.pointer (some ⟨T.bl (T.sh k), 0, none⟩)) = if k = 0 then Value.pointer none else Value.pointer (some ⟨(T.more b s l j r x).bl ((T.more b s l j r x).sh k), 0, none⟩)
          by_cases hk0 : k = 0
          · rw [if_pos hk0, if_pos hk0]
          · rw [if_neg hk0, if_neg hk0, more_sh hk2, more_bl (by have := (hok.shk k (by omega) hk2).1; omega)]
        | q + 3, hq =>
          show T.opt (T.wd k (97 + q)) = (T.more b s l j r x).opt ((T.more b s l j r x).wd k (97 + q))
          rw [more_wd hk2, if_neg (fun e => hnq ⟨e.1, by omega⟩), hopt k _ hk2]
      by_cases hkr : k = r
      · subst hkr
        refine ((h.1 k hk2).2.set (3 + o) _).congr fun q hq => ?_
        by_cases hq2 : q = 3 + o
        · subst hq2
          rw [if_pos rfl, show 3 + o = o + 3 from by omega]
          show _ = (T.more b s l j k x).opt ((T.more b s l j k x).wd k (97 + o))
          rw [more_wd hk2, if_pos ⟨rfl, hx.symm⟩]
          show _ = Value.pointer (some ⟨(T.more b s l j k x).bl (T.m + 1), 0, none⟩)
          rw [more_bl1]
        · rw [if_neg hq2]
          exact same q hq (fun e => hq2 e.2)
      · refine ((h.1 k hk2).2.setOther (fun e => hkr (h.2 k r hk2 hr e)) _).congr fun q hq => same q hq (fun e => hkr e.1)
  · by_cases hk1 : k = T.m + 1
    · by_cases hk2 : k' = T.m + 1
      · omega
      · have hk3 : k' ≤ T.m := by rw [em] at hk'; omega
        subst hk1
        rw [more_bl1, more_bl hk3] at e
        exact absurd e.symm (hne k' hk3)
    · have hk3 : k ≤ T.m := by rw [em] at hk; omega
      by_cases hk2 : k' = T.m + 1
      · subst hk2
        rw [more_bl1, more_bl hk3] at e
        exact absurd e (hne k hk3)
      · have hk4 : k' ≤ T.m := by rw [em] at hk'; omega
        rw [more_bl hk3, more_bl hk4] at e
        exact h.2 k k' hk3 hk4 e
end Go.Proofs.Ytiglikdanhfhfaa
