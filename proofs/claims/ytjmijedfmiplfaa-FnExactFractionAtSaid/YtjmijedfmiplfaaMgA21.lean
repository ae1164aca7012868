/- Texts put together. -/
import Derived.Test.YtjmijedfmiplfaaMgA7
import Derived.Test.YtjmijedfmiplfaaMgA9
import Derived.Test.YtjmijedfmiplfaaMgA10
import Derived.Test.YtjmijedfmiplfaaMgA1
import Derived.Test.YtjmijedfmiplfaaMgA2
import Derived.Test.YtjmijedfmiplfaaMgA4
import Derived.Laws.Cover1
import Derived.Test.YtjmijedfmiplfaaMgA6
import Derived.Test.YtjmijedfmiplfaaMgA14
import Derived.Test.YtjmijedfmiplfaaMgA16
/- Factors of a word: what chapter 7 is to return. No program in it. -/
namespace Go.Proofs.Ytjmijedfmiplfaa
open Go.RowKit

/-- the factors of n letters, ascending -/
def fctL (s : ByteArray) (n : Nat) : List ByteArray := facTo s n (s.size + 1 - n)
def fctOk (s : ByteArray) (n : Int) : Bool := wordB s && (decide (1 ≤ n) && decide (n ≤ 400))
def fctR (s : ByteArray) (n : Int) : List ByteArray := if fctOk s n = true then fctL s n.toNat else []
def cpxR (s : ByteArray) (n : Int) : Int := if fctOk s n = true then ((fctL s n.toNat).length : Int) else -1
def allTo (s : ByteArray) : Nat → Nat
  | 0 => 0
  | k + 1 => allTo s k + (fctL s (k + 1)).length
def allOk (s : ByteArray) : Bool := wordB s && decide (s.size ≤ 60)
def allR (s : ByteArray) : Int := if allOk s = true then (allTo s s.size : Int) else -1
/-- the factor and a letter behind it or ahead of it -/
def exL (f : ByteArray) (before : Bool) (k : Nat) : ByteArray := if before = true then ⟨#[letterN k]⟩ ++ f else f ++ ⟨#[letterN k]⟩
/-- the letters behind or ahead of a factor -/
noncomputable def nxtS (s f : ByteArray) (before : Bool) : ByteArray := ⟨(outTo (fun k => hasR s (exL f before k)) 4).toArray⟩
noncomputable def nxtR (s f : ByteArray) (before : Bool) : ByteArray := if (wordB s && wordB f) = true then nxtS s f before else ⟨#[]⟩
noncomputable def spcL (s : ByteArray) (n : Nat) (before : Bool) : List ByteArray := (fctL s n).filter fun f => decide (1 < (nxtS s f before).size)
noncomputable def spcR (s : ByteArray) (n : Int) (before : Bool) : List ByteArray := if fctOk s n = true then spcL s n.toNat before else []
/-- the index of a string in a list, or -1 -/
def atN (l : List ByteArray) (x : ByteArray) : Nat := l.findIdx fun y => x.toList == y.toList
def atR (l : List ByteArray) (x : ByteArray) : Int := if atN l x < l.length then (atN l x : Int) else -1
def edgeL (s : ByteArray) (n : Nat) : List (List Int) := (fctL s (n + 1)).map fun f => [atR (fctL s n) (f.extract 0 n), atR (fctL s n) (f.extract 1 f.size)]
def grfR (s : ByteArray) (n : Int) : List (List Int) := if fctOk s n = true then edgeL s n.toNat else []
end Go.Proofs.Ytjmijedfmiplfaa

/- flip and in, of the laws. Conditions: lengths of at most 2^20. -/
namespace Go.Proofs.Ytjmijedfmiplfaa
open Go.RowKit

def flipS (s : ByteArray) : ByteArray := ⟨s.data.toList.reverse.toArray⟩
/-- the last i letters, the last one first -/
theorem rev_snoc (l : List UInt8) (i : Nat) (h : i < l.length) : l.reverse.take (i + 1) = l.reverse.take i ++ [l[l.length - 1 - i]'(by omega)] := by
  rw [List.take_succ_eq_append_getElem (by simpa using h), List.getElem_reverse]

def inB (l : List ByteArray) (x : ByteArray) : Bool := l.any fun y => x.toList == y.toList
theorem inB_iff (l : List ByteArray) (x : ByteArray) : inB l x = true ↔ x ∈ l := by
  unfold inB
  rw [List.any_eq_true]
  constructor
  · rintro ⟨y, hy, e⟩
    rw [bytes_ext (eq_of_beq e)]
    exact hy
  · exact fun h => ⟨x, h, by simp⟩
end Go.Proofs.Ytjmijedfmiplfaa

/- The mathematics of FnFactors: members of the list of factors, a word turned round. No program in it. -/
namespace Go.Proofs.Ytjmijedfmiplfaa
open Go.RowKit

theorem fct_mem (s : ByteArray) (n : Nat) (x : ByteArray) : x ∈ fctL s n ↔ ∃ j, j < s.size + 1 - n ∧ x = s.extract j (j + n) := by
  unfold fctL
  exact facTo_mem s n x _
theorem asc_nodup {l : List ByteArray} (h : Asc l) : l.Nodup := h.imp fun {a b} hab e => by
  rw [e] at hab
  exact less_self _ hab
theorem nodup_le {α : Type} : ∀ {l m : List α}, l.Nodup → (∀ x ∈ l, x ∈ m) → l.length ≤ m.length
  | [], _, _, _ => Nat.zero_le _
  | a :: l, m, hl, h => by
    obtain ⟨h1, h2⟩ := List.pairwise_cons.1 hl
    obtain ⟨m1, m2, rfl⟩ := List.append_of_mem (h a (List.mem_cons_self ..))
    have := nodup_le (m := m1 ++ m2) h2 (fun x hx => by
      rcases List.mem_append.1 (h x (List.mem_cons_of_mem _ hx)) with e | e
      · exact List.mem_append_left _ e
      · rcases List.mem_cons.1 e with e | e
        · exact absurd e.symm (h1 x hx)
        · exact List.mem_append_right _ e)
    rw [List.length_append] at this
    rw [List.length_append, List.length_cons, List.length_cons]
    omega
theorem nodup_eq {α : Type} {l m : List α} (hl : l.Nodup) (hm : m.Nodup) (h : ∀ x, x ∈ l ↔ x ∈ m) : l.length = m.length :=
  Nat.le_antisymm (nodup_le hl fun x hx => (h x).1 hx) (nodup_le hm fun x hx => (h x).2 hx)
theorem flip_flip (s : ByteArray) : flipS (flipS s) = s := by
  unfold flipS
  apply bytes_ext
  rw [ByteArray.toList_eq, ByteArray.toList_eq]
  simp
theorem flip_size (s : ByteArray) : (flipS s).size = s.size := by
  show (s.data.toList.reverse.toArray).size = s.size
  simp
theorem flip_ext (s : ByteArray) (j n : Nat) (h : j + n ≤ s.size) : (flipS s).extract j (j + n) = flipS (s.extract (s.size - j - n) (s.size - j - n + n)) := by
  apply bytes_ext
  rw [ByteArray.toList_eq, ByteArray.toList_eq]
  show ((flipS s).extract j (j + n)).data.toList = (s.extract (s.size - j - n) (s.size - j - n + n)).data.toList.reverse
  rw [ByteArray.data_extract, ByteArray.data_extract, Array.toList_extract, Array.toList_extract, List.extract_eq_take_drop, List.extract_eq_take_drop]
  show ((s.data.toList.reverse).drop j).take (j + n - j) = _
  have hl : s.data.toList.length = s.size := by simp
  generalize s.data.toList = l at hl
  rw [← hl] at h ⊢
  rw [Nat.add_sub_cancel_left, Nat.add_sub_cancel_left]
  apply List.ext_getElem
  · simp; omega
  · intro i h1 h2
    simp only [List.getElem_take, List.getElem_drop, List.getElem_reverse]
    congr 1
    simp at h1 h2 ⊢
    omega
theorem flip_inj {a b : ByteArray} (h : flipS a = flipS b) : a = b := by rw [← flip_flip a, h, flip_flip]
theorem flip_fct (s : ByteArray) (n : Nat) (x : ByteArray) : x ∈ fctL (flipS s) n ↔ x ∈ (fctL s n).map flipS := by
  rw [fct_mem, List.mem_map]
  constructor
  · rintro ⟨j, hj, rfl⟩
    rw [flip_size] at hj
    exact ⟨s.extract (s.size - j - n) (s.size - j - n + n), (fct_mem s n _).2 ⟨s.size - j - n, by omega, rfl⟩, (flip_ext s j n (by omega)).symm⟩
  · rintro ⟨y, hy, rfl⟩
    obtain ⟨j, hj, rfl⟩ := (fct_mem s n y).1 hy
    refine ⟨s.size - j - n, by rw [flip_size]; omega, ?_⟩
    rw [flip_ext s (s.size - j - n) n (by omega)]
    congr 2 <;> omega
/-- a word and the word turned round have as many factors of a length -/
theorem flip_len (s : ByteArray) (n : Nat) : (fctL (flipS s) n).length = (fctL s n).length := by
  have h1 : (fctL (flipS s) n).Nodup := asc_nodup (facTo_asc _ _ _)
  have h2 : ((fctL s n).map flipS).Nodup := List.pairwise_map.2 ((asc_nodup (facTo_asc s n (s.size + 1 - n))).imp fun {a b} hab e => hab (flip_inj e))
  rw [nodup_eq h1 h2 (flip_fct s n), List.length_map]

/-! ### the letters behind and ahead of factors -/
theorem exL_sz (f : ByteArray) (b : Bool) (k : Nat) : (exL f b k).size = f.size + 1 := by
  have h1 : (⟨#[letterN k]⟩ : ByteArray).size = 1 := rfl
  unfold exL
  split
  · rw [ByteArray.size_append, h1]; omega
  · rw [ByteArray.size_append, h1]
theorem exL_list (f : ByteArray) (b : Bool) (k : Nat) : (exL f b k).data.toList = if b = true then letterN k :: f.data.toList else f.data.toList ++ [letterN k] := by
  unfold exL
  split
  · rw [ByteArray.data_append, Array.toList_append]; rfl
  · rw [ByteArray.data_append, Array.toList_append]
theorem exL_inj {f f' : ByteArray} {b : Bool} {k k' : Nat} (hk : k ≤ 3) (hk' : k' ≤ 3) (h : exL f b k = exL f' b k') : f = f' ∧ k = k' := by
  have e := congrArg (fun x : ByteArray => x.data.toList) h
  simp only [exL_list] at e
  by_cases hb : b = true
  · rw [if_pos hb, if_pos hb] at e
    injection e with e1 e2
    exact ⟨bytes_ext (by rw [ByteArray.toList_eq, ByteArray.toList_eq]; exact e2), letterN_inj hk hk' e1⟩
  · rw [if_neg hb, if_neg hb] at e
    obtain ⟨e1, e2⟩ := List.append_inj' e rfl
    injection e2 with e2 _
    exact ⟨bytes_ext (by rw [ByteArray.toList_eq, ByteArray.toList_eq]; exact e1), letterN_inj hk hk' e2⟩
theorem has_iff (s x : ByteArray) : hasR s x = true ↔ ∃ i, i + x.size ≤ s.size ∧ s.extract i (i + x.size) = x := by
  unfold hasR
  constructor
  · intro h
    obtain ⟨i, h1, h2⟩ := @of_decide_eq_true _ (Classical.propDecidable _) h
    exact ⟨i, h1, h2⟩
  · rintro ⟨i, h1, h2⟩
    exact @decide_eq_true _ (Classical.propDecidable _) ⟨i, h1, h2⟩
theorem fct_sz {s x : ByteArray} {n : Nat} (hn : n ≤ s.size) (h : x ∈ fctL s n) : x.size = n := by
  obtain ⟨j, hj, rfl⟩ := (fct_mem s n x).1 h
  rw [ByteArray.size_extract]
  omega
theorem word_letter {s : ByteArray} (h : wordB s = true) {j : Nat} (hj : j < s.size) : ∃ k, k ≤ 3 ∧ s.data.toList[j]'(by simpa using hj) = letterN k := by
  have hm := List.all_eq_true.1 (all_of_word h) (s.data.toList[j]'(by simpa using hj)) (List.getElem_mem _)
  unfold isAbcd at hm
  simp only [Bool.and_eq_true, decide_eq_true_eq] at hm
  refine ⟨(s.data.toList[j]'(by simpa using hj)).toNat - 97, by omega, ?_⟩
  apply UInt8.toNat.inj
  rw [letterN_toNat _ (by omega)]
  omega
theorem ext_list2 (s : ByteArray) (i n : Nat) : (s.extract i (i + n)).data.toList = (s.data.toList.drop i).take n := by
  rw [ByteArray.data_extract, Array.toList_extract, List.extract_eq_take_drop, Nat.add_sub_cancel_left]
/-- each longer factor is a factor and a letter -/
theorem ext_split {s : ByteArray} (hw : wordB s = true) {j n : Nat} (h : j + (n + 1) ≤ s.size) (b : Bool) : ∃ k i, k ≤ 3 ∧ i + n ≤ s.size ∧ s.extract j (j + (n + 1)) = exL (s.extract i (i + n)) b k := by
  have hl : s.data.toList.length = s.size := by simp
  cases b
  · obtain ⟨k, hk, e⟩ := word_letter hw (show j + n < s.size by omega)
    refine ⟨k, j, hk, by omega, bytes_ext ?_⟩
    rw [ByteArray.toList_eq, ByteArray.toList_eq]
    show (s.extract j (j + (n + 1))).data.toList = (exL (s.extract j (j + n)) false k).data.toList
    rw [exL_list, if_neg (by decide), ext_list2, ext_list2, List.take_succ_eq_append_getElem (by rw [List.length_drop]; omega), List.getElem_drop, e]
  · obtain ⟨k, hk, e⟩ := word_letter hw (show j < s.size by omega)
    refine ⟨k, j + 1, hk, by omega, bytes_ext ?_⟩
    rw [ByteArray.toList_eq, ByteArray.toList_eq]
    show (s.extract j (j + (n + 1))).data.toList = (exL (s.extract (j + 1) (j + 1 + n)) true k).data.toList
    rw [exL_list, if_pos rfl, ext_list2, ext_list2, ← e, List.drop_eq_getElem_cons (show j < s.data.toList.length by omega), List.take_succ_cons]
/-- the factors of n letters, each with each letter behind (or ahead of) it -/
noncomputable def extsL (s : ByteArray) (n : Nat) (b : Bool) : List ByteArray := (fctL s n).flatMap fun f => ((List.range 4).filter fun k => hasR s (exL f b k)).map (exL f b)
theorem outTo_len (p : Nat → Bool) : ∀ n, (outTo p n).length = ((List.range n).filter p).length
  | 0 => rfl
  | n + 1 => by
    rw [List.range_succ, List.filter_append, List.length_append, ← outTo_len p n]
    show (outTo p n ++ (if p n = true then [letterN n] else [])).length = _
    rw [List.length_append]
    congr 1
    by_cases h : p n = true
    · rw [if_pos h, List.filter_cons_of_pos h]; rfl
    · rw [if_neg h, List.filter_cons_of_neg h]; rfl
theorem nxt_size (s f : ByteArray) (b : Bool) : (nxtS s f b).size = ((List.range 4).filter fun k => hasR s (exL f b k)).length := by
  show ((outTo _ 4).toArray).size = _
  rw [List.size_toArray, outTo_len]
theorem exts_len (s : ByteArray) (n : Nat) (b : Bool) : (extsL s n b).length = ((fctL s n).map fun f => (nxtS s f b).size).sum := by
  unfold extsL
  rw [List.length_flatMap]
  congr 1
  apply List.map_congr_left
  intro f _
  rw [List.length_map, nxt_size]
theorem exts_mem {s : ByteArray} (hw : wordB s = true) (n : Nat) (hn : n + 1 ≤ s.size) (b : Bool) (x : ByteArray) : x ∈ extsL s n b ↔ x ∈ fctL s (n + 1) := by
  unfold extsL
  rw [List.mem_flatMap]
  constructor
  · rintro ⟨f, hf, hx⟩
    obtain ⟨k, hk, rfl⟩ := List.mem_map.1 hx
    obtain ⟨hk4, hh⟩ := List.mem_filter.1 hk
    obtain ⟨i, h1, h2⟩ := (has_iff _ _).1 hh
    rw [exL_sz, fct_sz (by omega) hf] at h1 h2
    exact (fct_mem _ _ _).2 ⟨i, by omega, h2.symm⟩
  · intro h
    obtain ⟨j, hj, rfl⟩ := (fct_mem _ _ _).1 h
    obtain ⟨k, i, hk, hi, e⟩ := ext_split hw (show j + (n + 1) ≤ s.size by omega) b
    refine ⟨s.extract i (i + n), (fct_mem _ _ _).2 ⟨i, by omega, rfl⟩, List.mem_map.2 ⟨k, List.mem_filter.2 ⟨List.mem_range.2 (by omega), ?_⟩, e.symm⟩⟩
    refine (has_iff _ _).2 ⟨j, ?_, ?_⟩
    · rw [exL_sz, ByteArray.size_extract]; omega
    · rw [exL_sz, ByteArray.size_extract, show min (i + n) s.size - i + 1 = n + 1 by omega]; exact e
theorem exts_nodup (s : ByteArray) (n : Nat) (b : Bool) : (extsL s n b).Nodup := by
  unfold extsL
  have hnd := asc_nodup (facTo_asc s n (s.size + 1 - n))
  change (fctL s n).Nodup at hnd
  generalize fctL s n = l at hnd
  induction l with
  | nil => exact List.Pairwise.nil
  | cons f l ih =>
    obtain ⟨h1, h2⟩ := List.pairwise_cons.1 hnd
    rw [List.flatMap_cons]
    refine List.pairwise_append.2 ⟨?_, ih h2, ?_⟩
    · refine List.pairwise_map.2 ?_
      have hr : ((List.range 4).filter fun k => hasR s (exL f b k)).Pairwise (fun i j => i ≠ j ∧ i < 4 ∧ j < 4) := by
        refine List.Pairwise.filter _ ?_
        decide
      exact hr.imp fun {i j} h e => h.1 (exL_inj (by omega) (by omega) e).2
    · intro x hx y hy e
      obtain ⟨k, hk, rfl⟩ := List.mem_map.1 hx
      obtain ⟨g, hg, hy⟩ := List.mem_flatMap.1 hy
      obtain ⟨k', hk', rfl⟩ := List.mem_map.1 hy
      have a := List.mem_range.1 (List.mem_filter.1 hk).1
      have c := List.mem_range.1 (List.mem_filter.1 hk').1
      exact h1 g hg (exL_inj (by omega) (by omega) e).1
/-- the followers of all factors are as many as the factors with a letter more -/
theorem exts_count {s : ByteArray} (hw : wordB s = true) (n : Nat) (hn : n + 1 ≤ s.size) (b : Bool) : ((fctL s n).map fun f => (nxtS s f b).size).sum = (fctL s (n + 1)).length := by
  rw [← exts_len]
  exact nodup_eq (exts_nodup s n b) (asc_nodup (facTo_asc _ _ _)) (exts_mem hw n hn b)
end Go.Proofs.Ytjmijedfmiplfaa

/- The mathematics of FnPalindromes, first part: how many palindromes there are, turned words, the longest one, closing. No program in it. -/
namespace Go.Proofs.Ytjmijedfmiplfaa
open Go.RowKit

/-! ### letters -/
theorem pl_len (s : ByteArray) : s.data.toList.length = s.size := by simp
theorem pl_ext {s t : ByteArray} (hz : s.size = t.size) (h : ∀ i, i < s.size → s.data.toList[i]? = t.data.toList[i]?) : s = t := by
  apply bytes_ext
  rw [ByteArray.toList_eq, ByteArray.toList_eq]
  apply List.ext_getElem?
  intro i
  by_cases hi : i < s.size
  · exact h i hi
  · rw [List.getElem?_eq_none (by rw [pl_len]; omega), List.getElem?_eq_none (by rw [pl_len]; omega)]
theorem pl_ext2 {s t : ByteArray} {i k h : Nat} (h1 : i + h ≤ s.size) (h2 : k + h ≤ t.size) : s.extract i (i + h) = t.extract k (k + h) ↔ ∀ j, j < h → s.data.toList[i + j]? = t.data.toList[k + j]? := by
  have z1 := pz_size s i h h1
  have z2 := pz_size t k h h2
  constructor
  · intro e j hj
    rw [← pz_list s i h j hj, ← pz_list t k h j hj, e]
  · intro e
    refine pl_ext (by omega) fun j hj => ?_
    rw [pz_list s i h j (by omega), pz_list t k h j (by omega)]
    exact e j (by omega)
theorem pl_turn (s : ByteArray) {i : Nat} (h : i < s.size) : (turnS s).data.toList[i]? = s.data.toList[s.size - 1 - i]? := by
  show (s.data.toList.reverse.toArray).toList[i]? = _
  rw [List.getElem?_reverse (by rw [pl_len]; exact h), pl_len]
theorem pal_get (s : ByteArray) : PalS s ↔ ∀ i, i < s.size → s.data.toList[i]? = s.data.toList[s.size - 1 - i]? := by
  unfold PalS
  constructor
  · intro e i hi
    rw [← pl_turn s hi, e]
  · intro e
    refine pl_ext (turn_size s) fun i hi => ?_
    rw [turn_size] at hi
    rw [pl_turn s hi, e i hi]
theorem pl_at {s : ByteArray} {j n : Nat} (h : j + n ≤ s.size) : PalS (s.extract j (j + n)) ↔ ∀ i, i < n → s.data.toList[j + i]? = s.data.toList[j + (n - 1 - i)]? := by
  rw [pal_get, pz_size s j n h]
  constructor
  · intro e i hi
    have := e i hi
    rwa [pz_list s j n i hi, pz_list s j n (n - 1 - i) (by omega)] at this
  · intro e i hi
    rw [pz_list s j n i hi, pz_list s j n (n - 1 - i) (by omega)]
    exact e i hi
theorem pal_whole (s : ByteArray) : PalS (s.extract 0 s.size) ↔ PalS s := by
  have : s.extract 0 s.size = s := by
    refine pl_ext (by rw [ByteArray.size_extract]; omega) fun i hi => ?_
    rw [ByteArray.size_extract] at hi
    have := pz_list s 0 s.size i (by omega)
    rwa [Nat.zero_add, Nat.zero_add] at this
  rw [this]

/-! ### at most one more than letters -/
def OccE (s x : ByteArray) (e : Nat) : Prop := x.size ≤ e ∧ e ≤ s.size ∧ s.extract (e - x.size) e = x
noncomputable def feN (s x : ByteArray) : Nat := firstP (OccE s x) 0 s.size
theorem fe_spec {s x : ByteArray} {e : Nat} (h : OccE s x e) : OccE s x (feN s x) ∧ ∀ e, OccE s x e → feN s x ≤ e := by
  obtain ⟨a, b⟩ := firstP_spec (P := OccE s x) s.size 0 ⟨e, Nat.zero_le _, by have := h.2.1; omega, h⟩
  exact ⟨a, fun e he => b e (Nat.zero_le _) he⟩
theorem pl_border {s : ByteArray} {a b n m : Nat} (he : a + m = b + n) (hs : a + m ≤ s.size) (hnm : n ≤ m) (hx : PalS (s.extract b (b + n))) (hy : PalS (s.extract a (a + m))) : s.extract a (a + n) = s.extract b (b + n) := by
  rw [pl_ext2 (by omega) (by omega)]
  intro i hi
  rw [(pl_at hs).1 hy i (by omega), (pl_at (by omega)).1 hx i hi]
  congr 1
  omega
theorem fe_inj {s x y : ByteArray} {e1 e2 : Nat} (hx : PalS x) (hy : PalS y) (h1 : OccE s x e1) (h2 : OccE s y e2) (h : feN s x = feN s y) (hxy : x.size ≤ y.size) : x = y := by
  obtain ⟨⟨a1, a2, a3⟩, a4⟩ := fe_spec h1
  obtain ⟨⟨b1, b2, b3⟩, b4⟩ := fe_spec h2
  rw [← h] at b1 b2 b3 b4
  generalize feN s x = e at *
  by_cases hz : x.size = y.size
  · rw [← a3, ← b3, hz]
  · exfalso
    have ex : s.extract (e - x.size) (e - x.size + x.size) = x := by rw [Nat.sub_add_cancel a1]; exact a3
    have ey : s.extract (e - y.size) (e - y.size + y.size) = y := by rw [Nat.sub_add_cancel b1]; exact b3
    have hb := pl_border (s := s) (a := e - y.size) (b := e - x.size) (n := x.size) (m := y.size) (by omega) (by omega) hxy (by rw [ex]; exact hx) (by rw [ey]; exact hy)
    rw [ex] at hb
    have := a4 (e - y.size + x.size) ⟨by omega, by omega, by rw [Nat.add_sub_cancel]; exact hb⟩
    omega
theorem pp_occ {s x : ByteArray} (h : x ∈ ppL s) (h0 : x.size ≠ 0) : PalS x ∧ ∃ e, OccE s x e := by
  rcases (ppL_mem s x).1 h with rfl | ⟨j, n, h1, h2, h3, rfl⟩
  · exact absurd rfl h0
  · have hz := pz_size s j n h2
    exact ⟨h3, j + n, by omega, h2, by rw [hz, Nat.add_sub_cancel]⟩
theorem pl_zero {x : ByteArray} (h : x.size = 0) : x = ⟨#[]⟩ := pl_ext h fun i hi => absurd hi (by omega)
theorem pp_count (s : ByteArray) : (ppL s).length ≤ s.size + 1 := by
  have hnd : ((ppL s).map fun x => if x.size = 0 then 0 else feN s x).Nodup := by
    refine List.pairwise_map.2 ((asc_nodup (ppTo_asc s s.size)).imp_of_mem fun {a b} ha hb hab => ?_)
    intro e
    apply hab
    by_cases ha0 : a.size = 0
    · by_cases hb0 : b.size = 0
      · rw [pl_zero ha0, pl_zero hb0]
      · rw [if_pos ha0, if_neg hb0] at e
        obtain ⟨_, e2, h2⟩ := pp_occ hb hb0
        have := (fe_spec h2).1.1
        omega
    · obtain ⟨p1, e1, h1⟩ := pp_occ ha ha0
      by_cases hb0 : b.size = 0
      · rw [if_neg ha0, if_pos hb0] at e
        have := (fe_spec h1).1.1
        omega
      · rw [if_neg ha0, if_neg hb0] at e
        obtain ⟨p2, e2, h2⟩ := pp_occ hb hb0
        by_cases hs : a.size ≤ b.size
        · exact fe_inj p1 p2 h1 h2 e hs
        · exact (fe_inj p2 p1 h2 h1 e.symm (by omega)).symm
  have := nodup_le hnd (m := List.range (s.size + 1)) (fun k hk => by
    obtain ⟨x, hx, rfl⟩ := List.mem_map.1 hk
    rw [List.mem_range]
    by_cases h0 : x.size = 0
    · rw [if_pos h0]; omega
    · rw [if_neg h0]
      obtain ⟨_, e, h⟩ := pp_occ hx h0
      have := (fe_spec h).1.2.1
      omega)
  rwa [List.length_map, List.length_range] at this

/-! ### turned -/
theorem turn_turn (s : ByteArray) : turnS (turnS s) = s := by
  refine pl_ext (by rw [turn_size, turn_size]) fun i hi => ?_
  rw [turn_size, turn_size] at hi
  rw [pl_turn _ (by rw [turn_size]; exact hi), turn_size, pl_turn s (by omega)]
  congr 1
  omega
theorem turn_part {s : ByteArray} {j n : Nat} (h : j + n ≤ s.size) : turnS (s.extract j (j + n)) = (turnS s).extract (s.size - j - n) (s.size - j - n + n) := by
  have hz := pz_size s j n h
  have hz2 := pz_size (turnS s) (s.size - j - n) n (by rw [turn_size]; omega)
  refine pl_ext (by rw [turn_size]; omega) fun i hi => ?_
  rw [turn_size, hz] at hi
  rw [pl_turn _ (by omega), hz, pz_list s j n _ (by omega), pz_list _ _ n i hi, pl_turn s (by omega)]
  congr 1
  omega
theorem pp_turn_in {s x : ByteArray} (h : x ∈ ppL s) : x ∈ ppL (turnS s) := by
  rcases (ppL_mem s x).1 h with e | ⟨j, n, h1, h2, h3, e⟩
  · exact (ppL_mem _ x).2 (.inl e)
  · refine (ppL_mem _ x).2 (.inr ⟨s.size - j - n, n, h1, by rw [turn_size]; omega, ?_, ?_⟩)
    · rw [← turn_part h2, h3]; exact h3
    · rw [← turn_part h2, h3]; exact e
theorem pp_turn (s : ByteArray) : ppL (turnS s) = ppL s :=
  asc_ext (ppTo_asc _ _) (ppTo_asc _ _) fun x => ⟨fun h => by have := pp_turn_in h; rwa [turn_turn] at this, pp_turn_in⟩

/-! ### the longest one -/
theorem lp_is (s : ByteArray) : LpAt s (lpD s) (lpI s) ∧ ∀ d i, LpAt s d i → lpD s ≤ d := by
  have h0 : LpAt s s.size 0 := ⟨Nat.zero_le _, Nat.le_refl _, pal_small (by rw [ByteArray.size_extract]; omega)⟩
  obtain ⟨⟨i, hi⟩, m1⟩ := firstP_spec (P := fun d => ∃ i, LpAt s d i) s.size 0 ⟨s.size, Nat.zero_le _, by omega, 0, h0⟩
  have hi' : LpAt s (lpD s) i := hi
  obtain ⟨m2, _⟩ := firstP_spec (P := LpAt s (lpD s)) s.size 0 ⟨i, Nat.zero_le _, by have := hi'.1; have := hi'.2.1; omega, hi'⟩
  exact ⟨m2, fun d i h => m1 d (Nat.zero_le _) ⟨i, h⟩⟩
theorem pp_longest {s x : ByteArray} (h : x ∈ ppL s) : x.size ≤ s.size - lpD s := by
  rcases (ppL_mem s x).1 h with rfl | ⟨j, n, h1, h2, h3, rfl⟩
  · exact Nat.zero_le _
  · have hz := pz_size s j n h2
    have := (lp_is s).2 (s.size - n) j ⟨by omega, by omega, by rw [show s.size - (s.size - n) = n by omega]; exact h3⟩
    omega

/-! ### closing -/
theorem cl_spec (s : ByteArray) : PalS (s.extract (clK s) s.size) ∧ ∀ j, PalS (s.extract j s.size) → clK s ≤ j := by
  obtain ⟨a, b⟩ := firstP_spec (P := fun k => PalS (s.extract k s.size)) s.size 0 ⟨s.size, Nat.zero_le _, by omega, cl_end s⟩
  exact ⟨a, fun j h => b j (Nat.zero_le _) h⟩
theorem cl_get (s : ByteArray) : (∀ i, i < s.size → (clS s).data.toList[i]? = s.data.toList[i]?) ∧ ∀ i, s.size ≤ i → i < s.size + clK s → (clS s).data.toList[i]? = s.data.toList[s.size + clK s - 1 - i]? := by
  have hk := clK_le s
  have hz : (s.extract 0 (clK s)).size = clK s := by rw [ByteArray.size_extract]; omega
  constructor
  · intro i hi
    unfold clS
    rw [ByteArray.data_append, Array.toList_append, List.getElem?_append_left (by rw [pl_len]; exact hi)]
  · intro i h1 h2
    unfold clS
    rw [ByteArray.data_append, Array.toList_append, List.getElem?_append_right (by rw [pl_len]; exact h1), pl_len, pl_turn _ (by omega), hz]
    have := pz_list s 0 (clK s) (clK s - 1 - (i - s.size)) (by omega)
    rw [Nat.zero_add] at this
    rw [this]
    congr 1
    omega
theorem cl_pal (s : ByteArray) : PalS (clS s) := by
  obtain ⟨g1, g2⟩ := cl_get s
  have hk := clK_le s
  have hp : PalS (s.extract (clK s) (clK s + (s.size - clK s))) := by
    rw [Nat.add_sub_cancel' hk]; exact (cl_spec s).1
  rw [pl_at (by omega)] at hp
  rw [pal_get, clS_size]
  generalize clK s = k at *
  intro i hi
  by_cases h1 : i < s.size
  · by_cases h2 : s.size + k - 1 - i < s.size
    · rw [g1 i h1, g1 _ h2]
      have := hp (i - k) (by omega)
      rw [show k + (i - k) = i by omega] at this
      rw [this]
      congr 1
      omega
    · rw [g1 i h1, g2 _ (by omega) (by omega)]
      congr 1
      omega
  · rw [g2 i (by omega) hi, g1 _ (by omega)]
theorem cl_start (s : ByteArray) : s.data.toList <+: (clS s).data.toList := by
  unfold clS
  rw [ByteArray.data_append, Array.toList_append]
  exact List.prefix_append _ _
theorem cl_self (s : ByteArray) : clS s = s ↔ PalS s := by
  constructor
  · intro h
    have := cl_pal s
    rwa [h] at this
  · intro h
    have h0 : clK s = 0 := by
      have := (cl_spec s).2 0 ((pal_whole s).2 h)
      omega
    refine pl_ext (by rw [clS_size, h0]; rfl) fun i hi => ?_
    rw [clS_size, h0] at hi
    exact (cl_get s).1 i hi
theorem cl_short {s : ByteArray} {n : Nat} (h1 : s.size ≤ n) (h2 : n < s.size + clK s) : ¬ PalS ((clS s).extract 0 n) := by
  intro h
  obtain ⟨g1, g2⟩ := cl_get s
  have hz := clS_size s
  have hk := clK_le s
  have hp := (pl_at (s := clS s) (j := 0) (n := n) (by omega)).1 (by rw [Nat.zero_add]; exact h)
  have : PalS (s.extract (n - s.size) (n - s.size + (2 * s.size - n))) := by
    rw [pl_at (by omega)]
    intro i hi
    have := hp (n - s.size + i) (by omega)
    rw [Nat.zero_add, Nat.zero_add, g1 _ (by omega), g1 _ (by omega)] at this
    rw [this]
    congr 1
    omega
  rw [show n - s.size + (2 * s.size - n) = s.size by omega] at this
  have := (cl_spec s).2 _ this
  omega
end Go.Proofs.Ytjmijedfmiplfaa
