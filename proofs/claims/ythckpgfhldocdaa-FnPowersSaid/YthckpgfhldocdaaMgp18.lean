/- Texts put together. -/
import Derived.Test.YthckpgfhldocdaaMgp17
import Derived.Test.YthckpgfhldocdaaMgp6
import Derived.Test.YthckpgfhldocdaaMgp2
import Derived.Test.YthckpgfhldocdaaMgp13
import Derived.Test.YthckpgfhldocdaaChecked
import Derived.Maps.RangeWalk
import Derived.DeepKeys4
/- The mathematics of FnFactors: members of the list of factors, a word turned round. No program in it. -/
namespace Go.Proofs.Ythckpgfhldocdaa
open Go.RowKit

theorem fct_mem (s : ByteArray) (n : Nat) (x : ByteArray) : x ∈ fctL s n ↔ ∃ j, j < s.size + 1 - n ∧ x = s.extract j (j + n) := by
  unfold fctL
  exact facTo_mem s n x _
theorem asc_nodup {l : List ByteArray} (h : Asc l) : l.Nodup := h.imp fun {a b} hab e => by
  rw [e] at hab
  exact less_self _ hab
theorem nodup_le {α : Type} : ∀ {l m : List α}, l.Nodup → (∀ x ∈ l, x ∈ m) → l.length ≤ m.length
  | [], _, _, _ => Nat.zero_le _
  | a :: l, m, hl, h => by
    obtain ⟨h1, h2⟩ := List.pairwise_cons.1 hl
    obtain ⟨m1, m2, rfl⟩ := List.append_of_mem (h a (List.mem_cons_self ..))
    have := nodup_le (m := m1 ++ m2) h2 (fun x hx => by
      rcases List.mem_append.1 (h x (List.mem_cons_of_mem _ hx)) with e | e
      · exact List.mem_append_left _ e
      · rcases List.mem_cons.1 e with e | e
        · exact absurd e.symm (h1 x hx)
        · exact List.mem_append_right _ e)
    rw [List.length_append] at this
    rw [List.length_append, List.length_cons, List.length_cons]
    omega
theorem nodup_eq {α : Type} {l m : List α} (hl : l.Nodup) (hm : m.Nodup) (h : ∀ x, x ∈ l ↔ x ∈ m) : l.length = m.length :=
  Nat.le_antisymm (nodup_le hl fun x hx => (h x).1 hx) (nodup_le hm fun x hx => (h x).2 hx)
theorem flip_flip (s : ByteArray) : flipS (flipS s) = s := by
  unfold flipS
  apply bytes_ext
  rw [ByteArray.toList_eq, ByteArray.toList_eq]
  simp
theorem flip_size (s : ByteArray) : (flipS s).size = s.size := by
  show (s.data.toList.reverse.toArray).size = s.size
  simp
theorem flip_ext (s : ByteArray) (j n : Nat) (h : j + n ≤ s.size) : (flipS s).extract j (j + n) = flipS (s.extract (s.size - j - n) (s.size - j - n + n)) := by
  apply bytes_ext
  rw [ByteArray.toList_eq, ByteArray.toList_eq]
  show ((flipS s).extract j (j + n)).data.toList = (s.extract (s.size - j - n) (s.size - j - n + n)).data.toList.reverse
  rw [ByteArray.data_extract, ByteArray.data_extract, Array.toList_extract, Array.toList_extract, List.extract_eq_take_drop, List.extract_eq_take_drop]
  show ((s.data.toList.reverse).drop j).take (j + n - j) = _
  have hl : s.data.toList.length = s.size := by simp
  generalize s.data.toList = l at hl
  rw [← hl] at h ⊢
  rw [Nat.add_sub_cancel_left, Nat.add_sub_cancel_left]
  apply List.ext_getElem
  · simp; omega
  · intro i h1 h2
    simp only [List.getElem_take, List.getElem_drop, List.getElem_reverse]
    congr 1
    simp at h1 h2 ⊢
    omega
theorem flip_inj {a b : ByteArray} (h : flipS a = flipS b) : a = b := by rw [← flip_flip a, h, flip_flip]
theorem flip_fct (s : ByteArray) (n : Nat) (x : ByteArray) : x ∈ fctL (flipS s) n ↔ x ∈ (fctL s n).map flipS := by
  rw [fct_mem, List.mem_map]
  constructor
  · rintro ⟨j, hj, rfl⟩
    rw [flip_size] at hj
    exact ⟨s.extract (s.size - j - n) (s.size - j - n + n), (fct_mem s n _).2 ⟨s.size - j - n, by omega, rfl⟩, (flip_ext s j n (by omega)).symm⟩
  · rintro ⟨y, hy, rfl⟩
    obtain ⟨j, hj, rfl⟩ := (fct_mem s n y).1 hy
    refine ⟨s.size - j - n, by rw [flip_size]; omega, ?_⟩
    rw [flip_ext s (s.size - j - n) n (by omega)]
    congr 2 <;> omega
/-- a word and the word turned round have as many factors of a length -/
theorem flip_len (s : ByteArray) (n : Nat) : (fctL (flipS s) n).length = (fctL s n).length := by
  have h1 : (fctL (flipS s) n).Nodup := asc_nodup (facTo_asc _ _ _)
  have h2 : ((fctL s n).map flipS).Nodup := List.pairwise_map.2 ((asc_nodup (facTo_asc s n (s.size + 1 - n))).imp fun {a b} hab e => hab (flip_inj e))
  rw [nodup_eq h1 h2 (flip_fct s n), List.length_map]

/-! ### the letters behind and ahead of factors -/
theorem exL_sz (f : ByteArray) (b : Bool) (k : Nat) : (exL f b k).size = f.size + 1 := by
  have h1 : (⟨#[letterN k]⟩ : ByteArray).size = 1 := rfl
  unfold exL
  split
  · rw [ByteArray.size_append, h1]; omega
  · rw [ByteArray.size_append, h1]
theorem exL_list (f : ByteArray) (b : Bool) (k : Nat) : (exL f b k).data.toList = if b = true then letterN k :: f.data.toList else f.data.toList ++ [letterN k] := by
  unfold exL
  split
  · rw [ByteArray.data_append, Array.toList_append]; rfl
  · rw [ByteArray.data_append, Array.toList_append]
theorem exL_inj {f f' : ByteArray} {b : Bool} {k k' : Nat} (hk : k ≤ 3) (hk' : k' ≤ 3) (h : exL f b k = exL f' b k') : f = f' ∧ k = k' := by
  have e := congrArg (fun x : ByteArray => x.data.toList) h
  simp only [exL_list] at e
  by_cases hb : b = true
  · rw [if_pos hb, if_pos hb] at e
    injection e with e1 e2
    exact ⟨bytes_ext (by rw [ByteArray.toList_eq, ByteArray.toList_eq]; exact e2), letterN_inj hk hk' e1⟩
  · rw [if_neg hb, if_neg hb] at e
    obtain ⟨e1, e2⟩ := List.append_inj' e rfl
    injection e2 with e2 _
    exact ⟨bytes_ext (by rw [ByteArray.toList_eq, ByteArray.toList_eq]; exact e1), letterN_inj hk hk' e2⟩
theorem has_iff (s x : ByteArray) : hasR s x = true ↔ ∃ i, i + x.size ≤ s.size ∧ s.extract i (i + x.size) = x := by
  unfold hasR
  constructor
  · intro h
    obtain ⟨i, h1, h2⟩ := @of_decide_eq_true _ (Classical.propDecidable _) h
    exact ⟨i, h1, h2⟩
  · rintro ⟨i, h1, h2⟩
    exact @decide_eq_true _ (Classical.propDecidable _) ⟨i, h1, h2⟩
theorem fct_sz {s x : ByteArray} {n : Nat} (hn : n ≤ s.size) (h : x ∈ fctL s n) : x.size = n := by
  obtain ⟨j, hj, rfl⟩ := (fct_mem s n x).1 h
  rw [ByteArray.size_extract]
  omega
theorem word_letter {s : ByteArray} (h : wordB s = true) {j : Nat} (hj : j < s.size) : ∃ k, k ≤ 3 ∧ s.data.toList[j]'(by simpa using hj) = letterN k := by
  have hm := List.all_eq_true.1 (all_of_word h) (s.data.toList[j]'(by simpa using hj)) (List.getElem_mem _)
  unfold isAbcd at hm
  simp only [Bool.and_eq_true, decide_eq_true_eq] at hm
  refine ⟨(s.data.toList[j]'(by simpa using hj)).toNat - 97, by omega, ?_⟩
  apply UInt8.toNat.inj
  rw [letterN_toNat _ (by omega)]
  omega
theorem ext_list2 (s : ByteArray) (i n : Nat) : (s.extract i (i + n)).data.toList = (s.data.toList.drop i).take n := by
  rw [ByteArray.data_extract, Array.toList_extract, List.extract_eq_take_drop, Nat.add_sub_cancel_left]
/-- each longer factor is a factor and a letter -/
theorem ext_split {s : ByteArray} (hw : wordB s = true) {j n : Nat} (h : j + (n + 1) ≤ s.size) (b : Bool) : ∃ k i, k ≤ 3 ∧ i + n ≤ s.size ∧ s.extract j (j + (n + 1)) = exL (s.extract i (i + n)) b k := by
  have hl : s.data.toList.length = s.size := by simp
  cases b
  · obtain ⟨k, hk, e⟩ := word_letter hw (show j + n < s.size by omega)
    refine ⟨k, j, hk, by omega, bytes_ext ?_⟩
    rw [ByteArray.toList_eq, ByteArray.toList_eq]
    show (s.extract j (j + (n + 1))).data.toList = (exL (s.extract j (j + n)) false k).data.toList
    rw [exL_list, if_neg (by decide), ext_list2, ext_list2, List.take_succ_eq_append_getElem (by rw [List.length_drop]; omega), List.getElem_drop, e]
  · obtain ⟨k, hk, e⟩ := word_letter hw (show j < s.size by omega)
    refine ⟨k, j + 1, hk, by omega, bytes_ext ?_⟩
    rw [ByteArray.toList_eq, ByteArray.toList_eq]
    show (s.extract j (j + (n + 1))).data.toList = (exL (s.extract (j + 1) (j + 1 + n)) true k).data.toList
    rw [exL_list, if_pos rfl, ext_list2, ext_list2, ← e, List.drop_eq_getElem_cons (show j < s.data.toList.length by omega), List.take_succ_cons]
/-- the factors of n letters, each with each letter behind (or ahead of) it -/
noncomputable def extsL (s : ByteArray) (n : Nat) (b : Bool) : List ByteArray := (fctL s n).flatMap fun f => ((List.range 4).filter fun k => hasR s (exL f b k)).map (exL f b)
theorem outTo_len (p : Nat → Bool) : ∀ n, (outTo p n).length = ((List.range n).filter p).length
  | 0 => rfl
  | n + 1 => by
    rw [List.range_succ, List.filter_append, List.length_append, ← outTo_len p n]
    show (outTo p n ++ (if p n = true then [letterN n] else [])).length = _
    rw [List.length_append]
    congr 1
    by_cases h : p n = true
    · rw [if_pos h, List.filter_cons_of_pos h]; rfl
    · rw [if_neg h, List.filter_cons_of_neg h]; rfl
theorem nxt_size (s f : ByteArray) (b : Bool) : (nxtS s f b).size = ((List.range 4).filter fun k => hasR s (exL f b k)).length := by
  show ((outTo _ 4).toArray).size = _
  rw [List.size_toArray, outTo_len]
theorem exts_len (s : ByteArray) (n : Nat) (b : Bool) : (extsL s n b).length = ((fctL s n).map fun f => (nxtS s f b).size).sum := by
  unfold extsL
  rw [List.length_flatMap]
  congr 1
  apply List.map_congr_left
  intro f _
  rw [List.length_map, nxt_size]
theorem exts_mem {s : ByteArray} (hw : wordB s = true) (n : Nat) (hn : n + 1 ≤ s.size) (b : Bool) (x : ByteArray) : x ∈ extsL s n b ↔ x ∈ fctL s (n + 1) := by
  unfold extsL
  rw [List.mem_flatMap]
  constructor
  · rintro ⟨f, hf, hx⟩
    obtain ⟨k, hk, rfl⟩ := List.mem_map.1 hx
    obtain ⟨hk4, hh⟩ := List.mem_filter.1 hk
    obtain ⟨i, h1, h2⟩ := (has_iff _ _).1 hh
    rw [exL_sz, fct_sz (by omega) hf] at h1 h2
    exact (fct_mem _ _ _).2 ⟨i, by omega, h2.symm⟩
  · intro h
    obtain ⟨j, hj, rfl⟩ := (fct_mem _ _ _).1 h
    obtain ⟨k, i, hk, hi, e⟩ := ext_split hw (show j + (n + 1) ≤ s.size by omega) b
    refine ⟨s.extract i (i + n), (fct_mem _ _ _).2 ⟨i, by omega, rfl⟩, List.mem_map.2 ⟨k, List.mem_filter.2 ⟨List.mem_range.2 (by omega), ?_⟩, e.symm⟩⟩
    refine (has_iff _ _).2 ⟨j, ?_, ?_⟩
    · rw [exL_sz, ByteArray.size_extract]; omega
    · rw [exL_sz, ByteArray.size_extract, show min (i + n) s.size - i + 1 = n + 1 by omega]; exact e
theorem exts_nodup (s : ByteArray) (n : Nat) (b : Bool) : (extsL s n b).Nodup := by
  unfold extsL
  have hnd := asc_nodup (facTo_asc s n (s.size + 1 - n))
  change (fctL s n).Nodup at hnd
  generalize fctL s n = l at hnd
  induction l with
  | nil => exact List.Pairwise.nil
  | cons f l ih =>
    obtain ⟨h1, h2⟩ := List.pairwise_cons.1 hnd
    rw [List.flatMap_cons]
    refine List.pairwise_append.2 ⟨?_, ih h2, ?_⟩
    · refine List.pairwise_map.2 ?_
      have hr : ((List.range 4).filter fun k => hasR s (exL f b k)).Pairwise (fun i j => i ≠ j ∧ i < 4 ∧ j < 4) := by
        refine List.Pairwise.filter _ ?_
        decide
      exact hr.imp fun {i j} h e => h.1 (exL_inj (by omega) (by omega) e).2
    · intro x hx y hy e
      obtain ⟨k, hk, rfl⟩ := List.mem_map.1 hx
      obtain ⟨g, hg, hy⟩ := List.mem_flatMap.1 hy
      obtain ⟨k', hk', rfl⟩ := List.mem_map.1 hy
      have a := List.mem_range.1 (List.mem_filter.1 hk).1
      have c := List.mem_range.1 (List.mem_filter.1 hk').1
      exact h1 g hg (exL_inj (by omega) (by omega) e).1
/-- the followers of all factors are as many as the factors with a letter more -/
theorem exts_count {s : ByteArray} (hw : wordB s = true) (n : Nat) (hn : n + 1 ≤ s.size) (b : Bool) : ((fctL s n).map fun f => (nxtS s f b).size).sum = (fctL s (n + 1)).length := by
  rw [← exts_len]
  exact nodup_eq (exts_nodup s n b) (asc_nodup (facTo_asc _ _ _)) (exts_mem hw n hn b)
end Go.Proofs.Ythckpgfhldocdaa

/- The mathematics of FnPowers, last part: what its calls return, in the form that the walk wants. No program in it. -/
namespace Go.Proofs.Ythckpgfhldocdaa
open Go.RowKit

theorem fp_free {s : ByteArray} (hw : wordB s = true) (n e : Nat) : freeR s n e = !repB s n e := by
  unfold freeR; rw [hw]; rfl
theorem fp_pwL {s : ByteArray} (hw : wordB s = true) (h : s.size ≤ 60) : pwR s = pwL s := by
  unfold pwR
  rw [if_pos (by unfold pwOk; rw [hw, decide_eq_true h]; rfl)]
theorem fp_asc {s : ByteArray} (hw : wordB s = true) (h : s.size ≤ 60) : Asc (pwR s) := by
  rw [fp_pwL hw h]; exact pwTo_asc s _
theorem fp_len {s : ByteArray} (hw : wordB s = true) (h : s.size ≤ 60) : (pwR s).length = 0 ↔ repB s 1 0 = false := by
  rw [fp_pwL hw h, List.length_eq_zero_iff, Bool.eq_false_iff, Ne, pz_rep1]
  constructor
  · rintro e ⟨i, k, hk⟩
    have := (pwL_mem s _).2 ⟨i, k, hk, rfl⟩
    rw [e] at this
    exact List.not_mem_nil this
  · intro hn
    refine List.eq_nil_iff_forall_not_mem.2 fun x hx => hn ?_
    obtain ⟨j, k, hk, _⟩ := (pwL_mem s x).1 hx
    exact ⟨j, k, hk⟩
theorem fp_mem {s x : ByteArray} (hw : wordB s = true) (h : s.size ≤ 60) (hx : x ∈ pwR s) : ∃ k, 1 ≤ k ∧ x.size = 2 * k ∧ x.extract 0 k = x.extract k (2 * k) ∧ x.size ≤ s.size ∧ factR s x = true := by
  rw [fp_pwL hw h] at hx
  obtain ⟨j, k, ⟨h1, h2, h3⟩, rfl⟩ := (pwL_mem s x).1 hx
  have hz := pz_size s j (2 * k) h2
  refine ⟨k, h1, hz, ?_, by omega, ?_⟩
  · rw [ByteArray.extract_extract, ByteArray.extract_extract, Nat.add_zero, Nat.min_eq_left (by omega), Nat.min_self]
    exact h3
  · have hx : wordB (s.extract j (j + 2 * k)) = true := by
      unfold wordB at hw ⊢
      rw [Bool.and_eq_true, decide_eq_true_eq, List.all_eq_true] at hw
      rw [Bool.and_eq_true, decide_eq_true_eq, List.all_eq_true]
      refine ⟨by omega, fun c hc => hw.2 c ?_⟩
      rw [ByteArray.data_extract, Array.toList_extract, List.extract_eq_take_drop] at hc
      exact List.mem_of_mem_drop (List.mem_of_mem_take hc)
    unfold factR
    rw [hw, hx, (has_iff s _).2 ⟨j, by omega, by rw [hz]⟩]
    rfl
theorem fp_fsq {s : ByteArray} (hw : wordB s = true) : (repB s 1 0 = false ∧ fsqR1 s = -1 ∧ fsqR2 s = -1) ∨ (repB s 1 0 = true ∧ ∃ e h : Nat, fsqR1 s = e ∧ fsqR2 s = h ∧ 1 ≤ h ∧ 2 * h ≤ e ∧ e ≤ s.size ∧ s.extract (e - 2 * h) (e - h) = s.extract (e - h) e ∧ freeR (s.extract 0 (e - 1)) 1 0 = true) := by
  by_cases hn : ∃ e h, SqEnd s e h
  · right
    have hr : repB s 1 0 = true := (pz_rep1 s).2 ((pz_ends_sq s).1 hn)
    obtain ⟨e0, h0, hs0⟩ := hn
    obtain ⟨⟨k, hk⟩, m1⟩ := firstP_spec (P := fun e => ∃ h, SqEnd s e h) (s.size + 1) 0 ⟨e0, Nat.zero_le _, by have := hs0.2.2.1; omega, h0, hs0⟩
    change SqEnd s (fsqE s) k at hk
    change ∀ q, 0 ≤ q → (∃ h, SqEnd s q h) → fsqE s ≤ q at m1
    obtain ⟨m2, m3⟩ := firstP_spec (P := SqEnd s (fsqE s)) s.size 1 ⟨k, hk.1, by have := hk.2.1; have := hk.2.2.1; omega, hk⟩
    change SqEnd s (fsqE s) (fsqH s) at m2
    obtain ⟨e1, e2⟩ := fsq_found hw m2 (fun e' he h' hh => by have := m1 e' (Nat.zero_le _) ⟨h', hh⟩; omega) (fun h' hh hs => by have := m3 h' hs.1 hs; exact absurd (show fsqH s ≤ h' from this) (by omega))
    obtain ⟨a1, a2, a3, a4⟩ := m2
    refine ⟨hr, fsqE s, fsqH s, e1, e2, a1, a2, a3, a4, ?_⟩
    have hp : (s.extract 0 (fsqE s - 1)).data.toList <+: s.data.toList := by
      rw [ByteArray.data_extract, Array.toList_extract, List.extract_eq_take_drop, List.drop_zero]
      exact List.take_prefix _ _
    have hz : (s.extract 0 (fsqE s - 1)).size = fsqE s - 1 := by rw [ByteArray.size_extract]; omega
    rw [fp_free (wordB_pre hp hw), Bool.not_eq_true', Bool.eq_false_iff]
    intro hx
    obtain ⟨i, h, hh⟩ := (pz_rep1 _).1 hx
    obtain ⟨g1, g2⟩ := (pz_sq _ i h).1 hh
    have g3 : RunAt s h h i := (run_pre hp g2.1).1 g2
    have g4 := g2.1
    rw [hz] at g4
    have := m1 (i + 2 * h) (Nat.zero_le _) ⟨h, (pz_end s _ h).2 ⟨by omega, by omega, by rw [Nat.add_sub_cancel]; exact (pz_sq s i h).2 ⟨g1, g3⟩⟩⟩
    omega
  · left
    have hr : repB s 1 0 = false := by
      rw [Bool.eq_false_iff, Ne, pz_rep1, ← pz_ends_sq]; exact hn
    exact ⟨hr, fsq_none fun e h hh => hn ⟨e, h, hh⟩⟩
theorem fp_gex0 {s : ByteArray} (h0 : s.size = 0) : gexR s = (0, 0) ∧ ∀ n e, 1 ≤ n → repB s n e = false := by
  constructor
  · unfold gexR
    rw [if_neg]
    unfold gexOk
    rw [Bool.and_eq_true, Bool.and_eq_true, decide_eq_true_eq, h0]
    omega
  · intro n e hn
    rw [Bool.eq_false_iff, Ne, repB_iff]
    rintro ⟨p, h1, i, h2, _⟩
    omega
theorem fp_gex1 {s : ByteArray} (hw : wordB s = true) (h0 : 1 ≤ s.size) (h : s.size ≤ 60) : (gexR s).1 ≤ 60 ∧ (gexR s).2 ≤ 60 ∧ ∀ n e, 1 ≤ n → e ≤ 1 → (repB s n e = true ↔ (n + 1) * (gexR s).2 + e ≤ (gexR s).1) := by
  have hg : gexR s = gexTo s (s.size - 1) := by
    unfold gexR
    rw [if_pos]
    unfold gexOk
    rw [hw, decide_eq_true h0, decide_eq_true h]; rfl
  have hp := pz_gex h0
  obtain ⟨a1, a2, i0, a3, a4⟩ := (gexTo_spec h0 (s.size - 1) (by omega)).1
  rw [hg]
  clear hg
  generalize gexTo s (s.size - 1) = x at a1 a2 a3 a4 hp ⊢
  obtain ⟨n, p⟩ := x
  dsimp only at a1 a2 a3 a4 hp ⊢
  have hz := pz_size s i0 n a3
  have hps := per_size (s.extract i0 (i0 + n))
  rw [hz] at hps
  have := (pz_per (s := s.extract i0 (i0 + n)) (by omega)).2 n a1 hps
  exact ⟨by omega, by omega, hp⟩
theorem fp_run {s : ByteArray} (hw : wordB s = true) : ∃ r : Nat, lrR s = r ∧ (1 < r → repB s 1 0 = true) ∧ (r = 0 ↔ s.size = 0) ∧ (2 < r → repB s 2 0 = true) :=
  ⟨(lrTo s s.size).1, if_pos hw, lr_sq, lr_zero s, lr_cube⟩
theorem fp_ext (s : ByteArray) : extR s = ⟨#[]⟩ ∨ (freeR s 1 0 = true ∧ (extR s).size = s.size + 1 ∧ s.data.toList <+: (extR s).data.toList ∧ freeR (extR s) 1 0 = true) := by
  by_cases h : extR s = ⟨#[]⟩
  · exact .inl h
  · obtain ⟨h1, i, h2, h3⟩ := extR_some h
    refine .inr ⟨h1, ?_, ?_, h3⟩
    · rw [h2, ByteArray.size_append]; rfl
    · rw [h2]; exact more_pre s _
theorem fp_thue {m : Nat} (h : m ≤ 60) : fixOk (namedL thueT) ⟨#[97]⟩ m = true ∧ (fixR (namedL thueT) ⟨#[97]⟩ m).size = m ∧ freeR (fixR (namedL thueT) ⟨#[97]⟩ m) 1 1 = true := by
  obtain ⟨a, b⟩ := ev_fixOk thue_sub thue_grow (a := ⟨#[97]⟩) rfl (n := m) rfl (by omega)
  exact ⟨a, by rw [b]; exact fxS_size thue_sub thue_grow m, by rw [b]; exact thue_free h⟩
theorem fp_sqf {m : Nat} (h : m ≤ 60) : fixOk (namedL sqfT) ⟨#[97]⟩ m = true ∧ (fixR (namedL sqfT) ⟨#[97]⟩ m).size = m ∧ freeR (fixR (namedL sqfT) ⟨#[97]⟩ m) 1 0 = true := by
  obtain ⟨a, b⟩ := ev_fixOk sqf_sub sqf_grow (a := ⟨#[97]⟩) rfl (n := m) rfl (by omega)
  exact ⟨a, by rw [b]; exact fxS_size sqf_sub sqf_grow m, by rw [b]; exact sqf_free h⟩
theorem fp_cnt : cntR 2 4 = 0 ∧ cntR 3 5 = 30 ∧ cntR 3 4 = 18 := by
  refine ⟨?_, ?_, ?_⟩
  · show ((cntW 2 4 ⟨#[]⟩ : Nat) : Int) = 0
    rw [cnt_24]; rfl
  · show ((cntW 3 5 ⟨#[]⟩ : Nat) : Int) = 30
    rw [cnt_35]; rfl
  · show ((cntW 3 4 ⟨#[]⟩ : Nat) : Int) = 18
    rw [cnt_34]; rfl
end Go.Proofs.Ythckpgfhldocdaa

/- What the tests of FnPowers come to, in the walk's form. No program in it. -/
namespace Go.Proofs.Ythckpgfhldocdaa
open Go.RowKit

/-- square-free, overlap-free, cube-free; empty; the greatest exponent below 2, below 3 -/
def Five (sq ov cu bE b1 b3 : Bool) : Prop :=
  (sq = true ∧ ov = true ∧ cu = true ∧ bE = true ∧ b1 = false ∧ b3 = false) ∨ (sq = true ∧ ov = true ∧ cu = true ∧ bE = false ∧ b1 = true ∧ b3 = true) ∨
  (sq = false ∧ ov = true ∧ cu = true ∧ bE = false ∧ b1 = false ∧ b3 = true) ∨ (sq = false ∧ ov = false ∧ cu = true ∧ bE = false ∧ b1 = false ∧ b3 = true) ∨
  (sq = false ∧ ov = false ∧ cu = false ∧ bE = false ∧ b1 = false ∧ b3 = false)
theorem five_of {sq ov cu bE b1 b2 b3 : Bool} (h1 : sq = true → ov = true) (h2 : ov = true → cu = true) (he : bE = true → sq = true ∧ b1 = false ∧ b2 = true ∧ b3 = false) (hn : bE = false → b1 = sq ∧ b2 = ov ∧ b3 = cu) : Five sq ov cu bE b1 b3 ∧ b2 = ov := by
  unfold Five
  revert h1 h2 he hn
  cases sq <;> cases ov <;> cases cu <;> cases bE <;> cases b1 <;> cases b2 <;> cases b3 <;> decide
theorem fp_five {s : ByteArray} (hw : wordB s = true) (h : s.size ≤ 60) :
    Five (freeR s 1 0) (freeR s 1 1) (freeR s 2 0) s.toList.isEmpty (decide (((gexR s).1 : Int) < 2 * ((gexR s).2 : Int))) (decide (((gexR s).1 : Int) < 3 * ((gexR s).2 : Int))) ∧ decide (((gexR s).1 : Int) ≤ 2 * ((gexR s).2 : Int)) = freeR s 1 1 := by
  have HA := fp_free hw 1 0
  have HO := fp_free hw 1 1
  have HC := fp_free hw 2 0
  have H1 : repB s 1 1 = true → repB s 1 0 = true := pz_sq_over
  have H2 : repB s 2 0 = true → repB s 1 1 = true := pz_over_cube
  rw [HA, HO, HC]
  refine five_of (fun e => ?_) (fun e => ?_) (fun e => ?_) (fun e => ?_)
  · rw [Bool.not_eq_true'] at e ⊢
    rw [Bool.eq_false_iff] at e ⊢
    exact fun k => e (H1 k)
  · rw [Bool.not_eq_true'] at e ⊢
    rw [Bool.eq_false_iff] at e ⊢
    exact fun k => e (H2 k)
  · have h0 : s.size = 0 := by
      have : s.toList = [] := List.isEmpty_iff.1 e
      rw [ByteArray.toList_eq] at this
      have hl := congrArg List.length this
      simpa using hl
    obtain ⟨g, r⟩ := fp_gex0 h0
    rw [g, r 1 0 (by omega)]
    refine ⟨rfl, ?_, ?_, ?_⟩ <;> simp
  · have h0 : 1 ≤ s.size := by
      rcases Nat.eq_zero_or_pos s.size with hz | hz
      · have : s.toList = [] := by
          rw [ByteArray.toList_eq]
          exact List.eq_nil_of_length_eq_zero (by simpa using hz)
        rw [this] at e
        cases e
      · exact hz
    obtain ⟨_, _, g⟩ := fp_gex1 hw h0 h
    have g1 := g 1 0 (by omega) (by omega)
    have g2 := g 1 1 (by omega) (by omega)
    have g3 := g 2 0 (by omega) (by omega)
    generalize (gexR s).1 = n at g1 g2 g3 ⊢
    generalize (gexR s).2 = p at g1 g2 g3 ⊢
    refine ⟨?_, ?_, ?_⟩
    · rw [Bool.eq_iff_iff, Bool.not_eq_true', Bool.eq_false_iff, Ne, g1, decide_eq_true_eq]; omega
    · rw [Bool.eq_iff_iff, Bool.not_eq_true', Bool.eq_false_iff, Ne, g2, decide_eq_true_eq]; omega
    · rw [Bool.eq_iff_iff, Bool.not_eq_true', Bool.eq_false_iff, Ne, g3, decide_eq_true_eq]; omega
theorem fp_len0 {s : ByteArray} (hw : wordB s = true) (h : s.size ≤ 60) : (((pwR s).length : Int) == 0) = freeR s 1 0 := by
  rw [fp_free hw, Bool.eq_iff_iff, beq_iff_eq, Bool.not_eq_true', ← fp_len hw h]
  omega
theorem fp_q1 {s : ByteArray} (hw : wordB s = true) : (fsqR1 s == -1) = freeR s 1 0 := by
  rw [fp_free hw]
  rcases fp_fsq hw with ⟨a, b, _⟩ | ⟨a, e, h, b, _⟩
  · rw [a, b]; rfl
  · rw [a, b]
    show ((e : Int) == -1) = false
    rw [beq_eq_false_iff_ne]
    omega
theorem fp_first {s : ByteArray} (hw : wordB s = true) : (freeR s 1 0 = true ∧ fsqR1 s = -1 ∧ fsqR2 s = -1) ∨ (freeR s 1 0 = false ∧ ∃ e h : Nat, fsqR1 s = e ∧ fsqR2 s = h ∧ 1 ≤ h ∧ 2 * h ≤ e ∧ e ≤ s.size ∧ s.extract (e - 2 * h) (e - h) = s.extract (e - h) e ∧ freeR (s.extract 0 (e - 1)) 1 0 = true) := by
  rw [fp_free hw]
  rcases fp_fsq hw with ⟨a, b⟩ | ⟨a, b⟩
  · exact .inl ⟨by rw [a]; rfl, b⟩
  · exact .inr ⟨by rw [a]; rfl, b⟩
theorem fp_lrun {s : ByteArray} (hw : wordB s = true) : ∃ r : Nat, lrR s = r ∧ (1 < r → freeR s 1 0 = false) ∧ (((r : Int) == 0) = s.toList.isEmpty) ∧ (2 < r → freeR s 2 0 = false) ∧ r ≤ s.size := by
  obtain ⟨r, h1, h2, h3, h4⟩ := fp_run hw
  refine ⟨r, h1, fun h => by rw [fp_free hw, h2 h]; rfl, ?_, fun h => by rw [fp_free hw, h4 h]; rfl, ?_⟩
  · rw [Bool.eq_iff_iff, beq_iff_eq, List.isEmpty_iff]
    have e : s.toList = [] ↔ s.size = 0 := by
      rw [ByteArray.toList_eq, ← List.length_eq_zero_iff]
      simp
    rw [e, ← h3]
    omega
  · have : lrR s = ((lrTo s s.size).1 : Int) := if_pos hw
    have h5 := (lr_le s s.size).1
    omega
theorem pw_imgs {l : List ByteArray} (hl : substB l = true) : ∀ x ∈ l, x.size ≤ 1048576 := fun x hx => by
  obtain ⟨k, hk, rfl⟩ := List.mem_iff_getElem.1 hx
  have := (img_parts ((subst_parts hl).2.2 k hk)).2.1
  omega
end Go.Proofs.Ythckpgfhldocdaa

/- Maps whose keys are a text and a number of one byte beside it: what such a map holds, as a list of keys without repeats. No condition but lengths that a text can have. -/
namespace Go.Proofs.Ythckpgfhldocdaa
open Go.RowKit Go.Maps

abbrev FK := ByteArray × Int
abbrev fKey (p : FK) : Value := .agg #[.string p.1, .int .u8 p.2]
def fLit (p : FK) : Lit := .string (keyBytes [.string p.1.data.toList, .int .u8 p.2])
def FOk (p : FK) : Prop := p.1.size ≤ maxLen ∧ 0 ≤ p.2 ∧ p.2 ≤ 255
theorem u8_wf {z : Int} : (Lit.int .u8 z).wf = true ↔ 0 ≤ z ∧ z ≤ 255 := by
  simp [Lit.wf, IntKind.min, IntKind.max, IntKind.signed, IntKind.bits]

/-- what the program's type of keys is -/
structure FTypes (P : Program) (k tw tb : TypeId) : Prop where
  key : P.keyType k = true
  cells : P.cellsOf k = 2
  c1 : P.cellsOf tw = 1
  c2 : P.cellsOf tb = 1
  uw : P.underlying tw = some .string
  ub : P.underlying tb = some (.int .u8)
  row : k < P.types.size
  str : ∃ fs, P.underlying k = some (.struct fs) ∧ fs.toList.map (fun f => (f.type, f.offset)) = [(tw, 0), (tb, 1)] ∧ fs.toList.all (·.name != "_") = true

theorem two_of_map {α β : Type} {f : α → β} {l : List α} {x y : β} (h : l.map f = [x, y]) : ∃ a b, l = [a, b] ∧ f a = x ∧ f b = y := by
  rcases l with _ | ⟨a, _ | ⟨b, _ | ⟨c, l⟩⟩⟩ <;> simp at h
  exact ⟨a, b, rfl, h.1, h.2⟩
theorem FTypes.lits {P : Program} {k tw tb : TypeId} (T : FTypes P k tw tb) (m : Nat) (x y : Value) : P.keyLits (m + 2) k [x, y] =
    match x, y with
    | .string s, .int q z => if s.size ≤ maxLen ∧ q = .u8 ∧ (Lit.int .u8 z).wf = true then some [.string s.data.toList, .int .u8 z] else none
    | _, _ => none := by
  obtain ⟨fs, hu, hf, hn⟩ := T.str
  obtain ⟨fl⟩ := fs
  obtain ⟨f1, f2, rfl, e1, e2⟩ := two_of_map hf
  injection e1 with a1 a2
  injection e2 with b1 b2
  have hn' : (#[f1, f2] : Array _).all (·.name != "_") = true := by simpa using hn
  unfold Program.keyLits
  rw [hu]
  simp only [List.length_cons, List.length_nil, T.cells, hn', and_self, if_true]
  simp only [List.mapM_cons, List.mapM_nil, a1, a2, b1, b2, T.c1, T.c2]
  unfold Program.keyLits
  rw [T.uw, T.ub]
  cases x <;> cases y <;> simp
  split <;> split <;> simp_all

theorem FTypes.of {P : Program} {k tw tb : TypeId} (T : FTypes P k tw tb) (p : FK) (h : FOk p) : keyOf P k (fKey p) = some (fLit p) := by
  obtain ⟨m, hm⟩ : ∃ m, P.types.size + 1 = m + 2 := ⟨P.types.size - 1, by have h0 : 0 < P.types.size := Nat.lt_of_le_of_lt (Nat.zero_le _) T.row; omega⟩
  obtain ⟨fs, hu, _, _⟩ := T.str
  have hform : (fKey p).formed P k = true := by simp [Value.formed, hu, T.cells]
  unfold keyOf
  rw [hu]
  simp only
  rw [hm, T.key, hform]
  rw [show (fKey p).cells.toList = [.string p.1, .int .u8 p.2] from rfl, T.lits]
  simp only
  rw [if_pos (by rfl), if_pos ⟨h.1, trivial, u8_wf.2 h.2⟩]
  rfl

theorem FTypes.inv {P : Program} {k tw tb : TypeId} (T : FTypes P k tw tb) {v : Value} {l : Lit} (h : keyOf P k v = some l) : ∃ p : FK, v = fKey p ∧ FOk p ∧ l = fLit p := by
  obtain ⟨m, hm⟩ : ∃ m, P.types.size + 1 = m + 2 := ⟨P.types.size - 1, by have h0 : 0 < P.types.size := Nat.lt_of_le_of_lt (Nat.zero_le _) T.row; omega⟩
  obtain ⟨fs, hu, _, _⟩ := T.str
  have h0 := h
  unfold keyOf at h0
  rw [hu] at h0
  simp only at h0
  split at h0
  case isFalse => cases h0
  rename_i hk
  have hform := (Bool.and_eq_true_iff.1 hk).2
  cases v <;> simp [Value.formed, hu, T.cells] at hform
  rename_i xs
  obtain ⟨xl⟩ := xs
  rcases xl with _ | ⟨x, _ | ⟨y, _ | ⟨z, l⟩⟩⟩ <;> simp at hform
  rw [hm, show (Value.agg ⟨[x, y]⟩).cells.toList = [x, y] from rfl, T.lits] at h0
  cases x <;> cases y <;> simp at h0
  obtain ⟨⟨h1, rfl, h2⟩, rfl⟩ := h0
  exact ⟨(_, _), rfl, ⟨h1, u8_wf.1 h2⟩, rfl⟩

/-- of this program -/
abbrev fK : TypeId := 65
theorem fT : FTypes Try.prog fK 45 5 where
  key := by kernel_rfl
  cells := by kernel_rfl
  c1 := by kernel_rfl
  c2 := by kernel_rfl
  uw := Try.underlying45
  ub := Try.underlying5
  row := of_decide_eq_true (by kernel_rfl)
  str := ⟨_, Try.underlying65, by kernel_rfl, by kernel_rfl⟩
theorem fk_laid : laidOutB Try.prog = true := by kernel_rfl
theorem fk_law : Keyed Try.prog fK := Keyed.of_law (deep_law_laid fk_laid (m := 3) (by omega) fT.row (by kernel_rfl) (by rw [Try.underlying65]))
theorem fKey_inj {p q : FK} (e : fKey p = fKey q) : p = q := by
  injection e with e
  have e1 : (#[.string p.1, .int .u8 p.2] : Array Value).toList = [.string q.1, .int .u8 q.2] := by rw [e]
  injection e1 with e1 e2
  injection e2 with e2 _
  injection e1 with e1
  injection e2 with _ e2
  exact Prod.ext e1 e2
theorem FTypes.lit_inj {P : Program} {k tw tb : TypeId} (T : FTypes P k tw tb) (K : Keyed P k) {p q : FK} (hp : FOk p) (hq : FOk q) (h : fLit p = fLit q) : p = q := by
  have h1 := T.of p hp
  have h2 := T.of q hq
  rw [← h] at h2
  exact fKey_inj (K.inj h1 h2)
theorem fLit_key (p : FK) : WideAt.IsKeyLit (fLit p) := trivial

/-! ### what a map holds -/
/-- D has just the keys L, each once, and at each key what g says -/
structure Rep (D : DataW Empty) (L : List FK) (g : FK → Lit) : Prop where
  nodup : L.Nodup
  size : Maps.size D = L.length
  ok : ∀ p ∈ L, FOk p
  has : ∀ p ∈ L, Maps.has D (fLit p) = true
  at' : ∀ p ∈ L, ∀ z, D.atKey (fLit p) z = .lit (g p)
  all : ∀ l, Maps.has D l = true → ∃ p ∈ L, l = fLit p

theorem rep_empty (g : FK → Lit) : Rep (.map []) [] g :=
  ⟨List.nodup_nil, rfl, by simp, by simp, by simp, fun l h => by simp [Maps.has] at h⟩

section
variable {P : Program} {k tw tb e : TypeId} {w : World} {b n : Nat} {D : DataW Empty} {L : List FK} {g : FK → Lit}

theorem Rep.mem (h : Rep D L g) (T : FTypes P k tw tb) (K : Keyed P k) {p : FK} (hp : FOk p) : Maps.has D (fLit p) = true ↔ p ∈ L := by
  constructor
  · intro hh
    obtain ⟨q, hq, e⟩ := h.all _ hh
    rw [T.lit_inj K hp (h.ok q hq) e]
    exact hq
  · exact h.has p

theorem Rep.put (h : Rep D L g) (T : FTypes P k tw tb) (K : Keyed P k) (ht : Tidy D) {p : FK} (hp : FOk p) (g' : FK → Lit) (hg : ∀ q ∈ L, q ≠ p → g' q = g q) :
    ∃ L', Rep (D.put (fLit p) (.lit (g' p))) L' g' ∧ (∀ q, q ∈ L' ↔ q = p ∨ q ∈ L) ∧ L'.length ≤ L.length + 1 ∧ (p ∈ L → L' = L) := by
  have hput : Maps.has (D.put (fLit p) (.lit (g' p))) (fLit p) = true := has_put_same ht.isMap (fLit_key p) _
  have hne : ∀ {q : FK}, q ∈ L → q ≠ p → fLit q ≠ fLit p := fun hq hn e => hn (T.lit_inj K (h.ok _ hq) hp e)
  have hat : ∀ q, (q = p ∨ q ∈ L) → ∀ z, (D.put (fLit p) (.lit (g' p))).atKey (fLit q) z = .lit (g' q) := by
    intro q hq z
    by_cases e : q = p
    · subst e
      exact atKey_put_same ht.isMap (fLit_key _) _ _
    · have hq' := hq.resolve_left e
      rw [atKey_put_other (hne hq' e), h.at' q hq', hg q hq' e]
  have hhas : ∀ q, (q = p ∨ q ∈ L) → Maps.has (D.put (fLit p) (.lit (g' p))) (fLit q) = true := by
    intro q hq
    by_cases e : q = p
    · subst e; exact hput
    · have hq' := hq.resolve_left e
      rw [has_put_other (hne hq' e)]
      exact h.has q hq'
  have hall : ∀ l, Maps.has (D.put (fLit p) (.lit (g' p))) l = true → ∃ q, (q = p ∨ q ∈ L) ∧ l = fLit q := by
    intro l hl
    by_cases e : l = fLit p
    · exact ⟨p, .inl rfl, e⟩
    · rw [has_put_other e] at hl
      obtain ⟨q, hq, e2⟩ := h.all l hl
      exact ⟨q, .inr hq, e2⟩
  have hsz := size_put ht (k := fLit p) (.lit (g' p))
  by_cases hm : p ∈ L
  · rw [if_pos (h.has p hm)] at hsz
    refine ⟨L, ⟨h.nodup, hsz.trans h.size, h.ok, fun q hq => hhas q (.inr hq), fun q hq => hat q (.inr hq), fun l hl => ?_⟩, fun q => ⟨.inr, fun hq => ?_⟩, by omega, fun _ => rfl⟩
    · obtain ⟨q, hq, e⟩ := hall l hl
      refine ⟨q, ?_, e⟩
      rcases hq with rfl | hq
      · exact hm
      · exact hq
    · rcases hq with rfl | hq
      · exact hm
      · exact hq
  · rw [if_neg (fun hh => hm ((h.mem T K hp).1 hh))] at hsz
    refine ⟨p :: L, ⟨List.nodup_cons.2 ⟨hm, h.nodup⟩, by rw [hsz, h.size]; rfl, fun q hq => ?_, fun q hq => hhas q (List.mem_cons.1 hq), fun q hq => hat q (List.mem_cons.1 hq), fun l hl => ?_⟩, fun q => List.mem_cons, by simp, fun hh => absurd hh hm⟩
    · rcases List.mem_cons.1 hq with rfl | hq
      · exact hp
      · exact h.ok q hq
    · obtain ⟨q, hq, e⟩ := hall l hl
      exact ⟨q, List.mem_cons.2 hq, e⟩

theorem Rep.del (h : Rep D L g) (T : FTypes P k tw tb) (K : Keyed P k) (ht : Tidy D) {p : FK} (hp : p ∈ L) :
    ∃ L', Rep (D.del (fLit p)) L' g ∧ (∀ q, q ∈ L' ↔ q ∈ L ∧ q ≠ p) ∧ L'.length + 1 = L.length := by
  obtain ⟨A, B, rfl⟩ := List.append_of_mem hp
  have hnd := h.nodup
  rw [List.nodup_append] at hnd
  obtain ⟨n1, n2, n3⟩ := hnd
  obtain ⟨n4, n5⟩ := List.nodup_cons.1 n2
  have hmem : ∀ q, q ∈ A ++ B ↔ q ∈ A ++ p :: B ∧ q ≠ p := by
    intro q
    simp only [List.mem_append, List.mem_cons]
    constructor
    · rintro (hq | hq)
      · exact ⟨.inl hq, fun e => n3 q hq p (by simp) e⟩
      · exact ⟨.inr (.inr hq), fun e => n4 (e ▸ hq)⟩
    · rintro ⟨hq | hq | hq, hn⟩
      · exact .inl hq
      · exact absurd hq hn
      · exact .inr hq
  have hne : ∀ {q : FK}, q ∈ A ++ p :: B → q ≠ p → fLit q ≠ fLit p := fun hq hn e => hn (T.lit_inj K (h.ok _ hq) (h.ok _ hp) e)
  have hsz := size_del ht (k := fLit p)
  rw [if_pos (h.has p hp), h.size] at hsz
  refine ⟨A ++ B, ⟨List.nodup_append.2 ⟨n1, n5, fun a ha c hc => n3 a ha c (List.mem_cons_of_mem _ hc)⟩, ?_, fun q hq => h.ok q ((hmem q).1 hq).1, fun q hq => ?_, fun q hq z => ?_, fun l hl => ?_⟩, hmem, by simp; omega⟩
  · simp at hsz ⊢
    omega
  · rw [has_del_other (hne ((hmem q).1 hq).1 ((hmem q).1 hq).2)]
    exact h.has q ((hmem q).1 hq).1
  · rw [atKey_del_other (hne ((hmem q).1 hq).1 ((hmem q).1 hq).2)]
    exact h.at' q ((hmem q).1 hq).1 z
  · by_cases e : l = fLit p
    · rw [e, has_del_same] at hl
      cases hl
    · rw [has_del_other e] at hl
      obtain ⟨q, hq, e2⟩ := h.all l hl
      exact ⟨q, (hmem q).2 ⟨hq, fun e3 => e (by rw [e2, e3])⟩, e2⟩
end

end Go.Proofs.Ythckpgfhldocdaa
