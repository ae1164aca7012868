/- Texts put together. -/
import Derived.Test.YtjmijedfmiplfaaMgA6
/- A letter with an image, and how long the word is that it becomes. No program in it. -/
namespace Go.Proofs.Ytjmijedfmiplfaa
open Go.RowKit

def letN (t : ByteArray) : Nat := (t.data.toList.getD 0 0).toNat - 97
def letOk (l : List ByteArray) (t : ByteArray) : Bool := (decide (t.size = 1) && wordB t) && decide (letN t < l.length)
/-- the index of a letter with an image, or -1 -/
def letR (l : List ByteArray) (t : ByteArray) : Int := if letOk l t = true then (letN t : Int) else -1
theorem letN_eq {t : ByteArray} (h1 : t.size = 1) : letN t = (t[0]'(by omega)).toNat - 97 := by
  unfold letN
  have h0 : 0 < t.data.toList.length := by simp; omega
  rw [List.getD_eq_getElem?_getD, List.getElem?_eq_getElem h0]
  rfl
theorem letN_at {t : ByteArray} (h1 : t.size = 1) (h2 : wordB t = true) : (t[0]'(by omega)).toNat = 97 + letN t ∧ letN t ≤ 3 := by
  obtain ⟨a, b⟩ := word_at h2 0 (by omega)
  rw [letN_eq h1]
  omega
/-- one of one letter, none of the others -/
def unitC (n k : Nat) : List Int := (List.replicate n (0 : Int)).set k 1
theorem unitC_length (n k : Nat) : (unitC n k).length = n := by simp [unitC]
def isum (cs : List Int) : Nat → Int
  | 0 => 0
  | k + 1 => isum cs k + cs.getD k 0
/-- what LengthAfter is to return -/
def lenR (l : List ByteArray) (t : ByteArray) (n : Int) : Int :=
  if (letOk l t && substB l) = true then (if caOk l (unitC l.length (letN t)) n = true then isum (caR l (unitC l.length (letN t)) n) l.length else -1) else -1
theorem caR_small {l : List ByteArray} {cs : List Int} {n : Int} (h : caOk l cs n = true) : (caR l cs n).length = l.length ∧ ∀ k, k < l.length → 0 ≤ (caR l cs n).getD k 0 ∧ (caR l cs n).getD k 0 ≤ 1000000000000 := by
  have e : caR l cs n = itC l cs n.toNat := if_pos h
  have h' := h
  unfold caOk at h'
  simp only [Bool.and_eq_true, decide_eq_true_eq] at h'
  rw [e]
  exact ⟨itC_length h'.1.1.2 _, itC_small h'.1.1.1 h'.1.1.2 h'.2.1 _ h'.2.2⟩
theorem isum_bound {cs : List Int} {n : Nat} (h : ∀ k, k < n → 0 ≤ cs.getD k 0 ∧ cs.getD k 0 ≤ 1000000000000) : ∀ k, k ≤ n → 0 ≤ isum cs k ∧ isum cs k ≤ k * 1000000000000
  | 0, _ => by simp [isum]
  | k + 1, hk => by
    have ih := isum_bound h k (by omega)
    have := h k (by omega)
    unfold isum
    omega
end Go.Proofs.Ytjmijedfmiplfaa

/- Which letters are reached from a letter. No program in it. -/
namespace Go.Proofs.Ytjmijedfmiplfaa
open Go.RowKit

/-- the letter i stands in the image j -/
def Occ (l : List ByteArray) (j i : Nat) : Prop := ∃ (hj : j < l.length) (p : Nat) (hp : p < l[j].size), l[j][p].toNat = 97 + i
inductive Reached (l : List ByteArray) (k : Nat) : Nat → Prop
  | refl : Reached l k k
  | step {j i : Nat} : Reached l k j → Occ l j i → Reached l k i

def got (s : List Bool) (i : Nat) : Bool := s.getD i false
theorem got_set (s : List Bool) (i j : Nat) (hi : i < s.length) : got (s.set i true) j = (got s j || decide (j = i)) := by
  unfold got
  rw [List.getD_eq_getElem?_getD, List.getD_eq_getElem?_getD, List.getElem?_set]
  by_cases h : i = j
  · subst h
    rw [if_pos rfl, if_pos hi]
    simp
  · rw [if_neg h, decide_eq_false (fun e => h e.symm), Bool.or_false]
def markW (s : List Bool) (w : List UInt8) : List Bool := w.foldl (fun s c => s.set (c.toNat - 97) true) s
theorem markW_length (w : List UInt8) : ∀ s : List Bool, (markW s w).length = s.length := by
  induction w with
  | nil => intro s; rfl
  | cons c w ih => intro s; show (markW (s.set _ true) w).length = _; rw [ih]; simp
theorem markW_snoc (s : List Bool) (w : List UInt8) (c : UInt8) : markW s (w ++ [c]) = (markW s w).set (c.toNat - 97) true := by
  unfold markW
  rw [List.foldl_append]
  rfl
theorem markW_got (w : List UInt8) : ∀ (s : List Bool), (∀ c ∈ w, c.toNat - 97 < s.length) → ∀ i, got (markW s w) i = true ↔ (got s i = true ∨ ∃ c ∈ w, c.toNat - 97 = i) := by
  induction w with
  | nil => intro s _ i; simp [markW]
  | cons c w ih =>
    intro s h i
    show got (markW (s.set (c.toNat - 97) true) w) i = true ↔ _
    rw [ih _ (fun x hx => by simpa using h x (List.mem_cons_of_mem _ hx)) i, got_set _ _ _ (h c (List.mem_cons_self ..))]
    simp only [Bool.or_eq_true, decide_eq_true_eq, List.mem_cons, exists_eq_or_imp]
    constructor
    · rintro ((a | a) | a)
      · exact .inl a
      · exact .inr (.inl a.symm)
      · exact .inr (.inr a)
    · rintro (a | a | a)
      · exact .inl (.inl a)
      · exact .inl (.inr a.symm)
      · exact .inr a
/-- one pass over the first images -/
def passTo (l : List ByteArray) (s : List Bool) : Nat → List Bool
  | 0 => s
  | i + 1 => if got (passTo l s i) i = true then markW (passTo l s i) (l.getD i ⟨#[]⟩).data.toList else passTo l s i
theorem passTo_yes {l : List ByteArray} {s : List Bool} {i : Nat} (hi : i < l.length) (h : got (passTo l s i) i = true) : passTo l s (i + 1) = markW (passTo l s i) l[i].data.toList := by
  show (if _ then _ else _) = _
  rw [if_pos h, List.getD_eq_getElem?_getD, List.getElem?_eq_getElem hi]
  rfl
theorem passTo_no {l : List ByteArray} {s : List Bool} {i : Nat} (h : got (passTo l s i) i = false) : passTo l s (i + 1) = passTo l s i := by
  show (if _ then _ else _) = _
  rw [if_neg (by rw [h]; decide)]
theorem passTo_length (l : List ByteArray) (s : List Bool) : ∀ i, (passTo l s i).length = s.length
  | 0 => rfl
  | i + 1 => by
    show (if _ then _ else _ : List Bool).length = _
    split
    · rw [markW_length, passTo_length l s i]
    · exact passTo_length l s i
theorem img_letters {l : List ByteArray} (hl : substB l = true) {i : Nat} (hi : i < l.length) : ∀ c ∈ l[i].data.toList, 97 ≤ c.toNat ∧ c.toNat < 97 + l.length := by
  obtain ⟨_, _, h3, h4⟩ := img_parts ((subst_parts hl).2.2 i hi)
  exact word_mem h3 h4
theorem occ_iff {l : List ByteArray} (hl : substB l = true) {j : Nat} (hj : j < l.length) (i : Nat) : Occ l j i ↔ ∃ c ∈ l[j].data.toList, c.toNat - 97 = i := by
  constructor
  · rintro ⟨_, p, hp, e⟩
    refine ⟨l[j][p], ?_, by omega⟩
    have : l[j][p] = l[j].data.toList[p]'(by simpa using hp) := rfl
    rw [this]; exact List.getElem_mem _
  · rintro ⟨c, hc, e⟩
    have h1 := (img_letters hl hj c hc).1
    obtain ⟨p, hp, rfl⟩ := List.mem_iff_getElem.1 hc
    exact ⟨hj, p, by simpa using hp, by show (l[j].data.toList[p]).toNat = _; omega⟩
theorem passTo_got {l : List ByteArray} {s : List Bool} (hl : substB l = true) (hs : s.length = l.length) {i : Nat} (hi : i < l.length) (x : Nat) : got (passTo l s (i + 1)) x = true ↔ (got (passTo l s i) x = true ∨ (got (passTo l s i) i = true ∧ Occ l i x)) := by
  by_cases h : got (passTo l s i) i = true
  · rw [passTo_yes hi h, markW_got _ _ (fun c hc => by have := img_letters hl hi c hc; rw [passTo_length]; omega), occ_iff hl hi]
    simp [h]
  · rw [passTo_no (by simpa using h)]
    simp [h]
theorem passTo_mono {l : List ByteArray} {s : List Bool} (hl : substB l = true) (hs : s.length = l.length) {x : Nat} (h : got s x = true) : ∀ i, i ≤ l.length → got (passTo l s i) x = true
  | 0, _ => h
  | i + 1, hi => (passTo_got hl hs (by omega) x).2 (.inl (passTo_mono hl hs h i (by omega)))
theorem passTo_sound {l : List ByteArray} {s : List Bool} {k : Nat} (hl : substB l = true) (hs : s.length = l.length) (h : ∀ x, got s x = true → Reached l k x) : ∀ i, i ≤ l.length → ∀ x, got (passTo l s i) x = true → Reached l k x
  | 0, _ => h
  | i + 1, hi => fun x hx => by
    have ih := passTo_sound hl hs h i (by omega)
    rcases (passTo_got hl hs (by omega) x).1 hx with a | ⟨a, b⟩
    · exact ih x a
    · exact .step (ih i a) b
theorem passTo_full {l : List ByteArray} {s : List Bool} (hl : substB l = true) (hs : s.length = l.length) {j x : Nat} (hj : got s j = true) (ho : Occ l j x) : ∀ i, i ≤ l.length → j < i → got (passTo l s i) x = true
  | 0, _, h => absurd h (by omega)
  | i + 1, hi, h => by
    by_cases e : j = i
    · subst e
      exact (passTo_got hl hs (by omega) x).2 (.inr ⟨passTo_mono hl hs hj j (by omega), ho⟩)
    · exact (passTo_got hl hs (by omega) x).2 (.inl (passTo_full hl hs hj ho i (by omega) (by omega)))
def passN (l : List ByteArray) (s : List Bool) : Nat → List Bool
  | 0 => s
  | r + 1 => passTo l (passN l s r) l.length
theorem passN_length (l : List ByteArray) (s : List Bool) : ∀ r, (passN l s r).length = s.length
  | 0 => rfl
  | r + 1 => by show (passTo l (passN l s r) l.length).length = _; rw [passTo_length, passN_length l s r]
theorem cnt_mono : ∀ (s t : List Bool), s.length = t.length → (∀ i, got s i = true → got t i = true) → s.count true ≤ t.count true ∧ (s.count true = t.count true → s = t)
  | [], [], _, _ => by simp
  | [], _ :: _, h, _ => by simp at h
  | _ :: _, [], h, _ => by simp at h
  | a :: s, b :: t, h, hm => by
    obtain ⟨ih1, ih2⟩ := cnt_mono s t (by simpa using h) (fun i hi => by have := hm (i + 1); simp [got] at this hi ⊢; exact this hi)
    have h0 := hm 0
    simp [got] at h0
    cases a <;> cases b
    · exact ⟨by simpa using ih1, fun e => by rw [ih2 (by simpa using e)]⟩
    · refine ⟨by simp; omega, fun e => ?_⟩
      simp at e; omega
    · simp at h0
    · exact ⟨by simpa using ih1, fun e => by rw [ih2 (by simpa using e)]⟩
def Shut (l : List ByteArray) (s : List Bool) : Prop := ∀ j x, got s j = true → Occ l j x → got s x = true
theorem pass_step {l : List ByteArray} {s : List Bool} (hl : substB l = true) (hs : s.length = l.length) : (Shut l s → passTo l s l.length = s) ∧ (¬ Shut l s → s.count true + 1 ≤ (passTo l s l.length).count true) := by
  have hm : ∀ i, got s i = true → got (passTo l s l.length) i = true := fun i h => passTo_mono hl hs h _ (Nat.le_refl _)
  have hc := cnt_mono s (passTo l s l.length) (passTo_length ..).symm hm
  constructor
  · intro h
    have : ∀ i, i ≤ l.length → passTo l s i = s := by
      intro i
      induction i with
      | zero => intro _; rfl
      | succ i ih =>
        intro hi
        have e := ih (by omega)
        by_cases hg : got s i = true
        · refine (cnt_mono s (passTo l s (i + 1)) (passTo_length ..).symm (fun x hx => passTo_mono hl hs hx _ hi)).2 ?_ |>.symm
          refine Nat.le_antisymm (cnt_mono s (passTo l s (i + 1)) (passTo_length ..).symm (fun x hx => passTo_mono hl hs hx _ hi)).1 ?_
          refine (cnt_mono (passTo l s (i + 1)) s (passTo_length ..) (fun x hx => ?_)).1
          rcases (passTo_got hl hs (by omega) x).1 hx with a | ⟨a, b⟩
          · rwa [e] at a
          · exact h i x hg b
        · rw [passTo_no (by rw [e]; simpa using hg), e]
    exact this _ (Nat.le_refl _)
  · intro h
    rcases Nat.lt_or_eq_of_le hc.1 with a | a
    · omega
    · exact absurd (fun j x hj ho => by
        have e := hc.2 a
        rw [e]
        have hjl : j < l.length := by obtain ⟨h1, _⟩ := ho; exact h1
        exact passTo_full hl hs hj ho _ (Nat.le_refl _) hjl) h
theorem passN_shut {l : List ByteArray} {s : List Bool} (hl : substB l = true) (hs : s.length = l.length) (h1 : 1 ≤ s.count true) : ∀ r, Shut l (passN l s r) ∨ r + 1 ≤ (passN l s r).count true
  | 0 => .inr h1
  | r + 1 => by
    have hr : (passN l s r).length = l.length := by rw [passN_length]; exact hs
    obtain ⟨p1, p2⟩ := pass_step hl hr
    rcases passN_shut hl hs h1 r with a | a
    · left
      show Shut l (passTo l (passN l s r) l.length)
      rw [p1 a]; exact a
    · by_cases hsh : Shut l (passN l s r)
      · left
        show Shut l (passTo l (passN l s r) l.length)
        rw [p1 hsh]; exact hsh
      · right
        have := p2 hsh
        show r + 1 + 1 ≤ (passTo l (passN l s r) l.length).count true
        omega
def oneB (n k : Nat) : List Bool := (List.replicate n false).set k true
theorem oneB_length (n k : Nat) : (oneB n k).length = n := by simp [oneB]
theorem oneB_got (n k : Nat) (hk : k < n) (i : Nat) : got (oneB n k) i = true ↔ i = k := by
  unfold oneB
  rw [got_set _ _ _ (by simpa using hk)]
  have : got (List.replicate n false) i = false := by
    unfold got
    rw [List.getD_eq_getElem?_getD, List.getElem?_replicate]
    split <;> rfl
  rw [this]
  simp
/-- four passes reach all that can be reached -/
theorem reach_iff {l : List ByteArray} {k : Nat} (hl : substB l = true) (hk : k < l.length) (i : Nat) : got (passN l (oneB l.length k) 4) i = true ↔ Reached l k i := by
  have hs : (oneB l.length k).length = l.length := oneB_length _ _
  have h1 : 1 ≤ (oneB l.length k).count true := by
    refine List.count_pos_iff.2 ?_
    have : (oneB l.length k)[k]'(by rw [hs]; exact hk) = true := by simp [oneB]
    rw [← this]; exact List.getElem_mem _
  have hsh : Shut l (passN l (oneB l.length k) 4) := by
    rcases passN_shut hl hs h1 4 with a | a
    · exact a
    · have h2 : (passN l (oneB l.length k) 4).count true ≤ (passN l (oneB l.length k) 4).length := List.count_le_length
      rw [passN_length, hs] at h2
      have := (subst_parts hl).2.1
      omega
  have hmono : ∀ r x, got (oneB l.length k) x = true → got (passN l (oneB l.length k) r) x = true := by
    intro r
    induction r with
    | zero => intro x h; exact h
    | succ r ih => intro x h; exact passTo_mono hl (by rw [passN_length]; exact hs) (ih x h) _ (Nat.le_refl _)
  have hsound : ∀ r x, got (passN l (oneB l.length k) r) x = true → Reached l k x := by
    intro r
    induction r with
    | zero =>
      intro x h
      rw [(oneB_got _ k hk x).1 h]
      exact .refl
    | succ r ih => intro x h; exact passTo_sound hl (by rw [passN_length]; exact hs) ih _ (Nat.le_refl _) x h
  constructor
  · exact hsound 4 i
  · intro h
    induction h with
    | refl => exact hmono 4 k ((oneB_got _ k hk k).2 rfl)
    | step _ ho ih => exact hsh _ _ ih ho
def outTo (s : Nat → Bool) : Nat → List UInt8
  | 0 => []
  | j + 1 => outTo s j ++ if s j = true then [letterN j] else []
/-- what ReachedBy is to return -/
noncomputable def reachR (l : List ByteArray) (t : ByteArray) : ByteArray := if (letOk l t && substB l) = true then ⟨(outTo (fun i => @decide (Reached l (letN t) i) (Classical.propDecidable _)) l.length).toArray⟩ else ⟨#[]⟩
theorem outTo_congr {s t : Nat → Bool} : ∀ n, (∀ i, i < n → s i = t i) → outTo s n = outTo t n
  | 0, _ => rfl
  | n + 1, h => by
    unfold outTo
    rw [outTo_congr n (fun i hi => h i (by omega)), h n (by omega)]
end Go.Proofs.Ytjmijedfmiplfaa

/- Growing letters and the fixed point of a substitution. No program in it. -/
namespace Go.Proofs.Ytjmijedfmiplfaa
open Go.RowKit

/-- the index of an image's first letter -/
def firstN (l : List ByteArray) (k : Nat) : Nat := ((l.getD k ⟨#[]⟩).data.toList.getD 0 0).toNat - 97
/-- the letter is growing -/
def growB (l : List ByteArray) (k : Nat) : Bool := decide (1 < (l.getD k ⟨#[]⟩).size) && decide (firstN l k = k)
theorem getD_l {l : List ByteArray} {k : Nat} (hk : k < l.length) : l.getD k ⟨#[]⟩ = l[k] := by
  rw [List.getD_eq_getElem?_getD, List.getElem?_eq_getElem hk]; rfl
theorem first_at {l : List ByteArray} (hl : substB l = true) {k : Nat} (hk : k < l.length) : ∃ h0 : 0 < l[k].size, l[k][0].toNat = 97 + firstN l k ∧ firstN l k < l.length := by
  have h1 := (img_parts ((subst_parts hl).2.2 k hk)).1
  refine ⟨by omega, ?_⟩
  have hm : l[k][0] ∈ l[k].data.toList := by
    have : l[k][0] = l[k].data.toList[0]'(by simp; omega) := rfl
    rw [this]; exact List.getElem_mem _
  have h2 := img_letters hl hk _ hm
  have e : firstN l k = l[k][0].toNat - 97 := by
    unfold firstN
    rw [getD_l hk, List.getD_eq_getElem?_getD, List.getElem?_eq_getElem (by simp; omega)]
    rfl
  omega
/-- what GrowingLetters is to return -/
def growR (l : List ByteArray) : ByteArray := if substB l = true then ⟨(outTo (growB l) l.length).toArray⟩ else ⟨#[]⟩
def growOk (l : List ByteArray) (t : ByteArray) : Bool := (letOk l t && substB l) && growB l (letN t)
/-- the index of a growing letter, or -1 -/
def glR (l : List ByteArray) (t : ByteArray) : Int := if growOk l t = true then (letN t : Int) else -1
theorem grow_parts {l : List ByteArray} {t : ByteArray} (h : growOk l t = true) : letN t < l.length ∧ substB l = true ∧ growB l (letN t) = true := by
  unfold growOk letOk at h
  simp only [Bool.and_eq_true, decide_eq_true_eq] at h
  exact ⟨h.1.1.2, h.1.2, h.2⟩

/-- a word under the substitution, n times -/
def iterL (l : List ByteArray) (w : List UInt8) : Nat → List UInt8
  | 0 => w
  | n + 1 => applyL l (iterL l w n)
theorem applyL_app (l : List ByteArray) (a b : List UInt8) : applyL l (a ++ b) = applyL l a ++ applyL l b := by
  unfold applyL; rw [List.flatMap_append]
theorem applyL_pre {l : List ByteArray} {a b : List UInt8} (h : a <+: b) : applyL l a <+: applyL l b := by
  obtain ⟨c, rfl⟩ := h
  rw [applyL_app]
  exact List.prefix_append _ _
/-- all letters have an image -/
def Within (l : List ByteArray) (w : List UInt8) : Prop := ∀ c ∈ w, 97 ≤ c.toNat ∧ c.toNat < 97 + l.length
theorem within_apply {l : List ByteArray} (hl : substB l = true) {w : List UInt8} (hw : Within l w) : Within l (applyL l w) := by
  intro c hc
  unfold applyL at hc
  obtain ⟨x, hx, hc⟩ := List.mem_flatMap.1 hc
  obtain ⟨h1, h2⟩ := hw x hx
  rw [imgOf_at l x (x.toNat - 97) (by omega) (by omega)] at hc
  exact img_letters hl _ c hc
theorem apply_grows {l : List ByteArray} (hl : substB l = true) {w : List UInt8} (hw : Within l w) : w.length ≤ (applyL l w).length := by
  induction w with
  | nil => simp
  | cons c w ih =>
    have ih := ih (fun x hx => hw x (List.mem_cons_of_mem _ hx))
    obtain ⟨h1, h2⟩ := hw c (List.mem_cons_self ..)
    have e : applyL l (c :: w) = imgOf l c ++ applyL l w := rfl
    rw [e, imgOf_at l c (c.toNat - 97) (by omega) (by omega), List.length_append, List.length_cons]
    have := (img_parts ((subst_parts hl).2.2 (c.toNat - 97) (by omega))).1
    have h3 : (l[c.toNat - 97]'(by omega)).data.toList.length = (l[c.toNat - 97]'(by omega)).size := by simp
    omega
section
variable {l : List ByteArray} {k : Nat} (hl : substB l = true) (hk : k < l.length) (hg : growB l k = true)
include hl hk hg
/-- the image of a growing letter begins with it and goes on -/
theorem grow_img : ∃ r, applyL l [letterN k] = letterN k :: r ∧ 1 ≤ r.length := by
  have h4 := (subst_parts hl).2.1
  unfold growB at hg
  rw [getD_l hk] at hg
  simp only [Bool.and_eq_true, decide_eq_true_eq] at hg
  obtain ⟨h0, e, _⟩ := first_at hl hk
  have e1 : applyL l [letterN k] = l[k].data.toList := by
    show imgOf l (letterN k) ++ [] = _
    rw [imgOf_at l _ k (letterN_toNat k (by omega)) hk, List.append_nil]
  have e2 : l[k][0] = letterN k := by
    apply UInt8.toNat.inj
    rw [letterN_toNat k (by omega), e, hg.2]
  have h3 : l[k].data.toList.length = l[k].size := by simp
  match hd : l[k].data.toList, h3 with
  | [], h3 => simp at h3; omega
  | c :: r, h3 =>
    refine ⟨r, ?_, by simp at h3; omega⟩
    rw [e1, hd]
    congr 1
    have : l[k][0] = l[k].data.toList[0]'(by omega) := rfl
    rw [← e2, this]
    simp [hd]
omit hg in
theorem iterL_within : ∀ n, Within l (iterL l [letterN k] n)
  | 0 => by
    intro c hc
    have h4 := (subst_parts hl).2.1
    have : c = letterN k := by simpa [iterL] using hc
    rw [this, letterN_toNat k (by omega)]
    omega
  | n + 1 => within_apply hl (iterL_within n)
theorem iterL_step : ∀ n, iterL l [letterN k] n <+: iterL l [letterN k] (n + 1)
  | 0 => by
    obtain ⟨r, e, _⟩ := grow_img hl hk hg
    show [letterN k] <+: applyL l [letterN k]
    rw [e]
    exact ⟨r, rfl⟩
  | n + 1 => applyL_pre (iterL_step n)
theorem iterL_mono (n m : Nat) : iterL l [letterN k] n <+: iterL l [letterN k] (n + m) := by
  induction m with
  | zero => exact List.prefix_refl _
  | succ m ih => exact ih.trans (iterL_step hl hk hg (n + m))
theorem iterL_head (n : Nat) : ∃ r, iterL l [letterN k] n = letterN k :: r := by
  obtain ⟨r, e⟩ := iterL_mono hl hk hg 0 n
  rw [Nat.zero_add] at e
  exact ⟨r, e.symm⟩
theorem iterL_long : ∀ n, n + 1 ≤ (iterL l [letterN k] n).length
  | 0 => by simp [iterL]
  | n + 1 => by
    have ih := iterL_long n
    obtain ⟨r, e⟩ := iterL_head hl hk hg n
    obtain ⟨q, e2, h2⟩ := grow_img hl hk hg
    have hw : Within l r := fun c hc => iterL_within hl hk n c (by rw [e]; exact List.mem_cons_of_mem _ hc)
    have := apply_grows hl hw
    show n + 1 + 1 ≤ (applyL l (iterL l [letterN k] n)).length
    rw [e] at ih ⊢
    rw [show letterN k :: r = [letterN k] ++ r from rfl, applyL_app, e2, List.length_append]
    simp at ih ⊢
    omega
end
/-- a start of the fixed point that begins with letter k -/
def IsPre (l : List ByteArray) (k : Nat) (p : List UInt8) : Prop := ∃ n, p <+: iterL l [letterN k] n
/-- the first n letters of the fixed point -/
def fixL (l : List ByteArray) (k n : Nat) : List UInt8 := (iterL l [letterN k] n).take n
section
variable {l : List ByteArray} {k : Nat}
theorem pre_apply {p : List UInt8} (h : IsPre l k p) : IsPre l k (applyL l p) := by
  obtain ⟨n, h⟩ := h
  exact ⟨n + 1, applyL_pre h⟩
theorem pre_of {p q : List UInt8} (h : IsPre l k q) (hp : p <+: q) : IsPre l k p := by
  obtain ⟨n, h⟩ := h
  exact ⟨n, hp.trans h⟩
variable (hl : substB l = true) (hk : k < l.length) (hg : growB l k = true)
include hl hk hg
theorem fixL_length (n : Nat) : (fixL l k n).length = n := by
  have := iterL_long hl hk hg n
  unfold fixL
  rw [List.length_take]
  omega
theorem pre_take {p : List UInt8} (h : IsPre l k p) (n : Nat) (hn : n ≤ p.length) : p.take n = fixL l k n := by
  obtain ⟨m, h⟩ := h
  have h1 := iterL_long hl hk hg n
  have a : p.take n <+: iterL l [letterN k] (n + m) := (List.take_prefix _ _).trans (by rw [Nat.add_comm]; exact h.trans (iterL_mono hl hk hg m n))
  have b : fixL l k n <+: iterL l [letterN k] (n + m) := (List.take_prefix _ _).trans (iterL_mono hl hk hg n m)
  have c : (p.take n).length = (fixL l k n).length := by
    rw [fixL_length hl hk hg, List.length_take]; omega
  exact (List.prefix_of_prefix_length_le a b (Nat.le_of_eq c)).eq_of_length c
end
theorem fixL_pre (l : List ByteArray) (k n : Nat) : IsPre l k (fixL l k n) := ⟨n, List.take_prefix _ _⟩
/-- what FixedPoint is to return -/
def fixOk (l : List ByteArray) (t : ByteArray) (n : Int) : Bool := growOk l t && (decide (0 ≤ n) && decide (n ≤ 400))
def fixR (l : List ByteArray) (t : ByteArray) (n : Int) : ByteArray := if fixOk l t n = true then ⟨(fixL l (letN t) n.toNat).toArray⟩ else ⟨#[]⟩
/-- what LetterAt is to return -/
def latOk (l : List ByteArray) (t : ByteArray) (n : Int) : Bool := growOk l t && (decide (0 ≤ n) && decide (n ≤ 10000))
def latR (l : List ByteArray) (t : ByteArray) (n : Int) : ByteArray := if latOk l t n = true then ⟨#[(fixL l (letN t) (n.toNat + 1)).getD n.toNat 97]⟩ else ⟨#[]⟩
/-- what IsFixedStart is to return -/
def oneOf (s : ByteArray) : ByteArray := s.extract 0 1
def fixStart (l : List ByteArray) (s : ByteArray) : Bool := decide (s.size = 0) || (fixOk l (oneOf s) s.size && decide (fixL l (letN (oneOf s)) s.size = s.data.toList))

/-- the first letter of the image, again and again -/
def goN (l : List ByteArray) (k : Nat) : Nat → Nat
  | 0 => k
  | n + 1 => firstN l (goN l k n)
theorem goN_lt {l : List ByteArray} (hl : substB l = true) {k : Nat} (hk : k < l.length) : ∀ n, goN l k n < l.length
  | 0 => hk
  | n + 1 => by
    obtain ⟨_, _, h⟩ := first_at hl (goN_lt hl hk n)
    exact h
/-- some letter comes back after n -/
def backB (l : List ByteArray) (n : Nat) : Bool := (List.range l.length).any fun k => decide (goN l k n = k)
/-- what PowerNeeded is to return -/
def powR (l : List ByteArray) : Int := if substB l = true then (if backB l 1 then 1 else if backB l 2 then 2 else if backB l 3 then 3 else 4) else 0
/-- the orbit of a letter -/
def orbTo (l : List ByteArray) (k : Nat) : Nat → List Nat
  | 0 => []
  | n + 1 => orbTo l k n ++ [goN l k n]
theorem orbTo_length (l : List ByteArray) (k : Nat) : ∀ n, (orbTo l k n).length = n
  | 0 => rfl
  | n + 1 => by unfold orbTo; rw [List.length_append, orbTo_length l k n]; rfl
theorem orbTo_mem (l : List ByteArray) (k : Nat) (x : Nat) : ∀ n, x ∈ orbTo l k n ↔ ∃ i, i < n ∧ goN l k i = x
  | 0 => by simp [orbTo]
  | n + 1 => by
    unfold orbTo
    rw [List.mem_append, orbTo_mem l k x n, List.mem_singleton]
    constructor
    · rintro (⟨i, h, e⟩ | e)
      · exact ⟨i, by omega, e⟩
      · exact ⟨n, by omega, e.symm⟩
    · rintro ⟨i, h, e⟩
      by_cases hi : i = n
      · subst hi; exact .inr e.symm
      · exact .inl ⟨i, by omega, e⟩
/-- how many letters stand in the orbit: the first n that comes back to an earlier one -/
def orbN (l : List ByteArray) (k : Nat) : Nat := if goN l k 1 ∈ orbTo l k 1 then 1 else if goN l k 2 ∈ orbTo l k 2 then 2 else if goN l k 3 ∈ orbTo l k 3 then 3 else 4
/-- what OrbitOfFirst is to return -/
def orbR (l : List ByteArray) (t : ByteArray) : ByteArray := if (letOk l t && substB l) = true then ⟨((orbTo l (letN t) (orbN l (letN t))).map letterN).toArray⟩ else ⟨#[]⟩
end Go.Proofs.Ytjmijedfmiplfaa

/- Lists of texts in ascending order, each once; the factors of a word. No program in it. -/
namespace Go.Proofs.Ytjmijedfmiplfaa
open Go.RowKit

def lessB (a b : ByteArray) : Bool := Op.bytesLess a.toList b.toList
theorem bl_self : ∀ a : List UInt8, Op.bytesLess a a = false
  | [] => rfl
  | x :: a => by simp [Op.bytesLess, bl_self a]
theorem bl_trans : ∀ a b c : List UInt8, Op.bytesLess a b = true → Op.bytesLess b c = true → Op.bytesLess a c = true
  | _, [], c, h, _ => by cases ‹List UInt8› <;> simp [Op.bytesLess] at h
  | _, _ :: _, [], _, k => by simp [Op.bytesLess] at k
  | [], _ :: _, _ :: _, _, _ => by simp [Op.bytesLess]
  | x :: a, y :: b, z :: c, h, k => by
    have ih := bl_trans a b c
    simp only [Op.bytesLess, Bool.or_eq_true, Bool.and_eq_true, decide_eq_true_eq, beq_iff_eq] at h k ⊢
    rcases h with h | ⟨rfl, h⟩
    · rcases k with k | ⟨rfl, _⟩
      · exact .inl (UInt8.lt_trans h k)
      · exact .inl h
    · rcases k with k | ⟨rfl, k⟩
      · exact .inl k
      · exact .inr ⟨rfl, ih h k⟩
theorem bl_tri : ∀ a b : List UInt8, Op.bytesLess a b = true ∨ a = b ∨ Op.bytesLess b a = true
  | [], [] => .inr (.inl rfl)
  | [], _ :: _ => .inl (by simp [Op.bytesLess])
  | _ :: _, [] => .inr (.inr (by simp [Op.bytesLess]))
  | x :: a, y :: b => by
    simp only [Op.bytesLess, Bool.or_eq_true, Bool.and_eq_true, decide_eq_true_eq, beq_iff_eq]
    rcases (show x < y ∨ x = y ∨ y < x by
      rcases Nat.lt_trichotomy x.toNat y.toNat with h | h | h
      · exact .inl (UInt8.lt_iff_toNat_lt.2 h)
      · exact .inr (.inl (UInt8.toNat.inj h))
      · exact .inr (.inr (UInt8.lt_iff_toNat_lt.2 h))) with h | rfl | h
    · exact .inl (.inl h)
    · rcases bl_tri a b with k | rfl | k
      · exact .inl (.inr ⟨rfl, k⟩)
      · exact .inr (.inl rfl)
      · exact .inr (.inr (.inr ⟨rfl, k⟩))
    · exact .inr (.inr (.inl h))
theorem less_self (a : ByteArray) : ¬ lessB a a = true := by unfold lessB; rw [bl_self]; decide
theorem less_trans {a b c : ByteArray} (h : lessB a b = true) (k : lessB b c = true) : lessB a c = true := bl_trans _ _ _ h k
theorem less_tri (a b : ByteArray) : lessB a b = true ∨ a = b ∨ lessB b a = true := by
  rcases bl_tri a.toList b.toList with h | h | h
  · exact .inl h
  · exact .inr (.inl (bytes_ext h))
  · exact .inr (.inr h)
def Asc (l : List ByteArray) : Prop := l.Pairwise fun a b => lessB a b = true
theorem asc_ext : ∀ {l m : List ByteArray}, Asc l → Asc m → (∀ x, x ∈ l ↔ x ∈ m) → l = m
  | [], [], _, _, _ => rfl
  | [], b :: m, _, _, h => absurd ((h b).2 (List.mem_cons_self ..)) (by simp)
  | a :: l, [], _, _, h => absurd ((h a).1 (List.mem_cons_self ..)) (by simp)
  | a :: l, b :: m, hl, hm, h => by
    obtain ⟨l1, l2⟩ := List.pairwise_cons.1 hl
    obtain ⟨m1, m2⟩ := List.pairwise_cons.1 hm
    have e : a = b := by
      rcases List.mem_cons.1 ((h a).1 (List.mem_cons_self ..)) with e | e
      · exact e
      · rcases List.mem_cons.1 ((h b).2 (List.mem_cons_self ..)) with e' | e'
        · exact e'.symm
        · exact absurd (less_trans (m1 a e) (l1 b e')) (less_self b)
    subst e
    congr 1
    refine asc_ext l2 m2 (fun x => ⟨fun hx => ?_, fun hx => ?_⟩)
    · rcases List.mem_cons.1 ((h x).1 (List.mem_cons_of_mem _ hx)) with e | e
      · subst e; exact absurd (l1 x hx) (less_self x)
      · exact e
    · rcases List.mem_cons.1 ((h x).2 (List.mem_cons_of_mem _ hx)) with e | e
      · subst e; exact absurd (m1 x hx) (less_self x)
      · exact e
/-- one more text, if it is not there -/
def insL : List ByteArray → ByteArray → List ByteArray
  | [], x => [x]
  | a :: l, x => if lessB x a = true then x :: a :: l else if lessB a x = true then a :: insL l x else a :: l
theorem insL_mem : ∀ (l : List ByteArray) (x y : ByteArray), y ∈ insL l x ↔ (y = x ∨ y ∈ l)
  | [], x, y => by simp [insL]
  | a :: l, x, y => by
    unfold insL
    by_cases h1 : lessB x a = true
    · rw [if_pos h1]; simp
    · rw [if_neg h1]
      by_cases h2 : lessB a x = true
      · rw [if_pos h2, List.mem_cons, insL_mem l x y, List.mem_cons]
        constructor
        · rintro (e | e | e)
          · exact .inr (.inl e)
          · exact .inl e
          · exact .inr (.inr e)
        · rintro (e | e | e)
          · exact .inr (.inl e)
          · exact .inl e
          · exact .inr (.inr e)
      · rw [if_neg h2]
        have e : a = x := by
          rcases less_tri a x with e | e | e
          · exact absurd e h2
          · exact e
          · exact absurd e h1
        subst e
        simp
theorem insL_asc : ∀ {l : List ByteArray} (x : ByteArray), Asc l → Asc (insL l x)
  | [], x, _ => by simp [insL, Asc]
  | a :: l, x, h => by
    obtain ⟨h1, h2⟩ := List.pairwise_cons.1 h
    unfold insL
    by_cases k1 : lessB x a = true
    · rw [if_pos k1]
      refine List.pairwise_cons.2 ⟨fun y hy => ?_, h⟩
      rcases List.mem_cons.1 hy with e | e
      · rw [e]; exact k1
      · exact less_trans k1 (h1 y e)
    · rw [if_neg k1]
      by_cases k2 : lessB a x = true
      · rw [if_pos k2]
        refine List.pairwise_cons.2 ⟨fun y hy => ?_, insL_asc x h2⟩
        rcases (insL_mem l x y).1 hy with e | e
        · rw [e]; exact k2
        · exact h1 y e
      · rw [if_neg k2]; exact h
theorem insL_there {l : List ByteArray} {x : ByteArray} (h : Asc l) (hx : x ∈ l) : insL l x = l :=
  asc_ext (insL_asc x h) h fun y => by
    rw [insL_mem]
    constructor
    · rintro (rfl | e)
      · exact hx
      · exact e
    · exact .inr
/-- laid at its place -/
theorem insL_at {l : List ByteArray} {x : ByteArray} (h : Asc l) {k : Nat} (hk : k ≤ l.length) (h1 : ∀ (j : Nat) (hj : j < l.length), k ≤ j → lessB x l[j] = true) (h2 : ∀ (j : Nat) (hj : j < l.length), j < k → lessB l[j] x = true) : l.take k ++ x :: l.drop k = insL l x := by
  refine asc_ext ?_ (insL_asc x h) fun y => ?_
  · refine List.pairwise_append.2 ⟨h.sublist (List.take_sublist _ _), List.pairwise_cons.2 ⟨fun y hy => ?_, h.sublist (List.drop_sublist _ _)⟩, fun a ha b hb => ?_⟩
    · obtain ⟨j, hj, rfl⟩ := List.mem_iff_getElem.1 hy
      rw [List.length_drop] at hj
      rw [List.getElem_drop]
      exact h1 _ (by omega) (by omega)
    · obtain ⟨j, hj, rfl⟩ := List.mem_iff_getElem.1 ha
      rw [List.length_take] at hj
      rw [List.getElem_take]
      have hjx := h2 j (by omega) (by omega)
      rcases List.mem_cons.1 hb with e | e
      · rw [e]; exact hjx
      · obtain ⟨i, hi, rfl⟩ := List.mem_iff_getElem.1 e
        rw [List.length_drop] at hi
        rw [List.getElem_drop]
        exact less_trans hjx (h1 _ (by omega) (by omega))
  · rw [insL_mem]
    have e : y ∈ l ↔ y ∈ l.take k ∨ y ∈ l.drop k := by
      rw [← List.mem_append, List.take_append_drop]
    rw [e, List.mem_append, List.mem_cons]
    constructor
    · rintro (a | a | a)
      · exact .inr (.inl a)
      · exact .inl a
      · exact .inr (.inr a)
    · rintro (a | a | a)
      · exact .inr (.inl a)
      · exact .inl a
      · exact .inr (.inr a)
/-- the factors of n letters that begin at the first indexes -/
def facTo (s : ByteArray) (n : Nat) : Nat → List ByteArray
  | 0 => []
  | i + 1 => insL (facTo s n i) (s.extract i (i + n))
theorem facTo_asc (s : ByteArray) (n : Nat) : ∀ i, Asc (facTo s n i)
  | 0 => List.Pairwise.nil
  | i + 1 => insL_asc _ (facTo_asc s n i)
theorem facTo_mem (s : ByteArray) (n : Nat) (x : ByteArray) : ∀ i, x ∈ facTo s n i ↔ ∃ j, j < i ∧ x = s.extract j (j + n)
  | 0 => by simp [facTo]
  | i + 1 => by
    show x ∈ insL _ _ ↔ _
    rw [insL_mem, facTo_mem s n x i]
    constructor
    · rintro (e | ⟨j, h, e⟩)
      · exact ⟨i, by omega, e⟩
      · exact ⟨j, by omega, e⟩
    · rintro ⟨j, h, e⟩
      by_cases hj : j = i
      · subst hj; exact .inl e
      · exact .inr ⟨j, by omega, e⟩
/-- what FixedFactors is to return -/
def facOk (l : List ByteArray) (t : ByteArray) (n : Int) : Bool := growOk l t && (decide (1 ≤ n) && decide (n ≤ 8))
def facR (l : List ByteArray) (t : ByteArray) (n : Int) : List ByteArray := if facOk l t n = true then facTo ⟨(fixL l (letN t) 400).toArray⟩ n.toNat (401 - n.toNat) else []
end Go.Proofs.Ytjmijedfmiplfaa
