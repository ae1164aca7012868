/- Texts put together. -/
import Derived.Test.YtfcbfflkajlhnaaMgC12
/- A letter with an image, and how long the word is that it becomes. No program in it. -/
namespace Go.Proofs.Ytfcbfflkajlhnaa
open Go.RowKit

def letN (t : ByteArray) : Nat := (t.data.toList.getD 0 0).toNat - 97
def letOk (l : List ByteArray) (t : ByteArray) : Bool := (decide (t.size = 1) && wordB t) && decide (letN t < l.length)
/-- the index of a letter with an image, or -1 -/
def letR (l : List ByteArray) (t : ByteArray) : Int := if letOk l t = true then (letN t : Int) else -1
theorem letN_eq {t : ByteArray} (h1 : t.size = 1) : letN t = (t[0]'(by omega)).toNat - 97 := by
  unfold letN
  have h0 : 0 < t.data.toList.length := by simp; omega
  rw [List.getD_eq_getElem?_getD, List.getElem?_eq_getElem h0]
  rfl
theorem letN_at {t : ByteArray} (h1 : t.size = 1) (h2 : wordB t = true) : (t[0]'(by omega)).toNat = 97 + letN t ∧ letN t ≤ 3 := by
  obtain ⟨a, b⟩ := word_at h2 0 (by omega)
  rw [letN_eq h1]
  omega
/-- one of one letter, none of the others -/
def unitC (n k : Nat) : List Int := (List.replicate n (0 : Int)).set k 1
theorem unitC_length (n k : Nat) : (unitC n k).length = n := by simp [unitC]
def isum (cs : List Int) : Nat → Int
  | 0 => 0
  | k + 1 => isum cs k + cs.getD k 0
/-- what LengthAfter is to return -/
def lenR (l : List ByteArray) (t : ByteArray) (n : Int) : Int :=
  if (letOk l t && substB l) = true then (if caOk l (unitC l.length (letN t)) n = true then isum (caR l (unitC l.length (letN t)) n) l.length else -1) else -1
theorem caR_small {l : List ByteArray} {cs : List Int} {n : Int} (h : caOk l cs n = true) : (caR l cs n).length = l.length ∧ ∀ k, k < l.length → 0 ≤ (caR l cs n).getD k 0 ∧ (caR l cs n).getD k 0 ≤ 1000000000000 := by
  have e : caR l cs n = itC l cs n.toNat := if_pos h
  have h' := h
  unfold caOk at h'
  simp only [Bool.and_eq_true, decide_eq_true_eq] at h'
  rw [e]
  exact ⟨itC_length h'.1.1.2 _, itC_small h'.1.1.1 h'.1.1.2 h'.2.1 _ h'.2.2⟩
theorem isum_bound {cs : List Int} {n : Nat} (h : ∀ k, k < n → 0 ≤ cs.getD k 0 ∧ cs.getD k 0 ≤ 1000000000000) : ∀ k, k ≤ n → 0 ≤ isum cs k ∧ isum cs k ≤ k * 1000000000000
  | 0, _ => by simp [isum]
  | k + 1, hk => by
    have ih := isum_bound h k (by omega)
    have := h k (by omega)
    unfold isum
    omega
end Go.Proofs.Ytfcbfflkajlhnaa

/- Which letters are reached from a letter. No program in it. -/
namespace Go.Proofs.Ytfcbfflkajlhnaa
open Go.RowKit

/-- the letter i stands in the image j -/
def Occ (l : List ByteArray) (j i : Nat) : Prop := ∃ (hj : j < l.length) (p : Nat) (hp : p < l[j].size), l[j][p].toNat = 97 + i
inductive Reached (l : List ByteArray) (k : Nat) : Nat → Prop
  | refl : Reached l k k
  | step {j i : Nat} : Reached l k j → Occ l j i → Reached l k i

def got (s : List Bool) (i : Nat) : Bool := s.getD i false
theorem got_set (s : List Bool) (i j : Nat) (hi : i < s.length) : got (s.set i true) j = (got s j || decide (j = i)) := by
  unfold got
  rw [List.getD_eq_getElem?_getD, List.getD_eq_getElem?_getD, List.getElem?_set]
  by_cases h : i = j
  · subst h
    rw [if_pos rfl, if_pos hi]
    simp
  · rw [if_neg h, decide_eq_false (fun e => h e.symm), Bool.or_false]
def markW (s : List Bool) (w : List UInt8) : List Bool := w.foldl (fun s c => s.set (c.toNat - 97) true) s
theorem markW_length (w : List UInt8) : ∀ s : List Bool, (markW s w).length = s.length := by
  induction w with
  | nil => intro s; rfl
  | cons c w ih => intro s; show (markW (s.set _ true) w).length = _; rw [ih]; simp
theorem markW_snoc (s : List Bool) (w : List UInt8) (c : UInt8) : markW s (w ++ [c]) = (markW s w).set (c.toNat - 97) true := by
  unfold markW
  rw [List.foldl_append]
  rfl
theorem markW_got (w : List UInt8) : ∀ (s : List Bool), (∀ c ∈ w, c.toNat - 97 < s.length) → ∀ i, got (markW s w) i = true ↔ (got s i = true ∨ ∃ c ∈ w, c.toNat - 97 = i) := by
  induction w with
  | nil => intro s _ i; simp [markW]
  | cons c w ih =>
    intro s h i
    show got (markW (s.set (c.toNat - 97) true) w) i = true ↔ _
    rw [ih _ (fun x hx => by simpa using h x (List.mem_cons_of_mem _ hx)) i, got_set _ _ _ (h c (List.mem_cons_self ..))]
    simp only [Bool.or_eq_true, decide_eq_true_eq, List.mem_cons, exists_eq_or_imp]
    constructor
    · rintro ((a | a) | a)
      · exact .inl a
      · exact .inr (.inl a.symm)
      · exact .inr (.inr a)
    · rintro (a | a | a)
      · exact .inl (.inl a)
      · exact .inl (.inr a.symm)
      · exact .inr a
/-- one pass over the first images -/
def passTo (l : List ByteArray) (s : List Bool) : Nat → List Bool
  | 0 => s
  | i + 1 => if got (passTo l s i) i = true then markW (passTo l s i) (l.getD i ⟨#[]⟩).data.toList else passTo l s i
theorem passTo_yes {l : List ByteArray} {s : List Bool} {i : Nat} (hi : i < l.length) (h : got (passTo l s i) i = true) : passTo l s (i + 1) = markW (passTo l s i) l[i].data.toList := by
  show (if _ then _ else _) = _
  rw [if_pos h, List.getD_eq_getElem?_getD, List.getElem?_eq_getElem hi]
  rfl
theorem passTo_no {l : List ByteArray} {s : List Bool} {i : Nat} (h : got (passTo l s i) i = false) : passTo l s (i + 1) = passTo l s i := by
  show (if _ then _ else _) = _
  rw [if_neg (by rw [h]; decide)]
theorem passTo_length (l : List ByteArray) (s : List Bool) : ∀ i, (passTo l s i).length = s.length
  | 0 => rfl
  | i + 1 => by
    show (if _ then _ else _ : List Bool).length = _
    split
    · rw [markW_length, passTo_length l s i]
    · exact passTo_length l s i
theorem img_letters {l : List ByteArray} (hl : substB l = true) {i : Nat} (hi : i < l.length) : ∀ c ∈ l[i].data.toList, 97 ≤ c.toNat ∧ c.toNat < 97 + l.length := by
  obtain ⟨_, _, h3, h4⟩ := img_parts ((subst_parts hl).2.2 i hi)
  exact word_mem h3 h4
theorem occ_iff {l : List ByteArray} (hl : substB l = true) {j : Nat} (hj : j < l.length) (i : Nat) : Occ l j i ↔ ∃ c ∈ l[j].data.toList, c.toNat - 97 = i := by
  constructor
  · rintro ⟨_, p, hp, e⟩
    refine ⟨l[j][p], ?_, by omega⟩
    have : l[j][p] = l[j].data.toList[p]'(by simpa using hp) := rfl
    rw [this]; exact List.getElem_mem _
  · rintro ⟨c, hc, e⟩
    have h1 := (img_letters hl hj c hc).1
    obtain ⟨p, hp, rfl⟩ := List.mem_iff_getElem.1 hc
    exact ⟨hj, p, by simpa using hp, by show (l[j].data.toList[p]).toNat = _; omega⟩
theorem passTo_got {l : List ByteArray} {s : List Bool} (hl : substB l = true) (hs : s.length = l.length) {i : Nat} (hi : i < l.length) (x : Nat) : got (passTo l s (i + 1)) x = true ↔ (got (passTo l s i) x = true ∨ (got (passTo l s i) i = true ∧ Occ l i x)) := by
  by_cases h : got (passTo l s i) i = true
  · rw [passTo_yes hi h, markW_got _ _ (fun c hc => by have := img_letters hl hi c hc; rw [passTo_length]; omega), occ_iff hl hi]
    simp [h]
  · rw [passTo_no (by simpa using h)]
    simp [h]
theorem passTo_mono {l : List ByteArray} {s : List Bool} (hl : substB l = true) (hs : s.length = l.length) {x : Nat} (h : got s x = true) : ∀ i, i ≤ l.length → got (passTo l s i) x = true
  | 0, _ => h
  | i + 1, hi => (passTo_got hl hs (by omega) x).2 (.inl (passTo_mono hl hs h i (by omega)))
theorem passTo_sound {l : List ByteArray} {s : List Bool} {k : Nat} (hl : substB l = true) (hs : s.length = l.length) (h : ∀ x, got s x = true → Reached l k x) : ∀ i, i ≤ l.length → ∀ x, got (passTo l s i) x = true → Reached l k x
  | 0, _ => h
  | i + 1, hi => fun x hx => by
    have ih := passTo_sound hl hs h i (by omega)
    rcases (passTo_got hl hs (by omega) x).1 hx with a | ⟨a, b⟩
    · exact ih x a
    · exact .step (ih i a) b
theorem passTo_full {l : List ByteArray} {s : List Bool} (hl : substB l = true) (hs : s.length = l.length) {j x : Nat} (hj : got s j = true) (ho : Occ l j x) : ∀ i, i ≤ l.length → j < i → got (passTo l s i) x = true
  | 0, _, h => absurd h (by omega)
  | i + 1, hi, h => by
    by_cases e : j = i
    · subst e
      exact (passTo_got hl hs (by omega) x).2 (.inr ⟨passTo_mono hl hs hj j (by omega), ho⟩)
    · exact (passTo_got hl hs (by omega) x).2 (.inl (passTo_full hl hs hj ho i (by omega) (by omega)))
def passN (l : List ByteArray) (s : List Bool) : Nat → List Bool
  | 0 => s
  | r + 1 => passTo l (passN l s r) l.length
theorem passN_length (l : List ByteArray) (s : List Bool) : ∀ r, (passN l s r).length = s.length
  | 0 => rfl
  | r + 1 => by show (passTo l (passN l s r) l.length).length = _; rw [passTo_length, passN_length l s r]
theorem cnt_mono : ∀ (s t : List Bool), s.length = t.length → (∀ i, got s i = true → got t i = true) → s.count true ≤ t.count true ∧ (s.count true = t.count true → s = t)
  | [], [], _, _ => by simp
  | [], _ :: _, h, _ => by simp at h
  | _ :: _, [], h, _ => by simp at h
  | a :: s, b :: t, h, hm => by
    obtain ⟨ih1, ih2⟩ := cnt_mono s t (by simpa using h) (fun i hi => by have := hm (i + 1); simp [got] at this hi ⊢; exact this hi)
    have h0 := hm 0
    simp [got] at h0
    cases a <;> cases b
    · exact ⟨by simpa using ih1, fun e => by rw [ih2 (by simpa using e)]⟩
    · refine ⟨by simp; omega, fun e => ?_⟩
      simp at e; omega
    · simp at h0
    · exact ⟨by simpa using ih1, fun e => by rw [ih2 (by simpa using e)]⟩
def Shut (l : List ByteArray) (s : List Bool) : Prop := ∀ j x, got s j = true → Occ l j x → got s x = true
theorem pass_step {l : List ByteArray} {s : List Bool} (hl : substB l = true) (hs : s.length = l.length) : (Shut l s → passTo l s l.length = s) ∧ (¬ Shut l s → s.count true + 1 ≤ (passTo l s l.length).count true) := by
  have hm : ∀ i, got s i = true → got (passTo l s l.length) i = true := fun i h => passTo_mono hl hs h _ (Nat.le_refl _)
  have hc := cnt_mono s (passTo l s l.length) (passTo_length ..).symm hm
  constructor
  · intro h
    have : ∀ i, i ≤ l.length → passTo l s i = s := by
      intro i
      induction i with
      | zero => intro _; rfl
      | succ i ih =>
        intro hi
        have e := ih (by omega)
        by_cases hg : got s i = true
        · refine (cnt_mono s (passTo l s (i + 1)) (passTo_length ..).symm (fun x hx => passTo_mono hl hs hx _ hi)).2 ?_ |>.symm
          refine Nat.le_antisymm (cnt_mono s (passTo l s (i + 1)) (passTo_length ..).symm (fun x hx => passTo_mono hl hs hx _ hi)).1 ?_
          refine (cnt_mono (passTo l s (i + 1)) s (passTo_length ..) (fun x hx => ?_)).1
          rcases (passTo_got hl hs (by omega) x).1 hx with a | ⟨a, b⟩
          · rwa [e] at a
          · exact h i x hg b
        · rw [passTo_no (by rw [e]; simpa using hg), e]
    exact this _ (Nat.le_refl _)
  · intro h
    rcases Nat.lt_or_eq_of_le hc.1 with a | a
    · omega
    · exact absurd (fun j x hj ho => by
        have e := hc.2 a
        rw [e]
        have hjl : j < l.length := by obtain ⟨h1, _⟩ := ho; exact h1
        exact passTo_full hl hs hj ho _ (Nat.le_refl _) hjl) h
theorem passN_shut {l : List ByteArray} {s : List Bool} (hl : substB l = true) (hs : s.length = l.length) (h1 : 1 ≤ s.count true) : ∀ r, Shut l (passN l s r) ∨ r + 1 ≤ (passN l s r).count true
  | 0 => .inr h1
  | r + 1 => by
    have hr : (passN l s r).length = l.length := by rw [passN_length]; exact hs
    obtain ⟨p1, p2⟩ := pass_step hl hr
    rcases passN_shut hl hs h1 r with a | a
    · left
      show Shut l (passTo l (passN l s r) l.length)
      rw [p1 a]; exact a
    · by_cases hsh : Shut l (passN l s r)
      · left
        show Shut l (passTo l (passN l s r) l.length)
        rw [p1 hsh]; exact hsh
      · right
        have := p2 hsh
        show r + 1 + 1 ≤ (passTo l (passN l s r) l.length).count true
        omega
def oneB (n k : Nat) : List Bool := (List.replicate n false).set k true
theorem oneB_length (n k : Nat) : (oneB n k).length = n := by simp [oneB]
theorem oneB_got (n k : Nat) (hk : k < n) (i : Nat) : got (oneB n k) i = true ↔ i = k := by
  unfold oneB
  rw [got_set _ _ _ (by simpa using hk)]
  have : got (List.replicate n false) i = false := by
    unfold got
    rw [List.getD_eq_getElem?_getD, List.getElem?_replicate]
    split <;> rfl
  rw [this]
  simp
/-- four passes reach all that can be reached -/
theorem reach_iff {l : List ByteArray} {k : Nat} (hl : substB l = true) (hk : k < l.length) (i : Nat) : got (passN l (oneB l.length k) 4) i = true ↔ Reached l k i := by
  have hs : (oneB l.length k).length = l.length := oneB_length _ _
  have h1 : 1 ≤ (oneB l.length k).count true := by
    refine List.count_pos_iff.2 ?_
    have : (oneB l.length k)[k]'(by rw [hs]; exact hk) = true := by simp [oneB]
    rw [← this]; exact List.getElem_mem _
  have hsh : Shut l (passN l (oneB l.length k) 4) := by
    rcases passN_shut hl hs h1 4 with a | a
    · exact a
    · have h2 : (passN l (oneB l.length k) 4).count true ≤ (passN l (oneB l.length k) 4).length := List.count_le_length
      rw [passN_length, hs] at h2
      have := (subst_parts hl).2.1
      omega
  have hmono : ∀ r x, got (oneB l.length k) x = true → got (passN l (oneB l.length k) r) x = true := by
    intro r
    induction r with
    | zero => intro x h; exact h
    | succ r ih => intro x h; exact passTo_mono hl (by rw [passN_length]; exact hs) (ih x h) _ (Nat.le_refl _)
  have hsound : ∀ r x, got (passN l (oneB l.length k) r) x = true → Reached l k x := by
    intro r
    induction r with
    | zero =>
      intro x h
      rw [(oneB_got _ k hk x).1 h]
      exact .refl
    | succ r ih => intro x h; exact passTo_sound hl (by rw [passN_length]; exact hs) ih _ (Nat.le_refl _) x h
  constructor
  · exact hsound 4 i
  · intro h
    induction h with
    | refl => exact hmono 4 k ((oneB_got _ k hk k).2 rfl)
    | step _ ho ih => exact hsh _ _ ih ho
def outTo (s : Nat → Bool) : Nat → List UInt8
  | 0 => []
  | j + 1 => outTo s j ++ if s j = true then [letterN j] else []
/-- what ReachedBy is to return -/
noncomputable def reachR (l : List ByteArray) (t : ByteArray) : ByteArray := if (letOk l t && substB l) = true then ⟨(outTo (fun i => @decide (Reached l (letN t) i) (Classical.propDecidable _)) l.length).toArray⟩ else ⟨#[]⟩
theorem outTo_congr {s t : Nat → Bool} : ∀ n, (∀ i, i < n → s i = t i) → outTo s n = outTo t n
  | 0, _ => rfl
  | n + 1, h => by
    unfold outTo
    rw [outTo_congr n (fun i hi => h i (by omega)), h n (by omega)]
end Go.Proofs.Ytfcbfflkajlhnaa
