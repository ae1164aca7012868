/- Texts put together. -/
import Derived.Test.YtcdchieielpahaaMgD1
import Derived.Test.YtcdchieielpahaaChecked
/- Plain facts on the digits of a text. No program in it. -/
namespace Go.Proofs.Ytcdchieielpahaa
open Go.RowKit

def isDigB (c : UInt8) : Bool := decide (48 ≤ c.toNat) && decide (c.toNat ≤ 57)
def isLowB (c : UInt8) : Bool := decide (97 ≤ c.toNat) && decide (c.toNat ≤ 122)
def digs (l : List UInt8) : Bool := l.all isDigB && !l.isEmpty

theorem take_snoc (s : ByteArray) (k : Nat) (h : k < s.size) : s.data.toList.take (k + 1) = s.data.toList.take k ++ [s[k]] := by
  rw [List.take_succ_eq_append_getElem (by simpa using h)]; rfl
theorem take_all (s : ByteArray) (k : Nat) (h : s.size ≤ k) : s.data.toList.take k = s.data.toList := List.take_of_length_le (by simpa using h)
theorem all_snoc {p : UInt8 → Bool} (s : ByteArray) (k : Nat) (h : k < s.size) (ha : (s.data.toList.take k).all p = true) (hp : p s[k] = true) : (s.data.toList.take (k + 1)).all p = true := by
  rw [take_snoc s k h, List.all_append, ha]; simp [hp]
theorem all_not {p : UInt8 → Bool} (s : ByteArray) (k : Nat) (h : k < s.size) (hp : p s[k] = false) : s.data.toList.all p = false := by
  have hm : s[k] ∈ s.data.toList := by
    have : s[k] = s.data.toList[k]'(by simpa using h) := rfl
    rw [this]; exact List.getElem_mem _
  exact List.all_eq_false.2 ⟨_, hm, by simp [hp]⟩
theorem digs_no (s : ByteArray) (k : Nat) (h : k < s.size) (hp : isDigB s[k] = false) : digs s.data.toList = false := by
  unfold digs; rw [all_not s k h hp]; rfl
theorem digs_end (s : ByteArray) (ha : (s.data.toList.take s.size).all isDigB = true) : digs s.data.toList = decide (0 < s.size) := by
  rw [take_all s _ (Nat.le_refl _)] at ha
  unfold digs; rw [ha]
  obtain ⟨⟨l⟩⟩ := s
  cases l <;> simp [ByteArray.size]
end Go.Proofs.Ytcdchieielpahaa

/- What a word is. No program in it. -/
namespace Go.Proofs.Ytcdchieielpahaa
open Go.RowKit

def isAbcd (c : UInt8) : Bool := decide (97 ≤ c.toNat) && decide (c.toNat ≤ 100)
def wordB (s : ByteArray) : Bool := decide (s.size ≤ 400) && s.data.toList.all isAbcd
theorem word_size {s : ByteArray} (h : wordB s = true) : s.size ≤ 400 := by
  unfold wordB at h
  rw [Bool.and_eq_true] at h
  simpa using h.1
theorem word_at {s : ByteArray} (h : wordB s = true) (k : Nat) (hk : k < s.size) : 97 ≤ s[k].toNat ∧ s[k].toNat ≤ 100 := by
  unfold wordB at h
  rw [Bool.and_eq_true] at h
  have hm : s[k] ∈ s.data.toList := by
    have : s[k] = s.data.toList[k]'(by simpa using hk) := rfl
    rw [this]; exact List.getElem_mem _
  have := List.all_eq_true.1 h.2 _ hm
  simpa [isAbcd] using this
theorem word_long {s : ByteArray} (h : 400 < s.size) : wordB s = false := by
  unfold wordB
  rw [decide_eq_false (by omega)]
  rfl
theorem word_not {s : ByteArray} (k : Nat) (hk : k < s.size) (h : isAbcd s[k] = false) : wordB s = false := by
  unfold wordB
  rw [all_not s k hk h, Bool.and_false]
theorem word_yes {s : ByteArray} (h : s.size ≤ 400) (ha : (s.data.toList.take s.size).all isAbcd = true) : wordB s = true := by
  unfold wordB
  rw [take_all s _ (Nat.le_refl _)] at ha
  rw [ha, decide_eq_true h]
  rfl
/-- how often a byte stands in a text -/
def cnt (l : List UInt8) (c : UInt8) : Nat := l.count c
theorem cnt_succ (s : ByteArray) (k : Nat) (h : k < s.size) (c : UInt8) : cnt (s.data.toList.take (k + 1)) c = cnt (s.data.toList.take k) c + if s[k] = c then 1 else 0 := by
  unfold cnt
  rw [take_snoc s k h, List.count_append, List.count_singleton]
  congr 1
  by_cases e : s[k] = c <;> simp [e]
theorem cnt_le (l : List UInt8) (c : UInt8) : cnt l c ≤ l.length := List.count_le_length
end Go.Proofs.Ytcdchieielpahaa

/- What a substitution is, and what it does. No program in it. -/
namespace Go.Proofs.Ytcdchieielpahaa
open Go.RowKit

/-- all letters are among the first n -/
def withinB (n : Nat) (s : ByteArray) : Bool := s.data.toList.all fun c => decide (c.toNat < 97 + n)
def imgB (n : Nat) (s : ByteArray) : Bool := (decide (1 ≤ s.size) && decide (s.size ≤ 8)) && (wordB s && withinB n s)
/-- this list of images is a substitution -/
def substB (l : List ByteArray) : Bool := (decide (1 ≤ l.length) && decide (l.length ≤ 4)) && l.all (imgB l.length)

theorem lall_no {α : Type} {p : α → Bool} (l : List α) (k : Nat) (hk : k < l.length) (h : p l[k] = false) : l.all p = false :=
  List.all_eq_false.2 ⟨_, List.getElem_mem hk, by simp [h]⟩
theorem lall_snoc {α : Type} {p : α → Bool} (l : List α) (k : Nat) (hk : k < l.length) (ha : (l.take k).all p = true) (h : p l[k] = true) : (l.take (k + 1)).all p = true := by
  rw [List.take_succ_eq_append_getElem hk, List.all_append, ha]
  simp [h]
theorem lall_end {α : Type} {p : α → Bool} (l : List α) (ha : (l.take l.length).all p = true) : l.all p = true := by
  rwa [List.take_length] at ha
theorem subst_no {l : List ByteArray} (k : Nat) (hk : k < l.length) (h : imgB l.length l[k] = false) : substB l = false := by
  unfold substB
  rw [lall_no l k hk h, Bool.and_false]
theorem subst_yes {l : List ByteArray} (h1 : 1 ≤ l.length) (h2 : l.length ≤ 4) (ha : (l.take l.length).all (imgB l.length) = true) : substB l = true := by
  unfold substB
  rw [lall_end l ha, decide_eq_true h1, decide_eq_true h2]
  rfl
theorem subst_len {l : List ByteArray} (h : ¬ (1 ≤ l.length ∧ l.length ≤ 4)) : substB l = false := by
  unfold substB
  have : (decide (1 ≤ l.length) && decide (l.length ≤ 4)) = false := by simpa using h
  rw [this, Bool.false_and]
theorem img_no1 {n : Nat} {s : ByteArray} (h : ¬ (1 ≤ s.size ∧ s.size ≤ 8)) : imgB n s = false := by
  unfold imgB
  have : (decide (1 ≤ s.size) && decide (s.size ≤ 8)) = false := by simpa using h
  rw [this, Bool.false_and]
theorem img_no2 {n : Nat} {s : ByteArray} (h : wordB s = false) : imgB n s = false := by
  unfold imgB; rw [h, Bool.false_and, Bool.and_false]
theorem img_no3 {n : Nat} {s : ByteArray} (h : withinB n s = false) : imgB n s = false := by
  unfold imgB; rw [h, Bool.and_false, Bool.and_false]
theorem img_yes {n : Nat} {s : ByteArray} (h1 : 1 ≤ s.size) (h2 : s.size ≤ 8) (h3 : wordB s = true) (h4 : withinB n s = true) : imgB n s = true := by
  unfold imgB; rw [h3, h4, decide_eq_true h1, decide_eq_true h2]; rfl
theorem img_parts {n : Nat} {s : ByteArray} (h : imgB n s = true) : 1 ≤ s.size ∧ s.size ≤ 8 ∧ wordB s = true ∧ withinB n s = true := by
  unfold imgB at h
  simp only [Bool.and_eq_true, decide_eq_true_eq] at h
  exact ⟨h.1.1, h.1.2, h.2.1, h.2.2⟩
theorem subst_parts {l : List ByteArray} (h : substB l = true) : 1 ≤ l.length ∧ l.length ≤ 4 ∧ ∀ k (hk : k < l.length), imgB l.length l[k] = true := by
  unfold substB at h
  simp only [Bool.and_eq_true, decide_eq_true_eq] at h
  exact ⟨h.1.1, h.1.2, fun k hk => List.all_eq_true.1 h.2 _ (List.getElem_mem hk)⟩
theorem within_at {n : Nat} {s : ByteArray} (h : withinB n s = true) (k : Nat) (hk : k < s.size) : s[k].toNat < 97 + n := by
  unfold withinB at h
  have hm : s[k] ∈ s.data.toList := by
    have : s[k] = s.data.toList[k]'(by simpa using hk) := rfl
    rw [this]; exact List.getElem_mem _
  simpa using List.all_eq_true.1 h _ hm

/-- the image of a letter -/
def imgOf (l : List ByteArray) (c : UInt8) : List UInt8 := (l.getD (c.toNat - 97) ⟨#[]⟩).data.toList
def applyL (l : List ByteArray) (w : List UInt8) : List UInt8 := w.flatMap (imgOf l)
theorem imgOf_at (l : List ByteArray) (c : UInt8) (j : Nat) (hj : c.toNat = 97 + j) (hl : j < l.length) : imgOf l c = l[j].data.toList := by
  unfold imgOf
  rw [List.getD_eq_getElem?_getD, show c.toNat - 97 = j from by omega, List.getElem?_eq_getElem hl]
  rfl
theorem applyL_succ (l : List ByteArray) (s : ByteArray) (k : Nat) (h : k < s.size) : applyL l (s.data.toList.take (k + 1)) = applyL l (s.data.toList.take k) ++ imgOf l s[k] := by
  unfold applyL
  rw [take_snoc s k h, List.flatMap_append]
  simp
theorem applyL_take_le (l : List ByteArray) (w : List UInt8) (k : Nat) : (applyL l (w.take k)).length ≤ (applyL l w).length := by
  unfold applyL
  conv => rhs; rw [← List.take_append_drop k w, List.flatMap_append, List.length_append]
  omega
end Go.Proofs.Ytcdchieielpahaa

/- WordOk of the model and its count of a letter. No condition but that a text has at most 2^63 bytes. -/
namespace Go.Proofs.Ytcdchieielpahaa
open Go.RowKit
end Go.Proofs.Ytcdchieielpahaa
