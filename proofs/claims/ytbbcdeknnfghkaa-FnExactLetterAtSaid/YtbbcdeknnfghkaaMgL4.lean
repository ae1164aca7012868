/- Texts put together. -/
import Derived.Test.YtbbcdeknnfghkaaMgL3
import Derived.Test.YtbbcdeknnfghkaaMgL1
/- What a word is. No program in it. -/
namespace Go.Proofs.Ytbbcdeknnfghkaa
open Go.RowKit

def isAbcd (c : UInt8) : Bool := decide (97 ≤ c.toNat) && decide (c.toNat ≤ 100)
def wordB (s : ByteArray) : Bool := decide (s.size ≤ 400) && s.data.toList.all isAbcd
theorem word_size {s : ByteArray} (h : wordB s = true) : s.size ≤ 400 := by
  unfold wordB at h
  rw [Bool.and_eq_true] at h
  simpa using h.1
theorem word_at {s : ByteArray} (h : wordB s = true) (k : Nat) (hk : k < s.size) : 97 ≤ s[k].toNat ∧ s[k].toNat ≤ 100 := by
  unfold wordB at h
  rw [Bool.and_eq_true] at h
  have hm : s[k] ∈ s.data.toList := by
    have : s[k] = s.data.toList[k]'(by simpa using hk) := rfl
    rw [this]; exact List.getElem_mem _
  have := List.all_eq_true.1 h.2 _ hm
  simpa [isAbcd] using this
theorem word_long {s : ByteArray} (h : 400 < s.size) : wordB s = false := by
  unfold wordB
  rw [decide_eq_false (by omega)]
  rfl
theorem word_not {s : ByteArray} (k : Nat) (hk : k < s.size) (h : isAbcd s[k] = false) : wordB s = false := by
  unfold wordB
  rw [all_not s k hk h, Bool.and_false]
theorem word_yes {s : ByteArray} (h : s.size ≤ 400) (ha : (s.data.toList.take s.size).all isAbcd = true) : wordB s = true := by
  unfold wordB
  rw [take_all s _ (Nat.le_refl _)] at ha
  rw [ha, decide_eq_true h]
  rfl
/-- how often a byte stands in a text -/
def cnt (l : List UInt8) (c : UInt8) : Nat := l.count c
theorem cnt_succ (s : ByteArray) (k : Nat) (h : k < s.size) (c : UInt8) : cnt (s.data.toList.take (k + 1)) c = cnt (s.data.toList.take k) c + if s[k] = c then 1 else 0 := by
  unfold cnt
  rw [take_snoc s k h, List.count_append, List.count_singleton]
  congr 1
  by_cases e : s[k] = c <;> simp [e]
theorem cnt_le (l : List UInt8) (c : UInt8) : cnt l c ≤ l.length := List.count_le_length
end Go.Proofs.Ytbbcdeknnfghkaa

/- What a substitution is, and what it does. No program in it. -/
namespace Go.Proofs.Ytbbcdeknnfghkaa
open Go.RowKit

/-- all letters are among the first n -/
def withinB (n : Nat) (s : ByteArray) : Bool := s.data.toList.all fun c => decide (c.toNat < 97 + n)
def imgB (n : Nat) (s : ByteArray) : Bool := (decide (1 ≤ s.size) && decide (s.size ≤ 8)) && (wordB s && withinB n s)
/-- this list of images is a substitution -/
def substB (l : List ByteArray) : Bool := (decide (1 ≤ l.length) && decide (l.length ≤ 4)) && l.all (imgB l.length)

theorem lall_no {α : Type} {p : α → Bool} (l : List α) (k : Nat) (hk : k < l.length) (h : p l[k] = false) : l.all p = false :=
  List.all_eq_false.2 ⟨_, List.getElem_mem hk, by simp [h]⟩
theorem lall_snoc {α : Type} {p : α → Bool} (l : List α) (k : Nat) (hk : k < l.length) (ha : (l.take k).all p = true) (h : p l[k] = true) : (l.take (k + 1)).all p = true := by
  rw [List.take_succ_eq_append_getElem hk, List.all_append, ha]
  simp [h]
theorem lall_end {α : Type} {p : α → Bool} (l : List α) (ha : (l.take l.length).all p = true) : l.all p = true := by
  rwa [List.take_length] at ha
theorem subst_no {l : List ByteArray} (k : Nat) (hk : k < l.length) (h : imgB l.length l[k] = false) : substB l = false := by
  unfold substB
  rw [lall_no l k hk h, Bool.and_false]
theorem subst_yes {l : List ByteArray} (h1 : 1 ≤ l.length) (h2 : l.length ≤ 4) (ha : (l.take l.length).all (imgB l.length) = true) : substB l = true := by
  unfold substB
  rw [lall_end l ha, decide_eq_true h1, decide_eq_true h2]
  rfl
theorem subst_len {l : List ByteArray} (h : ¬ (1 ≤ l.length ∧ l.length ≤ 4)) : substB l = false := by
  unfold substB
  have : (decide (1 ≤ l.length) && decide (l.length ≤ 4)) = false := by simpa using h
  rw [this, Bool.false_and]
theorem img_no1 {n : Nat} {s : ByteArray} (h : ¬ (1 ≤ s.size ∧ s.size ≤ 8)) : imgB n s = false := by
  unfold imgB
  have : (decide (1 ≤ s.size) && decide (s.size ≤ 8)) = false := by simpa using h
  rw [this, Bool.false_and]
theorem img_no2 {n : Nat} {s : ByteArray} (h : wordB s = false) : imgB n s = false := by
  unfold imgB; rw [h, Bool.false_and, Bool.and_false]
theorem img_no3 {n : Nat} {s : ByteArray} (h : withinB n s = false) : imgB n s = false := by
  unfold imgB; rw [h, Bool.and_false, Bool.and_false]
theorem img_yes {n : Nat} {s : ByteArray} (h1 : 1 ≤ s.size) (h2 : s.size ≤ 8) (h3 : wordB s = true) (h4 : withinB n s = true) : imgB n s = true := by
  unfold imgB; rw [h3, h4, decide_eq_true h1, decide_eq_true h2]; rfl
theorem img_parts {n : Nat} {s : ByteArray} (h : imgB n s = true) : 1 ≤ s.size ∧ s.size ≤ 8 ∧ wordB s = true ∧ withinB n s = true := by
  unfold imgB at h
  simp only [Bool.and_eq_true, decide_eq_true_eq] at h
  exact ⟨h.1.1, h.1.2, h.2.1, h.2.2⟩
theorem subst_parts {l : List ByteArray} (h : substB l = true) : 1 ≤ l.length ∧ l.length ≤ 4 ∧ ∀ k (hk : k < l.length), imgB l.length l[k] = true := by
  unfold substB at h
  simp only [Bool.and_eq_true, decide_eq_true_eq] at h
  exact ⟨h.1.1, h.1.2, fun k hk => List.all_eq_true.1 h.2 _ (List.getElem_mem hk)⟩
theorem within_at {n : Nat} {s : ByteArray} (h : withinB n s = true) (k : Nat) (hk : k < s.size) : s[k].toNat < 97 + n := by
  unfold withinB at h
  have hm : s[k] ∈ s.data.toList := by
    have : s[k] = s.data.toList[k]'(by simpa using hk) := rfl
    rw [this]; exact List.getElem_mem _
  simpa using List.all_eq_true.1 h _ hm

/-- the image of a letter -/
def imgOf (l : List ByteArray) (c : UInt8) : List UInt8 := (l.getD (c.toNat - 97) ⟨#[]⟩).data.toList
def applyL (l : List ByteArray) (w : List UInt8) : List UInt8 := w.flatMap (imgOf l)
theorem imgOf_at (l : List ByteArray) (c : UInt8) (j : Nat) (hj : c.toNat = 97 + j) (hl : j < l.length) : imgOf l c = l[j].data.toList := by
  unfold imgOf
  rw [List.getD_eq_getElem?_getD, show c.toNat - 97 = j from by omega, List.getElem?_eq_getElem hl]
  rfl
theorem applyL_succ (l : List ByteArray) (s : ByteArray) (k : Nat) (h : k < s.size) : applyL l (s.data.toList.take (k + 1)) = applyL l (s.data.toList.take k) ++ imgOf l s[k] := by
  unfold applyL
  rw [take_snoc s k h, List.flatMap_append]
  simp
theorem applyL_take_le (l : List ByteArray) (w : List UInt8) (k : Nat) : (applyL l (w.take k)).length ≤ (applyL l w).length := by
  unfold applyL
  conv => rhs; rw [← List.take_append_drop k w, List.flatMap_append, List.length_append]
  omega
end Go.Proofs.Ytbbcdeknnfghkaa

/- What a valid substitution makes of a valid word is a valid word, if it is short enough; applied again and again. No program in it. -/
namespace Go.Proofs.Ytbbcdeknnfghkaa
open Go.RowKit

def stepS (l : List ByteArray) (s : ByteArray) : ByteArray := ⟨(applyL l s.data.toList).toArray⟩
theorem stepS_list (l : List ByteArray) (s : ByteArray) : (stepS l s).data.toList = applyL l s.data.toList := rfl
theorem stepS_size (l : List ByteArray) (s : ByteArray) : (stepS l s).size = (applyL l s.data.toList).length := by
  show (applyL l s.data.toList).toArray.size = _
  simp
theorem all_of_word {s : ByteArray} (h : wordB s = true) : s.data.toList.all isAbcd = true := by
  unfold wordB at h
  rw [Bool.and_eq_true] at h
  exact h.2
theorem applyL_all (p : UInt8 → Bool) {l : List ByteArray} (hp : ∀ k (hk : k < l.length), l[k].data.toList.all p = true) (w : List UInt8) (hw : ∀ c ∈ w, 97 ≤ c.toNat ∧ c.toNat < 97 + l.length) : (applyL l w).all p = true := by
  unfold applyL
  rw [List.all_flatMap, List.all_eq_true]
  intro c hc
  obtain ⟨h1, h2⟩ := hw c hc
  rw [imgOf_at l c (c.toNat - 97) (by omega) (by omega)]
  exact hp _ _
theorem word_mem {s : ByteArray} (h : wordB s = true) {n : Nat} (h2 : withinB n s = true) : ∀ c ∈ s.data.toList, 97 ≤ c.toNat ∧ c.toNat < 97 + n := by
  intro c hc
  have a := List.all_eq_true.1 (all_of_word h) c hc
  have b := List.all_eq_true.1 h2 c hc
  simp [isAbcd] at a b
  omega
theorem step_word {l : List ByteArray} {s : ByteArray} (hl : substB l = true) (hs : wordB s = true) (hw : withinB l.length s = true) (h4 : (applyL l s.data.toList).length ≤ 400) : wordB (stepS l s) = true ∧ withinB l.length (stepS l s) = true := by
  obtain ⟨_, _, hi⟩ := subst_parts hl
  constructor
  · unfold wordB
    rw [stepS_size, decide_eq_true h4, stepS_list, applyL_all isAbcd (fun k hk => all_of_word (img_parts (hi k hk)).2.2.1) _ (word_mem hs hw)]
    rfl
  · exact applyL_all _ (fun k hk => (img_parts (hi k hk)).2.2.2) _ (word_mem hs hw)

/-- what ApplySubst is to return -/
def appOk (l : List ByteArray) (s : ByteArray) : Bool := (substB l && (wordB s && withinB l.length s)) && decide ((applyL l s.data.toList).length ≤ 400)
def appR (l : List ByteArray) (s : ByteArray) : ByteArray := if appOk l s = true then stepS l s else ⟨#[]⟩

def iterS (l : List ByteArray) (s : ByteArray) : Nat → ByteArray
  | 0 => s
  | n + 1 => stepS l (iterS l s n)
def iterOk (l : List ByteArray) (s : ByteArray) : Nat → Bool
  | 0 => true
  | n + 1 => iterOk l s n && decide ((applyL l (iterS l s n).data.toList).length ≤ 400)
theorem iterOk_mono {l : List ByteArray} {s : ByteArray} {k : Nat} (h : iterOk l s k = false) : ∀ n, iterOk l s (k + n) = false
  | 0 => h
  | n + 1 => by
    show (iterOk l s (k + n) && _) = false
    rw [iterOk_mono h n, Bool.false_and]
theorem iter_word {l : List ByteArray} {s : ByteArray} (hl : substB l = true) (hs : wordB s = true) (hw : withinB l.length s = true) : ∀ n, iterOk l s n = true → wordB (iterS l s n) = true ∧ withinB l.length (iterS l s n) = true
  | 0, _ => ⟨hs, hw⟩
  | n + 1, h => by
    have h' : (iterOk l s n && decide ((applyL l (iterS l s n).data.toList).length ≤ 400)) = true := h
    rw [Bool.and_eq_true, decide_eq_true_eq] at h'
    obtain ⟨a, b⟩ := iter_word hl hs hw n h'.1
    exact step_word hl a b h'.2
/-- what IterateSubst is to return -/
def itOk (l : List ByteArray) (s : ByteArray) (n : Int) : Bool := (decide (0 ≤ n) && decide (n ≤ 20)) && ((substB l && (wordB s && withinB l.length s)) && iterOk l s n.toNat)
def itR (l : List ByteArray) (s : ByteArray) (n : Int) : ByteArray := if itOk l s n = true then iterS l s n.toNat else ⟨#[]⟩
def PairSaid (r : ByteArray) (ok : Bool) (w : World) (e : Ending) (w' : World) : Prop := e = .returned (.tuple #[.string r, .bool ok]) ∧ Below w.heap.size w w'
theorem appR_no {l : List ByteArray} {s : ByteArray} (h : appOk l s = false) {w w' : World} (hb : Below w.heap.size w w') : PairSaid (appR l s) (appOk l s) w (.returned (.tuple #[.string ⟨#[]⟩, .bool false])) w' := by
  refine ⟨?_, hb⟩
  have e : appR l s = ⟨#[]⟩ := if_neg (by rw [h]; decide)
  rw [h, e]
theorem itR_no {l : List ByteArray} {s : ByteArray} {n : Int} (h : itOk l s n = false) {w w' : World} (hb : Below w.heap.size w w') : PairSaid (itR l s n) (itOk l s n) w (.returned (.tuple #[.string ⟨#[]⟩, .bool false])) w' := by
  refine ⟨?_, hb⟩
  have e : itR l s n = ⟨#[]⟩ := if_neg (by rw [h]; decide)
  rw [h, e]

theorem img_le {l : List ByteArray} (hl : substB l = true) (c : UInt8) : (imgOf l c).length ≤ 8 := by
  obtain ⟨_, _, hi⟩ := subst_parts hl
  unfold imgOf
  rw [List.getD_eq_getElem?_getD]
  by_cases h : c.toNat - 97 < l.length
  · rw [List.getElem?_eq_getElem h]
    have := (img_parts (hi _ h)).2.1
    simpa using this
  · rw [List.getElem?_eq_none (by omega)]
    simp
theorem applyL_le {l : List ByteArray} (hl : substB l = true) : ∀ w : List UInt8, (applyL l w).length ≤ 8 * w.length
  | [] => by simp [applyL]
  | c :: w => by
    have h1 := img_le hl c
    have h2 := applyL_le hl w
    unfold applyL at h2 ⊢
    rw [List.flatMap_cons, List.length_append, List.length_cons]
    omega
/-- what ComposeSubst is to return -/
def compR (l m : List ByteArray) : List ByteArray := l.map (stepS m)
def compOk (l m : List ByteArray) : Bool := (substB l && (substB m && decide (l.length = m.length))) && substB (compR l m)
def compSub (l m : List ByteArray) : List ByteArray := if compOk l m = true then compR l m else []
theorem compSub_le (l m : List ByteArray) : (compSub l m).length ≤ 4 := by
  unfold compSub; split
  · rename_i h
    unfold compOk at h
    rw [Bool.and_eq_true] at h
    exact (subst_parts h.2).2.1
  · simp
theorem compR_succ (l m : List ByteArray) (k : Nat) (hk : k < l.length) : strs (compR (l.take (k + 1)) m) = strs (compR (l.take k) m) ++ [.string (stepS m l[k])] := by
  unfold compR
  rw [List.take_succ_eq_append_getElem hk, List.map_append, List.map_cons, List.map_nil, strs_snoc]
theorem compR_small {l m : List ByteArray} (hl : substB l = true) (hm : substB m = true) : ∀ x ∈ compR l m, x.size ≤ 1048576 := by
  intro x hx
  obtain ⟨y, hy, rfl⟩ := List.mem_map.1 hx
  obtain ⟨k, hk, rfl⟩ := List.mem_iff_getElem.1 hy
  have h1 := (img_parts ((subst_parts hl).2.2 k hk)).2.1
  have h2 := applyL_le hm l[k].data.toList
  rw [stepS_size]
  have : l[k].data.toList.length = l[k].size := by simp
  omega
end Go.Proofs.Ytbbcdeknnfghkaa
