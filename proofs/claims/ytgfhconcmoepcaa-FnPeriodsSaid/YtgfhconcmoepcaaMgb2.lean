/- Texts put together. -/
import Derived.Test.YtgfhconcmoepcaaMgb1
import Derived.Test.YtgfhconcmoepcaaChecked
import Derived.Deep.QuietTactic
import Derived.BigQuiet
/- Slices that read as lists; frames. No program in it. -/
namespace Go.Proofs.Ytgfhconcmoepcaa
open Go.RowKit

/-- 'v' is a slice whose elements are xs (one cell each), wherever it lies. -/
def Lst (w : World) (v : Value) (xs : List Value) : Prop :=
  ∃ A cap, v = .slice A xs.length cap ∧ xs.length ≤ cap ∧ cap ≤ maxLen ∧ (xs = [] ∨ ∃ b off, A = some ⟨b, off, none⟩ ∧ ∀ (i : Nat) u, xs[i]? = some u → w.cell? ⟨b, off + i, none⟩ = some u)
theorem Lst.keep {w w' : World} {v : Value} {xs : List Value} (h : Lst w v xs) (hk : ∀ b o u, v.ownBlock = some b → w.cell? ⟨b, o, none⟩ = some u → w'.cell? ⟨b, o, none⟩ = some u) : Lst w' v xs := by
  obtain ⟨A, cap, rfl, h1, h2, h3⟩ := h
  refine ⟨A, cap, rfl, h1, h2, ?_⟩
  rcases h3 with h3 | ⟨b, off, rfl, h3⟩
  · exact .inl h3
  · exact .inr ⟨b, off, rfl, fun i u hu => hk _ _ _ rfl (h3 i u hu)⟩
theorem Lst.below {w w' : World} {v : Value} {xs : List Value} (h : Lst w v xs) (hb : Below w.heap.size w w') : Lst w' v xs :=
  h.keep fun _ _ _ _ hc => (hb.cell (World.block_lt_of_cell? w _ hc)).trans hc
theorem Lst.grown {w w' : World} {v : Value} {xs : List Value} {row : Option Nat} (h : Lst w v xs) (hg : w.grownBy w' row) (hne : v.ownBlock = none ∨ v.ownBlock ≠ row) : Lst w' v xs :=
  h.keep fun b o u hb hc => hg.cell hc (by
    rcases hne with hne | hne
    · rw [hb] at hne; cases hne
    · rw [hb] at hne; exact hne)
theorem Lst.drewN {w : World} {v : Value} {xs : List Value} (h : Lst w v xs) (n : Nat) : Lst (w.drewN n) v xs := h
theorem Lst.of_own {w : World} {B : Nat} {e : TypeId} {v : Value} {n : Nat} {xs : List Value} (h : w.ownsRow B e 1 v n xs) : Lst w v xs := by
  have hl := h.1
  rw [Nat.mul_one] at hl
  subst hl
  rcases h.2 with ⟨rfl, hn⟩ | ⟨g, cap, cur, rfl, _, _, hnc, hcm, _, _⟩
  · exact ⟨none, 0, by rw [hn], by omega, by simp [maxLen], .inl (List.eq_nil_of_length_eq_zero hn)⟩
  · refine ⟨_, cap, rfl, hnc, hcm, .inr ⟨g, 0, rfl, fun i u hu => ?_⟩⟩
    have := h.cells (g := g) rfl i u hu
    rwa [Addr.add_lit] at this

def strs (l : List ByteArray) : List Value := l.map Value.string
theorem strs_length (l : List ByteArray) : (strs l).length = l.length := by simp [strs]
theorem strs_snoc (l : List ByteArray) (x : ByteArray) : strs (l ++ [x]) = strs l ++ [.string x] := by simp [strs]
theorem strs_at {w : World} {b off : Nat} {l : List ByteArray} (h : ∀ (i : Nat) u, (strs l)[i]? = some u → w.cell? ⟨b, off + i, none⟩ = some u) (k : Nat) (hk : k < l.length) : w.cell? ⟨b, off + k, none⟩ = some (.string l[k]) :=
  h k _ (by simp [strs, hk])
theorem take_eq_succ {α : Type} {l m : List α} {k : Nat} (h : l.take k = m.take k) (hl : k < l.length) (hm : k < m.length) (he : l[k] = m[k]) : l.take (k + 1) = m.take (k + 1) := by
  rw [List.take_succ_eq_append_getElem hl, List.take_succ_eq_append_getElem hm, h, he]
theorem grown_of_below {a w : World} (h : Below a.heap.size a w) (row : Option Nat) : a.grownBy w row := ⟨h.os, h.tape, h.output, h.size, fun i hi _ => h.block i hi⟩
theorem grown_trans {a b c : World} {row : Option Nat} (h : a.grownBy b row) (k : b.grownBy c row) : a.grownBy c row :=
  ⟨k.os.trans h.os, k.tape.trans h.tape, k.output.trans h.output, Nat.le_trans h.size k.size, fun i hi hne => (k.block i (Nat.lt_of_lt_of_le hi h.size) hne).trans (h.block i hi hne)⟩
theorem own_mono {w : World} {B B' : Nat} {e : TypeId} {size : Nat} {v : Value} {n : Nat} {xs : List Value} (h : w.ownsRow B e size v n xs) (hb : B' ≤ B) : w.ownsRow B' e size v n xs := by
  refine ⟨h.1, h.2.imp id ?_⟩
  rintro ⟨g, cap, cur, h1, h2, h3⟩
  exact ⟨g, cap, cur, h1, Nat.le_trans hb h2, h3⟩
theorem own_setCell {w : World} {B : Nat} {e : TypeId} {size : Nat} {v : Value} {n : Nat} {xs : List Value} (h : w.ownsRow B e size v n xs) {a : Addr} (ha : a.block < B) (u : Value) : (w.setCell a u).ownsRow B e size v n xs := by
  refine ⟨h.1, h.2.imp id ?_⟩
  rintro ⟨g, cap, cur, h1, h2, h3, h4⟩
  exact ⟨g, cap, cur, h1, h2, by rw [Below.heap_setCell _ _ _ _ (by omega)]; exact h3, h4⟩
theorem own_setCell2 {w : World} {B : Nat} {e : TypeId} {size : Nat} {v : Value} {n : Nat} {xs : List Value} (h : w.ownsRow B e size v n xs) {a : Addr} (ha : ∀ k, v.ownBlock = some k → k ≠ a.block) (u : Value) : (w.setCell a u).ownsRow B e size v n xs := by
  refine ⟨h.1, h.2.imp id ?_⟩
  rintro ⟨g, cap, cur, rfl, h2, h3, h4⟩
  exact ⟨g, cap, cur, rfl, h2, by rw [Below.heap_setCell _ _ _ _ (ha g rfl)]; exact h3, h4⟩
/-- what lay below reads as before and is as free to write -/
theorem below_reads {W w : World} {B : Nat} (h : Below B W w) : (∀ b o, b < B → w.cell? ⟨b, o, none⟩ = W.cell? ⟨b, o, none⟩) ∧ (∀ b o, b < B → w.frozen? ⟨b, o, none⟩ = W.frozen? ⟨b, o, none⟩) :=
  ⟨fun _ _ hb => h.cell hb, fun _ _ hb => h.frozen hb⟩
theorem own_slice {w : World} {B : Nat} {e : TypeId} {size : Nat} {v : Value} {n : Nat} {xs : List Value} (h : w.ownsRow B e size v n xs) : ∃ A cap, v = .slice A n cap := by
  rcases h.2 with ⟨h1, rfl⟩ | ⟨g, cap, cur, h1, _⟩
  · exact ⟨_, _, h1⟩
  · exact ⟨_, _, h1⟩
theorem lst_slice {w : World} {v : Value} {xs : List Value} (h : Lst w v xs) : ∃ A cap, v = .slice A xs.length cap := by
  obtain ⟨A, cap, h1, _⟩ := h
  exact ⟨A, cap, h1⟩
theorem own_below {w w' : World} {B : Nat} {e : TypeId} {size : Nat} {v : Value} {n : Nat} {xs : List Value} (h : w.ownsRow B e size v n xs) (hb : Below w.heap.size w w') : w'.ownsRow B e size v n xs :=
  h.kept (grown_of_below hb none) (by cases v.ownBlock <;> simp)
/-- a list that lies in no written row stays -/
theorem Lst.grown2 {w w' : World} {v : Value} {xs : List Value} {row : Option Nat} (h : Lst w v xs) (hg : w.grownBy w' row) (hne : xs = [] ∨ ∀ k, v.ownBlock = some k → row ≠ some k) : Lst w' v xs := by
  obtain ⟨A, cap, rfl, h1, h2, h3⟩ := h
  refine ⟨A, cap, rfl, h1, h2, ?_⟩
  rcases h3 with h3 | ⟨b, off, rfl, h3⟩
  · exact .inl h3
  · by_cases hx : xs = []
    · exact .inl hx
    · exact .inr ⟨b, off, rfl, fun i u hu => hg.cell (h3 i u hu) (fun e => (hne.resolve_left hx) b rfl e.symm)⟩
/-- where a list lies -/
theorem lst_lt {w : World} {v : Value} {xs : List Value} (h : Lst w v xs) : xs = [] ∨ ∀ k, v.ownBlock = some k → k < w.heap.size := by
  obtain ⟨A, cap, rfl, _, _, h3⟩ := h
  rcases h3 with h3 | ⟨b, off, rfl, h3⟩
  · exact .inl h3
  · by_cases hx : xs = []
    · exact .inl hx
    · refine .inr fun k hk => ?_
      injection hk with hk
      subst hk
      obtain ⟨u, hu⟩ : ∃ u, xs[0]? = some u := ⟨xs[0]'(List.length_pos_iff.2 hx), List.getElem?_eq_getElem _⟩
      exact World.block_lt_of_cell? _ _ (h3 0 u hu)
theorem grown_cell {w w' : World} {row : Option Nat} {a : Nat} {u : Value} (hg : w.grownBy w' row) (hc : w.cell? ⟨a, 0, none⟩ = some u) (hne : row ≠ some a) : w'.cell? ⟨a, 0, none⟩ = some u :=
  hg.cell hc (fun e => hne e.symm)
theorem own_apart {w w' : World} {B : Nat} {e : TypeId} {size : Nat} {v : Value} {n : Nat} {xs : List Value} {row : Option Nat} (h : w.ownsRow B e size v n xs) (hg : w.grownBy w' row) (hne : ∀ k, v.ownBlock = some k → row = some k → False) : w'.ownsRow B e size v n xs :=
  h.kept hg (by
    rcases hv : v.ownBlock with _ | k
    · exact .inl rfl
    · exact .inr fun h' => hne k hv h'.symm)
theorem own_some {w : World} {B : Nat} {e : TypeId} {v : Value} {n : Nat} {xs : List Value} (h : w.ownsRow B e 1 v n xs) (hn : 0 < n) : ∃ g cap, v = .slice (some ⟨g, 0, none⟩) n cap ∧ n ≤ cap := by
  rcases h.2 with ⟨_, h'⟩ | ⟨g, cap, cur, h', _, _, hnc, _⟩
  · omega
  · exact ⟨g, cap, h', hnc⟩
end Go.Proofs.Ytgfhconcmoepcaa

/- What a substitution is, and what it does. No program in it. -/
namespace Go.Proofs.Ytgfhconcmoepcaa
open Go.RowKit

/-- all letters are among the first n -/
def withinB (n : Nat) (s : ByteArray) : Bool := s.data.toList.all fun c => decide (c.toNat < 97 + n)
def imgB (n : Nat) (s : ByteArray) : Bool := (decide (1 ≤ s.size) && decide (s.size ≤ 8)) && (wordB s && withinB n s)
/-- this list of images is a substitution -/
def substB (l : List ByteArray) : Bool := (decide (1 ≤ l.length) && decide (l.length ≤ 4)) && l.all (imgB l.length)

theorem lall_no {α : Type} {p : α → Bool} (l : List α) (k : Nat) (hk : k < l.length) (h : p l[k] = false) : l.all p = false :=
  List.all_eq_false.2 ⟨_, List.getElem_mem hk, by simp [h]⟩
theorem lall_snoc {α : Type} {p : α → Bool} (l : List α) (k : Nat) (hk : k < l.length) (ha : (l.take k).all p = true) (h : p l[k] = true) : (l.take (k + 1)).all p = true := by
  rw [List.take_succ_eq_append_getElem hk, List.all_append, ha]
  simp [h]
theorem lall_end {α : Type} {p : α → Bool} (l : List α) (ha : (l.take l.length).all p = true) : l.all p = true := by
  rwa [List.take_length] at ha
theorem subst_no {l : List ByteArray} (k : Nat) (hk : k < l.length) (h : imgB l.length l[k] = false) : substB l = false := by
  unfold substB
  rw [lall_no l k hk h, Bool.and_false]
theorem subst_yes {l : List ByteArray} (h1 : 1 ≤ l.length) (h2 : l.length ≤ 4) (ha : (l.take l.length).all (imgB l.length) = true) : substB l = true := by
  unfold substB
  rw [lall_end l ha, decide_eq_true h1, decide_eq_true h2]
  rfl
theorem subst_len {l : List ByteArray} (h : ¬ (1 ≤ l.length ∧ l.length ≤ 4)) : substB l = false := by
  unfold substB
  have : (decide (1 ≤ l.length) && decide (l.length ≤ 4)) = false := by simpa using h
  rw [this, Bool.false_and]
theorem img_no1 {n : Nat} {s : ByteArray} (h : ¬ (1 ≤ s.size ∧ s.size ≤ 8)) : imgB n s = false := by
  unfold imgB
  have : (decide (1 ≤ s.size) && decide (s.size ≤ 8)) = false := by simpa using h
  rw [this, Bool.false_and]
theorem img_no2 {n : Nat} {s : ByteArray} (h : wordB s = false) : imgB n s = false := by
  unfold imgB; rw [h, Bool.false_and, Bool.and_false]
theorem img_no3 {n : Nat} {s : ByteArray} (h : withinB n s = false) : imgB n s = false := by
  unfold imgB; rw [h, Bool.and_false, Bool.and_false]
theorem img_yes {n : Nat} {s : ByteArray} (h1 : 1 ≤ s.size) (h2 : s.size ≤ 8) (h3 : wordB s = true) (h4 : withinB n s = true) : imgB n s = true := by
  unfold imgB; rw [h3, h4, decide_eq_true h1, decide_eq_true h2]; rfl
theorem img_parts {n : Nat} {s : ByteArray} (h : imgB n s = true) : 1 ≤ s.size ∧ s.size ≤ 8 ∧ wordB s = true ∧ withinB n s = true := by
  unfold imgB at h
  simp only [Bool.and_eq_true, decide_eq_true_eq] at h
  exact ⟨h.1.1, h.1.2, h.2.1, h.2.2⟩
theorem subst_parts {l : List ByteArray} (h : substB l = true) : 1 ≤ l.length ∧ l.length ≤ 4 ∧ ∀ k (hk : k < l.length), imgB l.length l[k] = true := by
  unfold substB at h
  simp only [Bool.and_eq_true, decide_eq_true_eq] at h
  exact ⟨h.1.1, h.1.2, fun k hk => List.all_eq_true.1 h.2 _ (List.getElem_mem hk)⟩
theorem within_at {n : Nat} {s : ByteArray} (h : withinB n s = true) (k : Nat) (hk : k < s.size) : s[k].toNat < 97 + n := by
  unfold withinB at h
  have hm : s[k] ∈ s.data.toList := by
    have : s[k] = s.data.toList[k]'(by simpa using hk) := rfl
    rw [this]; exact List.getElem_mem _
  simpa using List.all_eq_true.1 h _ hm

/-- the image of a letter -/
def imgOf (l : List ByteArray) (c : UInt8) : List UInt8 := (l.getD (c.toNat - 97) ⟨#[]⟩).data.toList
def applyL (l : List ByteArray) (w : List UInt8) : List UInt8 := w.flatMap (imgOf l)
theorem imgOf_at (l : List ByteArray) (c : UInt8) (j : Nat) (hj : c.toNat = 97 + j) (hl : j < l.length) : imgOf l c = l[j].data.toList := by
  unfold imgOf
  rw [List.getD_eq_getElem?_getD, show c.toNat - 97 = j from by omega, List.getElem?_eq_getElem hl]
  rfl
theorem applyL_succ (l : List ByteArray) (s : ByteArray) (k : Nat) (h : k < s.size) : applyL l (s.data.toList.take (k + 1)) = applyL l (s.data.toList.take k) ++ imgOf l s[k] := by
  unfold applyL
  rw [take_snoc s k h, List.flatMap_append]
  simp
theorem applyL_take_le (l : List ByteArray) (w : List UInt8) (k : Nat) : (applyL l (w.take k)).length ≤ (applyL l w).length := by
  unfold applyL
  conv => rhs; rw [← List.take_append_drop k w, List.flatMap_append, List.length_append]
  omega
end Go.Proofs.Ytgfhconcmoepcaa

/- What a valid substitution makes of a valid word is a valid word, if it is short enough; applied again and again. No program in it. -/
namespace Go.Proofs.Ytgfhconcmoepcaa
open Go.RowKit

def stepS (l : List ByteArray) (s : ByteArray) : ByteArray := ⟨(applyL l s.data.toList).toArray⟩
theorem stepS_list (l : List ByteArray) (s : ByteArray) : (stepS l s).data.toList = applyL l s.data.toList := rfl
theorem stepS_size (l : List ByteArray) (s : ByteArray) : (stepS l s).size = (applyL l s.data.toList).length := by
  show (applyL l s.data.toList).toArray.size = _
  simp
theorem all_of_word {s : ByteArray} (h : wordB s = true) : s.data.toList.all isAbcd = true := by
  unfold wordB at h
  rw [Bool.and_eq_true] at h
  exact h.2
theorem applyL_all (p : UInt8 → Bool) {l : List ByteArray} (hp : ∀ k (hk : k < l.length), l[k].data.toList.all p = true) (w : List UInt8) (hw : ∀ c ∈ w, 97 ≤ c.toNat ∧ c.toNat < 97 + l.length) : (applyL l w).all p = true := by
  unfold applyL
  rw [List.all_flatMap, List.all_eq_true]
  intro c hc
  obtain ⟨h1, h2⟩ := hw c hc
  rw [imgOf_at l c (c.toNat - 97) (by omega) (by omega)]
  exact hp _ _
theorem word_mem {s : ByteArray} (h : wordB s = true) {n : Nat} (h2 : withinB n s = true) : ∀ c ∈ s.data.toList, 97 ≤ c.toNat ∧ c.toNat < 97 + n := by
  intro c hc
  have a := List.all_eq_true.1 (all_of_word h) c hc
  have b := List.all_eq_true.1 h2 c hc
  simp [isAbcd] at a b
  omega
theorem step_word {l : List ByteArray} {s : ByteArray} (hl : substB l = true) (hs : wordB s = true) (hw : withinB l.length s = true) (h4 : (applyL l s.data.toList).length ≤ 400) : wordB (stepS l s) = true ∧ withinB l.length (stepS l s) = true := by
  obtain ⟨_, _, hi⟩ := subst_parts hl
  constructor
  · unfold wordB
    rw [stepS_size, decide_eq_true h4, stepS_list, applyL_all isAbcd (fun k hk => all_of_word (img_parts (hi k hk)).2.2.1) _ (word_mem hs hw)]
    rfl
  · exact applyL_all _ (fun k hk => (img_parts (hi k hk)).2.2.2) _ (word_mem hs hw)

/-- what ApplySubst is to return -/
def appOk (l : List ByteArray) (s : ByteArray) : Bool := (substB l && (wordB s && withinB l.length s)) && decide ((applyL l s.data.toList).length ≤ 400)
def appR (l : List ByteArray) (s : ByteArray) : ByteArray := if appOk l s = true then stepS l s else ⟨#[]⟩

def iterS (l : List ByteArray) (s : ByteArray) : Nat → ByteArray
  | 0 => s
  | n + 1 => stepS l (iterS l s n)
def iterOk (l : List ByteArray) (s : ByteArray) : Nat → Bool
  | 0 => true
  | n + 1 => iterOk l s n && decide ((applyL l (iterS l s n).data.toList).length ≤ 400)
theorem iterOk_mono {l : List ByteArray} {s : ByteArray} {k : Nat} (h : iterOk l s k = false) : ∀ n, iterOk l s (k + n) = false
  | 0 => h
  | n + 1 => by
    show (iterOk l s (k + n) && _) = false
    rw [iterOk_mono h n, Bool.false_and]
theorem iter_word {l : List ByteArray} {s : ByteArray} (hl : substB l = true) (hs : wordB s = true) (hw : withinB l.length s = true) : ∀ n, iterOk l s n = true → wordB (iterS l s n) = true ∧ withinB l.length (iterS l s n) = true
  | 0, _ => ⟨hs, hw⟩
  | n + 1, h => by
    have h' : (iterOk l s n && decide ((applyL l (iterS l s n).data.toList).length ≤ 400)) = true := h
    rw [Bool.and_eq_true, decide_eq_true_eq] at h'
    obtain ⟨a, b⟩ := iter_word hl hs hw n h'.1
    exact step_word hl a b h'.2
/-- what IterateSubst is to return -/
def itOk (l : List ByteArray) (s : ByteArray) (n : Int) : Bool := (decide (0 ≤ n) && decide (n ≤ 20)) && ((substB l && (wordB s && withinB l.length s)) && iterOk l s n.toNat)
def itR (l : List ByteArray) (s : ByteArray) (n : Int) : ByteArray := if itOk l s n = true then iterS l s n.toNat else ⟨#[]⟩
def PairSaid (r : ByteArray) (ok : Bool) (w : World) (e : Ending) (w' : World) : Prop := e = .returned (.tuple #[.string r, .bool ok]) ∧ Below w.heap.size w w'
theorem appR_no {l : List ByteArray} {s : ByteArray} (h : appOk l s = false) {w w' : World} (hb : Below w.heap.size w w') : PairSaid (appR l s) (appOk l s) w (.returned (.tuple #[.string ⟨#[]⟩, .bool false])) w' := by
  refine ⟨?_, hb⟩
  have e : appR l s = ⟨#[]⟩ := if_neg (by rw [h]; decide)
  rw [h, e]
theorem itR_no {l : List ByteArray} {s : ByteArray} {n : Int} (h : itOk l s n = false) {w w' : World} (hb : Below w.heap.size w w') : PairSaid (itR l s n) (itOk l s n) w (.returned (.tuple #[.string ⟨#[]⟩, .bool false])) w' := by
  refine ⟨?_, hb⟩
  have e : itR l s n = ⟨#[]⟩ := if_neg (by rw [h]; decide)
  rw [h, e]

theorem img_le {l : List ByteArray} (hl : substB l = true) (c : UInt8) : (imgOf l c).length ≤ 8 := by
  obtain ⟨_, _, hi⟩ := subst_parts hl
  unfold imgOf
  rw [List.getD_eq_getElem?_getD]
  by_cases h : c.toNat - 97 < l.length
  · rw [List.getElem?_eq_getElem h]
    have := (img_parts (hi _ h)).2.1
    simpa using this
  · rw [List.getElem?_eq_none (by omega)]
    simp
theorem applyL_le {l : List ByteArray} (hl : substB l = true) : ∀ w : List UInt8, (applyL l w).length ≤ 8 * w.length
  | [] => by simp [applyL]
  | c :: w => by
    have h1 := img_le hl c
    have h2 := applyL_le hl w
    unfold applyL at h2 ⊢
    rw [List.flatMap_cons, List.length_append, List.length_cons]
    omega
/-- what ComposeSubst is to return -/
def compR (l m : List ByteArray) : List ByteArray := l.map (stepS m)
def compOk (l m : List ByteArray) : Bool := (substB l && (substB m && decide (l.length = m.length))) && substB (compR l m)
def compSub (l m : List ByteArray) : List ByteArray := if compOk l m = true then compR l m else []
theorem compSub_le (l m : List ByteArray) : (compSub l m).length ≤ 4 := by
  unfold compSub; split
  · rename_i h
    unfold compOk at h
    rw [Bool.and_eq_true] at h
    exact (subst_parts h.2).2.1
  · simp
theorem compR_succ (l m : List ByteArray) (k : Nat) (hk : k < l.length) : strs (compR (l.take (k + 1)) m) = strs (compR (l.take k) m) ++ [.string (stepS m l[k])] := by
  unfold compR
  rw [List.take_succ_eq_append_getElem hk, List.map_append, List.map_cons, List.map_nil, strs_snoc]
theorem compR_small {l m : List ByteArray} (hl : substB l = true) (hm : substB m = true) : ∀ x ∈ compR l m, x.size ≤ 1048576 := by
  intro x hx
  obtain ⟨y, hy, rfl⟩ := List.mem_map.1 hx
  obtain ⟨k, hk, rfl⟩ := List.mem_iff_getElem.1 hy
  have h1 := (img_parts ((subst_parts hl).2.2 k hk)).2.1
  have h2 := applyL_le hm l[k].data.toList
  rw [stepS_size]
  have : l[k].data.toList.length = l[k].size := by simp
  omega
end Go.Proofs.Ytgfhconcmoepcaa

/- The laws' own helpers on slices of ints: eqIntS, markIntS, heldIntS, as contracts. Conditions: lengths as Go has them. -/
namespace Go.Proofs.Ytgfhconcmoepcaa
open Go.RowKit

def ints (l : List Int) : List Value := l.map (Value.int .i64)
theorem ints_length (l : List Int) : (ints l).length = l.length := by simp [ints]
theorem ints_snoc (l : List Int) (x : Int) : ints (l ++ [x]) = ints l ++ [.int .i64 x] := by simp [ints]
theorem ints_at {w : World} {b off : Nat} {l : List Int} (h : ∀ (i : Nat) u, (ints l)[i]? = some u → w.cell? ⟨b, off + i, none⟩ = some u) (k : Nat) (hk : k < l.length) : w.cell? ⟨b, off + k, none⟩ = some (.int .i64 l[k]) :=
  h k _ (by simp [ints, hk])
theorem int_info : (Try.prog.info? 3).map (fun i => (i.zero, i.size, i.bytes)) = some (some (.int .i64 0), 1, 8) := by kernel_rfl

/-- Two lists of ints that are the same: eqIntS says so. -/
theorem eqIntS_same (l : List Int) (v1 v2 : Value) (w : World) (h1 : Lst w v1 (ints l)) (h2 : Lst w v2 (ints l)) :
    Calls Try.prog 44 #[v1, v2] w fun e w' => e = .returned (.bool true) ∧ ∃ n, w' = w.drewN n := by
  obtain ⟨A, c, rfl, hc1, hc2, h1⟩ := h1
  obtain ⟨A', c', rfl, hc1', hc2', h2⟩ := h2
  rw [ints_length] at hc1 hc1'
  rw [ints_length]
  have hmax : l.length ≤ 9223372036854775807 := by unfold maxLen at hc2; omega
  clear hc2 hc2' hc1 hc1'
  have hnn : ((l.length : Int) != (l.length : Int)) = false := by simp
  by_cases hl : l = []
  · subst hl
    go_enter Try.func44, Try.ntmps44
    go_wp2
    refine wp_loop_rounds 1 ?_
    rw [rounds_succ]
    go_wp2
    go_ret
    exact ⟨rfl, 0, rfl⟩
  replace h1 := h1.resolve_left (by simp [ints, hl])
  replace h2 := h2.resolve_left (by simp [ints, hl])
  obtain ⟨b, off, rfl, h1⟩ := h1
  obtain ⟨b', off', rfl, h2⟩ := h2
  have hpos : 0 < l.length := List.length_pos_iff.2 hl
  have H1 := Lib.hid (ints_at h1)
  have H2 := Lib.hid (ints_at h2)
  clear h1 h2 hl
  go_enter Try.func44, Try.ntmps44
  go_wp2
  go_loopw [5] (fun i w' => ∃ (k n : Nat), k ≤ l.length ∧ i = .int .i64 k ∧ w' = w.drewN n) (fun i _ => l.length - (intOf i).toNat)
  case atStart => exact ⟨0, 0, by omega, rfl, rfl⟩
  case round =>
    obtain ⟨k, n, hk, rfl, rfl⟩ := hrel
    by_cases hlt : k < l.length
    · have g1 := H1.out k hlt
      have g2 := H2.out k hlt
      have gb : (l[k] != l[k]) = false := by simp
      go_wp2
      go_quiet (fail)
      go_wp2
      go_roundw
      case rel => exact ⟨k + 1, _, by omega, by go_num, rfl⟩
      case measure => simp [intOf]; omega
    · go_wp2
      go_ret
      exact ⟨rfl, n, rfl⟩

/-- the n numbers from k on -/
def upto (k : Int) (n : Nat) : List Int := (List.range n).map fun (i : Nat) => k + (i : Int)
theorem upto_length (k : Int) (n : Nat) : (upto k n).length = n := by simp [upto]
theorem upto_at (k : Int) (n i : Nat) (h : i < n) : (upto k n)[i]'(by simpa [upto] using h) = k + i := by simp [upto]
theorem upto_succ (k : Int) (n : Nat) : ints (upto k (n + 1)) = ints (upto k n) ++ [.int .i64 (k + n)] := by simp [upto, ints, List.range_succ]

/-- A slice of such numbers: heldIntS counts them. -/
theorem heldIntS_marks (v : Value) (k : Int) (n : Nat) (w : World) (hk : 0 ≤ k) (hkn : k + n ≤ 9223372036854775807) (h1 : Lst w v (ints (upto k n))) :
    Calls Try.prog 46 #[v, .int .i64 k] w fun e w' => e = .returned (.int .i64 (k + n)) ∧ ∃ m, w' = w.drewN m := by
  obtain ⟨A, c, rfl, hc1, hc2, h1⟩ := h1
  rw [ints_length, upto_length] at hc1
  rw [ints_length, upto_length]
  unfold maxLen at hc2
  have hmax : n ≤ 9223372036854775807 := by omega
  clear hc2 hc1
  by_cases hl : n = 0
  · subst hl
    go_enter Try.func46, Try.ntmps46
    go_wp2
    refine wp_loop_rounds 1 ?_
    rw [rounds_succ]
    go_wp2
    go_ret
    exact ⟨ret_int (by simp), 0, rfl⟩
  replace h1 := h1.resolve_left (by
    intro e
    have := congrArg List.length e
    rw [ints_length, upto_length] at this
    exact hl this)
  obtain ⟨b, off, rfl, h1⟩ := h1
  have H1 : Hid (∀ i, i < n → w.cell? ⟨b, off + i, none⟩ = some (.int .i64 (k + i))) := fun i hi => by
    have := ints_at h1 i (by rw [upto_length]; exact hi)
    rwa [upto_at _ _ _ hi] at this
  clear h1
  go_enter Try.func46, Try.ntmps46
  go_wp2
  go_loopw [1, 5] (fun q i w' => ∃ (j m : Nat), j ≤ n ∧ i = .int .i64 j ∧ q = .int .i64 (k + j) ∧ w' = w.drewN m) (fun _ i _ => n - (intOf i).toNat)
  case atStart => exact ⟨0, 0, by omega, rfl, by simp, rfl⟩
  case round =>
    obtain ⟨j, m, hj, rfl, rfl, rfl⟩ := hrel
    by_cases hlt : j < n
    · have g1 := H1.out j hlt
      have hkj : k + (j : Int) ≤ 9223372036854775806 := by omega
      have hkj0 : 0 ≤ k + (j : Int) := by omega
      have gb : ((k + (j : Int)) != (k + (j : Int))) = false := by simp
      go_wp2
      try go_quiet (fail)
      go_wp2
      go_roundw
      case rel => exact ⟨j + 1, _, by omega, by go_num, by rw [show k + (j : Int) + 1 = k + ((j + 1 : Nat) : Int) from by omega], rfl⟩
      case measure => simp [intOf]; omega
    · have hjn : j = n := by omega
      subst hjn
      go_wp2
      go_ret
      exact ⟨rfl, m, rfl⟩

/-- A slice of the call's own: markIntS lays the numbers into it. -/
theorem markIntS_own {te : TypeId} (B : Nat) (v : Value) (k : Int) (n : Nat) (xs : List Value) (w : World) (hk : 0 ≤ k) (hkn : k + n ≤ 9223372036854775807) (hown : w.ownsRow B te 1 v n xs) :
    Calls Try.prog 45 #[v, .int .i64 k] w fun e w' => e = .returned (.int .i64 (k + n)) ∧ w'.ownsRow B te 1 v n (ints (upto k n)) ∧ w.grownBy w' v.ownBlock := by
  have hlen := hown.1
  rw [Nat.mul_one] at hlen
  rcases hown.2 with ⟨rfl, rfl⟩ | ⟨g, cap, cur, rfl, hBg, hg, hnc, hcm, _, _⟩
  · have hx : xs = [] := List.eq_nil_of_length_eq_zero hlen
    subst hx
    go_enter Try.func45, Try.ntmps45
    go_wp2
    refine wp_loop_rounds 1 ?_
    rw [rounds_succ]
    go_wp2
    go_ret
    exact ⟨ret_int (by simp), hown, World.grownBy.refl _ _⟩
  have hmax : n ≤ 9223372036854775807 := by unfold maxLen at hcm; omega
  clear hcm hnc hg
  have HX := Lib.hid hlen
  clear hlen
  go_enter Try.func45, Try.ntmps45
  go_wp2
  go_loopw [1, 5] (fun q i w' => ∃ (j : Nat), j ≤ n ∧ i = .int .i64 j ∧ q = .int .i64 (k + j) ∧ w'.ownsRow B te 1 (.slice (some ⟨g, 0, none⟩) n cap) n (ints (upto k j) ++ xs.drop j) ∧ w.grownBy w' (some g)) (fun _ i _ => n - (intOf i).toNat)
  case atStart => exact ⟨0, by omega, rfl, by simp, by simpa [upto, ints] using hown, World.grownBy.refl _ _⟩
  case round =>
    obtain ⟨j, hj, rfl, rfl, ho, hgr⟩ := hrel
    by_cases hlt : j < n
    · have hkj : k + (j : Int) ≤ 9223372036854775806 := by omega
      have hkj0 : 0 ≤ k + (j : Int) := by omega
      have hcell : ∃ u, (ints (upto k j) ++ xs.drop j)[j]? = some u := ⟨(ints (upto k j) ++ xs.drop j)[j]'(by rw [List.length_append, ints_length, upto_length, List.length_drop, HX.out]; omega), List.getElem?_eq_getElem _⟩
      obtain ⟨u, hu⟩ := hcell
      have hset : (ints (upto k j) ++ xs.drop j).set j (.int .i64 (k + j)) = ints (upto k (j + 1)) ++ xs.drop (j + 1) := by
        have hd : xs.drop j = xs[j]'(by rw [HX.out]; exact hlt) :: xs.drop (j + 1) := List.drop_eq_getElem_cons _
        rw [upto_succ, hd, List.set_append_right _ _ (by rw [ints_length, upto_length]; exact Nat.le_refl _), ints_length, upto_length, Nat.sub_self, List.set_cons_zero, List.append_assoc]
        rfl
      have HS := Lib.hid hset
      have g2 := (ho.cellAt j (by omega)).trans hu
      have g3 := ho.frozenAt j
      clear hset hu
      go_wp2
      go_roundw
      case rel =>
        refine ⟨j + 1, by omega, by go_num, by rw [show k + (j : Int) + 1 = k + ((j + 1 : Nat) : Int) from by omega], ?_, ?_⟩
        · have := (ho.stored j (.int .i64 (k + j))).1
          rwa [HS.out] at this
        · exact grown_trans hgr (ho.stored j (.int .i64 (k + j))).2
      case measure => simp [intOf]; omega
    · have hjn : j = n := by omega
      subst hjn
      go_wp2
      go_ret
      rw [List.drop_of_length_le (by rw [HX.out]; exact Nat.le_refl _), List.append_nil] at ho
      exact ⟨rfl, ho, hgr⟩
end Go.Proofs.Ytgfhconcmoepcaa
