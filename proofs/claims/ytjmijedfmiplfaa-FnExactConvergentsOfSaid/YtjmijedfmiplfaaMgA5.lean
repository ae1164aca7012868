/- Texts put together. -/
import Derived.Test.YtjmijedfmiplfaaMgA4
import Derived.Test.YtjmijedfmiplfaaMgA2
import Derived.Test.YtjmijedfmiplfaaMgA1
/- For the laws over ints and matrices: the helpers' contracts with one kind of end; arguments opened. -/
namespace Go.Proofs.Ytjmijedfmiplfaa
open Go.ChangeShapes Go.WideShapes Go.RowKit

theorem eqIntS_b (l : List Int) (v1 v2 : Value) (w : World) (h1 : Lst w v1 (ints l)) (h2 : Lst w v2 (ints l)) :
    Calls Try.prog 14 #[v1, v2] w fun e w' => e = .returned (.bool true) ∧ Below w.heap.size w w' :=
  (eqIntS_same l v1 v2 w h1 h2).mono (by rintro e w' ⟨h, n, rfl⟩; exact ⟨h, below_drewN (Below.refl _ _) n⟩)
theorem heldIntS_b (v : Value) (k : Int) (n : Nat) (w : World) (hk : 0 ≤ k) (hkn : k + n ≤ 9223372036854775807) (h1 : Lst w v (ints (upto k n))) :
    Calls Try.prog 16 #[v, .int .i64 k] w fun e w' => e = .returned (.int .i64 (k + n)) ∧ Below w.heap.size w w' :=
  (heldIntS_marks v k n w hk hkn h1).mono (by rintro e w' ⟨h, n, rfl⟩; exact ⟨h, below_drewN (Below.refl _ _) n⟩)
theorem eqIntSS_b (m : List (List Int)) (v1 v2 : Value) (w : World) (h1 : Mat w v1 m) (h2 : Mat w v2 m) :
    Calls Try.prog 22 #[v1, v2] w fun e w' => e = .returned (.bool true) ∧ Below w.heap.size w w' :=
  (eqIntSS_same m v1 v2 w h1 h2).mono (by rintro e w' ⟨h, n, rfl⟩; exact ⟨h, below_drewN (Below.refl _ _) n⟩)
theorem heldIntSS_b (v : Value) (k : Int) (ns : List Nat) (w : World) (hk : 0 ≤ k) (hkn : k + sumN ns ≤ 1099511627776) (hn : ns.length ≤ 1048576) (h1 : Mat w v (marksM k ns)) :
    Calls Try.prog 24 #[v, .int .i64 k] w fun e w' => e = .returned (.int .i64 (k + sumN ns)) ∧ Below w.heap.size w w' :=
  (heldIntSS_marks v k ns w hk hkn hn h1).mono (by rintro e w' ⟨h, n, rfl⟩; exact ⟨h, below_drewN (Below.refl _ _) n⟩)
theorem len_le_sumN : ∀ {m : List (List Int)} {x : List Int}, x ∈ m → x.length ≤ sumN (m.map List.length)
  | y :: m, x, h => by
    unfold sumN
    rw [List.map_cons, List.sum_cons]
    rcases List.mem_cons.1 h with rfl | h
    · omega
    · have := len_le_sumN h
      unfold sumN at this
      omega
theorem szM_use {m : List (List Int)} {r left : Int} (h : (m.length : Int) + sumN (lens m) + r = left) (h0 : 0 ≤ r) (h1 : left ≤ 1048576) : m.length ≤ 1048576 ∧ (∀ x ∈ m, x.length ≤ 1048576) ∧ sumN (m.map List.length) ≤ 1048576 := by
  have e : sumN (lens m) = sumN (m.map List.length) := rfl
  rw [e] at h
  exact ⟨by omega, fun x hx => by have := len_le_sumN hx; omega, by omega⟩
theorem KeepsOut.cell {lo hi : Nat} {w w' : World} {a : Nat} {u : Value} (k : KeepsOut lo hi w w') (h : w.cell? ⟨a, 0, none⟩ = some u) (hne : a < lo ∨ hi ≤ a) : w'.cell? ⟨a, 0, none⟩ = some u := by
  have hlt := World.block_lt_of_cell? w _ h
  have e := k.2.2.2.2 a hlt hne
  rw [← h]
  unfold World.cell?
  rw [e]
theorem KeepsOut.size {lo hi : Nat} {w w' : World} (k : KeepsOut lo hi w w') : w.heap.size ≤ w'.heap.size := k.2.2.2.1
theorem ints_arg {H : Type} {enc : TypeId × Value → H} {P : Program} {w : World} {base : Nat} {r : Reach} {b0 : Nat} {t e : TypeId} {v : Value} {d : DataW H} {ps : List MemPlace} (ht : P.underlying t = some (.slice e)) (he : P.underlying e = some (.int .i64)) (hc : P.cellsOf e = 1)
    (hval : Value.okWide P w r b0 t v) (h : DataW.Trod enc P w base (fun _ => true) true t v d ps) : ∃ l : List Int, Lst w v (ints l) ∧ ∀ z ∈ l, (Lit.int .i64 z).wf = true := by
  obtain ⟨A, ln, cp, rfl⟩ := okWide_slice ht hval
  obtain ⟨fuel, hf⟩ := h
  exact ints_cell (y := (d, ps)) ht he hc hf
theorem mat_arg {H : Type} {enc : TypeId × Value → H} {P : Program} {w : World} {base : Nat} {r : Reach} {b0 : Nat} {t e q : TypeId} {v : Value} {d : DataW H} {ps : List MemPlace} (ht : P.underlying t = some (.slice e)) (he : P.underlying e = some (.slice q)) (hq : P.underlying q = some (.int .i64)) (ce : P.cellsOf e = 1) (cq : P.cellsOf q = 1)
    (hval : Value.okWide P w r b0 t v) (h : DataW.Trod enc P w base (fun _ => true) true t v d ps) : ∃ m : List (List Int), Mat w v m ∧ (∀ r ∈ m, ∀ z ∈ r, (Lit.int .i64 z).wf = true) ∧ m.length ≤ 9223372036854775807 := by
  obtain ⟨A, ln, cp, rfl⟩ := okWide_slice ht hval
  obtain ⟨fuel, hf⟩ := h
  exact mat_cell (y := (d, ps)) ht he hq ce cq hf
theorem sum_rect : ∀ {m : List (List Int)} {c : Nat}, (∀ x ∈ m, x.length ≤ c) → sumN (m.map List.length) ≤ c * m.length
  | [], _, _ => by simp [sumN]
  | y :: m, c, h => by
    have h1 := h y (List.mem_cons_self ..)
    have h2 := sum_rect (m := m) (c := c) (fun x hx => h x (List.mem_cons_of_mem _ hx))
    unfold sumN at h2 ⊢
    rw [List.map_cons, List.sum_cons, List.length_cons, Nat.mul_succ]
    omega
end Go.Proofs.Ytjmijedfmiplfaa

/- Plain facts on the digits of a text. No program in it. -/
namespace Go.Proofs.Ytjmijedfmiplfaa
open Go.RowKit

def isDigB (c : UInt8) : Bool := decide (48 ≤ c.toNat) && decide (c.toNat ≤ 57)
def isLowB (c : UInt8) : Bool := decide (97 ≤ c.toNat) && decide (c.toNat ≤ 122)
def digs (l : List UInt8) : Bool := l.all isDigB && !l.isEmpty

theorem take_snoc (s : ByteArray) (k : Nat) (h : k < s.size) : s.data.toList.take (k + 1) = s.data.toList.take k ++ [s[k]] := by
  rw [List.take_succ_eq_append_getElem (by simpa using h)]; rfl
theorem take_all (s : ByteArray) (k : Nat) (h : s.size ≤ k) : s.data.toList.take k = s.data.toList := List.take_of_length_le (by simpa using h)
theorem all_snoc {p : UInt8 → Bool} (s : ByteArray) (k : Nat) (h : k < s.size) (ha : (s.data.toList.take k).all p = true) (hp : p s[k] = true) : (s.data.toList.take (k + 1)).all p = true := by
  rw [take_snoc s k h, List.all_append, ha]; simp [hp]
theorem all_not {p : UInt8 → Bool} (s : ByteArray) (k : Nat) (h : k < s.size) (hp : p s[k] = false) : s.data.toList.all p = false := by
  have hm : s[k] ∈ s.data.toList := by
    have : s[k] = s.data.toList[k]'(by simpa using h) := rfl
    rw [this]; exact List.getElem_mem _
  exact List.all_eq_false.2 ⟨_, hm, by simp [hp]⟩
theorem digs_no (s : ByteArray) (k : Nat) (h : k < s.size) (hp : isDigB s[k] = false) : digs s.data.toList = false := by
  unfold digs; rw [all_not s k h hp]; rfl
theorem digs_end (s : ByteArray) (ha : (s.data.toList.take s.size).all isDigB = true) : digs s.data.toList = decide (0 < s.size) := by
  rw [take_all s _ (Nat.le_refl _)] at ha
  unfold digs; rw [ha]
  obtain ⟨⟨l⟩⟩ := s
  cases l <;> simp [ByteArray.size]
end Go.Proofs.Ytjmijedfmiplfaa

/- What a word is. No program in it. -/
namespace Go.Proofs.Ytjmijedfmiplfaa
open Go.RowKit

def isAbcd (c : UInt8) : Bool := decide (97 ≤ c.toNat) && decide (c.toNat ≤ 100)
def wordB (s : ByteArray) : Bool := decide (s.size ≤ 400) && s.data.toList.all isAbcd
theorem word_size {s : ByteArray} (h : wordB s = true) : s.size ≤ 400 := by
  unfold wordB at h
  rw [Bool.and_eq_true] at h
  simpa using h.1
theorem word_at {s : ByteArray} (h : wordB s = true) (k : Nat) (hk : k < s.size) : 97 ≤ s[k].toNat ∧ s[k].toNat ≤ 100 := by
  unfold wordB at h
  rw [Bool.and_eq_true] at h
  have hm : s[k] ∈ s.data.toList := by
    have : s[k] = s.data.toList[k]'(by simpa using hk) := rfl
    rw [this]; exact List.getElem_mem _
  have := List.all_eq_true.1 h.2 _ hm
  simpa [isAbcd] using this
theorem word_long {s : ByteArray} (h : 400 < s.size) : wordB s = false := by
  unfold wordB
  rw [decide_eq_false (by omega)]
  rfl
theorem word_not {s : ByteArray} (k : Nat) (hk : k < s.size) (h : isAbcd s[k] = false) : wordB s = false := by
  unfold wordB
  rw [all_not s k hk h, Bool.and_false]
theorem word_yes {s : ByteArray} (h : s.size ≤ 400) (ha : (s.data.toList.take s.size).all isAbcd = true) : wordB s = true := by
  unfold wordB
  rw [take_all s _ (Nat.le_refl _)] at ha
  rw [ha, decide_eq_true h]
  rfl
/-- how often a byte stands in a text -/
def cnt (l : List UInt8) (c : UInt8) : Nat := l.count c
theorem cnt_succ (s : ByteArray) (k : Nat) (h : k < s.size) (c : UInt8) : cnt (s.data.toList.take (k + 1)) c = cnt (s.data.toList.take k) c + if s[k] = c then 1 else 0 := by
  unfold cnt
  rw [take_snoc s k h, List.count_append, List.count_singleton]
  congr 1
  by_cases e : s[k] = c <;> simp [e]
theorem cnt_le (l : List UInt8) (c : UInt8) : cnt l c ≤ l.length := List.count_le_length
end Go.Proofs.Ytjmijedfmiplfaa

/- What a substitution is, and what it does. No program in it. -/
namespace Go.Proofs.Ytjmijedfmiplfaa
open Go.RowKit

/-- all letters are among the first n -/
def withinB (n : Nat) (s : ByteArray) : Bool := s.data.toList.all fun c => decide (c.toNat < 97 + n)
def imgB (n : Nat) (s : ByteArray) : Bool := (decide (1 ≤ s.size) && decide (s.size ≤ 8)) && (wordB s && withinB n s)
/-- this list of images is a substitution -/
def substB (l : List ByteArray) : Bool := (decide (1 ≤ l.length) && decide (l.length ≤ 4)) && l.all (imgB l.length)

theorem lall_no {α : Type} {p : α → Bool} (l : List α) (k : Nat) (hk : k < l.length) (h : p l[k] = false) : l.all p = false :=
  List.all_eq_false.2 ⟨_, List.getElem_mem hk, by simp [h]⟩
theorem lall_snoc {α : Type} {p : α → Bool} (l : List α) (k : Nat) (hk : k < l.length) (ha : (l.take k).all p = true) (h : p l[k] = true) : (l.take (k + 1)).all p = true := by
  rw [List.take_succ_eq_append_getElem hk, List.all_append, ha]
  simp [h]
theorem lall_end {α : Type} {p : α → Bool} (l : List α) (ha : (l.take l.length).all p = true) : l.all p = true := by
  rwa [List.take_length] at ha
theorem subst_no {l : List ByteArray} (k : Nat) (hk : k < l.length) (h : imgB l.length l[k] = false) : substB l = false := by
  unfold substB
  rw [lall_no l k hk h, Bool.and_false]
theorem subst_yes {l : List ByteArray} (h1 : 1 ≤ l.length) (h2 : l.length ≤ 4) (ha : (l.take l.length).all (imgB l.length) = true) : substB l = true := by
  unfold substB
  rw [lall_end l ha, decide_eq_true h1, decide_eq_true h2]
  rfl
theorem subst_len {l : List ByteArray} (h : ¬ (1 ≤ l.length ∧ l.length ≤ 4)) : substB l = false := by
  unfold substB
  have : (decide (1 ≤ l.length) && decide (l.length ≤ 4)) = false := by simpa using h
  rw [this, Bool.false_and]
theorem img_no1 {n : Nat} {s : ByteArray} (h : ¬ (1 ≤ s.size ∧ s.size ≤ 8)) : imgB n s = false := by
  unfold imgB
  have : (decide (1 ≤ s.size) && decide (s.size ≤ 8)) = false := by simpa using h
  rw [this, Bool.false_and]
theorem img_no2 {n : Nat} {s : ByteArray} (h : wordB s = false) : imgB n s = false := by
  unfold imgB; rw [h, Bool.false_and, Bool.and_false]
theorem img_no3 {n : Nat} {s : ByteArray} (h : withinB n s = false) : imgB n s = false := by
  unfold imgB; rw [h, Bool.and_false, Bool.and_false]
theorem img_yes {n : Nat} {s : ByteArray} (h1 : 1 ≤ s.size) (h2 : s.size ≤ 8) (h3 : wordB s = true) (h4 : withinB n s = true) : imgB n s = true := by
  unfold imgB; rw [h3, h4, decide_eq_true h1, decide_eq_true h2]; rfl
theorem img_parts {n : Nat} {s : ByteArray} (h : imgB n s = true) : 1 ≤ s.size ∧ s.size ≤ 8 ∧ wordB s = true ∧ withinB n s = true := by
  unfold imgB at h
  simp only [Bool.and_eq_true, decide_eq_true_eq] at h
  exact ⟨h.1.1, h.1.2, h.2.1, h.2.2⟩
theorem subst_parts {l : List ByteArray} (h : substB l = true) : 1 ≤ l.length ∧ l.length ≤ 4 ∧ ∀ k (hk : k < l.length), imgB l.length l[k] = true := by
  unfold substB at h
  simp only [Bool.and_eq_true, decide_eq_true_eq] at h
  exact ⟨h.1.1, h.1.2, fun k hk => List.all_eq_true.1 h.2 _ (List.getElem_mem hk)⟩
theorem within_at {n : Nat} {s : ByteArray} (h : withinB n s = true) (k : Nat) (hk : k < s.size) : s[k].toNat < 97 + n := by
  unfold withinB at h
  have hm : s[k] ∈ s.data.toList := by
    have : s[k] = s.data.toList[k]'(by simpa using hk) := rfl
    rw [this]; exact List.getElem_mem _
  simpa using List.all_eq_true.1 h _ hm

/-- the image of a letter -/
def imgOf (l : List ByteArray) (c : UInt8) : List UInt8 := (l.getD (c.toNat - 97) ⟨#[]⟩).data.toList
def applyL (l : List ByteArray) (w : List UInt8) : List UInt8 := w.flatMap (imgOf l)
theorem imgOf_at (l : List ByteArray) (c : UInt8) (j : Nat) (hj : c.toNat = 97 + j) (hl : j < l.length) : imgOf l c = l[j].data.toList := by
  unfold imgOf
  rw [List.getD_eq_getElem?_getD, show c.toNat - 97 = j from by omega, List.getElem?_eq_getElem hl]
  rfl
theorem applyL_succ (l : List ByteArray) (s : ByteArray) (k : Nat) (h : k < s.size) : applyL l (s.data.toList.take (k + 1)) = applyL l (s.data.toList.take k) ++ imgOf l s[k] := by
  unfold applyL
  rw [take_snoc s k h, List.flatMap_append]
  simp
theorem applyL_take_le (l : List ByteArray) (w : List UInt8) (k : Nat) : (applyL l (w.take k)).length ≤ (applyL l w).length := by
  unfold applyL
  conv => rhs; rw [← List.take_append_drop k w, List.flatMap_append, List.length_append]
  omega
end Go.Proofs.Ytjmijedfmiplfaa
