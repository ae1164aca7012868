/- Texts put together. -/
import Derived.Test.YtiikledbflgejaaMgC7
import Derived.Test.YtiikledbflgejaaMgC6
import Derived.Test.YtiikledbflgejaaMgC3
import Derived.Test.YtiikledbflgejaaMgC1
import Derived.IntWalk
/- Growing letters and the fixed point of a substitution. No program in it. -/
namespace Go.Proofs.Ytiikledbflgejaa
open Go.RowKit

/-- the index of an image's first letter -/
def firstN (l : List ByteArray) (k : Nat) : Nat := ((l.getD k ⟨#[]⟩).data.toList.getD 0 0).toNat - 97
/-- the letter is growing -/
def growB (l : List ByteArray) (k : Nat) : Bool := decide (1 < (l.getD k ⟨#[]⟩).size) && decide (firstN l k = k)
theorem getD_l {l : List ByteArray} {k : Nat} (hk : k < l.length) : l.getD k ⟨#[]⟩ = l[k] := by
  rw [List.getD_eq_getElem?_getD, List.getElem?_eq_getElem hk]; rfl
theorem first_at {l : List ByteArray} (hl : substB l = true) {k : Nat} (hk : k < l.length) : ∃ h0 : 0 < l[k].size, l[k][0].toNat = 97 + firstN l k ∧ firstN l k < l.length := by
  have h1 := (img_parts ((subst_parts hl).2.2 k hk)).1
  refine ⟨by omega, ?_⟩
  have hm : l[k][0] ∈ l[k].data.toList := by
    have : l[k][0] = l[k].data.toList[0]'(by simp; omega) := rfl
    rw [this]; exact List.getElem_mem _
  have h2 := img_letters hl hk _ hm
  have e : firstN l k = l[k][0].toNat - 97 := by
    unfold firstN
    rw [getD_l hk, List.getD_eq_getElem?_getD, List.getElem?_eq_getElem (by simp; omega)]
    rfl
  omega
/-- what GrowingLetters is to return -/
def growR (l : List ByteArray) : ByteArray := if substB l = true then ⟨(outTo (growB l) l.length).toArray⟩ else ⟨#[]⟩
def growOk (l : List ByteArray) (t : ByteArray) : Bool := (letOk l t && substB l) && growB l (letN t)
/-- the index of a growing letter, or -1 -/
def glR (l : List ByteArray) (t : ByteArray) : Int := if growOk l t = true then (letN t : Int) else -1
theorem grow_parts {l : List ByteArray} {t : ByteArray} (h : growOk l t = true) : letN t < l.length ∧ substB l = true ∧ growB l (letN t) = true := by
  unfold growOk letOk at h
  simp only [Bool.and_eq_true, decide_eq_true_eq] at h
  exact ⟨h.1.1.2, h.1.2, h.2⟩

/-- a word under the substitution, n times -/
def iterL (l : List ByteArray) (w : List UInt8) : Nat → List UInt8
  | 0 => w
  | n + 1 => applyL l (iterL l w n)
theorem applyL_app (l : List ByteArray) (a b : List UInt8) : applyL l (a ++ b) = applyL l a ++ applyL l b := by
  unfold applyL; rw [List.flatMap_append]
theorem applyL_pre {l : List ByteArray} {a b : List UInt8} (h : a <+: b) : applyL l a <+: applyL l b := by
  obtain ⟨c, rfl⟩ := h
  rw [applyL_app]
  exact List.prefix_append _ _
/-- all letters have an image -/
def Within (l : List ByteArray) (w : List UInt8) : Prop := ∀ c ∈ w, 97 ≤ c.toNat ∧ c.toNat < 97 + l.length
theorem within_apply {l : List ByteArray} (hl : substB l = true) {w : List UInt8} (hw : Within l w) : Within l (applyL l w) := by
  intro c hc
  unfold applyL at hc
  obtain ⟨x, hx, hc⟩ := List.mem_flatMap.1 hc
  obtain ⟨h1, h2⟩ := hw x hx
  rw [imgOf_at l x (x.toNat - 97) (by omega) (by omega)] at hc
  exact img_letters hl _ c hc
theorem apply_grows {l : List ByteArray} (hl : substB l = true) {w : List UInt8} (hw : Within l w) : w.length ≤ (applyL l w).length := by
  induction w with
  | nil => simp
  | cons c w ih =>
    have ih := ih (fun x hx => hw x (List.mem_cons_of_mem _ hx))
    obtain ⟨h1, h2⟩ := hw c (List.mem_cons_self ..)
    have e : applyL l (c :: w) = imgOf l c ++ applyL l w := rfl
    rw [e, imgOf_at l c (c.toNat - 97) (by omega) (by omega), List.length_append, List.length_cons]
    have := (img_parts ((subst_parts hl).2.2 (c.toNat - 97) (by omega))).1
    have h3 : (l[c.toNat - 97]'(by omega)).data.toList.length = (l[c.toNat - 97]'(by omega)).size := by simp
    omega
section
variable {l : List ByteArray} {k : Nat} (hl : substB l = true) (hk : k < l.length) (hg : growB l k = true)
include hl hk hg
/-- the image of a growing letter begins with it and goes on -/
theorem grow_img : ∃ r, applyL l [letterN k] = letterN k :: r ∧ 1 ≤ r.length := by
  have h4 := (subst_parts hl).2.1
  unfold growB at hg
  rw [getD_l hk] at hg
  simp only [Bool.and_eq_true, decide_eq_true_eq] at hg
  obtain ⟨h0, e, _⟩ := first_at hl hk
  have e1 : applyL l [letterN k] = l[k].data.toList := by
    show imgOf l (letterN k) ++ [] = _
    rw [imgOf_at l _ k (letterN_toNat k (by omega)) hk, List.append_nil]
  have e2 : l[k][0] = letterN k := by
    apply UInt8.toNat.inj
    rw [letterN_toNat k (by omega), e, hg.2]
  have h3 : l[k].data.toList.length = l[k].size := by simp
  match hd : l[k].data.toList, h3 with
  | [], h3 => simp at h3; omega
  | c :: r, h3 =>
    refine ⟨r, ?_, by simp at h3; omega⟩
    rw [e1, hd]
    congr 1
    have : l[k][0] = l[k].data.toList[0]'(by omega) := rfl
    rw [← e2, this]
    simp [hd]
omit hg in
theorem iterL_within : ∀ n, Within l (iterL l [letterN k] n)
  | 0 => by
    intro c hc
    have h4 := (subst_parts hl).2.1
    have : c = letterN k := by simpa [iterL] using hc
    rw [this, letterN_toNat k (by omega)]
    omega
  | n + 1 => within_apply hl (iterL_within n)
theorem iterL_step : ∀ n, iterL l [letterN k] n <+: iterL l [letterN k] (n + 1)
  | 0 => by
    obtain ⟨r, e, _⟩ := grow_img hl hk hg
    show [letterN k] <+: applyL l [letterN k]
    rw [e]
    exact ⟨r, rfl⟩
  | n + 1 => applyL_pre (iterL_step n)
theorem iterL_mono (n m : Nat) : iterL l [letterN k] n <+: iterL l [letterN k] (n + m) := by
  induction m with
  | zero => exact List.prefix_refl _
  | succ m ih => exact ih.trans (iterL_step hl hk hg (n + m))
theorem iterL_head (n : Nat) : ∃ r, iterL l [letterN k] n = letterN k :: r := by
  obtain ⟨r, e⟩ := iterL_mono hl hk hg 0 n
  rw [Nat.zero_add] at e
  exact ⟨r, e.symm⟩
theorem iterL_long : ∀ n, n + 1 ≤ (iterL l [letterN k] n).length
  | 0 => by simp [iterL]
  | n + 1 => by
    have ih := iterL_long n
    obtain ⟨r, e⟩ := iterL_head hl hk hg n
    obtain ⟨q, e2, h2⟩ := grow_img hl hk hg
    have hw : Within l r := fun c hc => iterL_within hl hk n c (by rw [e]; exact List.mem_cons_of_mem _ hc)
    have := apply_grows hl hw
    show n + 1 + 1 ≤ (applyL l (iterL l [letterN k] n)).length
    rw [e] at ih ⊢
    rw [show letterN k :: r = [letterN k] ++ r from rfl, applyL_app, e2, List.length_append]
    simp at ih ⊢
    omega
end
/-- a start of the fixed point that begins with letter k -/
def IsPre (l : List ByteArray) (k : Nat) (p : List UInt8) : Prop := ∃ n, p <+: iterL l [letterN k] n
/-- the first n letters of the fixed point -/
def fixL (l : List ByteArray) (k n : Nat) : List UInt8 := (iterL l [letterN k] n).take n
section
variable {l : List ByteArray} {k : Nat}
theorem pre_apply {p : List UInt8} (h : IsPre l k p) : IsPre l k (applyL l p) := by
  obtain ⟨n, h⟩ := h
  exact ⟨n + 1, applyL_pre h⟩
theorem pre_of {p q : List UInt8} (h : IsPre l k q) (hp : p <+: q) : IsPre l k p := by
  obtain ⟨n, h⟩ := h
  exact ⟨n, hp.trans h⟩
variable (hl : substB l = true) (hk : k < l.length) (hg : growB l k = true)
include hl hk hg
theorem fixL_length (n : Nat) : (fixL l k n).length = n := by
  have := iterL_long hl hk hg n
  unfold fixL
  rw [List.length_take]
  omega
theorem pre_take {p : List UInt8} (h : IsPre l k p) (n : Nat) (hn : n ≤ p.length) : p.take n = fixL l k n := by
  obtain ⟨m, h⟩ := h
  have h1 := iterL_long hl hk hg n
  have a : p.take n <+: iterL l [letterN k] (n + m) := (List.take_prefix _ _).trans (by rw [Nat.add_comm]; exact h.trans (iterL_mono hl hk hg m n))
  have b : fixL l k n <+: iterL l [letterN k] (n + m) := (List.take_prefix _ _).trans (iterL_mono hl hk hg n m)
  have c : (p.take n).length = (fixL l k n).length := by
    rw [fixL_length hl hk hg, List.length_take]; omega
  exact (List.prefix_of_prefix_length_le a b (Nat.le_of_eq c)).eq_of_length c
end
theorem fixL_pre (l : List ByteArray) (k n : Nat) : IsPre l k (fixL l k n) := ⟨n, List.take_prefix _ _⟩
/-- what FixedPoint is to return -/
def fixOk (l : List ByteArray) (t : ByteArray) (n : Int) : Bool := growOk l t && (decide (0 ≤ n) && decide (n ≤ 400))
def fixR (l : List ByteArray) (t : ByteArray) (n : Int) : ByteArray := if fixOk l t n = true then ⟨(fixL l (letN t) n.toNat).toArray⟩ else ⟨#[]⟩
/-- what LetterAt is to return -/
def latOk (l : List ByteArray) (t : ByteArray) (n : Int) : Bool := growOk l t && (decide (0 ≤ n) && decide (n ≤ 10000))
def latR (l : List ByteArray) (t : ByteArray) (n : Int) : ByteArray := if latOk l t n = true then ⟨#[(fixL l (letN t) (n.toNat + 1)).getD n.toNat 97]⟩ else ⟨#[]⟩
/-- what IsFixedStart is to return -/
def oneOf (s : ByteArray) : ByteArray := s.extract 0 1
def fixStart (l : List ByteArray) (s : ByteArray) : Bool := decide (s.size = 0) || (fixOk l (oneOf s) s.size && decide (fixL l (letN (oneOf s)) s.size = s.data.toList))

/-- the first letter of the image, again and again -/
def goN (l : List ByteArray) (k : Nat) : Nat → Nat
  | 0 => k
  | n + 1 => firstN l (goN l k n)
theorem goN_lt {l : List ByteArray} (hl : substB l = true) {k : Nat} (hk : k < l.length) : ∀ n, goN l k n < l.length
  | 0 => hk
  | n + 1 => by
    obtain ⟨_, _, h⟩ := first_at hl (goN_lt hl hk n)
    exact h
/-- some letter comes back after n -/
def backB (l : List ByteArray) (n : Nat) : Bool := (List.range l.length).any fun k => decide (goN l k n = k)
/-- what PowerNeeded is to return -/
def powR (l : List ByteArray) : Int := if substB l = true then (if backB l 1 then 1 else if backB l 2 then 2 else if backB l 3 then 3 else 4) else 0
/-- the orbit of a letter -/
def orbTo (l : List ByteArray) (k : Nat) : Nat → List Nat
  | 0 => []
  | n + 1 => orbTo l k n ++ [goN l k n]
theorem orbTo_length (l : List ByteArray) (k : Nat) : ∀ n, (orbTo l k n).length = n
  | 0 => rfl
  | n + 1 => by unfold orbTo; rw [List.length_append, orbTo_length l k n]; rfl
theorem orbTo_mem (l : List ByteArray) (k : Nat) (x : Nat) : ∀ n, x ∈ orbTo l k n ↔ ∃ i, i < n ∧ goN l k i = x
  | 0 => by simp [orbTo]
  | n + 1 => by
    unfold orbTo
    rw [List.mem_append, orbTo_mem l k x n, List.mem_singleton]
    constructor
    · rintro (⟨i, h, e⟩ | e)
      · exact ⟨i, by omega, e⟩
      · exact ⟨n, by omega, e.symm⟩
    · rintro ⟨i, h, e⟩
      by_cases hi : i = n
      · subst hi; exact .inr e.symm
      · exact .inl ⟨i, by omega, e⟩
/-- how many letters stand in the orbit: the first n that comes back to an earlier one -/
def orbN (l : List ByteArray) (k : Nat) : Nat := if goN l k 1 ∈ orbTo l k 1 then 1 else if goN l k 2 ∈ orbTo l k 2 then 2 else if goN l k 3 ∈ orbTo l k 3 then 3 else 4
/-- what OrbitOfFirst is to return -/
def orbR (l : List ByteArray) (t : ByteArray) : ByteArray := if (letOk l t && substB l) = true then ⟨((orbTo l (letN t) (orbN l (letN t))).map letterN).toArray⟩ else ⟨#[]⟩
end Go.Proofs.Ytiikledbflgejaa

/- Lists of texts in ascending order, each once; the factors of a word. No program in it. -/
namespace Go.Proofs.Ytiikledbflgejaa
open Go.RowKit

def lessB (a b : ByteArray) : Bool := Op.bytesLess a.toList b.toList
theorem bl_self : ∀ a : List UInt8, Op.bytesLess a a = false
  | [] => rfl
  | x :: a => by simp [Op.bytesLess, bl_self a]
theorem bl_trans : ∀ a b c : List UInt8, Op.bytesLess a b = true → Op.bytesLess b c = true → Op.bytesLess a c = true
  | _, [], c, h, _ => by cases ‹List UInt8› <;> simp [Op.bytesLess] at h
  | _, _ :: _, [], _, k => by simp [Op.bytesLess] at k
  | [], _ :: _, _ :: _, _, _ => by simp [Op.bytesLess]
  | x :: a, y :: b, z :: c, h, k => by
    have ih := bl_trans a b c
    simp only [Op.bytesLess, Bool.or_eq_true, Bool.and_eq_true, decide_eq_true_eq, beq_iff_eq] at h k ⊢
    rcases h with h | ⟨rfl, h⟩
    · rcases k with k | ⟨rfl, _⟩
      · exact .inl (UInt8.lt_trans h k)
      · exact .inl h
    · rcases k with k | ⟨rfl, k⟩
      · exact .inl k
      · exact .inr ⟨rfl, ih h k⟩
theorem bl_tri : ∀ a b : List UInt8, Op.bytesLess a b = true ∨ a = b ∨ Op.bytesLess b a = true
  | [], [] => .inr (.inl rfl)
  | [], _ :: _ => .inl (by simp [Op.bytesLess])
  | _ :: _, [] => .inr (.inr (by simp [Op.bytesLess]))
  | x :: a, y :: b => by
    simp only [Op.bytesLess, Bool.or_eq_true, Bool.and_eq_true, decide_eq_true_eq, beq_iff_eq]
    rcases (show x < y ∨ x = y ∨ y < x by
      rcases Nat.lt_trichotomy x.toNat y.toNat with h | h | h
      · exact .inl (UInt8.lt_iff_toNat_lt.2 h)
      · exact .inr (.inl (UInt8.toNat.inj h))
      · exact .inr (.inr (UInt8.lt_iff_toNat_lt.2 h))) with h | rfl | h
    · exact .inl (.inl h)
    · rcases bl_tri a b with k | rfl | k
      · exact .inl (.inr ⟨rfl, k⟩)
      · exact .inr (.inl rfl)
      · exact .inr (.inr (.inr ⟨rfl, k⟩))
    · exact .inr (.inr (.inl h))
theorem less_self (a : ByteArray) : ¬ lessB a a = true := by unfold lessB; rw [bl_self]; decide
theorem less_trans {a b c : ByteArray} (h : lessB a b = true) (k : lessB b c = true) : lessB a c = true := bl_trans _ _ _ h k
theorem less_tri (a b : ByteArray) : lessB a b = true ∨ a = b ∨ lessB b a = true := by
  rcases bl_tri a.toList b.toList with h | h | h
  · exact .inl h
  · exact .inr (.inl (bytes_ext h))
  · exact .inr (.inr h)
def Asc (l : List ByteArray) : Prop := l.Pairwise fun a b => lessB a b = true
theorem asc_ext : ∀ {l m : List ByteArray}, Asc l → Asc m → (∀ x, x ∈ l ↔ x ∈ m) → l = m
  | [], [], _, _, _ => rfl
  | [], b :: m, _, _, h => absurd ((h b).2 (List.mem_cons_self ..)) (by simp)
  | a :: l, [], _, _, h => absurd ((h a).1 (List.mem_cons_self ..)) (by simp)
  | a :: l, b :: m, hl, hm, h => by
    obtain ⟨l1, l2⟩ := List.pairwise_cons.1 hl
    obtain ⟨m1, m2⟩ := List.pairwise_cons.1 hm
    have e : a = b := by
      rcases List.mem_cons.1 ((h a).1 (List.mem_cons_self ..)) with e | e
      · exact e
      · rcases List.mem_cons.1 ((h b).2 (List.mem_cons_self ..)) with e' | e'
        · exact e'.symm
        · exact absurd (less_trans (m1 a e) (l1 b e')) (less_self b)
    subst e
    congr 1
    refine asc_ext l2 m2 (fun x => ⟨fun hx => ?_, fun hx => ?_⟩)
    · rcases List.mem_cons.1 ((h x).1 (List.mem_cons_of_mem _ hx)) with e | e
      · subst e; exact absurd (l1 x hx) (less_self x)
      · exact e
    · rcases List.mem_cons.1 ((h x).2 (List.mem_cons_of_mem _ hx)) with e | e
      · subst e; exact absurd (m1 x hx) (less_self x)
      · exact e
/-- one more text, if it is not there -/
def insL : List ByteArray → ByteArray → List ByteArray
  | [], x => [x]
  | a :: l, x => if lessB x a = true then x :: a :: l else if lessB a x = true then a :: insL l x else a :: l
theorem insL_mem : ∀ (l : List ByteArray) (x y : ByteArray), y ∈ insL l x ↔ (y = x ∨ y ∈ l)
  | [], x, y => by simp [insL]
  | a :: l, x, y => by
    unfold insL
    by_cases h1 : lessB x a = true
    · rw [if_pos h1]; simp
    · rw [if_neg h1]
      by_cases h2 : lessB a x = true
      · rw [if_pos h2, List.mem_cons, insL_mem l x y, List.mem_cons]
        constructor
        · rintro (e | e | e)
          · exact .inr (.inl e)
          · exact .inl e
          · exact .inr (.inr e)
        · rintro (e | e | e)
          · exact .inr (.inl e)
          · exact .inl e
          · exact .inr (.inr e)
      · rw [if_neg h2]
        have e : a = x := by
          rcases less_tri a x with e | e | e
          · exact absurd e h2
          · exact e
          · exact absurd e h1
        subst e
        simp
theorem insL_asc : ∀ {l : List ByteArray} (x : ByteArray), Asc l → Asc (insL l x)
  | [], x, _ => by simp [insL, Asc]
  | a :: l, x, h => by
    obtain ⟨h1, h2⟩ := List.pairwise_cons.1 h
    unfold insL
    by_cases k1 : lessB x a = true
    · rw [if_pos k1]
      refine List.pairwise_cons.2 ⟨fun y hy => ?_, h⟩
      rcases List.mem_cons.1 hy with e | e
      · rw [e]; exact k1
      · exact less_trans k1 (h1 y e)
    · rw [if_neg k1]
      by_cases k2 : lessB a x = true
      · rw [if_pos k2]
        refine List.pairwise_cons.2 ⟨fun y hy => ?_, insL_asc x h2⟩
        rcases (insL_mem l x y).1 hy with e | e
        · rw [e]; exact k2
        · exact h1 y e
      · rw [if_neg k2]; exact h
theorem insL_there {l : List ByteArray} {x : ByteArray} (h : Asc l) (hx : x ∈ l) : insL l x = l :=
  asc_ext (insL_asc x h) h fun y => by
    rw [insL_mem]
    constructor
    · rintro (rfl | e)
      · exact hx
      · exact e
    · exact .inr
/-- laid at its place -/
theorem insL_at {l : List ByteArray} {x : ByteArray} (h : Asc l) {k : Nat} (hk : k ≤ l.length) (h1 : ∀ (j : Nat) (hj : j < l.length), k ≤ j → lessB x l[j] = true) (h2 : ∀ (j : Nat) (hj : j < l.length), j < k → lessB l[j] x = true) : l.take k ++ x :: l.drop k = insL l x := by
  refine asc_ext ?_ (insL_asc x h) fun y => ?_
  · refine List.pairwise_append.2 ⟨h.sublist (List.take_sublist _ _), List.pairwise_cons.2 ⟨fun y hy => ?_, h.sublist (List.drop_sublist _ _)⟩, fun a ha b hb => ?_⟩
    · obtain ⟨j, hj, rfl⟩ := List.mem_iff_getElem.1 hy
      rw [List.length_drop] at hj
      rw [List.getElem_drop]
      exact h1 _ (by omega) (by omega)
    · obtain ⟨j, hj, rfl⟩ := List.mem_iff_getElem.1 ha
      rw [List.length_take] at hj
      rw [List.getElem_take]
      have hjx := h2 j (by omega) (by omega)
      rcases List.mem_cons.1 hb with e | e
      · rw [e]; exact hjx
      · obtain ⟨i, hi, rfl⟩ := List.mem_iff_getElem.1 e
        rw [List.length_drop] at hi
        rw [List.getElem_drop]
        exact less_trans hjx (h1 _ (by omega) (by omega))
  · rw [insL_mem]
    have e : y ∈ l ↔ y ∈ l.take k ∨ y ∈ l.drop k := by
      rw [← List.mem_append, List.take_append_drop]
    rw [e, List.mem_append, List.mem_cons]
    constructor
    · rintro (a | a | a)
      · exact .inr (.inl a)
      · exact .inl a
      · exact .inr (.inr a)
    · rintro (a | a | a)
      · exact .inr (.inl a)
      · exact .inl a
      · exact .inr (.inr a)
/-- the factors of n letters that begin at the first indexes -/
def facTo (s : ByteArray) (n : Nat) : Nat → List ByteArray
  | 0 => []
  | i + 1 => insL (facTo s n i) (s.extract i (i + n))
theorem facTo_asc (s : ByteArray) (n : Nat) : ∀ i, Asc (facTo s n i)
  | 0 => List.Pairwise.nil
  | i + 1 => insL_asc _ (facTo_asc s n i)
theorem facTo_mem (s : ByteArray) (n : Nat) (x : ByteArray) : ∀ i, x ∈ facTo s n i ↔ ∃ j, j < i ∧ x = s.extract j (j + n)
  | 0 => by simp [facTo]
  | i + 1 => by
    show x ∈ insL _ _ ↔ _
    rw [insL_mem, facTo_mem s n x i]
    constructor
    · rintro (e | ⟨j, h, e⟩)
      · exact ⟨i, by omega, e⟩
      · exact ⟨j, by omega, e⟩
    · rintro ⟨j, h, e⟩
      by_cases hj : j = i
      · subst hj; exact .inl e
      · exact .inr ⟨j, by omega, e⟩
/-- what FixedFactors is to return -/
def facOk (l : List ByteArray) (t : ByteArray) (n : Int) : Bool := growOk l t && (decide (1 ≤ n) && decide (n ≤ 8))
def facR (l : List ByteArray) (t : ByteArray) (n : Int) : List ByteArray := if facOk l t n = true then facTo ⟨(fixL l (letN t) 400).toArray⟩ n.toNat (401 - n.toNat) else []
end Go.Proofs.Ytiikledbflgejaa

/- Powers in words: what chapter 8 is to return. No program in it. -/
namespace Go.Proofs.Ytiikledbflgejaa
open Go.RowKit

/-! ### squares -/
/-- a square with halves of h letters begins at i -/
def PwAt (s : ByteArray) (i h : Nat) : Prop := 1 ≤ h ∧ i + 2 * h ≤ s.size ∧ s.extract i (i + h) = s.extract (i + h) (i + 2 * h)
noncomputable def pwB (s : ByteArray) (i h : Nat) : Bool := @decide (PwAt s i h) (Classical.propDecidable _)
theorem pwB_iff (s : ByteArray) (i h : Nat) : pwB s i h = true ↔ PwAt s i h := by unfold pwB; simp
noncomputable def pwRow (s : ByteArray) (i : Nat) (l : List ByteArray) : Nat → List ByteArray
  | 0 => l
  | h + 1 => if pwB s i (h + 1) = true then insL (pwRow s i l h) (s.extract i (i + 2 * (h + 1))) else pwRow s i l h
noncomputable def pwTo (s : ByteArray) : Nat → List ByteArray
  | 0 => []
  | i + 1 => pwRow s i (pwTo s i) ((s.size - i) / 2)
noncomputable def pwL (s : ByteArray) : List ByteArray := pwTo s s.size
def pwOk (s : ByteArray) : Bool := wordB s && decide (s.size ≤ 60)
/-- what SquaresIn is to return -/
noncomputable def pwR (s : ByteArray) : List ByteArray := if pwOk s = true then pwL s else []
theorem pwRow_asc (s : ByteArray) (i : Nat) {l : List ByteArray} (h : Asc l) : ∀ k, Asc (pwRow s i l k)
  | 0 => h
  | k + 1 => by
    unfold pwRow
    split
    · exact insL_asc _ (pwRow_asc s i h k)
    · exact pwRow_asc s i h k
theorem pwTo_asc (s : ByteArray) : ∀ i, Asc (pwTo s i)
  | 0 => List.Pairwise.nil
  | i + 1 => pwRow_asc s i (pwTo_asc s i) _
theorem pwRow_mem (s : ByteArray) (i : Nat) (l : List ByteArray) (x : ByteArray) : ∀ k, x ∈ pwRow s i l k ↔ x ∈ l ∨ ∃ h, h ≤ k ∧ PwAt s i h ∧ x = s.extract i (i + 2 * h)
  | 0 => by
    constructor
    · exact .inl
    · rintro (h | ⟨h, h1, h2, _⟩)
      · exact h
      · exact absurd h2.1 (by omega)
  | k + 1 => by
    have ih := pwRow_mem s i l x k
    unfold pwRow
    by_cases hb : pwB s i (k + 1) = true
    · rw [if_pos hb, insL_mem, ih]
      constructor
      · rintro (e | e | ⟨h, h1, h2⟩)
        · exact .inr ⟨k + 1, by omega, (pwB_iff _ _ _).1 hb, e⟩
        · exact .inl e
        · exact .inr ⟨h, by omega, h2⟩
      · rintro (e | ⟨h, h1, h2, e⟩)
        · exact .inr (.inl e)
        · by_cases hk : h = k + 1
          · subst hk; exact .inl e
          · exact .inr (.inr ⟨h, by omega, h2, e⟩)
    · rw [if_neg hb, ih]
      constructor
      · rintro (e | ⟨h, h1, h2⟩)
        · exact .inl e
        · exact .inr ⟨h, by omega, h2⟩
      · rintro (e | ⟨h, h1, h2, e⟩)
        · exact .inl e
        · by_cases hk : h = k + 1
          · subst hk; exact absurd ((pwB_iff _ _ _).2 h2) hb
          · exact .inr ⟨h, by omega, h2, e⟩
theorem pwTo_mem (s : ByteArray) (x : ByteArray) : ∀ i, x ∈ pwTo s i ↔ ∃ j h, j < i ∧ PwAt s j h ∧ x = s.extract j (j + 2 * h)
  | 0 => by
    constructor
    · intro h; cases h
    · rintro ⟨j, h, h1, _⟩; omega
  | i + 1 => by
    show x ∈ pwRow _ _ _ _ ↔ _
    rw [pwRow_mem, pwTo_mem s x i]
    constructor
    · rintro (⟨j, h, h1, h2⟩ | ⟨h, h1, h2⟩)
      · exact ⟨j, h, by omega, h2⟩
      · exact ⟨i, h, by omega, h2⟩
    · rintro ⟨j, h, h1, h2, e⟩
      by_cases hj : j = i
      · subst hj
        exact .inr ⟨h, by have := h2.2.1; omega, h2, e⟩
      · exact .inl ⟨j, h, by omega, h2, e⟩
theorem pwL_mem (s x : ByteArray) : x ∈ pwL s ↔ ∃ j h, PwAt s j h ∧ x = s.extract j (j + 2 * h) := by
  unfold pwL
  rw [pwTo_mem]
  constructor
  · rintro ⟨j, h, _, h2⟩
    exact ⟨j, h, h2⟩
  · rintro ⟨j, h, h2⟩
    exact ⟨j, h, by have := h2.1.1; have := h2.1.2.1; omega, h2⟩
theorem insL_more : ∀ (l : List ByteArray) (x : ByteArray), (insL l x).length ≤ l.length + 1
  | [], x => by simp [insL]
  | a :: l, x => by
    have := insL_more l x
    unfold insL
    split
    · simp
    · split
      · simp only [List.length_cons]; omega
      · simp
theorem pwRow_len (s : ByteArray) (i : Nat) (l : List ByteArray) : ∀ k, (pwRow s i l k).length ≤ l.length + k
  | 0 => Nat.le_refl _
  | k + 1 => by
    have ih := pwRow_len s i l k
    unfold pwRow
    split
    · have := insL_more (pwRow s i l k) (s.extract i (i + 2 * (k + 1))); omega
    · omega
theorem pwTo_len (s : ByteArray) (hs : s.size ≤ 60) : ∀ i, i ≤ s.size → 4 * (pwTo s i).length + (60 - i) * (61 - i) ≤ 3660
  | 0, _ => by simp [pwTo]
  | i + 1, hi => by
    have ih := pwTo_len s hs i (by omega)
    have h1 := pwRow_len s i (pwTo s i) ((s.size - i) / 2)
    have e : pwTo s (i + 1) = pwRow s i (pwTo s i) ((s.size - i) / 2) := rfl
    rw [e]
    obtain ⟨d, hd⟩ : ∃ d, 60 = i + 1 + d := ⟨60 - (i + 1), by omega⟩
    rw [show 60 - i = d + 1 by omega, show 61 - i = d + 2 by omega] at ih
    rw [show 60 - (i + 1) = d by omega, show 61 - (i + 1) = d + 1 by omega]
    have e1 : (d + 1) * (d + 2) = d * (d + 1) + 2 * (d + 1) := by grind
    omega
theorem pwTo_le (s : ByteArray) (hs : s.size ≤ 60) (i : Nat) (hi : i ≤ s.size) : (pwTo s i).length ≤ 915 := by
  have := pwTo_len s hs i hi
  omega
theorem pwR_le (s : ByteArray) : (pwR s).length ≤ 915 := by
  unfold pwR
  split
  · rename_i h
    unfold pwOk at h
    simp only [Bool.and_eq_true, decide_eq_true_eq] at h
    exact pwTo_le s h.2 s.size (Nat.le_refl _)
  · simp

/-! ### repetitions -/
/-- from i on m letters agree with those p further on -/
def RunAt (s : ByteArray) (m p i : Nat) : Prop := i + p + m ≤ s.size ∧ ∀ j, j < m → s.data.toList[i + j]? = s.data.toList[i + p + j]?
noncomputable def repB (s : ByteArray) (n e : Nat) : Bool := @decide (∃ p, 1 ≤ p ∧ ∃ i, RunAt s (n * p + e) p i) (Classical.propDecidable _)
theorem repB_iff (s : ByteArray) (n e : Nat) : repB s n e = true ↔ ∃ p, 1 ≤ p ∧ ∃ i, RunAt s (n * p + e) p i := by unfold repB; simp
/-- what IsSquareFree (n = 1, e = 0), IsCubeFree (2, 0), IsOverlapFree (1, 1) are to return -/
noncomputable def freeR (s : ByteArray) (n e : Nat) : Bool := wordB s && !repB s n e

/-! ### periods -/
def PerAt (s : ByteArray) (p : Nat) : Prop := ∀ i, i + p < s.size → s.data.toList[i]? = s.data.toList[i + p]?
noncomputable def firstP (P : Nat → Prop) : Nat → Nat → Nat
  | p, 0 => p
  | p, k + 1 => if @decide (P p) (Classical.propDecidable _) = true then p else firstP P (p + 1) k
theorem firstP_eq {P : Nat → Prop} : ∀ (k p q : Nat), p ≤ q → q ≤ p + k → (∀ r, p ≤ r → r < q → ¬ P r) → P q → firstP P p k = q
  | 0, p, q, h1, h2, _, _ => by show p = q; omega
  | k + 1, p, q, h1, h2, h3, h4 => by
    unfold firstP
    by_cases e : p = q
    · subst e
      rw [if_pos (@decide_eq_true _ (Classical.propDecidable _) h4)]
    · rw [@decide_eq_false _ (Classical.propDecidable _) (h3 p (Nat.le_refl _) (by omega)), if_neg (by decide)]
      exact firstP_eq k (p + 1) q (by omega) (by omega) (fun r a b => h3 r (by omega) b) h4
/-- the least period of a word that is not empty -/
noncomputable def perN (s : ByteArray) : Nat := firstP (PerAt s) 1 s.size
noncomputable def perR (s : ByteArray) : Int := if wordB s = true then (if s.size = 0 then 0 else (perN s : Int)) else -1
theorem perN_spec {s : ByteArray} {q : Nat} (h1 : 1 ≤ q) (h2 : q ≤ s.size) (h3 : PerAt s q) (h4 : ∀ r, 1 ≤ r → r < q → ¬ PerAt s r) : perN s = q :=
  firstP_eq _ _ _ h1 (by omega) h4 h3

/-! ### the longest run of equal letters -/
/-- at the last of the first k letters: the greatest run so far, the run there -/
def lrTo (s : ByteArray) : Nat → Nat × Nat
  | 0 => (0, 0)
  | k + 1 =>
    let y := lrTo s k
    let r := if 0 < k ∧ s.data.toList[k]? = s.data.toList[k - 1]? then y.2 + 1 else 1
    (max y.1 r, r)
def lrR (s : ByteArray) : Int := if wordB s = true then ((lrTo s s.size).1 : Int) else -1
end Go.Proofs.Ytiikledbflgejaa

/- A letter of a text by its index. No program in it. -/
namespace Go.Proofs.Ytiikledbflgejaa
open Go.RowKit

theorem index_at {P : Program} {t : TypeId} (ht : P.underlying t = some .string) (s : ByteArray) (z : Int) (k : Nat) (w : World) (hk : k < s.size) (hz : z = k) : (Instr.index t (.string s) (.int .i64 z)).run P w = .ok (.int .u8 (s[k].toNat : Int)) w := by
  subst hz
  rw [run_index_string _ _ _ _ _ ht]
  simp [hk]
theorem at_list (s : ByteArray) (k : Nat) (hk : k < s.size) : s.data.toList[k]? = some s[k] := by
  rw [Array.getElem?_toList]
  exact Array.getElem?_eq_getElem hk
theorem same_at (s : ByteArray) (i j : Nat) (hi : i < s.size) (hj : j < s.size) : (s.data.toList[i]? = s.data.toList[j]?) ↔ s[i] = s[j] := by
  rw [at_list s i hi, at_list s j hj]
  exact ⟨fun h => Option.some.inj h, fun h => by rw [h]⟩
theorem num_same (a b : UInt8) : (((a.toNat : Int) == (b.toNat : Int)) = true) ↔ a = b := by
  rw [beq_iff_eq]
  exact ⟨fun h => UInt8.toNat.inj (by omega), fun h => by rw [h]⟩
theorem num_other (a b : UInt8) : (((a.toNat : Int) == (b.toNat : Int)) = false) ↔ a ≠ b := by
  rw [← Bool.not_eq_true, num_same]
end Go.Proofs.Ytiikledbflgejaa
