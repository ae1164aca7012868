/- Texts put together. -/
import Derived.Test.YtbbcdeknnfghkaaMgL6
import Derived.Test.YtbbcdeknnfghkaaMgL4
import Derived.Test.YtbbcdeknnfghkaaChecked
/- Growing letters and the fixed point of a substitution. No program in it. -/
namespace Go.Proofs.Ytbbcdeknnfghkaa
open Go.RowKit

/-- the index of an image's first letter -/
def firstN (l : List ByteArray) (k : Nat) : Nat := ((l.getD k ⟨#[]⟩).data.toList.getD 0 0).toNat - 97
/-- the letter is growing -/
def growB (l : List ByteArray) (k : Nat) : Bool := decide (1 < (l.getD k ⟨#[]⟩).size) && decide (firstN l k = k)
theorem getD_l {l : List ByteArray} {k : Nat} (hk : k < l.length) : l.getD k ⟨#[]⟩ = l[k] := by
  rw [List.getD_eq_getElem?_getD, List.getElem?_eq_getElem hk]; rfl
theorem first_at {l : List ByteArray} (hl : substB l = true) {k : Nat} (hk : k < l.length) : ∃ h0 : 0 < l[k].size, l[k][0].toNat = 97 + firstN l k ∧ firstN l k < l.length := by
  have h1 := (img_parts ((subst_parts hl).2.2 k hk)).1
  refine ⟨by omega, ?_⟩
  have hm : l[k][0] ∈ l[k].data.toList := by
    have : l[k][0] = l[k].data.toList[0]'(by simp; omega) := rfl
    rw [this]; exact List.getElem_mem _
  have h2 := img_letters hl hk _ hm
  have e : firstN l k = l[k][0].toNat - 97 := by
    unfold firstN
    rw [getD_l hk, List.getD_eq_getElem?_getD, List.getElem?_eq_getElem (by simp; omega)]
    rfl
  omega
/-- what GrowingLetters is to return -/
def growR (l : List ByteArray) : ByteArray := if substB l = true then ⟨(outTo (growB l) l.length).toArray⟩ else ⟨#[]⟩
def growOk (l : List ByteArray) (t : ByteArray) : Bool := (letOk l t && substB l) && growB l (letN t)
/-- the index of a growing letter, or -1 -/
def glR (l : List ByteArray) (t : ByteArray) : Int := if growOk l t = true then (letN t : Int) else -1
theorem grow_parts {l : List ByteArray} {t : ByteArray} (h : growOk l t = true) : letN t < l.length ∧ substB l = true ∧ growB l (letN t) = true := by
  unfold growOk letOk at h
  simp only [Bool.and_eq_true, decide_eq_true_eq] at h
  exact ⟨h.1.1.2, h.1.2, h.2⟩

/-- a word under the substitution, n times -/
def iterL (l : List ByteArray) (w : List UInt8) : Nat → List UInt8
  | 0 => w
  | n + 1 => applyL l (iterL l w n)
theorem applyL_app (l : List ByteArray) (a b : List UInt8) : applyL l (a ++ b) = applyL l a ++ applyL l b := by
  unfold applyL; rw [List.flatMap_append]
theorem applyL_pre {l : List ByteArray} {a b : List UInt8} (h : a <+: b) : applyL l a <+: applyL l b := by
  obtain ⟨c, rfl⟩ := h
  rw [applyL_app]
  exact List.prefix_append _ _
/-- all letters have an image -/
def Within (l : List ByteArray) (w : List UInt8) : Prop := ∀ c ∈ w, 97 ≤ c.toNat ∧ c.toNat < 97 + l.length
theorem within_apply {l : List ByteArray} (hl : substB l = true) {w : List UInt8} (hw : Within l w) : Within l (applyL l w) := by
  intro c hc
  unfold applyL at hc
  obtain ⟨x, hx, hc⟩ := List.mem_flatMap.1 hc
  obtain ⟨h1, h2⟩ := hw x hx
  rw [imgOf_at l x (x.toNat - 97) (by omega) (by omega)] at hc
  exact img_letters hl _ c hc
theorem apply_grows {l : List ByteArray} (hl : substB l = true) {w : List UInt8} (hw : Within l w) : w.length ≤ (applyL l w).length := by
  induction w with
  | nil => simp
  | cons c w ih =>
    have ih := ih (fun x hx => hw x (List.mem_cons_of_mem _ hx))
    obtain ⟨h1, h2⟩ := hw c (List.mem_cons_self ..)
    have e : applyL l (c :: w) = imgOf l c ++ applyL l w := rfl
    rw [e, imgOf_at l c (c.toNat - 97) (by omega) (by omega), List.length_append, List.length_cons]
    have := (img_parts ((subst_parts hl).2.2 (c.toNat - 97) (by omega))).1
    have h3 : (l[c.toNat - 97]'(by omega)).data.toList.length = (l[c.toNat - 97]'(by omega)).size := by simp
    omega
section
variable {l : List ByteArray} {k : Nat} (hl : substB l = true) (hk : k < l.length) (hg : growB l k = true)
include hl hk hg
/-- the image of a growing letter begins with it and goes on -/
theorem grow_img : ∃ r, applyL l [letterN k] = letterN k :: r ∧ 1 ≤ r.length := by
  have h4 := (subst_parts hl).2.1
  unfold growB at hg
  rw [getD_l hk] at hg
  simp only [Bool.and_eq_true, decide_eq_true_eq] at hg
  obtain ⟨h0, e, _⟩ := first_at hl hk
  have e1 : applyL l [letterN k] = l[k].data.toList := by
    show imgOf l (letterN k) ++ [] = _
    rw [imgOf_at l _ k (letterN_toNat k (by omega)) hk, List.append_nil]
  have e2 : l[k][0] = letterN k := by
    apply UInt8.toNat.inj
    rw [letterN_toNat k (by omega), e, hg.2]
  have h3 : l[k].data.toList.length = l[k].size := by simp
  match hd : l[k].data.toList, h3 with
  | [], h3 => simp at h3; omega
  | c :: r, h3 =>
    refine ⟨r, ?_, by simp at h3; omega⟩
    rw [e1, hd]
    congr 1
    have : l[k][0] = l[k].data.toList[0]'(by omega) := rfl
    rw [← e2, this]
    simp [hd]
omit hg in
theorem iterL_within : ∀ n, Within l (iterL l [letterN k] n)
  | 0 => by
    intro c hc
    have h4 := (subst_parts hl).2.1
    have : c = letterN k := by simpa [iterL] using hc
    rw [this, letterN_toNat k (by omega)]
    omega
  | n + 1 => within_apply hl (iterL_within n)
theorem iterL_step : ∀ n, iterL l [letterN k] n <+: iterL l [letterN k] (n + 1)
  | 0 => by
    obtain ⟨r, e, _⟩ := grow_img hl hk hg
    show [letterN k] <+: applyL l [letterN k]
    rw [e]
    exact ⟨r, rfl⟩
  | n + 1 => applyL_pre (iterL_step n)
theorem iterL_mono (n m : Nat) : iterL l [letterN k] n <+: iterL l [letterN k] (n + m) := by
  induction m with
  | zero => exact List.prefix_refl _
  | succ m ih => exact ih.trans (iterL_step hl hk hg (n + m))
theorem iterL_head (n : Nat) : ∃ r, iterL l [letterN k] n = letterN k :: r := by
  obtain ⟨r, e⟩ := iterL_mono hl hk hg 0 n
  rw [Nat.zero_add] at e
  exact ⟨r, e.symm⟩
theorem iterL_long : ∀ n, n + 1 ≤ (iterL l [letterN k] n).length
  | 0 => by simp [iterL]
  | n + 1 => by
    have ih := iterL_long n
    obtain ⟨r, e⟩ := iterL_head hl hk hg n
    obtain ⟨q, e2, h2⟩ := grow_img hl hk hg
    have hw : Within l r := fun c hc => iterL_within hl hk n c (by rw [e]; exact List.mem_cons_of_mem _ hc)
    have := apply_grows hl hw
    show n + 1 + 1 ≤ (applyL l (iterL l [letterN k] n)).length
    rw [e] at ih ⊢
    rw [show letterN k :: r = [letterN k] ++ r from rfl, applyL_app, e2, List.length_append]
    simp at ih ⊢
    omega
end
/-- a start of the fixed point that begins with letter k -/
def IsPre (l : List ByteArray) (k : Nat) (p : List UInt8) : Prop := ∃ n, p <+: iterL l [letterN k] n
/-- the first n letters of the fixed point -/
def fixL (l : List ByteArray) (k n : Nat) : List UInt8 := (iterL l [letterN k] n).take n
section
variable {l : List ByteArray} {k : Nat}
theorem pre_apply {p : List UInt8} (h : IsPre l k p) : IsPre l k (applyL l p) := by
  obtain ⟨n, h⟩ := h
  exact ⟨n + 1, applyL_pre h⟩
theorem pre_of {p q : List UInt8} (h : IsPre l k q) (hp : p <+: q) : IsPre l k p := by
  obtain ⟨n, h⟩ := h
  exact ⟨n, hp.trans h⟩
variable (hl : substB l = true) (hk : k < l.length) (hg : growB l k = true)
include hl hk hg
theorem fixL_length (n : Nat) : (fixL l k n).length = n := by
  have := iterL_long hl hk hg n
  unfold fixL
  rw [List.length_take]
  omega
theorem pre_take {p : List UInt8} (h : IsPre l k p) (n : Nat) (hn : n ≤ p.length) : p.take n = fixL l k n := by
  obtain ⟨m, h⟩ := h
  have h1 := iterL_long hl hk hg n
  have a : p.take n <+: iterL l [letterN k] (n + m) := (List.take_prefix _ _).trans (by rw [Nat.add_comm]; exact h.trans (iterL_mono hl hk hg m n))
  have b : fixL l k n <+: iterL l [letterN k] (n + m) := (List.take_prefix _ _).trans (iterL_mono hl hk hg n m)
  have c : (p.take n).length = (fixL l k n).length := by
    rw [fixL_length hl hk hg, List.length_take]; omega
  exact (List.prefix_of_prefix_length_le a b (Nat.le_of_eq c)).eq_of_length c
end
theorem fixL_pre (l : List ByteArray) (k n : Nat) : IsPre l k (fixL l k n) := ⟨n, List.take_prefix _ _⟩
/-- what FixedPoint is to return -/
def fixOk (l : List ByteArray) (t : ByteArray) (n : Int) : Bool := growOk l t && (decide (0 ≤ n) && decide (n ≤ 400))
def fixR (l : List ByteArray) (t : ByteArray) (n : Int) : ByteArray := if fixOk l t n = true then ⟨(fixL l (letN t) n.toNat).toArray⟩ else ⟨#[]⟩
/-- what LetterAt is to return -/
def latOk (l : List ByteArray) (t : ByteArray) (n : Int) : Bool := growOk l t && (decide (0 ≤ n) && decide (n ≤ 10000))
def latR (l : List ByteArray) (t : ByteArray) (n : Int) : ByteArray := if latOk l t n = true then ⟨#[(fixL l (letN t) (n.toNat + 1)).getD n.toNat 97]⟩ else ⟨#[]⟩
/-- what IsFixedStart is to return -/
def oneOf (s : ByteArray) : ByteArray := s.extract 0 1
def fixStart (l : List ByteArray) (s : ByteArray) : Bool := decide (s.size = 0) || (fixOk l (oneOf s) s.size && decide (fixL l (letN (oneOf s)) s.size = s.data.toList))

/-- the first letter of the image, again and again -/
def goN (l : List ByteArray) (k : Nat) : Nat → Nat
  | 0 => k
  | n + 1 => firstN l (goN l k n)
theorem goN_lt {l : List ByteArray} (hl : substB l = true) {k : Nat} (hk : k < l.length) : ∀ n, goN l k n < l.length
  | 0 => hk
  | n + 1 => by
    obtain ⟨_, _, h⟩ := first_at hl (goN_lt hl hk n)
    exact h
/-- some letter comes back after n -/
def backB (l : List ByteArray) (n : Nat) : Bool := (List.range l.length).any fun k => decide (goN l k n = k)
/-- what PowerNeeded is to return -/
def powR (l : List ByteArray) : Int := if substB l = true then (if backB l 1 then 1 else if backB l 2 then 2 else if backB l 3 then 3 else 4) else 0
/-- the orbit of a letter -/
def orbTo (l : List ByteArray) (k : Nat) : Nat → List Nat
  | 0 => []
  | n + 1 => orbTo l k n ++ [goN l k n]
theorem orbTo_length (l : List ByteArray) (k : Nat) : ∀ n, (orbTo l k n).length = n
  | 0 => rfl
  | n + 1 => by unfold orbTo; rw [List.length_append, orbTo_length l k n]; rfl
theorem orbTo_mem (l : List ByteArray) (k : Nat) (x : Nat) : ∀ n, x ∈ orbTo l k n ↔ ∃ i, i < n ∧ goN l k i = x
  | 0 => by simp [orbTo]
  | n + 1 => by
    unfold orbTo
    rw [List.mem_append, orbTo_mem l k x n, List.mem_singleton]
    constructor
    · rintro (⟨i, h, e⟩ | e)
      · exact ⟨i, by omega, e⟩
      · exact ⟨n, by omega, e.symm⟩
    · rintro ⟨i, h, e⟩
      by_cases hi : i = n
      · subst hi; exact .inr e.symm
      · exact .inl ⟨i, by omega, e⟩
/-- how many letters stand in the orbit: the first n that comes back to an earlier one -/
def orbN (l : List ByteArray) (k : Nat) : Nat := if goN l k 1 ∈ orbTo l k 1 then 1 else if goN l k 2 ∈ orbTo l k 2 then 2 else if goN l k 3 ∈ orbTo l k 3 then 3 else 4
/-- what OrbitOfFirst is to return -/
def orbR (l : List ByteArray) (t : ByteArray) : ByteArray := if (letOk l t && substB l) = true then ⟨((orbTo l (letN t) (orbN l (letN t))).map letterN).toArray⟩ else ⟨#[]⟩
end Go.Proofs.Ytbbcdeknnfghkaa

/- A letter of the fixed point at an index, found from the lengths. No program in it. -/
namespace Go.Proofs.Ytbbcdeknnfghkaa
open Go.RowKit

theorem iterL_app (l : List ByteArray) (a b : List UInt8) : ∀ i, iterL l (a ++ b) i = iterL l a i ++ iterL l b i
  | 0 => rfl
  | i + 1 => by
    show applyL l (iterL l (a ++ b) i) = applyL l (iterL l a i) ++ applyL l (iterL l b i)
    rw [iterL_app l a b i, applyL_app]
theorem iterL_in (l : List ByteArray) (w : List UInt8) : ∀ i, iterL l w (i + 1) = iterL l (applyL l w) i
  | 0 => rfl
  | i + 1 => by
    show applyL l (iterL l w (i + 1)) = applyL l (iterL l (applyL l w) i)
    rw [iterL_in l w i]
theorem iterL_empty (l : List ByteArray) : ∀ i, iterL l [] i = []
  | 0 => rfl
  | i + 1 => by
    show applyL l (iterL l [] i) = []
    rw [iterL_empty l i]
    rfl
theorem letter_of {l : List ByteArray} {c : UInt8} (h4 : l.length ≤ 4) (h1 : 97 ≤ c.toNat) (h2 : c.toNat < 97 + l.length) : c = letterN (c.toNat - 97) := by
  apply UInt8.toNat.inj
  rw [letterN_toNat _ (by omega)]
  omega
theorem image_of {l : List ByteArray} (hl : substB l = true) {k : Nat} (hk : k < l.length) : applyL l [letterN k] = l[k].data.toList := by
  have h4 := (subst_parts hl).2.1
  show imgOf l (letterN k) ++ [] = _
  rw [imgOf_at l _ k (letterN_toNat k (by omega)) hk, List.append_nil]
/-- how long a letter is after i applications, at most 10001 -/
def szN (l : List ByteArray) (i j : Nat) : Nat := min 10001 (iterL l [letterN j] i).length
theorem szN_zero (l : List ByteArray) (j : Nat) : szN l 0 j = 1 := rfl
/-- the sum over the first letters of a word, at most 10001 -/
def capTo (l : List ByteArray) (i : Nat) (w : List UInt8) : Nat → Nat
  | 0 => 0
  | t + 1 => min 10001 (capTo l i w t + szN l i ((w.getD t 0).toNat - 97))
theorem capTo_eq {l : List ByteArray} (hl : substB l = true) (i : Nat) {w : List UInt8} (hw : Within l w) : ∀ t, t ≤ w.length → capTo l i w t = min 10001 (iterL l (w.take t) i).length
  | 0, _ => by
    rw [List.take_zero, iterL_empty]
    rfl
  | t + 1, ht => by
    have ih := capTo_eq hl i hw t (by omega)
    obtain ⟨a, b⟩ := hw w[t] (List.getElem_mem _)
    have e : w.getD t 0 = w[t] := by rw [List.getD_eq_getElem?_getD, List.getElem?_eq_getElem (by omega)]; rfl
    show min 10001 (capTo l i w t + szN l i ((w.getD t 0).toNat - 97)) = _
    rw [ih, e, List.take_succ_eq_append_getElem (by omega), iterL_app, List.length_append]
    unfold szN
    rw [← letter_of (subst_parts hl).2.1 a b]
    omega
theorem szN_succ {l : List ByteArray} (hl : substB l = true) (i : Nat) {k : Nat} (hk : k < l.length) : szN l (i + 1) k = capTo l i l[k].data.toList l[k].data.toList.length := by
  rw [capTo_eq hl i (img_letters hl hk) _ (Nat.le_refl _), List.take_length]
  unfold szN
  rw [iterL_in, image_of hl hk]
theorem szN_le (l : List ByteArray) (i j : Nat) : szN l i j ≤ 10001 := Nat.min_le_left _ _
theorem szN_at {l : List ByteArray} {i j n : Nat} (hn : n ≤ 10000) : (szN l i j ≤ n ↔ (iterL l [letterN j] i).length ≤ n) ∧ (szN l i j ≤ n → szN l i j = (iterL l [letterN j] i).length) := by
  unfold szN
  omega
/-- the letter at n of what a word becomes is x -/
def Tgt (l : List ByteArray) (w : List UInt8) (i n : Nat) (x : UInt8) : Prop := (iterL l w i)[n]? = some x
theorem tgt_more {l : List ByteArray} {w : List UInt8} {i n : Nat} {x : UInt8} (h : Tgt l w i n x) : w ≠ [] := by
  rintro rfl
  unfold Tgt at h
  rw [iterL_empty] at h
  simp at h
theorem tgt_skip {l : List ByteArray} {c : UInt8} {w : List UInt8} {i n : Nat} {x : UInt8} (h : Tgt l (c :: w) i n x) (hn : (iterL l [c] i).length ≤ n) : Tgt l w i (n - (iterL l [c] i).length) x := by
  unfold Tgt at h ⊢
  rw [show c :: w = [c] ++ w from rfl, iterL_app, List.getElem?_append_right hn] at h
  exact h
theorem tgt_take {l : List ByteArray} {c : UInt8} {w : List UInt8} {i n : Nat} {x : UInt8} (h : Tgt l (c :: w) i n x) (hn : n < (iterL l [c] i).length) : Tgt l [c] i n x := by
  unfold Tgt at h ⊢
  rw [show c :: w = [c] ++ w from rfl, iterL_app, List.getElem?_append_left hn] at h
  exact h
theorem tgt_down {l : List ByteArray} (hl : substB l = true) {k i n : Nat} {x : UInt8} (hk : k < l.length) (h : Tgt l [letterN k] (i + 1) n x) : Tgt l l[k].data.toList i n x := by
  unfold Tgt at h ⊢
  rwa [iterL_in, image_of hl hk] at h
theorem tgt_end {l : List ByteArray} {k n : Nat} {x : UInt8} (h : Tgt l [letterN k] 0 n x) : n = 0 ∧ x = letterN k := by
  unfold Tgt at h
  have h2 := (List.getElem?_eq_some_iff.1 h).1
  have h3 : n < 1 := h2
  have h4 : n = 0 := by omega
  subst h4
  refine ⟨rfl, ?_⟩
  have : some (letterN k) = some x := h
  injection this with e
  exact e.symm
theorem tgt_start {l : List ByteArray} (hl : substB l = true) {k : Nat} (hk : k < l.length) (hg : growB l k = true) {i n : Nat} (hn : n < (iterL l [letterN k] i).length) : Tgt l [letterN k] i n ((fixL l k (n + 1)).getD n 97) := by
  have e := pre_take hl hk hg (p := iterL l [letterN k] i) ⟨i, List.prefix_refl _⟩ (n + 1) hn
  unfold Tgt
  rw [← e, List.getD_eq_getElem?_getD, List.getElem?_take, if_pos (by omega), List.getElem?_eq_getElem hn]
  rfl
/-- a growing letter becomes longer than n -/
theorem szN_grow {l : List ByteArray} (hl : substB l = true) {k : Nat} (hk : k < l.length) (hg : growB l k = true) {i n : Nat} (hn : n ≤ 10000) (h : n ≤ i) : n < szN l i k := by
  have := iterL_long hl hk hg i
  unfold szN
  omega
end Go.Proofs.Ytbbcdeknnfghkaa

/- WordOk of the model and its count of a letter. No condition but that a text has at most 2^63 bytes. -/
namespace Go.Proofs.Ytbbcdeknnfghkaa
open Go.RowKit

set_option maxHeartbeats 400000 in
theorem specWordOk (s : ByteArray) (w : World) :
    Calls Try.prog 53 #[.string s] w fun e w' => e = .returned (.bool (wordB s)) ∧ w = w' := by
  by_cases hl : 400 < s.size
  · have HE := Lib.hid (word_long hl)
    go_enter Try.func53, Try.ntmps53
    go_wp2
    go_ret
    exact ⟨ret_bool HE.out.symm, rfl⟩
  have hs : s.size ≤ 400 := by omega
  go_enter Try.func53, Try.ntmps53
  go_wp2
  go_loop [3] (fun i => ∃ k : Nat, k ≤ s.size ∧ i = .int .i64 k ∧ (s.data.toList.take k).all isAbcd = true) (fun i => s.size - (intOf i).toNat)
  case atStart => exact ⟨0, Nat.zero_le _, rfl, rfl⟩
  case round =>
    obtain ⟨k, hk, rfl, ha⟩ := hrel
    have HA := Lib.hid ha
    clear ha
    by_cases hlt : k < s.size
    · by_cases h1 : s[k].toNat < 97
      · have h1' : ((s[k].toNat : Int) < 97) := by omega
        have HN := Lib.hid (word_not (s := s) k hlt (by simp [isAbcd]; omega))
        go_wp2
        go_ret
        exact ⟨ret_bool HN.out.symm, rfl⟩
      · by_cases h2 : 100 < s[k].toNat
        · have h1' : ¬ ((s[k].toNat : Int) < 97) := by omega
          have h2' : ((100 : Int) < s[k].toNat) := by omega
          have HN := Lib.hid (word_not (s := s) k hlt (by simp [isAbcd]; omega))
          go_wp2
          go_ret
          exact ⟨ret_bool HN.out.symm, rfl⟩
        · have h1' : ¬ ((s[k].toNat : Int) < 97) := by omega
          have h2' : ¬ ((100 : Int) < s[k].toNat) := by omega
          go_wp2
          go_round
          case rel => exact ⟨k + 1, by omega, by go_num, all_snoc s k hlt HA.out (by simp [isAbcd]; omega)⟩
          case measure => simp [intOf]; omega
    · have hk' : k = s.size := by omega
      subst hk'
      have HY := Lib.hid (word_yes hs HA.out)
      go_wp2
      go_ret
      exact ⟨ret_bool HY.out.symm, rfl⟩

set_option maxHeartbeats 400000 in
theorem specCount (s : ByteArray) (c : UInt8) (w : World) (hs : s.size ≤ 1048576) :
    Calls Try.prog 88 #[.string s, .int .u8 c.toNat] w fun e w' => e = .returned (.int .i64 (cnt s.data.toList c)) ∧ w = w' := by
  go_enter Try.func88, Try.ntmps88
  go_wp2
  go_loop [5, 6] (fun n i => ∃ (k m : Nat), k ≤ s.size ∧ i = .int .i64 k ∧ n = .int .i64 m ∧ m ≤ k ∧ m = cnt (s.data.toList.take k) c) (fun _ i => s.size - (intOf i).toNat)
  case atStart => exact ⟨0, 0, Nat.zero_le _, rfl, rfl, by omega, rfl⟩
  case round =>
    obtain ⟨k, m, hk, rfl, rfl, hm, hc⟩ := hrel
    have HC := Lib.hid hc
    clear hc
    by_cases hlt : k < s.size
    · have HS := Lib.hid (cnt_succ s k hlt c)
      by_cases he : s[k] = c
      · have hb : ((s[k].toNat : Int) == (c.toNat : Int)) = true := by rw [he]; simp
        have HE := Lib.hid he
        clear he
        go_wp2
        go_round
        case rel => exact ⟨k + 1, m + 1, by omega, by go_num, by go_num, by omega, by rw [HS.out, if_pos HE.out, HC.out]⟩
        case measure => simp [intOf]; omega
      · have hb : ((s[k].toNat : Int) == (c.toNat : Int)) = false := by
          rw [beq_eq_false_iff_ne]
          intro h
          exact he (UInt8.toNat_inj.1 (by omega))
        have HE := Lib.hid he
        clear he
        go_wp2
        go_round
        case rel => exact ⟨k + 1, m, by omega, by go_num, rfl, by omega, by rw [HS.out, if_neg HE.out, HC.out]; rfl⟩
        case measure => simp [intOf]; omega
    · have hk' : k = s.size := by omega
      subst hk'
      go_wp2
      go_ret
      refine ⟨ret_int ?_, rfl⟩
      rw [HC.out, take_all s _ (Nat.le_refl _)]
end Go.Proofs.Ytbbcdeknnfghkaa
