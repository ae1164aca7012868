/- Texts put together. -/
import Derived.Test.YtnejalefpenbfaaMgA17
import Derived.Test.YtnejalefpenbfaaMgA7
import Derived.Test.YtnejalefpenbfaaMgA9
import Derived.Test.YtnejalefpenbfaaMgA10
import Derived.Test.YtnejalefpenbfaaMgA1
import Derived.Test.YtnejalefpenbfaaMgA2
import Derived.Test.YtnejalefpenbfaaMgA4
import Derived.Laws.Cover1
import Derived.Test.YtnejalefpenbfaaMgA6
/- The mathematics of FnPeriods, second part: Lyndon words and their parts. No program in it. -/
namespace Go.Proofs.Ytnejalefpenbfaa
open Go.RowKit

/-! ### the order of words -/
theorem bl_cons (x y : UInt8) (a b : List UInt8) : Op.bytesLess (x :: a) (y :: b) = true ↔ x < y ∨ (x = y ∧ Op.bytesLess a b = true) := by
  simp only [Op.bytesLess, Bool.or_eq_true, Bool.and_eq_true, decide_eq_true_eq, beq_iff_eq]
theorem bl_nil (a : List UInt8) : Op.bytesLess a [] = false := by cases a <;> rfl
/-- two words that part before the first one ends -/
theorem bl_app : ∀ a b : List UInt8, Op.bytesLess a b = true → ¬ a <+: b → ∀ x y, Op.bytesLess (a ++ x) (b ++ y) = true
  | [], _, _, h => absurd List.nil_prefix h
  | x :: a, [], h, _ => by rw [bl_nil] at h; cases h
  | x :: a, y :: b, h, hp => fun u v => by
    rw [bl_cons] at h
    show Op.bytesLess (x :: (a ++ u)) (y :: (b ++ v)) = true
    rw [bl_cons]
    rcases h with h | ⟨rfl, h⟩
    · exact .inl h
    · exact .inr ⟨rfl, bl_app a b h (fun hh => hp (List.cons_prefix_cons.2 ⟨rfl, hh⟩)) u v⟩
theorem bl_pre : ∀ p a b : List UInt8, Op.bytesLess (p ++ a) (p ++ b) = true ↔ Op.bytesLess a b = true
  | [], _, _ => Iff.rfl
  | x :: p, a, b => by
    show Op.bytesLess (x :: (p ++ a)) (x :: (p ++ b)) = true ↔ _
    rw [bl_cons, bl_pre p a b]
    constructor
    · rintro (h | ⟨_, h⟩)
      · exact absurd h (UInt8.lt_irrefl x)
      · exact h
    · exact fun h => .inr ⟨rfl, h⟩
theorem bl_asym {a b : List UInt8} (h : Op.bytesLess a b = true) (k : Op.bytesLess b a = true) : False := by
  have := bl_trans a b a h k
  rw [bl_self] at this
  cases this
theorem bl_len : ∀ u t v v' : List UInt8, u.length = t.length → Op.bytesLess (u ++ v) (t ++ v') = true → Op.bytesLess u t = true ∨ (u = t ∧ Op.bytesLess v v' = true)
  | [], [], _, _, _, h => .inr ⟨rfl, h⟩
  | [], _ :: _, _, _, hl, _ => by simp at hl
  | _ :: _, [], _, _, hl, _ => by simp at hl
  | x :: u, y :: t, v, v', hl, h => by
    have h0 : Op.bytesLess (x :: (u ++ v)) (y :: (t ++ v')) = true := h
    rw [bl_cons] at h0
    rw [bl_cons]
    rcases h0 with h1 | ⟨rfl, h1⟩
    · exact .inl (.inl h1)
    · rcases bl_len u t v v' (by simpa using hl) h1 with k | ⟨rfl, k⟩
      · exact .inl (.inr ⟨rfl, k⟩)
      · exact .inr ⟨rfl, k⟩

/-! ### before all shifts, before all ends -/
def LySuf (w : List UInt8) : Prop := w ≠ [] ∧ ∀ u v, w = u ++ v → u ≠ [] → v ≠ [] → Op.bytesLess w v = true
def LyRot (w : List UInt8) : Prop := w ≠ [] ∧ ∀ u v, w = u ++ v → u ≠ [] → v ≠ [] → Op.bytesLess w (v ++ u) = true
theorem long_pre {u v : List UInt8} (hu : u ≠ []) : ¬ (u ++ v) <+: v := fun h => by
  have := h.length_le
  rw [List.length_append] at this
  have := List.length_pos_iff.2 hu
  omega
theorem ly_suf_rot {w : List UInt8} (h : LySuf w) : LyRot w := ⟨h.1, fun u v e hu hv => by
  have h1 := h.2 u v e hu hv
  have := bl_app w v h1 (by rw [e]; exact long_pre hu) [] u
  rwa [List.append_nil] at this⟩
theorem ly_rot_suf {w : List UInt8} (h : LyRot w) : LySuf w := ⟨h.1, fun u v e hu hv => by
  have h1 := h.2 u v e hu hv
  rcases bl_tri w v with k | k | k
  · exact k
  · exfalso
    have := congrArg List.length (e.symm.trans k)
    rw [List.length_append] at this
    have := List.length_pos_iff.2 hu
    omega
  · exfalso
    by_cases hp : v <+: w
    · obtain ⟨t, ht⟩ := hp
      have hlen : t.length = u.length := by
        have := congrArg List.length (ht.trans e)
        rw [List.length_append, List.length_append] at this
        omega
      have ht0 : t ≠ [] := fun hh => hu (by rw [hh] at hlen; exact List.eq_nil_of_length_eq_zero hlen.symm)
      have h2 := h.2 v t ht.symm hv ht0
      have h3 : Op.bytesLess t u = true := by
        rw [← ht] at h1
        exact (bl_pre v t u).1 h1
      rw [e] at h2
      rcases bl_len u t v v hlen.symm h2 with k2 | ⟨_, k2⟩
      · exact bl_asym h3 k2
      · rw [bl_self] at k2; cases k2
    · have := bl_app v w k hp u []
      rw [List.append_nil] at this
      exact bl_asym h1 this⟩
/-- two Lyndon words of which the first comes before the second make one -/
theorem ly_app {u v : List UInt8} (hu : LySuf u) (hv : LySuf v) (h : Op.bytesLess u v = true) : LySuf (u ++ v) := by
  have huv : Op.bytesLess (u ++ v) v = true := by
    by_cases hp : u <+: v
    · obtain ⟨t, ht⟩ := hp
      have ht0 : t ≠ [] := fun hh => by
        rw [hh, List.append_nil] at ht
        rw [ht, bl_self] at h
        cases h
      have h1 := hv.2 u t ht.symm hu.1 ht0
      have : Op.bytesLess (u ++ v) (u ++ t) = true := (bl_pre u v t).2 h1
      rwa [ht] at this
    · have := bl_app u v h hp v []
      rwa [List.append_nil] at this
  refine ⟨fun hh => hu.1 (List.append_eq_nil_iff.1 hh).1, fun x y e hx hy => ?_⟩
  rcases List.append_eq_append_iff.1 e with ⟨a, ha1, ha2⟩ | ⟨c, hc1, hc2⟩
  · by_cases ha : a = []
    · rw [ha, List.nil_append] at ha2
      rw [← ha2]
      exact huv
    · exact bl_trans _ _ _ huv (hv.2 a y ha2 ha hy)
  · by_cases hc : c = []
    · rw [hc, List.nil_append] at hc2
      rw [hc2]
      exact huv
    · rw [hc2]
      exact bl_app u c (hu.2 x c hc1 hx hc) (by rw [hc1]; exact long_pre hx) v v
theorem ly_one (a : UInt8) : LySuf [a] := ⟨by simp, fun u v e hu hv => by
  have := congrArg List.length e
  rw [List.length_append] at this
  have h1 := List.length_pos_iff.2 hu
  have h2 := List.length_pos_iff.2 hv
  simp only [List.length_cons, List.length_nil] at this
  omega⟩

/-! ### .. of the words themselves -/
theorem rot_list (s : ByteArray) (k : Nat) (_ : k ≤ s.size) : (rotS s k).data.toList = s.data.toList.drop k ++ s.data.toList.take k := by
  have hl : s.data.toList.length = s.size := by simp
  unfold rotS
  rw [ByteArray.data_append, Array.toList_append, ByteArray.data_extract, ByteArray.data_extract, Array.toList_extract, Array.toList_extract, List.extract_eq_take_drop, List.extract_eq_take_drop, List.drop_zero, Nat.sub_zero, List.take_of_length_le (by rw [List.length_drop, hl]; omega)]
theorem lyn_suf (s : ByteArray) : LynAt s ↔ LySuf s.data.toList := by
  have hl : s.data.toList.length = s.size := by simp
  unfold LynAt
  constructor
  · rintro ⟨h1, h2⟩
    refine ly_rot_suf ⟨fun hh => by rw [hh] at hl; simp at hl; omega, fun u v e hu hv => ?_⟩
    have hul := List.length_pos_iff.2 hu
    have hvl := List.length_pos_iff.2 hv
    have hle : u.length + v.length = s.size := by rw [← List.length_append, ← e, hl]
    have := h2 u.length (by omega) (by omega)
    unfold lessB at this
    rw [ByteArray.toList_eq, ByteArray.toList_eq, rot_list s _ (by omega), e, List.drop_left, List.take_left] at this
    rwa [e]
  · intro h
    have h0 := List.length_pos_iff.2 h.1
    refine ⟨by omega, fun k h1 h2 => ?_⟩
    have := (ly_suf_rot h).2 (s.data.toList.take k) (s.data.toList.drop k) (List.take_append_drop _ _).symm (fun hh => by
      have := congrArg List.length hh
      rw [List.length_take, hl, List.length_nil] at this
      omega) (fun hh => by
      have := congrArg List.length hh
      rw [List.length_drop, hl, List.length_nil] at this
      omega)
    unfold lessB
    rwa [ByteArray.toList_eq, ByteArray.toList_eq, rot_list s _ (by omega)]
theorem part_list (s : ByteArray) (i n : Nat) : (s.extract i (i + n)).data.toList = (s.data.toList.drop i).take n := by
  rw [ByteArray.data_extract, Array.toList_extract, List.extract_eq_take_drop, Nat.add_sub_cancel_left]

/-! ### the parts -/
theorem lyLen_spec (s : ByteArray) (i : Nat) : ∀ n, (1 ≤ lyLen s i n → LynAt (s.extract i (i + lyLen s i n))) ∧ ∀ m, lyLen s i n < m → m ≤ n → ¬ LynAt (s.extract i (i + m))
  | 0 => ⟨fun h => absurd h (by show ¬ 1 ≤ 0; omega), fun m h1 h2 => by have h1 : 0 < m := h1; omega⟩
  | n + 1 => by
    obtain ⟨a, b⟩ := lyLen_spec s i n
    cases h : lyB (s.extract i (i + (n + 1)))
    · have e : lyLen s i (n + 1) = lyLen s i n := if_neg (by rw [h]; decide)
      rw [e]
      refine ⟨a, fun m h1 h2 hm => ?_⟩
      by_cases hn : m = n + 1
      · subst hn
        rw [(lyB_iff _).2 hm] at h
        cases h
      · exact b m h1 (by omega) hm
    · have e : lyLen s i (n + 1) = n + 1 := if_pos h
      rw [e]
      exact ⟨fun _ => (lyB_iff _).1 h, fun m h1 h2 => by omega⟩
theorem lyLen_pos {s : ByteArray} {i : Nat} (h : i < s.size) : 1 ≤ lyLen s i (s.size - i) := by
  by_cases h0 : lyLen s i (s.size - i) = 0
  · exfalso
    refine (lyLen_spec s i (s.size - i)).2 1 (by omega) (by omega) ?_
    rw [lyn_suf, part_list]
    have hl : s.data.toList.length = s.size := by simp
    rw [List.drop_eq_getElem_cons (by rw [hl]; exact h), List.take_succ_cons, List.take_zero]
    exact ly_one _
  · omega
/-- the next part does not come behind -/
theorem ly_down {s : ByteArray} {i m : Nat} (h : i < s.size) (hm : 1 ≤ m) (hi : i + lyLen s i (s.size - i) + m ≤ s.size) (hl : LynAt (s.extract (i + lyLen s i (s.size - i)) (i + lyLen s i (s.size - i) + m))) : ¬ lessB (s.extract i (i + lyLen s i (s.size - i))) (s.extract (i + lyLen s i (s.size - i)) (i + lyLen s i (s.size - i) + m)) = true := by
  obtain ⟨a, b⟩ := lyLen_spec s i (s.size - i)
  have hp := lyLen_pos h
  have h1 := a hp
  generalize lyLen s i (s.size - i) = n at *
  intro hless
  refine b (n + m) (by omega) (by omega) ?_
  rw [lyn_suf, part_list] at h1 hl ⊢
  unfold lessB at hless
  rw [ByteArray.toList_eq, ByteArray.toList_eq, part_list, part_list] at hless
  have := ly_app h1 hl hless
  rw [← List.drop_drop] at this
  rwa [List.take_add]
end Go.Proofs.Ytnejalefpenbfaa

/- Factors of a word: what chapter 7 is to return. No program in it. -/
namespace Go.Proofs.Ytnejalefpenbfaa
open Go.RowKit

/-- the factors of n letters, ascending -/
def fctL (s : ByteArray) (n : Nat) : List ByteArray := facTo s n (s.size + 1 - n)
def fctOk (s : ByteArray) (n : Int) : Bool := wordB s && (decide (1 ≤ n) && decide (n ≤ 400))
def fctR (s : ByteArray) (n : Int) : List ByteArray := if fctOk s n = true then fctL s n.toNat else []
def cpxR (s : ByteArray) (n : Int) : Int := if fctOk s n = true then ((fctL s n.toNat).length : Int) else -1
def allTo (s : ByteArray) : Nat → Nat
  | 0 => 0
  | k + 1 => allTo s k + (fctL s (k + 1)).length
def allOk (s : ByteArray) : Bool := wordB s && decide (s.size ≤ 60)
def allR (s : ByteArray) : Int := if allOk s = true then (allTo s s.size : Int) else -1
/-- the factor and a letter behind it or ahead of it -/
def exL (f : ByteArray) (before : Bool) (k : Nat) : ByteArray := if before = true then ⟨#[letterN k]⟩ ++ f else f ++ ⟨#[letterN k]⟩
/-- the letters behind or ahead of a factor -/
noncomputable def nxtS (s f : ByteArray) (before : Bool) : ByteArray := ⟨(outTo (fun k => hasR s (exL f before k)) 4).toArray⟩
noncomputable def nxtR (s f : ByteArray) (before : Bool) : ByteArray := if (wordB s && wordB f) = true then nxtS s f before else ⟨#[]⟩
noncomputable def spcL (s : ByteArray) (n : Nat) (before : Bool) : List ByteArray := (fctL s n).filter fun f => decide (1 < (nxtS s f before).size)
noncomputable def spcR (s : ByteArray) (n : Int) (before : Bool) : List ByteArray := if fctOk s n = true then spcL s n.toNat before else []
/-- the index of a string in a list, or -1 -/
def atN (l : List ByteArray) (x : ByteArray) : Nat := l.findIdx fun y => x.toList == y.toList
def atR (l : List ByteArray) (x : ByteArray) : Int := if atN l x < l.length then (atN l x : Int) else -1
def edgeL (s : ByteArray) (n : Nat) : List (List Int) := (fctL s (n + 1)).map fun f => [atR (fctL s n) (f.extract 0 n), atR (fctL s n) (f.extract 1 f.size)]
def grfR (s : ByteArray) (n : Int) : List (List Int) := if fctOk s n = true then edgeL s n.toNat else []
end Go.Proofs.Ytnejalefpenbfaa

/- flip and in, of the laws. Conditions: lengths of at most 2^20. -/
namespace Go.Proofs.Ytnejalefpenbfaa
open Go.RowKit

def flipS (s : ByteArray) : ByteArray := ⟨s.data.toList.reverse.toArray⟩
/-- the last i letters, the last one first -/
theorem rev_snoc (l : List UInt8) (i : Nat) (h : i < l.length) : l.reverse.take (i + 1) = l.reverse.take i ++ [l[l.length - 1 - i]'(by omega)] := by
  rw [List.take_succ_eq_append_getElem (by simpa using h), List.getElem_reverse]

def inB (l : List ByteArray) (x : ByteArray) : Bool := l.any fun y => x.toList == y.toList
theorem inB_iff (l : List ByteArray) (x : ByteArray) : inB l x = true ↔ x ∈ l := by
  unfold inB
  rw [List.any_eq_true]
  constructor
  · rintro ⟨y, hy, e⟩
    rw [bytes_ext (eq_of_beq e)]
    exact hy
  · exact fun h => ⟨x, h, by simp⟩
end Go.Proofs.Ytnejalefpenbfaa

/- The mathematics of FnFactors: members of the list of factors, a word turned round. No program in it. -/
namespace Go.Proofs.Ytnejalefpenbfaa
open Go.RowKit

theorem fct_mem (s : ByteArray) (n : Nat) (x : ByteArray) : x ∈ fctL s n ↔ ∃ j, j < s.size + 1 - n ∧ x = s.extract j (j + n) := by
  unfold fctL
  exact facTo_mem s n x _
theorem asc_nodup {l : List ByteArray} (h : Asc l) : l.Nodup := h.imp fun {a b} hab e => by
  rw [e] at hab
  exact less_self _ hab
theorem nodup_le {α : Type} : ∀ {l m : List α}, l.Nodup → (∀ x ∈ l, x ∈ m) → l.length ≤ m.length
  | [], _, _, _ => Nat.zero_le _
  | a :: l, m, hl, h => by
    obtain ⟨h1, h2⟩ := List.pairwise_cons.1 hl
    obtain ⟨m1, m2, rfl⟩ := List.append_of_mem (h a (List.mem_cons_self ..))
    have := nodup_le (m := m1 ++ m2) h2 (fun x hx => by
      rcases List.mem_append.1 (h x (List.mem_cons_of_mem _ hx)) with e | e
      · exact List.mem_append_left _ e
      · rcases List.mem_cons.1 e with e | e
        · exact absurd e.symm (h1 x hx)
        · exact List.mem_append_right _ e)
    rw [List.length_append] at this
    rw [List.length_append, List.length_cons, List.length_cons]
    omega
theorem nodup_eq {α : Type} {l m : List α} (hl : l.Nodup) (hm : m.Nodup) (h : ∀ x, x ∈ l ↔ x ∈ m) : l.length = m.length :=
  Nat.le_antisymm (nodup_le hl fun x hx => (h x).1 hx) (nodup_le hm fun x hx => (h x).2 hx)
theorem flip_flip (s : ByteArray) : flipS (flipS s) = s := by
  unfold flipS
  apply bytes_ext
  rw [ByteArray.toList_eq, ByteArray.toList_eq]
  simp
theorem flip_size (s : ByteArray) : (flipS s).size = s.size := by
  show (s.data.toList.reverse.toArray).size = s.size
  simp
theorem flip_ext (s : ByteArray) (j n : Nat) (h : j + n ≤ s.size) : (flipS s).extract j (j + n) = flipS (s.extract (s.size - j - n) (s.size - j - n + n)) := by
  apply bytes_ext
  rw [ByteArray.toList_eq, ByteArray.toList_eq]
  show ((flipS s).extract j (j + n)).data.toList = (s.extract (s.size - j - n) (s.size - j - n + n)).data.toList.reverse
  rw [ByteArray.data_extract, ByteArray.data_extract, Array.toList_extract, Array.toList_extract, List.extract_eq_take_drop, List.extract_eq_take_drop]
  show ((s.data.toList.reverse).drop j).take (j + n - j) = _
  have hl : s.data.toList.length = s.size := by simp
  generalize s.data.toList = l at hl
  rw [← hl] at h ⊢
  rw [Nat.add_sub_cancel_left, Nat.add_sub_cancel_left]
  apply List.ext_getElem
  · simp; omega
  · intro i h1 h2
    simp only [List.getElem_take, List.getElem_drop, List.getElem_reverse]
    congr 1
    simp at h1 h2 ⊢
    omega
theorem flip_inj {a b : ByteArray} (h : flipS a = flipS b) : a = b := by rw [← flip_flip a, h, flip_flip]
theorem flip_fct (s : ByteArray) (n : Nat) (x : ByteArray) : x ∈ fctL (flipS s) n ↔ x ∈ (fctL s n).map flipS := by
  rw [fct_mem, List.mem_map]
  constructor
  · rintro ⟨j, hj, rfl⟩
    rw [flip_size] at hj
    exact ⟨s.extract (s.size - j - n) (s.size - j - n + n), (fct_mem s n _).2 ⟨s.size - j - n, by omega, rfl⟩, (flip_ext s j n (by omega)).symm⟩
  · rintro ⟨y, hy, rfl⟩
    obtain ⟨j, hj, rfl⟩ := (fct_mem s n y).1 hy
    refine ⟨s.size - j - n, by rw [flip_size]; omega, ?_⟩
    rw [flip_ext s (s.size - j - n) n (by omega)]
    congr 2 <;> omega
/-- a word and the word turned round have as many factors of a length -/
theorem flip_len (s : ByteArray) (n : Nat) : (fctL (flipS s) n).length = (fctL s n).length := by
  have h1 : (fctL (flipS s) n).Nodup := asc_nodup (facTo_asc _ _ _)
  have h2 : ((fctL s n).map flipS).Nodup := List.pairwise_map.2 ((asc_nodup (facTo_asc s n (s.size + 1 - n))).imp fun {a b} hab e => hab (flip_inj e))
  rw [nodup_eq h1 h2 (flip_fct s n), List.length_map]

/-! ### the letters behind and ahead of factors -/
theorem exL_sz (f : ByteArray) (b : Bool) (k : Nat) : (exL f b k).size = f.size + 1 := by
  have h1 : (⟨#[letterN k]⟩ : ByteArray).size = 1 := rfl
  unfold exL
  split
  · rw [ByteArray.size_append, h1]; omega
  · rw [ByteArray.size_append, h1]
theorem exL_list (f : ByteArray) (b : Bool) (k : Nat) : (exL f b k).data.toList = if b = true then letterN k :: f.data.toList else f.data.toList ++ [letterN k] := by
  unfold exL
  split
  · rw [ByteArray.data_append, Array.toList_append]; rfl
  · rw [ByteArray.data_append, Array.toList_append]
theorem exL_inj {f f' : ByteArray} {b : Bool} {k k' : Nat} (hk : k ≤ 3) (hk' : k' ≤ 3) (h : exL f b k = exL f' b k') : f = f' ∧ k = k' := by
  have e := congrArg (fun x : ByteArray => x.data.toList) h
  simp only [exL_list] at e
  by_cases hb : b = true
  · rw [if_pos hb, if_pos hb] at e
    injection e with e1 e2
    exact ⟨bytes_ext (by rw [ByteArray.toList_eq, ByteArray.toList_eq]; exact e2), letterN_inj hk hk' e1⟩
  · rw [if_neg hb, if_neg hb] at e
    obtain ⟨e1, e2⟩ := List.append_inj' e rfl
    injection e2 with e2 _
    exact ⟨bytes_ext (by rw [ByteArray.toList_eq, ByteArray.toList_eq]; exact e1), letterN_inj hk hk' e2⟩
theorem has_iff (s x : ByteArray) : hasR s x = true ↔ ∃ i, i + x.size ≤ s.size ∧ s.extract i (i + x.size) = x := by
  unfold hasR
  constructor
  · intro h
    obtain ⟨i, h1, h2⟩ := @of_decide_eq_true _ (Classical.propDecidable _) h
    exact ⟨i, h1, h2⟩
  · rintro ⟨i, h1, h2⟩
    exact @decide_eq_true _ (Classical.propDecidable _) ⟨i, h1, h2⟩
theorem fct_sz {s x : ByteArray} {n : Nat} (hn : n ≤ s.size) (h : x ∈ fctL s n) : x.size = n := by
  obtain ⟨j, hj, rfl⟩ := (fct_mem s n x).1 h
  rw [ByteArray.size_extract]
  omega
theorem word_letter {s : ByteArray} (h : wordB s = true) {j : Nat} (hj : j < s.size) : ∃ k, k ≤ 3 ∧ s.data.toList[j]'(by simpa using hj) = letterN k := by
  have hm := List.all_eq_true.1 (all_of_word h) (s.data.toList[j]'(by simpa using hj)) (List.getElem_mem _)
  unfold isAbcd at hm
  simp only [Bool.and_eq_true, decide_eq_true_eq] at hm
  refine ⟨(s.data.toList[j]'(by simpa using hj)).toNat - 97, by omega, ?_⟩
  apply UInt8.toNat.inj
  rw [letterN_toNat _ (by omega)]
  omega
theorem ext_list2 (s : ByteArray) (i n : Nat) : (s.extract i (i + n)).data.toList = (s.data.toList.drop i).take n := by
  rw [ByteArray.data_extract, Array.toList_extract, List.extract_eq_take_drop, Nat.add_sub_cancel_left]
/-- each longer factor is a factor and a letter -/
theorem ext_split {s : ByteArray} (hw : wordB s = true) {j n : Nat} (h : j + (n + 1) ≤ s.size) (b : Bool) : ∃ k i, k ≤ 3 ∧ i + n ≤ s.size ∧ s.extract j (j + (n + 1)) = exL (s.extract i (i + n)) b k := by
  have hl : s.data.toList.length = s.size := by simp
  cases b
  · obtain ⟨k, hk, e⟩ := word_letter hw (show j + n < s.size by omega)
    refine ⟨k, j, hk, by omega, bytes_ext ?_⟩
    rw [ByteArray.toList_eq, ByteArray.toList_eq]
    show (s.extract j (j + (n + 1))).data.toList = (exL (s.extract j (j + n)) false k).data.toList
    rw [exL_list, if_neg (by decide), ext_list2, ext_list2, List.take_succ_eq_append_getElem (by rw [List.length_drop]; omega), List.getElem_drop, e]
  · obtain ⟨k, hk, e⟩ := word_letter hw (show j < s.size by omega)
    refine ⟨k, j + 1, hk, by omega, bytes_ext ?_⟩
    rw [ByteArray.toList_eq, ByteArray.toList_eq]
    show (s.extract j (j + (n + 1))).data.toList = (exL (s.extract (j + 1) (j + 1 + n)) true k).data.toList
    rw [exL_list, if_pos rfl, ext_list2, ext_list2, ← e, List.drop_eq_getElem_cons (show j < s.data.toList.length by omega), List.take_succ_cons]
/-- the factors of n letters, each with each letter behind (or ahead of) it -/
noncomputable def extsL (s : ByteArray) (n : Nat) (b : Bool) : List ByteArray := (fctL s n).flatMap fun f => ((List.range 4).filter fun k => hasR s (exL f b k)).map (exL f b)
theorem outTo_len (p : Nat → Bool) : ∀ n, (outTo p n).length = ((List.range n).filter p).length
  | 0 => rfl
  | n + 1 => by
    rw [List.range_succ, List.filter_append, List.length_append, ← outTo_len p n]
    show (outTo p n ++ (if p n = true then [letterN n] else [])).length = _
    rw [List.length_append]
    congr 1
    by_cases h : p n = true
    · rw [if_pos h, List.filter_cons_of_pos h]; rfl
    · rw [if_neg h, List.filter_cons_of_neg h]; rfl
theorem nxt_size (s f : ByteArray) (b : Bool) : (nxtS s f b).size = ((List.range 4).filter fun k => hasR s (exL f b k)).length := by
  show ((outTo _ 4).toArray).size = _
  rw [List.size_toArray, outTo_len]
theorem exts_len (s : ByteArray) (n : Nat) (b : Bool) : (extsL s n b).length = ((fctL s n).map fun f => (nxtS s f b).size).sum := by
  unfold extsL
  rw [List.length_flatMap]
  congr 1
  apply List.map_congr_left
  intro f _
  rw [List.length_map, nxt_size]
theorem exts_mem {s : ByteArray} (hw : wordB s = true) (n : Nat) (hn : n + 1 ≤ s.size) (b : Bool) (x : ByteArray) : x ∈ extsL s n b ↔ x ∈ fctL s (n + 1) := by
  unfold extsL
  rw [List.mem_flatMap]
  constructor
  · rintro ⟨f, hf, hx⟩
    obtain ⟨k, hk, rfl⟩ := List.mem_map.1 hx
    obtain ⟨hk4, hh⟩ := List.mem_filter.1 hk
    obtain ⟨i, h1, h2⟩ := (has_iff _ _).1 hh
    rw [exL_sz, fct_sz (by omega) hf] at h1 h2
    exact (fct_mem _ _ _).2 ⟨i, by omega, h2.symm⟩
  · intro h
    obtain ⟨j, hj, rfl⟩ := (fct_mem _ _ _).1 h
    obtain ⟨k, i, hk, hi, e⟩ := ext_split hw (show j + (n + 1) ≤ s.size by omega) b
    refine ⟨s.extract i (i + n), (fct_mem _ _ _).2 ⟨i, by omega, rfl⟩, List.mem_map.2 ⟨k, List.mem_filter.2 ⟨List.mem_range.2 (by omega), ?_⟩, e.symm⟩⟩
    refine (has_iff _ _).2 ⟨j, ?_, ?_⟩
    · rw [exL_sz, ByteArray.size_extract]; omega
    · rw [exL_sz, ByteArray.size_extract, show min (i + n) s.size - i + 1 = n + 1 by omega]; exact e
theorem exts_nodup (s : ByteArray) (n : Nat) (b : Bool) : (extsL s n b).Nodup := by
  unfold extsL
  have hnd := asc_nodup (facTo_asc s n (s.size + 1 - n))
  change (fctL s n).Nodup at hnd
  generalize fctL s n = l at hnd
  induction l with
  | nil => exact List.Pairwise.nil
  | cons f l ih =>
    obtain ⟨h1, h2⟩ := List.pairwise_cons.1 hnd
    rw [List.flatMap_cons]
    refine List.pairwise_append.2 ⟨?_, ih h2, ?_⟩
    · refine List.pairwise_map.2 ?_
      have hr : ((List.range 4).filter fun k => hasR s (exL f b k)).Pairwise (fun i j => i ≠ j ∧ i < 4 ∧ j < 4) := by
        refine List.Pairwise.filter _ ?_
        decide
      exact hr.imp fun {i j} h e => h.1 (exL_inj (by omega) (by omega) e).2
    · intro x hx y hy e
      obtain ⟨k, hk, rfl⟩ := List.mem_map.1 hx
      obtain ⟨g, hg, hy⟩ := List.mem_flatMap.1 hy
      obtain ⟨k', hk', rfl⟩ := List.mem_map.1 hy
      have a := List.mem_range.1 (List.mem_filter.1 hk).1
      have c := List.mem_range.1 (List.mem_filter.1 hk').1
      exact h1 g hg (exL_inj (by omega) (by omega) e).1
/-- the followers of all factors are as many as the factors with a letter more -/
theorem exts_count {s : ByteArray} (hw : wordB s = true) (n : Nat) (hn : n + 1 ≤ s.size) (b : Bool) : ((fctL s n).map fun f => (nxtS s f b).size).sum = (fctL s (n + 1)).length := by
  rw [← exts_len]
  exact nodup_eq (exts_nodup s n b) (asc_nodup (facTo_asc _ _ _)) (exts_mem hw n hn b)
end Go.Proofs.Ytnejalefpenbfaa
