/- Texts put together. -/
import Derived.Test.YtgfhconcmoepcaaMga15
import Derived.Test.YtgfhconcmoepcaaMga8
import Derived.Test.YtgfhconcmoepcaaMga10
import Derived.Test.YtgfhconcmoepcaaMga14
import Derived.Test.YtgfhconcmoepcaaMga6
import Derived.Test.YtgfhconcmoepcaaMga7
import Derived.Test.YtgfhconcmoepcaaMga9
/- The mathematics of FnPeriods, second part: Lyndon words and their parts. No program in it. -/
namespace Go.Proofs.Ytgfhconcmoepcaa
open Go.RowKit

/-! ### the order of words -/
theorem bl_cons (x y : UInt8) (a b : List UInt8) : Op.bytesLess (x :: a) (y :: b) = true ↔ x < y ∨ (x = y ∧ Op.bytesLess a b = true) := by
  simp only [Op.bytesLess, Bool.or_eq_true, Bool.and_eq_true, decide_eq_true_eq, beq_iff_eq]
theorem bl_nil (a : List UInt8) : Op.bytesLess a [] = false := by cases a <;> rfl
/-- two words that part before the first one ends -/
theorem bl_app : ∀ a b : List UInt8, Op.bytesLess a b = true → ¬ a <+: b → ∀ x y, Op.bytesLess (a ++ x) (b ++ y) = true
  | [], _, _, h => absurd List.nil_prefix h
  | x :: a, [], h, _ => by rw [bl_nil] at h; cases h
  | x :: a, y :: b, h, hp => fun u v => by
    rw [bl_cons] at h
    show Op.bytesLess (x :: (a ++ u)) (y :: (b ++ v)) = true
    rw [bl_cons]
    rcases h with h | ⟨rfl, h⟩
    · exact .inl h
    · exact .inr ⟨rfl, bl_app a b h (fun hh => hp (List.cons_prefix_cons.2 ⟨rfl, hh⟩)) u v⟩
theorem bl_pre : ∀ p a b : List UInt8, Op.bytesLess (p ++ a) (p ++ b) = true ↔ Op.bytesLess a b = true
  | [], _, _ => Iff.rfl
  | x :: p, a, b => by
    show Op.bytesLess (x :: (p ++ a)) (x :: (p ++ b)) = true ↔ _
    rw [bl_cons, bl_pre p a b]
    constructor
    · rintro (h | ⟨_, h⟩)
      · exact absurd h (UInt8.lt_irrefl x)
      · exact h
    · exact fun h => .inr ⟨rfl, h⟩
theorem bl_asym {a b : List UInt8} (h : Op.bytesLess a b = true) (k : Op.bytesLess b a = true) : False := by
  have := bl_trans a b a h k
  rw [bl_self] at this
  cases this
theorem bl_len : ∀ u t v v' : List UInt8, u.length = t.length → Op.bytesLess (u ++ v) (t ++ v') = true → Op.bytesLess u t = true ∨ (u = t ∧ Op.bytesLess v v' = true)
  | [], [], _, _, _, h => .inr ⟨rfl, h⟩
  | [], _ :: _, _, _, hl, _ => by simp at hl
  | _ :: _, [], _, _, hl, _ => by simp at hl
  | x :: u, y :: t, v, v', hl, h => by
    have h0 : Op.bytesLess (x :: (u ++ v)) (y :: (t ++ v')) = true := h
    rw [bl_cons] at h0
    rw [bl_cons]
    rcases h0 with h1 | ⟨rfl, h1⟩
    · exact .inl (.inl h1)
    · rcases bl_len u t v v' (by simpa using hl) h1 with k | ⟨rfl, k⟩
      · exact .inl (.inr ⟨rfl, k⟩)
      · exact .inr ⟨rfl, k⟩

/-! ### before all shifts, before all ends -/
def LySuf (w : List UInt8) : Prop := w ≠ [] ∧ ∀ u v, w = u ++ v → u ≠ [] → v ≠ [] → Op.bytesLess w v = true
def LyRot (w : List UInt8) : Prop := w ≠ [] ∧ ∀ u v, w = u ++ v → u ≠ [] → v ≠ [] → Op.bytesLess w (v ++ u) = true
theorem long_pre {u v : List UInt8} (hu : u ≠ []) : ¬ (u ++ v) <+: v := fun h => by
  have := h.length_le
  rw [List.length_append] at this
  have := List.length_pos_iff.2 hu
  omega
theorem ly_suf_rot {w : List UInt8} (h : LySuf w) : LyRot w := ⟨h.1, fun u v e hu hv => by
  have h1 := h.2 u v e hu hv
  have := bl_app w v h1 (by rw [e]; exact long_pre hu) [] u
  rwa [List.append_nil] at this⟩
theorem ly_rot_suf {w : List UInt8} (h : LyRot w) : LySuf w := ⟨h.1, fun u v e hu hv => by
  have h1 := h.2 u v e hu hv
  rcases bl_tri w v with k | k | k
  · exact k
  · exfalso
    have := congrArg List.length (e.symm.trans k)
    rw [List.length_append] at this
    have := List.length_pos_iff.2 hu
    omega
  · exfalso
    by_cases hp : v <+: w
    · obtain ⟨t, ht⟩ := hp
      have hlen : t.length = u.length := by
        have := congrArg List.length (ht.trans e)
        rw [List.length_append, List.length_append] at this
        omega
      have ht0 : t ≠ [] := fun hh => hu (by rw [hh] at hlen; exact List.eq_nil_of_length_eq_zero hlen.symm)
      have h2 := h.2 v t ht.symm hv ht0
      have h3 : Op.bytesLess t u = true := by
        rw [← ht] at h1
        exact (bl_pre v t u).1 h1
      rw [e] at h2
      rcases bl_len u t v v hlen.symm h2 with k2 | ⟨_, k2⟩
      · exact bl_asym h3 k2
      · rw [bl_self] at k2; cases k2
    · have := bl_app v w k hp u []
      rw [List.append_nil] at this
      exact bl_asym h1 this⟩
/-- two Lyndon words of which the first comes before the second make one -/
theorem ly_app {u v : List UInt8} (hu : LySuf u) (hv : LySuf v) (h : Op.bytesLess u v = true) : LySuf (u ++ v) := by
  have huv : Op.bytesLess (u ++ v) v = true := by
    by_cases hp : u <+: v
    · obtain ⟨t, ht⟩ := hp
      have ht0 : t ≠ [] := fun hh => by
        rw [hh, List.append_nil] at ht
        rw [ht, bl_self] at h
        cases h
      have h1 := hv.2 u t ht.symm hu.1 ht0
      have : Op.bytesLess (u ++ v) (u ++ t) = true := (bl_pre u v t).2 h1
      rwa [ht] at this
    · have := bl_app u v h hp v []
      rwa [List.append_nil] at this
  refine ⟨fun hh => hu.1 (List.append_eq_nil_iff.1 hh).1, fun x y e hx hy => ?_⟩
  rcases List.append_eq_append_iff.1 e with ⟨a, ha1, ha2⟩ | ⟨c, hc1, hc2⟩
  · by_cases ha : a = []
    · rw [ha, List.nil_append] at ha2
      rw [← ha2]
      exact huv
    · exact bl_trans _ _ _ huv (hv.2 a y ha2 ha hy)
  · by_cases hc : c = []
    · rw [hc, List.nil_append] at hc2
      rw [hc2]
      exact huv
    · rw [hc2]
      exact bl_app u c (hu.2 x c hc1 hx hc) (by rw [hc1]; exact long_pre hx) v v
theorem ly_one (a : UInt8) : LySuf [a] := ⟨by simp, fun u v e hu hv => by
  have := congrArg List.length e
  rw [List.length_append] at this
  have h1 := List.length_pos_iff.2 hu
  have h2 := List.length_pos_iff.2 hv
  simp only [List.length_cons, List.length_nil] at this
  omega⟩

/-! ### .. of the words themselves -/
theorem rot_list (s : ByteArray) (k : Nat) (_ : k ≤ s.size) : (rotS s k).data.toList = s.data.toList.drop k ++ s.data.toList.take k := by
  have hl : s.data.toList.length = s.size := by simp
  unfold rotS
  rw [ByteArray.data_append, Array.toList_append, ByteArray.data_extract, ByteArray.data_extract, Array.toList_extract, Array.toList_extract, List.extract_eq_take_drop, List.extract_eq_take_drop, List.drop_zero, Nat.sub_zero, List.take_of_length_le (by rw [List.length_drop, hl]; omega)]
theorem lyn_suf (s : ByteArray) : LynAt s ↔ LySuf s.data.toList := by
  have hl : s.data.toList.length = s.size := by simp
  unfold LynAt
  constructor
  · rintro ⟨h1, h2⟩
    refine ly_rot_suf ⟨fun hh => by rw [hh] at hl; simp at hl; omega, fun u v e hu hv => ?_⟩
    have hul := List.length_pos_iff.2 hu
    have hvl := List.length_pos_iff.2 hv
    have hle : u.length + v.length = s.size := by rw [← List.length_append, ← e, hl]
    have := h2 u.length (by omega) (by omega)
    unfold lessB at this
    rw [ByteArray.toList_eq, ByteArray.toList_eq, rot_list s _ (by omega), e, List.drop_left, List.take_left] at this
    rwa [e]
  · intro h
    have h0 := List.length_pos_iff.2 h.1
    refine ⟨by omega, fun k h1 h2 => ?_⟩
    have := (ly_suf_rot h).2 (s.data.toList.take k) (s.data.toList.drop k) (List.take_append_drop _ _).symm (fun hh => by
      have := congrArg List.length hh
      rw [List.length_take, hl, List.length_nil] at this
      omega) (fun hh => by
      have := congrArg List.length hh
      rw [List.length_drop, hl, List.length_nil] at this
      omega)
    unfold lessB
    rwa [ByteArray.toList_eq, ByteArray.toList_eq, rot_list s _ (by omega)]
theorem part_list (s : ByteArray) (i n : Nat) : (s.extract i (i + n)).data.toList = (s.data.toList.drop i).take n := by
  rw [ByteArray.data_extract, Array.toList_extract, List.extract_eq_take_drop, Nat.add_sub_cancel_left]

/-! ### the parts -/
theorem lyLen_spec (s : ByteArray) (i : Nat) : ∀ n, (1 ≤ lyLen s i n → LynAt (s.extract i (i + lyLen s i n))) ∧ ∀ m, lyLen s i n < m → m ≤ n → ¬ LynAt (s.extract i (i + m))
  | 0 => ⟨fun h => absurd h (by show ¬ 1 ≤ 0; omega), fun m h1 h2 => by have h1 : 0 < m := h1; omega⟩
  | n + 1 => by
    obtain ⟨a, b⟩ := lyLen_spec s i n
    cases h : lyB (s.extract i (i + (n + 1)))
    · have e : lyLen s i (n + 1) = lyLen s i n := if_neg (by rw [h]; decide)
      rw [e]
      refine ⟨a, fun m h1 h2 hm => ?_⟩
      by_cases hn : m = n + 1
      · subst hn
        rw [(lyB_iff _).2 hm] at h
        cases h
      · exact b m h1 (by omega) hm
    · have e : lyLen s i (n + 1) = n + 1 := if_pos h
      rw [e]
      exact ⟨fun _ => (lyB_iff _).1 h, fun m h1 h2 => by omega⟩
theorem lyLen_pos {s : ByteArray} {i : Nat} (h : i < s.size) : 1 ≤ lyLen s i (s.size - i) := by
  by_cases h0 : lyLen s i (s.size - i) = 0
  · exfalso
    refine (lyLen_spec s i (s.size - i)).2 1 (by omega) (by omega) ?_
    rw [lyn_suf, part_list]
    have hl : s.data.toList.length = s.size := by simp
    rw [List.drop_eq_getElem_cons (by rw [hl]; exact h), List.take_succ_cons, List.take_zero]
    exact ly_one _
  · omega
/-- the next part does not come behind -/
theorem ly_down {s : ByteArray} {i m : Nat} (h : i < s.size) (hm : 1 ≤ m) (hi : i + lyLen s i (s.size - i) + m ≤ s.size) (hl : LynAt (s.extract (i + lyLen s i (s.size - i)) (i + lyLen s i (s.size - i) + m))) : ¬ lessB (s.extract i (i + lyLen s i (s.size - i))) (s.extract (i + lyLen s i (s.size - i)) (i + lyLen s i (s.size - i) + m)) = true := by
  obtain ⟨a, b⟩ := lyLen_spec s i (s.size - i)
  have hp := lyLen_pos h
  have h1 := a hp
  generalize lyLen s i (s.size - i) = n at *
  intro hless
  refine b (n + m) (by omega) (by omega) ?_
  rw [lyn_suf, part_list] at h1 hl ⊢
  unfold lessB at hless
  rw [ByteArray.toList_eq, ByteArray.toList_eq, part_list, part_list] at hless
  have := ly_app h1 hl hless
  rw [← List.drop_drop] at this
  rwa [List.take_add]
end Go.Proofs.Ytgfhconcmoepcaa

/- TurnWord of the model: the letters in reverse order. Condition: a text of at most 2^20 bytes. -/
namespace Go.Proofs.Ytgfhconcmoepcaa
open Go.RowKit

def turnS (s : ByteArray) : ByteArray := ⟨s.data.toList.reverse.toArray⟩
theorem drop_prev (s : ByteArray) (k : Nat) (h : k < s.size) : s.data.toList.drop k = s[k] :: s.data.toList.drop (k + 1) := by
  rw [List.drop_eq_getElem_cons (by simpa using h)]
  rfl

/-- what TurnWord is to return -/
def turnR (s : ByteArray) : ByteArray := if wordB s = true then turnS s else ⟨#[]⟩
end Go.Proofs.Ytgfhconcmoepcaa

/- Palindromes: what chapter 9 is to return. No program in it. -/
namespace Go.Proofs.Ytgfhconcmoepcaa
open Go.RowKit

/-! ### palindromes -/
def PalS (s : ByteArray) : Prop := turnS s = s
noncomputable def palB (s : ByteArray) : Bool := @decide (PalS s) (Classical.propDecidable _)
theorem palB_iff (s : ByteArray) : palB s = true ↔ PalS s := by unfold palB; simp
theorem pal_list (s : ByteArray) : PalS s ↔ s.data.toList.reverse = s.data.toList := by
  unfold PalS turnS
  constructor
  · intro h
    have := congrArg (fun x : ByteArray => x.data.toList) h
    simpa using this
  · intro h
    apply bytes_ext
    rw [ByteArray.toList_eq, ByteArray.toList_eq, h]
theorem pal_empty : PalS ⟨#[]⟩ := (pal_list _).2 rfl
theorem pal_small {s : ByteArray} (h : s.size ≤ 1) : PalS s := by
  rw [pal_list]
  have hl : s.data.toList.length ≤ 1 := by simpa using h
  match e : s.data.toList, hl with
  | [], _ => rfl
  | [a], _ => rfl
theorem turn_size (s : ByteArray) : (turnS s).size = s.size := by
  show (s.data.toList.reverse.toArray).size = _
  simp
/-- what IsPalindrome is to return -/
noncomputable def ipR (s : ByteArray) : Bool := wordB s && palB s

/-! ### all palindromes -/
noncomputable def ppRow (s : ByteArray) (i : Nat) (l : List ByteArray) : Nat → List ByteArray
  | 0 => l
  | k + 1 => if palB (s.extract i (i + (k + 1))) = true then insL (ppRow s i l k) (s.extract i (i + (k + 1))) else ppRow s i l k
noncomputable def ppTo (s : ByteArray) : Nat → List ByteArray
  | 0 => [⟨#[]⟩]
  | i + 1 => ppRow s i (ppTo s i) (s.size - i)
noncomputable def ppL (s : ByteArray) : List ByteArray := ppTo s s.size
def ppOk (s : ByteArray) : Bool := wordB s && decide (s.size ≤ 60)
/-- what PalindromesIn is to return -/
noncomputable def ppR (s : ByteArray) : List ByteArray := if ppOk s = true then ppL s else []
theorem ppRow_yes {s : ByteArray} {i k : Nat} {l : List ByteArray} (h : palB (s.extract i (i + (k + 1))) = true) : ppRow s i l (k + 1) = insL (ppRow s i l k) (s.extract i (i + (k + 1))) := if_pos h
theorem ppRow_no {s : ByteArray} {i k : Nat} {l : List ByteArray} (h : palB (s.extract i (i + (k + 1))) = false) : ppRow s i l (k + 1) = ppRow s i l k := if_neg (by rw [h]; decide)
theorem ppRow_asc (s : ByteArray) (i : Nat) {l : List ByteArray} (h : Asc l) : ∀ k, Asc (ppRow s i l k)
  | 0 => h
  | k + 1 => by
    unfold ppRow
    split
    · exact insL_asc _ (ppRow_asc s i h k)
    · exact ppRow_asc s i h k
theorem ppTo_asc (s : ByteArray) : ∀ i, Asc (ppTo s i)
  | 0 => List.pairwise_singleton _ _
  | i + 1 => ppRow_asc s i (ppTo_asc s i) _
theorem ppRow_mem (s : ByteArray) (i : Nat) (l : List ByteArray) (x : ByteArray) : ∀ k, x ∈ ppRow s i l k ↔ x ∈ l ∨ ∃ n, 1 ≤ n ∧ n ≤ k ∧ PalS (s.extract i (i + n)) ∧ x = s.extract i (i + n)
  | 0 => by
    constructor
    · exact .inl
    · rintro (h | ⟨n, h1, h2, _⟩)
      · exact h
      · omega
  | k + 1 => by
    have ih := ppRow_mem s i l x k
    cases hb : palB (s.extract i (i + (k + 1)))
    · rw [ppRow_no hb, ih]
      constructor
      · rintro (e | ⟨n, h1, h2, h3⟩)
        · exact .inl e
        · exact .inr ⟨n, h1, by omega, h3⟩
      · rintro (e | ⟨n, h1, h2, h3, h4⟩)
        · exact .inl e
        · by_cases hk : n = k + 1
          · subst hk
            rw [(palB_iff _).2 h3] at hb
            cases hb
          · exact .inr ⟨n, h1, by omega, h3, h4⟩
    · rw [ppRow_yes hb, insL_mem, ih]
      constructor
      · rintro (e | e | ⟨n, h1, h2, h3⟩)
        · exact .inr ⟨k + 1, by omega, by omega, (palB_iff _).1 hb, e⟩
        · exact .inl e
        · exact .inr ⟨n, h1, by omega, h3⟩
      · rintro (e | ⟨n, h1, h2, h3, h4⟩)
        · exact .inr (.inl e)
        · by_cases hk : n = k + 1
          · subst hk; exact .inl h4
          · exact .inr (.inr ⟨n, h1, by omega, h3, h4⟩)
theorem ppTo_mem (s x : ByteArray) : ∀ i, i ≤ s.size → (x ∈ ppTo s i ↔ x = ⟨#[]⟩ ∨ ∃ j n, j < i ∧ 1 ≤ n ∧ j + n ≤ s.size ∧ PalS (s.extract j (j + n)) ∧ x = s.extract j (j + n))
  | 0, _ => by
    show x ∈ [(⟨#[]⟩ : ByteArray)] ↔ _
    rw [List.mem_singleton]
    constructor
    · exact .inl
    · rintro (h | ⟨j, n, h, _⟩)
      · exact h
      · omega
  | i + 1, hi => by
    show x ∈ ppRow _ _ _ _ ↔ _
    rw [ppRow_mem, ppTo_mem s x i (by omega)]
    constructor
    · rintro ((h | ⟨j, n, h1, h2⟩) | ⟨n, h1, h2, h3⟩)
      · exact .inl h
      · exact .inr ⟨j, n, by omega, h2⟩
      · exact .inr ⟨i, n, by omega, h1, by omega, h3⟩
    · rintro (h | ⟨j, n, h1, h2, h3, h4⟩)
      · exact .inl (.inl h)
      · by_cases hj : j = i
        · subst hj; exact .inr ⟨n, h2, by omega, h4⟩
        · exact .inl (.inr ⟨j, n, by omega, h2, h3, h4⟩)
theorem ppL_mem (s x : ByteArray) : x ∈ ppL s ↔ x = ⟨#[]⟩ ∨ ∃ j n, 1 ≤ n ∧ j + n ≤ s.size ∧ PalS (s.extract j (j + n)) ∧ x = s.extract j (j + n) := by
  unfold ppL
  rw [ppTo_mem s x s.size (Nat.le_refl _)]
  constructor
  · rintro (h | ⟨j, n, _, h⟩)
    · exact .inl h
    · exact .inr ⟨j, n, h⟩
  · rintro (h | ⟨j, n, h1, h2, h3⟩)
    · exact .inl h
    · exact .inr ⟨j, n, by omega, h1, h2, h3⟩
theorem insL_most : ∀ (l : List ByteArray) (x : ByteArray), (insL l x).length ≤ l.length + 1
  | [], x => by simp [insL]
  | a :: l, x => by
    have := insL_most l x
    unfold insL
    split
    · simp
    · split
      · simp only [List.length_cons]; omega
      · simp
theorem ppRow_len (s : ByteArray) (i : Nat) (l : List ByteArray) : ∀ k, (ppRow s i l k).length ≤ l.length + k
  | 0 => Nat.le_refl _
  | k + 1 => by
    have ih := ppRow_len s i l k
    unfold ppRow
    split
    · have := insL_most (ppRow s i l k) (s.extract i (i + (k + 1))); omega
    · omega
theorem ppTo_len (s : ByteArray) (hs : s.size ≤ 60) : ∀ i, (ppTo s i).length ≤ 1 + 60 * i
  | 0 => Nat.le_refl _
  | i + 1 => by
    have ih := ppTo_len s hs i
    have := ppRow_len s i (ppTo s i) (s.size - i)
    show (ppRow s i (ppTo s i) (s.size - i)).length ≤ _
    omega
theorem ppR_le (s : ByteArray) : (ppR s).length ≤ 3601 := by
  unfold ppR
  split
  · rename_i h
    unfold ppOk at h
    simp only [Bool.and_eq_true, decide_eq_true_eq] at h
    have := ppTo_len s h.2 s.size
    show (ppTo s s.size).length ≤ _
    omega
  · simp
/-- what DefectOf is to return -/
noncomputable def dfR (s : ByteArray) : Int := if ppOk s = true then (s.size : Int) + 1 - ((ppL s).length : Int) else -1
noncomputable def richR (s : ByteArray) : Bool := dfR s == 0

/-! ### the longest one -/
/-- a palindrome of size - d letters begins at i -/
def LpAt (s : ByteArray) (d i : Nat) : Prop := i ≤ d ∧ d ≤ s.size ∧ PalS (s.extract i (i + (s.size - d)))
noncomputable def lpD (s : ByteArray) : Nat := firstP (fun d => ∃ i, LpAt s d i) 0 s.size
noncomputable def lpI (s : ByteArray) : Nat := firstP (LpAt s (lpD s)) 0 s.size
/-- what LongestPalindrome is to return -/
noncomputable def lpR1 (s : ByteArray) : Int := if wordB s = true then (if s.size = 0 then 0 else (lpI s : Int)) else -1
noncomputable def lpR2 (s : ByteArray) : Int := if wordB s = true then ((s.size - lpD s : Nat) : Int) else -1
theorem lp_found {s : ByteArray} {d i : Nat} (h1 : LpAt s d i) (h2 : ∀ d', d' < d → ∀ i', ¬ LpAt s d' i') (h3 : ∀ i', i' < i → ¬ LpAt s d i') : lpD s = d ∧ lpI s = i := by
  have e1 : lpD s = d := firstP_eq _ _ _ (Nat.zero_le _) (by have := h1.2.1; omega) (fun r _ hr => fun ⟨i', hh⟩ => h2 r hr i' hh) ⟨i, h1⟩
  refine ⟨e1, ?_⟩
  unfold lpI
  rw [e1]
  exact firstP_eq _ _ _ (Nat.zero_le _) (by have := h1.1; have := h1.2.1; omega) (fun r _ hr => h3 r hr) h1

/-! ### closing -/
noncomputable def clK (s : ByteArray) : Nat := firstP (fun k => PalS (s.extract k s.size)) 0 s.size
noncomputable def clS (s : ByteArray) : ByteArray := s ++ turnS (s.extract 0 (clK s))
/-- what CloseWord is to return -/
noncomputable def clR (s : ByteArray) : ByteArray := if (wordB s && wordB (clS s)) = true then clS s else ⟨#[]⟩
theorem cl_end (s : ByteArray) : PalS (s.extract s.size s.size) := pal_small (by rw [ByteArray.size_extract]; omega)
theorem clK_eq {s : ByteArray} {k : Nat} (hk : k ≤ s.size) (h1 : PalS (s.extract k s.size)) (h2 : ∀ j, j < k → ¬ PalS (s.extract j s.size)) : clK s = k :=
  firstP_eq _ _ _ (Nat.zero_le _) (by omega) (fun r _ hr => h2 r hr) h1
theorem clK_le (s : ByteArray) : clK s ≤ s.size := by
  by_cases h : ∃ k, k ≤ s.size ∧ PalS (s.extract k s.size) ∧ ∀ j, j < k → ¬ PalS (s.extract j s.size)
  · obtain ⟨k, h1, h2, h3⟩ := h
    rw [clK_eq h1 h2 h3]
    exact h1
  · exfalso
    have : ∀ k, k ≤ s.size → ¬ PalS (s.extract k s.size) := by
      intro k
      induction k using Nat.strongRecOn with
      | ind k ih =>
        intro hk hp
        exact h ⟨k, hk, hp, fun j hj => ih j hj (by omega)⟩
    exact this s.size (Nat.le_refl _) (cl_end s)
theorem clS_size (s : ByteArray) : (clS s).size = s.size + clK s := by
  have h1 := clK_le s
  unfold clS
  rw [ByteArray.size_append, turn_size, ByteArray.size_extract]
  omega

/-! ### directed words -/
noncomputable def dwS (d : ByteArray) : Nat → ByteArray
  | 0 => ⟨#[]⟩
  | i + 1 => clS (dwS d i ++ d.extract i (i + 1))
noncomputable def dwB (d : ByteArray) : Nat → Bool
  | 0 => true
  | i + 1 => dwB d i && wordB (dwS d (i + 1))
noncomputable def dwOk (d : ByteArray) : Bool := wordB d && (decide (d.size ≤ 12) && dwB d d.size)
/-- what DirectedWord is to return -/
noncomputable def dwR (d : ByteArray) : ByteArray := if dwOk d = true then dwS d d.size else ⟨#[]⟩
theorem dwB_no {d : ByteArray} {i : Nat} (h : dwB d i = false) : ∀ k, i ≤ k → dwB d k = false
  | 0, hk => by
    have : i = 0 := by omega
    subst this
    exact h
  | k + 1, hk => by
    by_cases e : i = k + 1
    · subst e; exact h
    · show (dwB d k && _) = false
      rw [dwB_no h k (by omega), Bool.false_and]
/-- the direction and the word that are reached, behind at most n letters -/
noncomputable def drS (s : ByteArray) : Nat → ByteArray × ByteArray
  | 0 => (⟨#[]⟩, ⟨#[]⟩)
  | n + 1 =>
    let y := drS s n
    if y.2.size < s.size then (y.1 ++ s.extract y.2.size (y.2.size + 1), clS (y.2 ++ s.extract y.2.size (y.2.size + 1))) else y
noncomputable def drB (s : ByteArray) : Bool := @decide ((drS s 12).2 = s) (Classical.propDecidable _)
noncomputable def drOk (s : ByteArray) : Bool := wordB s && drB s
/-- what DirectionOf is to return -/
noncomputable def drR (s : ByteArray) : ByteArray := if drOk s = true then (drS s 12).1 else ⟨#[]⟩

/-! ### closed under turning -/
noncomputable def cuB (s : ByteArray) (n : Nat) : Bool := @decide (∀ f ∈ facTo s n (s.size + 1 - n), turnS f ∈ facTo s n (s.size + 1 - n)) (Classical.propDecidable _)
/-- what IsClosedUnderTurn is to return -/
noncomputable def cuR (s : ByteArray) (n : Int) : Bool := wordB s && ((decide (1 ≤ n) && decide (n ≤ 60)) && cuB s n.toNat)
end Go.Proofs.Ytgfhconcmoepcaa

/- Factors of a word: what chapter 7 is to return. No program in it. -/
namespace Go.Proofs.Ytgfhconcmoepcaa
open Go.RowKit

/-- the factors of n letters, ascending -/
def fctL (s : ByteArray) (n : Nat) : List ByteArray := facTo s n (s.size + 1 - n)
def fctOk (s : ByteArray) (n : Int) : Bool := wordB s && (decide (1 ≤ n) && decide (n ≤ 400))
def fctR (s : ByteArray) (n : Int) : List ByteArray := if fctOk s n = true then fctL s n.toNat else []
def cpxR (s : ByteArray) (n : Int) : Int := if fctOk s n = true then ((fctL s n.toNat).length : Int) else -1
def allTo (s : ByteArray) : Nat → Nat
  | 0 => 0
  | k + 1 => allTo s k + (fctL s (k + 1)).length
def allOk (s : ByteArray) : Bool := wordB s && decide (s.size ≤ 60)
def allR (s : ByteArray) : Int := if allOk s = true then (allTo s s.size : Int) else -1
/-- the factor and a letter behind it or ahead of it -/
def exL (f : ByteArray) (before : Bool) (k : Nat) : ByteArray := if before = true then ⟨#[letterN k]⟩ ++ f else f ++ ⟨#[letterN k]⟩
/-- the letters behind or ahead of a factor -/
noncomputable def nxtS (s f : ByteArray) (before : Bool) : ByteArray := ⟨(outTo (fun k => hasR s (exL f before k)) 4).toArray⟩
noncomputable def nxtR (s f : ByteArray) (before : Bool) : ByteArray := if (wordB s && wordB f) = true then nxtS s f before else ⟨#[]⟩
noncomputable def spcL (s : ByteArray) (n : Nat) (before : Bool) : List ByteArray := (fctL s n).filter fun f => decide (1 < (nxtS s f before).size)
noncomputable def spcR (s : ByteArray) (n : Int) (before : Bool) : List ByteArray := if fctOk s n = true then spcL s n.toNat before else []
/-- the index of a string in a list, or -1 -/
def atN (l : List ByteArray) (x : ByteArray) : Nat := l.findIdx fun y => x.toList == y.toList
def atR (l : List ByteArray) (x : ByteArray) : Int := if atN l x < l.length then (atN l x : Int) else -1
def edgeL (s : ByteArray) (n : Nat) : List (List Int) := (fctL s (n + 1)).map fun f => [atR (fctL s n) (f.extract 0 n), atR (fctL s n) (f.extract 1 f.size)]
def grfR (s : ByteArray) (n : Int) : List (List Int) := if fctOk s n = true then edgeL s n.toNat else []
end Go.Proofs.Ytgfhconcmoepcaa
