/- Texts put together. -/
import Derived.Test.YtgfhconcmoepcaaMgb15
import Derived.Test.YtgfhconcmoepcaaMgb5
/- The longest border of each beginning of a word, and the borders of a word read off them. No program in it. -/
namespace Go.Proofs.Ytgfhconcmoepcaa
open Go.RowKit

/-- b letters, fewer than m, at the beginning and at the end of the first m letters -/
def BrAt (c : Nat → Option UInt8) (m b : Nat) : Prop := b < m ∧ ∀ i, i < b → c i = c (m - b + i)
noncomputable def brTo (c : Nat → Option UInt8) (m : Nat) : Nat → Nat
  | 0 => 0
  | k + 1 => if @decide (BrAt c m (k + 1)) (Classical.propDecidable _) = true then k + 1 else brTo c m k
/-- the length of the longest border of the first m letters -/
noncomputable def brN (c : Nat → Option UInt8) (m : Nat) : Nat := brTo c m (m - 1)
theorem br_zero {c : Nat → Option UInt8} {m : Nat} (h : 1 ≤ m) : BrAt c m 0 := ⟨h, fun i hi => absurd hi (by omega)⟩
theorem brTo_ok {c : Nat → Option UInt8} {m : Nat} (h : 1 ≤ m) : ∀ k, BrAt c m (brTo c m k) ∧ brTo c m k ≤ k ∧ ∀ b, BrAt c m b → b ≤ k → b ≤ brTo c m k
  | 0 => ⟨br_zero h, Nat.le_refl _, fun b _ hb => hb⟩
  | k + 1 => by
    obtain ⟨i1, i2, i3⟩ := brTo_ok h k
    by_cases e : BrAt c m (k + 1)
    · have hv : brTo c m (k + 1) = k + 1 := if_pos (@decide_eq_true _ (Classical.propDecidable _) e)
      rw [hv]
      exact ⟨e, Nat.le_refl _, fun b _ hb => hb⟩
    · have hv : brTo c m (k + 1) = brTo c m k := if_neg (by rw [@decide_eq_false _ (Classical.propDecidable _) e]; decide)
      rw [hv]
      refine ⟨i1, by omega, fun b h1 h2 => ?_⟩
      by_cases e2 : b = k + 1
      · subst e2; exact absurd h1 e
      · exact i3 b h1 (by omega)
theorem brN_ok {c : Nat → Option UInt8} {m : Nat} (h : 1 ≤ m) : BrAt c m (brN c m) := (brTo_ok h (m - 1)).1
theorem brN_max {c : Nat → Option UInt8} {m b : Nat} (h : BrAt c m b) : b ≤ brN c m := (brTo_ok (by have := h.1; omega) (m - 1)).2.2 b h (by have := h.1; omega)
theorem brN_lt {c : Nat → Option UInt8} {m : Nat} (h : 1 ≤ m) : brN c m < m := (brN_ok h).1
theorem brN_le (c : Nat → Option UInt8) (m : Nat) : brN c m ≤ m := by
  by_cases h : 1 ≤ m
  · have := brN_lt (c := c) h; omega
  · have : m = 0 := by omega
    subst this
    exact Nat.le_refl _
theorem brN_eq {c : Nat → Option UInt8} {m b : Nat} (h : BrAt c m b) (h2 : ∀ d, BrAt c m d → d ≤ b) : brN c m = b :=
  Nat.le_antisymm (h2 _ (brN_ok (by have := h.1; omega))) (brN_max h)
/-- the borders of a border -/
theorem br_of {c : Nat → Option UInt8} {m b d : Nat} (h : BrAt c m b) (hd : d < b) : BrAt c m d ↔ BrAt c b d := by
  obtain ⟨h1, h2⟩ := h
  constructor
  · rintro ⟨a, k⟩
    refine ⟨hd, fun i hi => ?_⟩
    rw [k i hi, h2 (b - d + i) (by omega), show m - b + (b - d + i) = m - d + i by omega]
  · rintro ⟨a, k⟩
    refine ⟨by omega, fun i hi => ?_⟩
    rw [k i hi, h2 (b - d + i) (by omega), show m - b + (b - d + i) = m - d + i by omega]
theorem br_next {c : Nat → Option UInt8} {m b : Nat} : BrAt c (m + 1) (b + 1) ↔ BrAt c m b ∧ c b = c m := by
  constructor
  · rintro ⟨a, k⟩
    refine ⟨⟨by omega, fun i hi => ?_⟩, ?_⟩
    · rw [k i (by omega), show m + 1 - (b + 1) + i = m - b + i by omega]
    · rw [k b (by omega), show m + 1 - (b + 1) + b = m by omega]
  · rintro ⟨⟨a, k⟩, e⟩
    refine ⟨by omega, fun i hi => ?_⟩
    by_cases hb : i = b
    · subst hb
      rw [e, show m + 1 - (i + 1) + i = m by omega]
    · rw [k i (by omega), show m + 1 - (b + 1) + i = m - b + i by omega]
/-- behind b no longer border can be made wider -/
def Tops (c : Nat → Option UInt8) (m b : Nat) : Prop := ∀ d, BrAt c m d → b < d → c d ≠ c m
theorem tops_start (c : Nat → Option UInt8) (m : Nat) : Tops c m (brN c m) := fun d h1 h2 => absurd (brN_max h1) (by omega)
theorem br_hit {c : Nat → Option UInt8} {m b : Nat} (h : BrAt c m b) (ht : Tops c m b) (e : c b = c m) : brN c (m + 1) = b + 1 := by
  refine brN_eq (br_next.2 ⟨h, e⟩) (fun d hd => ?_)
  by_cases h0 : d = 0
  · omega
  · obtain ⟨d, rfl⟩ : ∃ q, d = q + 1 := ⟨d - 1, by omega⟩
    obtain ⟨a, k⟩ := br_next.1 hd
    by_cases hb : b < d
    · exact absurd k (ht d a hb)
    · omega
theorem br_none {c : Nat → Option UInt8} {m : Nat} (ht : Tops c m 0) (e : c 0 ≠ c m) : brN c (m + 1) = 0 := by
  refine brN_eq (br_zero (by omega)) (fun d hd => ?_)
  by_cases h0 : d = 0
  · omega
  · obtain ⟨d, rfl⟩ : ∃ q, d = q + 1 := ⟨d - 1, by omega⟩
    obtain ⟨a, k⟩ := br_next.1 hd
    by_cases hb : 0 < d
    · exact absurd k (ht d a hb)
    · have : d = 0 := by omega
      subst this
      exact absurd k e
theorem br_down {c : Nat → Option UInt8} {m b : Nat} (h : BrAt c m b) (ht : Tops c m b) (hb : 1 ≤ b) (e : c b ≠ c m) : BrAt c m (brN c b) ∧ Tops c m (brN c b) := by
  refine ⟨(br_of h (brN_lt hb)).2 (brN_ok hb), fun d h1 h2 => ?_⟩
  by_cases h3 : b < d
  · exact ht d h1 h3
  · by_cases h4 : d = b
    · subst h4; exact e
    · exact absurd (brN_max ((br_of h (by omega)).1 h1)) (by omega)
theorem brN_zero (c : Nat → Option UInt8) : brN c 0 = 0 := rfl
theorem brN_one (c : Nat → Option UInt8) : brN c 1 = 0 := by have := brN_lt (c := c) (Nat.le_refl 1); omega

/-! ### what is known -/
noncomputable def knL (c : Nat → Option UInt8) (n : Nat) : List Int := (List.range n).map fun i => ((brN c i : Nat) : Int)
theorem knL_len (c : Nat → Option UInt8) (n : Nat) : (knL c n).length = n := by simp [knL]
theorem knL_next (c : Nat → Option UInt8) (n : Nat) : knL c (n + 1) = knL c n ++ [((brN c n : Nat) : Int)] := by
  unfold knL
  rw [List.range_succ, List.map_append]
  rfl
theorem knL_two (c : Nat → Option UInt8) : knL c 2 = [0, 0] := by
  rw [knL_next, knL_next, brN_zero, brN_one]
  rfl
theorem knL_at {c : Nat → Option UInt8} {n k : Nat} (h : k < n) : (knL c n)[k]? = some ((brN c k : Nat) : Int) := by
  unfold knL
  rw [List.getElem?_map, List.getElem?_range h]
  rfl

/-! ### the borders of a word -/
def ltO (s : ByteArray) : Nat → Option UInt8 := fun i => s.data.toList[i]?
theorem bor_br {s : ByteArray} {n : Nat} (h : n < s.size) : BorAt s n ↔ BrAt (ltO s) s.size n := by
  rw [bor_per (by omega)]
  constructor
  · intro k
    refine ⟨h, fun i hi => ?_⟩
    have := k i (by omega)
    rwa [Nat.add_comm] at this
  · rintro ⟨_, k⟩ i hi
    have := k i (by omega)
    rwa [Nat.add_comm] at this
theorem boTo_skip {s : ByteArray} {n : Nat} : ∀ k, n ≤ k → (∀ b, n < b → b ≤ k → ¬ BorAt s b) → boTo s k = boTo s n
  | 0, h, _ => by rw [show n = 0 by omega]
  | k + 1, h, h2 => by
    by_cases e : n = k + 1
    · rw [e]
    · have hb : borB s (k + 1) = false := by
        cases hx : borB s (k + 1)
        · rfl
        · exact absurd ((borB_iff _ _).1 hx) (h2 (k + 1) (by omega) (Nat.le_refl _))
      rw [boTo_no hb]
      exact boTo_skip k (by omega) (fun b a d => h2 b a (by omega))
/-- the longest border of the word is the last one -/
theorem bor_first {s : ByteArray} (h : 1 ≤ s.size) : boTo s (s.size - 1) = boTo s (brN (ltO s) s.size) := by
  have hl := brN_lt (c := ltO s) h
  refine boTo_skip _ (by omega) (fun b h1 h2 h3 => ?_)
  exact absurd (brN_max ((bor_br (by omega)).1 h3)) (by omega)
/-- a border: what is before it -/
theorem bor_back {s : ByteArray} {n : Nat} (hn : 1 ≤ n) (h : BrAt (ltO s) s.size n) : boTo s n = boTo s (brN (ltO s) n) ++ [(n : Int)] := by
  have hl := brN_lt (c := ltO s) hn
  obtain ⟨k, rfl⟩ : ∃ k, n = k + 1 := ⟨n - 1, by omega⟩
  have hb : borB s (k + 1) = true := (borB_iff _ _).2 ((bor_br h.1).2 h)
  rw [boTo_yes hb]
  congr 1
  refine boTo_skip _ (by omega) (fun b h1 h2 h3 => ?_)
  have := h.1
  exact absurd (brN_max ((br_of h (by omega)).1 ((bor_br (by omega)).1 h3))) (by omega)
/-- what is found so far, the greatest ones first, and the rest -/
def DescTo (s : ByteArray) (n : Nat) (L : List Int) : Prop := L ++ (boTo s n).reverse = (boTo s (s.size - 1)).reverse
theorem desc_start {s : ByteArray} (h : 1 ≤ s.size) : DescTo s (brN (ltO s) s.size) [] := by
  unfold DescTo
  rw [bor_first h, List.nil_append]
theorem desc_next {s : ByteArray} {n : Nat} {L : List Int} (hn : 1 ≤ n) (h : BrAt (ltO s) s.size n) (hd : DescTo s n L) : DescTo s (brN (ltO s) n) (L ++ [(n : Int)]) := by
  unfold DescTo at hd ⊢
  rw [← hd, bor_back hn h, List.reverse_append, List.append_assoc]
  rfl
theorem desc_end {s : ByteArray} {L : List Int} (hd : DescTo s 0 L) : L = (boTo s (s.size - 1)).reverse := by
  unfold DescTo at hd
  rw [← hd]
  show L = L ++ []
  rw [List.append_nil]
end Go.Proofs.Ytgfhconcmoepcaa
