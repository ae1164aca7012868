/- Texts put together. -/
import Derived.Test.YtjmijedfmiplfaaMgA15
import Derived.Test.YtjmijedfmiplfaaMgA14
import Derived.Test.YtjmijedfmiplfaaMgA9
import Derived.Test.YtjmijedfmiplfaaMgA3
import Derived.Test.YtjmijedfmiplfaaMgA10
import Derived.Laws.Cover1
import Derived.Handy
import Derived.BigQuiet
/- The mathematics of FnPowers: squares, cubes, overlaps, periods and exponents say the same. No program in it. -/
namespace Go.Proofs.Ytjmijedfmiplfaa
open Go.RowKit

theorem pz_list (s : ByteArray) (i n j : Nat) (h : j < n) : (s.extract i (i + n)).data.toList[j]? = s.data.toList[i + j]? := by
  rw [ByteArray.data_extract, Array.toList_extract, List.extract_eq_take_drop, Nat.add_sub_cancel_left, List.getElem?_take, if_pos h, List.getElem?_drop]
theorem pz_size (s : ByteArray) (i n : Nat) (h : i + n ≤ s.size) : (s.extract i (i + n)).size = n := by rw [ByteArray.size_extract]; omega
theorem pz_ext {s : ByteArray} {i k h : Nat} (h1 : i + h ≤ s.size) (h2 : k + h ≤ s.size) : s.extract i (i + h) = s.extract k (k + h) ↔ ∀ j, j < h → s.data.toList[i + j]? = s.data.toList[k + j]? := by
  constructor
  · intro e j hj
    rw [← pz_list s i h j hj, ← pz_list s k h j hj, e]
  · intro e
    apply bytes_ext
    rw [ByteArray.toList_eq, ByteArray.toList_eq]
    apply List.ext_getElem?
    intro j
    by_cases hj : j < h
    · rw [pz_list s i h j hj, pz_list s k h j hj, e j hj]
    · have a := pz_size s i h h1
      have b := pz_size s k h h2
      rw [List.getElem?_eq_none (by simp only [Array.length_toList]; show (s.extract i (i + h)).size ≤ j; omega), List.getElem?_eq_none (by simp only [Array.length_toList]; show (s.extract k (k + h)).size ≤ j; omega)]
theorem pz_sq (s : ByteArray) (i h : Nat) : PwAt s i h ↔ 1 ≤ h ∧ RunAt s h h i := by
  unfold PwAt RunAt
  constructor
  · rintro ⟨a, b, c⟩
    refine ⟨a, by omega, ?_⟩
    rw [show i + 2 * h = i + h + h by omega] at c
    exact (pz_ext (by omega) (by omega)).1 c
  · rintro ⟨a, b, c⟩
    refine ⟨a, by omega, ?_⟩
    rw [show i + 2 * h = i + h + h by omega]
    exact (pz_ext (by omega) (by omega)).2 c
theorem pz_rep1 (s : ByteArray) : repB s 1 0 = true ↔ ∃ i h, PwAt s i h := by
  rw [repB_iff]
  constructor
  · rintro ⟨p, h1, i, h2⟩
    rw [Nat.one_mul, Nat.add_zero] at h2
    exact ⟨i, p, (pz_sq s i p).2 ⟨h1, h2⟩⟩
  · rintro ⟨i, h, hh⟩
    obtain ⟨a, b⟩ := (pz_sq s i h).1 hh
    exact ⟨h, a, i, by rw [Nat.one_mul, Nat.add_zero]; exact b⟩
theorem pz_less {s : ByteArray} {m m' p i : Nat} (h : RunAt s m p i) (hm : m' ≤ m) : RunAt s m' p i := ⟨by have := h.1; omega, fun j hj => h.2 j (by omega)⟩
theorem pz_sq_over {s : ByteArray} (h : repB s 1 1 = true) : repB s 1 0 = true := by
  obtain ⟨p, h1, i, h2⟩ := (repB_iff s 1 1).1 h
  exact (repB_iff s 1 0).2 ⟨p, h1, i, pz_less h2 (by omega)⟩
theorem pz_over_cube {s : ByteArray} (h : repB s 2 0 = true) : repB s 1 1 = true := by
  obtain ⟨p, h1, i, h2⟩ := (repB_iff s 2 0).1 h
  exact (repB_iff s 1 1).2 ⟨p, h1, i, pz_less h2 (by omega)⟩
theorem pz_end (s : ByteArray) (e h : Nat) : SqEnd s e h ↔ 2 * h ≤ e ∧ e ≤ s.size ∧ PwAt s (e - 2 * h) h := by
  unfold SqEnd PwAt
  constructor
  · rintro ⟨a, b, c, d⟩
    refine ⟨b, c, a, by omega, ?_⟩
    rw [show e - 2 * h + h = e - h by omega, show e - 2 * h + 2 * h = e by omega]
    exact d
  · rintro ⟨b, c, a, _, d⟩
    rw [show e - 2 * h + h = e - h by omega, show e - 2 * h + 2 * h = e by omega] at d
    exact ⟨a, b, c, d⟩
theorem pz_ends_sq (s : ByteArray) : (∃ e h, SqEnd s e h) ↔ ∃ i h, PwAt s i h := by
  constructor
  · rintro ⟨e, h, hh⟩
    exact ⟨_, h, ((pz_end s e h).1 hh).2.2⟩
  · rintro ⟨i, h, hh⟩
    exact ⟨i + 2 * h, h, (pz_end s _ h).2 ⟨by omega, hh.2.1, by rw [Nat.add_sub_cancel]; exact hh⟩⟩

/-! ### periods -/
theorem firstP_spec {P : Nat → Prop} : ∀ k p, (∃ q, p ≤ q ∧ q ≤ p + k ∧ P q) → P (firstP P p k) ∧ ∀ q, p ≤ q → P q → firstP P p k ≤ q
  | 0, p, ⟨q, h1, h2, h3⟩ => by
    have e : q = p := by omega
    subst e
    exact ⟨h3, fun r hr _ => hr⟩
  | k + 1, p, ⟨q, h1, h2, h3⟩ => by
    by_cases hp : P p
    · have e : firstP P p (k + 1) = p := if_pos (@decide_eq_true _ (Classical.propDecidable _) hp)
      rw [e]
      exact ⟨hp, fun r hr _ => hr⟩
    · have e : firstP P p (k + 1) = firstP P (p + 1) k := if_neg (by rw [@decide_eq_false _ (Classical.propDecidable _) hp]; decide)
      rw [e]
      have hqp : q ≠ p := fun e => hp (e ▸ h3)
      obtain ⟨a, b⟩ := firstP_spec k (p + 1) ⟨q, by omega, by omega, h3⟩
      refine ⟨a, fun r hr hP => b r ?_ hP⟩
      have : r ≠ p := fun e => hp (e ▸ hP)
      omega
theorem pz_per {s : ByteArray} (h : 1 ≤ s.size) : PerAt s (perN s) ∧ ∀ q, 1 ≤ q → PerAt s q → perN s ≤ q :=
  firstP_spec s.size 1 ⟨s.size, h, by omega, per_size s⟩
theorem pz_run (s : ByteArray) (m p i : Nat) (h : i + (p + m) ≤ s.size) : RunAt s m p i ↔ PerAt (s.extract i (i + (p + m))) p := by
  have hz := pz_size s i (p + m) h
  unfold RunAt PerAt
  rw [hz]
  constructor
  · rintro ⟨_, b⟩ j hj
    rw [pz_list s i (p + m) j (by omega), pz_list s i (p + m) (j + p) (by omega), b j (by omega)]
    congr 1
    omega
  · intro b
    refine ⟨by omega, fun j hj => ?_⟩
    have := b j (by omega)
    rw [pz_list s i (p + m) j (by omega), pz_list s i (p + m) (j + p) (by omega)] at this
    rw [this]
    congr 1
    omega

/-! ### the greatest exponent -/
def GexGot (s : ByteArray) (x : Nat × Nat) : Prop := 1 ≤ x.1 ∧ 1 ≤ x.2 ∧ ∃ i, i + x.1 ≤ s.size ∧ x.2 = perN (s.extract i (i + x.1))
def GexTop (s : ByteArray) (x : Nat × Nat) (m i : Nat) : Prop := m * x.2 ≤ x.1 * perN (s.extract i (i + m))
theorem gex_more {s : ByteArray} {x : Nat × Nat} {n p m i : Nat} (h1 : 1 ≤ x.2) (h : GexTop s x m i) (hl : x.1 * p < n * x.2) : GexTop s (n, p) m i := by
  unfold GexTop at h ⊢
  show m * p ≤ n * perN (s.extract i (i + m))
  generalize perN (s.extract i (i + m)) = q at h
  obtain ⟨a, b⟩ := x
  simp only at h h1 hl
  refine Nat.le_of_mul_le_mul_right ?_ (show 0 < b by omega)
  have e1 : m * p * b = m * b * p := Nat.mul_right_comm m p b
  have e2 : n * q * b = n * b * q := Nat.mul_right_comm n q b
  rw [e1, e2]
  have e3 : m * b * p ≤ a * q * p := Nat.mul_le_mul_right p h
  have e4 : a * q * p = a * p * q := Nat.mul_right_comm a q p
  have e5 : a * p * q ≤ n * b * q := Nat.mul_le_mul_right q (Nat.le_of_lt hl)
  omega
theorem gexRow_spec {s : ByteArray} {n : Nat} (hn : 1 ≤ n) {y : Nat × Nat} (hy : GexGot s y) (ht : ∀ m i, 1 ≤ m → m < n → i + m ≤ s.size → GexTop s y m i) : ∀ k, k + n ≤ s.size + 1 → GexGot s (gexRow s n y k) ∧ (∀ m i, 1 ≤ m → m < n → i + m ≤ s.size → GexTop s (gexRow s n y k) m i) ∧ ∀ i, i < k → GexTop s (gexRow s n y k) n i
  | 0, _ => ⟨hy, ht, fun i h => absurd h (by omega)⟩
  | k + 1, hk => by
    obtain ⟨a, b, c⟩ := gexRow_spec hn hy ht k (by omega)
    by_cases hc : (gexRow s n y k).1 * perN (s.extract k (k + n)) < n * (gexRow s n y k).2
    · rw [gexRow_yes hc]
      refine ⟨⟨hn, (perN_le _).1, k, by show k + n ≤ s.size; omega, rfl⟩, fun m i h1 h2 h3 => gex_more a.2.1 (b m i h1 h2 h3) hc, fun i hi => ?_⟩
      by_cases e : i = k
      · subst e; exact Nat.le_refl _
      · exact gex_more a.2.1 (c i (by omega)) hc
    · rw [gexRow_no hc]
      refine ⟨a, b, fun i hi => ?_⟩
      by_cases e : i = k
      · subst e; show _ * _ ≤ _ * _; omega
      · exact c i (by omega)
theorem pz_one {s : ByteArray} {i : Nat} (h : i + 1 ≤ s.size) : perN (s.extract i (i + 1)) = 1 := by
  have hz := pz_size s i 1 h
  have h1 := (pz_per (s := s.extract i (i + 1)) (by omega)).2 1 (Nat.le_refl _) (fun j hj => absurd hj (by omega))
  have h2 := (perN_le (s.extract i (i + 1))).1
  omega
theorem gexTo_spec {s : ByteArray} (h0 : 1 ≤ s.size) : ∀ n, n + 1 ≤ s.size → GexGot s (gexTo s n) ∧ ∀ m i, 1 ≤ m → m < n + 2 → i + m ≤ s.size → GexTop s (gexTo s n) m i
  | 0, _ => by
    refine ⟨⟨Nat.le_refl _, Nat.le_refl _, 0, by show 0 + 1 ≤ s.size; omega, (pz_one (by omega)).symm⟩, fun m i h1 h2 h3 => ?_⟩
    have e : m = 1 := by omega
    subst e
    show 1 * 1 ≤ 1 * perN (s.extract i (i + 1))
    rw [pz_one h3]
    exact Nat.le_refl _
  | n + 1, hn => by
    obtain ⟨a, b⟩ := gexTo_spec h0 n (by omega)
    obtain ⟨c, d, e⟩ := gexRow_spec (n := n + 2) (by omega) a b (s.size + 1 - (n + 2)) (by omega)
    refine ⟨c, fun m i h1 h2 h3 => ?_⟩
    by_cases hm : m = n + 2
    · subst hm
      exact e i (by omega)
    · exact d m i h1 (by omega) h3
/-- a repetition of n * p + e letters is there exactly if the greatest exponent says so -/
theorem pz_gex {s : ByteArray} (h0 : 1 ≤ s.size) (n e : Nat) (hne : 1 ≤ n) (he : e ≤ 1) : repB s n e = true ↔ (n + 1) * (gexTo s (s.size - 1)).2 + e ≤ (gexTo s (s.size - 1)).1 := by
  obtain ⟨⟨a1, a2, i0, a3, a4⟩, b⟩ := gexTo_spec h0 (s.size - 1) (by omega)
  generalize gexTo s (s.size - 1) = x at a1 a2 a3 a4 b ⊢
  obtain ⟨a, q⟩ := x
  simp only at a1 a2 a3 a4 b ⊢
  rw [repB_iff]
  constructor
  · rintro ⟨p, hp, i, hr⟩
    have hsz := hr.1
    have hpos : 1 ≤ n * p + e := by have := Nat.mul_le_mul hne hp; omega
    have hper := (pz_run s (n * p + e) p i (by omega)).1 hr
    have hz := pz_size s i (p + (n * p + e)) (by omega)
    have hle := (pz_per (s := s.extract i (i + (p + (n * p + e)))) (by omega)).2 p hp hper
    have ht := b (p + (n * p + e)) i (by omega) (by omega) (by omega)
    unfold GexTop at ht
    simp only at ht
    have ht2 : (p + (n * p + e)) * q ≤ a * p := Nat.le_trans ht (Nat.mul_le_mul_left a hle)
    have e1 : (p + (n * p + e)) * q = ((n + 1) * q) * p + e * q := by grind
    rw [e1] at ht2
    rcases (show e = 0 ∨ e = 1 by omega) with rfl | rfl
    · rw [Nat.zero_mul, Nat.add_zero] at ht2
      have := Nat.le_of_mul_le_mul_right ht2 hp
      omega
    · by_cases hh : (n + 1) * q + 1 ≤ a
      · exact hh
      · have h3 : a * p ≤ ((n + 1) * q) * p := Nat.mul_le_mul_right p (by omega)
        omega
  · intro h
    refine ⟨q, a2, i0, ?_⟩
    have hq := (pz_per (s := s.extract i0 (i0 + a)) (by rw [pz_size s i0 a a3]; exact a1)).1
    rw [← a4] at hq
    have hqa : q ≤ a := by have : q ≤ (n + 1) * q := Nat.le_mul_of_pos_left q (by omega); omega
    have hr := (pz_run s (a - q) q i0 (by omega)).2 (by rw [show q + (a - q) = a by omega]; exact hq)
    refine pz_less hr ?_
    have e1 : (n + 1) * q = n * q + q := Nat.succ_mul n q
    omega
end Go.Proofs.Ytjmijedfmiplfaa

/- The mathematics of FnPeriods, first part: borders, periods, roots. No program in it. -/
namespace Go.Proofs.Ytjmijedfmiplfaa
open Go.RowKit

/-! ### a border is the rest of a period -/
theorem bor_per {s : ByteArray} {n : Nat} (h : n ≤ s.size) : BorAt s n ↔ PerAt s (s.size - n) := by
  rw [← per_cut (Nat.sub_le _ _)]
  unfold BorAt
  rw [Nat.sub_sub_self h]
/-- the numbers from 1 to k -/
def oneTo (k : Nat) : List Nat := (List.range k).map (· + 1)
theorem oneTo_succ (k : Nat) : oneTo (k + 1) = oneTo k ++ [k + 1] := by
  unfold oneTo
  rw [List.range_succ, List.map_append]
  rfl
theorem boTo_filter (s : ByteArray) : ∀ k, boTo s k = ((oneTo k).filter (borB s)).map fun n : Nat => (n : Int)
  | 0 => rfl
  | k + 1 => by
    have ih := boTo_filter s k
    rw [oneTo_succ, List.filter_append, List.map_append]
    cases h : borB s (k + 1)
    · rw [boTo_no h, ih, List.filter_cons_of_neg (by rw [h]; decide)]
      simp
    · rw [boTo_yes h, ih, List.filter_cons_of_pos h]
      rfl
theorem peTo_filter (s : ByteArray) : ∀ k, peTo s k = ((oneTo k).filter (perB s)).map fun n : Nat => (n : Int)
  | 0 => rfl
  | k + 1 => by
    have ih := peTo_filter s k
    rw [oneTo_succ, List.filter_append, List.map_append]
    cases h : perB s (k + 1)
    · rw [peTo_no h, ih, List.filter_cons_of_neg (by rw [h]; decide)]
      simp
    · rw [peTo_yes h, ih, List.filter_cons_of_pos h]
      rfl
theorem oneTo_len (k : Nat) : (oneTo k).length = k := by unfold oneTo; rw [List.length_map, List.length_range]
theorem oneTo_at (k i : Nat) (h : i < k) : (oneTo k)[i]'(by rw [oneTo_len]; exact h) = i + 1 := by
  unfold oneTo
  rw [List.getElem_map, List.getElem_range]
theorem oneTo_mem {k x : Nat} : x ∈ oneTo k ↔ 1 ≤ x ∧ x ≤ k := by
  unfold oneTo
  rw [List.mem_map]
  constructor
  · rintro ⟨a, ha, rfl⟩
    rw [List.mem_range] at ha
    omega
  · rintro ⟨h1, h2⟩
    exact ⟨x - 1, List.mem_range.2 (by omega), by omega⟩
theorem oneTo_back (n : Nat) : (oneTo (n - 1)).reverse.map (fun x => n - x) = oneTo (n - 1) := by
  apply List.ext_getElem
  · rw [List.length_map, List.length_reverse]
  · intro i h1 h2
    rw [List.length_map, List.length_reverse, oneTo_len] at h1
    rw [List.getElem_map, List.getElem_reverse, oneTo_at _ _ (by rw [oneTo_len]; omega), oneTo_at _ _ (by omega), oneTo_len]
    omega
/-- the periods that are less than the length are what the borders leave, the last one first -/
theorem per_bor (s : ByteArray) : peTo s (s.size - 1) = ((boTo s (s.size - 1)).reverse.map fun x => (s.size : Int) - x) := by
  rw [peTo_filter, boTo_filter, ← List.map_reverse, List.map_map]
  have h1 : ((oneTo (s.size - 1)).filter (borB s)).reverse = ((oneTo (s.size - 1)).reverse.filter (borB s)) := List.filter_reverse.symm
  rw [h1]
  conv => lhs; rw [← oneTo_back s.size]
  rw [List.filter_map, List.map_map]
  have h2 : (oneTo (s.size - 1)).reverse.filter (perB s ∘ fun x => s.size - x) = (oneTo (s.size - 1)).reverse.filter (borB s) := by
    refine List.filter_congr fun x hx => ?_
    rw [List.mem_reverse, oneTo_mem] at hx
    show perB s (s.size - x) = borB s x
    rw [Bool.eq_iff_iff, perB_iff, borB_iff, bor_per (by omega)]
  rw [h2]
  refine List.map_congr_left fun x hx => ?_
  have hx := (List.mem_filter.1 hx).1
  rw [List.mem_reverse, oneTo_mem] at hx
  show ((s.size - x : Nat) : Int) = (s.size : Int) - (x : Int)
  omega
theorem per_last {s : ByteArray} (h : 1 ≤ s.size) : peTo s s.size = peTo s (s.size - 1) ++ [(s.size : Int)] := by
  obtain ⟨k, hk⟩ : ∃ k, s.size = k + 1 := ⟨s.size - 1, by omega⟩
  have hp : perB s (k + 1) = true := (perB_iff _ _).2 (by rw [← hk]; exact per_size s)
  rw [hk, Nat.add_sub_cancel, peTo_yes hp]
/-- ascending -/
theorem peTo_asc (s : ByteArray) (k : Nat) : (peTo s k).Pairwise (· < ·) := by
  rw [peTo_filter]
  refine List.pairwise_map.2 ?_
  have h0 : (oneTo k).Pairwise (· < ·) := List.pairwise_map.2 (List.pairwise_lt_range.imp fun {a b} h => by omega)
  exact (h0.filter _).imp fun {a b} h => by omega
theorem peTo_mem {s : ByteArray} {k : Nat} {x : Int} : x ∈ peTo s k ↔ ∃ p : Nat, x = p ∧ 1 ≤ p ∧ p ≤ k ∧ PerAt s p := by
  rw [peTo_filter, List.mem_map]
  constructor
  · rintro ⟨p, hp, rfl⟩
    obtain ⟨a, b⟩ := List.mem_filter.1 hp
    rw [oneTo_mem] at a
    exact ⟨p, rfl, a.1, a.2, (perB_iff _ _).1 b⟩
  · rintro ⟨p, rfl, h1, h2, h3⟩
    exact ⟨p, List.mem_filter.2 ⟨oneTo_mem.2 ⟨h1, h2⟩, (perB_iff _ _).2 h3⟩, rfl⟩

/-! ### the root -/
theorem per_mod {s : ByteArray} {p : Nat} (h : PerAt s p) : ∀ i, i < s.size → s.data.toList[i]? = s.data.toList[i % p]? := fun i hi => by
  have hd := Nat.div_add_mod i p
  have := pd_mul (f := fun i => s.data.toList[i]?) (n := s.size) ((per_pd s p).1 h) (i / p) (i % p) (by rw [Nat.mul_comm]; omega)
  rw [show i % p + i / p * p = i by rw [Nat.mul_comm]; omega] at this
  exact this.symm
theorem rt_spec {s : ByteArray} (h : 1 ≤ s.size) : RootAt s (rtN s) ∧ 1 ≤ rtN s ∧ rtN s ≤ s.size ∧ ∀ p, 1 ≤ p → RootAt s p → rtN s ≤ p := by
  have h0 : RootAt s s.size := ⟨Nat.mod_self _, per_size s⟩
  obtain ⟨a, b⟩ := firstP_spec (P := RootAt s) (s.size - 1) 1 ⟨s.size, h, by omega, h0⟩
  have hl := firstP_le (P := RootAt s) (s.size - 1) 1
  exact ⟨a, hl.1, by have := hl.2; show firstP _ _ _ ≤ _; omega, fun p h1 h2 => b p h1 h2⟩
/-- the root is its own root -/
theorem rt_root {s : ByteArray} (h : 1 ≤ s.size) : rtN (s.extract 0 (rtN s)) = rtN s := by
  obtain ⟨⟨a1, a2⟩, b, c, d⟩ := rt_spec h
  have hz : (s.extract 0 (rtN s)).size = rtN s := by rw [ByteArray.size_extract]; omega
  obtain ⟨⟨e1, e2⟩, f, g, _⟩ := rt_spec (s := s.extract 0 (rtN s)) (by omega)
  rw [hz] at e1 g
  have hget : ∀ i, i < rtN s → (s.extract 0 (rtN s)).data.toList[i]? = s.data.toList[i]? := fun i hi => by
    have := pz_list s 0 (rtN s) i hi
    rwa [Nat.zero_add, Nat.zero_add] at this
  generalize rtN (s.extract 0 (rtN s)) = r at *
  have hrp : r ∣ rtN s := Nat.dvd_of_mod_eq_zero e1
  have hps : rtN s ∣ s.size := Nat.dvd_of_mod_eq_zero a1
  have hall : ∀ i, i < s.size → s.data.toList[i]? = s.data.toList[i % r]? := fun i hi => by
    have hm : i % rtN s < rtN s := Nat.mod_lt _ (by omega)
    have h1 := per_mod a2 i hi
    have h2 := per_mod e2 (i % rtN s) (by omega)
    have hr : i % r < rtN s := Nat.lt_of_lt_of_le (Nat.mod_lt _ (by omega)) g
    rw [hget _ hm, hget _ (by rw [Nat.mod_mod_of_dvd _ hrp]; exact hr), Nat.mod_mod_of_dvd _ hrp] at h2
    rw [h1, h2]
  have hper : PerAt s r := fun i hi => by
    rw [hall i (by omega), hall (i + r) hi, Nat.add_mod_right]
  have := d r f ⟨Nat.mod_eq_zero_of_dvd (Nat.dvd_trans hrp hps), hper⟩
  omega
/-- r written t times -/
def timesB (r : ByteArray) : Nat → ByteArray
  | 0 => ⟨#[]⟩
  | t + 1 => timesB r t ++ r
theorem rt_times {s : ByteArray} (h : 1 ≤ s.size) : ∀ t, t * rtN s ≤ s.size → timesB (s.extract 0 (rtN s)) t = s.extract 0 (t * rtN s)
  | 0, _ => by
    apply bytes_ext
    rw [ByteArray.toList_eq, ByteArray.toList_eq, Nat.zero_mul, ByteArray.data_extract, Array.toList_extract, List.extract_eq_take_drop]
    simp [timesB]
  | t + 1, ht => by
    rw [Nat.succ_mul] at ht ⊢
    obtain ⟨⟨a1, a2⟩, b, c, _⟩ := rt_spec h
    show timesB (s.extract 0 (rtN s)) t ++ s.extract 0 (rtN s) = _
    rw [rt_times h t (by omega)]
    have he : s.extract 0 (rtN s) = s.extract (t * rtN s) (t * rtN s + rtN s) := by
      have := (pz_ext (s := s) (i := 0) (k := t * rtN s) (h := rtN s) (by omega) ht).2 (fun j hj => by
        have h1 := per_mod a2 (t * rtN s + j) (by omega)
        rw [Nat.add_comm (t * rtN s) j, Nat.add_mul_mod_self_right, Nat.mod_eq_of_lt hj, Nat.add_comm j] at h1
        rw [Nat.zero_add]
        exact h1.symm)
      rwa [Nat.zero_add] at this
    generalize rtN s = p at *
    rw [he]
    apply bytes_ext
    rw [ByteArray.toList_eq, ByteArray.toList_eq, ByteArray.data_append, Array.toList_append, ByteArray.data_extract, ByteArray.data_extract, ByteArray.data_extract, Array.toList_extract, Array.toList_extract, Array.toList_extract, List.extract_eq_take_drop, List.extract_eq_take_drop, List.extract_eq_take_drop, List.drop_zero, Nat.sub_zero, Nat.add_sub_cancel_left, Nat.sub_zero, List.take_add]
theorem rt_whole {s : ByteArray} (h : 1 ≤ s.size) : timesB (s.extract 0 (rtN s)) (s.size / rtN s) = s := by
  obtain ⟨⟨a1, _⟩, b, _, _⟩ := rt_spec h
  have hd : s.size / rtN s * rtN s = s.size := Nat.div_mul_cancel (Nat.dvd_of_mod_eq_zero a1)
  rw [rt_times h _ (by omega), hd]
  apply bytes_ext
  rw [ByteArray.toList_eq, ByteArray.toList_eq, ByteArray.data_extract, Array.toList_extract, List.extract_eq_take_drop, List.drop_zero, List.take_of_length_le (by simp)]
end Go.Proofs.Ytjmijedfmiplfaa

/- Continued fractions: what chapter 13 is to return. No program in it. -/
namespace Go.Proofs.Ytjmijedfmiplfaa

/-! ### quotients -/
def quL (p q : Nat) : List Int := if _ : q = 0 then [] else ((p / q : Nat) : Int) :: quL q (p % q)
termination_by q
decreasing_by exact Nat.mod_lt _ (by omega)
theorem quL_zero (p : Nat) : quL p 0 = [] := by rw [quL, dif_pos rfl]
theorem quL_step {p q : Nat} (h : 0 < q) : quL p q = ((p / q : Nat) : Int) :: quL q (p % q) := by rw [quL, dif_neg (by omega)]
theorem quL_len : ∀ (q p : Nat), (quL p q).length ≤ q := by
  intro q
  induction q using Nat.strongRecOn with
  | ind q ih =>
    intro p
    by_cases h : q = 0
    · subst h
      rw [quL_zero]
      exact Nat.le_refl _
    · rw [quL_step (by omega), List.length_cons]
      have h2 : p % q < q := Nat.mod_lt _ (by omega)
      have := ih _ h2 q
      omega
def quOk (p q : Int) : Bool := (decide (0 ≤ p) && decide (p ≤ 100000)) && (decide (1 ≤ q) && decide (q ≤ 100000))
/-- what QuotientsOf is to return -/
def quR (p q : Int) : List Int := if quOk p q = true then quL p.toNat q.toNat else []

/-! ### fractions -/
def qtAt (k : Nat) (x : Int) : Bool := decide (((min k 1 : Nat) : Int) ≤ x) && decide (x ≤ 1000)
def qtTo (l : List Int) : Nat → Bool
  | 0 => true
  | k + 1 => qtTo l k && qtAt k (l.getD k 0)
def qtB (l : List Int) : Bool := (decide (1 ≤ l.length) && decide (l.length ≤ 20)) && qtTo l l.length
theorem qtTo_at {l : List Int} : ∀ k, qtTo l k = true → ∀ j, j < k → qtAt j (l.getD j 0) = true
  | 0, _, j, h => absurd h (by omega)
  | k + 1, h, j, hj => by
    unfold qtTo at h
    rw [Bool.and_eq_true] at h
    by_cases e : j = k
    · subst e; exact h.2
    · exact qtTo_at k h.1 j (by omega)
theorem qtTo_no {l : List Int} {j : Nat} (h : qtAt j (l.getD j 0) = false) : ∀ k, j < k → qtTo l k = false
  | 0, hj => absurd hj (by omega)
  | k + 1, hj => by
    unfold qtTo
    by_cases e : j = k
    · subst e; rw [h, Bool.and_false]
    · rw [qtTo_no h k (by omega), Bool.false_and]
theorem qt_len {l : List Int} (h : qtB l = true) : 1 ≤ l.length ∧ l.length ≤ 20 := by
  unfold qtB at h
  simp only [Bool.and_eq_true, decide_eq_true_eq] at h
  exact h.1
theorem qt_at {l : List Int} (h : qtB l = true) {j : Nat} (hj : j < l.length) : 0 ≤ l[j] ∧ l[j] ≤ 1000 := by
  unfold qtB at h
  rw [Bool.and_eq_true] at h
  have := qtTo_at _ h.2 j hj
  unfold qtAt at this
  simp only [Bool.and_eq_true, decide_eq_true_eq] at this
  rw [List.getD_eq_getElem?_getD, List.getElem?_eq_getElem hj] at this
  have h2 : ((min j 1 : Nat) : Int) ≤ l[j] := this.1
  have h3 : l[j] ≤ 1000 := this.2
  omega
/-- from the fraction p / q and the one before it -/
def frGo : List Int → Int → Int → Int → Int → Option (Int × Int)
  | [], p, q, _, _ => some (p, q)
  | k :: l, p, q, a, b => if 1000000000 < k * p + a ∨ 1000000000 < k * q + b then none else frGo l (k * p + a) (k * q + b) p q
def frO (l : List Int) : Option (Int × Int) := if qtB l = true then frGo l 1 0 0 1 else none
/-- what FractionOf is to return -/
def frA (l : List Int) : Int := match frO l with | some x => x.1 | none => 0
def frB (l : List Int) : Int := match frO l with | some x => x.2 | none => 0
def frOk (l : List Int) : Bool := (frO l).isSome
def cvOf (l : List Int) (i : Nat) : List Int := [frA (l.take (i + 1)), frB (l.take (i + 1))]
/-- what ConvergentsOf is to return -/
def cvR (l : List Int) : List (List Int) := if frOk l = true then (List.range l.length).map (cvOf l) else []

/-! ### standard words -/
theorem tim_size (r : ByteArray) : ∀ i, (timesB r i).size = i * r.size
  | 0 => by rw [Nat.zero_mul]; rfl
  | i + 1 => by
    show (timesB r i ++ r).size = _
    rw [ByteArray.size_append, tim_size r i, Nat.succ_mul]
def nsOk (u v : ByteArray) (k : Int) : Bool := ((decide (0 ≤ k) && decide (k ≤ 100)) && (wordB u && wordB v)) && wordB (timesB v k.toNat ++ u)
/-- what NextStandard is to return -/
def nsR (u v : ByteArray) (k : Int) : ByteArray := if nsOk u v k = true then timesB v k.toNat ++ u else ⟨#[]⟩
def swTo (l : List Int) : Nat → Option (ByteArray × ByteArray)
  | 0 => some (⟨#[98]⟩, ⟨#[97]⟩)
  | i + 1 => match swTo l i with
    | none => none
    | some y => if ((decide (((min i 1 : Nat) : Int) ≤ l.getD i 0) && decide (l.getD i 0 ≤ 100)) && nsOk y.1 y.2 (l.getD i 0)) = true then some (y.2, nsR y.1 y.2 (l.getD i 0)) else none
def swO (l : List Int) : Option (ByteArray × ByteArray) := if (decide (1 ≤ l.length) && decide (l.length ≤ 12)) = true then swTo l l.length else none
/-- what StandardWord is to return -/
def swR (l : List Int) : ByteArray := match swO l with | some y => y.2 | none => ⟨#[]⟩
def swOk (l : List Int) : Bool := (swO l).isSome

/-! ### central words -/
noncomputable def ceAt (s : ByteArray) (p : Nat) : Bool := decide (Nat.gcd p (s.size + 2 - p) = 1) && (perB s p && perB s (s.size + 2 - p))
noncomputable def ceTo (s : ByteArray) : Nat → Bool
  | 0 => false
  | k + 1 => ceTo s k || ceAt s (k + 1)
/-- what IsCentral is to return -/
noncomputable def ceR (s : ByteArray) : Bool := (binB s && palB s) && ceTo s (s.size + 1)

/-! ### the tree of fractions -/
def paL : Nat → Nat → Nat → List UInt8
  | 0, _, _ => []
  | f + 1, p, q => if p = q then [] else if p < q then 76 :: paL f p (q - p) else 82 :: paL f (p - q) q
def paOk (p q : Int) : Bool := ((decide (1 ≤ p) && decide (p ≤ 400)) && (decide (1 ≤ q) && decide (q ≤ 400))) && decide (Nat.gcd p.toNat q.toNat = 1)
/-- what PathOf is to return -/
def paR (p q : Int) : ByteArray := if paOk p q = true then ⟨(paL (p.toNat + q.toNat) p.toNat q.toNat).toArray⟩ else ⟨#[]⟩
/-- between a / b and c / d -/
def faGo : List UInt8 → Int → Int → Int → Int → Option (Int × Int)
  | [], a, b, c, d => some (a + c, b + d)
  | x :: l, a, b, c, d =>
    if x = 76 then (if 1000000000 < a + (a + c) ∨ 1000000000 < b + (b + d) then none else faGo l a b (a + c) (b + d))
    else if x = 82 then (if 1000000000 < a + c + c ∨ 1000000000 < b + d + d then none else faGo l (a + c) (b + d) c d)
    else none
def faO (s : ByteArray) : Option (Int × Int) := if decide (s.size ≤ 400) = true then faGo s.data.toList 0 1 1 0 else none
/-- what FractionAt is to return -/
def faA (s : ByteArray) : Int := match faO s with | some x => x.1 | none => 0
def faB (s : ByteArray) : Int := match faO s with | some x => x.2 | none => 0
def faOk (s : ByteArray) : Bool := (faO s).isSome

theorem quR_len (p q : Int) : (quR p q).length ≤ 1048576 := by
  unfold quR
  split
  next h =>
    unfold quOk at h
    simp only [Bool.and_eq_true, decide_eq_true_eq] at h
    have := quL_len q.toNat p.toNat
    omega
  · exact Nat.zero_le _
end Go.Proofs.Ytjmijedfmiplfaa

/- Chapter 13 of the model: QuotientsOf, FractionOf. Conditions: lengths of at most 2^20. -/
namespace Go.Proofs.Ytjmijedfmiplfaa
open Go.RowKit Go.Lib

set_option maxRecDepth 100000 in
set_option maxHeartbeats 1000000 in
theorem specQuotientsOf (p q : Int) (w : World) :
    Calls Try.prog 12 #[.int .i64 p, .int .i64 q] w fun e w' => ∃ v, e = .returned v ∧ w'.ownsRow w.heap.size 3 1 v (quR p q).length (ints (quR p q)) ∧ Below w.heap.size w w' := by
  obtain ⟨i0, hi0, hz0, hz1, hz2⟩ := info_parts int_info
  cases h1 : (decide (0 ≤ p) && decide (p ≤ 100000))
  · have hv : quR p q = [] := if_neg (by unfold quOk; rw [h1, Bool.false_and]; decide)
    have H1 := Lib.hid h1
    rw [hv]
    clear h1 hv
    go_enter Try.func12, Try.ntmps12
    go_wp2_with fail
    refine (specIn _ _ _ _).mono ?_
    rintro e w' ⟨rfl, rfl⟩
    rw [H1.out]
    go_wp2_with fail
    go_ret
    exact ⟨_, rfl, World.ownsRow_nil _ _ _ _, Below.refl _ _⟩
  have H1 := Lib.hid h1
  cases h2 : (decide (1 ≤ q) && decide (q ≤ 100000))
  · have hv : quR p q = [] := if_neg (by unfold quOk; rw [h2, Bool.and_false]; decide)
    have H2 := Lib.hid h2
    rw [hv]
    clear h1 h2 hv
    go_enter Try.func12, Try.ntmps12
    go_wp2_with fail
    refine (specIn _ _ _ _).mono ?_
    rintro e w' ⟨rfl, rfl⟩
    rw [H1.out]
    go_wp2_with fail
    refine (specIn _ _ _ _).mono ?_
    rintro e w' ⟨rfl, rfl⟩
    rw [H2.out]
    go_wp2_with fail
    go_ret
    exact ⟨_, rfl, World.ownsRow_nil _ _ _ _, Below.refl _ _⟩
  have H2 := Lib.hid h2
  have hv : quR p q = quL p.toNat q.toNat := if_pos (by unfold quOk; rw [h1, h2]; rfl)
  rw [hv]
  rw [Bool.and_eq_true, decide_eq_true_eq, decide_eq_true_eq] at h1 h2
  obtain ⟨P, rfl⟩ : ∃ m : Nat, p = m := ⟨p.toNat, by omega⟩
  obtain ⟨Q, rfl⟩ : ∃ m : Nat, q = m := ⟨q.toNat, by omega⟩
  rw [Int.toNat_natCast, Int.toNat_natCast]
  have hP : P ≤ 100000 := by omega
  have hQ : Q ≤ 100000 := by omega
  obtain ⟨R, hR⟩ : ∃ R, R = quL P Q := ⟨_, rfl⟩
  rw [← hR]
  have HR := Lib.hid hR
  clear hv h1 h2 hR
  go_enter Try.func12, Try.ntmps12
  go_wp2_with fail
  refine (specIn _ _ _ _).mono ?_
  rintro e w' ⟨rfl, rfl⟩
  rw [H1.out]
  go_wp2_with fail
  refine (specIn _ _ _ _).mono ?_
  rintro e w' ⟨rfl, rfl⟩
  rw [H2.out]
  go_wp2_with fail
  go_loopw [0, 1, 5] (fun pv qv o w' => ∃ (a b : Nat) (K : List Int), a ≤ 100000 ∧ b ≤ 100000 ∧ pv = .int .i64 (a : Int) ∧ qv = .int .i64 (b : Int) ∧ K ++ quL a b = R ∧ K.length + b ≤ Q ∧ (∃ A cp, o = .slice A K.length cp) ∧ w'.ownsRow w.heap.size 3 1 o K.length (ints K) ∧ Below w.heap.size w w') (fun _ qv _ _ => (RowKit.intOf qv).toNat)
  case atStart => exact ⟨P, Q, [], hP, hQ, rfl, rfl, HR.out.symm, by simp, ⟨_, _, rfl⟩, World.ownsRow_made w #[] 0 (Nat.le_refl _) (by simp [maxLen]) (by simp), (Below.refl _ _).alloc (Nat.le_refl _) _⟩
  case round =>
    obtain ⟨a, b, K, ha, hb, rfl, rfl, hK, hl, ⟨A, cp, rfl⟩, ho, hbw⟩ := hrel
    have HK := Lib.hid hK
    have HO := Lib.hid ho
    have HB := Lib.hid hbw
    have hbz := hbw.size
    clear hK ho hbw
    by_cases h0 : 0 < b
    · have h0' : (0 : Int) < (b : Int) := by omega
      have hz : ¬ (b : Int) = 0 := by omega
      have hz' : ¬ b = 0 := by omega
      have HS : Hid ((K ++ [((a / b : Nat) : Int)]) ++ quL b (a % b) = R) := by
        show _ = _
        rw [← HK.out, quL_step h0, List.append_assoc]
        rfl
      have hm : a % b < b := Nat.mod_lt _ h0
      have hd : a / b ≤ a := Nat.div_le_self _ _
      have e1 : (a : Int).tdiv (b : Int) = ((a / b : Nat) : Int) := rfl
      have e2 : (a : Int) / (b : Int) = ((a / b : Nat) : Int) := rfl
      have e3 : (a : Int).tmod (b : Int) = ((a % b : Nat) : Int) := rfl
      have e4 : (a : Int) % (b : Int) = ((a % b : Nat) : Int) := rfl
      generalize a / b = x at *
      generalize a % b = y at *
      go_wp2_with (at_builtin
                   refine wpList_append1 wr rfl (.tmp 18) (.tmp 22) _ rfl w.heap.size 3 i0 _ 8 Try.underlying22 hi0 hz0 hz1 hz2 rfl (.slice A K.length cp) K.length (ints K) rfl HO.out (.int .i64 (x : Int)) rfl rfl (by unfold maxLen; omega) (by omega) hbz ?_
                   intro v' w1 hown1 hbel1)
      have ho' : w1.ownsRow w.heap.size 3 1 v' (K ++ [(x : Int)]).length (ints (K ++ [(x : Int)])) := by
        rw [List.length_append, ints_snoc]
        exact hown1
      obtain ⟨A5, cp5, rfl⟩ := own_slice ho'
      go_roundw
      case rel => exact ⟨b, y, K ++ [(x : Int)], hb, by omega, rfl, rfl, HS.out, by rw [List.length_append]; show _ + 1 + _ ≤ _; omega, ⟨A5, cp5, by first | rfl | simp⟩, ho', HB.out.trans hbel1⟩
      case measure => simp [RowKit.intOf]; omega
    · have hb0 : b = 0 := by omega
      subst hb0
      have h0' : ¬ (0 : Int) < ((0 : Nat) : Int) := by omega
      have HE : Hid (R = K) := by
        show _ = _
        rw [← HK.out, quL_zero, List.append_nil]
      go_wp2_with fail
      go_ret
      exact ⟨_, rfl, by rw [HE.out]; exact HO.out, HB.out⟩

set_option maxRecDepth 100000 in
set_option maxHeartbeats 1000000 in
theorem specQuotients (l : List Int) (v : Value) (w : World) (h : Lst w v (ints l)) :
    Calls Try.prog 41 #[v] w fun e w' => e = .returned (.bool (qtB l)) ∧ w = w' := by
  obtain ⟨A, c, rfl, hc1, hc2, h1⟩ := h
  rw [ints_length] at hc1 ⊢
  unfold maxLen at hc2
  have HV : Hid (qtB l = ((decide (1 ≤ l.length) && decide (l.length ≤ 20)) && qtTo l l.length)) := rfl
  have HD : Hid ((decide ((1 : Int) ≤ (l.length : Int)) && decide ((l.length : Int) ≤ 20)) = (decide (1 ≤ l.length) && decide (l.length ≤ 20))) := by
    show _ = _
    rw [Bool.eq_iff_iff, Bool.and_eq_true, Bool.and_eq_true, decide_eq_true_eq, decide_eq_true_eq, decide_eq_true_eq, decide_eq_true_eq]
    omega
  cases hd : (decide (1 ≤ l.length) && decide (l.length ≤ 20))
  · rw [hd] at HV HD
    have HVF : Hid (qtB l = false) := by show _ = _; rw [HV.out, Bool.false_and]
    clear h1 hd HV
    generalize qtB l = r at *
    go_enter Try.func41, Try.ntmps41
    go_wp2_with fail
    refine (specIn _ _ _ _).mono ?_
    rintro e w' ⟨rfl, rfl⟩
    rw [HD.out]
    go_wp2_with fail
    go_ret
    exact ⟨ret_bool HVF.out.symm, rfl⟩
  rw [hd] at HV HD
  have hd2 := hd
  simp only [Bool.and_eq_true, decide_eq_true_eq] at hd2
  have hl : l ≠ [] := fun e => by subst e; simp at hd2
  obtain ⟨b, off, rfl, h2⟩ := h1.resolve_left (by simp [ints, hl])
  have H1 := Lib.hid (ints_at h2)
  have HR : Hid (qtB l = qtTo l l.length) := by show _ = _; rw [HV.out, Bool.true_and]
  have HNO := Lib.hid (fun j (hj : j < l.length) h => qtTo_no (l := l) (j := j) h l.length hj)
  have HNX : Hid (∀ k, qtTo l (k + 1) = (qtTo l k && qtAt k (l.getD k 0))) := fun k => rfl
  have HGD : Hid (∀ k (hk : k < l.length), l.getD k 0 = l[k]) := fun k hk => by rw [List.getD_eq_getElem?_getD, List.getElem?_eq_getElem hk]; rfl
  have HA : Hid (∀ k x, qtAt k x = (decide (((min k 1 : Nat) : Int) ≤ x) && decide (x ≤ 1000))) := fun k x => rfl
  have H0 : Hid (qtTo l 0 = true) := rfl
  clear h1 h2 hl hd HV
  generalize qtB l = r at *
  generalize qtTo l = T at *
  generalize qtAt = QA at *
  go_enter Try.func41, Try.ntmps41
  go_wp2_with fail
  refine (specIn _ _ _ _).mono ?_
  rintro e w' ⟨rfl, rfl⟩
  rw [HD.out]
  go_wp2_with fail
  go_loopw [11] (fun iv w' => ∃ k : Nat, k ≤ l.length ∧ iv = .int .i64 (k : Int) ∧ T k = true ∧ w = w') (fun iv _ => l.length - (RowKit.intOf iv).toNat)
  case atStart => exact ⟨0, Nat.zero_le _, rfl, H0.out, rfl⟩
  case round =>
    obtain ⟨k, hk, rfl, ht, rfl⟩ := hrel
    have HT := Lib.hid ht
    clear ht
    by_cases hlt : k < l.length
    · have hlt' : (k : Int) < (l.length : Int) := by omega
      have g1 := H1.out k hlt
      have HNK := Lib.hid (HNO.out k hlt)
      have HNXK := Lib.hid (HNX.out k)
      rw [HT.out, Bool.true_and] at HNXK
      rw [HGD.out k hlt, HA.out] at HNK HNXK
      have hmn : min (k : Int) 1 = ((min k 1 : Nat) : Int) := by omega
      generalize (min k 1 : Nat) = mm at *
      generalize l[k] = x at *
      have HI := Lib.hid (fun w => specIn x (mm : Int) 1000 w)
      cases hb : (decide ((mm : Int) ≤ x) && decide (x ≤ 1000))
      · rw [hb] at HI HNK
        have HF : Hid (r = false) := by show _ = _; rw [HR.out]; exact HNK.out rfl
        clear hb HNK HNXK
        go_wp2_with fail
        all_goals
          first
            | rw [show (mm : Int) = 1 from by omega] at HI
            | rw [show (mm : Int) = (k : Int) from by omega] at HI
            | skip
          refine (HI.out _).mono ?_
          rintro e w' ⟨rfl, rfl⟩
          go_wp2_with fail
          go_ret
          exact ⟨ret_bool HF.out.symm, rfl⟩
      · rw [hb] at HI HNXK
        clear hb HNK
        go_wp2_with fail
        all_goals
          first
            | rw [show (mm : Int) = 1 from by omega] at HI
            | rw [show (mm : Int) = (k : Int) from by omega] at HI
            | skip
          refine (HI.out _).mono ?_
          rintro e w' ⟨rfl, rfl⟩
          go_wp2_with fail
          go_roundw
          case rel => exact ⟨k + 1, by omega, by go_num, HNXK.out, by trivial⟩
          case measure => simp [RowKit.intOf]; omega
    · have hke : k = l.length := by omega
      have hlt' : ¬ (k : Int) < (l.length : Int) := by omega
      have HE : Hid (r = true) := by show _ = _; rw [HR.out, ← hke]; exact HT.out
      clear hke
      go_wp2_with fail
      go_ret
      exact ⟨ret_bool HE.out.symm, rfl⟩

theorem frGo_drop {l : List Int} {j : Nat} (h : j < l.length) (p q a b : Int) : frGo (l.drop j) p q a b = if 1000000000 < l[j] * p + a ∨ 1000000000 < l[j] * q + b then none else frGo (l.drop (j + 1)) (l[j] * p + a) (l[j] * q + b) p q := by
  rw [List.drop_eq_getElem_cons h]
  rfl
theorem mul_k {k p : Int} (h1 : 0 ≤ k) (h2 : k ≤ 1000) (h3 : 0 ≤ p) (h4 : p ≤ 1000000000) : 0 ≤ k * p ∧ k * p ≤ 1000000000000 := by
  have a1 := Int.mul_nonneg h1 h3
  have a2 : k * p ≤ 1000 * p := Int.mul_le_mul_of_nonneg_right h2 h3
  omega
set_option maxRecDepth 100000 in
set_option maxHeartbeats 1000000 in
theorem specFractionOfQ (l : List Int) (v : Value) (w : World) (h : Lst w v (ints l)) :
    Calls Try.prog 17 #[v] w fun e w' => e = .returned (.tuple #[.int .i64 (frA l), .int .i64 (frB l), .bool (frOk l)]) ∧ w = w' := by
  have HQ := Lib.hid (specQuotients l v w h)
  cases hq : qtB l
  · have hO : frO l = none := if_neg (by rw [hq]; decide)
    have HA : Hid (frA l = 0) := by show _ = _; unfold frA; rw [hO]
    have HB : Hid (frB l = 0) := by show _ = _; unfold frB; rw [hO]
    have HK : Hid (frOk l = false) := by show _ = _; unfold frOk; rw [hO]; rfl
    rw [hq] at HQ
    obtain ⟨A, c, rfl, hc1, hc2, h1⟩ := h
    clear hq hO h1
    generalize frA l = ra at *
    generalize frB l = rb at *
    generalize frOk l = rk at *
    go_enter Try.func17, Try.ntmps17
    go_wp2_with fail
    refine HQ.out.mono ?_
    rintro e w' ⟨rfl, rfl⟩
    go_wp2_with fail
    go_ret3
    exact ⟨by rw [HA.out, HB.out, HK.out]; rfl, rfl⟩
  rw [hq] at HQ
  have hO : frO l = frGo l 1 0 0 1 := if_pos hq
  have HAT := Lib.hid (fun j (hj : j < l.length) => qt_at hq hj)
  obtain ⟨hl1, hl2⟩ := qt_len hq
  obtain ⟨A, c, rfl, hc1, hc2, h1⟩ := h
  rw [ints_length] at hc1 HQ ⊢
  unfold maxLen at hc2
  have hl : l ≠ [] := fun e => by subst e; simp at hl1
  obtain ⟨b0, off, rfl, h2⟩ := h1.resolve_left (by simp [ints, hl])
  have H1 := Lib.hid (ints_at h2)
  have HD := Lib.hid (fun j (h : j < l.length) p q a b => frGo_drop h p q a b)
  have HE : Hid (∀ p q a b, frGo (l.drop l.length) p q a b = some (p, q)) := fun p q a b => by rw [List.drop_length]; rfl
  have HSOME : Hid (∀ p q, frO l = some (p, q) → frA l = p ∧ frB l = q ∧ frOk l = true) := fun p q e => by unfold frA frB frOk; rw [e]; exact ⟨rfl, rfl, rfl⟩
  have HNONE : Hid (frO l = none → frA l = 0 ∧ frB l = 0 ∧ frOk l = false) := fun e => by unfold frA frB frOk; rw [e]; exact ⟨rfl, rfl, rfl⟩
  have HO := Lib.hid hO
  clear h1 h2 hl hq hO
  generalize frA l = ra at *
  generalize frB l = rb at *
  generalize frOk l = rk at *
  obtain ⟨G, hG⟩ : ∃ G : Nat → Int → Int → Int → Int → Option (Int × Int), G = fun j p q a b => frGo (l.drop j) p q a b := ⟨_, rfl⟩
  have HD2 : Hid (∀ j (h : j < l.length) p q a b, G j p q a b = if 1000000000 < l[j] * p + a ∨ 1000000000 < l[j] * q + b then none else G (j + 1) (l[j] * p + a) (l[j] * q + b) p q) := by rw [hG]; exact HD.out
  have HE2 : Hid (∀ p q a b, G l.length p q a b = some (p, q)) := by rw [hG]; exact HE.out
  have HO2 : Hid (frO l = G 0 1 0 0 1) := by show _ = _; rw [hG, HO.out]; rfl
  generalize frO l = o at *
  clear hG HD HE HO
  go_enter Try.func17, Try.ntmps17
  go_wp2_with fail
  refine HQ.out.mono ?_
  rintro e w' ⟨rfl, rfl⟩
  go_wp2_with fail
  go_loopw [5, 6, 7, 8, 18] (fun pv qv av bv iv w' => ∃ (j : Nat) (p q a b : Int), j ≤ l.length ∧ (0 ≤ p ∧ p ≤ 1000000000) ∧ (0 ≤ q ∧ q ≤ 1000000000) ∧ (0 ≤ a ∧ a ≤ 1000000000) ∧ (0 ≤ b ∧ b ≤ 1000000000) ∧ o = G j p q a b ∧ pv = .int .i64 p ∧ qv = .int .i64 q ∧ av = .int .i64 a ∧ bv = .int .i64 b ∧ iv = .int .i64 (j : Int) ∧ w = w') (fun _ _ _ _ iv _ => l.length - (RowKit.intOf iv).toNat)
  case atStart => exact ⟨0, 1, 0, 0, 1, Nat.zero_le _, by omega, by omega, by omega, by omega, HO2.out, rfl, rfl, rfl, rfl, rfl, rfl⟩
  case round =>
    obtain ⟨j, p, q, a, b, hj, hp, hq, ha, hb, ho, rfl, rfl, rfl, rfl, rfl, rfl⟩ := hrel
    have HOJ := Lib.hid ho
    clear ho
    by_cases hlt : j < l.length
    · have hlt' : (j : Int) < (l.length : Int) := by omega
      have g1 := H1.out j hlt
      have hat := HAT.out j hlt
      have HDJ := Lib.hid (HD2.out j hlt p q a b)
      rw [← HOJ.out] at HDJ
      generalize l[j] = k at *
      have m1 := mul_k hat.1 hat.2 hp.1 hp.2
      have m2 := mul_k hat.1 hat.2 hq.1 hq.2
      obtain ⟨x, hx⟩ : ∃ z, z = k * p := ⟨_, rfl⟩
      obtain ⟨y, hy⟩ : ∃ z, z = k * q := ⟨_, rfl⟩
      rw [← hx] at m1 HDJ
      rw [← hy] at m2 HDJ
      have e1 : wrap64 (k * p) = x := by rw [← hx]; exact IntWalk.wrap64_in _ (by omega)
      have e2 : wrap64 (k * q) = y := by rw [← hy]; exact IntWalk.wrap64_in _ (by omega)
      have e3 : IntKind.i64.wrap (k * p) = x := by rw [← hx]; exact IntWalk.i64_in _ (by omega)
      have e4 : IntKind.i64.wrap (k * q) = y := by rw [← hy]; exact IntWalk.i64_in _ (by omega)
      clear hx hy
      by_cases c1 : 1000000000 < x + a
      · obtain ⟨n1, n2, n3⟩ := HNONE.out (by rw [HDJ.out, if_pos (.inl c1)])
        have HN1 := Lib.hid n1
        have HN2 := Lib.hid n2
        have HN3 := Lib.hid n3
        clear n1 n2 n3
        go_wp2_with fail
        go_ret3
        exact ⟨by rw [HN1.out, HN2.out, HN3.out]; rfl, rfl⟩
      · by_cases c2 : 1000000000 < y + b
        · obtain ⟨n1, n2, n3⟩ := HNONE.out (by rw [HDJ.out, if_pos (.inr c2)])
          have HN1 := Lib.hid n1
          have HN2 := Lib.hid n2
          have HN3 := Lib.hid n3
          clear n1 n2 n3
          go_wp2_with fail
          go_ret3
          exact ⟨by rw [HN1.out, HN2.out, HN3.out]; rfl, rfl⟩
        · have HNX : Hid (o = G (j + 1) (x + a) (y + b) p q) := by show _ = _; rw [HDJ.out, if_neg (fun h => h.elim c1 c2)]
          go_wp2_with fail
          go_roundw
          case rel => exact ⟨j + 1, x + a, y + b, p, q, by omega, by omega, by omega, hp, hq, HNX.out, rfl, rfl, rfl, rfl, by go_num, by trivial⟩
          case measure => simp [RowKit.intOf]; omega
    · have hje : j = l.length := by omega
      have hlt' : ¬ (j : Int) < (l.length : Int) := by omega
      obtain ⟨n1, n2, n3⟩ := HSOME.out p q (by rw [HOJ.out, hje, HE2.out])
      have HN1 := Lib.hid n1
      have HN2 := Lib.hid n2
      have HN3 := Lib.hid n3
      clear n1 n2 n3 hje
      go_wp2_with fail
      go_ret3
      exact ⟨by rw [HN1.out, HN2.out, HN3.out]; rfl, rfl⟩
theorem specFractionOf (l : List Int) (v : Value) (w : World) (h : Lst w v (ints l)) :
    Calls Try.prog 17 #[v] w fun e w' => e = .returned (.tuple #[.int .i64 (frA l), .int .i64 (frB l), .bool (frOk l)]) ∧ Below w.heap.size w w' := by
  exact (specFractionOfQ l v w h).mono fun _ _ h => ⟨h.1, by rw [← h.2]; exact Below.refl _ _⟩
end Go.Proofs.Ytjmijedfmiplfaa
