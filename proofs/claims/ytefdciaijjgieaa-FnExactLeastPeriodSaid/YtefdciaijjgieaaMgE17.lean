/- Texts put together. -/
import Derived.Test.YtefdciaijjgieaaMgE16
import Derived.Test.YtefdciaijjgieaaMgE8
import Derived.Test.YtefdciaijjgieaaMgE14
import Derived.Deep.LoopGhost
/- The longest part with a period, and what is read off from it. No program in it. -/
namespace Go.Proofs.Ytefdciaijjgieaa
open Go.RowKit

/-! ### the longest part with a period -/
/-- behind i places: the longest row of letters that agree with those p further on, and the row there -/
def lpTo (s : ByteArray) (p : Nat) : Nat → Nat × Nat
  | 0 => (0, 0)
  | i + 1 =>
    let y := lpTo s p i
    let r := if s.data.toList[i]? = s.data.toList[i + p]? then y.2 + 1 else 0
    (max y.1 r, r)
def lpN (s : ByteArray) (p : Nat) : Nat := (lpTo s p (s.size - p)).1
theorem lp_yes {s : ByteArray} {p i : Nat} (h : s.data.toList[i]? = s.data.toList[i + p]?) : lpTo s p (i + 1) = (max (lpTo s p i).1 ((lpTo s p i).2 + 1), (lpTo s p i).2 + 1) := by
  show (max (lpTo s p i).1 (if s.data.toList[i]? = s.data.toList[i + p]? then (lpTo s p i).2 + 1 else 0), if s.data.toList[i]? = s.data.toList[i + p]? then (lpTo s p i).2 + 1 else 0) = _
  rw [if_pos h]
theorem lp_no {s : ByteArray} {p i : Nat} (h : ¬ s.data.toList[i]? = s.data.toList[i + p]?) : lpTo s p (i + 1) = ((lpTo s p i).1, 0) := by
  show (max (lpTo s p i).1 (if s.data.toList[i]? = s.data.toList[i + p]? then (lpTo s p i).2 + 1 else 0), if s.data.toList[i]? = s.data.toList[i + p]? then (lpTo s p i).2 + 1 else 0) = _
  rw [if_neg h, Nat.max_eq_left (Nat.zero_le _)]
theorem lp_le (s : ByteArray) (p : Nat) : ∀ i, (lpTo s p i).1 ≤ i ∧ (lpTo s p i).2 ≤ i
  | 0 => ⟨Nat.le_refl _, Nat.le_refl _⟩
  | i + 1 => by
    have := lp_le s p i
    by_cases h : s.data.toList[i]? = s.data.toList[i + p]?
    · rw [lp_yes h]
      exact ⟨by show max _ _ ≤ _; omega, by show _ + 1 ≤ _; omega⟩
    · rw [lp_no h]
      exact ⟨by show (lpTo s p i).1 ≤ _; omega, Nat.zero_le _⟩
theorem lpN_le (s : ByteArray) (p : Nat) : lpN s p ≤ s.size - p := (lp_le s p _).1
theorem lp_spec (s : ByteArray) (p : Nat) : ∀ i,
    ((∀ j, i - (lpTo s p i).2 ≤ j → j < i → s.data.toList[j]? = s.data.toList[j + p]?) ∧ ((lpTo s p i).2 < i → ¬ s.data.toList[i - (lpTo s p i).2 - 1]? = s.data.toList[i - (lpTo s p i).2 - 1 + p]?)) ∧
    ((∃ k, k + (lpTo s p i).1 ≤ i ∧ ∀ j, j < (lpTo s p i).1 → s.data.toList[k + j]? = s.data.toList[k + j + p]?) ∧ ∀ k m, k + m ≤ i → (∀ j, j < m → s.data.toList[k + j]? = s.data.toList[k + j + p]?) → m ≤ (lpTo s p i).1)
  | 0 => ⟨⟨fun j _ h => absurd h (by omega), fun h => absurd h (by omega)⟩, ⟨0, Nat.le_refl _, fun j h => absurd (show j < 0 from h) (by omega)⟩, fun k m h _ => by show m ≤ 0; omega⟩
  | i + 1 => by
    obtain ⟨⟨a, b⟩, ⟨k0, c, d⟩, e⟩ := lp_spec s p i
    obtain ⟨l1, l2⟩ := lp_le s p i
    by_cases h : s.data.toList[i]? = s.data.toList[i + p]?
    · rw [lp_yes h]
      generalize lpTo s p i = y at a b c d e l1 l2
      have hrun : ∀ j, i + 1 - (y.2 + 1) ≤ j → j < i + 1 → s.data.toList[j]? = s.data.toList[j + p]? := fun j h1 h2 => by
        by_cases hj : j = i
        · subst hj; exact h
        · exact a j (by omega) (by omega)
      have hmax : ∀ k m, k + m ≤ i + 1 → (∀ j, j < m → s.data.toList[k + j]? = s.data.toList[k + j + p]?) → m ≤ max y.1 (y.2 + 1) := fun k m hk hm => by
        by_cases hki : k + m ≤ i
        · have := e k m hki hm
          omega
        · by_cases hr : m ≤ y.2 + 1
          · omega
          · exfalso
            refine b (by omega) ?_
            have := hm (i - y.2 - 1 - k) (by omega)
            rwa [show k + (i - y.2 - 1 - k) = i - y.2 - 1 by omega] at this
      refine ⟨⟨hrun, fun hl => ?_⟩, ?_, hmax⟩
      · show ¬ s.data.toList[i + 1 - (y.2 + 1) - 1]? = _
        have hl' : y.2 + 1 < i + 1 := hl
        rw [show i + 1 - (y.2 + 1) - 1 = i - y.2 - 1 by omega]
        exact b (by omega)
      · by_cases hm : y.1 < y.2 + 1
        · refine ⟨i - y.2, by show _ + max _ _ ≤ _; omega, fun j hj => ?_⟩
          have hj' : j < max y.1 (y.2 + 1) := hj
          exact hrun _ (by omega) (by omega)
        · refine ⟨k0, by show _ + max _ _ ≤ _; omega, fun j hj => ?_⟩
          have hj' : j < max y.1 (y.2 + 1) := hj
          exact d j (by omega)
    · rw [lp_no h]
      generalize lpTo s p i = y at a b c d e l1 l2
      refine ⟨⟨fun j h1 h2 => ?_, fun _ => ?_⟩, ⟨k0, by show k0 + y.1 ≤ _; omega, d⟩, fun k m hk hm => ?_⟩
      · have h1' : i + 1 - 0 ≤ j := h1
        omega
      · show ¬ s.data.toList[i + 1 - 0 - 1]? = s.data.toList[i + 1 - 0 - 1 + p]?
        rw [show i + 1 - 0 - 1 = i by omega]
        exact h
      · by_cases hki : k + m ≤ i ∨ m = 0
        · by_cases hm0 : m = 0
          · rw [hm0]; exact Nat.zero_le _
          · exact e k m (by omega) hm
        · exfalso
          refine h ?_
          have := hm (i - k) (by omega)
          rwa [show k + (i - k) = i by omega] at this
theorem run_swap {s : ByteArray} {m p i : Nat} : RunAt s m p i ↔ i + p + m ≤ s.size ∧ ∀ j, j < m → s.data.toList[i + j]? = s.data.toList[i + j + p]? := by
  unfold RunAt
  constructor
  · rintro ⟨h1, h2⟩
    exact ⟨h1, fun j hj => by rw [h2 j hj]; congr 1; omega⟩
  · rintro ⟨h1, h2⟩
    exact ⟨h1, fun j hj => by rw [h2 j hj]; congr 1; omega⟩
theorem lp_run {s : ByteArray} {p : Nat} (hp : p ≤ s.size) : (∃ i, RunAt s (lpN s p) p i) ∧ ∀ m i, RunAt s m p i → m ≤ lpN s p := by
  obtain ⟨_, ⟨k, c, d⟩, e⟩ := lp_spec s p (s.size - p)
  refine ⟨⟨k, run_swap.2 ⟨?_, d⟩⟩, fun m i h => ?_⟩
  · have c' : k + lpN s p ≤ s.size - p := c
    omega
  · obtain ⟨h1, h2⟩ := run_swap.1 h
    exact e i m (by omega) h2
/-- a repetition is there exactly if some period lasts for so long -/
theorem rep_lp (s : ByteArray) (n e : Nat) : repB s n e = true ↔ ∃ p, 1 ≤ p ∧ p ≤ s.size ∧ n * p + e ≤ lpN s p := by
  rw [repB_iff]
  constructor
  · rintro ⟨p, h1, i, h2⟩
    have hp : p ≤ s.size := by have := h2.1; omega
    exact ⟨p, h1, hp, (lp_run hp).2 _ _ h2⟩
  · rintro ⟨p, h1, h2, h3⟩
    obtain ⟨i, hi⟩ := (lp_run h2).1
    exact ⟨p, h1, i, pz_less hi h3⟩
theorem per_lp {s : ByteArray} {p : Nat} (hp : p ≤ s.size) : PerAt s p ↔ p + lpN s p = s.size := by
  have hle := lpN_le s p
  constructor
  · intro h
    have := (lp_run hp).2 (s.size - p) 0 (run_swap.2 ⟨by omega, fun j hj => by rw [Nat.zero_add]; exact h j (by omega)⟩)
    omega
  · intro h i hi
    obtain ⟨k, hk⟩ := (lp_run hp).1
    obtain ⟨h1, h2⟩ := run_swap.1 hk
    have hk0 : k = 0 := by omega
    subst hk0
    have := h2 i (by omega)
    rwa [Nat.zero_add] at this
theorem lr_lp (s : ByteArray) : ∀ k, lrTo s (k + 1) = ((lpTo s 1 k).1 + 1, (lpTo s 1 k).2 + 1)
  | 0 => by rw [lr_no (by omega)]; rfl
  | k + 1 => by
    have ih := lr_lp s k
    by_cases h : s.data.toList[k]? = s.data.toList[k + 1]?
    · rw [lr_yes (by omega) (by rw [Nat.add_sub_cancel]; exact h.symm), lp_yes h, ih]
      show (max ((lpTo s 1 k).1 + 1) ((lpTo s 1 k).2 + 1 + 1), (lpTo s 1 k).2 + 1 + 1) = (max (lpTo s 1 k).1 ((lpTo s 1 k).2 + 1) + 1, (lpTo s 1 k).2 + 1 + 1)
      congr 1
      omega
    · rw [lr_no (by rw [Nat.add_sub_cancel]; exact fun hh => h hh.2.symm), lp_no h, ih]
      show (max ((lpTo s 1 k).1 + 1) 1, 1) = ((lpTo s 1 k).1 + 1, 0 + 1)
      congr 1
      omega
theorem lr_one {s : ByteArray} (h : 1 ≤ s.size) : (lrTo s s.size).1 = 1 + lpN s 1 := by
  obtain ⟨k, hk⟩ : ∃ k, s.size = k + 1 := ⟨s.size - 1, by omega⟩
  unfold lpN
  rw [hk, lr_lp, Nat.add_sub_cancel]
  show (lpTo s 1 k).1 + 1 = _
  omega

/-! ### the greatest exponent -/
def gpTo (s : ByteArray) : Nat → Nat × Nat
  | 0 => (1, 1)
  | k + 1 => if (gpTo s k).1 * (k + 1) < (k + 1 + lpN s (k + 1)) * (gpTo s k).2 then (k + 1 + lpN s (k + 1), k + 1) else gpTo s k
theorem gp_yes {s : ByteArray} {k : Nat} (h : (gpTo s k).1 * (k + 1) < (k + 1 + lpN s (k + 1)) * (gpTo s k).2) : gpTo s (k + 1) = (k + 1 + lpN s (k + 1), k + 1) := if_pos h
theorem gp_no {s : ByteArray} {k : Nat} (h : ¬ (gpTo s k).1 * (k + 1) < (k + 1 + lpN s (k + 1)) * (gpTo s k).2) : gpTo s (k + 1) = gpTo s k := if_neg h
theorem gp_le (s : ByteArray) (hs : 1 ≤ s.size) : ∀ k, k ≤ s.size → (gpTo s k).1 ≤ s.size ∧ (gpTo s k).2 ≤ s.size ∧ 1 ≤ (gpTo s k).2
  | 0, _ => ⟨hs, hs, Nat.le_refl _⟩
  | k + 1, hk => by
    have ih := gp_le s hs k (by omega)
    have := lpN_le s (k + 1)
    by_cases h : (gpTo s k).1 * (k + 1) < (k + 1 + lpN s (k + 1)) * (gpTo s k).2
    · rw [gp_yes h]
      exact ⟨by show k + 1 + lpN s (k + 1) ≤ _; omega, hk, by show 1 ≤ k + 1; omega⟩
    · rw [gp_no h]
      exact ih
theorem frac_lt {a b c d e f : Nat} (h1 : a * d ≤ c * b) (h2 : c * f < e * d) (hb : 1 ≤ b) : a * f < e * b := by
  have e1 : a * d * f ≤ c * b * f := Nat.mul_le_mul_right f h1
  have e2 : c * f * b < e * d * b := Nat.mul_lt_mul_of_pos_right h2 (by omega)
  refine Nat.lt_of_mul_lt_mul_right (a := d) ?_
  calc a * f * d = a * d * f := Nat.mul_right_comm a f d
    _ ≤ c * b * f := e1
    _ = c * f * b := Nat.mul_right_comm c b f
    _ < e * d * b := e2
    _ = e * b * d := Nat.mul_right_comm e d b
theorem gp_spec (s : ByteArray) : ∀ k, 1 ≤ k → (1 ≤ (gpTo s k).2 ∧ (gpTo s k).2 ≤ k) ∧ (gpTo s k).1 = (gpTo s k).2 + lpN s (gpTo s k).2 ∧ (∀ q, 1 ≤ q → q ≤ k → (q + lpN s q) * (gpTo s k).2 ≤ (gpTo s k).1 * q) ∧ ∀ q, 1 ≤ q → q < (gpTo s k).2 → (q + lpN s q) * (gpTo s k).2 < (gpTo s k).1 * q
  | 0, h => absurd h (by omega)
  | 1, _ => by
    have hg : gpTo s 1 = (1 + lpN s 1, 1) := by
      by_cases h : (gpTo s 0).1 * (0 + 1) < (0 + 1 + lpN s (0 + 1)) * (gpTo s 0).2
      · exact gp_yes h
      · rw [show gpTo s 1 = gpTo s 0 from gp_no h]
        have h' : ¬ 1 * (0 + 1) < (0 + 1 + lpN s (0 + 1)) * 1 := h
        have h0 : lpN s 1 = 0 := by
          simp only [Nat.zero_add, Nat.mul_one] at h'
          omega
        show (1, 1) = _
        rw [h0]
    rw [hg]
    refine ⟨⟨Nat.le_refl _, Nat.le_refl _⟩, rfl, fun q h1 h2 => ?_, fun q h1 h2 => ?_⟩
    · have : q = 1 := by omega
      subst this
      exact Nat.le_refl _
    · have h2' : q < 1 := h2
      omega
  | k + 2, _ => by
    obtain ⟨⟨a1, a2⟩, b, c, d⟩ := gp_spec s (k + 1) (by omega)
    by_cases h : (gpTo s (k + 1)).1 * (k + 1 + 1) < (k + 1 + 1 + lpN s (k + 1 + 1)) * (gpTo s (k + 1)).2
    · rw [show gpTo s (k + 2) = _ from gp_yes h]
      generalize gpTo s (k + 1) = y at a1 a2 b c d h
      have hall : ∀ q, 1 ≤ q → q ≤ k + 1 → (q + lpN s q) * (k + 2) < (k + 2 + lpN s (k + 2)) * q := fun q h1 h2 => frac_lt (c q h1 h2) h h1
      refine ⟨⟨by show 1 ≤ k + 2; omega, Nat.le_refl _⟩, rfl, fun q h1 h2 => ?_, fun q h1 h2 => ?_⟩
      · by_cases hq : q = k + 2
        · subst hq; exact Nat.le_refl _
        · exact Nat.le_of_lt (hall q h1 (by omega))
      · have h2' : q < k + 2 := h2
        exact hall q h1 (by omega)
    · rw [show gpTo s (k + 2) = _ from gp_no h]
      refine ⟨⟨a1, by omega⟩, b, fun q h1 h2 => ?_, d⟩
      by_cases hq : q = k + 2
      · subst hq
        exact Nat.le_of_not_lt h
      · exact c q h1 (by omega)
def GexFirst (s : ByteArray) (x : Nat × Nat) : Prop := ∀ m i, 1 ≤ m → m < x.1 → i + m ≤ s.size → m * x.2 < x.1 * perN (s.extract i (i + m))
theorem gexRow_first {s : ByteArray} {n : Nat} (hn : 1 ≤ n) {y : Nat × Nat} (hy : GexGot s y) (ht : ∀ m i, 1 ≤ m → m < n → i + m ≤ s.size → GexTop s y m i) (hf : GexFirst s y) : ∀ k, k + n ≤ s.size + 1 → GexFirst s (gexRow s n y k)
  | 0, _ => hf
  | k + 1, hk => by
    have ih := gexRow_first hn hy ht hf k (by omega)
    obtain ⟨a, b, _⟩ := gexRow_spec hn hy ht k (by omega)
    by_cases hc : (gexRow s n y k).1 * perN (s.extract k (k + n)) < n * (gexRow s n y k).2
    · rw [gexRow_yes hc]
      intro m i h1 h2 h3
      exact frac_lt (b m i h1 h2 h3) hc (perN_le _).1
    · rw [gexRow_no hc]
      exact ih
theorem gexTo_first {s : ByteArray} (h0 : 1 ≤ s.size) : ∀ n, n + 1 ≤ s.size → GexFirst s (gexTo s n)
  | 0, _ => fun m i h1 h2 _ => absurd (show m < 1 from h2) (by omega)
  | n + 1, hn => by
    obtain ⟨a, b⟩ := gexTo_spec h0 n (by omega)
    exact gexRow_first (n := n + 2) (by omega) a b (gexTo_first h0 n (by omega)) (s.size + 1 - (n + 2)) (by omega)
theorem gex_gp {s : ByteArray} (h0 : 1 ≤ s.size) : gexTo s (s.size - 1) = gpTo s s.size := by
  obtain ⟨⟨a1, a2, i, a3, a4⟩, b⟩ := gexTo_spec h0 (s.size - 1) (by omega)
  have hf := gexTo_first h0 (s.size - 1) (by omega)
  obtain ⟨⟨c1, c2⟩, d, e, f⟩ := gp_spec s s.size h0
  generalize gexTo s (s.size - 1) = x at *
  generalize gpTo s s.size = y at *
  obtain ⟨n, p⟩ := x
  obtain ⟨L, P⟩ := y
  simp only at a1 a2 a3 a4 b c1 c2 d e f
  have hz := pz_size s i n a3
  obtain ⟨hp1, hp2⟩ := pz_per (s := s.extract i (i + n)) (by omega)
  rw [← a4] at hp1 hp2
  have hpn : p ≤ n := by
    have h := per_size (s.extract i (i + n))
    rw [hz] at h
    exact hp2 n a1 h
  have hrun : RunAt s (n - p) p i := (pz_run s (n - p) p i (by omega)).2 (by rw [show p + (n - p) = n by omega]; exact hp1)
  have hnp := (lp_run (s := s) (p := p) (by omega)).2 _ _ hrun
  have hA : n * P ≤ L * p := Nat.le_trans (Nat.mul_le_mul_right P (show n ≤ p + lpN s p by omega)) (e p a2 (by omega))
  obtain ⟨j, hj⟩ := (lp_run (s := s) (p := P) c2).1
  have hLs : j + L ≤ s.size := by have := hj.1; omega
  have hper := (pz_run s (lpN s P) P j (by have := hj.1; omega)).1 hj
  rw [← d] at hper
  have hzL := pz_size s j L hLs
  have hq := (pz_per (s := s.extract j (j + L)) (by omega)).2 P c1 hper
  have hT : L * p ≤ n * perN (s.extract j (j + L)) := b L j (by omega) (by omega) hLs
  have hB : L * p ≤ n * P := Nat.le_trans hT (Nat.mul_le_mul_left n hq)
  have hE : n * P = L * p := by omega
  have hnL : n ≤ L := by
    by_cases hh : L < n
    · have h1 : L * p < n * perN (s.extract j (j + L)) := hf L j (by omega) hh hLs
      have h2 : n * perN (s.extract j (j + L)) ≤ n * P := Nat.mul_le_mul_left n hq
      omega
    · omega
  have hPp : P ≤ p := by
    by_cases hh : p < P
    · have h1 := f p a2 hh
      have h2 : n * P ≤ (p + lpN s p) * P := Nat.mul_le_mul_right P (by omega)
      omega
    · omega
  have h1 : n * P ≤ L * P := Nat.mul_le_mul_right P hnL
  have h2 : L * P ≤ L * p := Nat.mul_le_mul_left L hPp
  have h3 : n * P = L * P := by omega
  have h4 : L * P = L * p := by omega
  have e1 : n = L := Nat.eq_of_mul_eq_mul_right (by omega) h3
  have e2 : P = p := Nat.eq_of_mul_eq_mul_left (by omega) h4
  rw [e1, e2]
end Go.Proofs.Ytefdciaijjgieaa

/- Words without squares: the square at an end, the words with a letter more. No program in it. -/
namespace Go.Proofs.Ytefdciaijjgieaa
open Go.RowKit

/-! ### the square at an end -/
theorem ex_ex (s : ByteArray) (a b e : Nat) (h : b ≤ e) : (s.extract 0 e).extract a b = s.extract a b := by
  apply bytes_ext
  rw [ByteArray.toList_eq, ByteArray.toList_eq, ByteArray.data_extract, ByteArray.data_extract, ByteArray.data_extract, Array.toList_extract, Array.toList_extract, Array.toList_extract, List.extract_eq_take_drop, List.extract_eq_take_drop, List.extract_eq_take_drop, List.drop_zero, List.drop_take, List.take_take]
  congr 1
  omega
theorem end_pre {s : ByteArray} {e h : Nat} (he : e ≤ s.size) : SqEnd (s.extract 0 e) (s.extract 0 e).size h ↔ SqEnd s e h := by
  have hz : (s.extract 0 e).size = e := by rw [ByteArray.size_extract]; omega
  rw [hz]
  unfold SqEnd
  rw [ex_ex s _ _ e (Nat.sub_le _ _), ex_ex s _ _ e (Nat.le_refl _), hz]
  constructor
  · rintro ⟨a, b, _, d⟩; exact ⟨a, b, he, d⟩
  · rintro ⟨a, b, _, d⟩; exact ⟨a, b, Nat.le_refl _, d⟩
/-- the half of the shortest square at the end, 0 if there is none -/
noncomputable def heN (s : ByteArray) : Nat := if firstP (SqEnd s s.size) 1 (s.size / 2) ≤ s.size / 2 then firstP (SqEnd s s.size) 1 (s.size / 2) else 0
theorem he_at {s : ByteArray} {h : Nat} (h1 : SqEnd s s.size h) (h2 : ∀ r, 1 ≤ r → r < h → ¬ SqEnd s s.size r) : heN s = h := by
  have e1 : firstP (SqEnd s s.size) 1 (s.size / 2) = h := firstP_eq _ _ _ h1.1 (by have := h1.2.1; omega) h2 h1
  unfold heN
  rw [e1, if_pos (by have := h1.2.1; omega)]
theorem he_none {s : ByteArray} (h : ∀ r, ¬ SqEnd s s.size r) : heN s = 0 := by
  have e1 : firstP (SqEnd s s.size) 1 (s.size / 2) = 1 + s.size / 2 := firstP_none _ _ (fun r _ _ => h r)
  unfold heN
  rw [e1, if_neg (by omega)]
theorem he_spec (s : ByteArray) : (heN s = 0 ∧ ∀ r, ¬ SqEnd s s.size r) ∨ (1 ≤ heN s ∧ SqEnd s s.size (heN s) ∧ ∀ r, r < heN s → ¬ SqEnd s s.size r) := by
  by_cases hn : ∃ h, SqEnd s s.size h
  · obtain ⟨h, hh⟩ := hn
    obtain ⟨p1, p2⟩ := firstP_spec (P := SqEnd s s.size) (s.size / 2) 1 ⟨h, hh.1, by have := hh.2.1; omega, hh⟩
    have hmin : ∀ r, r < firstP (SqEnd s s.size) 1 (s.size / 2) → ¬ SqEnd s s.size r := fun r hr hsq => by have := p2 r hsq.1 hsq; omega
    have := he_at p1 (fun r _ hr => hmin r hr)
    rw [this]
    exact .inr ⟨p1.1, p1, hmin⟩
  · exact .inl ⟨he_none fun r hr => hn ⟨r, hr⟩, fun r hr => hn ⟨r, hr⟩⟩
theorem he_le (s : ByteArray) : heN s ≤ s.size := by
  rcases he_spec s with ⟨h, _⟩ | ⟨_, h, _⟩
  · omega
  · have := h.2.1; omega
theorem suffix_end {s : ByteArray} {n : Nat} (h1 : 1 ≤ n) (h2 : 2 * n ≤ s.size) : Lib.hasSuffix (s.extract 0 (s.size - n)).data.toList (s.extract (s.size - n) s.size).data.toList = true ↔ SqEnd s s.size n := by
  have z1 : (s.extract 0 (s.size - n)).size = s.size - n := by rw [ByteArray.size_extract]; omega
  have z2 : (s.extract (s.size - n) s.size).size = n := by rw [ByteArray.size_extract]; omega
  rw [← Lib.hasSuffix_raw, z1, z2, ex_ex s _ _ _ (Nat.le_refl _), decide_eq_true (show n ≤ s.size - n by omega), Bool.true_and, beq_iff_eq]
  unfold SqEnd
  rw [show s.size - n - n = s.size - 2 * n by omega]
  constructor
  · intro h; exact ⟨h1, h2, Nat.le_refl _, bytes_ext h⟩
  · rintro ⟨_, _, _, h⟩; rw [h]
/-- what FirstSquare finds at the first end with a square -/
theorem fsq_he {s : ByteArray} {e : Nat} (hw : wordB s = true) (he : e ≤ s.size) (h1 : 1 ≤ heN (s.extract 0 e)) (h2 : ∀ e', e' < e → heN (s.extract 0 e') = 0) : fsqR1 s = (e : Int) ∧ fsqR2 s = (heN (s.extract 0 e) : Int) := by
  rcases he_spec (s.extract 0 e) with ⟨h, _⟩ | ⟨_, a, b⟩
  · omega
  · refine fsq_found hw ((end_pre he).1 a) (fun e' he' h' hh => ?_) (fun h' hh' hh => b h' hh' ((end_pre he).2 hh))
    rcases he_spec (s.extract 0 e') with ⟨_, c⟩ | ⟨c, _⟩
    · exact c h' ((end_pre (by omega)).2 hh)
    · have := h2 e' he'; omega
theorem fsq_no {s : ByteArray} (h2 : ∀ e', e' ≤ s.size → heN (s.extract 0 e') = 0) : fsqR1 s = -1 ∧ fsqR2 s = -1 := by
  refine fsq_none fun e h hh => ?_
  have he := hh.2.2.1
  rcases he_spec (s.extract 0 e) with ⟨_, c⟩ | ⟨c, _⟩
  · exact c h ((end_pre he).2 hh)
  · have := h2 e he; omega

/-! ### a letter more -/
/-- the words with one more of the first j letters that have no square -/
noncomputable def sflTo (s : ByteArray) : Nat → List ByteArray
  | 0 => []
  | j + 1 => if freeR (s ++ ⟨#[letterN j]⟩) 1 0 = true then sflTo s j ++ [s ++ ⟨#[letterN j]⟩] else sflTo s j
theorem sfl_yes {s : ByteArray} {j : Nat} (h : freeR (s ++ ⟨#[letterN j]⟩) 1 0 = true) : sflTo s (j + 1) = sflTo s j ++ [s ++ ⟨#[letterN j]⟩] := if_pos h
theorem sfl_no {s : ByteArray} {j : Nat} (h : freeR (s ++ ⟨#[letterN j]⟩) 1 0 = false) : sflTo s (j + 1) = sflTo s j := if_neg (by rw [h]; decide)
theorem sfl_len (s : ByteArray) : ∀ j, (sflTo s j).length ≤ j
  | 0 => Nat.le_refl _
  | j + 1 => by
    have ih := sfl_len s j
    cases h : freeR (s ++ ⟨#[letterN j]⟩) 1 0
    · rw [sfl_no h]; omega
    · rw [sfl_yes h, List.length_append]
      show _ + 1 ≤ _
      omega
theorem sfl_mem (s : ByteArray) : ∀ j x, x ∈ sflTo s j → x.size = s.size + 1 ∧ freeR x 1 0 = true
  | 0, x, h => by cases h
  | j + 1, x, hx => by
    have ih := sfl_mem s j x
    cases h : freeR (s ++ ⟨#[letterN j]⟩) 1 0
    · rw [sfl_no h] at hx; exact ih hx
    · rw [sfl_yes h, List.mem_append, List.mem_singleton] at hx
      rcases hx with hx | rfl
      · exact ih hx
      · exact ⟨more_size s j, h⟩
theorem word_pre {s x : ByteArray} (h : s.data.toList <+: x.data.toList) (hw : wordB x = true) : wordB s = true := by
  have hz : s.size ≤ x.size := by have := h.length_le; simpa using this
  unfold wordB at hw ⊢
  rw [Bool.and_eq_true, decide_eq_true_eq, List.all_eq_true] at hw ⊢
  exact ⟨by omega, fun c hc => hw.2 c (h.subset hc)⟩
theorem word_more {s : ByteArray} {j : Nat} (hw : wordB s = true) (hs : s.size < 400) (hj : j ≤ 3) : wordB (s ++ ⟨#[letterN j]⟩) = true := by
  have hz := more_size s j
  unfold wordB at hw ⊢
  rw [Bool.and_eq_true, decide_eq_true_eq, List.all_eq_true] at hw ⊢
  refine ⟨by omega, fun c hc => ?_⟩
  rw [ByteArray.data_append, Array.toList_append, List.mem_append] at hc
  rcases hc with hc | hc
  · exact hw.2 c hc
  · have : c = letterN j := by simpa using hc
    rw [this]
    rcases (show j = 0 ∨ j = 1 ∨ j = 2 ∨ j = 3 by omega) with e | e | e | e <;> subst e <;> rfl
theorem free_word {s : ByteArray} {n e : Nat} (h : freeR s n e = true) : wordB s = true := by
  unfold freeR at h
  rw [Bool.and_eq_true] at h
  exact h.1
theorem more_free {s : ByteArray} {j : Nat} (h : freeR (s ++ ⟨#[letterN j]⟩) 1 0 = true) : freeR s 1 0 = true :=
  free_pre (more_pre s _) (word_pre (more_pre s _) (free_word h)) h
theorem free_more {s : ByteArray} {j : Nat} (h : freeR s 1 0 = true) : freeR (s ++ ⟨#[letterN j]⟩) 1 0 = extB s j := by
  cases hb : extB s j
  · cases hf : freeR (s ++ ⟨#[letterN j]⟩) 1 0
    · rfl
    · exfalso
      unfold extB at hb
      rw [free_word hf, Bool.true_and, Bool.not_eq_false'] at hb
      obtain ⟨p, hp⟩ := (endsB_iff _).1 hb
      unfold freeR at hf
      rw [Bool.and_eq_true, Bool.not_eq_true'] at hf
      rw [(pz_rep1 _).2 ⟨_, p, ((pz_end _ _ p).1 hp).2.2⟩] at hf
      cases hf.2
  · exact ext_free h hb
theorem sfl_none {s : ByteArray} (h : freeR s 1 0 = false) : ∀ j, sflTo s j = []
  | 0 => rfl
  | j + 1 => by
    cases hf : freeR (s ++ ⟨#[letterN j]⟩) 1 0
    · rw [sfl_no hf]; exact sfl_none h j
    · rw [more_free hf] at h; cases h
/-- the first of them is what ExtendSquareFree is to return -/
theorem ext_sfl (s : ByteArray) : extR s = (sflTo s 3).headD ⟨#[]⟩ := by
  cases h : freeR s 1 0
  · rw [sfl_none h]
    unfold extR
    rw [h]
    rfl
  · have hx : extR s = extF s 0 3 := if_pos h
    rw [hx]
    cases h0 : extB s 0
    · have e1 : sflTo s 1 = [] := sfl_no (by rw [free_more h, h0])
      rw [show extF s 0 3 = extF s 1 2 from extF_no h0]
      cases h1 : extB s 1
      · have e2 : sflTo s 2 = [] := by rw [show sflTo s 2 = sflTo s 1 from sfl_no (by rw [free_more h, h1]), e1]
        rw [show extF s 1 2 = extF s 2 1 from extF_no h1]
        cases h2 : extB s 2
        · rw [show sflTo s 3 = sflTo s 2 from sfl_no (by rw [free_more h, h2]), e2, show extF s 2 1 = extF s 3 0 from extF_no h2]
          rfl
        · rw [show sflTo s 3 = _ from sfl_yes (by rw [free_more h, h2]), e2, show extF s 2 1 = _ from extF_yes h2]
          rfl
      · have e2 : sflTo s 2 = [s ++ ⟨#[letterN 1]⟩] := by rw [show sflTo s 2 = _ from sfl_yes (by rw [free_more h, h1]), e1]; rfl
        rw [show extF s 1 2 = _ from extF_yes h1]
        cases h2 : freeR (s ++ ⟨#[letterN 2]⟩) 1 0
        · rw [show sflTo s 3 = sflTo s 2 from sfl_no h2, e2]; rfl
        · rw [show sflTo s 3 = _ from sfl_yes h2, e2]; rfl
    · have e1 : sflTo s 1 = [s ++ ⟨#[letterN 0]⟩] := sfl_yes (by rw [free_more h, h0])
      rw [show extF s 0 3 = _ from extF_yes h0]
      cases h1 : freeR (s ++ ⟨#[letterN 1]⟩) 1 0
      · have e2 : sflTo s 2 = sflTo s 1 := sfl_no h1
        cases h2 : freeR (s ++ ⟨#[letterN 2]⟩) 1 0
        · rw [show sflTo s 3 = sflTo s 2 from sfl_no h2, e2, e1]; rfl
        · rw [show sflTo s 3 = _ from sfl_yes h2, e2, e1]; rfl
      · have e2 : sflTo s 2 = sflTo s 1 ++ [s ++ ⟨#[letterN 1]⟩] := sfl_yes h1
        cases h2 : freeR (s ++ ⟨#[letterN 2]⟩) 1 0
        · rw [show sflTo s 3 = sflTo s 2 from sfl_no h2, e2, e1]; rfl
        · rw [show sflTo s 3 = _ from sfl_yes h2, e2, e1]; rfl
/-- the sum over the first i of a list -/
noncomputable def csum (L k : Nat) : List ByteArray → Nat
  | [] => 0
  | x :: l => cntW L k x + csum L k l
theorem csum_append (L k : Nat) : ∀ l m, csum L k (l ++ m) = csum L k l + csum L k m
  | [], m => by show csum L k m = 0 + _; omega
  | x :: l, m => by
    show cntW L k x + csum L k (l ++ m) = cntW L k x + csum L k l + csum L k m
    rw [csum_append L k l m]
    omega
theorem csum_snoc (L k : Nat) (l : List ByteArray) (i : Nat) (h : i < l.length) : csum L k (l.take (i + 1)) = csum L k (l.take i) + cntW L k l[i] := by
  rw [List.take_succ_eq_append_getElem h, csum_append]
  rfl
theorem csum_le (L k : Nat) (hL : L ≤ 3) : ∀ l : List ByteArray, csum L k l ≤ l.length * 3 ^ k
  | [] => Nat.zero_le _
  | x :: l => by
    have h1 := cntW_le L hL k x
    have h2 := csum_le L k hL l
    show cntW L k x + csum L k l ≤ (l.length + 1) * 3 ^ k
    rw [Nat.succ_mul]
    omega
/-- the count is the sum over the words with a letter more -/
theorem cnt_sfl {s : ByteArray} (L k : Nat) (hL : L ≤ 3) (h : freeR s 1 0 = true) (hs : s.size < 400) : cntW L (k + 1) s = csum L k (sflTo s L) := by
  show sumJ (fun j => if endsB (s ++ ⟨#[letterN j]⟩) = true then 0 else cntW L k (s ++ ⟨#[letterN j]⟩)) L = _
  have : ∀ j, j ≤ 3 → sumJ (fun j => if endsB (s ++ ⟨#[letterN j]⟩) = true then 0 else cntW L k (s ++ ⟨#[letterN j]⟩)) j = csum L k (sflTo s j) := by
    intro j
    induction j with
    | zero => intro _; rfl
    | succ j ih =>
      intro hj
      show sumJ _ j + (if endsB (s ++ ⟨#[letterN j]⟩) = true then 0 else cntW L k (s ++ ⟨#[letterN j]⟩)) = _
      rw [ih (by omega)]
      have hf := free_more (j := j) h
      unfold extB at hf
      rw [word_more (free_word h) hs (by omega), Bool.true_and] at hf
      cases he : endsB (s ++ ⟨#[letterN j]⟩)
      · rw [he] at hf
        rw [sfl_yes hf, csum_append, if_neg (by decide)]
        rfl
      · rw [he] at hf
        rw [sfl_no hf, if_pos rfl]
        rfl
  exact this L hL
/-- the first letters of the alphabet -/
def abcN (L : Nat) : ByteArray := (⟨#[97, 98, 99]⟩ : ByteArray).extract 0 L
theorem abc_size {L : Nat} (h : L ≤ 3) : (abcN L).size = L := by
  unfold abcN
  rw [ByteArray.size_extract]
  have : (⟨#[97, 98, 99]⟩ : ByteArray).size = 3 := rfl
  omega
theorem abc_at {L j : Nat} (h : L ≤ 3) (hj : j < (abcN L).size) : (abcN L)[j] = letterN j := by
  rw [abc_size h] at hj
  rcases (show (L = 1 ∧ j = 0) ∨ (L = 2 ∧ j = 0) ∨ (L = 2 ∧ j = 1) ∨ (L = 3 ∧ j = 0) ∨ (L = 3 ∧ j = 1) ∨ (L = 3 ∧ j = 2) by omega) with ⟨rfl, rfl⟩ | ⟨rfl, rfl⟩ | ⟨rfl, rfl⟩ | ⟨rfl, rfl⟩ | ⟨rfl, rfl⟩ | ⟨rfl, rfl⟩ <;> rfl
theorem letter_code {j : Nat} (h : j ≤ 2) : Utf8.encode ((letterN j).toNat : Int) = ⟨#[letterN j]⟩ := by
  rcases (show j = 0 ∨ j = 1 ∨ j = 2 by omega) with e | e | e <;> subst e <;> decide
end Go.Proofs.Ytefdciaijjgieaa

/- The longest part with a period, in the program; hasPower; IsSquareFree, IsCubeFree, IsOverlapFree, LeastPeriod, LongestRun. Conditions: lengths. -/
namespace Go.Proofs.Ytefdciaijjgieaa
open Go.RowKit

set_option maxHeartbeats 1000000 in
theorem implLwp (s : ByteArray) (p : Nat) (w : World) (hs : s.size ≤ 400) (h1 : 1 ≤ p) (h2 : p ≤ s.size) :
    Calls Try.prog 51 #[.string s, .int .i64 (p : Int)] w fun e w' => e = .returned (.int .i64 ((p + lpN s p : Nat) : Int)) ∧ Below w.heap.size w w' := by
  have HV : Hid (lpN s p = (lpTo s p (s.size - p)).1) := rfl
  rw [HV.out]
  clear HV
  have HY := Lib.hid (fun i h => lp_yes (s := s) (p := p) (i := i) h)
  have HN := Lib.hid (fun i h => lp_no (s := s) (p := p) (i := i) h)
  have HLE := Lib.hid (lp_le s p)
  have HZ : Hid (lpTo s p 0 = (0, 0)) := rfl
  generalize lpTo s p = f at HY HN HLE HZ ⊢
  go_enter Try.func51, Try.ntmps51
  go_wp2_with fail
  go_loopw [5, 6, 14] (fun a b c w' => ∃ i : Nat, i ≤ s.size - p ∧ a = .int .i64 ((p + (f i).1 : Nat) : Int) ∧ b = .int .i64 ((p + (f i).2 : Nat) : Int) ∧ c = .int .i64 (i : Int) ∧ Below w.heap.size w w') (fun _ _ c _ => s.size - (intOf c).toNat)
  case atStart => exact ⟨0, by omega, by rw [HZ.out]; rfl, by rw [HZ.out]; rfl, rfl, Below.refl _ _⟩
  case round =>
    obtain ⟨i, hi, rfl, rfl, rfl, hb⟩ := hrel
    obtain ⟨wo, rfl⟩ : ∃ y : World, y = wr := ⟨_, rfl⟩
    have HB := Lib.hid hb
    have hle := HLE.out i
    clear hb
    by_cases hip : i + p < s.size
    · have hi0 : i < s.size := by omega
      have hq1 : IntKind.i64.wrap ((i : Int) + (p : Int)) = (i : Int) + (p : Int) := IntWalk.i64_in _ (by omega)
      have hix : ∀ w : World, (Instr.index 48 (.string s) (.int .i64 (i : Int))).run Try.prog w = .ok (.int .u8 (s[i].toNat : Int)) w := fun w => index_at Try.underlying48 s _ i w hi0 rfl
      have hiy : ∀ w : World, (Instr.index 48 (.string s) (.int .i64 ((i : Int) + (p : Int)))).run Try.prog w = .ok (.int .u8 (s[i + p].toNat : Int)) w := fun w => index_at Try.underlying48 s _ (i + p) w hip (by omega)
      by_cases hc : s[i] = s[i + p]
      · have HF := Lib.hid (HY.out i ((same_at s i (i + p) hi0 hip).2 hc))
        rw [← hc] at hiy
        clear hc
        generalize s[i] = x at hix hiy
        generalize f i = y at hle HF ⊢
        obtain ⟨a, b⟩ := y
        simp only at hle ⊢
        go_wp2_with fail
        go_region
        go_wp2_with fail
        go_roundw
        case rel => exact ⟨i + 1, by omega, by rw [HF.out]; refine congrArg _ ?_; simp only; omega, by rw [HF.out]; refine congrArg _ ?_; simp only; omega, by go_num, below_drewN HB.out 1⟩
        case measure => simp [intOf]; omega
      · have HF := Lib.hid (HN.out i fun h => hc ((same_at s i (i + p) hi0 hip).1 h))
        have bne : (((s[i]).toNat : Int) == ((s[i + p]).toNat : Int)) = false := (num_other _ _).2 hc
        have bne2 : ¬ (s[i]).toNat = (s[i + p]).toNat := fun h => hc (UInt8.toNat.inj h)
        clear hc
        generalize s[i] = x at hix bne bne2
        generalize s[i + p] = z at hiy bne bne2
        generalize f i = y at hle HF ⊢
        obtain ⟨a, b⟩ := y
        simp only at hle ⊢
        go_wp2_with fail
        go_region
        go_wp2_with fail
        go_roundw
        case rel => exact ⟨i + 1, by omega, by rw [HF.out]; refine congrArg _ ?_; simp only; omega, by rw [HF.out]; refine congrArg _ ?_; simp only; omega, by go_num, below_drewN HB.out 1⟩
        case measure => simp [intOf]; omega
    · have HE : Hid (f i = f (s.size - p)) := by show _ = _; rw [show i = s.size - p by omega]
      go_wp2_with fail
      go_ret
      exact ⟨ret_int (by rw [HE.out]), HB.out⟩

set_option maxHeartbeats 1000000 in
theorem implHasPower (s : ByteArray) (t n e : Nat) (w : World) (hs : s.size ≤ 400) (ht : t = n + 1) (hn : n = 1 ∨ n = 2) (he : e ≤ 1) :
    Calls Try.prog 49 #[.string s, .int .i64 (t : Int), .int .i64 (e : Int)] w fun r w' => r = .returned (.bool (repB s n e)) ∧ Below w.heap.size w w' := by
  have HY : Hid (∀ p, 1 ≤ p → p ≤ s.size → n * p + e ≤ lpN s p → repB s n e = true) := fun p h1 h2 h3 => (rep_lp s n e).2 ⟨p, h1, h2, h3⟩
  have HNO : Hid ((∀ p, 1 ≤ p → p ≤ s.size → ¬ n * p + e ≤ lpN s p) → repB s n e = false) := fun h => by
    cases hb : repB s n e
    · rfl
    · obtain ⟨p, h1, h2, h3⟩ := (rep_lp s n e).1 hb
      exact absurd h3 (h p h1 h2)
  have HL := Lib.hid (fun p w (h : 1 ≤ p ∧ p ≤ s.size) => implLwp s p w hs h.1 h.2)
  have HLE := Lib.hid (lpN_le s)
  have HT := Lib.hid ht
  clear ht
  generalize repB s n e = rb at HY HNO
  generalize lpN s = f at HY HNO HL HLE
  go_enter Try.func49, Try.ntmps49
  go_wp2_with fail
  go_loopw [11] (fun c w' => ∃ i : Nat, i ≤ s.size ∧ c = .int .i64 (i : Int) ∧ (∀ p, 1 ≤ p → p ≤ i → ¬ n * p + e ≤ f p) ∧ Below w.heap.size w w') (fun c _ => s.size - (intOf c).toNat)
  case atStart => exact ⟨0, by omega, rfl, fun p a b => absurd b (by omega), Below.refl _ _⟩
  case round =>
    obtain ⟨i, hi, rfl, hno, hb⟩ := hrel
    obtain ⟨wo, rfl⟩ : ∃ y : World, y = wr := ⟨_, rfl⟩
    have HN := Lib.hid hno
    have HB := Lib.hid hb
    clear hno hb
    by_cases hlt : i < s.size
    · have HLI := Lib.hid (fun w => HL.out (i + 1) w ⟨by omega, by omega⟩)
      have e1 : ((i + 1 : Nat) : Int) = (i : Int) + 1 := by omega
      have hle := HLE.out (i + 1)
      have HYI := Lib.hid (HY.out (i + 1) (by omega) (by omega))
      have HNI : Hid (¬ n * (i + 1) + e ≤ f (i + 1) → ∀ p, 1 ≤ p → p ≤ i + 1 → ¬ n * p + e ≤ f p) := fun h p h1 h2 => by
        by_cases hp : p = i + 1
        · subst hp; exact h
        · exact HN.out p h1 (by omega)
      have hmul : (t : Int) * ((i : Int) + 1) = ((n * (i + 1) + (i + 1) : Nat) : Int) := by rw [HT.out, ← e1, ← Int.natCast_mul, Nat.succ_mul]
      have hnp : n * (i + 1) ≤ 2 * (i + 1) := Nat.mul_le_mul_right _ (by omega)
      rw [e1] at HLI
      generalize n * (i + 1) = np at hmul HYI HNI hnp
      generalize f (i + 1) = m at HLI hle HYI HNI
      by_cases hgo : np + e ≤ m
      · have HRB : Hid (rb = true) := HYI.out hgo
        go_wp2_with fail
        refine (HLI.out _).mono ?_
        rintro r w2 ⟨rfl, hb⟩
        have HB2 : Hid (Below w.heap.size w w2) := HB.out.trans (hb.mono HB.out.size)
        clear hb
        go_wp2_with fail
        go_ret
        exact ⟨ret_bool HRB.out.symm, HB2.out⟩
      · have HNX := Lib.hid (HNI.out hgo)
        go_wp2_with fail
        refine (HLI.out _).mono ?_
        rintro r w2 ⟨rfl, hb⟩
        have HB2 : Hid (Below w.heap.size w w2) := HB.out.trans (hb.mono HB.out.size)
        clear hb
        go_wp2_with fail
        go_roundw
        case rel => exact ⟨i + 1, by omega, by go_num, HNX.out, HB2.out⟩
        case measure => simp [intOf]; omega
    · have HRB : Hid (rb = false) := HNO.out fun p h1 h2 => HN.out p h1 (by omega)
      go_wp2_with fail
      go_ret
      exact ⟨ret_bool HRB.out.symm, HB.out⟩
theorem implWordOkB (s : ByteArray) (w : World) (hs : s.size ≤ 1048577) :
    Calls Try.prog 46 #[.string s] w fun e w' => e = .returned (.bool (wordB s)) ∧ Below w.heap.size w w' := by
  by_cases hl : s.size ≤ 1048576
  · exact implWordOk s w hl
  · have HE := Lib.hid (word_long (s := s) (by omega))
    have HO : Hid (∀ w, Calls Try.prog 71 #[.string s] w fun e w' => e = .returned (.bool false) ∧ Below w.heap.size w w') := by
      show ∀ w, _
      intro w
      go_enter Try.func71, Try.ntmps71
      go_wp2
      go_ret
      exact ⟨rfl, Below.refl _ _⟩
    go_enter Try.func46, Try.ntmps46
    go_wp2_with fail
    refine (HO.out _).mono ?_
    rintro e w' ⟨rfl, hb⟩
    go_wp2_with fail
    go_ret
    exact ⟨ret_bool HE.out.symm, hb⟩

theorem implIsSquareFree (s : ByteArray) (w : World) (hs : s.size ≤ 1048577) :
    Calls Try.prog 16 #[.string s] w fun e w' => e = .returned (.bool (freeR s 1 0)) ∧ Below w.heap.size w w' := by
  have HR : Hid (freeR s 1 0 = (wordB s && !repB s 1 0)) := rfl
  cases hw : wordB s
  · have HW := Lib.hid hw
    have HV : Hid (freeR s 1 0 = false) := by show freeR s 1 0 = false; rw [HR.out, hw]; rfl
    clear hw HR
    go_enter Try.func16, Try.ntmps16
    go_wp2_with fail
    refine (implWordOkB s _ hs).mono ?_
    rintro e w1 ⟨rfl, hb1⟩
    have HB := Lib.hid hb1
    rw [HW.out]
    clear hb1
    go_wp2_with fail
    go_ret
    exact ⟨ret_bool HV.out.symm, HB.out⟩
  · have HW := Lib.hid hw
    have HV : Hid (freeR s 1 0 = !repB s 1 0) := by show freeR s 1 0 = _; rw [HR.out, hw]; rfl
    have HP := Lib.hid (fun w => implHasPower s 2 1 0 w (word_size hw) rfl (by omega) (by omega))
    clear hw HR
    generalize repB s 1 0 = rb at HV HP
    go_enter Try.func16, Try.ntmps16
    go_wp2_with fail
    refine (implWordOkB s _ hs).mono ?_
    rintro e w1 ⟨rfl, hb1⟩
    have HB := Lib.hid hb1
    rw [HW.out]
    clear hb1
    go_wp2_with fail
    refine (HP.out _).mono ?_
    rintro e w2 ⟨rfl, hb2⟩
    have HB2 : Hid (Below w.heap.size w w2) := HB.out.trans (hb2.mono HB.out.size)
    clear hb2
    go_wp2_with fail
    go_ret
    exact ⟨ret_bool HV.out.symm, HB2.out⟩

theorem implIsCubeFree (s : ByteArray) (w : World) (hs : s.size ≤ 1048577) :
    Calls Try.prog 21 #[.string s] w fun e w' => e = .returned (.bool (freeR s 2 0)) ∧ Below w.heap.size w w' := by
  have HR : Hid (freeR s 2 0 = (wordB s && !repB s 2 0)) := rfl
  cases hw : wordB s
  · have HW := Lib.hid hw
    have HV : Hid (freeR s 2 0 = false) := by show freeR s 2 0 = false; rw [HR.out, hw]; rfl
    clear hw HR
    go_enter Try.func21, Try.ntmps21
    go_wp2_with fail
    refine (implWordOkB s _ hs).mono ?_
    rintro e w1 ⟨rfl, hb1⟩
    have HB := Lib.hid hb1
    rw [HW.out]
    clear hb1
    go_wp2_with fail
    go_ret
    exact ⟨ret_bool HV.out.symm, HB.out⟩
  · have HW := Lib.hid hw
    have HV : Hid (freeR s 2 0 = !repB s 2 0) := by show freeR s 2 0 = _; rw [HR.out, hw]; rfl
    have HP := Lib.hid (fun w => implHasPower s 3 2 0 w (word_size hw) rfl (by omega) (by omega))
    clear hw HR
    generalize repB s 2 0 = rb at HV HP
    go_enter Try.func21, Try.ntmps21
    go_wp2_with fail
    refine (implWordOkB s _ hs).mono ?_
    rintro e w1 ⟨rfl, hb1⟩
    have HB := Lib.hid hb1
    rw [HW.out]
    clear hb1
    go_wp2_with fail
    refine (HP.out _).mono ?_
    rintro e w2 ⟨rfl, hb2⟩
    have HB2 : Hid (Below w.heap.size w w2) := HB.out.trans (hb2.mono HB.out.size)
    clear hb2
    go_wp2_with fail
    go_ret
    exact ⟨ret_bool HV.out.symm, HB2.out⟩

theorem implIsOverlapFree (s : ByteArray) (w : World) (hs : s.size ≤ 1048577) :
    Calls Try.prog 20 #[.string s] w fun e w' => e = .returned (.bool (freeR s 1 1)) ∧ Below w.heap.size w w' := by
  have HR : Hid (freeR s 1 1 = (wordB s && !repB s 1 1)) := rfl
  cases hw : wordB s
  · have HW := Lib.hid hw
    have HV : Hid (freeR s 1 1 = false) := by show freeR s 1 1 = false; rw [HR.out, hw]; rfl
    clear hw HR
    go_enter Try.func20, Try.ntmps20
    go_wp2_with fail
    refine (implWordOkB s _ hs).mono ?_
    rintro e w1 ⟨rfl, hb1⟩
    have HB := Lib.hid hb1
    rw [HW.out]
    clear hb1
    go_wp2_with fail
    go_ret
    exact ⟨ret_bool HV.out.symm, HB.out⟩
  · have HW := Lib.hid hw
    have HV : Hid (freeR s 1 1 = !repB s 1 1) := by show freeR s 1 1 = _; rw [HR.out, hw]; rfl
    have HP := Lib.hid (fun w => implHasPower s 2 1 1 w (word_size hw) rfl (by omega) (by omega))
    clear hw HR
    generalize repB s 1 1 = rb at HV HP
    go_enter Try.func20, Try.ntmps20
    go_wp2_with fail
    refine (implWordOkB s _ hs).mono ?_
    rintro e w1 ⟨rfl, hb1⟩
    have HB := Lib.hid hb1
    rw [HW.out]
    clear hb1
    go_wp2_with fail
    refine (HP.out _).mono ?_
    rintro e w2 ⟨rfl, hb2⟩
    have HB2 : Hid (Below w.heap.size w w2) := HB.out.trans (hb2.mono HB.out.size)
    clear hb2
    go_wp2_with fail
    go_ret
    exact ⟨ret_bool HV.out.symm, HB2.out⟩

set_option maxHeartbeats 400000 in
theorem implLeastPeriod (s : ByteArray) (w : World) (hs : s.size ≤ 1048576) :
    Calls Try.prog 38 #[.string s] w fun e w' => e = .returned (.int .i64 (perR s)) ∧ Below w.heap.size w w' := by
  cases hw : wordB s
  · have HW := Lib.hid hw
    have HV : Hid (perR s = -1) := by show _ = _; unfold perR; rw [hw]; rfl
    clear hw
    go_enter Try.func38, Try.ntmps38
    go_wp2_with fail
    refine (implWordOk s _ hs).mono ?_
    rintro e w1 ⟨rfl, hb⟩
    have HB := Lib.hid hb
    rw [HW.out]
    clear hb
    go_wp2_with fail
    go_ret
    exact ⟨ret_int HV.out.symm, HB.out⟩
  · have HW := Lib.hid hw
    have h4 := word_size hw
    have HV : Hid (perR s = if s.size = 0 then 0 else (perN s : Int)) := if_pos hw
    have HP : Hid (∀ p, 1 ≤ p → p ≤ s.size → p + lpN s p = s.size → (∀ q, 1 ≤ q → q < p → ¬ q + lpN s q = s.size) → perR s = (p : Int)) := fun p h1 h2 h3 h5 => by
      rw [HV.out, if_neg (by omega)]
      rw [perN_spec h1 h2 ((per_lp h2).2 h3) (fun r a b c => h5 r a b ((per_lp (by omega)).1 c))]
    have H0 : Hid ((∀ q, 1 ≤ q → q ≤ s.size → ¬ q + lpN s q = s.size) → perR s = 0) := fun h => by
      rw [HV.out]
      by_cases h0 : s.size = 0
      · rw [if_pos h0]
      · exact absurd ((per_lp (Nat.le_refl _)).1 (per_size s)) (h s.size (by omega) (Nat.le_refl _))
    have HL := Lib.hid (fun p w (h : 1 ≤ p ∧ p ≤ s.size) => implLwp s p w h4 h.1 h.2)
    have HLE := Lib.hid (lpN_le s)
    clear hw HV
    generalize perR s = rv at HP H0 ⊢
    generalize lpN s = f at HP H0 HL HLE
    go_enter Try.func38, Try.ntmps38
    go_wp2_with fail
    refine (implWordOk s _ hs).mono ?_
    rintro e w1 ⟨rfl, hb⟩
    have HB1 := Lib.hid hb
    rw [HW.out]
    clear hb
    go_wp2_with fail
    go_loopw [10] (fun c w' => ∃ i : Nat, i ≤ s.size ∧ c = .int .i64 (i : Int) ∧ (∀ q, 1 ≤ q → q ≤ i → ¬ q + f q = s.size) ∧ Below w.heap.size w w') (fun c _ => s.size - (intOf c).toNat)
    case atStart => exact ⟨0, by omega, rfl, fun p a b => absurd b (by omega), HB1.out⟩
    case round =>
      obtain ⟨i, hi, rfl, hno, hb⟩ := hrel
      obtain ⟨wo, rfl⟩ : ∃ y : World, y = wr := ⟨_, rfl⟩
      have HN := Lib.hid hno
      have HB := Lib.hid hb
      clear hno hb
      by_cases hlt : i < s.size
      · have HLI := Lib.hid (fun w => HL.out (i + 1) w ⟨by omega, by omega⟩)
        have e1 : ((i + 1 : Nat) : Int) = (i : Int) + 1 := by omega
        have hle := HLE.out (i + 1)
        have HYI := Lib.hid (fun h => HP.out (i + 1) (by omega) (by omega) h (fun q a b => HN.out q a (by omega)))
        have HNI : Hid (¬ i + 1 + f (i + 1) = s.size → ∀ q, 1 ≤ q → q ≤ i + 1 → ¬ q + f q = s.size) := fun h q h1 h2 => by
          by_cases hq : q = i + 1
          · subst hq; exact h
          · exact HN.out q h1 (by omega)
        rw [e1] at HLI
        generalize f (i + 1) = m at HLI hle HYI HNI
        by_cases hgo : i + 1 + m = s.size
        · have HRB := Lib.hid (HYI.out hgo)
          have beq : (((i + 1 + m : Nat) : Int) == (s.size : Int)) = true := by rw [beq_iff_eq]; omega
          go_wp2_with fail
          refine (HLI.out _).mono ?_
          rintro r w2 ⟨rfl, hb⟩
          have HB2 : Hid (Below w.heap.size w w2) := HB.out.trans (hb.mono HB.out.size)
          clear hb
          rw [hgo]
          clear hgo beq
          go_wp2_with fail
          go_ret
          exact ⟨ret_int (by rw [HRB.out, e1]), HB2.out⟩
        · have HNX := Lib.hid (HNI.out hgo)
          have bne : (((i + 1 + m : Nat) : Int) == (s.size : Int)) = false := by rw [beq_eq_false_iff_ne]; omega
          go_wp2_with fail
          refine (HLI.out _).mono ?_
          rintro r w2 ⟨rfl, hb⟩
          have HB2 : Hid (Below w.heap.size w w2) := HB.out.trans (hb.mono HB.out.size)
          clear hb
          obtain ⟨k, hk⟩ : ∃ k, i + 1 + m = k := ⟨_, rfl⟩
          rw [hk] at hgo bne ⊢
          clear hk
          go_wp2_with fail
          go_roundw
          case rel => exact ⟨i + 1, by omega, by go_num, HNX.out, HB2.out⟩
          case measure => simp [intOf]; omega
      · have HRB : Hid (rv = 0) := H0.out fun p h1 h2 => HN.out p h1 (by omega)
        go_wp2_with fail
        go_ret
        exact ⟨ret_int HRB.out.symm, HB.out⟩

set_option maxHeartbeats 400000 in
theorem implLongestRun (s : ByteArray) (w : World) (hs : s.size ≤ 1048576) :
    Calls Try.prog 23 #[.string s] w fun e w' => e = .returned (.int .i64 (lrR s)) ∧ Below w.heap.size w w' := by
  cases hw : wordB s
  · have HW := Lib.hid hw
    have HV : Hid (lrR s = -1) := by show _ = _; unfold lrR; rw [hw]; rfl
    clear hw
    go_enter Try.func23, Try.ntmps23
    go_wp2_with fail
    refine (implWordOk s _ hs).mono ?_
    rintro e w1 ⟨rfl, hb⟩
    have HB := Lib.hid hb
    rw [HW.out]
    clear hb
    go_wp2_with fail
    go_ret
    exact ⟨ret_int HV.out.symm, HB.out⟩
  · have HW := Lib.hid hw
    by_cases h0 : s.size = 0
    · have HV : Hid (lrR s = 0) := by
        show lrR s = 0
        unfold lrR
        rw [hw, if_pos rfl, h0]
        rfl
      have be : s = ⟨#[]⟩ := by
        apply bytes_ext
        rw [ByteArray.toList_eq, ByteArray.toList_eq]
        exact List.eq_nil_of_length_eq_zero (by simpa using h0)
      subst be
      clear hw h0
      go_enter Try.func23, Try.ntmps23
      go_wp2_with fail
      refine (implWordOk _ _ hs).mono ?_
      rintro e w1 ⟨rfl, hb⟩
      have HB := Lib.hid hb
      rw [HW.out]
      clear hb
      go_wp2_with fail
      go_ret
      exact ⟨ret_int HV.out.symm, HB.out⟩
    · have HV : Hid (lrR s = ((1 + lpN s 1 : Nat) : Int)) := by
        show lrR s = _
        unfold lrR
        rw [hw, if_pos rfl, lr_one (by omega)]
      have be : s.toList.isEmpty = false := by
        cases hb : s.toList with
        | nil =>
          have e : s = ⟨#[]⟩ := bytes_ext (by rw [hb, ByteArray.toList_eq])
          exact absurd (by rw [e]; rfl) h0
        | cons _ _ => rfl
      have HL := Lib.hid (fun w => implLwp s 1 w (word_size hw) (by omega) (by omega))
      clear hw
      generalize 1 + lpN s 1 = m at HL HV
      go_enter Try.func23, Try.ntmps23
      go_wp2_with fail
      refine (implWordOk _ _ hs).mono ?_
      rintro e w1 ⟨rfl, hb⟩
      have HB := Lib.hid hb
      rw [HW.out]
      clear hb
      go_wp2_with fail
      refine (HL.out _).mono ?_
      rintro e w2 ⟨rfl, hb⟩
      have HB2 : Hid (Below w.heap.size w w2) := HB.out.trans (hb.mono HB.out.size)
      clear hb
      go_wp2_with fail
      go_ret
      exact ⟨ret_int HV.out.symm, HB2.out⟩
end Go.Proofs.Ytefdciaijjgieaa

/- The square at an end, in the program; FirstSquare. Conditions: lengths. -/
namespace Go.Proofs.Ytefdciaijjgieaa
open Go.RowKit

theorem half_lo {P : Program} {t : TypeId} (ht : P.underlying t = some .string) (s : ByteArray) (b : Int) (y : Nat) (w : World) (hb : b = y) (h : y ≤ s.size) :
    (Instr.slice t (.string s) none (some (.int .i64 b)) none).run P w = .ok (.string (s.extract 0 y)) w := by
  subst hb
  rw [run_slice_string_to_if (P := P) w t s .i64 (y : Int) ht, if_pos (by omega)]
  rfl
theorem half_hi {P : Program} {t : TypeId} (ht : P.underlying t = some .string) (s : ByteArray) (b : Int) (y : Nat) (w : World) (hb : b = y) (h : y ≤ s.size) :
    (Instr.slice t (.string s) (some (.int .i64 b)) none none).run P w = .ok (.string (s.extract y s.size)) w := by
  subst hb
  rw [run_slice_string_from_if (P := P) w t s .i64 (y : Int) ht, if_pos (by omega)]
  rfl

set_option maxHeartbeats 1000000 in
theorem implHalf (s : ByteArray) (w : World) (hs : s.size ≤ 400) :
    Calls Try.prog 50 #[.string s] w fun e w' => e = .returned (.int .i64 (heN s : Int)) ∧ Below w.heap.size w w' := by
  have HY := Lib.hid (fun h a b => he_at (s := s) (h := h) a b)
  have HN := Lib.hid (fun a => he_none (s := s) a)
  have HD : Hid ((s.size : Int).tdiv 2 = (s.size : Int) / 2) := Int.tdiv_eq_ediv_of_nonneg (by omega)
  generalize heN s = r at HY HN ⊢
  go_enter Try.func50, Try.ntmps50
  go_wp2_with fail
  go_loopw [10] (fun c w' => ∃ i : Nat, i ≤ s.size / 2 ∧ c = .int .i64 (i : Int) ∧ (∀ q, 1 ≤ q → q ≤ i → ¬ SqEnd s s.size q) ∧ Below w.heap.size w w') (fun c _ => s.size - (intOf c).toNat)
  case atStart => exact ⟨0, by omega, rfl, fun p a b => absurd b (by omega), Below.refl _ _⟩
  case round =>
    obtain ⟨i, hi, rfl, hno, hb⟩ := hrel
    obtain ⟨wo, rfl⟩ : ∃ y : World, y = wr := ⟨_, rfl⟩
    have HNO := Lib.hid hno
    have HB := Lib.hid hb
    clear hno hb
    by_cases hlt : i < s.size / 2
    · have hlt2 : (i : Int) < (s.size : Int).tdiv 2 := by rw [HD.out]; omega
      have hlt3 : (i : Int) < (s.size : Int) / 2 := by omega
      have hq1 : IntKind.i64.wrap ((s.size : Int) - ((i : Int) + 1)) = (s.size : Int) - ((i : Int) + 1) := IntWalk.i64_in _ (by omega)
      have hlo : ∀ w : World, (Instr.slice 48 (.string s) none (some (.int .i64 ((s.size : Int) - ((i : Int) + 1)))) none).run Try.prog w = .ok (.string (s.extract 0 (s.size - (i + 1)))) w := fun w => half_lo Try.underlying48 s _ _ w (by omega) (by omega)
      have hhi : ∀ w : World, (Instr.slice 48 (.string s) (some (.int .i64 ((s.size : Int) - ((i : Int) + 1)))) none none).run Try.prog w = .ok (.string (s.extract (s.size - (i + 1)) s.size)) w := fun w => half_hi Try.underlying48 s _ _ w (by omega) (by omega)
      have HS := Lib.hid (suffix_end (s := s) (n := i + 1) (by omega) (by omega))
      have hz : (s.extract 0 (s.size - (i + 1))).size ≤ 9223372036854775807 := by rw [ByteArray.size_extract]; omega
      have HYI := Lib.hid (fun h => HY.out (i + 1) h (fun q a b => HNO.out q a (by omega)))
      have HNI : Hid (¬ SqEnd s s.size (i + 1) → ∀ q, 1 ≤ q → q ≤ i + 1 → ¬ SqEnd s s.size q) := fun h q h1 h2 => by
        by_cases hq : q = i + 1
        · subst hq; exact h
        · exact HNO.out q h1 (by omega)
      generalize s.extract 0 (s.size - (i + 1)) = x at hlo HS hz
      generalize s.extract (s.size - (i + 1)) s.size = y at hhi HS
      have HC := Lib.hid (fun w => Try.strings_HasSuffix x y w hz)
      cases hsf : Lib.hasSuffix x.data.toList y.data.toList
      · rw [hsf] at HC
        have HNX := Lib.hid (HNI.out fun h => by have := HS.out.2 h; rw [hsf] at this; cases this)
        clear hsf
        go_wp2_with fail
        go_region
        go_wp2_with fail
        refine (HC.out _).mono ?_
        rintro e w2 ⟨rfl, rfl⟩
        go_wp2_with fail
        go_roundw
        case rel => exact ⟨i + 1, by omega, by go_num, HNX.out, below_drewN HB.out 1⟩
        case measure => simp [intOf]; omega
      · rw [hsf] at HC
        have HRB := Lib.hid (HYI.out (HS.out.1 hsf))
        clear hsf
        go_wp2_with fail
        go_region
        go_wp2_with fail
        refine (HC.out _).mono ?_
        rintro e w2 ⟨rfl, rfl⟩
        go_wp2_with fail
        go_ret
        exact ⟨ret_int (by rw [HRB.out]; go_num), below_drewN HB.out 1⟩
    · have hlt2 : ¬ (i : Int) < (s.size : Int).tdiv 2 := by rw [HD.out]; omega
      have hlt3 : ¬ (i : Int) < (s.size : Int) / 2 := by omega
      have HRB : Hid (r = 0) := HN.out fun q hq => by
        have h1 := hq.1
        have h2 := hq.2.1
        exact HNO.out q h1 (by omega) hq
      go_wp2_with fail
      go_ret
      exact ⟨ret_int (by rw [HRB.out]; rfl), HB.out⟩

set_option maxHeartbeats 1000000 in
theorem implFirstSquare (s : ByteArray) (w : World) (hs : s.size ≤ 1048576) :
    Calls Try.prog 17 #[.string s] w fun e w' => e = .returned (.tuple #[.int .i64 (fsqR1 s), .int .i64 (fsqR2 s)]) ∧ Below w.heap.size w w' := by
  cases hw : wordB s
  · have HW := Lib.hid hw
    have HV := Lib.hid (fsq_word hw)
    clear hw
    go_enter Try.func17, Try.ntmps17
    go_wp2_with fail
    refine (implWordOk s _ hs).mono ?_
    rintro e w1 ⟨rfl, hb⟩
    have HB := Lib.hid hb
    rw [HW.out]
    clear hb
    go_wp2_with fail
    go_ret2
    exact ⟨by rw [HV.out.1, HV.out.2]; rfl, HB.out⟩
  · have HW := Lib.hid hw
    have h4 := word_size hw
    have HY := Lib.hid (fun e a b c => fsq_he (s := s) (e := e) hw a b c)
    have HN := Lib.hid (fun a => fsq_no (s := s) a)
    have HH := Lib.hid (fun e w (he : e ≤ s.size) => implHalf (s.extract 0 e) w (by rw [ByteArray.size_extract]; omega))
    have HLE : Hid (∀ e, heN (s.extract 0 e) ≤ s.size) := fun e => by
      have := he_le (s.extract 0 e)
      rw [ByteArray.size_extract] at this
      omega
    have HZ : Hid (heN (s.extract 0 0) = 0) := by
      have := he_le (s.extract 0 0)
      rw [ByteArray.size_extract] at this
      show _ = _
      omega
    clear hw
    generalize fsqR1 s = r1 at HY HN ⊢
    generalize fsqR2 s = r2 at HY HN ⊢
    obtain ⟨f, hf⟩ : ∃ f : Nat → Nat, ∀ e, heN (s.extract 0 e) = f e := ⟨_, fun _ => rfl⟩
    simp only [hf] at HY HN HH HLE HZ
    clear hf
    go_enter Try.func17, Try.ntmps17
    go_wp2_with fail
    refine (implWordOk s _ hs).mono ?_
    rintro e w1 ⟨rfl, hb⟩
    have HB1 := Lib.hid hb
    rw [HW.out]
    clear hb
    go_wp2_with fail
    go_loopw [12] (fun c w' => ∃ i : Nat, i ≤ s.size ∧ c = .int .i64 (i : Int) ∧ (∀ q, q ≤ i → f q = 0) ∧ Below w.heap.size w w') (fun c _ => s.size - (intOf c).toNat)
    case atStart => exact ⟨0, by omega, rfl, fun q hq => by rw [show q = 0 by omega]; exact HZ.out, HB1.out⟩
    case round =>
      obtain ⟨i, hi, rfl, hno, hb⟩ := hrel
      obtain ⟨wo, rfl⟩ : ∃ y : World, y = wr := ⟨_, rfl⟩
      have HNO := Lib.hid hno
      have HB := Lib.hid hb
      clear hno hb
      by_cases hlt : i < s.size
      · have hlo : ∀ w : World, (Instr.slice 9 (.string s) none (some (.int .i64 ((i : Int) + 1))) none).run Try.prog w = .ok (.string (s.extract 0 (i + 1))) w := fun w => half_lo Try.underlying9 s _ _ w (by omega) (by omega)
        have HHI := Lib.hid (fun w => HH.out (i + 1) w (by omega))
        have hle := HLE.out (i + 1)
        have HYI := Lib.hid (fun h => HY.out (i + 1) (by omega) h (fun q a => HNO.out q (by omega)))
        have HNI : Hid (f (i + 1) = 0 → ∀ q, q ≤ i + 1 → f q = 0) := fun h q h1 => by
          by_cases hq : q = i + 1
          · subst hq; exact h
          · exact HNO.out q (by omega)
        generalize s.extract 0 (i + 1) = x at hlo HHI
        generalize f (i + 1) = m at HHI hle HYI HNI
        by_cases hm : 1 ≤ m
        · have HRB := Lib.hid (HYI.out hm)
          go_wp2_with fail
          refine (HHI.out _).mono ?_
          rintro e w2 ⟨rfl, hb⟩
          have HB2 : Hid (Below w.heap.size w w2) := HB.out.trans (hb.mono HB.out.size)
          clear hb
          go_wp2_with fail
          go_ret2
          exact ⟨by rw [HRB.out.1, HRB.out.2]; rfl, HB2.out⟩
        · have hm0 : m = 0 := by omega
          have HNX := Lib.hid (HNI.out hm0)
          subst hm0
          go_wp2_with fail
          refine (HHI.out _).mono ?_
          rintro e w2 ⟨rfl, hb⟩
          have HB2 : Hid (Below w.heap.size w w2) := HB.out.trans (hb.mono HB.out.size)
          clear hb
          go_wp2_with fail
          go_roundw
          case rel => exact ⟨i + 1, by omega, by go_num, HNX.out, HB2.out⟩
          case measure => simp [intOf]; omega
      · have HRB := Lib.hid (HN.out fun q hq => HNO.out q (by omega))
        go_wp2_with fail
        go_ret2
        exact ⟨by rw [HRB.out.1, HRB.out.2]; rfl, HB.out⟩
end Go.Proofs.Ytefdciaijjgieaa
