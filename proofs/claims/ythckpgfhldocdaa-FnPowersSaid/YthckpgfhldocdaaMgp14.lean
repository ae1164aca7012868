/- Texts put together. -/
import Derived.Test.YthckpgfhldocdaaMgp13
import Derived.Test.YthckpgfhldocdaaMgp3
/- Chapter 8 of the model: CountSquareFree, ExtendSquareFree. Conditions: lengths of at most 2^20. -/
namespace Go.Proofs.Ythckpgfhldocdaa
open Go.RowKit Go.Lib

def sumJ (f : Nat → Nat) : Nat → Nat
  | 0 => 0
  | j + 1 => sumJ f j + f j
theorem sumJ_le {f : Nat → Nat} {b : Nat} : ∀ j, (∀ i, i < j → f i ≤ b) → sumJ f j ≤ j * b
  | 0, _ => Nat.zero_le _
  | j + 1, h => by
    have h1 := sumJ_le (f := f) (b := b) j (fun i hi => h i (by omega))
    have h2 := h j (by omega)
    show sumJ f j + f j ≤ (j + 1) * b
    rw [Nat.succ_mul]
    omega
/-- words of k letters more without squares -/
noncomputable def cntW (L : Nat) : Nat → ByteArray → Nat
  | 0, _ => 1
  | k + 1, w => sumJ (fun j => if endsB (w ++ ⟨#[letterN j]⟩) = true then 0 else cntW L k (w ++ ⟨#[letterN j]⟩)) L
theorem cntW_le (L : Nat) (hL : L ≤ 3) : ∀ k w, cntW L k w ≤ 3 ^ k
  | 0, _ => Nat.le_refl _
  | k + 1, w => by
    show sumJ _ L ≤ _
    refine Nat.le_trans (sumJ_le (b := 3 ^ k) L fun i _ => ?_) ?_
    · show (if endsB (w ++ ⟨#[letterN i]⟩) = true then 0 else cntW L k (w ++ ⟨#[letterN i]⟩)) ≤ _
      split
      · exact Nat.zero_le _
      · exact cntW_le L hL k _
    · rw [Nat.pow_succ, Nat.mul_comm]
      exact Nat.mul_le_mul_left _ hL
noncomputable def cntR (L n : Int) : Int := if ((decide (1 ≤ L) && decide (L ≤ 3)) && (decide (0 ≤ n) && decide (n ≤ 12))) = true then (cntW L.toNat n.toNat ⟨#[]⟩ : Int) else -1
theorem letter3_slice (P : Program) {t : TypeId} (ht : P.underlying t = some .string) (k : Nat) (hk : k ≤ 2) (w : World) :
    (Instr.slice t (.string ⟨#[97, 98, 99]⟩) (some (.int .i64 (k : Int))) (some (.int .i64 ((k : Int) + 1))) none).run P w = .ok (.string ⟨#[letterN k]⟩) w := by
  have h4 : ((⟨#[97, 98, 99]⟩ : ByteArray).size : Int) = 3 := rfl
  rw [run_slice_string (P := P) w t ⟨#[97, 98, 99]⟩ .i64 .i64 (k : Int) ((k : Int) + 1) ht (by omega) (by omega) (by omega)]
  rcases (show k = 0 ∨ k = 1 ∨ k = 2 by omega) with e | e | e <;> subst e <;> rfl
theorem more_size (w : ByteArray) (k : Nat) : (w ++ (⟨#[letterN k]⟩ : ByteArray)).size = w.size + 1 := by
  have h1 : (⟨#[letterN k]⟩ : ByteArray).size = 1 := rfl
  rw [ByteArray.size_append, h1]

end Go.Proofs.Ythckpgfhldocdaa

/- Chapter 8 of the model: ExtendSquareFree. Conditions: lengths of at most 2^20. -/
namespace Go.Proofs.Ythckpgfhldocdaa
open Go.RowKit Go.Lib

noncomputable def extB (s : ByteArray) (j : Nat) : Bool := wordB (s ++ ⟨#[letterN j]⟩) && !endsB (s ++ ⟨#[letterN j]⟩)
noncomputable def extF (s : ByteArray) : Nat → Nat → ByteArray
  | _, 0 => ⟨#[]⟩
  | j, k + 1 => if extB s j = true then s ++ ⟨#[letterN j]⟩ else extF s (j + 1) k
/-- what ExtendSquareFree is to return -/
noncomputable def extR (s : ByteArray) : ByteArray := if freeR s 1 0 = true then extF s 0 3 else ⟨#[]⟩
theorem extF_yes {s : ByteArray} {j k : Nat} (h : extB s j = true) : extF s j (k + 1) = s ++ ⟨#[letterN j]⟩ := if_pos h
theorem extF_no {s : ByteArray} {j k : Nat} (h : extB s j = false) : extF s j (k + 1) = extF s (j + 1) k := if_neg (by rw [h]; decide)

end Go.Proofs.Ythckpgfhldocdaa

/- The mathematics of FnPowers: squares, cubes, overlaps, periods and exponents say the same. No program in it. -/
namespace Go.Proofs.Ythckpgfhldocdaa
open Go.RowKit

theorem pz_list (s : ByteArray) (i n j : Nat) (h : j < n) : (s.extract i (i + n)).data.toList[j]? = s.data.toList[i + j]? := by
  rw [ByteArray.data_extract, Array.toList_extract, List.extract_eq_take_drop, Nat.add_sub_cancel_left, List.getElem?_take, if_pos h, List.getElem?_drop]
theorem pz_size (s : ByteArray) (i n : Nat) (h : i + n ≤ s.size) : (s.extract i (i + n)).size = n := by rw [ByteArray.size_extract]; omega
theorem pz_ext {s : ByteArray} {i k h : Nat} (h1 : i + h ≤ s.size) (h2 : k + h ≤ s.size) : s.extract i (i + h) = s.extract k (k + h) ↔ ∀ j, j < h → s.data.toList[i + j]? = s.data.toList[k + j]? := by
  constructor
  · intro e j hj
    rw [← pz_list s i h j hj, ← pz_list s k h j hj, e]
  · intro e
    apply bytes_ext
    rw [ByteArray.toList_eq, ByteArray.toList_eq]
    apply List.ext_getElem?
    intro j
    by_cases hj : j < h
    · rw [pz_list s i h j hj, pz_list s k h j hj, e j hj]
    · have a := pz_size s i h h1
      have b := pz_size s k h h2
      rw [List.getElem?_eq_none (by simp only [Array.length_toList]; show (s.extract i (i + h)).size ≤ j; omega), List.getElem?_eq_none (by simp only [Array.length_toList]; show (s.extract k (k + h)).size ≤ j; omega)]
theorem pz_sq (s : ByteArray) (i h : Nat) : PwAt s i h ↔ 1 ≤ h ∧ RunAt s h h i := by
  unfold PwAt RunAt
  constructor
  · rintro ⟨a, b, c⟩
    refine ⟨a, by omega, ?_⟩
    rw [show i + 2 * h = i + h + h by omega] at c
    exact (pz_ext (by omega) (by omega)).1 c
  · rintro ⟨a, b, c⟩
    refine ⟨a, by omega, ?_⟩
    rw [show i + 2 * h = i + h + h by omega]
    exact (pz_ext (by omega) (by omega)).2 c
theorem pz_rep1 (s : ByteArray) : repB s 1 0 = true ↔ ∃ i h, PwAt s i h := by
  rw [repB_iff]
  constructor
  · rintro ⟨p, h1, i, h2⟩
    rw [Nat.one_mul, Nat.add_zero] at h2
    exact ⟨i, p, (pz_sq s i p).2 ⟨h1, h2⟩⟩
  · rintro ⟨i, h, hh⟩
    obtain ⟨a, b⟩ := (pz_sq s i h).1 hh
    exact ⟨h, a, i, by rw [Nat.one_mul, Nat.add_zero]; exact b⟩
theorem pz_less {s : ByteArray} {m m' p i : Nat} (h : RunAt s m p i) (hm : m' ≤ m) : RunAt s m' p i := ⟨by have := h.1; omega, fun j hj => h.2 j (by omega)⟩
theorem pz_sq_over {s : ByteArray} (h : repB s 1 1 = true) : repB s 1 0 = true := by
  obtain ⟨p, h1, i, h2⟩ := (repB_iff s 1 1).1 h
  exact (repB_iff s 1 0).2 ⟨p, h1, i, pz_less h2 (by omega)⟩
theorem pz_over_cube {s : ByteArray} (h : repB s 2 0 = true) : repB s 1 1 = true := by
  obtain ⟨p, h1, i, h2⟩ := (repB_iff s 2 0).1 h
  exact (repB_iff s 1 1).2 ⟨p, h1, i, pz_less h2 (by omega)⟩
theorem pz_end (s : ByteArray) (e h : Nat) : SqEnd s e h ↔ 2 * h ≤ e ∧ e ≤ s.size ∧ PwAt s (e - 2 * h) h := by
  unfold SqEnd PwAt
  constructor
  · rintro ⟨a, b, c, d⟩
    refine ⟨b, c, a, by omega, ?_⟩
    rw [show e - 2 * h + h = e - h by omega, show e - 2 * h + 2 * h = e by omega]
    exact d
  · rintro ⟨b, c, a, _, d⟩
    rw [show e - 2 * h + h = e - h by omega, show e - 2 * h + 2 * h = e by omega] at d
    exact ⟨a, b, c, d⟩
theorem pz_ends_sq (s : ByteArray) : (∃ e h, SqEnd s e h) ↔ ∃ i h, PwAt s i h := by
  constructor
  · rintro ⟨e, h, hh⟩
    exact ⟨_, h, ((pz_end s e h).1 hh).2.2⟩
  · rintro ⟨i, h, hh⟩
    exact ⟨i + 2 * h, h, (pz_end s _ h).2 ⟨by omega, hh.2.1, by rw [Nat.add_sub_cancel]; exact hh⟩⟩

/-! ### periods -/
theorem firstP_spec {P : Nat → Prop} : ∀ k p, (∃ q, p ≤ q ∧ q ≤ p + k ∧ P q) → P (firstP P p k) ∧ ∀ q, p ≤ q → P q → firstP P p k ≤ q
  | 0, p, ⟨q, h1, h2, h3⟩ => by
    have e : q = p := by omega
    subst e
    exact ⟨h3, fun r hr _ => hr⟩
  | k + 1, p, ⟨q, h1, h2, h3⟩ => by
    by_cases hp : P p
    · have e : firstP P p (k + 1) = p := if_pos (@decide_eq_true _ (Classical.propDecidable _) hp)
      rw [e]
      exact ⟨hp, fun r hr _ => hr⟩
    · have e : firstP P p (k + 1) = firstP P (p + 1) k := if_neg (by rw [@decide_eq_false _ (Classical.propDecidable _) hp]; decide)
      rw [e]
      have hqp : q ≠ p := fun e => hp (e ▸ h3)
      obtain ⟨a, b⟩ := firstP_spec k (p + 1) ⟨q, by omega, by omega, h3⟩
      refine ⟨a, fun r hr hP => b r ?_ hP⟩
      have : r ≠ p := fun e => hp (e ▸ hP)
      omega
theorem pz_per {s : ByteArray} (h : 1 ≤ s.size) : PerAt s (perN s) ∧ ∀ q, 1 ≤ q → PerAt s q → perN s ≤ q :=
  firstP_spec s.size 1 ⟨s.size, h, by omega, per_size s⟩
theorem pz_run (s : ByteArray) (m p i : Nat) (h : i + (p + m) ≤ s.size) : RunAt s m p i ↔ PerAt (s.extract i (i + (p + m))) p := by
  have hz := pz_size s i (p + m) h
  unfold RunAt PerAt
  rw [hz]
  constructor
  · rintro ⟨_, b⟩ j hj
    rw [pz_list s i (p + m) j (by omega), pz_list s i (p + m) (j + p) (by omega), b j (by omega)]
    congr 1
    omega
  · intro b
    refine ⟨by omega, fun j hj => ?_⟩
    have := b j (by omega)
    rw [pz_list s i (p + m) j (by omega), pz_list s i (p + m) (j + p) (by omega)] at this
    rw [this]
    congr 1
    omega

/-! ### the greatest exponent -/
def GexGot (s : ByteArray) (x : Nat × Nat) : Prop := 1 ≤ x.1 ∧ 1 ≤ x.2 ∧ ∃ i, i + x.1 ≤ s.size ∧ x.2 = perN (s.extract i (i + x.1))
def GexTop (s : ByteArray) (x : Nat × Nat) (m i : Nat) : Prop := m * x.2 ≤ x.1 * perN (s.extract i (i + m))
theorem gex_more {s : ByteArray} {x : Nat × Nat} {n p m i : Nat} (h1 : 1 ≤ x.2) (h : GexTop s x m i) (hl : x.1 * p < n * x.2) : GexTop s (n, p) m i := by
  unfold GexTop at h ⊢
  show m * p ≤ n * perN (s.extract i (i + m))
  generalize perN (s.extract i (i + m)) = q at h
  obtain ⟨a, b⟩ := x
  simp only at h h1 hl
  refine Nat.le_of_mul_le_mul_right ?_ (show 0 < b by omega)
  have e1 : m * p * b = m * b * p := Nat.mul_right_comm m p b
  have e2 : n * q * b = n * b * q := Nat.mul_right_comm n q b
  rw [e1, e2]
  have e3 : m * b * p ≤ a * q * p := Nat.mul_le_mul_right p h
  have e4 : a * q * p = a * p * q := Nat.mul_right_comm a q p
  have e5 : a * p * q ≤ n * b * q := Nat.mul_le_mul_right q (Nat.le_of_lt hl)
  omega
theorem gexRow_spec {s : ByteArray} {n : Nat} (hn : 1 ≤ n) {y : Nat × Nat} (hy : GexGot s y) (ht : ∀ m i, 1 ≤ m → m < n → i + m ≤ s.size → GexTop s y m i) : ∀ k, k + n ≤ s.size + 1 → GexGot s (gexRow s n y k) ∧ (∀ m i, 1 ≤ m → m < n → i + m ≤ s.size → GexTop s (gexRow s n y k) m i) ∧ ∀ i, i < k → GexTop s (gexRow s n y k) n i
  | 0, _ => ⟨hy, ht, fun i h => absurd h (by omega)⟩
  | k + 1, hk => by
    obtain ⟨a, b, c⟩ := gexRow_spec hn hy ht k (by omega)
    by_cases hc : (gexRow s n y k).1 * perN (s.extract k (k + n)) < n * (gexRow s n y k).2
    · rw [gexRow_yes hc]
      refine ⟨⟨hn, (perN_le _).1, k, by show k + n ≤ s.size; omega, rfl⟩, fun m i h1 h2 h3 => gex_more a.2.1 (b m i h1 h2 h3) hc, fun i hi => ?_⟩
      by_cases e : i = k
      · subst e; exact Nat.le_refl _
      · exact gex_more a.2.1 (c i (by omega)) hc
    · rw [gexRow_no hc]
      refine ⟨a, b, fun i hi => ?_⟩
      by_cases e : i = k
      · subst e; show _ * _ ≤ _ * _; omega
      · exact c i (by omega)
theorem pz_one {s : ByteArray} {i : Nat} (h : i + 1 ≤ s.size) : perN (s.extract i (i + 1)) = 1 := by
  have hz := pz_size s i 1 h
  have h1 := (pz_per (s := s.extract i (i + 1)) (by omega)).2 1 (Nat.le_refl _) (fun j hj => absurd hj (by omega))
  have h2 := (perN_le (s.extract i (i + 1))).1
  omega
theorem gexTo_spec {s : ByteArray} (h0 : 1 ≤ s.size) : ∀ n, n + 1 ≤ s.size → GexGot s (gexTo s n) ∧ ∀ m i, 1 ≤ m → m < n + 2 → i + m ≤ s.size → GexTop s (gexTo s n) m i
  | 0, _ => by
    refine ⟨⟨Nat.le_refl _, Nat.le_refl _, 0, by show 0 + 1 ≤ s.size; omega, (pz_one (by omega)).symm⟩, fun m i h1 h2 h3 => ?_⟩
    have e : m = 1 := by omega
    subst e
    show 1 * 1 ≤ 1 * perN (s.extract i (i + 1))
    rw [pz_one h3]
    exact Nat.le_refl _
  | n + 1, hn => by
    obtain ⟨a, b⟩ := gexTo_spec h0 n (by omega)
    obtain ⟨c, d, e⟩ := gexRow_spec (n := n + 2) (by omega) a b (s.size + 1 - (n + 2)) (by omega)
    refine ⟨c, fun m i h1 h2 h3 => ?_⟩
    by_cases hm : m = n + 2
    · subst hm
      exact e i (by omega)
    · exact d m i h1 (by omega) h3
/-- a repetition of n * p + e letters is there exactly if the greatest exponent says so -/
theorem pz_gex {s : ByteArray} (h0 : 1 ≤ s.size) (n e : Nat) (hne : 1 ≤ n) (he : e ≤ 1) : repB s n e = true ↔ (n + 1) * (gexTo s (s.size - 1)).2 + e ≤ (gexTo s (s.size - 1)).1 := by
  obtain ⟨⟨a1, a2, i0, a3, a4⟩, b⟩ := gexTo_spec h0 (s.size - 1) (by omega)
  generalize gexTo s (s.size - 1) = x at a1 a2 a3 a4 b ⊢
  obtain ⟨a, q⟩ := x
  simp only at a1 a2 a3 a4 b ⊢
  rw [repB_iff]
  constructor
  · rintro ⟨p, hp, i, hr⟩
    have hsz := hr.1
    have hpos : 1 ≤ n * p + e := by have := Nat.mul_le_mul hne hp; omega
    have hper := (pz_run s (n * p + e) p i (by omega)).1 hr
    have hz := pz_size s i (p + (n * p + e)) (by omega)
    have hle := (pz_per (s := s.extract i (i + (p + (n * p + e)))) (by omega)).2 p hp hper
    have ht := b (p + (n * p + e)) i (by omega) (by omega) (by omega)
    unfold GexTop at ht
    simp only at ht
    have ht2 : (p + (n * p + e)) * q ≤ a * p := Nat.le_trans ht (Nat.mul_le_mul_left a hle)
    have e1 : (p + (n * p + e)) * q = ((n + 1) * q) * p + e * q := by grind
    rw [e1] at ht2
    rcases (show e = 0 ∨ e = 1 by omega) with rfl | rfl
    · rw [Nat.zero_mul, Nat.add_zero] at ht2
      have := Nat.le_of_mul_le_mul_right ht2 hp
      omega
    · by_cases hh : (n + 1) * q + 1 ≤ a
      · exact hh
      · have h3 : a * p ≤ ((n + 1) * q) * p := Nat.mul_le_mul_right p (by omega)
        omega
  · intro h
    refine ⟨q, a2, i0, ?_⟩
    have hq := (pz_per (s := s.extract i0 (i0 + a)) (by rw [pz_size s i0 a a3]; exact a1)).1
    rw [← a4] at hq
    have hqa : q ≤ a := by have : q ≤ (n + 1) * q := Nat.le_mul_of_pos_left q (by omega); omega
    have hr := (pz_run s (a - q) q i0 (by omega)).2 (by rw [show q + (a - q) = a by omega]; exact hq)
    refine pz_less hr ?_
    have e1 : (n + 1) * q = n * q + q := Nat.succ_mul n q
    omega
end Go.Proofs.Ythckpgfhldocdaa

/- The mathematics of FnPowers, second part: runs, extension, beginnings, words that are reckoned. No program in it. -/
namespace Go.Proofs.Ythckpgfhldocdaa
open Go.RowKit

/-! ### runs of one letter -/
theorem lr_spec (s : ByteArray) : ∀ k, k ≤ s.size → (1 ≤ k → 1 ≤ (lrTo s k).1 ∧ 1 ≤ (lrTo s k).2) ∧ (lrTo s k).2 ≤ k ∧ (∀ j, k - (lrTo s k).2 ≤ j → j + 1 < k → s.data.toList[j]? = s.data.toList[j + 1]?) ∧ ∃ i, i + (lrTo s k).1 ≤ k ∧ ∀ j, j + 1 < (lrTo s k).1 → s.data.toList[i + j]? = s.data.toList[i + j + 1]?
  | 0, _ => ⟨fun h => absurd h (by omega), Nat.le_refl _, fun j _ h => absurd h (by omega), 0, Nat.le_refl _, fun j h => absurd (show j + 1 < 0 from h) (by omega)⟩
  | k + 1, hk => by
    obtain ⟨a, b, c, i, d, e⟩ := lr_spec s k (by omega)
    by_cases h : 0 < k ∧ s.data.toList[k]? = s.data.toList[k - 1]?
    · rw [lr_yes h.1 h.2]
      have hrun : ∀ j, k + 1 - ((lrTo s k).2 + 1) ≤ j → j + 1 < k + 1 → s.data.toList[j]? = s.data.toList[j + 1]? := fun j h1 h2 => by
        by_cases hj : j + 1 = k
        · rw [hj, h.2]
          congr 1
          omega
        · exact c j (by omega) (by omega)
      refine ⟨fun _ => ⟨by show 1 ≤ max _ _; omega, by show 1 ≤ _ + 1; omega⟩, by show _ + 1 ≤ _; omega, hrun, ?_⟩
      by_cases hm : (lrTo s k).1 < (lrTo s k).2 + 1
      · refine ⟨k - (lrTo s k).2, by show _ + max _ _ ≤ _; omega, fun j hj => ?_⟩
        have hj' : j + 1 < max (lrTo s k).1 ((lrTo s k).2 + 1) := hj
        exact hrun _ (by omega) (by omega)
      · refine ⟨i, by show _ + max _ _ ≤ _; omega, fun j hj => ?_⟩
        have hj' : j + 1 < max (lrTo s k).1 ((lrTo s k).2 + 1) := hj
        exact e j (by omega)
    · rw [lr_no h]
      refine ⟨fun _ => ⟨by show 1 ≤ max _ _; omega, Nat.le_refl _⟩, by show 1 ≤ _; omega, fun j h1 h2 => ?_, ?_⟩
      · have h1' : k + 1 - 1 ≤ j := h1
        omega
      · by_cases hm : (lrTo s k).1 < 1
        · refine ⟨k, by show _ + max _ _ ≤ _; omega, fun j hj => ?_⟩
          have hj' : j + 1 < max (lrTo s k).1 1 := hj
          omega
        · refine ⟨i, by show _ + max _ _ ≤ _; omega, fun j hj => ?_⟩
          have hj' : j + 1 < max (lrTo s k).1 1 := hj
          exact e j (by omega)
theorem lr_run {s : ByteArray} (h : 1 < (lrTo s s.size).1) : ∃ i, RunAt s ((lrTo s s.size).1 - 1) 1 i := by
  obtain ⟨_, _, _, i, d, e⟩ := lr_spec s s.size (Nat.le_refl _)
  refine ⟨i, by omega, fun j hj => ?_⟩
  rw [e j (by omega)]
  congr 1
  omega
theorem lr_sq {s : ByteArray} (h : 1 < (lrTo s s.size).1) : repB s 1 0 = true := by
  obtain ⟨i, hi⟩ := lr_run h
  exact (repB_iff s 1 0).2 ⟨1, Nat.le_refl _, i, pz_less hi (by omega)⟩
theorem lr_cube {s : ByteArray} (h : 2 < (lrTo s s.size).1) : repB s 2 0 = true := by
  obtain ⟨i, hi⟩ := lr_run (show 1 < (lrTo s s.size).1 by omega)
  exact (repB_iff s 2 0).2 ⟨1, Nat.le_refl _, i, pz_less hi (by omega)⟩
theorem lr_zero (s : ByteArray) : (lrTo s s.size).1 = 0 ↔ s.size = 0 := by
  constructor
  · intro h
    by_cases h0 : s.size = 0
    · exact h0
    · have := ((lr_spec s s.size (Nat.le_refl _)).1 (by omega)).1
      omega
  · intro h
    rw [h]
    rfl

/-! ### beginnings -/
theorem run_pre {s x : ByteArray} (h : s.data.toList <+: x.data.toList) {m p i : Nat} (hi : i + p + m ≤ s.size) : RunAt s m p i ↔ RunAt x m p i := by
  obtain ⟨t, ht⟩ := h
  have hl : s.data.toList.length = s.size := by simp
  have hx : x.data.toList.length = x.size := by simp
  have hsx : s.size ≤ x.size := by
    rw [← hl, ← hx, ← ht, List.length_append]
    omega
  have hat : ∀ j, j < s.size → x.data.toList[j]? = s.data.toList[j]? := fun j hj => by
    rw [← ht, List.getElem?_append_left (by omega)]
  unfold RunAt
  constructor
  · rintro ⟨a, b⟩
    exact ⟨by omega, fun j hj => by rw [hat _ (by omega), hat _ (by omega)]; exact b j hj⟩
  · rintro ⟨a, b⟩
    refine ⟨hi, fun j hj => ?_⟩
    have := b j hj
    rwa [hat _ (by omega), hat _ (by omega)] at this
theorem rep_pre {s x : ByteArray} (h : s.data.toList <+: x.data.toList) {n e : Nat} (hr : repB s n e = true) : repB x n e = true := by
  obtain ⟨p, h1, i, h2⟩ := (repB_iff s n e).1 hr
  exact (repB_iff x n e).2 ⟨p, h1, i, (run_pre h h2.1).1 h2⟩
theorem free_pre {s x : ByteArray} (h : s.data.toList <+: x.data.toList) (hw : wordB s = true) {n e : Nat} (hr : freeR x n e = true) : freeR s n e = true := by
  unfold freeR at hr ⊢
  rw [Bool.and_eq_true] at hr
  rw [hw]
  cases hb : repB s n e
  · rfl
  · rw [rep_pre h hb] at hr
    cases hr.2
theorem more_pre (s : ByteArray) (c : UInt8) : s.data.toList <+: (s ++ (⟨#[c]⟩ : ByteArray)).data.toList := by
  rw [ByteArray.data_append, Array.toList_append]
  exact List.prefix_append _ _
theorem ext_free {s : ByteArray} {j : Nat} (hs : freeR s 1 0 = true) (h : extB s j = true) : freeR (s ++ ⟨#[letterN j]⟩) 1 0 = true := by
  unfold extB at h
  rw [Bool.and_eq_true, Bool.not_eq_true'] at h
  unfold freeR at hs ⊢
  rw [Bool.and_eq_true, Bool.not_eq_true'] at hs
  rw [h.1]
  cases hb : repB (s ++ ⟨#[letterN j]⟩) 1 0
  · rfl
  · exfalso
    obtain ⟨p, h1, i, h2⟩ := (repB_iff _ 1 0).1 hb
    rw [Nat.one_mul, Nat.add_zero] at h2
    have hz := more_size s j
    by_cases he : i + p + p ≤ s.size
    · have := (run_pre (more_pre s (letterN j)) he).2 h2
      rw [(repB_iff s 1 0).2 ⟨p, h1, i, by rw [Nat.one_mul, Nat.add_zero]; exact this⟩] at hs
      cases hs.2
    · have hsq := (pz_sq _ i p).2 ⟨h1, h2⟩
      have h21 := h2.1
      have := (endsB_iff (s ++ ⟨#[letterN j]⟩)).2 ⟨p, (pz_end _ _ p).2 ⟨by omega, Nat.le_refl _, by rw [show (s ++ ⟨#[letterN j]⟩ : ByteArray).size - 2 * p = i by omega]; exact hsq⟩⟩
      rw [this] at h
      cases h.2
theorem extF_some {s : ByteArray} : ∀ k j, extF s j k = ⟨#[]⟩ ∨ ∃ i, extB s i = true ∧ extF s j k = s ++ ⟨#[letterN i]⟩
  | 0, _ => .inl rfl
  | k + 1, j => by
    cases hb : extB s j
    · rw [extF_no hb]
      exact extF_some k (j + 1)
    · exact .inr ⟨j, hb, extF_yes hb⟩
theorem extR_some {s : ByteArray} (h : extR s ≠ ⟨#[]⟩) : freeR s 1 0 = true ∧ ∃ i, extR s = s ++ ⟨#[letterN i]⟩ ∧ freeR (extR s) 1 0 = true := by
  unfold extR at h ⊢
  cases hf : freeR s 1 0
  · rw [hf] at h
    exact absurd rfl h
  · rw [hf, if_pos rfl] at h
    rw [if_pos rfl]
    rcases extF_some (s := s) 3 0 with e | ⟨i, h1, e⟩
    · exact absurd e h
    · exact ⟨rfl, i, e, by rw [e]; exact ext_free hf h1⟩

/-! ### reckoned -/
def repC (l : List UInt8) (n e : Nat) : Bool :=
  (List.range l.length).any fun q => (List.range l.length).any fun i => decide (i + (q + 1) + (n * (q + 1) + e) ≤ l.length) && (List.range (n * (q + 1) + e)).all fun j => l[i + j]? == l[i + (q + 1) + j]?
theorem repC_eq (s : ByteArray) (n e : Nat) (hne : 1 ≤ n + e) : repB s n e = repC s.data.toList n e := by
  have hl : s.data.toList.length = s.size := by simp
  rw [Bool.eq_iff_iff, repB_iff]
  unfold repC
  simp only [List.any_eq_true, List.mem_range, Bool.and_eq_true, decide_eq_true_eq, List.all_eq_true, beq_iff_eq]
  constructor
  · rintro ⟨p, h1, i, h2, h3⟩
    have hpos : 1 ≤ n * p + e := by
      rcases Nat.eq_zero_or_pos e with he | he
      · have := Nat.mul_le_mul (show 1 ≤ n by omega) h1; omega
      · omega
    refine ⟨p - 1, by omega, i, by omega, ?_⟩
    rw [show p - 1 + 1 = p by omega]
    exact ⟨by omega, fun j hj => h3 j hj⟩
  · rintro ⟨q, _, i, _, h2, h3⟩
    exact ⟨q + 1, by omega, i, by omega, fun j hj => h3 j hj⟩
def endsC (l : List UInt8) : Bool := (List.range l.length).any fun q => decide (2 * (q + 1) ≤ l.length) && (List.range (q + 1)).all fun j => l[l.length - 2 * (q + 1) + j]? == l[l.length - (q + 1) + j]?
theorem endsC_eq (s : ByteArray) : endsB s = endsC s.data.toList := by
  have hl : s.data.toList.length = s.size := by simp
  rw [Bool.eq_iff_iff, endsB_iff]
  unfold endsC
  simp only [List.any_eq_true, List.mem_range, Bool.and_eq_true, decide_eq_true_eq, List.all_eq_true, beq_iff_eq]
  constructor
  · rintro ⟨h, hh⟩
    obtain ⟨a, _, b⟩ := (pz_end s s.size h).1 hh
    obtain ⟨c, d⟩ := (pz_sq s _ h).1 b
    refine ⟨h - 1, by omega, by omega, fun j hj => ?_⟩
    have := d.2 j (by omega)
    rw [show h - 1 + 1 = h by omega, hl, this]
    congr 1
    omega
  · rintro ⟨q, h1, h2, h3⟩
    refine ⟨q + 1, (pz_end s s.size (q + 1)).2 ⟨by omega, Nat.le_refl _, (pz_sq s _ (q + 1)).2 ⟨by omega, by omega, fun j hj => ?_⟩⟩⟩
    have := h3 j hj
    rw [hl] at this
    rw [this]
    congr 1
    omega
def cntC (L : Nat) : Nat → List UInt8 → Nat
  | 0, _ => 1
  | k + 1, l => sumJ (fun j => if endsC (l ++ [letterN j]) = true then 0 else cntC L k (l ++ [letterN j])) L
theorem sumJ_congr {f g : Nat → Nat} : ∀ j, (∀ i, f i = g i) → sumJ f j = sumJ g j
  | 0, _ => rfl
  | j + 1, h => by
    show sumJ f j + f j = sumJ g j + g j
    rw [sumJ_congr j h, h j]
theorem cntC_eq (L : Nat) : ∀ k s, cntW L k s = cntC L k s.data.toList
  | 0, _ => rfl
  | k + 1, s => by
    show sumJ _ L = sumJ _ L
    refine sumJ_congr L fun j => ?_
    show (if endsB (s ++ ⟨#[letterN j]⟩) = true then 0 else cntW L k (s ++ ⟨#[letterN j]⟩)) = if endsC (s.data.toList ++ [letterN j]) = true then 0 else cntC L k (s.data.toList ++ [letterN j])
    have e : (s ++ (⟨#[letterN j]⟩ : ByteArray)).data.toList = s.data.toList ++ [letterN j] := by rw [ByteArray.data_append, Array.toList_append]
    rw [endsC_eq, cntC_eq L k, e]
theorem cnt_24 : cntW 2 4 ⟨#[]⟩ = 0 := by rw [cntC_eq]; decide +kernel
theorem cnt_35 : cntW 3 5 ⟨#[]⟩ = 30 := by rw [cntC_eq]; decide +kernel
theorem cnt_34 : cntW 3 4 ⟨#[]⟩ = 18 := by rw [cntC_eq]; decide +kernel
end Go.Proofs.Ythckpgfhldocdaa
