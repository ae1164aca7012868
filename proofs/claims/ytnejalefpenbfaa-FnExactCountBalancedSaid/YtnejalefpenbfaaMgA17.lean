/- Texts put together. -/
import Derived.Test.YtnejalefpenbfaaMgA16
import Derived.Test.YtnejalefpenbfaaMgA6
/- Chapter 8 of the model: CountSquareFree, ExtendSquareFree. Conditions: lengths of at most 2^20. -/
namespace Go.Proofs.Ytnejalefpenbfaa
open Go.RowKit Go.Lib

def sumJ (f : Nat → Nat) : Nat → Nat
  | 0 => 0
  | j + 1 => sumJ f j + f j
theorem sumJ_le {f : Nat → Nat} {b : Nat} : ∀ j, (∀ i, i < j → f i ≤ b) → sumJ f j ≤ j * b
  | 0, _ => Nat.zero_le _
  | j + 1, h => by
    have h1 := sumJ_le (f := f) (b := b) j (fun i hi => h i (by omega))
    have h2 := h j (by omega)
    show sumJ f j + f j ≤ (j + 1) * b
    rw [Nat.succ_mul]
    omega
/-- words of k letters more without squares -/
noncomputable def cntW (L : Nat) : Nat → ByteArray → Nat
  | 0, _ => 1
  | k + 1, w => sumJ (fun j => if endsB (w ++ ⟨#[letterN j]⟩) = true then 0 else cntW L k (w ++ ⟨#[letterN j]⟩)) L
theorem cntW_le (L : Nat) (hL : L ≤ 3) : ∀ k w, cntW L k w ≤ 3 ^ k
  | 0, _ => Nat.le_refl _
  | k + 1, w => by
    show sumJ _ L ≤ _
    refine Nat.le_trans (sumJ_le (b := 3 ^ k) L fun i _ => ?_) ?_
    · show (if endsB (w ++ ⟨#[letterN i]⟩) = true then 0 else cntW L k (w ++ ⟨#[letterN i]⟩)) ≤ _
      split
      · exact Nat.zero_le _
      · exact cntW_le L hL k _
    · rw [Nat.pow_succ, Nat.mul_comm]
      exact Nat.mul_le_mul_left _ hL
noncomputable def cntR (L n : Int) : Int := if ((decide (1 ≤ L) && decide (L ≤ 3)) && (decide (0 ≤ n) && decide (n ≤ 12))) = true then (cntW L.toNat n.toNat ⟨#[]⟩ : Int) else -1
theorem letter3_slice (P : Program) {t : TypeId} (ht : P.underlying t = some .string) (k : Nat) (hk : k ≤ 2) (w : World) :
    (Instr.slice t (.string ⟨#[97, 98, 99]⟩) (some (.int .i64 (k : Int))) (some (.int .i64 ((k : Int) + 1))) none).run P w = .ok (.string ⟨#[letterN k]⟩) w := by
  have h4 : ((⟨#[97, 98, 99]⟩ : ByteArray).size : Int) = 3 := rfl
  rw [run_slice_string (P := P) w t ⟨#[97, 98, 99]⟩ .i64 .i64 (k : Int) ((k : Int) + 1) ht (by omega) (by omega) (by omega)]
  rcases (show k = 0 ∨ k = 1 ∨ k = 2 by omega) with e | e | e <;> subst e <;> rfl
theorem more_size (w : ByteArray) (k : Nat) : (w ++ (⟨#[letterN k]⟩ : ByteArray)).size = w.size + 1 := by
  have h1 : (⟨#[letterN k]⟩ : ByteArray).size = 1 := rfl
  rw [ByteArray.size_append, h1]

end Go.Proofs.Ytnejalefpenbfaa

/- Chapter 8 of the model: ExtendSquareFree. Conditions: lengths of at most 2^20. -/
namespace Go.Proofs.Ytnejalefpenbfaa
open Go.RowKit Go.Lib

noncomputable def extB (s : ByteArray) (j : Nat) : Bool := wordB (s ++ ⟨#[letterN j]⟩) && !endsB (s ++ ⟨#[letterN j]⟩)
noncomputable def extF (s : ByteArray) : Nat → Nat → ByteArray
  | _, 0 => ⟨#[]⟩
  | j, k + 1 => if extB s j = true then s ++ ⟨#[letterN j]⟩ else extF s (j + 1) k
/-- what ExtendSquareFree is to return -/
noncomputable def extR (s : ByteArray) : ByteArray := if freeR s 1 0 = true then extF s 0 3 else ⟨#[]⟩
theorem extF_yes {s : ByteArray} {j k : Nat} (h : extB s j = true) : extF s j (k + 1) = s ++ ⟨#[letterN j]⟩ := if_pos h
theorem extF_no {s : ByteArray} {j k : Nat} (h : extB s j = false) : extF s j (k + 1) = extF s (j + 1) k := if_neg (by rw [h]; decide)

end Go.Proofs.Ytnejalefpenbfaa

/- The mathematics of FnPowers: squares, cubes, overlaps, periods and exponents say the same. No program in it. -/
namespace Go.Proofs.Ytnejalefpenbfaa
open Go.RowKit

theorem pz_list (s : ByteArray) (i n j : Nat) (h : j < n) : (s.extract i (i + n)).data.toList[j]? = s.data.toList[i + j]? := by
  rw [ByteArray.data_extract, Array.toList_extract, List.extract_eq_take_drop, Nat.add_sub_cancel_left, List.getElem?_take, if_pos h, List.getElem?_drop]
theorem pz_size (s : ByteArray) (i n : Nat) (h : i + n ≤ s.size) : (s.extract i (i + n)).size = n := by rw [ByteArray.size_extract]; omega
theorem pz_ext {s : ByteArray} {i k h : Nat} (h1 : i + h ≤ s.size) (h2 : k + h ≤ s.size) : s.extract i (i + h) = s.extract k (k + h) ↔ ∀ j, j < h → s.data.toList[i + j]? = s.data.toList[k + j]? := by
  constructor
  · intro e j hj
    rw [← pz_list s i h j hj, ← pz_list s k h j hj, e]
  · intro e
    apply bytes_ext
    rw [ByteArray.toList_eq, ByteArray.toList_eq]
    apply List.ext_getElem?
    intro j
    by_cases hj : j < h
    · rw [pz_list s i h j hj, pz_list s k h j hj, e j hj]
    · have a := pz_size s i h h1
      have b := pz_size s k h h2
      rw [List.getElem?_eq_none (by simp only [Array.length_toList]; show (s.extract i (i + h)).size ≤ j; omega), List.getElem?_eq_none (by simp only [Array.length_toList]; show (s.extract k (k + h)).size ≤ j; omega)]
theorem pz_sq (s : ByteArray) (i h : Nat) : PwAt s i h ↔ 1 ≤ h ∧ RunAt s h h i := by
  unfold PwAt RunAt
  constructor
  · rintro ⟨a, b, c⟩
    refine ⟨a, by omega, ?_⟩
    rw [show i + 2 * h = i + h + h by omega] at c
    exact (pz_ext (by omega) (by omega)).1 c
  · rintro ⟨a, b, c⟩
    refine ⟨a, by omega, ?_⟩
    rw [show i + 2 * h = i + h + h by omega]
    exact (pz_ext (by omega) (by omega)).2 c
theorem pz_rep1 (s : ByteArray) : repB s 1 0 = true ↔ ∃ i h, PwAt s i h := by
  rw [repB_iff]
  constructor
  · rintro ⟨p, h1, i, h2⟩
    rw [Nat.one_mul, Nat.add_zero] at h2
    exact ⟨i, p, (pz_sq s i p).2 ⟨h1, h2⟩⟩
  · rintro ⟨i, h, hh⟩
    obtain ⟨a, b⟩ := (pz_sq s i h).1 hh
    exact ⟨h, a, i, by rw [Nat.one_mul, Nat.add_zero]; exact b⟩
theorem pz_less {s : ByteArray} {m m' p i : Nat} (h : RunAt s m p i) (hm : m' ≤ m) : RunAt s m' p i := ⟨by have := h.1; omega, fun j hj => h.2 j (by omega)⟩
theorem pz_sq_over {s : ByteArray} (h : repB s 1 1 = true) : repB s 1 0 = true := by
  obtain ⟨p, h1, i, h2⟩ := (repB_iff s 1 1).1 h
  exact (repB_iff s 1 0).2 ⟨p, h1, i, pz_less h2 (by omega)⟩
theorem pz_over_cube {s : ByteArray} (h : repB s 2 0 = true) : repB s 1 1 = true := by
  obtain ⟨p, h1, i, h2⟩ := (repB_iff s 2 0).1 h
  exact (repB_iff s 1 1).2 ⟨p, h1, i, pz_less h2 (by omega)⟩
theorem pz_end (s : ByteArray) (e h : Nat) : SqEnd s e h ↔ 2 * h ≤ e ∧ e ≤ s.size ∧ PwAt s (e - 2 * h) h := by
  unfold SqEnd PwAt
  constructor
  · rintro ⟨a, b, c, d⟩
    refine ⟨b, c, a, by omega, ?_⟩
    rw [show e - 2 * h + h = e - h by omega, show e - 2 * h + 2 * h = e by omega]
    exact d
  · rintro ⟨b, c, a, _, d⟩
    rw [show e - 2 * h + h = e - h by omega, show e - 2 * h + 2 * h = e by omega] at d
    exact ⟨a, b, c, d⟩
theorem pz_ends_sq (s : ByteArray) : (∃ e h, SqEnd s e h) ↔ ∃ i h, PwAt s i h := by
  constructor
  · rintro ⟨e, h, hh⟩
    exact ⟨_, h, ((pz_end s e h).1 hh).2.2⟩
  · rintro ⟨i, h, hh⟩
    exact ⟨i + 2 * h, h, (pz_end s _ h).2 ⟨by omega, hh.2.1, by rw [Nat.add_sub_cancel]; exact hh⟩⟩

/-! ### periods -/
theorem firstP_spec {P : Nat → Prop} : ∀ k p, (∃ q, p ≤ q ∧ q ≤ p + k ∧ P q) → P (firstP P p k) ∧ ∀ q, p ≤ q → P q → firstP P p k ≤ q
  | 0, p, ⟨q, h1, h2, h3⟩ => by
    have e : q = p := by omega
    subst e
    exact ⟨h3, fun r hr _ => hr⟩
  | k + 1, p, ⟨q, h1, h2, h3⟩ => by
    by_cases hp : P p
    · have e : firstP P p (k + 1) = p := if_pos (@decide_eq_true _ (Classical.propDecidable _) hp)
      rw [e]
      exact ⟨hp, fun r hr _ => hr⟩
    · have e : firstP P p (k + 1) = firstP P (p + 1) k := if_neg (by rw [@decide_eq_false _ (Classical.propDecidable _) hp]; decide)
      rw [e]
      have hqp : q ≠ p := fun e => hp (e ▸ h3)
      obtain ⟨a, b⟩ := firstP_spec k (p + 1) ⟨q, by omega, by omega, h3⟩
      refine ⟨a, fun r hr hP => b r ?_ hP⟩
      have : r ≠ p := fun e => hp (e ▸ hP)
      omega
theorem pz_per {s : ByteArray} (h : 1 ≤ s.size) : PerAt s (perN s) ∧ ∀ q, 1 ≤ q → PerAt s q → perN s ≤ q :=
  firstP_spec s.size 1 ⟨s.size, h, by omega, per_size s⟩
theorem pz_run (s : ByteArray) (m p i : Nat) (h : i + (p + m) ≤ s.size) : RunAt s m p i ↔ PerAt (s.extract i (i + (p + m))) p := by
  have hz := pz_size s i (p + m) h
  unfold RunAt PerAt
  rw [hz]
  constructor
  · rintro ⟨_, b⟩ j hj
    rw [pz_list s i (p + m) j (by omega), pz_list s i (p + m) (j + p) (by omega), b j (by omega)]
    congr 1
    omega
  · intro b
    refine ⟨by omega, fun j hj => ?_⟩
    have := b j (by omega)
    rw [pz_list s i (p + m) j (by omega), pz_list s i (p + m) (j + p) (by omega)] at this
    rw [this]
    congr 1
    omega

/-! ### the greatest exponent -/
def GexGot (s : ByteArray) (x : Nat × Nat) : Prop := 1 ≤ x.1 ∧ 1 ≤ x.2 ∧ ∃ i, i + x.1 ≤ s.size ∧ x.2 = perN (s.extract i (i + x.1))
def GexTop (s : ByteArray) (x : Nat × Nat) (m i : Nat) : Prop := m * x.2 ≤ x.1 * perN (s.extract i (i + m))
theorem gex_more {s : ByteArray} {x : Nat × Nat} {n p m i : Nat} (h1 : 1 ≤ x.2) (h : GexTop s x m i) (hl : x.1 * p < n * x.2) : GexTop s (n, p) m i := by
  unfold GexTop at h ⊢
  show m * p ≤ n * perN (s.extract i (i + m))
  generalize perN (s.extract i (i + m)) = q at h
  obtain ⟨a, b⟩ := x
  simp only at h h1 hl
  refine Nat.le_of_mul_le_mul_right ?_ (show 0 < b by omega)
  have e1 : m * p * b = m * b * p := Nat.mul_right_comm m p b
  have e2 : n * q * b = n * b * q := Nat.mul_right_comm n q b
  rw [e1, e2]
  have e3 : m * b * p ≤ a * q * p := Nat.mul_le_mul_right p h
  have e4 : a * q * p = a * p * q := Nat.mul_right_comm a q p
  have e5 : a * p * q ≤ n * b * q := Nat.mul_le_mul_right q (Nat.le_of_lt hl)
  omega
theorem gexRow_spec {s : ByteArray} {n : Nat} (hn : 1 ≤ n) {y : Nat × Nat} (hy : GexGot s y) (ht : ∀ m i, 1 ≤ m → m < n → i + m ≤ s.size → GexTop s y m i) : ∀ k, k + n ≤ s.size + 1 → GexGot s (gexRow s n y k) ∧ (∀ m i, 1 ≤ m → m < n → i + m ≤ s.size → GexTop s (gexRow s n y k) m i) ∧ ∀ i, i < k → GexTop s (gexRow s n y k) n i
  | 0, _ => ⟨hy, ht, fun i h => absurd h (by omega)⟩
  | k + 1, hk => by
    obtain ⟨a, b, c⟩ := gexRow_spec hn hy ht k (by omega)
    by_cases hc : (gexRow s n y k).1 * perN (s.extract k (k + n)) < n * (gexRow s n y k).2
    · rw [gexRow_yes hc]
      refine ⟨⟨hn, (perN_le _).1, k, by show k + n ≤ s.size; omega, rfl⟩, fun m i h1 h2 h3 => gex_more a.2.1 (b m i h1 h2 h3) hc, fun i hi => ?_⟩
      by_cases e : i = k
      · subst e; exact Nat.le_refl _
      · exact gex_more a.2.1 (c i (by omega)) hc
    · rw [gexRow_no hc]
      refine ⟨a, b, fun i hi => ?_⟩
      by_cases e : i = k
      · subst e; show _ * _ ≤ _ * _; omega
      · exact c i (by omega)
theorem pz_one {s : ByteArray} {i : Nat} (h : i + 1 ≤ s.size) : perN (s.extract i (i + 1)) = 1 := by
  have hz := pz_size s i 1 h
  have h1 := (pz_per (s := s.extract i (i + 1)) (by omega)).2 1 (Nat.le_refl _) (fun j hj => absurd hj (by omega))
  have h2 := (perN_le (s.extract i (i + 1))).1
  omega
theorem gexTo_spec {s : ByteArray} (h0 : 1 ≤ s.size) : ∀ n, n + 1 ≤ s.size → GexGot s (gexTo s n) ∧ ∀ m i, 1 ≤ m → m < n + 2 → i + m ≤ s.size → GexTop s (gexTo s n) m i
  | 0, _ => by
    refine ⟨⟨Nat.le_refl _, Nat.le_refl _, 0, by show 0 + 1 ≤ s.size; omega, (pz_one (by omega)).symm⟩, fun m i h1 h2 h3 => ?_⟩
    have e : m = 1 := by omega
    subst e
    show 1 * 1 ≤ 1 * perN (s.extract i (i + 1))
    rw [pz_one h3]
    exact Nat.le_refl _
  | n + 1, hn => by
    obtain ⟨a, b⟩ := gexTo_spec h0 n (by omega)
    obtain ⟨c, d, e⟩ := gexRow_spec (n := n + 2) (by omega) a b (s.size + 1 - (n + 2)) (by omega)
    refine ⟨c, fun m i h1 h2 h3 => ?_⟩
    by_cases hm : m = n + 2
    · subst hm
      exact e i (by omega)
    · exact d m i h1 (by omega) h3
/-- a repetition of n * p + e letters is there exactly if the greatest exponent says so -/
theorem pz_gex {s : ByteArray} (h0 : 1 ≤ s.size) (n e : Nat) (hne : 1 ≤ n) (he : e ≤ 1) : repB s n e = true ↔ (n + 1) * (gexTo s (s.size - 1)).2 + e ≤ (gexTo s (s.size - 1)).1 := by
  obtain ⟨⟨a1, a2, i0, a3, a4⟩, b⟩ := gexTo_spec h0 (s.size - 1) (by omega)
  generalize gexTo s (s.size - 1) = x at a1 a2 a3 a4 b ⊢
  obtain ⟨a, q⟩ := x
  simp only at a1 a2 a3 a4 b ⊢
  rw [repB_iff]
  constructor
  · rintro ⟨p, hp, i, hr⟩
    have hsz := hr.1
    have hpos : 1 ≤ n * p + e := by have := Nat.mul_le_mul hne hp; omega
    have hper := (pz_run s (n * p + e) p i (by omega)).1 hr
    have hz := pz_size s i (p + (n * p + e)) (by omega)
    have hle := (pz_per (s := s.extract i (i + (p + (n * p + e)))) (by omega)).2 p hp hper
    have ht := b (p + (n * p + e)) i (by omega) (by omega) (by omega)
    unfold GexTop at ht
    simp only at ht
    have ht2 : (p + (n * p + e)) * q ≤ a * p := Nat.le_trans ht (Nat.mul_le_mul_left a hle)
    have e1 : (p + (n * p + e)) * q = ((n + 1) * q) * p + e * q := by grind
    rw [e1] at ht2
    rcases (show e = 0 ∨ e = 1 by omega) with rfl | rfl
    · rw [Nat.zero_mul, Nat.add_zero] at ht2
      have := Nat.le_of_mul_le_mul_right ht2 hp
      omega
    · by_cases hh : (n + 1) * q + 1 ≤ a
      · exact hh
      · have h3 : a * p ≤ ((n + 1) * q) * p := Nat.mul_le_mul_right p (by omega)
        omega
  · intro h
    refine ⟨q, a2, i0, ?_⟩
    have hq := (pz_per (s := s.extract i0 (i0 + a)) (by rw [pz_size s i0 a a3]; exact a1)).1
    rw [← a4] at hq
    have hqa : q ≤ a := by have : q ≤ (n + 1) * q := Nat.le_mul_of_pos_left q (by omega); omega
    have hr := (pz_run s (a - q) q i0 (by omega)).2 (by rw [show q + (a - q) = a by omega]; exact hq)
    refine pz_less hr ?_
    have e1 : (n + 1) * q = n * q + q := Nat.succ_mul n q
    omega
end Go.Proofs.Ytnejalefpenbfaa

/- The mathematics of FnPeriods, first part: borders, periods, roots. No program in it. -/
namespace Go.Proofs.Ytnejalefpenbfaa
open Go.RowKit

/-! ### a border is the rest of a period -/
theorem bor_per {s : ByteArray} {n : Nat} (h : n ≤ s.size) : BorAt s n ↔ PerAt s (s.size - n) := by
  rw [← per_cut (Nat.sub_le _ _)]
  unfold BorAt
  rw [Nat.sub_sub_self h]
/-- the numbers from 1 to k -/
def oneTo (k : Nat) : List Nat := (List.range k).map (· + 1)
theorem oneTo_succ (k : Nat) : oneTo (k + 1) = oneTo k ++ [k + 1] := by
  unfold oneTo
  rw [List.range_succ, List.map_append]
  rfl
theorem boTo_filter (s : ByteArray) : ∀ k, boTo s k = ((oneTo k).filter (borB s)).map fun n : Nat => (n : Int)
  | 0 => rfl
  | k + 1 => by
    have ih := boTo_filter s k
    rw [oneTo_succ, List.filter_append, List.map_append]
    cases h : borB s (k + 1)
    · rw [boTo_no h, ih, List.filter_cons_of_neg (by rw [h]; decide)]
      simp
    · rw [boTo_yes h, ih, List.filter_cons_of_pos h]
      rfl
theorem peTo_filter (s : ByteArray) : ∀ k, peTo s k = ((oneTo k).filter (perB s)).map fun n : Nat => (n : Int)
  | 0 => rfl
  | k + 1 => by
    have ih := peTo_filter s k
    rw [oneTo_succ, List.filter_append, List.map_append]
    cases h : perB s (k + 1)
    · rw [peTo_no h, ih, List.filter_cons_of_neg (by rw [h]; decide)]
      simp
    · rw [peTo_yes h, ih, List.filter_cons_of_pos h]
      rfl
theorem oneTo_len (k : Nat) : (oneTo k).length = k := by unfold oneTo; rw [List.length_map, List.length_range]
theorem oneTo_at (k i : Nat) (h : i < k) : (oneTo k)[i]'(by rw [oneTo_len]; exact h) = i + 1 := by
  unfold oneTo
  rw [List.getElem_map, List.getElem_range]
theorem oneTo_mem {k x : Nat} : x ∈ oneTo k ↔ 1 ≤ x ∧ x ≤ k := by
  unfold oneTo
  rw [List.mem_map]
  constructor
  · rintro ⟨a, ha, rfl⟩
    rw [List.mem_range] at ha
    omega
  · rintro ⟨h1, h2⟩
    exact ⟨x - 1, List.mem_range.2 (by omega), by omega⟩
theorem oneTo_back (n : Nat) : (oneTo (n - 1)).reverse.map (fun x => n - x) = oneTo (n - 1) := by
  apply List.ext_getElem
  · rw [List.length_map, List.length_reverse]
  · intro i h1 h2
    rw [List.length_map, List.length_reverse, oneTo_len] at h1
    rw [List.getElem_map, List.getElem_reverse, oneTo_at _ _ (by rw [oneTo_len]; omega), oneTo_at _ _ (by omega), oneTo_len]
    omega
/-- the periods that are less than the length are what the borders leave, the last one first -/
theorem per_bor (s : ByteArray) : peTo s (s.size - 1) = ((boTo s (s.size - 1)).reverse.map fun x => (s.size : Int) - x) := by
  rw [peTo_filter, boTo_filter, ← List.map_reverse, List.map_map]
  have h1 : ((oneTo (s.size - 1)).filter (borB s)).reverse = ((oneTo (s.size - 1)).reverse.filter (borB s)) := List.filter_reverse.symm
  rw [h1]
  conv => lhs; rw [← oneTo_back s.size]
  rw [List.filter_map, List.map_map]
  have h2 : (oneTo (s.size - 1)).reverse.filter (perB s ∘ fun x => s.size - x) = (oneTo (s.size - 1)).reverse.filter (borB s) := by
    refine List.filter_congr fun x hx => ?_
    rw [List.mem_reverse, oneTo_mem] at hx
    show perB s (s.size - x) = borB s x
    rw [Bool.eq_iff_iff, perB_iff, borB_iff, bor_per (by omega)]
  rw [h2]
  refine List.map_congr_left fun x hx => ?_
  have hx := (List.mem_filter.1 hx).1
  rw [List.mem_reverse, oneTo_mem] at hx
  show ((s.size - x : Nat) : Int) = (s.size : Int) - (x : Int)
  omega
theorem per_last {s : ByteArray} (h : 1 ≤ s.size) : peTo s s.size = peTo s (s.size - 1) ++ [(s.size : Int)] := by
  obtain ⟨k, hk⟩ : ∃ k, s.size = k + 1 := ⟨s.size - 1, by omega⟩
  have hp : perB s (k + 1) = true := (perB_iff _ _).2 (by rw [← hk]; exact per_size s)
  rw [hk, Nat.add_sub_cancel, peTo_yes hp]
/-- ascending -/
theorem peTo_asc (s : ByteArray) (k : Nat) : (peTo s k).Pairwise (· < ·) := by
  rw [peTo_filter]
  refine List.pairwise_map.2 ?_
  have h0 : (oneTo k).Pairwise (· < ·) := List.pairwise_map.2 (List.pairwise_lt_range.imp fun {a b} h => by omega)
  exact (h0.filter _).imp fun {a b} h => by omega
theorem peTo_mem {s : ByteArray} {k : Nat} {x : Int} : x ∈ peTo s k ↔ ∃ p : Nat, x = p ∧ 1 ≤ p ∧ p ≤ k ∧ PerAt s p := by
  rw [peTo_filter, List.mem_map]
  constructor
  · rintro ⟨p, hp, rfl⟩
    obtain ⟨a, b⟩ := List.mem_filter.1 hp
    rw [oneTo_mem] at a
    exact ⟨p, rfl, a.1, a.2, (perB_iff _ _).1 b⟩
  · rintro ⟨p, rfl, h1, h2, h3⟩
    exact ⟨p, List.mem_filter.2 ⟨oneTo_mem.2 ⟨h1, h2⟩, (perB_iff _ _).2 h3⟩, rfl⟩

/-! ### the root -/
theorem per_mod {s : ByteArray} {p : Nat} (h : PerAt s p) : ∀ i, i < s.size → s.data.toList[i]? = s.data.toList[i % p]? := fun i hi => by
  have hd := Nat.div_add_mod i p
  have := pd_mul (f := fun i => s.data.toList[i]?) (n := s.size) ((per_pd s p).1 h) (i / p) (i % p) (by rw [Nat.mul_comm]; omega)
  rw [show i % p + i / p * p = i by rw [Nat.mul_comm]; omega] at this
  exact this.symm
theorem rt_spec {s : ByteArray} (h : 1 ≤ s.size) : RootAt s (rtN s) ∧ 1 ≤ rtN s ∧ rtN s ≤ s.size ∧ ∀ p, 1 ≤ p → RootAt s p → rtN s ≤ p := by
  have h0 : RootAt s s.size := ⟨Nat.mod_self _, per_size s⟩
  obtain ⟨a, b⟩ := firstP_spec (P := RootAt s) (s.size - 1) 1 ⟨s.size, h, by omega, h0⟩
  have hl := firstP_le (P := RootAt s) (s.size - 1) 1
  exact ⟨a, hl.1, by have := hl.2; show firstP _ _ _ ≤ _; omega, fun p h1 h2 => b p h1 h2⟩
/-- the root is its own root -/
theorem rt_root {s : ByteArray} (h : 1 ≤ s.size) : rtN (s.extract 0 (rtN s)) = rtN s := by
  obtain ⟨⟨a1, a2⟩, b, c, d⟩ := rt_spec h
  have hz : (s.extract 0 (rtN s)).size = rtN s := by rw [ByteArray.size_extract]; omega
  obtain ⟨⟨e1, e2⟩, f, g, _⟩ := rt_spec (s := s.extract 0 (rtN s)) (by omega)
  rw [hz] at e1 g
  have hget : ∀ i, i < rtN s → (s.extract 0 (rtN s)).data.toList[i]? = s.data.toList[i]? := fun i hi => by
    have := pz_list s 0 (rtN s) i hi
    rwa [Nat.zero_add, Nat.zero_add] at this
  generalize rtN (s.extract 0 (rtN s)) = r at *
  have hrp : r ∣ rtN s := Nat.dvd_of_mod_eq_zero e1
  have hps : rtN s ∣ s.size := Nat.dvd_of_mod_eq_zero a1
  have hall : ∀ i, i < s.size → s.data.toList[i]? = s.data.toList[i % r]? := fun i hi => by
    have hm : i % rtN s < rtN s := Nat.mod_lt _ (by omega)
    have h1 := per_mod a2 i hi
    have h2 := per_mod e2 (i % rtN s) (by omega)
    have hr : i % r < rtN s := Nat.lt_of_lt_of_le (Nat.mod_lt _ (by omega)) g
    rw [hget _ hm, hget _ (by rw [Nat.mod_mod_of_dvd _ hrp]; exact hr), Nat.mod_mod_of_dvd _ hrp] at h2
    rw [h1, h2]
  have hper : PerAt s r := fun i hi => by
    rw [hall i (by omega), hall (i + r) hi, Nat.add_mod_right]
  have := d r f ⟨Nat.mod_eq_zero_of_dvd (Nat.dvd_trans hrp hps), hper⟩
  omega
/-- r written t times -/
def timesB (r : ByteArray) : Nat → ByteArray
  | 0 => ⟨#[]⟩
  | t + 1 => timesB r t ++ r
theorem rt_times {s : ByteArray} (h : 1 ≤ s.size) : ∀ t, t * rtN s ≤ s.size → timesB (s.extract 0 (rtN s)) t = s.extract 0 (t * rtN s)
  | 0, _ => by
    apply bytes_ext
    rw [ByteArray.toList_eq, ByteArray.toList_eq, Nat.zero_mul, ByteArray.data_extract, Array.toList_extract, List.extract_eq_take_drop]
    simp [timesB]
  | t + 1, ht => by
    rw [Nat.succ_mul] at ht ⊢
    obtain ⟨⟨a1, a2⟩, b, c, _⟩ := rt_spec h
    show timesB (s.extract 0 (rtN s)) t ++ s.extract 0 (rtN s) = _
    rw [rt_times h t (by omega)]
    have he : s.extract 0 (rtN s) = s.extract (t * rtN s) (t * rtN s + rtN s) := by
      have := (pz_ext (s := s) (i := 0) (k := t * rtN s) (h := rtN s) (by omega) ht).2 (fun j hj => by
        have h1 := per_mod a2 (t * rtN s + j) (by omega)
        rw [Nat.add_comm (t * rtN s) j, Nat.add_mul_mod_self_right, Nat.mod_eq_of_lt hj, Nat.add_comm j] at h1
        rw [Nat.zero_add]
        exact h1.symm)
      rwa [Nat.zero_add] at this
    generalize rtN s = p at *
    rw [he]
    apply bytes_ext
    rw [ByteArray.toList_eq, ByteArray.toList_eq, ByteArray.data_append, Array.toList_append, ByteArray.data_extract, ByteArray.data_extract, ByteArray.data_extract, Array.toList_extract, Array.toList_extract, Array.toList_extract, List.extract_eq_take_drop, List.extract_eq_take_drop, List.extract_eq_take_drop, List.drop_zero, Nat.sub_zero, Nat.add_sub_cancel_left, Nat.sub_zero, List.take_add]
theorem rt_whole {s : ByteArray} (h : 1 ≤ s.size) : timesB (s.extract 0 (rtN s)) (s.size / rtN s) = s := by
  obtain ⟨⟨a1, _⟩, b, _, _⟩ := rt_spec h
  have hd : s.size / rtN s * rtN s = s.size := Nat.div_mul_cancel (Nat.dvd_of_mod_eq_zero a1)
  rw [rt_times h _ (by omega), hd]
  apply bytes_ext
  rw [ByteArray.toList_eq, ByteArray.toList_eq, ByteArray.data_extract, Array.toList_extract, List.extract_eq_take_drop, List.drop_zero, List.take_of_length_le (by simp)]
end Go.Proofs.Ytnejalefpenbfaa
