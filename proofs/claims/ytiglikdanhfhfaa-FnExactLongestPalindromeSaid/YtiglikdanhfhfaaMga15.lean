/- Texts put together. -/
import Derived.Test.YtiglikdanhfhfaaMga14
import Derived.Test.YtiglikdanhfhfaaMga7
import Derived.Test.YtiglikdanhfhfaaMga9
import Derived.Test.YtiglikdanhfhfaaMga10
import Derived.Test.YtiglikdanhfhfaaMga1
import Derived.Test.YtiglikdanhfhfaaMga2
import Derived.Test.YtiglikdanhfhfaaMga4
import Derived.Laws.Cover1
/- Chapter 8 of the model: ExtendSquareFree. Conditions: lengths of at most 2^20. -/
namespace Go.Proofs.Ytiglikdanhfhfaa
open Go.RowKit Go.Lib

noncomputable def extB (s : ByteArray) (j : Nat) : Bool := wordB (s ++ ⟨#[letterN j]⟩) && !endsB (s ++ ⟨#[letterN j]⟩)
noncomputable def extF (s : ByteArray) : Nat → Nat → ByteArray
  | _, 0 => ⟨#[]⟩
  | j, k + 1 => if extB s j = true then s ++ ⟨#[letterN j]⟩ else extF s (j + 1) k
/-- what ExtendSquareFree is to return -/
noncomputable def extR (s : ByteArray) : ByteArray := if freeR s 1 0 = true then extF s 0 3 else ⟨#[]⟩
theorem extF_yes {s : ByteArray} {j k : Nat} (h : extB s j = true) : extF s j (k + 1) = s ++ ⟨#[letterN j]⟩ := if_pos h
theorem extF_no {s : ByteArray} {j k : Nat} (h : extB s j = false) : extF s j (k + 1) = extF s (j + 1) k := if_neg (by rw [h]; decide)

end Go.Proofs.Ytiglikdanhfhfaa

/- The mathematics of FnPowers: squares, cubes, overlaps, periods and exponents say the same. No program in it. -/
namespace Go.Proofs.Ytiglikdanhfhfaa
open Go.RowKit

theorem pz_list (s : ByteArray) (i n j : Nat) (h : j < n) : (s.extract i (i + n)).data.toList[j]? = s.data.toList[i + j]? := by
  rw [ByteArray.data_extract, Array.toList_extract, List.extract_eq_take_drop, Nat.add_sub_cancel_left, List.getElem?_take, if_pos h, List.getElem?_drop]
theorem pz_size (s : ByteArray) (i n : Nat) (h : i + n ≤ s.size) : (s.extract i (i + n)).size = n := by rw [ByteArray.size_extract]; omega
theorem pz_ext {s : ByteArray} {i k h : Nat} (h1 : i + h ≤ s.size) (h2 : k + h ≤ s.size) : s.extract i (i + h) = s.extract k (k + h) ↔ ∀ j, j < h → s.data.toList[i + j]? = s.data.toList[k + j]? := by
  constructor
  · intro e j hj
    rw [← pz_list s i h j hj, ← pz_list s k h j hj, e]
  · intro e
    apply bytes_ext
    rw [ByteArray.toList_eq, ByteArray.toList_eq]
    apply List.ext_getElem?
    intro j
    by_cases hj : j < h
    · rw [pz_list s i h j hj, pz_list s k h j hj, e j hj]
    · have a := pz_size s i h h1
      have b := pz_size s k h h2
      rw [List.getElem?_eq_none (by simp only [Array.length_toList]; show (s.extract i (i + h)).size ≤ j; omega), List.getElem?_eq_none (by simp only [Array.length_toList]; show (s.extract k (k + h)).size ≤ j; omega)]
theorem pz_sq (s : ByteArray) (i h : Nat) : PwAt s i h ↔ 1 ≤ h ∧ RunAt s h h i := by
  unfold PwAt RunAt
  constructor
  · rintro ⟨a, b, c⟩
    refine ⟨a, by omega, ?_⟩
    rw [show i + 2 * h = i + h + h by omega] at c
    exact (pz_ext (by omega) (by omega)).1 c
  · rintro ⟨a, b, c⟩
    refine ⟨a, by omega, ?_⟩
    rw [show i + 2 * h = i + h + h by omega]
    exact (pz_ext (by omega) (by omega)).2 c
theorem pz_rep1 (s : ByteArray) : repB s 1 0 = true ↔ ∃ i h, PwAt s i h := by
  rw [repB_iff]
  constructor
  · rintro ⟨p, h1, i, h2⟩
    rw [Nat.one_mul, Nat.add_zero] at h2
    exact ⟨i, p, (pz_sq s i p).2 ⟨h1, h2⟩⟩
  · rintro ⟨i, h, hh⟩
    obtain ⟨a, b⟩ := (pz_sq s i h).1 hh
    exact ⟨h, a, i, by rw [Nat.one_mul, Nat.add_zero]; exact b⟩
theorem pz_less {s : ByteArray} {m m' p i : Nat} (h : RunAt s m p i) (hm : m' ≤ m) : RunAt s m' p i := ⟨by have := h.1; omega, fun j hj => h.2 j (by omega)⟩
theorem pz_sq_over {s : ByteArray} (h : repB s 1 1 = true) : repB s 1 0 = true := by
  obtain ⟨p, h1, i, h2⟩ := (repB_iff s 1 1).1 h
  exact (repB_iff s 1 0).2 ⟨p, h1, i, pz_less h2 (by omega)⟩
theorem pz_over_cube {s : ByteArray} (h : repB s 2 0 = true) : repB s 1 1 = true := by
  obtain ⟨p, h1, i, h2⟩ := (repB_iff s 2 0).1 h
  exact (repB_iff s 1 1).2 ⟨p, h1, i, pz_less h2 (by omega)⟩
theorem pz_end (s : ByteArray) (e h : Nat) : SqEnd s e h ↔ 2 * h ≤ e ∧ e ≤ s.size ∧ PwAt s (e - 2 * h) h := by
  unfold SqEnd PwAt
  constructor
  · rintro ⟨a, b, c, d⟩
    refine ⟨b, c, a, by omega, ?_⟩
    rw [show e - 2 * h + h = e - h by omega, show e - 2 * h + 2 * h = e by omega]
    exact d
  · rintro ⟨b, c, a, _, d⟩
    rw [show e - 2 * h + h = e - h by omega, show e - 2 * h + 2 * h = e by omega] at d
    exact ⟨a, b, c, d⟩
theorem pz_ends_sq (s : ByteArray) : (∃ e h, SqEnd s e h) ↔ ∃ i h, PwAt s i h := by
  constructor
  · rintro ⟨e, h, hh⟩
    exact ⟨_, h, ((pz_end s e h).1 hh).2.2⟩
  · rintro ⟨i, h, hh⟩
    exact ⟨i + 2 * h, h, (pz_end s _ h).2 ⟨by omega, hh.2.1, by rw [Nat.add_sub_cancel]; exact hh⟩⟩

/-! ### periods -/
theorem firstP_spec {P : Nat → Prop} : ∀ k p, (∃ q, p ≤ q ∧ q ≤ p + k ∧ P q) → P (firstP P p k) ∧ ∀ q, p ≤ q → P q → firstP P p k ≤ q
  | 0, p, ⟨q, h1, h2, h3⟩ => by
    have e : q = p := by omega
    subst e
    exact ⟨h3, fun r hr _ => hr⟩
  | k + 1, p, ⟨q, h1, h2, h3⟩ => by
    by_cases hp : P p
    · have e : firstP P p (k + 1) = p := if_pos (@decide_eq_true _ (Classical.propDecidable _) hp)
      rw [e]
      exact ⟨hp, fun r hr _ => hr⟩
    · have e : firstP P p (k + 1) = firstP P (p + 1) k := if_neg (by rw [@decide_eq_false _ (Classical.propDecidable _) hp]; decide)
      rw [e]
      have hqp : q ≠ p := fun e => hp (e ▸ h3)
      obtain ⟨a, b⟩ := firstP_spec k (p + 1) ⟨q, by omega, by omega, h3⟩
      refine ⟨a, fun r hr hP => b r ?_ hP⟩
      have : r ≠ p := fun e => hp (e ▸ hP)
      omega
theorem pz_per {s : ByteArray} (h : 1 ≤ s.size) : PerAt s (perN s) ∧ ∀ q, 1 ≤ q → PerAt s q → perN s ≤ q :=
  firstP_spec s.size 1 ⟨s.size, h, by omega, per_size s⟩
theorem pz_run (s : ByteArray) (m p i : Nat) (h : i + (p + m) ≤ s.size) : RunAt s m p i ↔ PerAt (s.extract i (i + (p + m))) p := by
  have hz := pz_size s i (p + m) h
  unfold RunAt PerAt
  rw [hz]
  constructor
  · rintro ⟨_, b⟩ j hj
    rw [pz_list s i (p + m) j (by omega), pz_list s i (p + m) (j + p) (by omega), b j (by omega)]
    congr 1
    omega
  · intro b
    refine ⟨by omega, fun j hj => ?_⟩
    have := b j (by omega)
    rw [pz_list s i (p + m) j (by omega), pz_list s i (p + m) (j + p) (by omega)] at this
    rw [this]
    congr 1
    omega

/-! ### the greatest exponent -/
def GexGot (s : ByteArray) (x : Nat × Nat) : Prop := 1 ≤ x.1 ∧ 1 ≤ x.2 ∧ ∃ i, i + x.1 ≤ s.size ∧ x.2 = perN (s.extract i (i + x.1))
def GexTop (s : ByteArray) (x : Nat × Nat) (m i : Nat) : Prop := m * x.2 ≤ x.1 * perN (s.extract i (i + m))
theorem gex_more {s : ByteArray} {x : Nat × Nat} {n p m i : Nat} (h1 : 1 ≤ x.2) (h : GexTop s x m i) (hl : x.1 * p < n * x.2) : GexTop s (n, p) m i := by
  unfold GexTop at h ⊢
  show m * p ≤ n * perN (s.extract i (i + m))
  generalize perN (s.extract i (i + m)) = q at h
  obtain ⟨a, b⟩ := x
  simp only at h h1 hl
  refine Nat.le_of_mul_le_mul_right ?_ (show 0 < b by omega)
  have e1 : m * p * b = m * b * p := Nat.mul_right_comm m p b
  have e2 : n * q * b = n * b * q := Nat.mul_right_comm n q b
  rw [e1, e2]
  have e3 : m * b * p ≤ a * q * p := Nat.mul_le_mul_right p h
  have e4 : a * q * p = a * p * q := Nat.mul_right_comm a q p
  have e5 : a * p * q ≤ n * b * q := Nat.mul_le_mul_right q (Nat.le_of_lt hl)
  omega
theorem gexRow_spec {s : ByteArray} {n : Nat} (hn : 1 ≤ n) {y : Nat × Nat} (hy : GexGot s y) (ht : ∀ m i, 1 ≤ m → m < n → i + m ≤ s.size → GexTop s y m i) : ∀ k, k + n ≤ s.size + 1 → GexGot s (gexRow s n y k) ∧ (∀ m i, 1 ≤ m → m < n → i + m ≤ s.size → GexTop s (gexRow s n y k) m i) ∧ ∀ i, i < k → GexTop s (gexRow s n y k) n i
  | 0, _ => ⟨hy, ht, fun i h => absurd h (by omega)⟩
  | k + 1, hk => by
    obtain ⟨a, b, c⟩ := gexRow_spec hn hy ht k (by omega)
    by_cases hc : (gexRow s n y k).1 * perN (s.extract k (k + n)) < n * (gexRow s n y k).2
    · rw [gexRow_yes hc]
      refine ⟨⟨hn, (perN_le _).1, k, by show k + n ≤ s.size; omega, rfl⟩, fun m i h1 h2 h3 => gex_more a.2.1 (b m i h1 h2 h3) hc, fun i hi => ?_⟩
      by_cases e : i = k
      · subst e; exact Nat.le_refl _
      · exact gex_more a.2.1 (c i (by omega)) hc
    · rw [gexRow_no hc]
      refine ⟨a, b, fun i hi => ?_⟩
      by_cases e : i = k
      · subst e; show _ * _ ≤ _ * _; omega
      · exact c i (by omega)
theorem pz_one {s : ByteArray} {i : Nat} (h : i + 1 ≤ s.size) : perN (s.extract i (i + 1)) = 1 := by
  have hz := pz_size s i 1 h
  have h1 := (pz_per (s := s.extract i (i + 1)) (by omega)).2 1 (Nat.le_refl _) (fun j hj => absurd hj (by omega))
  have h2 := (perN_le (s.extract i (i + 1))).1
  omega
theorem gexTo_spec {s : ByteArray} (h0 : 1 ≤ s.size) : ∀ n, n + 1 ≤ s.size → GexGot s (gexTo s n) ∧ ∀ m i, 1 ≤ m → m < n + 2 → i + m ≤ s.size → GexTop s (gexTo s n) m i
  | 0, _ => by
    refine ⟨⟨Nat.le_refl _, Nat.le_refl _, 0, by show 0 + 1 ≤ s.size; omega, (pz_one (by omega)).symm⟩, fun m i h1 h2 h3 => ?_⟩
    have e : m = 1 := by omega
    subst e
    show 1 * 1 ≤ 1 * perN (s.extract i (i + 1))
    rw [pz_one h3]
    exact Nat.le_refl _
  | n + 1, hn => by
    obtain ⟨a, b⟩ := gexTo_spec h0 n (by omega)
    obtain ⟨c, d, e⟩ := gexRow_spec (n := n + 2) (by omega) a b (s.size + 1 - (n + 2)) (by omega)
    refine ⟨c, fun m i h1 h2 h3 => ?_⟩
    by_cases hm : m = n + 2
    · subst hm
      exact e i (by omega)
    · exact d m i h1 (by omega) h3
/-- a repetition of n * p + e letters is there exactly if the greatest exponent says so -/
theorem pz_gex {s : ByteArray} (h0 : 1 ≤ s.size) (n e : Nat) (hne : 1 ≤ n) (he : e ≤ 1) : repB s n e = true ↔ (n + 1) * (gexTo s (s.size - 1)).2 + e ≤ (gexTo s (s.size - 1)).1 := by
  obtain ⟨⟨a1, a2, i0, a3, a4⟩, b⟩ := gexTo_spec h0 (s.size - 1) (by omega)
  generalize gexTo s (s.size - 1) = x at a1 a2 a3 a4 b ⊢
  obtain ⟨a, q⟩ := x
  simp only at a1 a2 a3 a4 b ⊢
  rw [repB_iff]
  constructor
  · rintro ⟨p, hp, i, hr⟩
    have hsz := hr.1
    have hpos : 1 ≤ n * p + e := by have := Nat.mul_le_mul hne hp; omega
    have hper := (pz_run s (n * p + e) p i (by omega)).1 hr
    have hz := pz_size s i (p + (n * p + e)) (by omega)
    have hle := (pz_per (s := s.extract i (i + (p + (n * p + e)))) (by omega)).2 p hp hper
    have ht := b (p + (n * p + e)) i (by omega) (by omega) (by omega)
    unfold GexTop at ht
    simp only at ht
    have ht2 : (p + (n * p + e)) * q ≤ a * p := Nat.le_trans ht (Nat.mul_le_mul_left a hle)
    have e1 : (p + (n * p + e)) * q = ((n + 1) * q) * p + e * q := by grind
    rw [e1] at ht2
    rcases (show e = 0 ∨ e = 1 by omega) with rfl | rfl
    · rw [Nat.zero_mul, Nat.add_zero] at ht2
      have := Nat.le_of_mul_le_mul_right ht2 hp
      omega
    · by_cases hh : (n + 1) * q + 1 ≤ a
      · exact hh
      · have h3 : a * p ≤ ((n + 1) * q) * p := Nat.mul_le_mul_right p (by omega)
        omega
  · intro h
    refine ⟨q, a2, i0, ?_⟩
    have hq := (pz_per (s := s.extract i0 (i0 + a)) (by rw [pz_size s i0 a a3]; exact a1)).1
    rw [← a4] at hq
    have hqa : q ≤ a := by have : q ≤ (n + 1) * q := Nat.le_mul_of_pos_left q (by omega); omega
    have hr := (pz_run s (a - q) q i0 (by omega)).2 (by rw [show q + (a - q) = a by omega]; exact hq)
    refine pz_less hr ?_
    have e1 : (n + 1) * q = n * q + q := Nat.succ_mul n q
    omega
end Go.Proofs.Ytiglikdanhfhfaa

/- Factors of a word: what chapter 7 is to return. No program in it. -/
namespace Go.Proofs.Ytiglikdanhfhfaa
open Go.RowKit

/-- the factors of n letters, ascending -/
def fctL (s : ByteArray) (n : Nat) : List ByteArray := facTo s n (s.size + 1 - n)
def fctOk (s : ByteArray) (n : Int) : Bool := wordB s && (decide (1 ≤ n) && decide (n ≤ 400))
def fctR (s : ByteArray) (n : Int) : List ByteArray := if fctOk s n = true then fctL s n.toNat else []
def cpxR (s : ByteArray) (n : Int) : Int := if fctOk s n = true then ((fctL s n.toNat).length : Int) else -1
def allTo (s : ByteArray) : Nat → Nat
  | 0 => 0
  | k + 1 => allTo s k + (fctL s (k + 1)).length
def allOk (s : ByteArray) : Bool := wordB s && decide (s.size ≤ 60)
def allR (s : ByteArray) : Int := if allOk s = true then (allTo s s.size : Int) else -1
/-- the factor and a letter behind it or ahead of it -/
def exL (f : ByteArray) (before : Bool) (k : Nat) : ByteArray := if before = true then ⟨#[letterN k]⟩ ++ f else f ++ ⟨#[letterN k]⟩
/-- the letters behind or ahead of a factor -/
noncomputable def nxtS (s f : ByteArray) (before : Bool) : ByteArray := ⟨(outTo (fun k => hasR s (exL f before k)) 4).toArray⟩
noncomputable def nxtR (s f : ByteArray) (before : Bool) : ByteArray := if (wordB s && wordB f) = true then nxtS s f before else ⟨#[]⟩
noncomputable def spcL (s : ByteArray) (n : Nat) (before : Bool) : List ByteArray := (fctL s n).filter fun f => decide (1 < (nxtS s f before).size)
noncomputable def spcR (s : ByteArray) (n : Int) (before : Bool) : List ByteArray := if fctOk s n = true then spcL s n.toNat before else []
/-- the index of a string in a list, or -1 -/
def atN (l : List ByteArray) (x : ByteArray) : Nat := l.findIdx fun y => x.toList == y.toList
def atR (l : List ByteArray) (x : ByteArray) : Int := if atN l x < l.length then (atN l x : Int) else -1
def edgeL (s : ByteArray) (n : Nat) : List (List Int) := (fctL s (n + 1)).map fun f => [atR (fctL s n) (f.extract 0 n), atR (fctL s n) (f.extract 1 f.size)]
def grfR (s : ByteArray) (n : Int) : List (List Int) := if fctOk s n = true then edgeL s n.toNat else []
end Go.Proofs.Ytiglikdanhfhfaa

/- flip and in, of the laws. Conditions: lengths of at most 2^20. -/
namespace Go.Proofs.Ytiglikdanhfhfaa
open Go.RowKit

def flipS (s : ByteArray) : ByteArray := ⟨s.data.toList.reverse.toArray⟩
/-- the last i letters, the last one first -/
theorem rev_snoc (l : List UInt8) (i : Nat) (h : i < l.length) : l.reverse.take (i + 1) = l.reverse.take i ++ [l[l.length - 1 - i]'(by omega)] := by
  rw [List.take_succ_eq_append_getElem (by simpa using h), List.getElem_reverse]

set_option maxRecDepth 100000 in
set_option maxHeartbeats 1000000 in
theorem flipC (s : ByteArray) (w : World) (hs : s.size ≤ 1048576) :
    Calls Try.prog 21 #[.string s] w fun e w' => e = .returned (.string (flipS s)) ∧ Below w.heap.size w w' := by
  obtain ⟨i0, hi0, hz0, hz1, hz2⟩ := info_parts u8_info
  go_enter Try.func21, Try.ntmps21
  go_wp2_with fail
  go_loopw [3, 4] (fun o ix w' => ∃ (j n : Nat), j ≤ s.size ∧ n = j ∧ ix = .int .i64 ((s.size : Int) - 1 - (j : Int)) ∧ w'.ownsRow w.heap.size 5 1 o n (byteCells (s.data.toList.reverse.take j)) ∧ Below w.heap.size w w') (fun _ ix _ => (intOf ix + 1).toNat)
  case atStart => exact ⟨0, 0, by omega, rfl, by simp, own_made0 _ _ _ (Nat.le_refl _), (Below.refl _ _).alloc (Nat.le_refl _) _⟩
  case round =>
    obtain ⟨j, n, hj, hnj, rfl, ho, hb⟩ := hrel
    have HO := Lib.hid ho
    have HB := Lib.hid hb
    have hsz := hb.size
    have HN := Lib.hid hnj
    have hn : n ≤ 1048576 := by omega
    clear ho hb hnj
    by_cases hlt : j < s.size
    · obtain ⟨q, hq⟩ : ∃ q : Nat, s.size = j + 1 + q := ⟨s.size - 1 - j, by omega⟩
      have hqs : q < s.size := by omega
      have e0 : (s.size : Int) - 1 - (j : Int) = (q : Int) := by omega
      have HQ := Lib.hid hq
      have HRV := Lib.hid (rev_snoc s.data.toList j (by simpa using hlt))
      rw [e0]
      clear hq e0
      go_wp2_with (at_builtin
                   refine wpList_append1 _ rfl (.tmp 13) (.tmp 17) _ rfl w.heap.size 5 i0 _ 1 Try.underlying22 hi0 hz0 hz1 hz2 rfl _ n _ rfl HO.out (.int .u8 (s[q].toNat : Int)) rfl rfl (by unfold maxLen; omega) (by omega) hsz ?_
                   intro v' w2 hown2 hbel2)
      go_roundw
      case rel =>
        have hq := HQ.out
        refine ⟨j + 1, n + 1, by omega, by rw [HN.out], by congr 1; omega, ?_, HB.out.trans hbel2⟩
        have e1 : s.data.toList[s.data.toList.length - 1 - j]'(by simp; omega) = s[q] := by
          have e2 : s.data.toList.length - 1 - j = q := by simp; omega
          simp only [e2]
          rfl
        rw [HRV.out, e1, byteCells_snoc]
        exact hown2
      case measure => have hq := HQ.out; simp only [intOf]; omega
    · have e0 : (s.size : Int) - 1 - (j : Int) = -1 := by omega
      have hconv := conv_own_to Try.underlying9 HO.out
      have HE : Hid (s.data.toList.reverse.take j = s.data.toList.reverse) := List.take_of_length_le (by simp; omega)
      rw [e0]
      clear e0
      go_wp2_with fail
      go_ret
      refine ⟨ret_str ?_, HB.out⟩
      rw [HE.out]
      rfl

def inB (l : List ByteArray) (x : ByteArray) : Bool := l.any fun y => x.toList == y.toList
theorem inB_iff (l : List ByteArray) (x : ByteArray) : inB l x = true ↔ x ∈ l := by
  unfold inB
  rw [List.any_eq_true]
  constructor
  · rintro ⟨y, hy, e⟩
    rw [bytes_ext (eq_of_beq e)]
    exact hy
  · exact fun h => ⟨x, h, by simp⟩
set_option maxRecDepth 100000 in
theorem inC (l : List ByteArray) (v : Value) (x : ByteArray) (w : World) (h : Lst w v (strs l)) (hn : l.length ≤ 1048576) :
    Calls Try.prog 18 #[v, .string x] w fun e w' => e = .returned (.bool (inB l x)) ∧ w = w' := by
  obtain ⟨A, c, rfl, hc1, hc2, h1⟩ := h
  rw [strs_length] at hc1 ⊢
  have H1 := Lib.hid h1
  clear h1
  go_enter Try.func18, Try.ntmps18
  go_wp2_with fail
  go_loop [9] (fun i => ∃ k : Nat, k ≤ l.length ∧ i = .int .i64 (k : Int) ∧ ∀ j (hj : j < l.length), j < k → (x.toList == l[j].toList) = false) (fun i => l.length - (intOf i).toNat)
  case atStart => exact ⟨0, by omega, rfl, fun j _ h => by omega⟩
  case round =>
    obtain ⟨k, hk, rfl, hno⟩ := hrel
    have HNO := Lib.hid hno
    clear hno
    by_cases hlt : k < l.length
    · have h2 := H1.out.resolve_left (by
        intro e
        have := congrArg List.length e
        rw [strs_length] at this
        simp only [List.length_nil] at this
        omega)
      obtain ⟨b, off, rfl, h2⟩ := h2
      have g1 := strs_at h2 k hlt
      rcases hq : (x.toList == l[k].toList) with _ | _
      · have HQ := Lib.hid hq
        clear h2
        go_wp2_with fail
        go_round
        case rel => exact ⟨k + 1, by omega, by go_num, fun j hj h => by
          by_cases e : j = k
          · subst e; exact HQ.out
          · exact HNO.out j hj (by omega)⟩
        case measure => simp [intOf]; omega
      · have HI : Hid (inB l x = true) := (inB_iff l x).2 (by rw [bytes_ext (eq_of_beq hq)]; exact List.getElem_mem _)
        clear h2
        go_wp2_with fail
        go_ret
        exact ⟨ret_bool HI.out.symm, rfl⟩
    · have HI : Hid (inB l x = false) := by
        rcases hi : inB l x with _ | _
        · rfl
        · obtain ⟨j, hj, e⟩ := List.mem_iff_getElem.1 ((inB_iff l x).1 hi)
          have := HNO.out j hj (by omega)
          rw [e] at this
          simp at this
      go_wp2_with fail
      go_ret
      exact ⟨ret_bool HI.out.symm, rfl⟩
end Go.Proofs.Ytiglikdanhfhfaa
