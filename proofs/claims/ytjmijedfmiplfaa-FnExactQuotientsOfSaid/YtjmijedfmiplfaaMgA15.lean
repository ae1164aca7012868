/- Texts put together. -/
import Derived.Test.YtjmijedfmiplfaaMgA9
import Derived.Test.YtjmijedfmiplfaaMgA13
import Derived.Test.YtjmijedfmiplfaaMgA10
import Derived.Test.YtjmijedfmiplfaaMgA6
/- Two periods of a word that is long enough have their greatest common divisor as a period. No program in it. -/
namespace Go.Proofs.Ytjmijedfmiplfaa
open Go.RowKit

def PdF {α : Type} (f : Nat → α) (n p : Nat) : Prop := ∀ i, i + p < n → f i = f (i + p)
theorem pd_mul {α : Type} {f : Nat → α} {n g : Nat} (h : PdF f n g) : ∀ t i, i + t * g < n → f i = f (i + t * g)
  | 0, i, _ => by rw [Nat.zero_mul, Nat.add_zero]
  | t + 1, i, hi => by
    rw [Nat.succ_mul] at hi ⊢
    rw [pd_mul h t i (by omega), h (i + t * g) (by omega)]
    congr 1
    omega
theorem pd_less {α : Type} {f : Nat → α} {n p q : Nat} (hpq : p < q) (hp : PdF f n p) (hq : PdF f n q) : PdF f (n - p) p ∧ PdF f (n - p) (q - p) := by
  refine ⟨fun i hi => hp i (by omega), fun i hi => ?_⟩
  have h1 := hq i (by omega)
  have h2 := hp (i + (q - p)) (by omega)
  rw [h1, h2]
  congr 1
  omega
theorem pd_up {α : Type} {f : Nat → α} {n p g : Nat} (hg : 1 ≤ g) (hgp : g ∣ p) (hp1 : 1 ≤ p) (hn : p ≤ n - p) (hp : PdF f n p) (h : PdF f (n - p) g) : PdF f n g := by
  intro i hi
  obtain ⟨t, ht⟩ := hgp
  by_cases h1 : i + g < n - p
  · exact h i h1
  · have hle : g ≤ p := Nat.le_of_dvd (by omega) ⟨t, ht⟩
    by_cases h2 : p ≤ i
    · have e1 := hp (i - p) (by omega)
      have e2 := hp (i + g - p) (by omega)
      have e3 := h (i - p) (by omega)
      rw [Nat.sub_add_cancel h2] at e1
      rw [Nat.sub_add_cancel (by omega)] at e2
      rw [← e1, ← e2, e3]
      congr 1
      omega
    · have e2 := hp (i + g - p) (by omega)
      rw [Nat.sub_add_cancel (by omega)] at e2
      have ht1 : 1 ≤ t := by
        rcases Nat.eq_zero_or_pos t with e | e
        · rw [e, Nat.mul_zero] at ht; omega
        · exact e
      have hm : (t - 1) * g = p - g := by
        rw [Nat.sub_mul, Nat.one_mul, Nat.mul_comm t g, ← ht]
      have e3 := pd_mul h (t - 1) (i + g - p) (by rw [hm]; omega)
      rw [hm, show i + g - p + (p - g) = i by omega] at e3
      rw [← e2, e3]
theorem fine_wilf {α : Type} (f : Nat → α) : ∀ (s p q n : Nat), p + q ≤ s → 1 ≤ p → 1 ≤ q → p + q ≤ n + Nat.gcd p q → PdF f n p → PdF f n q → PdF f n (Nat.gcd p q)
  | 0, p, q, n, hs, h1, h2, _, _, _ => absurd hs (by omega)
  | s + 1, p, q, n, hs, h1, h2, hn, hp, hq => by
    by_cases he : p = q
    · subst he
      rw [Nat.gcd_self]
      exact hp
    · have key : ∀ p q : Nat, p + q ≤ s + 1 → 1 ≤ p → p < q → p + q ≤ n + Nat.gcd p q → PdF f n p → PdF f n q → PdF f n (Nat.gcd p q) := fun p q hs h1 hlt hn hp hq => by
        have hg : Nat.gcd p (q - p) = Nat.gcd p q := by
          rw [Nat.gcd_comm p (q - p), Nat.gcd_comm p q]
          conv => rhs; rw [← Nat.sub_add_cancel (Nat.le_of_lt hlt)]
          rw [Nat.gcd_add_self_left]
        have hg1 : 1 ≤ Nat.gcd p q := Nat.gcd_pos_of_pos_left _ (by omega)
        have hd1 := Nat.gcd_dvd_left p q
        have hd2 : Nat.gcd p q ∣ q - p := by rw [← hg]; exact Nat.gcd_dvd_right _ _
        have hle2 := Nat.le_of_dvd (by omega) hd2
        obtain ⟨l1, l2⟩ := pd_less hlt hp hq
        have ih := fine_wilf f s p (q - p) (n - p) (by omega) h1 (by omega) (by rw [hg]; omega) l1 l2
        rw [hg] at ih
        exact pd_up hg1 hd1 h1 (by omega) hp ih
      by_cases hlt : p < q
      · exact key p q hs h1 hlt hn hp hq
      · have := key q p (by omega) h2 (by omega) (by rw [Nat.gcd_comm]; omega) hq hp
        rwa [Nat.gcd_comm] at this
theorem per_pd (s : ByteArray) (p : Nat) : PerAt s p ↔ PdF (fun i => s.data.toList[i]?) s.size p := Iff.rfl
/-- two periods of a word -/
theorem per_fine {s : ByteArray} {p q : Nat} (h1 : 1 ≤ p) (h2 : 1 ≤ q) (hn : p + q ≤ s.size + Nat.gcd p q) (hp : PerAt s p) (hq : PerAt s q) : PerAt s (Nat.gcd p q) :=
  fine_wilf (fun i => s.data.toList[i]?) (p + q) p q s.size (Nat.le_refl _) h1 h2 hn hp hq
/-- AllPeriodsFine is so for any two periods -/
theorem af_yes {s : ByteArray} (hw : wordB s = true) {p q : Nat} (h1 : 1 ≤ p) (h2 : p ≤ s.size) (h3 : 1 ≤ q) (h4 : q ≤ s.size) (hp : PerAt s p) (hq : PerAt s q) : afR s p q = true := by
  unfold afR
  rw [hw, decide_eq_true (show (1 : Int) ≤ (p : Int) by omega), decide_eq_true (show (p : Int) ≤ (s.size : Int) by omega), decide_eq_true (show (1 : Int) ≤ (q : Int) by omega), decide_eq_true (show (q : Int) ≤ (s.size : Int) by omega), Int.toNat_natCast, Int.toNat_natCast, (perB_iff s p).2 hp, (perB_iff s q).2 hq]
  simp only [Bool.true_and]
  by_cases h : p + q ≤ s.size + Nat.gcd p q
  · rw [(perB_iff s _).2 (per_fine h1 h3 h hp hq), Bool.or_true]
  · rw [decide_eq_true (by omega), Bool.true_or]
end Go.Proofs.Ytjmijedfmiplfaa

/- Chapter 8 of the model: GreatestExponent. Conditions: lengths of at most 2^20. -/
namespace Go.Proofs.Ytjmijedfmiplfaa
open Go.RowKit Go.Lib

noncomputable def gexRow (s : ByteArray) (n : Nat) (y : Nat × Nat) : Nat → Nat × Nat
  | 0 => y
  | i + 1 => if (gexRow s n y i).1 * perN (s.extract i (i + n)) < n * (gexRow s n y i).2 then (n, perN (s.extract i (i + n))) else gexRow s n y i
/-- behind the factors of 1 to n + 1 letters: the length and the least period of the best -/
noncomputable def gexTo (s : ByteArray) : Nat → Nat × Nat
  | 0 => (1, 1)
  | n + 1 => gexRow s (n + 2) (gexTo s n) (s.size + 1 - (n + 2))
def gexOk (s : ByteArray) : Bool := wordB s && (decide (1 ≤ s.size) && decide (s.size ≤ 60))
/-- what GreatestExponent is to return -/
noncomputable def gexR (s : ByteArray) : Nat × Nat := if gexOk s = true then gexTo s (s.size - 1) else (0, 0)
theorem firstP_le {P : Nat → Prop} : ∀ (k p : Nat), p ≤ firstP P p k ∧ firstP P p k ≤ p + k
  | 0, p => ⟨Nat.le_refl _, Nat.le_refl _⟩
  | k + 1, p => by
    have := firstP_le (P := P) k (p + 1)
    unfold firstP
    split <;> omega
theorem perN_le (s : ByteArray) : 1 ≤ perN s ∧ perN s ≤ s.size + 1 := by
  have := firstP_le (P := PerAt s) s.size 1
  unfold perN
  omega
theorem gexRow_le (s : ByteArray) (n : Nat) (hn : n ≤ 60) (y : Nat × Nat) (hy : y.1 ≤ 61 ∧ y.2 ≤ 61) : ∀ i, (gexRow s n y i).1 ≤ 61 ∧ (gexRow s n y i).2 ≤ 61
  | 0 => hy
  | i + 1 => by
    have ih := gexRow_le s n hn y hy i
    unfold gexRow
    split
    · have := perN_le (s.extract i (i + n))
      have hz : (s.extract i (i + n)).size ≤ n := by rw [ByteArray.size_extract]; omega
      exact ⟨by show n ≤ 61; omega, by show perN _ ≤ 61; omega⟩
    · exact ih
theorem gexTo_le (s : ByteArray) : ∀ n, n ≤ 59 → (gexTo s n).1 ≤ 61 ∧ (gexTo s n).2 ≤ 61
  | 0, _ => ⟨by show 1 ≤ 61; omega, by show 1 ≤ 61; omega⟩
  | n + 1, h => gexRow_le s (n + 2) (by omega) _ (gexTo_le s n (by omega)) _
theorem gexRow_yes {s : ByteArray} {n i : Nat} {y : Nat × Nat} (h : (gexRow s n y i).1 * perN (s.extract i (i + n)) < n * (gexRow s n y i).2) : gexRow s n y (i + 1) = (n, perN (s.extract i (i + n))) := if_pos h
theorem gexRow_no {s : ByteArray} {n i : Nat} {y : Nat × Nat} (h : ¬ (gexRow s n y i).1 * perN (s.extract i (i + n)) < n * (gexRow s n y i).2) : gexRow s n y (i + 1) = gexRow s n y i := if_neg h
theorem mul_low {a b : Nat} (h1 : a ≤ 61) (h2 : b ≤ 61) : a * b ≤ 3721 := Nat.le_trans (Nat.mul_le_mul h1 h2) (by omega)

end Go.Proofs.Ytjmijedfmiplfaa

/- Chapter 8 of the model: CountSquareFree, ExtendSquareFree. Conditions: lengths of at most 2^20. -/
namespace Go.Proofs.Ytjmijedfmiplfaa
open Go.RowKit Go.Lib

def sumJ (f : Nat → Nat) : Nat → Nat
  | 0 => 0
  | j + 1 => sumJ f j + f j
theorem sumJ_le {f : Nat → Nat} {b : Nat} : ∀ j, (∀ i, i < j → f i ≤ b) → sumJ f j ≤ j * b
  | 0, _ => Nat.zero_le _
  | j + 1, h => by
    have h1 := sumJ_le (f := f) (b := b) j (fun i hi => h i (by omega))
    have h2 := h j (by omega)
    show sumJ f j + f j ≤ (j + 1) * b
    rw [Nat.succ_mul]
    omega
/-- words of k letters more without squares -/
noncomputable def cntW (L : Nat) : Nat → ByteArray → Nat
  | 0, _ => 1
  | k + 1, w => sumJ (fun j => if endsB (w ++ ⟨#[letterN j]⟩) = true then 0 else cntW L k (w ++ ⟨#[letterN j]⟩)) L
theorem cntW_le (L : Nat) (hL : L ≤ 3) : ∀ k w, cntW L k w ≤ 3 ^ k
  | 0, _ => Nat.le_refl _
  | k + 1, w => by
    show sumJ _ L ≤ _
    refine Nat.le_trans (sumJ_le (b := 3 ^ k) L fun i _ => ?_) ?_
    · show (if endsB (w ++ ⟨#[letterN i]⟩) = true then 0 else cntW L k (w ++ ⟨#[letterN i]⟩)) ≤ _
      split
      · exact Nat.zero_le _
      · exact cntW_le L hL k _
    · rw [Nat.pow_succ, Nat.mul_comm]
      exact Nat.mul_le_mul_left _ hL
noncomputable def cntR (L n : Int) : Int := if ((decide (1 ≤ L) && decide (L ≤ 3)) && (decide (0 ≤ n) && decide (n ≤ 12))) = true then (cntW L.toNat n.toNat ⟨#[]⟩ : Int) else -1
theorem letter3_slice (P : Program) {t : TypeId} (ht : P.underlying t = some .string) (k : Nat) (hk : k ≤ 2) (w : World) :
    (Instr.slice t (.string ⟨#[97, 98, 99]⟩) (some (.int .i64 (k : Int))) (some (.int .i64 ((k : Int) + 1))) none).run P w = .ok (.string ⟨#[letterN k]⟩) w := by
  have h4 : ((⟨#[97, 98, 99]⟩ : ByteArray).size : Int) = 3 := rfl
  rw [run_slice_string (P := P) w t ⟨#[97, 98, 99]⟩ .i64 .i64 (k : Int) ((k : Int) + 1) ht (by omega) (by omega) (by omega)]
  rcases (show k = 0 ∨ k = 1 ∨ k = 2 by omega) with e | e | e <;> subst e <;> rfl
theorem more_size (w : ByteArray) (k : Nat) : (w ++ (⟨#[letterN k]⟩ : ByteArray)).size = w.size + 1 := by
  have h1 : (⟨#[letterN k]⟩ : ByteArray).size = 1 := rfl
  rw [ByteArray.size_append, h1]

end Go.Proofs.Ytjmijedfmiplfaa

/- Chapter 8 of the model: ExtendSquareFree. Conditions: lengths of at most 2^20. -/
namespace Go.Proofs.Ytjmijedfmiplfaa
open Go.RowKit Go.Lib

noncomputable def extB (s : ByteArray) (j : Nat) : Bool := wordB (s ++ ⟨#[letterN j]⟩) && !endsB (s ++ ⟨#[letterN j]⟩)
noncomputable def extF (s : ByteArray) : Nat → Nat → ByteArray
  | _, 0 => ⟨#[]⟩
  | j, k + 1 => if extB s j = true then s ++ ⟨#[letterN j]⟩ else extF s (j + 1) k
/-- what ExtendSquareFree is to return -/
noncomputable def extR (s : ByteArray) : ByteArray := if freeR s 1 0 = true then extF s 0 3 else ⟨#[]⟩
theorem extF_yes {s : ByteArray} {j k : Nat} (h : extB s j = true) : extF s j (k + 1) = s ++ ⟨#[letterN j]⟩ := if_pos h
theorem extF_no {s : ByteArray} {j k : Nat} (h : extB s j = false) : extF s j (k + 1) = extF s (j + 1) k := if_neg (by rw [h]; decide)

end Go.Proofs.Ytjmijedfmiplfaa
