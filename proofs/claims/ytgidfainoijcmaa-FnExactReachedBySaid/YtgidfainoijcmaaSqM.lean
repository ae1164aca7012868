/- Squares of the program compared; the marks of a product. -/
import Derived.Test.YtgidfainoijcmaaSqG
import Derived.Test.YtgidfainoijcmaaSqB
import Derived.Test.YtgidfainoijcmaaCountP
import Derived.Deep.DeepCutAuto
import Derived.Deep.RegionHeld3
namespace Go.Proofs.Ytgidfainoijcmaa
open Go.RowKit

def eqR (c e : Nat → Int) : Bool := c 0 == e 0 && (c 1 == e 1 && (c 2 == e 2 && c 3 == e 3))
def eqF (f g : Nat → Nat → Int) : Bool := eqR (f 0) (g 0) && (eqR (f 1) (g 1) && (eqR (f 2) (g 2) && eqR (f 3) (g 3)))
theorem eqR_iff (c e : Nat → Int) : eqR c e = true ↔ ∀ k, k < 4 → c k = e k := by
  unfold eqR
  simp only [Bool.and_eq_true, beq_iff_eq]
  constructor
  · rintro ⟨h0, h1, h2, h3⟩ k hk
    rcases four_cases hk with rfl | rfl | rfl | rfl <;> assumption
  · intro h
    exact ⟨h 0 (by decide), h 1 (by decide), h 2 (by decide), h 3 (by decide)⟩
theorem eqF_iff (f g : Nat → Nat → Int) : eqF f g = true ↔ ∀ i k, i < 4 → k < 4 → f i k = g i k := by
  unfold eqF
  simp only [Bool.and_eq_true, eqR_iff]
  constructor
  · rintro ⟨h0, h1, h2, h3⟩ i k hi hk
    rcases four_cases hi with rfl | rfl | rfl | rfl
    · exact h0 k hk
    · exact h1 k hk
    · exact h2 k hk
    · exact h3 k hk
  · intro h
    exact ⟨fun k hk => h 0 k (by decide) hk, fun k hk => h 1 k (by decide) hk, fun k hk => h 2 k (by decide) hk, fun k hk => h 3 k (by decide) hk⟩
theorem row_eq (c e : Nat → Int) (w : World) : (Op.equalIn 9998 64 (.agg (rowA c)) (.agg (rowA e))).run Try.prog w = .ok (eqR c e) w := by
  have u3 := Try.underlying3
  have a3 := Try.isAgg3
  have z3 := Try.sizeOf3
  unfold rowA eqR
  generalize c 0 = x0
  generalize c 1 = x1
  generalize c 2 = x2
  generalize c 3 = x3
  generalize e 0 = y0
  generalize e 1 = y1
  generalize e 2 = y2
  generalize e 3 = y3
  rw [show (9998 : Nat) = 9997 + 1 from rfl, Op.equalIn]
  simp only [Sem.run_bind, run_underlying Try.underlying64, Result.andThen_ok]
  simp only [Std.Legacy.Range.forIn_eq_forIn_range', Std.Legacy.Range.size, Nat.sub_zero, Nat.add_sub_cancel, Nat.div_one, List.range'_succ, List.range'_zero, List.forIn_cons, List.forIn_nil]
  go_simp
  by_cases h1 : x0 = y0 <;> by_cases h2 : x1 = y1 <;> by_cases h3 : x2 = y2 <;> by_cases h4 : x3 = y3 <;> simp [h1, h2, h3, h4]
theorem rows_eq (f g : Nat → Nat → Int) (w : World) : (Op.equalIn 9999 65 (.agg (rowsA f)) (.agg (rowsA g))).run Try.prog w = .ok (eqF f g) w := by
  have z3 := Try.sizeOf64
  have p0 : ∀ f : Nat → Nat → Int, (rowsA f).extract 0 4 = rowA (f 0) := fun _ => rfl
  have p1 : ∀ f : Nat → Nat → Int, (rowsA f).extract 4 8 = rowA (f 1) := fun _ => rfl
  have p2 : ∀ f : Nat → Nat → Int, (rowsA f).extract 8 12 = rowA (f 2) := fun _ => rfl
  have p3 : ∀ f : Nat → Nat → Int, (rowsA f).extract 12 16 = rowA (f 3) := fun _ => rfl
  unfold eqF
  rw [show (9999 : Nat) = 9998 + 1 from rfl, Op.equalIn]
  simp only [Sem.run_bind, run_underlying Try.underlying65, Result.andThen_ok]
  simp only [Std.Legacy.Range.forIn_eq_forIn_range', Std.Legacy.Range.size, Nat.sub_zero, Nat.add_sub_cancel, Nat.div_one, List.range'_succ, List.range'_zero, List.forIn_cons, List.forIn_nil]
  go_simp
  simp only [row_eq, Result.andThen_ok]
  generalize eqR (f 0) (g 0) = b0
  generalize eqR (f 1) (g 1) = b1
  generalize eqR (f 2) (g 2) = b2
  generalize eqR (f 3) (g 3) = b3
  cases b0 <;> cases b1 <;> cases b2 <;> cases b3 <;> simp
theorem sq_eq (n m : Int) (f g : Nat → Nat → Int) (w : World) : (Op.equalIn 10000 67 (.agg (sqA n f)) (.agg (sqA m g))).run Try.prog w = .ok (n == m && eqF f g) w := by
  have u3 := Try.underlying3
  have a3 := Try.isAgg3
  have z3 := Try.sizeOf65
  have p0 : ∀ (n : Int) (f : Nat → Nat → Int), (sqA n f).extract 1 17 = rowsA f := fun _ _ => rfl
  have p1 : ∀ (n : Int) (f : Nat → Nat → Int), (sqA n f)[0]? = some (.int .i64 n) := fun _ _ => rfl
  have hh : Try.prog.stoodInHeld 67 = false := by kernel_rfl
  rw [show (10000 : Nat) = 9999 + 1 from rfl, Op.equalIn]
  simp only [Sem.run_bind, run_underlying Try.underlying67, Result.andThen_ok]
  go_simp
  simp only [rows_eq, Result.andThen_ok]
  generalize eqF f g = b0
  by_cases h : n = m <;> cases b0 <;> simp [h]

theorem at2_nn {l : List ByteArray} (hl : substB l = true) (i k : Nat) : 0 ≤ at2 (matL l) i k ∧ at2 (matL l) i k ≤ 8 := by
  by_cases hi : i < l.length
  · have hi2 : i < (matL l).length := by rw [matL_length]; exact hi
    by_cases hk : k < l.length
    · exact matL_small hl i k hi hk
    · rw [at2_outc (matL l) l.length i k hi2 (by rw [matL_at, rowL_length]) (by omega)]
      decide
  · rw [at2_out _ i k (by rw [matL_length]; omega)]
    decide
theorem dot_pos {P : Nat → Nat → Int} {c : Nat → Int} (i : Nat) (hP : ∀ q, 0 ≤ P i q) (hc : ∀ q, 0 ≤ c q) : ∀ n, 0 ≤ dotF P c i n ∧ (0 < dotF P c i n ↔ ∃ q, q < n ∧ 0 < P i q ∧ 0 < c q)
  | 0 => ⟨by simp [dotF], by simp [dotF]⟩
  | n + 1 => by
    obtain ⟨h1, h2⟩ := dot_pos i hP hc n
    have hp := Int.mul_nonneg (hP n) (hc n)
    refine ⟨by unfold dotF; omega, ?_⟩
    constructor
    · intro h
      by_cases h3 : 0 < dotF P c i n
      · obtain ⟨q, hq, a⟩ := h2.1 h3
        exact ⟨q, by omega, a⟩
      · have h4 : 0 < P i n * c n := by unfold dotF at h; omega
        have a1 := hP n
        have a2 := hc n
        refine ⟨n, by omega, ?_, ?_⟩
        · by_cases e : P i n = 0
          · rw [e, Int.zero_mul] at h4; omega
          · omega
        · by_cases e : c n = 0
          · rw [e, Int.mul_zero] at h4; omega
          · omega
    · rintro ⟨q, hq, a, b⟩
      by_cases e : q = n
      · subst e
        have := Int.mul_pos a b
        unfold dotF; omega
      · have := h2.2 ⟨q, by omega, a, b⟩
        unfold dotF; omega
/-- which numbers of the marked product are 1; all others are 0 -/
theorem mt_iff {P M : Nat → Nat → Int} (hP : ∀ i q, 0 ≤ P i q) (hM : ∀ q c, 0 ≤ M q c) (n a c : Nat) : (markF (timesF n P M) a c = 0 ∨ markF (timesF n P M) a c = 1) ∧ (markF (timesF n P M) a c = 1 ↔ c < n ∧ ∃ q, q < 4 ∧ 0 < P a q ∧ 0 < M q c) := by
  unfold markF timesF
  by_cases hc : c < n
  · simp only [if_pos hc]
    obtain ⟨h1, h2⟩ := dot_pos (c := fun j => M j c) a (hP a) (fun q => hM q c) 4
    rw [← h2]
    generalize dotF P (fun j => M j c) a 4 = d at h1
    by_cases hd : 1 < d
    · rw [if_pos hd]
      exact ⟨.inr rfl, fun _ => ⟨hc, by omega⟩, fun _ => rfl⟩
    · rw [if_neg hd]
      exact ⟨by omega, fun _ => ⟨hc, by omega⟩, fun h => by omega⟩
  · simp only [if_neg hc]
    exact ⟨.inl (by decide), fun h => absurd h (by decide), fun h => absurd h.1 hc⟩
/-- the same of a mark alone -/
theorem mk_iff {f : Nat → Nat → Int} (hf : ∀ i q, 0 ≤ f i q) (a c : Nat) : (markF f a c = 0 ∨ markF f a c = 1) ∧ (markF f a c = 1 ↔ 0 < f a c) := by
  have := hf a c
  unfold markF
  by_cases hd : 1 < f a c
  · rw [if_pos hd]
    exact ⟨.inr rfl, fun _ => by omega, fun _ => rfl⟩
  · rw [if_neg hd]
    exact ⟨by omega, fun _ => by omega, fun h => by omega⟩
theorem small_01 {P M : Nat → Nat → Int} (hP : ∀ i q, P i q = 0 ∨ P i q = 1) (hM : ∀ q c, 0 ≤ M q c ∧ M q c ≤ 8) (k : Nat) : Small P (fun j => M j k) := by
  intro i j _ _
  have := hM j k
  show _ ≤ P i j * M j k ∧ P i j * M j k ≤ _
  rcases hP i j with e | e <;> rw [e]
  · rw [Int.zero_mul]; omega
  · rw [Int.one_mul]; omega
end Go.Proofs.Ytgidfainoijcmaa
