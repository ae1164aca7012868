/- Texts put together. -/
import Derived.Test.YtfcbfflkajlhnaaMgT23
import Derived.Deep.DeepCutAuto
import Derived.Deep.RegionWith
import Derived.Deep.RegionHeld3
import Derived.Test.YtfcbfflkajlhnaaMgT8
import Derived.Test.YtfcbfflkajlhnaaMgT11
import Derived.Test.YtfcbfflkajlhnaaMgT24
/- Products of the program's squares, their marks, and the square of ones. -/
namespace Go.Proofs.Ytfcbfflkajlhnaa
open Go.RowKit

/-- the product's numbers -/
def timesF (n : Nat) (f g : Nat → Nat → Int) : Nat → Nat → Int := fun a c => if c < n then dotF f (fun j => g j c) a 4 else 0

end Go.Proofs.Ytfcbfflkajlhnaa

/- MultiplyMatrices of the model. Conditions: lengths of at most 2^20. -/
namespace Go.Proofs.Ytfcbfflkajlhnaa
open Go.RowKit

/-- a matrix, and whether there is one -/
def MatSaid (r : List (List Int)) (ok : Bool) (w : World) (e : Ending) (w' : World) : Prop := ∃ v, e = .returned (.tuple #[v, .bool ok]) ∧ OwnMat w' w.heap.size w'.heap.size v r ∧ Below w.heap.size w w'
theorem matSaid_no {r : List (List Int)} {ok : Bool} {w w' : World} (h1 : r = []) (h2 : ok = false) (hb : Below w.heap.size w w') : MatSaid r ok w (.returned (.tuple #[.slice none 0 0, .bool false])) w' :=
  ⟨_, by rw [h2], by rw [h1]; exact OwnMat.nil _ _ _, hb⟩
theorem mulR_no {a b : List (List Int)} (h : mulOk a b = false) : mulR a b = [] := if_neg (by rw [h]; decide)

theorem mul_cell {a b : List (List Int)} (ha : sqB a = true) (hb : sqB b = true) (hab : a.length = b.length) (i k : Nat) (hi : i < a.length) (hk : k < b.length) :
    (∀ j, j < b.length → -10000 ≤ at2 a i j * at2 b j k ∧ at2 a i j * at2 b j k ≤ 10000) ∧ ∀ j, j ≤ b.length → -40000 ≤ colTo a b i k j ∧ colTo a b i k j ≤ 40000 := by
  have h1 : ∀ j, j < b.length → -(100 : Int) ≤ at2 a i j ∧ at2 a i j ≤ 100 := fun j hj => at2_small ha i j hi (by omega)
  have h2 : ∀ j, j < b.length → -(100 : Int) ≤ at2 b j k ∧ at2 b j k ≤ 100 := fun j hj => at2_small hb j k hj hk
  have h4 := (sq_parts hb).2.1
  refine ⟨fun j hj => by have := mul_bound (h1 j hj) (h2 j hj); omega, fun j hj => ?_⟩
  have := colTo_bound b.length h1 h2 j hj
  omega

theorem mulR_sum (a b : List (List Int)) : sumN ((mulR a b).map List.length) ≤ 16 := by
  have h1 := mulR_le a b
  have h2 := sum_rect (m := mulR a b) (c := 4) (fun x hx => by
    unfold mulR at hx
    split at hx
    · rename_i h
      unfold mulOk at h
      simp only [Bool.and_eq_true, decide_eq_true_eq] at h
      obtain ⟨i, hi, rfl⟩ := List.mem_iff_getElem.1 hx
      rw [mulM_at, mulRow_length]
      exact (sq_parts h.2.1).2.1
    · simp at hx)
  omega
end Go.Proofs.Ytfcbfflkajlhnaa

/- MultiplyMatrices of the program. Conditions: lengths of at most 2^20. -/
namespace Go.Proofs.Ytfcbfflkajlhnaa
open Go.RowKit

theorem at2_small4 {m : List (List Int)} (hs : sqB m = true) (i k : Nat) : -100 ≤ at2 m i k ∧ at2 m i k ≤ 100 := by
  by_cases hi : i < m.length
  · by_cases hk : k < m.length
    · exact at2_small hs i k hi hk
    · rw [at2_outc m m.length i k hi ((sq_parts hs).2.2.1 i hi) (by omega)]
      decide
  · rw [at2_out m i k (by omega)]
    decide
theorem at2_zero_right {m : List (List Int)} (hs : sqB m = true) (i k : Nat) (hk : m.length ≤ k) : at2 m i k = 0 := by
  by_cases hi : i < m.length
  · exact at2_outc m m.length i k hi ((sq_parts hs).2.2.1 i hi) hk
  · exact at2_out m i k (by omega)
theorem small_of {f : Nat → Nat → Int} {c : Nat → Int} {B C : Int} (hf : ∀ i j, -B ≤ f i j ∧ f i j ≤ B) (hc : ∀ j, -C ≤ c j ∧ c j ≤ C) (h : B * C ≤ 1000000000000000) : Small f c := fun i j _ _ => by
  have := mul_bound (hf i j) (hc j)
  omega
theorem dotF_more (f : Nat → Nat → Int) (c : Nat → Int) (i n : Nat) (h : ∀ j, n ≤ j → f i j = 0) : ∀ k, dotF f c i (n + k) = dotF f c i n
  | 0 => rfl
  | k + 1 => by
    show dotF f c i (n + k) + f i (n + k) * c (n + k) = _
    rw [dotF_more f c i n h k, h (n + k) (by omega)]
    simp
theorem dotF_upto (f : Nat → Nat → Int) (c : Nat → Int) (i n : Nat) (hn : n ≤ 4) (h : ∀ j, n ≤ j → f i j = 0) : dotF f c i 4 = dotF f c i n := by
  have := dotF_more f c i n h (4 - n)
  rwa [Nat.add_sub_cancel' hn] at this
theorem colTo_dotF (a b : List (List Int)) (i k : Nat) : ∀ j, colTo a b i k j = dotF (at2 a) (fun j => at2 b j k) i j
  | 0 => rfl
  | j + 1 => by
    unfold colTo dotF
    rw [colTo_dotF a b i k j]
theorem mulM_of {a b : List (List Int)} (ha : sqB a = true) (hl : a.length = b.length) : matOf a.length (timesF a.length (at2 a) (at2 b)) = mulM a b := by
  unfold matOf mulM mulRow
  refine List.map_congr_left fun i hi => ?_
  rw [← hl]
  refine List.map_congr_left fun k hk => ?_
  unfold timesF
  rw [if_pos (List.mem_range.1 hk), colTo_dotF, dotF_upto _ _ i a.length (sq_parts ha).2.1 (fun j hj => at2_zero_right ha i j hj)]
theorem square_some (m : List (List Int)) : ∃ (n : Int) (f : Nat → Nat → Int), (if sqB m = true then sqA m.length (at2 m) else sqA 0 fun _ _ => 0) = sqA n f := by
  by_cases h : sqB m = true
  · exact ⟨_, _, if_pos h⟩
  · exact ⟨_, _, if_neg h⟩

end Go.Proofs.Ytfcbfflkajlhnaa
