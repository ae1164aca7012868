/- Texts put together. -/
import Derived.Test.YtiikledbflgejaaMgC8
import Derived.Test.YtiikledbflgejaaMgC14
import Derived.Test.YtiikledbflgejaaMgC11
import Derived.Test.YtiikledbflgejaaMgC6
import Derived.Laws.Cover1
import Derived.Deep.CutBlock
import Derived.Test.YtiikledbflgejaaMgC9
import Derived.Test.YtiikledbflgejaaMgC10
import Derived.Test.YtiikledbflgejaaMgC4
import Derived.BigQuiet
import Derived.Test.YtiikledbflgejaaMgC13
/- The factors of a fixed point, of the model. Conditions: lengths of at most 2^20. -/
namespace Go.Proofs.Ytiikledbflgejaa
open Go.RowKit

theorem own_str_at {w : World} {B g cp n : Nat} {m : List ByteArray} (h : w.ownsRow B 9 1 (.slice (some ⟨g, 0, none⟩) n cp) n (strs m)) (k : Nat) (hk : k < m.length) : w.cell? ⟨g, k, none⟩ = some (.string m[k]) := by
  have := h.cells (g := g) rfl k (.string m[k]) (by simp [strs, hk])
  rwa [Addr.add_lit, Nat.zero_add] at this
end Go.Proofs.Ytiikledbflgejaa

/- Chapter 8 of the model: SquaresIn, FirstSquare, l07Ends. Conditions: lengths of at most 2^20. -/
namespace Go.Proofs.Ytiikledbflgejaa
open Go.RowKit Go.Lib

theorem slice_gen {P : Program} {t : TypeId} (ht : P.underlying t = some .string) (s : ByteArray) (a b : Int) (x y : Nat) (w : World) (ha : a = x) (hb : b = y) (h : x ≤ y) (h2 : y ≤ s.size) :
    (Instr.slice t (.string s) (some (.int .i64 a)) (some (.int .i64 b)) none).run P w = .ok (.string (s.extract x y)) w := by
  obtain ⟨n, rfl⟩ : ∃ n, y = x + n := ⟨y - x, by omega⟩
  have := slice_at (P := P) ht s x n w (by omega)
  rw [ha, hb, Int.natCast_add]
  exact this
theorem pwRow_yes {s : ByteArray} {i j : Nat} {l : List ByteArray} (hi : i + 2 * (j + 1) ≤ s.size) (h : s.extract i (i + (j + 1)) = s.extract (i + (j + 1)) (i + 2 * (j + 1))) : pwRow s i l (j + 1) = insL (pwRow s i l j) (s.extract i (i + 2 * (j + 1))) :=
  if_pos ((pwB_iff _ _ _).2 ⟨by omega, hi, h⟩)
theorem pwRow_no {s : ByteArray} {i j : Nat} {l : List ByteArray} (h : s.extract i (i + (j + 1)) ≠ s.extract (i + (j + 1)) (i + 2 * (j + 1))) : pwRow s i l (j + 1) = pwRow s i l j :=
  if_neg (fun hh => h ((pwB_iff _ _ _).1 hh).2.2)
theorem eq_bytes {x y : ByteArray} (h : x = y) : (x.toList == y.toList) = true := by rw [h]; simp
theorem ne_bytes {x y : ByteArray} (h : x ≠ y) : (x.toList == y.toList) = false := by
  rw [beq_eq_false_iff_ne]
  exact fun e => h (bytes_ext e)

end Go.Proofs.Ytiikledbflgejaa

/- Chapter 10 of the model: BordersOf, PeriodsOf, RootOf, IsPrimitiveWord. Conditions: lengths of at most 2^20. -/
namespace Go.Proofs.Ytiikledbflgejaa
open Go.RowKit

theorem cut_lo {P : Program} {t : TypeId} (ht : P.underlying t = some .string) (s : ByteArray) (b : Int) (y : Nat) (w : World) (hb : b = y) (h : y ≤ s.size) :
    (Instr.slice t (.string s) none (some (.int .i64 b)) none).run P w = .ok (.string (s.extract 0 y)) w := by
  subst hb
  rw [run_slice_string_to_if (P := P) w t s .i64 (y : Int) ht, if_pos (by omega)]
  rfl
theorem cut_hi {P : Program} {t : TypeId} (ht : P.underlying t = some .string) (s : ByteArray) (b : Int) (y : Nat) (w : World) (hb : b = y) (h : y ≤ s.size) :
    (Instr.slice t (.string s) (some (.int .i64 b)) none none).run P w = .ok (.string (s.extract y s.size)) w := by
  subst hb
  rw [run_slice_string_from_if (P := P) w t s .i64 (y : Int) ht, if_pos (by omega)]
  rfl

theorem rt_yes {s : ByteArray} {p : Nat} (h1 : 1 ≤ p) (h2 : p < s.size) (h : RootAt s p) (hno : ∀ q, 1 ≤ q → q < p → ¬ RootAt s q) : rtN s = p :=
  firstP_eq _ _ _ h1 (by omega) (fun r hr1 hr2 => hno r hr1 hr2) h
theorem rt_self {s : ByteArray} (h1 : 1 ≤ s.size) (hno : ∀ q, 1 ≤ q → q < s.size → ¬ RootAt s q) : rtN s = s.size := by
  have hr : RootAt s s.size := ⟨Nat.mod_self _, fun i hi => absurd hi (by omega)⟩
  exact firstP_eq _ _ _ h1 (by omega) (fun r hr1 hr2 => hno r hr1 hr2) hr

end Go.Proofs.Ytiikledbflgejaa

/- Chapter 12 of the model: NearestTo, PointsOf, GapsOf. No condition. -/
namespace Go.Proofs.Ytiikledbflgejaa
open Go.RowKit Go.Lib

theorem nr_step (p q k : Nat) : nrTo p q (k + 1) = (if dpN p q (k + 1) < dpN p q (nrTo p q k).1 then k + 1 else (nrTo p q k).1, if dpN p q (nrTo p q k).2 < dpN p q (k + 1) then k + 1 else (nrTo p q k).2) := rfl
theorem gp_of {P Q N : Nat} (h : gpOk P Q N = true) : 1 ≤ Q ∧ Q ≤ 1000 ∧ P < Q ∧ 1 ≤ N ∧ N ≤ 400 := by
  obtain ⟨p, q, n, h1, h2, h3, h4⟩ := gp_parts h
  omega
/-- a multiple as the walk reckons it -/
theorem mul_at {P Q : Nat} (k : Nat) (hk : k ≤ 1000) (hP : P ≤ 1000) (hQ : 1 ≤ Q) : ∃ z : Nat, (z : Int) = (k : Int) * (P : Int) ∧ z ≤ 1000000 ∧ (z : Int).tmod (Q : Int) = (dpN P Q k : Int) ∧ (z : Int) % (Q : Int) = (dpN P Q k : Int) ∧ dpN P Q k < Q := by
  refine ⟨k * P, Int.natCast_mul _ _, ?_, rfl, rfl, dp_lt hQ k⟩
  exact Nat.le_trans (Nat.mul_le_mul hk hP) (by omega)

/-- which points the first k multiples are -/
def blsT (p q k : Nat) : List Bool := (List.range q).map fun x => ptB p q k x
theorem blsT_len (p q k : Nat) : (blsT p q k).length = q := by simp [blsT]
theorem blsT_zero (p q : Nat) : blsT p q 0 = List.replicate q false := by
  unfold blsT
  rw [List.eq_replicate_iff]
  refine ⟨by simp, fun b hb => ?_⟩
  obtain ⟨x, _, rfl⟩ := List.mem_map.1 hb
  rfl
theorem blsT_get {p q k x : Nat} (h : x < q) : (boolsV (blsT p q k))[x]? = some (.bool (ptB p q k x)) := by
  unfold boolsV blsT
  rw [List.getElem?_map, List.getElem?_map, List.getElem?_range h]
  rfl
theorem ptB_next (p q k x : Nat) : ptB p q (k + 1) x = (ptB p q k x || dpN p q k == x) := by
  unfold ptB
  rw [List.range_succ, List.any_append]
  simp
theorem blsT_set {p q k : Nat} (hq : 1 ≤ q) : (boolsV (blsT p q k)).set (dpN p q k) (.bool true) = boolsV (blsT p q (k + 1)) := by
  apply List.ext_getElem?
  intro x
  by_cases hx : x < q
  · by_cases e : dpN p q k = x
    · subst e
      rw [List.getElem?_set_self (by unfold boolsV; rw [List.length_map, blsT_len]; exact dp_lt hq k), blsT_get hx, ptB_next]
      simp
    · rw [List.getElem?_set_ne e, blsT_get hx, blsT_get hx, ptB_next, beq_eq_false_iff_ne.2 e, Bool.or_false]
  · have hl : ∀ k, (boolsV (blsT p q k)).length = q := fun k => by unfold boolsV; rw [List.length_map, blsT_len]
    rw [List.getElem?_eq_none (by rw [List.length_set, hl]; omega), List.getElem?_eq_none (by rw [hl]; omega)]

end Go.Proofs.Ytiikledbflgejaa
