/- Texts put together. -/
import Derived.Test.YthckpgfhldocdaaMgp4
import Derived.Test.YthckpgfhldocdaaMgp12
import Derived.Test.YthckpgfhldocdaaMgp9
import Derived.Test.YthckpgfhldocdaaMgp8
import Derived.Laws.Cover1
import Derived.Deep.CutBlock
import Derived.Test.YthckpgfhldocdaaMgp6
import Derived.Test.YthckpgfhldocdaaMgp10
/- The factors of a fixed point, of the model. Conditions: lengths of at most 2^20. -/
namespace Go.Proofs.Ythckpgfhldocdaa
open Go.RowKit

theorem own_str_at {w : World} {B g cp n : Nat} {m : List ByteArray} (h : w.ownsRow B 9 1 (.slice (some ⟨g, 0, none⟩) n cp) n (strs m)) (k : Nat) (hk : k < m.length) : w.cell? ⟨g, k, none⟩ = some (.string m[k]) := by
  have := h.cells (g := g) rfl k (.string m[k]) (by simp [strs, hk])
  rwa [Addr.add_lit, Nat.zero_add] at this
theorem sizeOf_strs (w : World) : (sizeOf (Try.prog.elem 24)).run Try.prog w = .ok 1 w := by kernel_rfl
end Go.Proofs.Ythckpgfhldocdaa

/- Chapter 8 of the model: SquaresIn, FirstSquare, l07Ends. Conditions: lengths of at most 2^20. -/
namespace Go.Proofs.Ythckpgfhldocdaa
open Go.RowKit Go.Lib

theorem slice_gen {P : Program} {t : TypeId} (ht : P.underlying t = some .string) (s : ByteArray) (a b : Int) (x y : Nat) (w : World) (ha : a = x) (hb : b = y) (h : x ≤ y) (h2 : y ≤ s.size) :
    (Instr.slice t (.string s) (some (.int .i64 a)) (some (.int .i64 b)) none).run P w = .ok (.string (s.extract x y)) w := by
  obtain ⟨n, rfl⟩ : ∃ n, y = x + n := ⟨y - x, by omega⟩
  have := slice_at (P := P) ht s x n w (by omega)
  rw [ha, hb, Int.natCast_add]
  exact this
theorem pwRow_yes {s : ByteArray} {i j : Nat} {l : List ByteArray} (hi : i + 2 * (j + 1) ≤ s.size) (h : s.extract i (i + (j + 1)) = s.extract (i + (j + 1)) (i + 2 * (j + 1))) : pwRow s i l (j + 1) = insL (pwRow s i l j) (s.extract i (i + 2 * (j + 1))) :=
  if_pos ((pwB_iff _ _ _).2 ⟨by omega, hi, h⟩)
theorem pwRow_no {s : ByteArray} {i j : Nat} {l : List ByteArray} (h : s.extract i (i + (j + 1)) ≠ s.extract (i + (j + 1)) (i + 2 * (j + 1))) : pwRow s i l (j + 1) = pwRow s i l j :=
  if_neg (fun hh => h ((pwB_iff _ _ _).1 hh).2.2)
theorem eq_bytes {x y : ByteArray} (h : x = y) : (x.toList == y.toList) = true := by rw [h]; simp
theorem ne_bytes {x y : ByteArray} (h : x ≠ y) : (x.toList == y.toList) = false := by
  rw [beq_eq_false_iff_ne]
  exact fun e => h (bytes_ext e)

end Go.Proofs.Ythckpgfhldocdaa

/- Chapter 8 of the model: FirstSquare, l07Ends. Conditions: lengths of at most 2^20. -/
namespace Go.Proofs.Ythckpgfhldocdaa
open Go.RowKit Go.Lib

/-- a square with halves of h letters ends at e -/
def SqEnd (s : ByteArray) (e h : Nat) : Prop := 1 ≤ h ∧ 2 * h ≤ e ∧ e ≤ s.size ∧ s.extract (e - 2 * h) (e - h) = s.extract (e - h) e
theorem firstP_none {P : Nat → Prop} : ∀ (k p : Nat), (∀ r, p ≤ r → r < p + k → ¬ P r) → firstP P p k = p + k
  | 0, _, _ => rfl
  | k + 1, p, h => by
    unfold firstP
    rw [@decide_eq_false _ (Classical.propDecidable _) (h p (Nat.le_refl _) (by omega)), if_neg (by decide), firstP_none k (p + 1) (fun r a b => h r (by omega) (by omega))]
    omega
noncomputable def fsqE (s : ByteArray) : Nat := firstP (fun e => ∃ h, SqEnd s e h) 0 (s.size + 1)
noncomputable def fsqH (s : ByteArray) : Nat := firstP (SqEnd s (fsqE s)) 1 s.size
noncomputable def fsqB (s : ByteArray) : Bool := wordB s && decide (fsqE s ≤ s.size)
/-- what FirstSquare is to return -/
noncomputable def fsqR1 (s : ByteArray) : Int := if fsqB s = true then (fsqE s : Int) else -1
noncomputable def fsqR2 (s : ByteArray) : Int := if fsqB s = true then (fsqH s : Int) else -1
theorem fsq_found {s : ByteArray} {e h : Nat} (hw : wordB s = true) (h1 : SqEnd s e h) (h2 : ∀ e', e' < e → ∀ h', ¬ SqEnd s e' h') (h3 : ∀ h', h' < h → ¬ SqEnd s e h') : fsqR1 s = (e : Int) ∧ fsqR2 s = (h : Int) := by
  have e1 : fsqE s = e := firstP_eq _ _ _ (Nat.zero_le _) (by have := h1.2.2.1; omega) (fun r _ hr => fun ⟨h', hh⟩ => h2 r hr h' hh) ⟨h, h1⟩
  have e2 : fsqH s = h := by
    unfold fsqH
    rw [e1]
    exact firstP_eq _ _ _ h1.1 (by have := h1.2.1; have := h1.2.2.1; omega) (fun r _ hr => h3 r hr) h1
  have e3 : fsqB s = true := by unfold fsqB; rw [hw, e1, decide_eq_true h1.2.2.1]; rfl
  unfold fsqR1 fsqR2
  rw [if_pos e3, if_pos e3, e1, e2]
  exact ⟨rfl, rfl⟩
theorem fsq_none {s : ByteArray} (h : ∀ e h', ¬ SqEnd s e h') : fsqR1 s = -1 ∧ fsqR2 s = -1 := by
  have e1 : fsqE s = 0 + (s.size + 1) := firstP_none _ _ (fun r _ _ => fun ⟨h', hh⟩ => h r h' hh)
  have e3 : fsqB s = false := by unfold fsqB; rw [e1, decide_eq_false (by omega), Bool.and_false]
  unfold fsqR1 fsqR2
  rw [e3]
  exact ⟨rfl, rfl⟩
theorem fsq_word {s : ByteArray} (h : wordB s = false) : fsqR1 s = -1 ∧ fsqR2 s = -1 := by
  have e3 : fsqB s = false := by unfold fsqB; rw [h]; rfl
  unfold fsqR1 fsqR2
  rw [e3]
  exact ⟨rfl, rfl⟩
noncomputable def endsB (s : ByteArray) : Bool := @decide (∃ h, SqEnd s s.size h) (Classical.propDecidable _)
theorem endsB_iff (s : ByteArray) : endsB s = true ↔ ∃ h, SqEnd s s.size h := by unfold endsB; simp

end Go.Proofs.Ythckpgfhldocdaa

/- Chapter 8 of the model: GreatestExponent. Conditions: lengths of at most 2^20. -/
namespace Go.Proofs.Ythckpgfhldocdaa
open Go.RowKit Go.Lib

noncomputable def gexRow (s : ByteArray) (n : Nat) (y : Nat × Nat) : Nat → Nat × Nat
  | 0 => y
  | i + 1 => if (gexRow s n y i).1 * perN (s.extract i (i + n)) < n * (gexRow s n y i).2 then (n, perN (s.extract i (i + n))) else gexRow s n y i
/-- behind the factors of 1 to n + 1 letters: the length and the least period of the best -/
noncomputable def gexTo (s : ByteArray) : Nat → Nat × Nat
  | 0 => (1, 1)
  | n + 1 => gexRow s (n + 2) (gexTo s n) (s.size + 1 - (n + 2))
def gexOk (s : ByteArray) : Bool := wordB s && (decide (1 ≤ s.size) && decide (s.size ≤ 60))
/-- what GreatestExponent is to return -/
noncomputable def gexR (s : ByteArray) : Nat × Nat := if gexOk s = true then gexTo s (s.size - 1) else (0, 0)
theorem firstP_le {P : Nat → Prop} : ∀ (k p : Nat), p ≤ firstP P p k ∧ firstP P p k ≤ p + k
  | 0, p => ⟨Nat.le_refl _, Nat.le_refl _⟩
  | k + 1, p => by
    have := firstP_le (P := P) k (p + 1)
    unfold firstP
    split <;> omega
theorem perN_le (s : ByteArray) : 1 ≤ perN s ∧ perN s ≤ s.size + 1 := by
  have := firstP_le (P := PerAt s) s.size 1
  unfold perN
  omega
theorem gexRow_le (s : ByteArray) (n : Nat) (hn : n ≤ 60) (y : Nat × Nat) (hy : y.1 ≤ 61 ∧ y.2 ≤ 61) : ∀ i, (gexRow s n y i).1 ≤ 61 ∧ (gexRow s n y i).2 ≤ 61
  | 0 => hy
  | i + 1 => by
    have ih := gexRow_le s n hn y hy i
    unfold gexRow
    split
    · have := perN_le (s.extract i (i + n))
      have hz : (s.extract i (i + n)).size ≤ n := by rw [ByteArray.size_extract]; omega
      exact ⟨by show n ≤ 61; omega, by show perN _ ≤ 61; omega⟩
    · exact ih
theorem gexTo_le (s : ByteArray) : ∀ n, n ≤ 59 → (gexTo s n).1 ≤ 61 ∧ (gexTo s n).2 ≤ 61
  | 0, _ => ⟨by show 1 ≤ 61; omega, by show 1 ≤ 61; omega⟩
  | n + 1, h => gexRow_le s (n + 2) (by omega) _ (gexTo_le s n (by omega)) _
theorem gexRow_yes {s : ByteArray} {n i : Nat} {y : Nat × Nat} (h : (gexRow s n y i).1 * perN (s.extract i (i + n)) < n * (gexRow s n y i).2) : gexRow s n y (i + 1) = (n, perN (s.extract i (i + n))) := if_pos h
theorem gexRow_no {s : ByteArray} {n i : Nat} {y : Nat × Nat} (h : ¬ (gexRow s n y i).1 * perN (s.extract i (i + n)) < n * (gexRow s n y i).2) : gexRow s n y (i + 1) = gexRow s n y i := if_neg h
theorem mul_small {a b : Nat} (h1 : a ≤ 61) (h2 : b ≤ 61) : a * b ≤ 3721 := Nat.le_trans (Nat.mul_le_mul h1 h2) (by omega)

end Go.Proofs.Ythckpgfhldocdaa
