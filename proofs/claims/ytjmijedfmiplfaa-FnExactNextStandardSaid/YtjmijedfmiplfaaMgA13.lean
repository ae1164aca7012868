/- Texts put together. -/
import Derived.Test.YtjmijedfmiplfaaMgA1
import Derived.Test.YtjmijedfmiplfaaMgA7
import Derived.Test.YtjmijedfmiplfaaMgA12
import Derived.Test.YtjmijedfmiplfaaMgA2
import Derived.Test.YtjmijedfmiplfaaMgA4
import Derived.Laws.Cover1
import Derived.Deep.CutBlock
import Derived.Test.YtjmijedfmiplfaaMgA9
/- What SplitAny is to give. No program in it. -/
namespace Go.Proofs.Ytjmijedfmiplfaa
open Go.RowKit

def isSep (y : ByteArray) (c : UInt8) : Prop := ∃ i, ∃ h : i < y.size, y[i] = c
open Classical in
noncomputable def splitTo (s y : ByteArray) : Nat → List ByteArray × Nat
  | 0 => ([], 0)
  | k + 1 => if ∃ h : k < s.size, isSep y s[k] then ((splitTo s y k).1 ++ [s.extract (splitTo s y k).2 k], k + 1) else splitTo s y k
noncomputable def splitL (s y : ByteArray) : List ByteArray := (splitTo s y s.size).1 ++ [s.extract (splitTo s y s.size).2 s.size]
theorem splitTo_le (s y : ByteArray) : ∀ k, (splitTo s y k).1.length ≤ k ∧ (splitTo s y k).2 ≤ k
  | 0 => by simp [splitTo]
  | k + 1 => by
    have := splitTo_le s y k
    unfold splitTo
    split
    · simp; omega
    · omega
theorem splitTo_yes {s y : ByteArray} {k : Nat} (h : k < s.size) (hs : isSep y s[k]) : splitTo s y (k + 1) = ((splitTo s y k).1 ++ [s.extract (splitTo s y k).2 k], k + 1) := by
  rw [splitTo, if_pos ⟨h, hs⟩]
theorem splitTo_no {s y : ByteArray} {k : Nat} (h : k < s.size) (hs : ¬ isSep y s[k]) : splitTo s y (k + 1) = splitTo s y k := by
  rw [splitTo, if_neg (fun ⟨_, h2⟩ => hs h2)]
theorem splitTo_small (s y : ByteArray) : ∀ k, ∀ x ∈ (splitTo s y k).1, x.size ≤ s.size
  | 0 => by simp [splitTo]
  | k + 1 => by
    intro x hx
    unfold splitTo at hx
    split at hx
    · rcases List.mem_append.1 hx with hx | hx
      · exact splitTo_small s y k x hx
      · simp only [List.mem_singleton] at hx
        subst hx
        rw [ByteArray.size_extract]
        omega
    · exact splitTo_small s y k x hx
theorem splitL_small (s y : ByteArray) : ∀ x ∈ splitL s y, x.size ≤ s.size := by
  intro x hx
  unfold splitL at hx
  rcases List.mem_append.1 hx with hx | hx
  · exact splitTo_small s y _ x hx
  · simp only [List.mem_singleton] at hx
    subst hx
    rw [ByteArray.size_extract]
    omega
theorem splitL_length (s y : ByteArray) : (splitL s y).length ≤ s.size + 1 := by
  unfold splitL
  have := (splitTo_le s y s.size).1
  simp
  omega
theorem strs_one (l : List ByteArray) : ∀ u ∈ strs l, u.oneCell' = true := by
  intro u hu
  obtain ⟨_, _, rfl⟩ := List.mem_map.1 hu
  rfl
end Go.Proofs.Ytjmijedfmiplfaa

/- The factors of a fixed point, of the model. Conditions: lengths of at most 2^20. -/
namespace Go.Proofs.Ytjmijedfmiplfaa
open Go.RowKit

theorem own_str_at {w : World} {B g cp n : Nat} {m : List ByteArray} (h : w.ownsRow B 9 1 (.slice (some ⟨g, 0, none⟩) n cp) n (strs m)) (k : Nat) (hk : k < m.length) : w.cell? ⟨g, k, none⟩ = some (.string m[k]) := by
  have := h.cells (g := g) rfl k (.string m[k]) (by simp [strs, hk])
  rwa [Addr.add_lit, Nat.zero_add] at this
end Go.Proofs.Ytjmijedfmiplfaa

/- Chapter 8 of the model: SquaresIn, FirstSquare, l07Ends. Conditions: lengths of at most 2^20. -/
namespace Go.Proofs.Ytjmijedfmiplfaa
open Go.RowKit Go.Lib

theorem slice_gen {P : Program} {t : TypeId} (ht : P.underlying t = some .string) (s : ByteArray) (a b : Int) (x y : Nat) (w : World) (ha : a = x) (hb : b = y) (h : x ≤ y) (h2 : y ≤ s.size) :
    (Instr.slice t (.string s) (some (.int .i64 a)) (some (.int .i64 b)) none).run P w = .ok (.string (s.extract x y)) w := by
  obtain ⟨n, rfl⟩ : ∃ n, y = x + n := ⟨y - x, by omega⟩
  have := slice_at (P := P) ht s x n w (by omega)
  rw [ha, hb, Int.natCast_add]
  exact this
theorem pwRow_yes {s : ByteArray} {i j : Nat} {l : List ByteArray} (hi : i + 2 * (j + 1) ≤ s.size) (h : s.extract i (i + (j + 1)) = s.extract (i + (j + 1)) (i + 2 * (j + 1))) : pwRow s i l (j + 1) = insL (pwRow s i l j) (s.extract i (i + 2 * (j + 1))) :=
  if_pos ((pwB_iff _ _ _).2 ⟨by omega, hi, h⟩)
theorem pwRow_no {s : ByteArray} {i j : Nat} {l : List ByteArray} (h : s.extract i (i + (j + 1)) ≠ s.extract (i + (j + 1)) (i + 2 * (j + 1))) : pwRow s i l (j + 1) = pwRow s i l j :=
  if_neg (fun hh => h ((pwB_iff _ _ _).1 hh).2.2)
theorem eq_bytes {x y : ByteArray} (h : x = y) : (x.toList == y.toList) = true := by rw [h]; simp
theorem ne_bytes {x y : ByteArray} (h : x ≠ y) : (x.toList == y.toList) = false := by
  rw [beq_eq_false_iff_ne]
  exact fun e => h (bytes_ext e)

end Go.Proofs.Ytjmijedfmiplfaa

/- Chapter 8 of the model: FirstSquare, l07Ends. Conditions: lengths of at most 2^20. -/
namespace Go.Proofs.Ytjmijedfmiplfaa
open Go.RowKit Go.Lib

/-- a square with halves of h letters ends at e -/
def SqEnd (s : ByteArray) (e h : Nat) : Prop := 1 ≤ h ∧ 2 * h ≤ e ∧ e ≤ s.size ∧ s.extract (e - 2 * h) (e - h) = s.extract (e - h) e
theorem firstP_none {P : Nat → Prop} : ∀ (k p : Nat), (∀ r, p ≤ r → r < p + k → ¬ P r) → firstP P p k = p + k
  | 0, _, _ => rfl
  | k + 1, p, h => by
    unfold firstP
    rw [@decide_eq_false _ (Classical.propDecidable _) (h p (Nat.le_refl _) (by omega)), if_neg (by decide), firstP_none k (p + 1) (fun r a b => h r (by omega) (by omega))]
    omega
noncomputable def fsqE (s : ByteArray) : Nat := firstP (fun e => ∃ h, SqEnd s e h) 0 (s.size + 1)
noncomputable def fsqH (s : ByteArray) : Nat := firstP (SqEnd s (fsqE s)) 1 s.size
noncomputable def fsqB (s : ByteArray) : Bool := wordB s && decide (fsqE s ≤ s.size)
/-- what FirstSquare is to return -/
noncomputable def fsqR1 (s : ByteArray) : Int := if fsqB s = true then (fsqE s : Int) else -1
noncomputable def fsqR2 (s : ByteArray) : Int := if fsqB s = true then (fsqH s : Int) else -1
theorem fsq_found {s : ByteArray} {e h : Nat} (hw : wordB s = true) (h1 : SqEnd s e h) (h2 : ∀ e', e' < e → ∀ h', ¬ SqEnd s e' h') (h3 : ∀ h', h' < h → ¬ SqEnd s e h') : fsqR1 s = (e : Int) ∧ fsqR2 s = (h : Int) := by
  have e1 : fsqE s = e := firstP_eq _ _ _ (Nat.zero_le _) (by have := h1.2.2.1; omega) (fun r _ hr => fun ⟨h', hh⟩ => h2 r hr h' hh) ⟨h, h1⟩
  have e2 : fsqH s = h := by
    unfold fsqH
    rw [e1]
    exact firstP_eq _ _ _ h1.1 (by have := h1.2.1; have := h1.2.2.1; omega) (fun r _ hr => h3 r hr) h1
  have e3 : fsqB s = true := by unfold fsqB; rw [hw, e1, decide_eq_true h1.2.2.1]; rfl
  unfold fsqR1 fsqR2
  rw [if_pos e3, if_pos e3, e1, e2]
  exact ⟨rfl, rfl⟩
theorem fsq_none {s : ByteArray} (h : ∀ e h', ¬ SqEnd s e h') : fsqR1 s = -1 ∧ fsqR2 s = -1 := by
  have e1 : fsqE s = 0 + (s.size + 1) := firstP_none _ _ (fun r _ _ => fun ⟨h', hh⟩ => h r h' hh)
  have e3 : fsqB s = false := by unfold fsqB; rw [e1, decide_eq_false (by omega), Bool.and_false]
  unfold fsqR1 fsqR2
  rw [e3]
  exact ⟨rfl, rfl⟩
theorem fsq_word {s : ByteArray} (h : wordB s = false) : fsqR1 s = -1 ∧ fsqR2 s = -1 := by
  have e3 : fsqB s = false := by unfold fsqB; rw [h]; rfl
  unfold fsqR1 fsqR2
  rw [e3]
  exact ⟨rfl, rfl⟩
noncomputable def endsB (s : ByteArray) : Bool := @decide (∃ h, SqEnd s s.size h) (Classical.propDecidable _)
theorem endsB_iff (s : ByteArray) : endsB s = true ↔ ∃ h, SqEnd s s.size h := by unfold endsB; simp

end Go.Proofs.Ytjmijedfmiplfaa
