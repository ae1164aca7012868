/- Texts put together. -/
import Derived.Test.YtcdchieielpahaaMgE5
import Derived.Test.YtcdchieielpahaaMgE13
import Derived.Test.YtcdchieielpahaaMgE19
import Derived.Test.YtcdchieielpahaaMgE16
import Derived.Test.YtcdchieielpahaaMgE11
import Derived.Laws.Cover1
import Derived.Deep.CutBlock
import Derived.Test.YtcdchieielpahaaMgE14
import Derived.Test.YtcdchieielpahaaMgE15
import Derived.BigQuiet
/- What SplitAny is to give. No program in it. -/
namespace Go.Proofs.Ytcdchieielpahaa
open Go.RowKit

def isSep (y : ByteArray) (c : UInt8) : Prop := ∃ i, ∃ h : i < y.size, y[i] = c
open Classical in
noncomputable def splitTo (s y : ByteArray) : Nat → List ByteArray × Nat
  | 0 => ([], 0)
  | k + 1 => if ∃ h : k < s.size, isSep y s[k] then ((splitTo s y k).1 ++ [s.extract (splitTo s y k).2 k], k + 1) else splitTo s y k
noncomputable def splitL (s y : ByteArray) : List ByteArray := (splitTo s y s.size).1 ++ [s.extract (splitTo s y s.size).2 s.size]
theorem splitTo_le (s y : ByteArray) : ∀ k, (splitTo s y k).1.length ≤ k ∧ (splitTo s y k).2 ≤ k
  | 0 => by simp [splitTo]
  | k + 1 => by
    have := splitTo_le s y k
    unfold splitTo
    split
    · simp; omega
    · omega
theorem splitTo_yes {s y : ByteArray} {k : Nat} (h : k < s.size) (hs : isSep y s[k]) : splitTo s y (k + 1) = ((splitTo s y k).1 ++ [s.extract (splitTo s y k).2 k], k + 1) := by
  rw [splitTo, if_pos ⟨h, hs⟩]
theorem splitTo_no {s y : ByteArray} {k : Nat} (h : k < s.size) (hs : ¬ isSep y s[k]) : splitTo s y (k + 1) = splitTo s y k := by
  rw [splitTo, if_neg (fun ⟨_, h2⟩ => hs h2)]
theorem splitTo_small (s y : ByteArray) : ∀ k, ∀ x ∈ (splitTo s y k).1, x.size ≤ s.size
  | 0 => by simp [splitTo]
  | k + 1 => by
    intro x hx
    unfold splitTo at hx
    split at hx
    · rcases List.mem_append.1 hx with hx | hx
      · exact splitTo_small s y k x hx
      · simp only [List.mem_singleton] at hx
        subst hx
        rw [ByteArray.size_extract]
        omega
    · exact splitTo_small s y k x hx
theorem splitL_small (s y : ByteArray) : ∀ x ∈ splitL s y, x.size ≤ s.size := by
  intro x hx
  unfold splitL at hx
  rcases List.mem_append.1 hx with hx | hx
  · exact splitTo_small s y _ x hx
  · simp only [List.mem_singleton] at hx
    subst hx
    rw [ByteArray.size_extract]
    omega
theorem splitL_length (s y : ByteArray) : (splitL s y).length ≤ s.size + 1 := by
  unfold splitL
  have := (splitTo_le s y s.size).1
  simp
  omega
theorem strs_one (l : List ByteArray) : ∀ u ∈ strs l, u.oneCell' = true := by
  intro u hu
  obtain ⟨_, _, rfl⟩ := List.mem_map.1 hu
  rfl
end Go.Proofs.Ytcdchieielpahaa

/- The factors of a fixed point, of the model. Conditions: lengths of at most 2^20. -/
namespace Go.Proofs.Ytcdchieielpahaa
open Go.RowKit

theorem own_str_at {w : World} {B g cp n : Nat} {m : List ByteArray} (h : w.ownsRow B 9 1 (.slice (some ⟨g, 0, none⟩) n cp) n (strs m)) (k : Nat) (hk : k < m.length) : w.cell? ⟨g, k, none⟩ = some (.string m[k]) := by
  have := h.cells (g := g) rfl k (.string m[k]) (by simp [strs, hk])
  rwa [Addr.add_lit, Nat.zero_add] at this
end Go.Proofs.Ytcdchieielpahaa

/- Chapter 8 of the model: SquaresIn, FirstSquare, l07Ends. Conditions: lengths of at most 2^20. -/
namespace Go.Proofs.Ytcdchieielpahaa
open Go.RowKit Go.Lib

theorem slice_gen {P : Program} {t : TypeId} (ht : P.underlying t = some .string) (s : ByteArray) (a b : Int) (x y : Nat) (w : World) (ha : a = x) (hb : b = y) (h : x ≤ y) (h2 : y ≤ s.size) :
    (Instr.slice t (.string s) (some (.int .i64 a)) (some (.int .i64 b)) none).run P w = .ok (.string (s.extract x y)) w := by
  obtain ⟨n, rfl⟩ : ∃ n, y = x + n := ⟨y - x, by omega⟩
  have := slice_at (P := P) ht s x n w (by omega)
  rw [ha, hb, Int.natCast_add]
  exact this
theorem pwRow_yes {s : ByteArray} {i j : Nat} {l : List ByteArray} (hi : i + 2 * (j + 1) ≤ s.size) (h : s.extract i (i + (j + 1)) = s.extract (i + (j + 1)) (i + 2 * (j + 1))) : pwRow s i l (j + 1) = insL (pwRow s i l j) (s.extract i (i + 2 * (j + 1))) :=
  if_pos ((pwB_iff _ _ _).2 ⟨by omega, hi, h⟩)
theorem pwRow_no {s : ByteArray} {i j : Nat} {l : List ByteArray} (h : s.extract i (i + (j + 1)) ≠ s.extract (i + (j + 1)) (i + 2 * (j + 1))) : pwRow s i l (j + 1) = pwRow s i l j :=
  if_neg (fun hh => h ((pwB_iff _ _ _).1 hh).2.2)
theorem eq_bytes {x y : ByteArray} (h : x = y) : (x.toList == y.toList) = true := by rw [h]; simp
theorem ne_bytes {x y : ByteArray} (h : x ≠ y) : (x.toList == y.toList) = false := by
  rw [beq_eq_false_iff_ne]
  exact fun e => h (bytes_ext e)

end Go.Proofs.Ytcdchieielpahaa

/- Chapter 10 of the model: BordersOf, PeriodsOf, RootOf, IsPrimitiveWord. Conditions: lengths of at most 2^20. -/
namespace Go.Proofs.Ytcdchieielpahaa
open Go.RowKit

theorem cut_lo {P : Program} {t : TypeId} (ht : P.underlying t = some .string) (s : ByteArray) (b : Int) (y : Nat) (w : World) (hb : b = y) (h : y ≤ s.size) :
    (Instr.slice t (.string s) none (some (.int .i64 b)) none).run P w = .ok (.string (s.extract 0 y)) w := by
  subst hb
  rw [run_slice_string_to_if (P := P) w t s .i64 (y : Int) ht, if_pos (by omega)]
  rfl
theorem cut_hi {P : Program} {t : TypeId} (ht : P.underlying t = some .string) (s : ByteArray) (b : Int) (y : Nat) (w : World) (hb : b = y) (h : y ≤ s.size) :
    (Instr.slice t (.string s) (some (.int .i64 b)) none none).run P w = .ok (.string (s.extract y s.size)) w := by
  subst hb
  rw [run_slice_string_from_if (P := P) w t s .i64 (y : Int) ht, if_pos (by omega)]
  rfl

theorem rt_yes {s : ByteArray} {p : Nat} (h1 : 1 ≤ p) (h2 : p < s.size) (h : RootAt s p) (hno : ∀ q, 1 ≤ q → q < p → ¬ RootAt s q) : rtN s = p :=
  firstP_eq _ _ _ h1 (by omega) (fun r hr1 hr2 => hno r hr1 hr2) h
theorem rt_self {s : ByteArray} (h1 : 1 ≤ s.size) (hno : ∀ q, 1 ≤ q → q < s.size → ¬ RootAt s q) : rtN s = s.size := by
  have hr : RootAt s s.size := ⟨Nat.mod_self _, fun i hi => absurd hi (by omega)⟩
  exact firstP_eq _ _ _ h1 (by omega) (fun r hr1 hr2 => hno r hr1 hr2) hr

end Go.Proofs.Ytcdchieielpahaa
