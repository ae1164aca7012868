/- Texts put together. -/
import Derived.Test.YtfcbfflkajlhnaaMgC21
import Derived.Test.YtfcbfflkajlhnaaMgC2
/- FixedPoint and IsFixedStart of the model. Conditions: lengths of at most 2^20. -/
namespace Go.Proofs.Ytfcbfflkajlhnaa
open Go.RowKit

theorem fixR_no {l : List ByteArray} {t : ByteArray} {n : Int} (h : fixOk l t n = false) {w w' : World} (hb : Below w.heap.size w w') : PairSaid (fixR l t n) (fixOk l t n) w (.returned (.tuple #[.string ⟨#[]⟩, .bool false])) w' := by
  refine ⟨?_, hb⟩
  have e : fixR l t n = ⟨#[]⟩ := if_neg (by rw [h]; decide)
  rw [h, e]
theorem fixStart_eq {l : List ByteArray} {s : ByteArray} (h0 : 0 < s.size) : fixStart l s = (fixOk l (oneOf s) s.size && decide ((fixR l (oneOf s) s.size).toList = s.toList)) := by
  unfold fixStart
  rw [decide_eq_false (show ¬ s.size = 0 by omega), Bool.false_or]
  by_cases h : fixOk l (oneOf s) s.size = true
  · have e : fixR l (oneOf s) s.size = ⟨(fixL l (letN (oneOf s)) s.size).toArray⟩ := if_pos h
    rw [h, e, Bool.true_and, Bool.true_and, ByteArray.toList_eq, ByteArray.toList_eq]
  · rw [show fixOk l (oneOf s) s.size = false by simpa using h, Bool.false_and, Bool.false_and]
end Go.Proofs.Ytfcbfflkajlhnaa

/- What SplitAny is to give. No program in it. -/
namespace Go.Proofs.Ytfcbfflkajlhnaa
open Go.RowKit

def isSep (y : ByteArray) (c : UInt8) : Prop := ∃ i, ∃ h : i < y.size, y[i] = c
open Classical in
noncomputable def splitTo (s y : ByteArray) : Nat → List ByteArray × Nat
  | 0 => ([], 0)
  | k + 1 => if ∃ h : k < s.size, isSep y s[k] then ((splitTo s y k).1 ++ [s.extract (splitTo s y k).2 k], k + 1) else splitTo s y k
noncomputable def splitL (s y : ByteArray) : List ByteArray := (splitTo s y s.size).1 ++ [s.extract (splitTo s y s.size).2 s.size]
theorem splitTo_le (s y : ByteArray) : ∀ k, (splitTo s y k).1.length ≤ k ∧ (splitTo s y k).2 ≤ k
  | 0 => by simp [splitTo]
  | k + 1 => by
    have := splitTo_le s y k
    unfold splitTo
    split
    · simp; omega
    · omega
theorem splitTo_yes {s y : ByteArray} {k : Nat} (h : k < s.size) (hs : isSep y s[k]) : splitTo s y (k + 1) = ((splitTo s y k).1 ++ [s.extract (splitTo s y k).2 k], k + 1) := by
  rw [splitTo, if_pos ⟨h, hs⟩]
theorem splitTo_no {s y : ByteArray} {k : Nat} (h : k < s.size) (hs : ¬ isSep y s[k]) : splitTo s y (k + 1) = splitTo s y k := by
  rw [splitTo, if_neg (fun ⟨_, h2⟩ => hs h2)]
theorem splitTo_small (s y : ByteArray) : ∀ k, ∀ x ∈ (splitTo s y k).1, x.size ≤ s.size
  | 0 => by simp [splitTo]
  | k + 1 => by
    intro x hx
    unfold splitTo at hx
    split at hx
    · rcases List.mem_append.1 hx with hx | hx
      · exact splitTo_small s y k x hx
      · simp only [List.mem_singleton] at hx
        subst hx
        rw [ByteArray.size_extract]
        omega
    · exact splitTo_small s y k x hx
theorem splitL_small (s y : ByteArray) : ∀ x ∈ splitL s y, x.size ≤ s.size := by
  intro x hx
  unfold splitL at hx
  rcases List.mem_append.1 hx with hx | hx
  · exact splitTo_small s y _ x hx
  · simp only [List.mem_singleton] at hx
    subst hx
    rw [ByteArray.size_extract]
    omega
theorem splitL_length (s y : ByteArray) : (splitL s y).length ≤ s.size + 1 := by
  unfold splitL
  have := (splitTo_le s y s.size).1
  simp
  omega
theorem strs_one (l : List ByteArray) : ∀ u ∈ strs l, u.oneCell' = true := by
  intro u hu
  obtain ⟨_, _, rfl⟩ := List.mem_map.1 hu
  rfl
end Go.Proofs.Ytfcbfflkajlhnaa
