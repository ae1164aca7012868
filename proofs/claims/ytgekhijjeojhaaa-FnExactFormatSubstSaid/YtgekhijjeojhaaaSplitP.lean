/- What SplitAny is to give. No program in it. -/
import Derived.Test.YtgekhijjeojhaaaLst
namespace Go.Proofs.Ytgekhijjeojhaaa
open Go.RowKit

def isSep (y : ByteArray) (c : UInt8) : Prop := ∃ i, ∃ h : i < y.size, y[i] = c
open Classical in
noncomputable def splitTo (s y : ByteArray) : Nat → List ByteArray × Nat
  | 0 => ([], 0)
  | k + 1 => if ∃ h : k < s.size, isSep y s[k] then ((splitTo s y k).1 ++ [s.extract (splitTo s y k).2 k], k + 1) else splitTo s y k
noncomputable def splitL (s y : ByteArray) : List ByteArray := (splitTo s y s.size).1 ++ [s.extract (splitTo s y s.size).2 s.size]
theorem splitTo_le (s y : ByteArray) : ∀ k, (splitTo s y k).1.length ≤ k ∧ (splitTo s y k).2 ≤ k
  | 0 => by simp [splitTo]
  | k + 1 => by
    have := splitTo_le s y k
    unfold splitTo
    split
    · simp; omega
    · omega
theorem splitTo_yes {s y : ByteArray} {k : Nat} (h : k < s.size) (hs : isSep y s[k]) : splitTo s y (k + 1) = ((splitTo s y k).1 ++ [s.extract (splitTo s y k).2 k], k + 1) := by
  rw [splitTo, if_pos ⟨h, hs⟩]
theorem splitTo_no {s y : ByteArray} {k : Nat} (h : k < s.size) (hs : ¬ isSep y s[k]) : splitTo s y (k + 1) = splitTo s y k := by
  rw [splitTo, if_neg (fun ⟨_, h2⟩ => hs h2)]
theorem splitTo_small (s y : ByteArray) : ∀ k, ∀ x ∈ (splitTo s y k).1, x.size ≤ s.size
  | 0 => by simp [splitTo]
  | k + 1 => by
    intro x hx
    unfold splitTo at hx
    split at hx
    · rcases List.mem_append.1 hx with hx | hx
      · exact splitTo_small s y k x hx
      · simp only [List.mem_singleton] at hx
        subst hx
        rw [ByteArray.size_extract]
        omega
    · exact splitTo_small s y k x hx
theorem splitL_small (s y : ByteArray) : ∀ x ∈ splitL s y, x.size ≤ s.size := by
  intro x hx
  unfold splitL at hx
  rcases List.mem_append.1 hx with hx | hx
  · exact splitTo_small s y _ x hx
  · simp only [List.mem_singleton] at hx
    subst hx
    rw [ByteArray.size_extract]
    omega
theorem splitL_length (s y : ByteArray) : (splitL s y).length ≤ s.size + 1 := by
  unfold splitL
  have := (splitTo_le s y s.size).1
  simp
  omega
theorem strs_one (l : List ByteArray) : ∀ u ∈ strs l, u.oneCell' = true := by
  intro u hu
  obtain ⟨_, _, rfl⟩ := List.mem_map.1 hu
  rfl
end Go.Proofs.Ytgekhijjeojhaaa
