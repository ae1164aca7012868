/- Texts put together. -/
import Derived.Shelf.Small.Bits
import Derived.Shelf.Small.Wraps
import Derived.Shelf.Strconv.Itoa0
import Derived.Shelf.Sort.Plain
import Derived.Shelf.Slices.Turned
import Derived.Ground.Names2Prog
import Derived.Shelf.Slices.CompactI
import Derived.Shelf.Slices.SearchI
import Derived.Shelf.Slices.Cells
import Derived.Shelf.Slices.In.SortNone
import Derived.Test.YtcdchieielpahaaProg
import Derived.Test.YtcdchieielpahaaMgD5
import Derived.Test.YtcdchieielpahaaMgD3
import Derived.Test.YtcdchieielpahaaMgD1
import Derived.Lib.SlicesCompact
import Derived.Lib.RowBridge
import Derived.Test.YtcdchieielpahaaMgD17
/-
  DERIVED: THE SHELF's CONTRACTS AT THIS DUMP, IN PLAIN WORDS (tools/lay-plain.mjs out of 'TryShelf.lean', which tools/lay-shelf.mjs wrote): THE SAME DECLARATIONS UNDER THE SAME NAMES: 'import', 'namespace', 'open', 'def', 'theorem' AND NOTHING ELSE: no command of the shelf's: FOR A HAND-IN. Each laying: the table of numbers ('.._ren') and one theorem, a field a fact of the dump's own or the kernel's comparison; each contract: ONE APPLICATION.
-/
namespace Go.Proofs
open Go.Shelf
def Try.lays215_ren : Go.Shelf.Ren := ⟨fun | 215 => 67 | n => n, fun | 3 => 3 | 4 => 4 | n => n, fun | n => n⟩
theorem Try.lays215 : Go.Proofs.Lays.n215 Try.prog Try.lays215_ren := {
  mixed := by kernel_rfl
  f215 := Try.func67.trans (congrArg some (by kernel_rfl))
  t3 := Try.underlying3
  a3 := Try.isAgg3
  z3 := Try.sizeOf3
  v3 := Try.zeroValue3
  t4 := Try.underlying4
  a4 := Try.isAgg4
  z4 := Try.sizeOf4
  v4 := Try.zeroValue4 }
open Go.RowKit in
/-- cmp.isNaN at int: 'x != x': false. (LAID: no walk: one application.) -/
theorem Try.cmp_isNaN_int (x : Int) (w : World) :
    Calls Try.prog 67 #[.int .i64 x] w fun e w' => e = .returned (.bool false) ∧ w' = w := Any.cmp_isNaN_int Try.lays215 x w
def Try.lays189_ren : Go.Shelf.Ren := ⟨fun | 189 => 44 | 125 => 50 | 257 => 49 | 128 => 60 | 129 => 61 | 294 => 51 | 295 => 52 | 296 => 53 | 297 => 54 | 298 => 55 | 299 => 56 | 216 => 57 | 300 => 58 | 301 => 59 | 328 => 62 | 329 => 63 | 330 => 64 | 331 => 65 | 332 => 66 | 215 => 67 | 343 => 68 | n => n, fun | 28 => 22 | 3 => 3 | 46 => 52 | 0 => 0 | 51 => 66 | 53 => 68 | 4 => 4 | 183 => 58 | 182 => 57 | 131 => 63 | 5 => 5 | 9 => 9 | 218 => 69 | 222 => 73 | 228 => 76 | 229 => 27 | n => n, fun | n => n⟩
theorem Try.lays189 : Go.Proofs.Lays.n189 Try.prog Try.lays189_ren := {
  mixed := by kernel_rfl
  f125 := Try.func50.trans (congrArg some (by kernel_rfl))
  f128 := Try.func60.trans (congrArg some (by kernel_rfl))
  f129 := Try.func61.trans (congrArg some (by kernel_rfl))
  f189 := Try.func44.trans (congrArg some (by kernel_rfl))
  f215 := Try.func67.trans (congrArg some (by kernel_rfl))
  f216 := Try.func57.trans (congrArg some (by kernel_rfl))
  f257 := Try.func49.trans (congrArg some (by kernel_rfl))
  f294 := Try.func51.trans (congrArg some (by kernel_rfl))
  f295 := Try.func52.trans (congrArg some (by kernel_rfl))
  f296 := Try.func53.trans (congrArg some (by kernel_rfl))
  f297 := Try.func54.trans (congrArg some (by kernel_rfl))
  f298 := Try.func55.trans (congrArg some (by kernel_rfl))
  f299 := Try.func56.trans (congrArg some (by kernel_rfl))
  f300 := Try.func58.trans (congrArg some (by kernel_rfl))
  f301 := Try.func59.trans (congrArg some (by kernel_rfl))
  f328 := Try.func62.trans (congrArg some (by kernel_rfl))
  f329 := Try.func63.trans (congrArg some (by kernel_rfl))
  f330 := Try.func64.trans (congrArg some (by kernel_rfl))
  f331 := Try.func65.trans (congrArg some (by kernel_rfl))
  f332 := Try.func66.trans (congrArg some (by kernel_rfl))
  f343 := Try.func68.trans (congrArg some (by kernel_rfl))
  t0 := Try.underlying0
  a0 := Try.isAgg0
  z0 := Try.sizeOf0
  v0 := Try.zeroValue0
  t3 := Try.underlying3
  a3 := Try.isAgg3
  z3 := Try.sizeOf3
  v3 := Try.zeroValue3
  t4 := Try.underlying4
  a4 := Try.isAgg4
  z4 := Try.sizeOf4
  v4 := Try.zeroValue4
  t5 := Try.underlying5
  a5 := Try.isAgg5
  z5 := Try.sizeOf5
  v5 := Try.zeroValue5
  t9 := Try.underlying9
  a9 := Try.isAgg9
  z9 := Try.sizeOf9
  v9 := Try.zeroValue9
  t28 := Try.underlying22
  a28 := Try.isAgg22
  z28 := Try.sizeOf22
  v28 := Try.zeroValue22
  t46 := Try.underlying52
  a46 := Try.isAgg52
  z46 := Try.sizeOf52
  v46 := Try.zeroValue52
  t51 := Try.underlying66
  a51 := Try.isAgg66
  z51 := Try.sizeOf66
  v51 := Try.zeroValue66
  t53 := Try.underlying68
  a53 := Try.isAgg68
  z53 := Try.sizeOf68
  v53 := Try.zeroValue68
  t131 := Try.underlying63
  a131 := Try.isAgg63
  z131 := Try.sizeOf63
  v131 := Try.zeroValue63
  t182 := Try.underlying57
  a182 := Try.isAgg57
  z182 := Try.sizeOf57
  v182 := Try.zeroValue57
  t183 := Try.underlying58
  a183 := Try.isAgg58
  z183 := Try.sizeOf58
  v183 := Try.zeroValue58
  t218 := Try.underlying69
  a218 := Try.isAgg69
  z218 := Try.sizeOf69
  v218 := Try.zeroValue69
  t222 := Try.underlying73
  a222 := Try.isAgg73
  z222 := Try.sizeOf73
  v222 := Try.zeroValue73
  t228 := Try.underlying76
  a228 := Try.isAgg76
  z228 := Try.sizeOf76
  v228 := Try.zeroValue76
  t229 := Try.underlying27
  a229 := Try.isAgg27
  z229 := Try.sizeOf27
  v229 := Try.zeroValue27 }
open Go.Sort Go.RowKit in
theorem Try.slices_Sort_int (blk off cap : Nat) (zs : List Int) (w : World) (hH : Holds (Value.int .i64) w blk off zs.toArray) (hblk : blk < w.heap.size) (hsz : zs.length < 4611686018427387904) :
    Calls Try.prog 44 #[.slice (some ⟨blk, off, none⟩) zs.length cap] w fun e w' =>
      e = .returned (.tuple #[]) ∧ ∃ n os, w' = grow (putRow (Value.int .i64) (Sort.ahead w n) blk off (zs.mergeSort fun x y => decide (x ≤ y)).toArray) os := Any.slices_Sort_int Try.lays189 blk off cap zs w hH hblk hsz
def Try.lays108_ren : Go.Shelf.Ren := ⟨fun | 108 => 35 | n => n, fun | 28 => 22 | 3 => 3 | 0 => 0 | 4 => 4 | n => n, fun | n => n⟩
theorem Try.lays108 : Go.Proofs.Lays.n108 Try.prog Try.lays108_ren := {
  mixed := by kernel_rfl
  f108 := Try.func35.trans (congrArg some (by kernel_rfl))
  t0 := Try.underlying0
  a0 := Try.isAgg0
  z0 := Try.sizeOf0
  v0 := Try.zeroValue0
  t3 := Try.underlying3
  a3 := Try.isAgg3
  z3 := Try.sizeOf3
  v3 := Try.zeroValue3
  t4 := Try.underlying4
  a4 := Try.isAgg4
  z4 := Try.sizeOf4
  v4 := Try.zeroValue4
  t28 := Try.underlying22
  a28 := Try.isAgg22
  z28 := Try.sizeOf22
  v28 := Try.zeroValue22 }
open Go.Lib in
/-- slices.Index at []int: "Index returns the index of the first occurrence of v in s, or -1 if not present.": IT RETURNS 'Lib.idxOf (the elements) v'; the world is as it was. 'zs': what the cells behind the slice's address hold (its spare capacity too, if you have it); 'zs.take n': its elements. (LAID: no walk: one application.) -/
theorem Try.slices_Index_int (b off n c : Nat) (zs : List Int) (x : Int) (w : World) (hz : n ≤ zs.length) (hbig : n ≤ 9223372036854775807) (hc : ∀ j, j < zs.length → w.cell? ⟨b, off + j, none⟩ = some (.int .i64 (zs.getD j 0))) :
    Calls Try.prog 35 #[.slice (some ⟨b, off, none⟩) n c, .int .i64 x] w fun e w' => e = .returned (.int .i64 (Lib.idxOf (zs.take n) x)) ∧ w' = w := Any.slices_Index_int Try.lays108 b off n c zs x w hz hbig hc
open Go.Lib in
/-- The same at a slice of length 0, a nil one too: no cell is known, none is asked for. (LAID: no walk: one application.) -/
theorem Try.slices_Index_int_empty (a : Option Addr) (c : Nat) (x : Int) (w : World) :
    Calls Try.prog 35 #[.slice a 0 c, .int .i64 x] w fun e w' => e = .returned (.int .i64 (Lib.idxOf [] x)) ∧ w' = w := Any.slices_Index_int_empty Try.lays108 a c x w
def Try.lays113_ren : Go.Shelf.Ren := ⟨fun | 113 => 37 | n => n, fun | 28 => 22 | 3 => 3 | 4 => 4 | 9 => 9 | 20 => 20 | 0 => 0 | n => n, fun | n => n⟩
theorem Try.lays113 : Go.Proofs.Lays.n113 Try.prog Try.lays113_ren := {
  mixed := by kernel_rfl
  f113 := Try.func37.trans (congrArg some (by kernel_rfl))
  t0 := Try.underlying0
  a0 := Try.isAgg0
  z0 := Try.sizeOf0
  v0 := Try.zeroValue0
  t3 := Try.underlying3
  a3 := Try.isAgg3
  z3 := Try.sizeOf3
  v3 := Try.zeroValue3
  t4 := Try.underlying4
  a4 := Try.isAgg4
  z4 := Try.sizeOf4
  v4 := Try.zeroValue4
  t9 := Try.underlying9
  a9 := Try.isAgg9
  z9 := Try.sizeOf9
  v9 := Try.zeroValue9
  t20 := Try.underlying20
  a20 := Try.isAgg20
  z20 := Try.sizeOf20
  v20 := Try.zeroValue20
  t28 := Try.underlying22
  a28 := Try.isAgg22
  z28 := Try.sizeOf22
  v28 := Try.zeroValue22 }
open Go.Lib in
/-- slices.Max at []int: "Max returns the maximal value in x. It panics if x is empty.": OF A SLICE THAT IS NOT EMPTY IT RETURNS 'Lib.maxOf (the elements)'; the world is as it was. (Of an empty one it panics: no contract here.) (LAID: no walk: one application.) -/
theorem Try.slices_Max_int (b off n c : Nat) (zs : List Int) (w : World) (hn : 0 < n) (hz : n ≤ zs.length) (hbig : n ≤ 9223372036854775807) (hc : ∀ j, j < zs.length → w.cell? ⟨b, off + j, none⟩ = some (.int .i64 (zs.getD j 0))) :
    Calls Try.prog 37 #[.slice (some ⟨b, off, none⟩) n c] w fun e w' => e = .returned (.int .i64 (Lib.maxOf (zs.take n))) ∧ w' = w := Any.slices_Max_int Try.lays113 b off n c zs w hn hz hbig hc
def Try.lays114_ren : Go.Shelf.Ren := ⟨fun | 114 => 36 | n => n, fun | 28 => 22 | 3 => 3 | 4 => 4 | 9 => 9 | 20 => 20 | 0 => 0 | n => n, fun | n => n⟩
theorem Try.lays114 : Go.Proofs.Lays.n114 Try.prog Try.lays114_ren := {
  mixed := by kernel_rfl
  f114 := Try.func36.trans (congrArg some (by kernel_rfl))
  t0 := Try.underlying0
  a0 := Try.isAgg0
  z0 := Try.sizeOf0
  v0 := Try.zeroValue0
  t3 := Try.underlying3
  a3 := Try.isAgg3
  z3 := Try.sizeOf3
  v3 := Try.zeroValue3
  t4 := Try.underlying4
  a4 := Try.isAgg4
  z4 := Try.sizeOf4
  v4 := Try.zeroValue4
  t9 := Try.underlying9
  a9 := Try.isAgg9
  z9 := Try.sizeOf9
  v9 := Try.zeroValue9
  t20 := Try.underlying20
  a20 := Try.isAgg20
  z20 := Try.sizeOf20
  v20 := Try.zeroValue20
  t28 := Try.underlying22
  a28 := Try.isAgg22
  z28 := Try.sizeOf22
  v28 := Try.zeroValue22 }
open Go.Lib in
/-- slices.Min at []int: "Min returns the minimal value in x. It panics if x is empty.": OF A SLICE THAT IS NOT EMPTY IT RETURNS 'Lib.minOf (the elements)'; the world is as it was. (Of an empty one it panics: no contract here.) (LAID: no walk: one application.) -/
theorem Try.slices_Min_int (b off n c : Nat) (zs : List Int) (w : World) (hn : 0 < n) (hz : n ≤ zs.length) (hbig : n ≤ 9223372036854775807) (hc : ∀ j, j < zs.length → w.cell? ⟨b, off + j, none⟩ = some (.int .i64 (zs.getD j 0))) :
    Calls Try.prog 36 #[.slice (some ⟨b, off, none⟩) n c] w fun e w' => e = .returned (.int .i64 (Lib.minOf (zs.take n))) ∧ w' = w := Any.slices_Min_int Try.lays114 b off n c zs w hn hz hbig hc
def Try.laysNm220_ren : Go.Shelf.Ren := ⟨fun | 20 => 45 | n => n, fun | 22 => 22 | 3 => 3 | 4 => 4 | 0 => 0 | n => n, fun | n => n⟩
theorem Try.laysNm220 : Go.Proofs.Lays2.n20 Try.prog Try.laysNm220_ren := {
  mixed := by kernel_rfl
  f20 := Try.func45.trans (congrArg some (by kernel_rfl))
  t0 := Try.underlying0
  a0 := Try.isAgg0
  z0 := Try.sizeOf0
  v0 := Try.zeroValue0
  t3 := Try.underlying3
  a3 := Try.isAgg3
  z3 := Try.sizeOf3
  v3 := Try.zeroValue3
  t4 := Try.underlying4
  a4 := Try.isAgg4
  z4 := Try.sizeOf4
  v4 := Try.zeroValue4
  t22 := Try.underlying22
  a22 := Try.isAgg22
  z22 := Try.sizeOf22
  v22 := Try.zeroValue22
  i3 := by kernel_rfl }
open Go.RowKit Go.Lib Go.Sort in
/-- slices.Compact at []int: "Compact replaces consecutive runs of equal elements with a single copy. This is like the uniq command found on Unix. Compact modifies the contents of the slice s and returns the modified slice, which may have a smaller length. Compact zeroes the elements between the new length and the original length. The result preserves the nilness of s.": IT RETURNS THE SLICE CUT TO 'Lib.compact zs'; ITS CELLS HOLD 'Lib.compact zs', THEN ZERO VALUES up to the old length; all else is as it was, but for the count of draws. IN THE WORDS OF slices.Sort's CONTRACT ('Holds', 'putRow'): so the everyday 'slices.Sort(xs); xs = slices.Compact(xs)' goes from the one contract to the other. It asks 'zs.length ≤ cap' (every slice's: the reslicing 's[:k]' looks at it). Length 0, nil: '.._empty'. (LAID: no walk: one application.) -/
theorem Try.slices_Compact_int (blk off cap : Nat) (zs : List Int) (w : World) (hH : Holds (Value.int .i64) w blk off zs.toArray) (hsz : zs.length ≤ 9223372036854775807) (hcap : zs.length ≤ cap) :
    Calls Try.prog 45 #[.slice (some ⟨blk, off, none⟩) zs.length cap] w fun e w' => e = .returned (.slice (some ⟨blk, off, none⟩) (Lib.compact zs).length cap) ∧ ∃ q, w' = putRow (Value.int .i64) (Sort.ahead w q) blk off (Lib.compact zs ++ List.replicate (zs.length - (Lib.compact zs).length) 0).toArray := Any.slices_Compact_int Try.laysNm220 blk off cap zs w hH hsz hcap
open Go.RowKit Go.Lib Go.Sort in
/-- The same at a slice of length 0, a nil one too: it comes back as it is. (LAID: no walk: one application.) -/
theorem Try.slices_Compact_int_empty (a : Option Addr) (cap : Nat) (w : World) :
    Calls Try.prog 45 #[.slice a 0 cap] w fun e w' => e = .returned (.slice a 0 cap) ∧ w' = w := Any.slices_Compact_int_empty Try.laysNm220 a cap w
open Go.RowKit Go.Sort in
/-- .. and plain. (LAID: no walk: one application.) -/
theorem Try.slices_Sort_int_none (p : Option Addr) (cap : Nat) (w : World) :
    Calls Try.prog 44 #[.slice p 0 cap] w fun e w' => e = .returned (.tuple #[]) ∧ w' = w := Any.slices_Sort_int_none Try.lays189 p cap w
end Go.Proofs

/- Numbers sorted, each once: the mathematics, a row of numbers turned by the library's two, and the program's sortedOnce. -/
namespace Go.Proofs.Ytcdchieielpahaa
open Go.RowKit

section
variable {d : Array Int}
theorem cpI_mem (d : Array Int) (x : Int) : ∀ m, x ∈ Lib.compactUpTo d m ↔ ∃ j, j < m ∧ d[j]! = x
  | 0 => by simp [Lib.compactUpTo]
  | m + 1 => by
    rw [Lib.compactUpTo_succ, List.mem_append, cpI_mem d x m]
    by_cases hk : Lib.keeps d m = true
    · rw [if_pos hk, List.mem_singleton]
      constructor
      · rintro (⟨j, a, b⟩ | rfl)
        · exact ⟨j, by omega, b⟩
        · exact ⟨m, by omega, rfl⟩
      · rintro ⟨j, a, b⟩
        by_cases e : j = m
        · subst e; exact .inr b.symm
        · exact .inl ⟨j, by omega, b⟩
    · rw [if_neg hk]
      constructor
      · rintro (⟨j, a, b⟩ | h)
        · exact ⟨j, by omega, b⟩
        · cases h
      · rintro ⟨j, a, b⟩
        left
        by_cases e : j = m
        · subst e
          have hk' : ¬ (j = 0 ∨ d[j]! ≠ d[j - 1]!) := by simpa [Lib.keeps] using hk
          rw [not_or, Classical.not_not] at hk'
          exact ⟨j - 1, by omega, by rw [← hk'.2]; exact b⟩
        · exact ⟨j, by omega, b⟩
theorem cpI_asc (hs : ∀ i j, i < j → j < d.size → d[i]! ≤ d[j]!) : ∀ m, m ≤ d.size → (Lib.compactUpTo d m).Pairwise (· < ·)
  | 0, _ => by simp [Lib.compactUpTo]
  | m + 1, hm => by
    rw [Lib.compactUpTo_succ]
    have ih := cpI_asc hs m (by omega)
    by_cases hk : Lib.keeps d m = true
    · rw [if_pos hk]
      refine List.pairwise_append.2 ⟨ih, List.pairwise_singleton _ _, fun a ha b hb => ?_⟩
      rw [List.mem_singleton] at hb
      subst hb
      obtain ⟨j, hj, rfl⟩ := (cpI_mem d a m).1 ha
      have hk' : m = 0 ∨ d[m]! ≠ d[m - 1]! := by simpa [Lib.keeps] using hk
      have hne := hk'.resolve_left (by omega)
      have h1 : d[m - 1]! ≤ d[m]! := hs (m - 1) m (by omega) (by omega)
      have h2 : d[m - 1]! < d[m]! := by omega
      by_cases e : j = m - 1
      · rw [e]; exact h2
      · exact Int.lt_of_le_of_lt (hs j (m - 1) (by omega) (by omega)) h2
    · rw [if_neg hk, List.append_nil]
      exact ih
end
theorem sortI_le (ss : List Int) : (ss.mergeSort fun x y => decide (x ≤ y)).Pairwise (· ≤ ·) := by
  have := List.pairwise_mergeSort (le := fun x y : Int => decide (x ≤ y)) (fun a b c h k => by simp only [decide_eq_true_eq] at h k ⊢; exact Int.le_trans h k) (fun a b => by simp only [Bool.or_eq_true, decide_eq_true_eq]; exact Int.le_total a b) ss
  simpa using this
theorem sortI_mem (ss : List Int) (x : Int) : x ∈ (ss.mergeSort fun x y => decide (x ≤ y)) ↔ x ∈ ss := (List.mergeSort_perm ss _).mem_iff
/-- sorted and compacted -/
theorem sortedI_eq {l m : List Int} (hm : AscI m) (h : ∀ x, x ∈ l ↔ x ∈ m) : Lib.compact (l.mergeSort fun x y => decide (x ≤ y)) = m := by
  have hp := sortI_le l
  have hmem := sortI_mem l
  generalize l.mergeSort (fun x y => decide (x ≤ y)) = zs at hp hmem
  have hs : ∀ i j, i < j → j < zs.toArray.size → zs.toArray[i]! ≤ zs.toArray[j]! := by
    intro i j hij hj
    have hj' : j < zs.length := by simpa using hj
    have := List.pairwise_iff_getElem.1 hp i j (by omega) hj' hij
    rw [getElem!_pos _ i (by simp; omega), getElem!_pos _ j (by simp; omega)]
    simpa using this
  have ha := cpI_asc hs zs.length (by simp)
  refine ascI_ext ha hm fun x => ?_
  rw [← h x, ← hmem x]
  show x ∈ Lib.compactUpTo zs.toArray zs.length ↔ _
  rw [cpI_mem]
  constructor
  · rintro ⟨j, hj, rfl⟩
    rw [getElem!_pos _ j (by simpa using hj)]
    simp
  · intro hy
    obtain ⟨j, hj, rfl⟩ := List.mem_iff_getElem.1 hy
    exact ⟨j, hj, by rw [getElem!_pos _ j (by simpa using hj)]; simp⟩

/-! ### a row of one's own under the library's words -/
section
variable {w : World} {B g n cap : Nat} {T : TypeId} {l : List Int}
theorem own_holdsI (h : w.ownsRow B T 1 (.slice (some ⟨g, 0, none⟩) n cap) n (ints l)) : Sort.Holds (Value.int .i64) w g 0 l.toArray := by
  have hl := h.1
  rw [ints_length, Nat.mul_one] at hl
  intro j hj
  have hj' : j < l.length := by simpa using hj
  refine ⟨?_, h.frozenAt _⟩
  rw [Nat.zero_add, h.cellAt j (by omega)]
  simp [ints, hj']
theorem own_ltI (h : w.ownsRow B T 1 (.slice (some ⟨g, 0, none⟩) n cap) n (ints l)) : B ≤ g ∧ g < w.heap.size := h.lt g rfl
theorem own_capI {xs : List Value} (h : w.ownsRow B T 1 (.slice (some ⟨g, 0, none⟩) n cap) n xs) : n ≤ cap := by
  rcases h.2 with ⟨h', _⟩ | ⟨g', cap', cur, h', hb, hg, h1, h2, h3, h4⟩
  · simp at h'
  · injection h' with ha hn hc
    omega
theorem own_putI (h : w.ownsRow B T 1 (.slice (some ⟨g, 0, none⟩) n cap) n (ints l)) (ys : List Int) (hy : ys.length = n) (q : Nat) (os : Array Obj) :
    (Sort.grow (Sort.putRow (Value.int .i64) (Sort.ahead w q) g 0 ys.toArray) os).ownsRow B T 1 (.slice (some ⟨g, 0, none⟩) n cap) n (ints ys) ∧ Below B w (Sort.grow (Sort.putRow (Value.int .i64) (Sort.ahead w q) g 0 ys.toArray) os) := by
  have hl := own_ltI h
  have hsz : (Sort.putRow (Value.int .i64) (Sort.ahead w q) g 0 ys.toArray).heap.size = w.heap.size := by rw [Sort.size_putRow]; rfl
  have hold : ∀ k, k < w.heap.size → (Sort.grow (Sort.putRow (Value.int .i64) (Sort.ahead w q) g 0 ys.toArray) os).heap[k]? = (w.heap.modify g (Sort.onCells (Sort.putCells (Value.int .i64) 0 ys.toArray)))[k]? := by
    intro k hk
    show (_ ++ os)[k]? = _
    rw [Array.getElem?_append_left (by rw [hsz]; exact hk)]
    rfl
  refine ⟨⟨by rw [ints_length]; omega, ?_⟩, ⟨rfl, rfl, rfl, ?_, fun k hk => ?_⟩⟩
  · rcases h.2 with ⟨h', _⟩ | ⟨g', cap', cur, h', hb, hg, h1, h2, h3, h4⟩
    · simp at h'
    · injection h' with ha hn hc
      injection ha with ha
      injection ha with ha
      subst ha; subst hc
      refine .inr ⟨g, cap, Sort.putCells (Value.int .i64) 0 ys.toArray cur, rfl, hb, ?_, h1, h2, ?_, ?_⟩
      · rw [hold g hl.2, Array.getElem?_modify, if_pos rfl, hg]
        rfl
      · simp [Sort.putCells, h3]
      · apply List.ext_getElem?
        intro i
        rw [ints, List.getElem?_take]
        split
        · next hi =>
          have hi' : i < ys.length := by omega
          have hic : i < cur.size := by omega
          simp [Sort.putCells, hi', hic]
        · next hi =>
          rw [List.getElem?_eq_none (by simp; omega)]
  · show w.heap.size ≤ (_ ++ os).size
    rw [Array.size_append, hsz]; omega
  · rw [hold k (by omega), Array.getElem?_modify, if_neg (by omega)]
theorem own_lessI {m : Nat} {xs : List Value} (h : w.ownsRow B T 1 (.slice (some ⟨g, 0, none⟩) n cap) n xs) (hm : m ≤ n) : w.ownsRow B T 1 (.slice (some ⟨g, 0, none⟩) m cap) m (xs.take m) := by
  have hl := h.1
  rcases h.2 with ⟨h', _⟩ | ⟨g', cap', cur, h', hb, hg, h1, h2, h3, h4⟩
  · simp at h'
  · injection h' with ha hn hc
    injection ha with ha
    injection ha with ha
    subst ha; subst hc
    refine ⟨by rw [List.length_take]; omega, .inr ⟨g, cap, cur, rfl, hb, hg, by omega, h2, h3, ?_⟩⟩
    rw [← h4, List.take_take]
    congr 1
    omega
end

set_option maxRecDepth 100000 in
set_option maxHeartbeats 1000000 in
theorem implSortedOnce (l m : List Int) (v : Value) (B : Nat) (w : World) (ho : w.ownsRow B 3 1 v l.length (ints l)) (hl : l.length ≤ 100000) (hm : AscI m) (hmem : ∀ x, x ∈ l ↔ x ∈ m) :
    Calls Try.prog 32 #[v] w fun e w' => ∃ v', e = .returned v' ∧ w'.ownsRow B 3 1 v' m.length (ints m) ∧ Below B w w' := by
  obtain ⟨A, cp, rfl⟩ := own_slice ho
  by_cases h0 : l.length = 0
  · have hl0 : l = [] := List.length_eq_zero_iff.1 h0
    subst hl0
    have hm0 : m = [] := by
      cases m with
      | nil => rfl
      | cons a r => exact absurd ((hmem a).2 (List.mem_cons_self ..)) (by simp)
    subst hm0
    have HO := Lib.hid ho
    clear ho hm hmem
    rw [List.length_nil] at HO ⊢
    have HS := Lib.hid (fun w => Try.slices_Sort_int_none A cp w)
    have HC := Lib.hid (fun w => Try.slices_Compact_int_empty A cp w)
    go_enter Try.func32, Try.ntmps32
    go_wp2_with fail
    refine (HS.out _).mono ?_
    rintro e w' ⟨rfl, rfl⟩
    go_wp2_with fail
    refine (HC.out _).mono ?_
    rintro e w' ⟨rfl, rfl⟩
    go_wp2_with fail
    go_ret
    exact ⟨_, rfl, HO.out, Below.refl _ _⟩
  · obtain ⟨g, cp', hA, _⟩ := own_some ho (by omega)
    injection hA with hA hn hc
    subst hA; subst hc
    have hlt := own_ltI ho
    have hcap := own_capI ho
    have HS := Lib.hid (Try.slices_Sort_int g 0 cp l w (own_holdsI ho) hlt.2 (by omega))
    have HFIN0 : Hid (Lib.compact (l.mergeSort fun x y => decide (x ≤ y)) = m) := sortedI_eq hm hmem
    have HO := Lib.hid ho
    clear ho hm hmem
    go_enter Try.func32, Try.ntmps32
    go_wp2_with fail
    refine HS.out.mono ?_
    rintro e w4 ⟨rfl, q4, os4, rfl⟩
    obtain ⟨zs, hzs⟩ : ∃ zs, l.mergeSort (fun x y => decide (x ≤ y)) = zs := ⟨_, rfl⟩
    have hzl : zs.length = l.length := by rw [← hzs, List.length_mergeSort]
    rw [hzs] at HFIN0 ⊢
    obtain ⟨ho4, hb4⟩ := own_putI HO.out zs hzl q4 os4
    obtain ⟨W4, hW4⟩ : ∃ W4, Sort.grow (Sort.putRow (Value.int .i64) (Sort.ahead w q4) g 0 zs.toArray) os4 = W4 := ⟨_, rfl⟩
    rw [hW4] at ho4 hb4 ⊢
    have HCOM := Try.slices_Compact_int g 0 cp zs W4 (own_holdsI ho4) (by omega) (by omega)
    rw [hzl] at HCOM
    have hcl := Lib.compact_length_le zs
    have HC := Lib.hid HCOM
    have HO4 := Lib.hid ho4
    have HB4 : Hid (Below B w W4) := hb4
    have HFIN : Hid (Lib.compact zs = m) := HFIN0.out
    have HZL := Lib.hid hzl
    have HCL := Lib.hid hcl
    clear HS HO hW4 ho4 hb4 HCOM hzs hzl hcl HFIN0
    generalize Lib.compact zs = cs at HC HFIN HCL
    go_wp2_with fail
    refine HC.out.mono ?_
    rintro e w5 ⟨rfl, q5, rfl⟩
    have hcl := HCL.out
    have hzl := HZL.out
    obtain ⟨ho5, hb5⟩ := own_putI HO4.out (cs ++ List.replicate (l.length - cs.length) 0) (by rw [List.length_append, List.length_replicate]; omega) q5 #[]
    rw [Sort.grow_empty] at ho5 hb5
    obtain ⟨W5, hW5⟩ : ∃ W5, Sort.putRow (Value.int .i64) (Sort.ahead W4 q5) g 0 (cs ++ List.replicate (l.length - cs.length) 0).toArray = W5 := ⟨_, rfl⟩
    rw [hW5] at ho5 hb5 ⊢
    have ho6 := own_lessI ho5 (m := cs.length) (by omega)
    have htk : (ints (cs ++ List.replicate (l.length - cs.length) 0)).take cs.length = ints m := by
      rw [ints, List.map_append, List.take_left' (by simp), HFIN.out]
      rfl
    rw [htk, HFIN.out] at ho6
    have HB5 : Hid (Below B w W5) := HB4.out.trans hb5
    have HO6 := Lib.hid ho6
    rw [HFIN.out]
    clear hW5 ho5 hb5 ho6 htk hcl hzl
    go_wp2_with fail
    go_ret
    exact ⟨_, rfl, HO6.out, HB5.out⟩
end Go.Proofs.Ytcdchieielpahaa

/- The program's ReturnTimes. No condition. -/
namespace Go.Proofs.Ytcdchieielpahaa
open Go.RowKit Go.Lib

theorem rtTo_found (p q a b f : Int) : ∀ (m i k : Nat), i ≤ k → k < i + m → inA p q a b f k = true → (i : Int) ≤ rtTo p q a b f i m ∧ rtTo p q a b f i m ≤ (k : Int)
  | 0, i, k, h1, h2, _ => by omega
  | m + 1, i, k, h1, h2, h3 => by
    cases hc : inA p q a b f i
    · rw [(rt_step p q a b f i m).2 hc]
      have hne : i ≠ k := fun e => by rw [e, h3] at hc; cases hc
      have := rtTo_found p q a b f m (i + 1) k (by omega) (by omega) h3
      omega
    · rw [(rt_step p q a b f i m).1 hc]
      omega
theorem rtTo_none (p q a b f : Int) (h : ∀ k : Nat, inA p q a b f k = false) : ∀ (m i : Nat), rtTo p q a b f i m = -1
  | 0, _ => rfl
  | m + 1, i => by rw [(rt_step p q a b f i m).2 (h i)]; exact rtTo_none p q a b f h m (i + 1)
theorem ar_parts {p q a b : Int} (h : arOk p q a b = true) : (1 ≤ q ∧ q ≤ 1000) ∧ (0 ≤ p ∧ p ≤ q - 1) ∧ (0 ≤ a ∧ a ≤ q - 1) ∧ (0 ≤ b ∧ b ≤ q - 1) := by
  unfold arOk at h
  simp only [Bool.and_eq_true, decide_eq_true_eq] at h
  exact h
theorem rt_pos {p q a b f : Int} (h : arOk p q a b = true) (h1 : a ≤ f) (h2 : f ≤ b) : 1 ≤ rtT p q a b f ∧ rtT p q a b f ≤ 1000 := by
  obtain ⟨hq, hp, ha, hb⟩ := ar_parts h
  have hok : rtOkF p q a b f = true := by unfold rtOkF; rw [h]; simp; omega
  have hv : rtT p q a b f = rtTo p q a b f 1 1000 := if_pos hok
  rw [hv]
  have hin : inA p q a b f q.toNat = true := by
    have e : (f + ((q.toNat : Nat) : Int) * p) % q = f := by
      rw [Int.toNat_of_nonneg (by omega), Int.mul_comm, Int.add_mul_emod_self_right]
      exact Int.emod_eq_of_lt (by omega) (by omega)
    unfold inA
    rw [e]
    simp
    omega
  have := rtTo_found p q a b f 1000 1 q.toNat (by omega) (by omega) hin
  omega
theorem rt_neg {p q a b : Int} (h : (arOk p q a b && decide (a ≤ b)) = false) : rtT p q a b a = -1 := by
  cases h1 : arOk p q a b
  · exact if_neg (by unfold rtOkF; rw [h1, Bool.false_and]; simp)
  · rw [h1, Bool.true_and, decide_eq_false_iff_not] at h
    unfold rtT
    split
    · refine rtTo_none p q a b a (fun k => ?_) _ _
      unfold inA
      simp
      omega
    · rfl
/-- the times from k places, in their order -/
def rtL (p q a b : Int) : Nat → List Int
  | 0 => []
  | k + 1 => rtL p q a b k ++ [rtT p q a b (a + (k : Int))]
theorem rtL_len (p q a b : Int) : ∀ k, (rtL p q a b k).length = k
  | 0 => rfl
  | k + 1 => by unfold rtL; rw [List.length_append, rtL_len p q a b k]; rfl
theorem rtL_mem {p q a b : Int} (h : arOk p q a b = true) (x : Int) : ∀ k : Nat, a + (k : Int) ≤ b + 1 → (x ∈ rtL p q a b k ↔ x ∈ rsTo p q a b k)
  | 0, _ => Iff.rfl
  | k + 1, hk => by
    have ih := rtL_mem h x k (by omega)
    have hp := rt_pos (f := a + (k : Int)) h (by omega) (by omega)
    have e : rsTo p q a b (k + 1) = inI (rsTo p q a b k) (rtT p q a b (a + (k : Int))) := if_pos (by omega)
    rw [e, inI_mem, ← ih]
    show x ∈ rtL p q a b k ++ _ ↔ _
    rw [List.mem_append, List.mem_singleton]
    exact or_comm

set_option maxRecDepth 100000 in
set_option maxHeartbeats 1000000 in
theorem implReturnTimes (p q a b : Int) (w : World) :
    Calls Try.prog 25 #[.int .i64 p, .int .i64 q, .int .i64 a, .int .i64 b] w fun e w' => ∃ v, e = .returned v ∧ w'.ownsRow w.heap.size 3 1 v (rsR p q a b).length (ints (rsR p q a b)) ∧ Below w.heap.size w w' := by
  obtain ⟨i0, hi0, hz0, hz1, hz2⟩ := info_parts int_info
  have HRT := Lib.hid (fun f w => implReturnTime p q a b f w)
  have hnil : ∀ (w' : World), w'.ownsRow w.heap.size 3 1 (.slice none 0 0) 0 [] := fun w' => ⟨rfl, .inl ⟨rfl, rfl⟩⟩
  cases hok : (arOk p q a b && decide (a ≤ b))
  · have HV : Hid (rsR p q a b = []) := if_neg (by rw [hok]; simp)
    have HN := Lib.hid (rt_neg hok)
    clear hok
    generalize rsR p q a b = R at *
    obtain rfl : R = [] := HV.out
    go_enter Try.func25, Try.ntmps25
    go_wp2_with fail
    refine (HRT.out _ _).mono ?_
    rintro e w1 ⟨rfl, hb⟩
    rw [HN.out]
    go_wp2_with fail
    go_ret
    exact ⟨_, rfl, hnil _, hb⟩
  · have HV : Hid (rsR p q a b = rsTo p q a b (b - a + 1).toNat) := if_pos hok
    rw [Bool.and_eq_true, decide_eq_true_eq] at hok
    obtain ⟨hok, hab⟩ := hok
    obtain ⟨hq, hp, ha, hb⟩ := ar_parts hok
    have HP := Lib.hid (fun f => rt_pos (f := f) hok)
    have HM : Hid (∀ x, x ∈ rtL p q a b (b - a + 1).toNat ↔ x ∈ rsR p q a b) := fun x => by rw [HV.out]; exact rtL_mem hok x _ (by omega)
    have HA : Hid (AscI (rsR p q a b)) := by show AscI _; rw [HV.out]; exact rsTo_asc _ _ _ _ _
    obtain ⟨K, hK⟩ : ∃ K, K = (b - a + 1).toNat := ⟨_, rfl⟩
    rw [← hK] at HM
    have hKb : b + 1 - a = (K : Int) := by omega
    have hK1 : K ≤ 1000 := by omega
    have HL := Lib.hid (rtL_len p q a b)
    have HN : Hid (∀ k, rtL p q a b (k + 1) = rtL p q a b k ++ [rtT p q a b (a + (k : Int))]) := fun k => rfl
    have H0 : Hid (rtL p q a b 0 = []) := rfl
    have HSO := Lib.hid (implSortedOnce (rtL p q a b K) (rsR p q a b))
    have ha1 := HP.out a (Int.le_refl _) hab
    clear hok HV hK
    generalize rsR p q a b = R at *
    generalize rtL p q a b = T at *
    generalize rtT p q a b = F at *
    go_enter Try.func25, Try.ntmps25
    go_wp2_with fail
    refine (HRT.out _ _).mono ?_
    rintro e w1 ⟨rfl, hb1⟩
    have HB1 := Lib.hid hb1
    have hsz1 := hb1.size
    have hne : ¬ F a = -1 := by omega
    have hbe : (F a == -1) = false := by simpa using hne
    clear hb1
    go_wp2_with fail
    clear hbe
    go_loopw [9, 10] (fun lv iv w' => ∃ k : Nat, k ≤ K ∧ iv = .int .i64 (a + (k : Int)) ∧ (∃ A cp, lv = .slice A k cp) ∧ w'.ownsRow w1.heap.size 3 1 lv k (ints (T k)) ∧ Below w1.heap.size w1 w') (fun _ iv _ => K - (intOf iv - a).toNat)
    case atStart =>
      refine ⟨0, Nat.zero_le _, by go_num, ⟨_, _, rfl⟩, ?_, Below.refl _ _⟩
      rw [H0.out]
      exact ⟨rfl, .inl ⟨rfl, rfl⟩⟩
    case round =>
      obtain ⟨k, hk, rfl, ⟨A3, cp3, rfl⟩, ho3, hb3⟩ := hrel
      have HO3 := Lib.hid ho3
      have HB3 := Lib.hid hb3
      have hbz := hb3.size
      clear ho3 hb3
      by_cases hlt : k < K
      · have hlt' : a + (k : Int) ≤ b := by omega
        have hx := HP.out (a + (k : Int)) (by omega) (by omega)
        have HN1 := Lib.hid (HN.out k)
        have HRK := Lib.hid (HRT.out (a + (k : Int)))
        generalize F (a + (k : Int)) = x at *
        go_wp2_with fail
        refine (HRK.out _).mono ?_
        rintro e w4 ⟨rfl, hb4⟩
        have HB4 : Hid (Below w1.heap.size w1 w4) := HB3.out.trans (hb4.mono hbz)
        have HO4 := Lib.hid (own_below HO3.out hb4)
        have hsz4 := HB4.out.size
        clear hb4
        go_wp2_with (at_builtin
                     refine wpList_append1 _ rfl (.tmp 24) (.tmp 31) _ rfl w1.heap.size 3 i0 _ 8 Try.underlying22 hi0 hz0 hz1 hz2 rfl (.slice A3 k cp3) k (ints (T k)) rfl HO4.out (.int .i64 x) rfl rfl (by unfold maxLen; omega) (by omega) hsz4 ?_
                     intro v' w5 hown5 hbel5)
        have ho5 : w5.ownsRow w1.heap.size 3 1 v' (k + 1) (ints (T (k + 1))) := by rw [HN1.out, ints_snoc]; exact hown5
        obtain ⟨A5, cp5, rfl⟩ := own_slice ho5
        go_roundw
        case rel => exact ⟨k + 1, by omega, by go_num, ⟨A5, cp5, rfl⟩, ho5, HB4.out.trans hbel5⟩
        case measure => simp [intOf]; omega
      · have hkK : k = K := by omega
        subst hkK
        have hlt' : ¬ a + (k : Int) ≤ b := by omega
        have hSO := Lib.hid (HSO.out (.slice A3 k cp3) w1.heap.size wr (by rw [HL.out]; exact HO3.out) (by rw [HL.out]; omega) HA.out HM.out)
        go_wp2_with fail
        refine hSO.out.mono ?_
        rintro e w6 ⟨v6, rfl, ho6, hb6⟩
        have HO6 := Lib.hid (own_mono ho6 hsz1)
        have HB6 : Hid (Below w.heap.size w w6) := HB1.out.trans ((HB3.out.trans hb6).mono hsz1)
        obtain ⟨A6, cp6, rfl⟩ := own_slice ho6
        clear ho6 hb6
        go_wp2_with fail
        go_ret
        exact ⟨_, rfl, HO6.out, HB6.out⟩
end Go.Proofs.Ytcdchieielpahaa
