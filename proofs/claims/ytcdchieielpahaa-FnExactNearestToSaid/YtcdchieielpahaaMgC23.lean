/- Texts put together. -/
import Derived.Shelf.Small.Bits
import Derived.Shelf.Small.Wraps
import Derived.Shelf.Strconv.Itoa0
import Derived.Shelf.Sort.Plain
import Derived.Shelf.Slices.Turned
import Derived.Ground.Names2Prog
import Derived.Shelf.Slices.CompactI
import Derived.Shelf.Slices.SearchI
import Derived.Shelf.Slices.Cells
import Derived.Shelf.Slices.In.SortNone
import Derived.Test.YtcdchieielpahaaProg
import Derived.Test.YtcdchieielpahaaMgC7
/-
  DERIVED: THE SHELF's CONTRACTS AT THIS DUMP, IN PLAIN WORDS (tools/lay-plain.mjs out of 'TryShelf.lean', which tools/lay-shelf.mjs wrote): THE SAME DECLARATIONS UNDER THE SAME NAMES: 'import', 'namespace', 'open', 'def', 'theorem' AND NOTHING ELSE: no command of the shelf's: FOR A HAND-IN. Each laying: the table of numbers ('.._ren') and one theorem, a field a fact of the dump's own or the kernel's comparison; each contract: ONE APPLICATION.
-/
namespace Go.Proofs
open Go.Shelf
def Try.lays215_ren : Go.Shelf.Ren := ⟨fun | 215 => 67 | n => n, fun | 3 => 3 | 4 => 4 | n => n, fun | n => n⟩
theorem Try.lays215 : Go.Proofs.Lays.n215 Try.prog Try.lays215_ren := {
  mixed := by kernel_rfl
  f215 := Try.func67.trans (congrArg some (by kernel_rfl))
  t3 := Try.underlying3
  a3 := Try.isAgg3
  z3 := Try.sizeOf3
  v3 := Try.zeroValue3
  t4 := Try.underlying4
  a4 := Try.isAgg4
  z4 := Try.sizeOf4
  v4 := Try.zeroValue4 }
open Go.RowKit in
/-- cmp.isNaN at int: 'x != x': false. (LAID: no walk: one application.) -/
theorem Try.cmp_isNaN_int (x : Int) (w : World) :
    Calls Try.prog 67 #[.int .i64 x] w fun e w' => e = .returned (.bool false) ∧ w' = w := Any.cmp_isNaN_int Try.lays215 x w
def Try.lays189_ren : Go.Shelf.Ren := ⟨fun | 189 => 44 | 125 => 50 | 257 => 49 | 128 => 60 | 129 => 61 | 294 => 51 | 295 => 52 | 296 => 53 | 297 => 54 | 298 => 55 | 299 => 56 | 216 => 57 | 300 => 58 | 301 => 59 | 328 => 62 | 329 => 63 | 330 => 64 | 331 => 65 | 332 => 66 | 215 => 67 | 343 => 68 | n => n, fun | 28 => 22 | 3 => 3 | 46 => 52 | 0 => 0 | 51 => 66 | 53 => 68 | 4 => 4 | 183 => 58 | 182 => 57 | 131 => 63 | 5 => 5 | 9 => 9 | 218 => 69 | 222 => 73 | 228 => 76 | 229 => 27 | n => n, fun | n => n⟩
theorem Try.lays189 : Go.Proofs.Lays.n189 Try.prog Try.lays189_ren := {
  mixed := by kernel_rfl
  f125 := Try.func50.trans (congrArg some (by kernel_rfl))
  f128 := Try.func60.trans (congrArg some (by kernel_rfl))
  f129 := Try.func61.trans (congrArg some (by kernel_rfl))
  f189 := Try.func44.trans (congrArg some (by kernel_rfl))
  f215 := Try.func67.trans (congrArg some (by kernel_rfl))
  f216 := Try.func57.trans (congrArg some (by kernel_rfl))
  f257 := Try.func49.trans (congrArg some (by kernel_rfl))
  f294 := Try.func51.trans (congrArg some (by kernel_rfl))
  f295 := Try.func52.trans (congrArg some (by kernel_rfl))
  f296 := Try.func53.trans (congrArg some (by kernel_rfl))
  f297 := Try.func54.trans (congrArg some (by kernel_rfl))
  f298 := Try.func55.trans (congrArg some (by kernel_rfl))
  f299 := Try.func56.trans (congrArg some (by kernel_rfl))
  f300 := Try.func58.trans (congrArg some (by kernel_rfl))
  f301 := Try.func59.trans (congrArg some (by kernel_rfl))
  f328 := Try.func62.trans (congrArg some (by kernel_rfl))
  f329 := Try.func63.trans (congrArg some (by kernel_rfl))
  f330 := Try.func64.trans (congrArg some (by kernel_rfl))
  f331 := Try.func65.trans (congrArg some (by kernel_rfl))
  f332 := Try.func66.trans (congrArg some (by kernel_rfl))
  f343 := Try.func68.trans (congrArg some (by kernel_rfl))
  t0 := Try.underlying0
  a0 := Try.isAgg0
  z0 := Try.sizeOf0
  v0 := Try.zeroValue0
  t3 := Try.underlying3
  a3 := Try.isAgg3
  z3 := Try.sizeOf3
  v3 := Try.zeroValue3
  t4 := Try.underlying4
  a4 := Try.isAgg4
  z4 := Try.sizeOf4
  v4 := Try.zeroValue4
  t5 := Try.underlying5
  a5 := Try.isAgg5
  z5 := Try.sizeOf5
  v5 := Try.zeroValue5
  t9 := Try.underlying9
  a9 := Try.isAgg9
  z9 := Try.sizeOf9
  v9 := Try.zeroValue9
  t28 := Try.underlying22
  a28 := Try.isAgg22
  z28 := Try.sizeOf22
  v28 := Try.zeroValue22
  t46 := Try.underlying52
  a46 := Try.isAgg52
  z46 := Try.sizeOf52
  v46 := Try.zeroValue52
  t51 := Try.underlying66
  a51 := Try.isAgg66
  z51 := Try.sizeOf66
  v51 := Try.zeroValue66
  t53 := Try.underlying68
  a53 := Try.isAgg68
  z53 := Try.sizeOf68
  v53 := Try.zeroValue68
  t131 := Try.underlying63
  a131 := Try.isAgg63
  z131 := Try.sizeOf63
  v131 := Try.zeroValue63
  t182 := Try.underlying57
  a182 := Try.isAgg57
  z182 := Try.sizeOf57
  v182 := Try.zeroValue57
  t183 := Try.underlying58
  a183 := Try.isAgg58
  z183 := Try.sizeOf58
  v183 := Try.zeroValue58
  t218 := Try.underlying69
  a218 := Try.isAgg69
  z218 := Try.sizeOf69
  v218 := Try.zeroValue69
  t222 := Try.underlying73
  a222 := Try.isAgg73
  z222 := Try.sizeOf73
  v222 := Try.zeroValue73
  t228 := Try.underlying76
  a228 := Try.isAgg76
  z228 := Try.sizeOf76
  v228 := Try.zeroValue76
  t229 := Try.underlying27
  a229 := Try.isAgg27
  z229 := Try.sizeOf27
  v229 := Try.zeroValue27 }
open Go.Sort Go.RowKit in
theorem Try.slices_Sort_int (blk off cap : Nat) (zs : List Int) (w : World) (hH : Holds (Value.int .i64) w blk off zs.toArray) (hblk : blk < w.heap.size) (hsz : zs.length < 4611686018427387904) :
    Calls Try.prog 44 #[.slice (some ⟨blk, off, none⟩) zs.length cap] w fun e w' =>
      e = .returned (.tuple #[]) ∧ ∃ n os, w' = grow (putRow (Value.int .i64) (Sort.ahead w n) blk off (zs.mergeSort fun x y => decide (x ≤ y)).toArray) os := Any.slices_Sort_int Try.lays189 blk off cap zs w hH hblk hsz
def Try.lays108_ren : Go.Shelf.Ren := ⟨fun | 108 => 35 | n => n, fun | 28 => 22 | 3 => 3 | 0 => 0 | 4 => 4 | n => n, fun | n => n⟩
theorem Try.lays108 : Go.Proofs.Lays.n108 Try.prog Try.lays108_ren := {
  mixed := by kernel_rfl
  f108 := Try.func35.trans (congrArg some (by kernel_rfl))
  t0 := Try.underlying0
  a0 := Try.isAgg0
  z0 := Try.sizeOf0
  v0 := Try.zeroValue0
  t3 := Try.underlying3
  a3 := Try.isAgg3
  z3 := Try.sizeOf3
  v3 := Try.zeroValue3
  t4 := Try.underlying4
  a4 := Try.isAgg4
  z4 := Try.sizeOf4
  v4 := Try.zeroValue4
  t28 := Try.underlying22
  a28 := Try.isAgg22
  z28 := Try.sizeOf22
  v28 := Try.zeroValue22 }
open Go.Lib in
/-- slices.Index at []int: "Index returns the index of the first occurrence of v in s, or -1 if not present.": IT RETURNS 'Lib.idxOf (the elements) v'; the world is as it was. 'zs': what the cells behind the slice's address hold (its spare capacity too, if you have it); 'zs.take n': its elements. (LAID: no walk: one application.) -/
theorem Try.slices_Index_int (b off n c : Nat) (zs : List Int) (x : Int) (w : World) (hz : n ≤ zs.length) (hbig : n ≤ 9223372036854775807) (hc : ∀ j, j < zs.length → w.cell? ⟨b, off + j, none⟩ = some (.int .i64 (zs.getD j 0))) :
    Calls Try.prog 35 #[.slice (some ⟨b, off, none⟩) n c, .int .i64 x] w fun e w' => e = .returned (.int .i64 (Lib.idxOf (zs.take n) x)) ∧ w' = w := Any.slices_Index_int Try.lays108 b off n c zs x w hz hbig hc
open Go.Lib in
/-- The same at a slice of length 0, a nil one too: no cell is known, none is asked for. (LAID: no walk: one application.) -/
theorem Try.slices_Index_int_empty (a : Option Addr) (c : Nat) (x : Int) (w : World) :
    Calls Try.prog 35 #[.slice a 0 c, .int .i64 x] w fun e w' => e = .returned (.int .i64 (Lib.idxOf [] x)) ∧ w' = w := Any.slices_Index_int_empty Try.lays108 a c x w
def Try.lays113_ren : Go.Shelf.Ren := ⟨fun | 113 => 37 | n => n, fun | 28 => 22 | 3 => 3 | 4 => 4 | 9 => 9 | 20 => 20 | 0 => 0 | n => n, fun | n => n⟩
theorem Try.lays113 : Go.Proofs.Lays.n113 Try.prog Try.lays113_ren := {
  mixed := by kernel_rfl
  f113 := Try.func37.trans (congrArg some (by kernel_rfl))
  t0 := Try.underlying0
  a0 := Try.isAgg0
  z0 := Try.sizeOf0
  v0 := Try.zeroValue0
  t3 := Try.underlying3
  a3 := Try.isAgg3
  z3 := Try.sizeOf3
  v3 := Try.zeroValue3
  t4 := Try.underlying4
  a4 := Try.isAgg4
  z4 := Try.sizeOf4
  v4 := Try.zeroValue4
  t9 := Try.underlying9
  a9 := Try.isAgg9
  z9 := Try.sizeOf9
  v9 := Try.zeroValue9
  t20 := Try.underlying20
  a20 := Try.isAgg20
  z20 := Try.sizeOf20
  v20 := Try.zeroValue20
  t28 := Try.underlying22
  a28 := Try.isAgg22
  z28 := Try.sizeOf22
  v28 := Try.zeroValue22 }
open Go.Lib in
/-- slices.Max at []int: "Max returns the maximal value in x. It panics if x is empty.": OF A SLICE THAT IS NOT EMPTY IT RETURNS 'Lib.maxOf (the elements)'; the world is as it was. (Of an empty one it panics: no contract here.) (LAID: no walk: one application.) -/
theorem Try.slices_Max_int (b off n c : Nat) (zs : List Int) (w : World) (hn : 0 < n) (hz : n ≤ zs.length) (hbig : n ≤ 9223372036854775807) (hc : ∀ j, j < zs.length → w.cell? ⟨b, off + j, none⟩ = some (.int .i64 (zs.getD j 0))) :
    Calls Try.prog 37 #[.slice (some ⟨b, off, none⟩) n c] w fun e w' => e = .returned (.int .i64 (Lib.maxOf (zs.take n))) ∧ w' = w := Any.slices_Max_int Try.lays113 b off n c zs w hn hz hbig hc
def Try.lays114_ren : Go.Shelf.Ren := ⟨fun | 114 => 36 | n => n, fun | 28 => 22 | 3 => 3 | 4 => 4 | 9 => 9 | 20 => 20 | 0 => 0 | n => n, fun | n => n⟩
theorem Try.lays114 : Go.Proofs.Lays.n114 Try.prog Try.lays114_ren := {
  mixed := by kernel_rfl
  f114 := Try.func36.trans (congrArg some (by kernel_rfl))
  t0 := Try.underlying0
  a0 := Try.isAgg0
  z0 := Try.sizeOf0
  v0 := Try.zeroValue0
  t3 := Try.underlying3
  a3 := Try.isAgg3
  z3 := Try.sizeOf3
  v3 := Try.zeroValue3
  t4 := Try.underlying4
  a4 := Try.isAgg4
  z4 := Try.sizeOf4
  v4 := Try.zeroValue4
  t9 := Try.underlying9
  a9 := Try.isAgg9
  z9 := Try.sizeOf9
  v9 := Try.zeroValue9
  t20 := Try.underlying20
  a20 := Try.isAgg20
  z20 := Try.sizeOf20
  v20 := Try.zeroValue20
  t28 := Try.underlying22
  a28 := Try.isAgg22
  z28 := Try.sizeOf22
  v28 := Try.zeroValue22 }
open Go.Lib in
/-- slices.Min at []int: "Min returns the minimal value in x. It panics if x is empty.": OF A SLICE THAT IS NOT EMPTY IT RETURNS 'Lib.minOf (the elements)'; the world is as it was. (Of an empty one it panics: no contract here.) (LAID: no walk: one application.) -/
theorem Try.slices_Min_int (b off n c : Nat) (zs : List Int) (w : World) (hn : 0 < n) (hz : n ≤ zs.length) (hbig : n ≤ 9223372036854775807) (hc : ∀ j, j < zs.length → w.cell? ⟨b, off + j, none⟩ = some (.int .i64 (zs.getD j 0))) :
    Calls Try.prog 36 #[.slice (some ⟨b, off, none⟩) n c] w fun e w' => e = .returned (.int .i64 (Lib.minOf (zs.take n))) ∧ w' = w := Any.slices_Min_int Try.lays114 b off n c zs w hn hz hbig hc
def Try.laysNm220_ren : Go.Shelf.Ren := ⟨fun | 20 => 45 | n => n, fun | 22 => 22 | 3 => 3 | 4 => 4 | 0 => 0 | n => n, fun | n => n⟩
theorem Try.laysNm220 : Go.Proofs.Lays2.n20 Try.prog Try.laysNm220_ren := {
  mixed := by kernel_rfl
  f20 := Try.func45.trans (congrArg some (by kernel_rfl))
  t0 := Try.underlying0
  a0 := Try.isAgg0
  z0 := Try.sizeOf0
  v0 := Try.zeroValue0
  t3 := Try.underlying3
  a3 := Try.isAgg3
  z3 := Try.sizeOf3
  v3 := Try.zeroValue3
  t4 := Try.underlying4
  a4 := Try.isAgg4
  z4 := Try.sizeOf4
  v4 := Try.zeroValue4
  t22 := Try.underlying22
  a22 := Try.isAgg22
  z22 := Try.sizeOf22
  v22 := Try.zeroValue22
  i3 := by kernel_rfl }
open Go.RowKit Go.Lib Go.Sort in
/-- slices.Compact at []int: "Compact replaces consecutive runs of equal elements with a single copy. This is like the uniq command found on Unix. Compact modifies the contents of the slice s and returns the modified slice, which may have a smaller length. Compact zeroes the elements between the new length and the original length. The result preserves the nilness of s.": IT RETURNS THE SLICE CUT TO 'Lib.compact zs'; ITS CELLS HOLD 'Lib.compact zs', THEN ZERO VALUES up to the old length; all else is as it was, but for the count of draws. IN THE WORDS OF slices.Sort's CONTRACT ('Holds', 'putRow'): so the everyday 'slices.Sort(xs); xs = slices.Compact(xs)' goes from the one contract to the other. It asks 'zs.length ≤ cap' (every slice's: the reslicing 's[:k]' looks at it). Length 0, nil: '.._empty'. (LAID: no walk: one application.) -/
theorem Try.slices_Compact_int (blk off cap : Nat) (zs : List Int) (w : World) (hH : Holds (Value.int .i64) w blk off zs.toArray) (hsz : zs.length ≤ 9223372036854775807) (hcap : zs.length ≤ cap) :
    Calls Try.prog 45 #[.slice (some ⟨blk, off, none⟩) zs.length cap] w fun e w' => e = .returned (.slice (some ⟨blk, off, none⟩) (Lib.compact zs).length cap) ∧ ∃ q, w' = putRow (Value.int .i64) (Sort.ahead w q) blk off (Lib.compact zs ++ List.replicate (zs.length - (Lib.compact zs).length) 0).toArray := Any.slices_Compact_int Try.laysNm220 blk off cap zs w hH hsz hcap
open Go.RowKit Go.Lib Go.Sort in
/-- The same at a slice of length 0, a nil one too: it comes back as it is. (LAID: no walk: one application.) -/
theorem Try.slices_Compact_int_empty (a : Option Addr) (cap : Nat) (w : World) :
    Calls Try.prog 45 #[.slice a 0 cap] w fun e w' => e = .returned (.slice a 0 cap) ∧ w' = w := Any.slices_Compact_int_empty Try.laysNm220 a cap w
open Go.RowKit Go.Sort in
/-- .. and plain. (LAID: no walk: one application.) -/
theorem Try.slices_Sort_int_none (p : Option Addr) (cap : Nat) (w : World) :
    Calls Try.prog 44 #[.slice p 0 cap] w fun e w' => e = .returned (.tuple #[]) ∧ w' = w := Any.slices_Sort_int_none Try.lays189 p cap w
end Go.Proofs

/- The program's NearestTo, in company. No condition. -/
namespace Go.Proofs.Ytcdchieielpahaa
open Go.Conc Go.RowKit

/-! ### the first of the least, the first of the greatest -/
theorem nrTo_min (P Q : Nat) : ∀ k, (1 ≤ (nrTo P Q (k + 1)).1 ∧ (nrTo P Q (k + 1)).1 ≤ k + 1) ∧ (∀ j, 1 ≤ j → j ≤ k + 1 → dpN P Q (nrTo P Q (k + 1)).1 ≤ dpN P Q j) ∧ (∀ j, 1 ≤ j → j < (nrTo P Q (k + 1)).1 → dpN P Q (nrTo P Q (k + 1)).1 < dpN P Q j)
  | 0 => by
    have e : (nrTo P Q (0 + 1)).1 = 1 := by
      show (if dpN P Q 1 < dpN P Q 1 then 1 else 1) = 1
      split <;> rfl
    rw [e]
    refine ⟨by omega, fun j h1 h2 => ?_, fun j h1 h2 => by omega⟩
    have : j = 1 := by omega
    rw [this]
    exact Nat.le_refl _
  | k + 1 => by
    obtain ⟨⟨h1, h2⟩, h3, h4⟩ := nrTo_min P Q k
    have e : (nrTo P Q (k + 1 + 1)).1 = if dpN P Q (k + 1 + 1) < dpN P Q (nrTo P Q (k + 1)).1 then k + 1 + 1 else (nrTo P Q (k + 1)).1 := rfl
    rw [e]
    generalize (nrTo P Q (k + 1)).1 = a at *
    by_cases hc : dpN P Q (k + 1 + 1) < dpN P Q a
    · rw [if_pos hc]
      refine ⟨by omega, fun j j1 j2 => ?_, fun j j1 j2 => ?_⟩
      · by_cases hj : j = k + 1 + 1
        · rw [hj]; exact Nat.le_refl _
        · have := h3 j j1 (by omega); omega
      · have := h3 j j1 (by omega); omega
    · rw [if_neg hc]
      refine ⟨by omega, fun j j1 j2 => ?_, h4⟩
      by_cases hj : j = k + 1 + 1
      · rw [hj]; omega
      · exact h3 j j1 (by omega)
theorem nrTo_max (P Q : Nat) : ∀ k, (1 ≤ (nrTo P Q (k + 1)).2 ∧ (nrTo P Q (k + 1)).2 ≤ k + 1) ∧ (∀ j, 1 ≤ j → j ≤ k + 1 → dpN P Q j ≤ dpN P Q (nrTo P Q (k + 1)).2) ∧ (∀ j, 1 ≤ j → j < (nrTo P Q (k + 1)).2 → dpN P Q j < dpN P Q (nrTo P Q (k + 1)).2)
  | 0 => by
    have e : (nrTo P Q (0 + 1)).2 = 1 := by
      show (if dpN P Q 1 < dpN P Q 1 then 1 else 1) = 1
      split <;> rfl
    rw [e]
    refine ⟨by omega, fun j h1 h2 => ?_, fun j h1 h2 => by omega⟩
    have : j = 1 := by omega
    rw [this]
    exact Nat.le_refl _
  | k + 1 => by
    obtain ⟨⟨h1, h2⟩, h3, h4⟩ := nrTo_max P Q k
    have e : (nrTo P Q (k + 1 + 1)).2 = if dpN P Q (nrTo P Q (k + 1)).2 < dpN P Q (k + 1 + 1) then k + 1 + 1 else (nrTo P Q (k + 1)).2 := rfl
    rw [e]
    generalize (nrTo P Q (k + 1)).2 = a at *
    by_cases hc : dpN P Q a < dpN P Q (k + 1 + 1)
    · rw [if_pos hc]
      refine ⟨by omega, fun j j1 j2 => ?_, fun j j1 j2 => ?_⟩
      · by_cases hj : j = k + 1 + 1
        · rw [hj]; exact Nat.le_refl _
        · have := h3 j j1 (by omega); omega
      · have := h3 j j1 (by omega); omega
    · rw [if_neg hc]
      refine ⟨by omega, fun j j1 j2 => ?_, h4⟩
      by_cases hj : j = k + 1 + 1
      · rw [hj]; omega
      · exact h3 j j1 (by omega)

/-- the multiples behind the first one -/
def nzs (P Q K : Nat) : List Int := (List.range K).map fun i => ((dpN P Q (i + 1) : Nat) : Int)
theorem nzs_len (P Q K : Nat) : (nzs P Q K).length = K := by simp [nzs]
theorem nzs_at (P Q K j : Nat) (h : j < K) : (nzs P Q K).getD j 0 = ((dpN P Q (j + 1) : Nat) : Int) := by simp [nzs, List.getD, h]
theorem nzs_min (P Q K : Nat) : ∀ k, k < K → Lib.minOf ((nzs P Q K).take (k + 1)) = ((dpN P Q (nrTo P Q (k + 1)).1 : Nat) : Int)
  | 0, h => by
    have e : (nrTo P Q (0 + 1)).1 = 1 := by
      show (if dpN P Q 1 < dpN P Q 1 then 1 else 1) = 1
      split <;> rfl
    rw [Lib.minOf_one, nzs_at _ _ _ _ h, e]
  | k + 1, h => by
    have e : (nrTo P Q (k + 1 + 1)).1 = if dpN P Q (k + 1 + 1) < dpN P Q (nrTo P Q (k + 1)).1 then k + 1 + 1 else (nrTo P Q (k + 1)).1 := rfl
    rw [Lib.minOf_step _ _ (by omega) (by rw [nzs_len]; omega), nzs_min P Q K k (by omega), nzs_at _ _ _ _ h, e]
    split <;> omega
theorem nzs_max (P Q K : Nat) : ∀ k, k < K → Lib.maxOf ((nzs P Q K).take (k + 1)) = ((dpN P Q (nrTo P Q (k + 1)).2 : Nat) : Int)
  | 0, h => by
    have e : (nrTo P Q (0 + 1)).2 = 1 := by
      show (if dpN P Q 1 < dpN P Q 1 then 1 else 1) = 1
      split <;> rfl
    rw [Lib.maxOf_one, nzs_at _ _ _ _ h, e]
  | k + 1, h => by
    have e : (nrTo P Q (k + 1 + 1)).2 = if dpN P Q (nrTo P Q (k + 1)).2 < dpN P Q (k + 1 + 1) then k + 1 + 1 else (nrTo P Q (k + 1)).2 := rfl
    rw [Lib.maxOf_step _ _ (by omega) (by rw [nzs_len]; omega), nzs_max P Q K k (by omega), nzs_at _ _ _ _ h, e]
    split <;> omega
theorem nzs_lo (P Q K : Nat) (h : 1 ≤ K) : Lib.idxOf ((nzs P Q K).take K) (Lib.minOf ((nzs P Q K).take K)) = (((nrTo P Q K).1 - 1 : Nat) : Int) := by
  obtain ⟨k, rfl⟩ : ∃ k, K = k + 1 := ⟨K - 1, by omega⟩
  obtain ⟨⟨h1, h2⟩, h3, h4⟩ := nrTo_min P Q k
  rw [nzs_min P Q (k + 1) k (by omega)]
  refine Lib.idxOf_hit _ _ _ _ (by omega) (by rw [nzs_len]; exact Nat.le_refl _) ?_ fun j hj => ?_
  · rw [nzs_at _ _ _ _ (by omega), show (nrTo P Q (k + 1)).1 - 1 + 1 = (nrTo P Q (k + 1)).1 by omega]
  · rw [nzs_at _ _ _ _ (by omega)]
    have := h4 (j + 1) (by omega) (by omega)
    omega
theorem nzs_hi (P Q K : Nat) (h : 1 ≤ K) : Lib.idxOf ((nzs P Q K).take K) (Lib.maxOf ((nzs P Q K).take K)) = (((nrTo P Q K).2 - 1 : Nat) : Int) := by
  obtain ⟨k, rfl⟩ : ∃ k, K = k + 1 := ⟨K - 1, by omega⟩
  obtain ⟨⟨h1, h2⟩, h3, h4⟩ := nrTo_max P Q k
  rw [nzs_max P Q (k + 1) k (by omega)]
  refine Lib.idxOf_hit _ _ _ _ (by omega) (by rw [nzs_len]; exact Nat.le_refl _) ?_ fun j hj => ?_
  · rw [nzs_at _ _ _ _ (by omega), show (nrTo P Q (k + 1)).2 - 1 + 1 = (nrTo P Q (k + 1)).2 by omega]
  · rw [nzs_at _ _ _ _ (by omega)]
    have := h4 (j + 1) (by omega) (by omega)
    omega


/-- the leaving of a frame with two results in slots -/
theorem can_leave2 {P : Program} {Fin : Goroutine → World → Prop} {f : FuncId} {fn : Func} {cs : List Frame} {R : Value → World → Prop} {t u : Tmp} (hf : P.funcs[f]? = some fn) (hr : fn.results = #[.tmp t, .tmp u])
    (hK : ∀ fr v w', R v w' → fr.leaving P w' (.returned v) → fr.fn = f → Can P Fin (G fr cs) w') (a : Act) (todo : List Item) (w' : World) (v v' : Value) (hd : a.defers = []) (hv : a.tmps[t]? = some v) (hv' : a.tmps[u]? = some v') (h : R (.tuple #[v, v']) w') :
    Can P Fin (G { ({ (default : Frame) with fn := f, kind := .normal } : Frame).at a todo with mode := .returning } cs) w' :=
  hK _ _ w' h ⟨rfl, hd, rfl, fn, hf, by
    show (results fn a.tmps).run P w' = _
    rw [results_tmp2 hr]
    simp [Array.getD_eq_getD_getElem?, hv, hv']⟩ rfl

noncomputable def nrtBody : Code := Try.f21.body.getD .skip
noncomputable def nrtC0 : Code := match nrtBody with | .seq a _ => a | _ => .skip
noncomputable def nrtT1 : Code := match nrtBody with | .seq _ r => r | _ => .skip
noncomputable def nrtOps1 : Array Oper := match nrtT1 with | .seq (.region _ ops _) _ => ops | _ => #[]
noncomputable def nrtT2 : Code := match nrtT1 with | .seq _ r => r | _ => .skip
theorem nrtBody_eq : nrtBody = .seq nrtC0 (.seq (.region 1 nrtOps1 false) nrtT2) := by
  simp only [nrtC0, nrtOps1, nrtT2, nrtT1, nrtBody, Try.f21, Option.getD_some]

set_option maxRecDepth 100000 in
set_option maxHeartbeats 2000000 in
theorem nrt_rest (p q n : Int) (N : Nat) (v u10 u11 u12 u13 : Value) (w : World) (ho : w.ownsRow N 3 1 v (muR p q n).length (ints (muR p q n))) (hnil : muR p q n = [] → v = .slice none 0 0) :
    nrtT2.wp Try.prog (fun e a' w' => e = .ret ∧ a'.defers = [] ∧ a'.tmps[6]? = some (.int .i64 (nrA p q n)) ∧ a'.tmps[7]? = some (.int .i64 (nrB p q n)) ∧ w = w')
      ⟨#[.int .i64 p, .int .i64 q, .int .i64 n, undef, undef, undef, .int .i64 0, .int .i64 0, v, undef, u10, u11, u12, u13, undef, undef, undef, undef, undef, undef, undef, undef, undef, undef, undef, undef, undef, undef, undef], []⟩ w := by
  cases h1 : gpOk p q n
  · have HA : Hid (nrA p q n = -1) := if_neg (by unfold nrOk; rw [h1]; simp)
    have HB : Hid (nrB p q n = -1) := if_neg (by unfold nrOk; rw [h1]; simp)
    obtain rfl := hnil (if_neg (by rw [h1]; decide))
    clear ho hnil h1
    generalize nrA p q n = r at *
    generalize nrB p q n = s at *
    obtain rfl : r = -1 := HA.out
    obtain rfl : s = -1 := HB.out
    simp only [nrtT2, nrtT1, nrtBody, Try.f21, Option.getD_some]
    go_wp2_with fail
  · obtain ⟨P, Q, M, rfl, rfl, rfl, hQ1, hQ2, hPQ, hM1, hM2⟩ := gp_parts h1
    have HG := Lib.hid (muR_get h1)
    have hlen := muR_len h1
    rw [hlen] at ho
    obtain ⟨g, cp, rfl, hcp⟩ := own_some ho hM1
    have HO := Lib.hid ho
    have hok : nrOk (P : Int) Q M = !((M : Int) == 1) := by unfold nrOk; rw [h1]; rfl
    by_cases hM : M = 1
    · have HA : Hid (nrA (P : Int) Q M = -1) := if_neg (by rw [hok, hM]; decide)
      have HB : Hid (nrB (P : Int) Q M = -1) := if_neg (by rw [hok, hM]; decide)
      clear ho hnil h1 hok
      generalize nrA (P : Int) Q M = r at *
      generalize nrB (P : Int) Q M = s at *
      obtain rfl : r = -1 := HA.out
      obtain rfl : s = -1 := HB.out
      subst hM
      simp only [nrtT2, nrtT1, nrtBody, Try.f21, Option.getD_some]
      go_wp2_with fail
    · have hb : ((M : Int) == 1) = false := by simp; omega
      have HA : Hid (nrA (P : Int) Q M = ((nrTo P Q (M - 1)).1 : Int)) := if_pos (by rw [hok, hb]; rfl)
      have HB : Hid (nrB (P : Int) Q M = ((nrTo P Q (M - 1)).2 : Int)) := if_pos (by rw [hok, hb]; rfl)
      have HLE := nrTo_le P Q (M - 1)
      have HLO := Lib.hid (nzs_lo P Q (M - 1) (by omega))
      have HHI := Lib.hid (nzs_hi P Q (M - 1) (by omega))
      have hz : (nzs P Q (M - 1)).length = M - 1 := nzs_len P Q (M - 1)
      have HC : Hid (∀ j, j < (nzs P Q (M - 1)).length → w.cell? ⟨g, 1 + j, none⟩ = some (.int .i64 ((nzs P Q (M - 1)).getD j 0))) := fun j hj => by
        rw [hz] at hj
        rw [nzs_at _ _ _ _ hj, show 1 + j = j + 1 by omega]
        exact (World.ownsRow.cellAt HO.out (j + 1) (by omega)).trans (HG.out (j + 1) (by omega))
      clear ho hnil h1 hok HG HO
      generalize nrA (P : Int) Q M = r at *
      generalize nrB (P : Int) Q M = s at *
      generalize nzs P Q (M - 1) = Z at *
      generalize nrTo P Q (M - 1) = y at *
      have hge : ¬ ((M : Int) < 2) := by omega
      simp only [nrtT2, nrtT1, nrtBody, Try.f21, Option.getD_some]
      go_wp2_with fail
      refine (Try.slices_Min_int g 1 (M - 1) _ Z w (by omega) (by omega) (by omega) HC.out).mono ?_
      rintro e w' ⟨rfl, rfl⟩
      go_wp2_with fail
      refine (Try.slices_Index_int g 1 (M - 1) _ Z _ _ (by omega) (by omega) HC.out).mono ?_
      rintro e w' ⟨rfl, rfl⟩
      rw [HLO.out]
      go_wp2_with fail
      refine (Try.slices_Max_int g 1 (M - 1) _ Z _ (by omega) (by omega) (by omega) HC.out).mono ?_
      rintro e w' ⟨rfl, rfl⟩
      go_wp2_with fail
      refine (Try.slices_Index_int g 1 (M - 1) _ Z _ _ (by omega) (by omega) HC.out).mono ?_
      rintro e w' ⟨rfl, rfl⟩
      rw [HHI.out]
      go_wp2_with fail
      exact ⟨by rw [HA.out]; go_num, by rw [HB.out]; go_num⟩

set_option maxRecDepth 100000 in
set_option maxHeartbeats 2000000 in
theorem cNearestTo (p q n : Int) (W : World) : CCalls Try.prog 21 #[.int .i64 p, .int .i64 q, .int .i64 n] W fun v w' => v = .tuple #[.int .i64 (nrA p q n), .int .i64 (nrB p q n)] ∧ Bl W.heap.size W w' := by
  intro Fin cs hK
  have henter : Frame.enter Try.prog 21 #[.int .i64 p, .int .i64 q, .int .i64 n] .normal = ({ (default : Frame) with fn := 21, kind := .normal } : Frame).at ⟨#[.int .i64 p, .int .i64 q, .int .i64 n, undef, undef, undef, undef, undef, undef, undef, undef, undef, undef, undef, undef, undef, undef, undef, undef, undef, undef, undef, undef, undef, undef, undef, undef, undef, undef], []⟩ [.code nrtBody] := by
    simp [Frame.enter, Frame.at, Try.func21, nrtBody, Try.f21]
  rw [henter, nrtBody_eq]
  have leave := can_leave2 (cs := cs) Try.func21 (t := 6) (u := 7) (by simp [Try.f21]) hK
  refine Can.silent rfl (fun _ => stepG_seq) ?_
  refine (CWp.of (c := nrtC0) (R := fun e a' w => e = .normal ∧ a' = ⟨#[.int .i64 p, .int .i64 q, .int .i64 n, undef, undef, undef, .int .i64 0, .int .i64 0, undef, undef, undef, undef, undef, undef, undef, undef, undef, undef, undef, undef, undef, undef, undef, undef, undef, undef, undef, undef, undef], []⟩ ∧ Bl W.heap.size W w)
    closedS noEarlyS (by kernel_rfl) rfl (fun τ d => ?_) (fun e a w h => .inl h.1)) Fin _ _ cs rfl ?_
  · simp only [nrtC0, nrtBody, Try.f21, Option.getD_some]
    go_wp2_with fail
    exact ⟨rfl, rfl, rfl, Nat.le_refl _, fun _ _ => rfl⟩
  rintro e a' w0 ⟨τ0, d0, rfl, rfl, hb0⟩
  replace hb0 := hb0.un
  show Can Try.prog Fin (G (Frame.at _ _ (.code (.seq (.region 1 nrtOps1 false) nrtT2) :: [])) cs) w0
  refine Can.silent rfl (fun _ => stepG_seq) ?_
  refine Can.silent rfl (fun _ => stepG_region) ?_
  have hrange : List.range nrtOps1.size = [0, 1, 2, 3, 4] := by simp [nrtOps1, nrtT1, nrtBody, Try.f21, List.range, List.range.loop]
  rw [hrange]
  simp only [nrtOps1, nrtT1, nrtBody, Try.f21, Option.getD_some]
  refine Can.op rfl rfl rfl (fun _ => rfl) (fun _ => rfl) ?_
  refine Can.op rfl rfl rfl (fun _ => rfl) (fun _ => rfl) ?_
  refine Can.op rfl rfl rfl (fun _ => rfl) (fun _ => rfl) ?_
  walk_nrm
  refine Can.call rfl rfl rfl (run_direct rfl rfl Try.func33 mul_body mul_name (by simp [Act.eval])) (cMultiplesOf p q n w0) fun v w1 hR => ?_
  obtain ⟨hb1, ho, hnil⟩ := hR
  walk_nrm
  refine Can.op rfl rfl rfl (fun _ => rfl) (fun _ => rfl) ?_
  walk_nrm
  refine Can.silent rfl (fun _ => stepG_region_end) ?_
  have hb : Bl W.heap.size W w1 := hb0.trans (hb1.mono hb0.size)
  have hrest := fun τ d => nrt_rest p q n w0.heap.size v (.int .i64 p) (.int .i64 q) (.int .i64 n) v (tp w1 τ d) (own_tp ho τ d) hnil
  refine (CWp.of (R := fun e a' w => (e = .ret ∧ a'.defers = [] ∧ a'.tmps[6]? = some (.int .i64 (nrA p q n)) ∧ a'.tmps[7]? = some (.int .i64 (nrB p q n))) ∧ Bl W.heap.size W w) closedS noEarlyS (c := nrtT2) (by kernel_rfl) rfl (fun τ d => wp_mono (hrest τ d) (fun e a' w h => ⟨⟨h.1, h.2.1, h.2.2.1, h.2.2.2.1⟩, ?_⟩)) (fun e a w h => .inr h.1.1)) Fin _ _ cs rfl ?_
  · rw [← h.2.2.2.2]
    exact hb.trans ⟨rfl, rfl, rfl, Nat.le_refl _, fun _ _ => rfl⟩
  rintro e a' w2 ⟨τ2, d2, ⟨rfl, hd, hv, hv'⟩, hb2⟩
  exact fun todo => leave a' todo w2 _ _ hd hv hv' ⟨rfl, hb2.un⟩
theorem nrt_name : (Try.f21.name == "runtime.NumGoroutine") = false := by kernel_rfl
theorem nrt_body : Try.f21.body = some nrtBody := by simp only [nrtBody, Try.f21, Option.getD_some]
end Go.Proofs.Ytcdchieielpahaa
