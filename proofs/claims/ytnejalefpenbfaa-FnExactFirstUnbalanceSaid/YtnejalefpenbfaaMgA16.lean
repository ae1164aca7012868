/- Texts put together. -/
import Derived.Shelf.Small.Bits
import Derived.Shelf.Small.Wraps
import Derived.Shelf.Strconv.Itoa0
import Derived.Shelf.Strings.Search1
import Derived.Shelf.Strings.Search2
import Derived.Shelf.Strings.Search3
import Derived.Shelf.Strings.Count
import Derived.Shelf.LaysM
import Derived.Shelf.Strings.Shaped
import Derived.Shelf.Sort.Plain
import Derived.Shelf.Slices.CompactS
import Derived.Shelf.Slices.Cells
import Derived.Shelf.Slices.In.SortNone
import Derived.Test.YtnejalefpenbfaaProg
import Derived.Test.YtnejalefpenbfaaMgA15
import Derived.Laws.Cover1
import Derived.BigQuiet
import Derived.Test.YtnejalefpenbfaaMgA9
import Derived.Test.YtnejalefpenbfaaMgA13
import Derived.Test.YtnejalefpenbfaaMgA10
/-
  DERIVED: THE SHELF's CONTRACTS AT THIS DUMP, IN PLAIN WORDS (tools/lay-plain.mjs out of 'TryShelf.lean', which tools/lay-shelf.mjs wrote): THE SAME DECLARATIONS UNDER THE SAME NAMES: 'import', 'namespace', 'open', 'def', 'theorem' AND NOTHING ELSE: no command of the shelf's: FOR A HAND-IN. Each laying: the table of numbers ('.._ren') and one theorem, a field a fact of the dump's own or the kernel's comparison; each contract: ONE APPLICATION.
-/
namespace Go.Proofs
open Go.Shelf
def Try.lays122_ren : Go.Shelf.Ren := ⟨fun | 122 => 49 | 215 => 60 | n => n, fun | 3 => 3 | 4 => 4 | n => n, fun | n => n⟩
theorem Try.lays122 : Go.Proofs.Lays.n122 Try.prog Try.lays122_ren := {
  mixed := by kernel_rfl
  f122 := Try.func49.trans (congrArg some (by kernel_rfl))
  f215 := Try.func60.trans (congrArg some (by kernel_rfl))
  t3 := Try.underlying3
  a3 := Try.isAgg3
  z3 := Try.sizeOf3
  v3 := Try.zeroValue3
  t4 := Try.underlying4
  a4 := Try.isAgg4
  z4 := Try.sizeOf4
  v4 := Try.zeroValue4 }
open Go.RowKit in
/-- cmp.Compare at int: "Compare returns -1 if x is less than y, 0 if x equals y, +1 if x is greater than y.": IT RETURNS 'Lib.compareInt x y'; the world is as it was. (LAID: no walk: one application.) -/
theorem Try.cmp_Compare_int (x y : Int) (w : World) :
    Calls Try.prog 49 #[.int .i64 x, .int .i64 y] w fun e w' => e = .returned (.int .i64 (Lib.compareInt x y)) ∧ w' = w := Any.cmp_Compare_int Try.lays122 x y w
def Try.lays144_ren : Go.Shelf.Ren := ⟨fun | 144 => 55 | 143 => 59 | 219 => 63 | 217 => 66 | 225 => 67 | 224 => 68 | 267 => 69 | 266 => 81 | 314 => 82 | n => n, fun | 9 => 9 | 4 => 4 | 3 => 3 | 5 => 5 | 46 => 68 | 146 => 81 | 51 => 78 | n => n, fun | 1 => 0 | n => n⟩
theorem Try.lays144 : Go.Proofs.Lays.n144 Try.prog Try.lays144_ren := {
  mixed := by kernel_rfl
  f143 := Try.func59.trans (congrArg some (by kernel_rfl))
  f144 := Try.func55.trans (congrArg some (by kernel_rfl))
  f217 := Try.func66.trans (congrArg some (by kernel_rfl))
  f219 := Try.func63.trans (congrArg some (by kernel_rfl))
  f224 := Try.func68.trans (congrArg some (by kernel_rfl))
  f225 := Try.func67.trans (congrArg some (by kernel_rfl))
  f266 := Try.func81.trans (congrArg some (by kernel_rfl))
  f267 := Try.func69.trans (congrArg some (by kernel_rfl))
  f314 := Try.func82.trans (congrArg some (by kernel_rfl))
  t3 := Try.underlying3
  a3 := Try.isAgg3
  z3 := Try.sizeOf3
  v3 := Try.zeroValue3
  t4 := Try.underlying4
  a4 := Try.isAgg4
  z4 := Try.sizeOf4
  v4 := Try.zeroValue4
  t5 := Try.underlying5
  a5 := Try.isAgg5
  z5 := Try.sizeOf5
  v5 := Try.zeroValue5
  t9 := Try.underlying9
  a9 := Try.isAgg9
  z9 := Try.sizeOf9
  v9 := Try.zeroValue9
  t46 := Try.underlying68
  a46 := Try.isAgg68
  z46 := Try.sizeOf68
  v46 := Try.zeroValue68
  t51 := Try.underlying78
  a51 := Try.isAgg78
  z51 := Try.sizeOf78
  v51 := Try.zeroValue78
  t146 := Try.underlying81
  a146 := Try.isAgg81
  z146 := Try.sizeOf81
  v146 := Try.zeroValue81
  g1 := by kernel_rfl }
open Go.RowKit Go.Lib in
/-- strings.Contains: "Contains reports whether substr is within s.": IT RETURNS 'Lib.contains s substr'; the world is as it was. (LAID: no walk: one application.) -/
theorem Try.strings_Contains (s sub : ByteArray) (m : Int) (w : World) (hs : s.size < 4294967281) (hm : w.cell? ⟨0, 0, none⟩ = some (.int .i64 m)) :
    Calls Try.prog 55 #[.string s, .string sub] w fun e w' => e = .returned (.bool (Lib.contains s.data.toList sub.data.toList)) ∧ w' = w := Any.strings_Contains Try.lays144 s sub m w hs hm
def Try.lays138_ren : Go.Shelf.Ren := ⟨fun | 138 => 48 | 195 => 57 | 218 => 58 | 143 => 59 | 219 => 63 | 217 => 66 | 225 => 67 | 224 => 68 | 267 => 69 | 266 => 81 | 314 => 82 | n => n, fun | 9 => 9 | 3 => 3 | 4 => 4 | 5 => 5 | 0 => 0 | 46 => 68 | 146 => 81 | 51 => 78 | n => n, fun | 1 => 0 | n => n⟩
theorem Try.lays138 : Go.Proofs.Lays.n138 Try.prog Try.lays138_ren := {
  mixed := by kernel_rfl
  f138 := Try.func48.trans (congrArg some (by kernel_rfl))
  f143 := Try.func59.trans (congrArg some (by kernel_rfl))
  f195 := Try.func57.trans (congrArg some (by kernel_rfl))
  f217 := Try.func66.trans (congrArg some (by kernel_rfl))
  f218 := Try.func58.trans (congrArg some (by kernel_rfl))
  f219 := Try.func63.trans (congrArg some (by kernel_rfl))
  f224 := Try.func68.trans (congrArg some (by kernel_rfl))
  f225 := Try.func67.trans (congrArg some (by kernel_rfl))
  f266 := Try.func81.trans (congrArg some (by kernel_rfl))
  f267 := Try.func69.trans (congrArg some (by kernel_rfl))
  f314 := Try.func82.trans (congrArg some (by kernel_rfl))
  t0 := Try.underlying0
  a0 := Try.isAgg0
  z0 := Try.sizeOf0
  v0 := Try.zeroValue0
  t3 := Try.underlying3
  a3 := Try.isAgg3
  z3 := Try.sizeOf3
  v3 := Try.zeroValue3
  t4 := Try.underlying4
  a4 := Try.isAgg4
  z4 := Try.sizeOf4
  v4 := Try.zeroValue4
  t5 := Try.underlying5
  a5 := Try.isAgg5
  z5 := Try.sizeOf5
  v5 := Try.zeroValue5
  t9 := Try.underlying9
  a9 := Try.isAgg9
  z9 := Try.sizeOf9
  v9 := Try.zeroValue9
  t46 := Try.underlying68
  a46 := Try.isAgg68
  z46 := Try.sizeOf68
  v46 := Try.zeroValue68
  t51 := Try.underlying78
  a51 := Try.isAgg78
  z51 := Try.sizeOf78
  v51 := Try.zeroValue78
  t146 := Try.underlying81
  a146 := Try.isAgg81
  z146 := Try.sizeOf81
  v146 := Try.zeroValue81
  g1 := by kernel_rfl }
open Go.RowKit Go.Lib in
/-- strings.Count AT A substr OF ONE BYTE ('hp'): "Count counts the number of non-overlapping instances of substr in s.": IT RETURNS 'Lib.countByte s (that byte)'; the world is as it was. ✋ NO CONTRACT HERE YET at an empty substr (utf8.RuneCountInString) or at a longer one (a loop over strings.Index). (LAID: no walk: one application.) -/
theorem Try.strings_Count_one (s : ByteArray) (c : UInt8) (w : World) :
    Calls Try.prog 48 #[.string s, .string ⟨#[c]⟩] w fun e w' => e = .returned (.int .i64 (Lib.countByte s.data.toList c)) ∧ w' = w := Any.strings_Count_one Try.lays138 s c w
def Try.laysM144_ren : Go.Shelf.Ren := ⟨fun | 144 => 55 | 143 => 59 | 219 => 63 | 217 => 66 | 225 => 67 | 224 => 68 | 267 => 69 | 266 => 81 | 314 => 82 | n => n, fun | 9 => 9 | 4 => 4 | 3 => 3 | 5 => 5 | 46 => 68 | 146 => 81 | 51 => 78 | n => n, fun | 1 => 0 | n => n⟩
theorem Try.laysM144 : Go.Proofs.LaysM.n144 Try.prog Try.laysM144_ren := {
  mixed := by kernel_rfl
  f143 := Try.func59.trans (congrArg some (by kernel_rfl))
  f144 := Try.func55.trans (congrArg some (by kernel_rfl))
  f217 := Try.func66.trans (congrArg some (by kernel_rfl))
  f219 := Try.func63.trans (congrArg some (by kernel_rfl))
  f224 := Try.func68.trans (congrArg some (by kernel_rfl))
  f225 := Try.func67.trans (congrArg some (by kernel_rfl))
  f266 := Try.func81.trans (congrArg some (by kernel_rfl))
  f267 := Try.func69.trans (congrArg some (by kernel_rfl))
  f314 := Try.func82.trans (congrArg some (by kernel_rfl))
  t3 := Try.underlying3
  a3 := Try.isAgg3
  z3 := Try.sizeOf3
  v3 := Try.zeroValue3
  t4 := Try.underlying4
  a4 := Try.isAgg4
  z4 := Try.sizeOf4
  v4 := Try.zeroValue4
  t5 := Try.underlying5
  a5 := Try.isAgg5
  z5 := Try.sizeOf5
  v5 := Try.zeroValue5
  t9 := Try.underlying9
  a9 := Try.isAgg9
  z9 := Try.sizeOf9
  v9 := Try.zeroValue9
  t46 := Try.underlying68
  a46 := Try.isAgg68
  z46 := Try.sizeOf68
  v46 := Try.zeroValue68
  t51 := Try.underlying78
  a51 := Try.isAgg78
  z51 := Try.sizeOf78
  v51 := Try.zeroValue78
  t146 := Try.underlying81
  a146 := Try.isAgg81
  z146 := Try.sizeOf81
  v146 := Try.zeroValue81
  g1 := by kernel_rfl
  i3 := by kernel_rfl
  i4 := by kernel_rfl
  i5 := by kernel_rfl
  i9 := by kernel_rfl
  i46 := by kernel_rfl
  i51 := by kernel_rfl
  i146 := by kernel_rfl
  m1 := by kernel_rfl
  s1_3 := fun w h => Go.Proofs.cell_of_shapedOpen_int (zero := #[.int .i64 0]) (t := 3) h (of_decide_eq_true (by kernel_rfl)) (by kernel_rfl) rfl (by kernel_rfl) (by kernel_rfl) Try.underlying3 }
def Try.lays190_ren : Go.Shelf.Ren := ⟨fun | 190 => 61 | 125 => 65 | 258 => 64 | 128 => 79 | 129 => 80 | 302 => 70 | 303 => 71 | 304 => 72 | 305 => 73 | 306 => 74 | 307 => 75 | 308 => 76 | 309 => 77 | 310 => 78 | 333 => 83 | 329 => 84 | 330 => 85 | 334 => 86 | 335 => 87 | 336 => 88 | 344 => 89 | n => n, fun | 31 => 50 | 9 => 9 | 3 => 3 | 46 => 68 | 0 => 0 | 51 => 78 | 53 => 80 | 4 => 4 | 183 => 71 | 182 => 70 | 131 => 75 | 5 => 5 | 218 => 83 | 222 => 87 | 228 => 89 | 229 => 23 | n => n, fun | n => n⟩
theorem Try.lays190 : Go.Proofs.Lays.n190 Try.prog Try.lays190_ren := {
  mixed := by kernel_rfl
  f125 := Try.func65.trans (congrArg some (by kernel_rfl))
  f128 := Try.func79.trans (congrArg some (by kernel_rfl))
  f129 := Try.func80.trans (congrArg some (by kernel_rfl))
  f190 := Try.func61.trans (congrArg some (by kernel_rfl))
  f258 := Try.func64.trans (congrArg some (by kernel_rfl))
  f302 := Try.func70.trans (congrArg some (by kernel_rfl))
  f303 := Try.func71.trans (congrArg some (by kernel_rfl))
  f304 := Try.func72.trans (congrArg some (by kernel_rfl))
  f305 := Try.func73.trans (congrArg some (by kernel_rfl))
  f306 := Try.func74.trans (congrArg some (by kernel_rfl))
  f307 := Try.func75.trans (congrArg some (by kernel_rfl))
  f308 := Try.func76.trans (congrArg some (by kernel_rfl))
  f309 := Try.func77.trans (congrArg some (by kernel_rfl))
  f310 := Try.func78.trans (congrArg some (by kernel_rfl))
  f329 := Try.func84.trans (congrArg some (by kernel_rfl))
  f330 := Try.func85.trans (congrArg some (by kernel_rfl))
  f333 := Try.func83.trans (congrArg some (by kernel_rfl))
  f334 := Try.func86.trans (congrArg some (by kernel_rfl))
  f335 := Try.func87.trans (congrArg some (by kernel_rfl))
  f336 := Try.func88.trans (congrArg some (by kernel_rfl))
  f344 := Try.func89.trans (congrArg some (by kernel_rfl))
  t0 := Try.underlying0
  a0 := Try.isAgg0
  z0 := Try.sizeOf0
  v0 := Try.zeroValue0
  t3 := Try.underlying3
  a3 := Try.isAgg3
  z3 := Try.sizeOf3
  v3 := Try.zeroValue3
  t4 := Try.underlying4
  a4 := Try.isAgg4
  z4 := Try.sizeOf4
  v4 := Try.zeroValue4
  t5 := Try.underlying5
  a5 := Try.isAgg5
  z5 := Try.sizeOf5
  v5 := Try.zeroValue5
  t9 := Try.underlying9
  a9 := Try.isAgg9
  z9 := Try.sizeOf9
  v9 := Try.zeroValue9
  t31 := Try.underlying50
  a31 := Try.isAgg50
  z31 := Try.sizeOf50
  v31 := Try.zeroValue50
  t46 := Try.underlying68
  a46 := Try.isAgg68
  z46 := Try.sizeOf68
  v46 := Try.zeroValue68
  t51 := Try.underlying78
  a51 := Try.isAgg78
  z51 := Try.sizeOf78
  v51 := Try.zeroValue78
  t53 := Try.underlying80
  a53 := Try.isAgg80
  z53 := Try.sizeOf80
  v53 := Try.zeroValue80
  t131 := Try.underlying75
  a131 := Try.isAgg75
  z131 := Try.sizeOf75
  v131 := Try.zeroValue75
  t182 := Try.underlying70
  a182 := Try.isAgg70
  z182 := Try.sizeOf70
  v182 := Try.zeroValue70
  t183 := Try.underlying71
  a183 := Try.isAgg71
  z183 := Try.sizeOf71
  v183 := Try.zeroValue71
  t218 := Try.underlying83
  a218 := Try.isAgg83
  z218 := Try.sizeOf83
  v218 := Try.zeroValue83
  t222 := Try.underlying87
  a222 := Try.isAgg87
  z222 := Try.sizeOf87
  v222 := Try.zeroValue87
  t228 := Try.underlying89
  a228 := Try.isAgg89
  z228 := Try.sizeOf89
  v228 := Try.zeroValue89
  t229 := Try.underlying23
  a229 := Try.isAgg23
  z229 := Try.sizeOf23
  v229 := Try.zeroValue23 }
open Go.Sort Go.RowKit in
theorem Try.slices_Sort_string (blk off cap : Nat) (ss : List (List UInt8)) (w : World) (hH : Holds encStr w blk off ss.toArray) (hblk : blk < w.heap.size) (hsz : ss.length < 4611686018427387904) :
    Calls Try.prog 61 #[.slice (some ⟨blk, off, none⟩) ss.length cap] w fun e w' =>
      e = .returned (.tuple #[]) ∧ ∃ n os, w' = grow (putRow encStr (Sort.ahead w n) blk off (ss.mergeSort fun x y => decide (x ≤ y)).toArray) os := Any.slices_Sort_string Try.lays190 blk off cap ss w hH hblk hsz
def Try.lays194_ren : Go.Shelf.Ren := ⟨fun | 194 => 62 | n => n, fun | 31 => 50 | 9 => 9 | 3 => 3 | 4 => 4 | 0 => 0 | n => n, fun | n => n⟩
theorem Try.lays194 : Go.Proofs.Lays.n194 Try.prog Try.lays194_ren := {
  mixed := by kernel_rfl
  f194 := Try.func62.trans (congrArg some (by kernel_rfl))
  t0 := Try.underlying0
  a0 := Try.isAgg0
  z0 := Try.sizeOf0
  v0 := Try.zeroValue0
  t3 := Try.underlying3
  a3 := Try.isAgg3
  z3 := Try.sizeOf3
  v3 := Try.zeroValue3
  t4 := Try.underlying4
  a4 := Try.isAgg4
  z4 := Try.sizeOf4
  v4 := Try.zeroValue4
  t9 := Try.underlying9
  a9 := Try.isAgg9
  z9 := Try.sizeOf9
  v9 := Try.zeroValue9
  t31 := Try.underlying50
  a31 := Try.isAgg50
  z31 := Try.sizeOf50
  v31 := Try.zeroValue50 }
open Go.RowKit Go.Lib Go.Sort in
/-- slices.Compact at []string: "Compact replaces consecutive runs of equal elements with a single copy. This is like the uniq command found on Unix. Compact modifies the contents of the slice s and returns the modified slice, which may have a smaller length. Compact zeroes the elements between the new length and the original length. The result preserves the nilness of s.": IT RETURNS THE SLICE CUT TO 'Lib.compact zs'; ITS CELLS HOLD 'Lib.compact zs', THEN ZERO VALUES up to the old length; all else is as it was, but for the count of draws. IN THE WORDS OF slices.Sort's CONTRACT ('Holds', 'putRow'): so the everyday 'slices.Sort(xs); xs = slices.Compact(xs)' goes from the one contract to the other. It asks 'zs.length ≤ cap' (every slice's: the reslicing 's[:k]' looks at it). Length 0, nil: '.._empty'. (LAID: no walk: one application.) -/
theorem Try.slices_Compact_string (blk off cap : Nat) (zs : List (List UInt8)) (w : World) (hH : Holds encStr w blk off zs.toArray) (hsz : zs.length ≤ 9223372036854775807) (hcap : zs.length ≤ cap) :
    Calls Try.prog 62 #[.slice (some ⟨blk, off, none⟩) zs.length cap] w fun e w' => e = .returned (.slice (some ⟨blk, off, none⟩) (Lib.compact zs).length cap) ∧ ∃ q, w' = putRow encStr (Sort.ahead w q) blk off (Lib.compact zs ++ List.replicate (zs.length - (Lib.compact zs).length) []).toArray := Any.slices_Compact_string Try.lays194 blk off cap zs w hH hsz hcap
end Go.Proofs

/- The program's IsBinary, spread, SpreadOf, unbalancedLength, IsBalanced. Conditions: lengths of at most 2^20. -/
namespace Go.Proofs.Ytnejalefpenbfaa
open Go.RowKit Go.Lib

theorem txt_upto {P : Program} {t : TypeId} (ht : P.underlying t = some .string) (s : ByteArray) (b : Int) (y : Nat) (w : World) (hb : b = y) (h : y ≤ s.size) :
    (Instr.slice t (.string s) none (some (.int .i64 b)) none).run P w = .ok (.string (s.extract 0 y)) w := by
  subst hb
  rw [run_slice_string_to_if (P := P) w t s .i64 (y : Int) ht, if_pos (by omega)]
  rfl

set_option maxHeartbeats 400000 in
theorem implIsBinary (s : ByteArray) (w : World) (hs : s.size ≤ 1048576) :
    Calls Try.prog 12 #[.string s] w fun e w' => e = .returned (.bool (binB s)) ∧ Below w.heap.size w w' := by
  have HH := Lib.hid (fun w => implHasFirst 2 s w (by decide) hs)
  have HV : Hid ((wordB s && withinB 2 s) = binB s) := rfl
  generalize (wordB s && withinB 2 s) = b at *
  go_enter Try.func12, Try.ntmps12
  go_wp2_with fail
  refine (HH.out _).mono ?_
  rintro e w' ⟨rfl, hb⟩
  have HB := Lib.hid hb
  clear hb
  go_wp2_with fail
  go_ret
  exact ⟨ret_bool HV.out, HB.out⟩

theorem letterAtQ (n j : Int) (w : World) (h : n = 97 + j) (h1 : 0 ≤ j) (h2 : j ≤ 3) :
    Calls Try.prog 46 #[.int .u8 n] w fun e w' => e = .returned (.int .i64 j) ∧ w' = w :=
  (letterAt n j w h h1 h2).mono fun _ _ h => ⟨h.1, h.2.symm⟩
theorem bin_at {s : ByteArray} (h : binB s = true) (k : Nat) (hk : k < s.size) : (s[k].toNat : Int) = 97 + ((bX s k).toNat : Int) := by
  unfold binB at h
  rw [Bool.and_eq_true] at h
  obtain ⟨h1, h2⟩ := word_at h.1 k hk
  have h3 : s[k].toNat < 99 := by
    have hm : s[k] ∈ s.data.toList := by
      have := at_list s k hk
      exact List.mem_of_getElem? this
    have := List.all_eq_true.1 h.2 _ hm
    simpa using this
  unfold bX
  rw [at_list s k hk]
  by_cases e : s[k] = 98
  · rw [e]; rfl
  · have h5 : s[k].toNat ≠ 98 := fun e2 => e (UInt8.toNat.inj e2)
    have h4 : (some s[k] == some (98 : UInt8)) = false := by rw [beq_eq_false_iff_ne]; exact fun h => e (Option.some.inj h)
    rw [h4]
    have : false.toNat = 0 := rfl
    omega
theorem cb_slide (x : Nat → Bool) (k n : Nat) : cbN x (k + 1) n + (x k).toNat = cbN x k n + (x (k + n)).toNat := by
  have h1 := cb_cons x k n
  have h2 : cbN x k (n + 1) = cbN x k n + (x (k + n)).toNat := rfl
  omega

set_option maxRecDepth 100000 in
set_option maxHeartbeats 1000000 in
theorem implSpread (s : ByteArray) (n : Nat) (w : World) (hb : binB s = true) (hn : 1 ≤ n ∧ n ≤ s.size) :
    Calls Try.prog 32 #[.string s, .int .i64 (n : Int)] w fun e w' => e = .returned (.tuple #[.int .i64 (lwN s n : Int), .int .i64 (hgN s n : Int)]) ∧ ∃ m, w' = w.drewN m := by
  obtain ⟨hn1, hn2⟩ := hn
  have hs4 : s.size ≤ 400 := word_size (bin_word hb)
  have HL : Hid (lwN s n = spLo s n (s.size - n + 1)) := by show _ = _; unfold lwN; congr 1; omega
  have HH : Hid (hgN s n = spHi s n (s.size - n + 1)) := by show _ = _; unfold hgN; congr 1; omega
  have HLE := Lib.hid (sp_le s n)
  have HLN : Hid (∀ k, spLo s n (k + 1) = min (spLo s n k) (cbN (bX s) k n)) := fun k => rfl
  have HHN : Hid (∀ k, spHi s n (k + 1) = max (spHi s n k) (cbN (bX s) k n)) := fun k => rfl
  have HL0 : Hid (spLo s n (0 + 1) = cbN (bX s) 0 n) := by
    have := cb_le (bX s) 0 n
    show min n (cbN (bX s) 0 n) = cbN (bX s) 0 n
    omega
  have HH0 : Hid (spHi s n (0 + 1) = cbN (bX s) 0 n) := by show max 0 (cbN (bX s) 0 n) = cbN (bX s) 0 n; omega
  have HCL : Hid (∀ k, cbN (bX s) k n ≤ n) := fun k => cb_le (bX s) k n
  have HSL := Lib.hid (fun k => cb_slide (bX s) k n)
  have HAT := Lib.hid (fun k h => bin_at hb k h)
  have hsl : ∀ w : World, (Instr.slice 37 (.string s) none (some (.int .i64 (n : Int))) none).run Try.prog w = .ok (.string (s.extract 0 n)) w := fun w => txt_upto Try.underlying37 s _ n w rfl (by omega)
  have HC := Lib.hid (fun w => (Try.strings_Count_one (s.extract 0 n) 98 w).mono (R' := fun e w' => e = .returned (.int .i64 (Lib.countByte (s.extract 0 n).data.toList 98)) ∧ w = w') (fun _ _ h => ⟨h.1, h.2.symm⟩))
  have hcc : Lib.countByte (s.extract 0 n).data.toList 98 = cbN (bX s) 0 n := by
    have := cnt_cb s 0 n (by omega)
    rw [Nat.zero_add] at this
    exact this
  rw [hcc] at HC
  clear hcc hb
  generalize s.extract 0 n = x0 at *
  generalize spLo s n = lo at *
  generalize spHi s n = hi at *
  generalize lwN s n = ra at *
  generalize hgN s n = rb at *
  generalize hX : bX s = X at *
  generalize hCf : (fun k => cbN X k n) = C at *
  have hCe : ∀ k, cbN X k n = C k := fun k => congrFun hCf k
  simp only [hCe] at HLN HHN HL0 HH0 HCL HSL HC
  clear hCe hCf hX
  go_enter Try.func32, Try.ntmps32
  go_wp2_with fail
  refine (HC.out _).mono ?_
  rintro e w' ⟨rfl, rfl⟩
  go_wp2_with fail
  go_loopw [6, 7, 8, 20] (fun nv lv hv iv w' => ∃ (k a b : Nat), k ≤ s.size - n ∧ a = lo (k + 1) ∧ b = hi (k + 1) ∧ nv = .int .i64 (C k : Int) ∧ lv = .int .i64 (a : Int) ∧ hv = .int .i64 (b : Int) ∧ iv = .int .i64 (k : Int) ∧ ∃ m, w' = w.drewN m) (fun _ _ _ iv _ => s.size - n - (intOf iv).toNat)
  case atStart => exact ⟨0, C 0, C 0, Nat.zero_le _, HL0.out.symm, HH0.out.symm, rfl, rfl, rfl, rfl, 0, rfl⟩
  case round =>
    obtain ⟨k, a, b, hk, ha, hb, rfl, rfl, rfl, rfl, m, hm⟩ := hrel
    have HM := Lib.hid hm
    clear hm
    have hab : a ≤ n ∧ b ≤ n := by rw [ha, hb]; exact HLE.out (k + 1)
    have HA := Lib.hid ha
    have HB := Lib.hid hb
    clear ha hb
    by_cases hlt : k < s.size - n
    · have hlt' : (k : Int) < (s.size : Int) - (n : Int) := by omega
      have hs0 := HSL.out k
      have hc0 := HCL.out k
      have hc1 := HCL.out (k + 1)
      have hk1 : k < s.size := by omega
      have hk2 : k + n < s.size := by omega
      have ha0 := HAT.out k hk1
      have ha1 := HAT.out (k + n) hk2
      have HLX := Lib.hid (HLN.out (k + 1))
      have HHX := Lib.hid (HHN.out (k + 1))
      rw [← HA.out] at HLX
      rw [← HB.out] at HHX
      have t0 : (X k).toNat ≤ 1 := Bool.toNat_le _
      have t1 : (X (k + n)).toNat ≤ 1 := Bool.toNat_le _
      have hi0 : ∀ w : World, (Instr.index 37 (.string s) (.int .i64 (k : Int))).run Try.prog w = .ok (.int .u8 ((s[k]'hk1).toNat : Int)) w := fun w => index_at Try.underlying37 s k k w (by omega) rfl
      have hi1 : ∀ w : World, (Instr.index 37 (.string s) (.int .i64 ((k : Int) + (n : Int)))).run Try.prog w = .ok (.int .u8 ((s[k + n]'hk2).toNat : Int)) w := fun w => index_at Try.underlying37 s _ (k + n) w (by omega) (by omega)
      have HI0 := Lib.hid (fun w => letterAtQ ((s[k]'hk1).toNat : Int) ((X k).toNat : Int) w ha0 (by omega) (by omega))
      have HI1 := Lib.hid (fun w => letterAtQ ((s[k + n]'hk2).toNat : Int) ((X (k + n)).toNat : Int) w ha1 (by omega) (by omega))
      generalize ((s[k]'hk1).toNat : Int) = c0 at *
      generalize ((s[k + n]'hk2).toNat : Int) = c1 at *
      generalize (X k).toNat = d0 at *
      generalize (X (k + n)).toNat = d1 at *
      have e1 : IntKind.i64.wrap ((k : Int) + (n : Int)) = (k : Int) + (n : Int) := IntWalk.i64_in _ (by omega)
      have e2 : IntKind.i64.wrap ((d1 : Int) - (d0 : Int)) = (d1 : Int) - (d0 : Int) := IntWalk.i64_in _ (by omega)
      have e3 : IntKind.i64.wrap ((C k : Int) + ((d1 : Int) - (d0 : Int))) = (C (k + 1) : Int) := by rw [IntWalk.i64_in _ (by omega)]; omega
      clear ha0 ha1
      go_wp2_with fail
      go_quiet (first
        | exact Calls.quiet_of_same (HI0.out _)
        | exact Calls.quiet_of_same (HI1.out _))
      go_wp2_with fail
      go_roundw
      case rel => exact ⟨k + 1, min a (C (k + 1)), max b (C (k + 1)), by omega, HLX.out.symm, HHX.out.symm, by first | rfl | (congr 1; omega), congrArg (Value.int .i64) (by omega), congrArg (Value.int .i64) (by omega), by go_num, m + nq, by rw [HM.out]; exact World.drewN_drewN _ _ _⟩
      case measure => simp [intOf]; omega
    · have hke : k = s.size - n := by omega
      have HRA : Hid (ra = a) := by show _ = _; rw [HL.out, HA.out, hke]
      have HRB : Hid (rb = b) := by show _ = _; rw [HH.out, HB.out, hke]
      have hlt' : ¬ (k : Int) < (s.size : Int) - (n : Int) := by omega
      clear hke
      go_wp2_with fail
      go_ret2
      exact ⟨by rw [HRA.out, HRB.out]; rfl, m, HM.out⟩

set_option maxHeartbeats 1000000 in
theorem implSpreadOf (s : ByteArray) (n : Int) (w : World) (hs : s.size ≤ 1048576) :
    Calls Try.prog 14 #[.string s, .int .i64 n] w fun e w' => e = .returned (.tuple #[.int .i64 (spA s n), .int .i64 (spB s n)]) ∧ Below w.heap.size w w' := by
  have HBI := Lib.hid (fun w => implIsBinary s w hs)
  cases hb : binB s
  · have HA : Hid (spA s n = -1) := if_neg (by unfold spOk; rw [hb, Bool.false_and]; decide)
    have HB : Hid (spB s n = -1) := if_neg (by unfold spOk; rw [hb, Bool.false_and]; decide)
    rw [hb] at HBI
    clear hb
    generalize spA s n = a at *
    generalize spB s n = b at *
    go_enter Try.func14, Try.ntmps14
    go_wp2_with fail
    refine (HBI.out _).mono ?_
    rintro e w' ⟨rfl, hb1⟩
    have HB1 := Lib.hid hb1
    clear hb1
    go_wp2_with fail
    go_ret2
    exact ⟨by rw [HA.out, HB.out]; rfl, HB1.out⟩
  rw [hb] at HBI
  by_cases h1 : n < 1
  · have HA : Hid (spA s n = -1) := if_neg (by unfold spOk; rw [decide_eq_false (show ¬ 1 ≤ n by omega), Bool.false_and, Bool.and_false]; decide)
    have HB : Hid (spB s n = -1) := if_neg (by unfold spOk; rw [decide_eq_false (show ¬ 1 ≤ n by omega), Bool.false_and, Bool.and_false]; decide)
    clear hb
    generalize spA s n = a at *
    generalize spB s n = b at *
    go_enter Try.func14, Try.ntmps14
    go_wp2_with fail
    refine (HBI.out _).mono ?_
    rintro e w' ⟨rfl, hb1⟩
    have HB1 := Lib.hid hb1
    clear hb1
    go_wp2_with fail
    go_ret2
    exact ⟨by rw [HA.out, HB.out]; rfl, HB1.out⟩
  by_cases h2 : (s.size : Int) < n
  · have HA : Hid (spA s n = -1) := if_neg (by unfold spOk; rw [decide_eq_false (show ¬ n ≤ s.size by omega), Bool.and_false, Bool.and_false]; decide)
    have HB : Hid (spB s n = -1) := if_neg (by unfold spOk; rw [decide_eq_false (show ¬ n ≤ s.size by omega), Bool.and_false, Bool.and_false]; decide)
    clear hb
    generalize spA s n = a at *
    generalize spB s n = b at *
    go_enter Try.func14, Try.ntmps14
    go_wp2_with fail
    refine (HBI.out _).mono ?_
    rintro e w' ⟨rfl, hb1⟩
    have HB1 := Lib.hid hb1
    clear hb1
    go_wp2_with fail
    go_ret2
    exact ⟨by rw [HA.out, HB.out]; rfl, HB1.out⟩
  obtain ⟨k, rfl⟩ : ∃ m : Nat, n = m := ⟨n.toNat, by omega⟩
  have hok : spOk s k = true := by unfold spOk; rw [hb, decide_eq_true (show (1 : Int) ≤ k by omega), decide_eq_true (show (k : Int) ≤ s.size by omega)]; rfl
  have HA : Hid (spA s k = (lwN s k : Int)) := if_pos hok
  have HB : Hid (spB s k = (hgN s k : Int)) := if_pos hok
  have HS := Lib.hid (fun w => implSpread s k w hb ⟨by omega, by omega⟩)
  clear hb hok
  generalize spA s k = a at *
  generalize spB s k = b at *
  go_enter Try.func14, Try.ntmps14
  go_wp2_with fail
  refine (HBI.out _).mono ?_
  rintro e w1 ⟨rfl, hb1⟩
  have HB1 := Lib.hid hb1
  clear hb1
  go_wp2_with fail
  refine (HS.out _).mono ?_
  rintro e w2 ⟨rfl, m, hm⟩
  have HB2 : Hid (Below w.heap.size w w2) := by show Below _ _ _; rw [hm]; exact below_drewN HB1.out m
  clear hm
  go_wp2_with fail
  go_ret2
  exact ⟨by rw [HA.out, HB.out]; rfl, HB2.out⟩

/-- the least of the lengths 1 to k that show that the word is not balanced, 0 if there is none -/
def ubTo (s : ByteArray) : Nat → Nat
  | 0 => 0
  | k + 1 => if ubTo s k = 0 then (if lwN s (k + 1) + 1 < hgN s (k + 1) then k + 1 else 0) else ubTo s k
def ubN (s : ByteArray) : Nat := ubTo s s.size
theorem ub_zero (s : ByteArray) : ∀ k, ubTo s k = 0 ↔ blTo s k = true
  | 0 => ⟨fun _ => rfl, fun _ => rfl⟩
  | k + 1 => by
    have ih := ub_zero s k
    show (if ubTo s k = 0 then (if lwN s (k + 1) + 1 < hgN s (k + 1) then k + 1 else 0) else ubTo s k) = 0 ↔ (blTo s k && decide (hgN s (k + 1) ≤ lwN s (k + 1) + 1)) = true
    rw [Bool.and_eq_true, decide_eq_true_eq, ← ih]
    by_cases h : ubTo s k = 0
    · rw [if_pos h]
      by_cases h2 : lwN s (k + 1) + 1 < hgN s (k + 1)
      · rw [if_pos h2]; exact ⟨fun e => by omega, fun e => by omega⟩
      · rw [if_neg h2]; exact ⟨fun _ => ⟨h, by omega⟩, fun _ => rfl⟩
    · rw [if_neg h]; exact ⟨fun e => absurd e h, fun e => absurd e.1 h⟩
theorem ub_stay {s : ByteArray} {k : Nat} (h : ubTo s k ≠ 0) : ∀ j, ubTo s (k + j) = ubTo s k
  | 0 => rfl
  | j + 1 => by
    have ih := ub_stay h j
    show (if ubTo s (k + j) = 0 then _ else ubTo s (k + j)) = _
    rw [if_neg (by rw [ih]; exact h), ih]
theorem ub_found {s : ByteArray} {k : Nat} (h0 : ubTo s k = 0) (hk : k < s.size) (h : lwN s (k + 1) + 1 < hgN s (k + 1)) : ubN s = k + 1 := by
  have h1 : ubTo s (k + 1) = k + 1 := by
    show (if ubTo s k = 0 then (if lwN s (k + 1) + 1 < hgN s (k + 1) then k + 1 else 0) else ubTo s k) = k + 1
    rw [if_pos h0, if_pos h]
  have h2 := ub_stay (s := s) (k := k + 1) (by rw [h1]; omega) (s.size - (k + 1))
  rw [show k + 1 + (s.size - (k + 1)) = s.size by omega, h1] at h2
  exact h2
theorem ub_next {s : ByteArray} {k : Nat} (h0 : ubTo s k = 0) (h : ¬ lwN s (k + 1) + 1 < hgN s (k + 1)) : ubTo s (k + 1) = 0 := by
  show (if ubTo s k = 0 then (if lwN s (k + 1) + 1 < hgN s (k + 1) then k + 1 else 0) else ubTo s k) = 0
  rw [if_pos h0, if_neg h]

set_option maxRecDepth 100000 in
set_option maxHeartbeats 1000000 in
theorem implUnbalanced (s : ByteArray) (w : World) (hb : binB s = true) :
    Calls Try.prog 33 #[.string s] w fun e w' => e = .returned (.int .i64 (ubN s : Int)) ∧ ∃ m, w' = w.drewN m := by
  have hs4 : s.size ≤ 400 := word_size (bin_word hb)
  have HS := Lib.hid (fun k w (h : 1 ≤ k ∧ k ≤ s.size) => implSpread s k w hb h)
  have HF := Lib.hid (fun k a b c => ub_found (s := s) (k := k) a b c)
  have HN := Lib.hid (fun k a b => ub_next (s := s) (k := k) a b)
  have H0 : Hid (ubTo s 0 = 0) := rfl
  have HE : Hid (ubN s = ubTo s s.size) := rfl
  have HLE : Hid (∀ k, lwN s k ≤ k ∧ hgN s k ≤ k) := fun k => sp_le s k _
  clear hb
  generalize ubN s = r at *
  generalize ubTo s = U at *
  generalize lwN s = lo at *
  generalize hgN s = hi at *
  go_enter Try.func33, Try.ntmps33
  go_wp2_with fail
  go_loopw [9] (fun iv w' => ∃ k : Nat, k ≤ s.size ∧ iv = .int .i64 (k : Int) ∧ U k = 0 ∧ ∃ m, w' = w.drewN m) (fun iv _ => s.size - (intOf iv).toNat)
  case atStart => exact ⟨0, Nat.zero_le _, rfl, H0.out, 0, rfl⟩
  case round =>
    obtain ⟨k, hk, rfl, hu, m, hm⟩ := hrel
    have HU := Lib.hid hu
    have HM := Lib.hid hm
    clear hu hm
    by_cases hlt : k < s.size
    · have hlt' : (k : Int) < (s.size : Int) := by omega
      have HSK := Lib.hid (fun w => HS.out (k + 1) w ⟨by omega, by omega⟩)
      have ek : ((k + 1 : Nat) : Int) = (k : Int) + 1 := rfl
      rw [ek] at HSK
      have hle := HLE.out (k + 1)
      by_cases hc : lo (k + 1) + 1 < hi (k + 1)
      · have hr := HF.out k HU.out hlt hc
        have HR := Lib.hid hr
        clear hr
        generalize lo (k + 1) = x at *
        generalize hi (k + 1) = y at *
        have hd : (1 : Int) < (y : Int) - (x : Int) := by omega
        go_wp2_with fail
        refine (HSK.out _).mono ?_
        rintro e w2 ⟨rfl, m2, rfl⟩
        go_wp2_with fail
        go_ret
        exact ⟨ret_int (by rw [HR.out]; rfl), m + m2, by rw [HM.out]; exact World.drewN_drewN _ _ _⟩
      · have HR := Lib.hid (HN.out k HU.out hc)
        generalize lo (k + 1) = x at *
        generalize hi (k + 1) = y at *
        have hd : ¬ (1 : Int) < (y : Int) - (x : Int) := by omega
        go_wp2_with fail
        refine (HSK.out _).mono ?_
        rintro e w2 ⟨rfl, m2, rfl⟩
        go_wp2_with fail
        go_roundw
        case rel => exact ⟨k + 1, by omega, by go_num, HR.out, m + m2, by rw [HM.out]; exact World.drewN_drewN _ _ _⟩
        case measure => simp [intOf]; omega
    · have hke : k = s.size := by omega
      have HR : Hid (r = 0) := by show _ = _; rw [HE.out, ← hke]; exact HU.out
      have hlt' : ¬ (k : Int) < (s.size : Int) := by omega
      clear hke
      go_wp2_with fail
      go_ret
      exact ⟨ret_int (by rw [HR.out]; rfl), m, HM.out⟩

set_option maxHeartbeats 1000000 in
theorem implIsBalanced (s : ByteArray) (w : World) (hs : s.size ≤ 1048576) :
    Calls Try.prog 16 #[.string s] w fun e w' => e = .returned (.bool (balR s)) ∧ Below w.heap.size w w' := by
  have HBI := Lib.hid (fun w => implIsBinary s w hs)
  cases hb : binB s
  · have HV : Hid (balR s = false) := by show _ = _; unfold balR; rw [hb]; rfl
    rw [hb] at HBI
    clear hb
    generalize balR s = r at *
    go_enter Try.func16, Try.ntmps16
    go_wp2_with fail
    refine (HBI.out _).mono ?_
    rintro e w' ⟨rfl, hb1⟩
    have HB1 := Lib.hid hb1
    clear hb1
    go_wp2_with fail
    go_ret
    exact ⟨ret_bool HV.out.symm, HB1.out⟩
  rw [hb] at HBI
  have HU := Lib.hid (fun w => implUnbalanced s w hb)
  have HV : Hid (balR s = decide (ubN s = 0)) := by
    show _ = _
    unfold balR
    rw [hb, Bool.true_and, Bool.eq_iff_iff, decide_eq_true_eq]
    exact (ub_zero s s.size).symm
  clear hb
  generalize balR s = r at *
  generalize ubN s = u at *
  have hd : ((u : Int) == 0) = decide (u = 0) := by rw [Bool.eq_iff_iff, beq_iff_eq, decide_eq_true_eq]; omega
  go_enter Try.func16, Try.ntmps16
  go_wp2_with fail
  refine (HBI.out _).mono ?_
  rintro e w1 ⟨rfl, hb1⟩
  have HB1 := Lib.hid hb1
  clear hb1
  go_wp2_with fail
  refine (HU.out _).mono ?_
  rintro e w2 ⟨rfl, m, hm⟩
  have HB2 : Hid (Below w.heap.size w w2) := by show Below _ _ _; rw [hm]; exact below_drewN HB1.out m
  clear hm
  go_wp2_with fail
  go_ret
  exact ⟨ret_bool (by rw [HV.out]), HB2.out⟩
end Go.Proofs.Ytnejalefpenbfaa

/- Two periods of a word that is long enough have their greatest common divisor as a period. No program in it. -/
namespace Go.Proofs.Ytnejalefpenbfaa
open Go.RowKit

def PdF {α : Type} (f : Nat → α) (n p : Nat) : Prop := ∀ i, i + p < n → f i = f (i + p)
theorem pd_mul {α : Type} {f : Nat → α} {n g : Nat} (h : PdF f n g) : ∀ t i, i + t * g < n → f i = f (i + t * g)
  | 0, i, _ => by rw [Nat.zero_mul, Nat.add_zero]
  | t + 1, i, hi => by
    rw [Nat.succ_mul] at hi ⊢
    rw [pd_mul h t i (by omega), h (i + t * g) (by omega)]
    congr 1
    omega
theorem pd_less {α : Type} {f : Nat → α} {n p q : Nat} (hpq : p < q) (hp : PdF f n p) (hq : PdF f n q) : PdF f (n - p) p ∧ PdF f (n - p) (q - p) := by
  refine ⟨fun i hi => hp i (by omega), fun i hi => ?_⟩
  have h1 := hq i (by omega)
  have h2 := hp (i + (q - p)) (by omega)
  rw [h1, h2]
  congr 1
  omega
theorem pd_up {α : Type} {f : Nat → α} {n p g : Nat} (hg : 1 ≤ g) (hgp : g ∣ p) (hp1 : 1 ≤ p) (hn : p ≤ n - p) (hp : PdF f n p) (h : PdF f (n - p) g) : PdF f n g := by
  intro i hi
  obtain ⟨t, ht⟩ := hgp
  by_cases h1 : i + g < n - p
  · exact h i h1
  · have hle : g ≤ p := Nat.le_of_dvd (by omega) ⟨t, ht⟩
    by_cases h2 : p ≤ i
    · have e1 := hp (i - p) (by omega)
      have e2 := hp (i + g - p) (by omega)
      have e3 := h (i - p) (by omega)
      rw [Nat.sub_add_cancel h2] at e1
      rw [Nat.sub_add_cancel (by omega)] at e2
      rw [← e1, ← e2, e3]
      congr 1
      omega
    · have e2 := hp (i + g - p) (by omega)
      rw [Nat.sub_add_cancel (by omega)] at e2
      have ht1 : 1 ≤ t := by
        rcases Nat.eq_zero_or_pos t with e | e
        · rw [e, Nat.mul_zero] at ht; omega
        · exact e
      have hm : (t - 1) * g = p - g := by
        rw [Nat.sub_mul, Nat.one_mul, Nat.mul_comm t g, ← ht]
      have e3 := pd_mul h (t - 1) (i + g - p) (by rw [hm]; omega)
      rw [hm, show i + g - p + (p - g) = i by omega] at e3
      rw [← e2, e3]
theorem fine_wilf {α : Type} (f : Nat → α) : ∀ (s p q n : Nat), p + q ≤ s → 1 ≤ p → 1 ≤ q → p + q ≤ n + Nat.gcd p q → PdF f n p → PdF f n q → PdF f n (Nat.gcd p q)
  | 0, p, q, n, hs, h1, h2, _, _, _ => absurd hs (by omega)
  | s + 1, p, q, n, hs, h1, h2, hn, hp, hq => by
    by_cases he : p = q
    · subst he
      rw [Nat.gcd_self]
      exact hp
    · have key : ∀ p q : Nat, p + q ≤ s + 1 → 1 ≤ p → p < q → p + q ≤ n + Nat.gcd p q → PdF f n p → PdF f n q → PdF f n (Nat.gcd p q) := fun p q hs h1 hlt hn hp hq => by
        have hg : Nat.gcd p (q - p) = Nat.gcd p q := by
          rw [Nat.gcd_comm p (q - p), Nat.gcd_comm p q]
          conv => rhs; rw [← Nat.sub_add_cancel (Nat.le_of_lt hlt)]
          rw [Nat.gcd_add_self_left]
        have hg1 : 1 ≤ Nat.gcd p q := Nat.gcd_pos_of_pos_left _ (by omega)
        have hd1 := Nat.gcd_dvd_left p q
        have hd2 : Nat.gcd p q ∣ q - p := by rw [← hg]; exact Nat.gcd_dvd_right _ _
        have hle2 := Nat.le_of_dvd (by omega) hd2
        obtain ⟨l1, l2⟩ := pd_less hlt hp hq
        have ih := fine_wilf f s p (q - p) (n - p) (by omega) h1 (by omega) (by rw [hg]; omega) l1 l2
        rw [hg] at ih
        exact pd_up hg1 hd1 h1 (by omega) hp ih
      by_cases hlt : p < q
      · exact key p q hs h1 hlt hn hp hq
      · have := key q p (by omega) h2 (by omega) (by rw [Nat.gcd_comm]; omega) hq hp
        rwa [Nat.gcd_comm] at this
theorem per_pd (s : ByteArray) (p : Nat) : PerAt s p ↔ PdF (fun i => s.data.toList[i]?) s.size p := Iff.rfl
/-- two periods of a word -/
theorem per_fine {s : ByteArray} {p q : Nat} (h1 : 1 ≤ p) (h2 : 1 ≤ q) (hn : p + q ≤ s.size + Nat.gcd p q) (hp : PerAt s p) (hq : PerAt s q) : PerAt s (Nat.gcd p q) :=
  fine_wilf (fun i => s.data.toList[i]?) (p + q) p q s.size (Nat.le_refl _) h1 h2 hn hp hq
/-- AllPeriodsFine is so for any two periods -/
theorem af_yes {s : ByteArray} (hw : wordB s = true) {p q : Nat} (h1 : 1 ≤ p) (h2 : p ≤ s.size) (h3 : 1 ≤ q) (h4 : q ≤ s.size) (hp : PerAt s p) (hq : PerAt s q) : afR s p q = true := by
  unfold afR
  rw [hw, decide_eq_true (show (1 : Int) ≤ (p : Int) by omega), decide_eq_true (show (p : Int) ≤ (s.size : Int) by omega), decide_eq_true (show (1 : Int) ≤ (q : Int) by omega), decide_eq_true (show (q : Int) ≤ (s.size : Int) by omega), Int.toNat_natCast, Int.toNat_natCast, (perB_iff s p).2 hp, (perB_iff s q).2 hq]
  simp only [Bool.true_and]
  by_cases h : p + q ≤ s.size + Nat.gcd p q
  · rw [(perB_iff s _).2 (per_fine h1 h3 h hp hq), Bool.or_true]
  · rw [decide_eq_true (by omega), Bool.true_or]
end Go.Proofs.Ytnejalefpenbfaa

/- Chapter 8 of the model: GreatestExponent. Conditions: lengths of at most 2^20. -/
namespace Go.Proofs.Ytnejalefpenbfaa
open Go.RowKit Go.Lib

noncomputable def gexRow (s : ByteArray) (n : Nat) (y : Nat × Nat) : Nat → Nat × Nat
  | 0 => y
  | i + 1 => if (gexRow s n y i).1 * perN (s.extract i (i + n)) < n * (gexRow s n y i).2 then (n, perN (s.extract i (i + n))) else gexRow s n y i
/-- behind the factors of 1 to n + 1 letters: the length and the least period of the best -/
noncomputable def gexTo (s : ByteArray) : Nat → Nat × Nat
  | 0 => (1, 1)
  | n + 1 => gexRow s (n + 2) (gexTo s n) (s.size + 1 - (n + 2))
def gexOk (s : ByteArray) : Bool := wordB s && (decide (1 ≤ s.size) && decide (s.size ≤ 60))
/-- what GreatestExponent is to return -/
noncomputable def gexR (s : ByteArray) : Nat × Nat := if gexOk s = true then gexTo s (s.size - 1) else (0, 0)
theorem firstP_le {P : Nat → Prop} : ∀ (k p : Nat), p ≤ firstP P p k ∧ firstP P p k ≤ p + k
  | 0, p => ⟨Nat.le_refl _, Nat.le_refl _⟩
  | k + 1, p => by
    have := firstP_le (P := P) k (p + 1)
    unfold firstP
    split <;> omega
theorem perN_le (s : ByteArray) : 1 ≤ perN s ∧ perN s ≤ s.size + 1 := by
  have := firstP_le (P := PerAt s) s.size 1
  unfold perN
  omega
theorem gexRow_le (s : ByteArray) (n : Nat) (hn : n ≤ 60) (y : Nat × Nat) (hy : y.1 ≤ 61 ∧ y.2 ≤ 61) : ∀ i, (gexRow s n y i).1 ≤ 61 ∧ (gexRow s n y i).2 ≤ 61
  | 0 => hy
  | i + 1 => by
    have ih := gexRow_le s n hn y hy i
    unfold gexRow
    split
    · have := perN_le (s.extract i (i + n))
      have hz : (s.extract i (i + n)).size ≤ n := by rw [ByteArray.size_extract]; omega
      exact ⟨by show n ≤ 61; omega, by show perN _ ≤ 61; omega⟩
    · exact ih
theorem gexTo_le (s : ByteArray) : ∀ n, n ≤ 59 → (gexTo s n).1 ≤ 61 ∧ (gexTo s n).2 ≤ 61
  | 0, _ => ⟨by show 1 ≤ 61; omega, by show 1 ≤ 61; omega⟩
  | n + 1, h => gexRow_le s (n + 2) (by omega) _ (gexTo_le s n (by omega)) _
theorem gexRow_yes {s : ByteArray} {n i : Nat} {y : Nat × Nat} (h : (gexRow s n y i).1 * perN (s.extract i (i + n)) < n * (gexRow s n y i).2) : gexRow s n y (i + 1) = (n, perN (s.extract i (i + n))) := if_pos h
theorem gexRow_no {s : ByteArray} {n i : Nat} {y : Nat × Nat} (h : ¬ (gexRow s n y i).1 * perN (s.extract i (i + n)) < n * (gexRow s n y i).2) : gexRow s n y (i + 1) = gexRow s n y i := if_neg h
theorem mul_low {a b : Nat} (h1 : a ≤ 61) (h2 : b ≤ 61) : a * b ≤ 3721 := Nat.le_trans (Nat.mul_le_mul h1 h2) (by omega)

end Go.Proofs.Ytnejalefpenbfaa
