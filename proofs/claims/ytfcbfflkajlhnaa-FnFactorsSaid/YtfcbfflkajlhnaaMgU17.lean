/- Texts put together. -/
import Derived.Test.YtfcbfflkajlhnaaMgU16
import Derived.IntWalk
import Derived.BigRegion
import Derived.Deep.DeepCutAuto
import Derived.Deep.RegionWith
import Derived.Shelf.Small.Bits
import Derived.Shelf.Strconv.Itoa0
import Derived.Shelf.Strings.Search1
import Derived.Shelf.Strings.Search2
import Derived.Shelf.Strings.Search3
import Derived.Shelf.LaysM
import Derived.Shelf.Strings.Shaped
import Derived.Shelf.Sort.Plain
import Derived.Shelf.Slices.Turned
import Derived.Ground.Names2Prog
import Derived.Shelf.Slices.Clone
import Derived.Shelf.Slices.CompactS
import Derived.Shelf.Slices.Cells
import Derived.Shelf.Slices.In.SortNone
import Derived.Test.YtfcbfflkajlhnaaProg
/- Columns, products and marks of the program's squares. -/
namespace Go.Proofs.Ytfcbfflkajlhnaa
open Go.RowKit
/-- the sum of the first j products of row i of the square and the column -/
def dotF (f : Nat → Nat → Int) (c : Nat → Int) (i : Nat) : Nat → Int
  | 0 => 0
  | j + 1 => dotF f c i j + f i j * c j
/-- each number of the square from -100 to 100, each of the column of at most 10^13 -/
def Small (f : Nat → Nat → Int) (c : Nat → Int) : Prop := ∀ i j, i < 4 → j < 4 → -1000000000000000 ≤ f i j * c j ∧ f i j * c j ≤ 1000000000000000
theorem dotF_small {f : Nat → Nat → Int} {c : Nat → Int} (h : Small f c) (i : Nat) (hi : i < 4) : ∀ j : Nat, j ≤ 4 → -((j : Int) * 1000000000000000) ≤ dotF f c i j ∧ dotF f c i j ≤ (j : Int) * 1000000000000000
  | 0, _ => by simp [dotF]
  | j + 1, hj => by
    have ih := dotF_small h i hi j (by omega)
    have := h i j hi (by omega)
    unfold dotF
    omega
/-- the result's cells while row i is at column j -/
def dotR (f : Nat → Nat → Int) (c : Nat → Int) (i j : Nat) : Nat → Int := fun a => if a < i then dotF f c a 4 else if a = i then dotF f c i j else 0
theorem dotR_at (f : Nat → Nat → Int) (c : Nat → Int) (i j : Nat) : dotR f c i j i = dotF f c i j := by simp [dotR]
theorem dotR_succ (f : Nat → Nat → Int) (c : Nat → Int) (i j : Nat) : upd1 (dotR f c i j) i (dotF f c i j + f i j * c j) = dotR f c i (j + 1) := by
  funext a
  unfold upd1 dotR
  by_cases h : a = i
  · subst h; simp [dotF]
  · simp [h]
theorem dotR_next (f : Nat → Nat → Int) (c : Nat → Int) (i : Nat) : dotR f c i 4 = dotR f c (i + 1) 0 := by
  funext a
  unfold dotR
  by_cases h : a < i
  · rw [if_pos h, if_pos (by omega)]
  · by_cases h2 : a = i
    · subst h2; simp
    · rw [if_neg h, if_neg h2, if_neg (by omega)]
      split <;> rfl

set_option maxHeartbeats 400000 in
theorem implTimesColumn (n : Int) (f : Nat → Nat → Int) (c : Nat → Int) (hsm : Small f c) (w : World) :
    Calls Try.prog 74 #[.agg (sqA n f), .agg (rowA c)] w fun e w' => e = .returned (.agg (rowA fun i => dotF f c i 4)) ∧ Below w.heap.size w w' := by
  have h0 := Arr.made w w.heap.size 78 (sqA n f) (Nat.le_refl _) (by simp [sqA_size, maxLen])
  have HSM := Lib.hid hsm
  have H0 := Lib.hid h0
  clear hsm h0
  go_enter Try.func74, Try.ntmps74
  go_wp2_with (with_reducible refine load_part rfl 76 (.tmp 10) rfl w.heap.size 1 _ _ (sqA n f) (rowsA f) rfl (((H0.out.alloc _).alloc _).alloc _) 16 rows_ty rfl (rowPart n f) ?_)
  go_loopw [12] (fun i w' => ∃ k : Nat, k ≤ 4 ∧ i = .int .i64 k ∧ Arr w' w.heap.size 75 (w.heap.size + 1) (rowA c) ∧ Arr w' w.heap.size 75 (w.heap.size + 1 + 1) (rowA fun _ => 0) ∧ Arr w' w.heap.size 75 (w.heap.size + 1 + 1 + 1) (rowA (dotR f c k 0)) ∧ Below w.heap.size w w') (fun i _ => 4 - (intOf i).toNat)
  case atStart =>
    refine ⟨0, by omega, rfl, ?_, ?_, ?_, ((((Below.refl _ _).alloc (Nat.le_refl _) _).alloc (by simp) _).alloc (by simp; omega) _).alloc (by simp; omega) _⟩
    · have := ((Arr.made (w.alloc (.cells (sqA n f) 78)) w.heap.size 75 (rowA c) (by simp) (by simp [rowA_size, maxLen])).alloc (.cells (rowA fun _ => 0) 75)).alloc (.cells (rowA fun _ => 0) 75)
      simp only [World.size_alloc] at this
      exact this
    · have := (Arr.made ((w.alloc (.cells (sqA n f) 78)).alloc (.cells (rowA c) 75)) w.heap.size 75 (rowA fun _ => 0) (by simp; omega) (by simp [rowA_size, maxLen])).alloc (.cells (rowA fun _ => 0) 75)
      simp only [World.size_alloc] at this
      exact this
    · have := Arr.made (((w.alloc (.cells (sqA n f) 78)).alloc (.cells (rowA c) 75)).alloc (.cells (rowA fun _ => 0) 75)) w.heap.size 75 (rowA fun _ => 0) (by simp; omega) (by simp [rowA_size, maxLen])
      simp only [World.size_alloc] at this
      exact this
  case round =>
    obtain ⟨k, hk, rfl, hcol, hres, hout, hb⟩ := hrel
    obtain ⟨wo, rfl⟩ : ∃ x : World, x = wr := ⟨_, rfl⟩
    have HC := Lib.hid hcol
    have HR := Lib.hid hres
    have HO := Lib.hid hout
    have HB := Lib.hid hb
    clear hcol hres hout hb
    by_cases hlt : k < 4
    · go_wp2_with (first
        | (with_reducible refine index_rows rfl (.tmp 11) (.tmp 12) rfl f k rfl rfl hlt ?_)
        | (with_reducible refine store_new rfl 75 (.tmp 7) (.tmp 15) rfl wo.heap.size _ (rowA (f k)) rfl rfl rfl 4 row_ty rfl rfl (rowA_one _) ?_)
        | (with_reducible refine load_arr rfl 75 (.tmp 7) rfl wo.heap.size _ _ _ rfl (Arr.made wo _ _ _ (Nat.le_refl _) (by simp [rowA_size, maxLen])) 4 row_ty rfl ?_))
      have HC2 := Lib.hid (HC.out.alloc (.cells (rowA (f k)) 75))
      have HR2 := Lib.hid (HR.out.alloc (.cells (rowA (f k)) 75))
      have HO2 := Lib.hid (HO.out.alloc (.cells (rowA (f k)) 75))
      have HB2 := Lib.hid (HB.out.alloc HB.out.size (.cells (rowA (f k)) 75))
      go_loopw [17] (fun i w' => ∃ j : Nat, j ≤ 4 ∧ i = .int .i64 j ∧ Arr w' w.heap.size 75 (w.heap.size + 1) (rowA c) ∧ Arr w' w.heap.size 75 (w.heap.size + 1 + 1) (rowA fun _ => 0) ∧ Arr w' w.heap.size 75 (w.heap.size + 1 + 1 + 1) (rowA (dotR f c k j)) ∧ Below w.heap.size w w') (fun i _ => 4 - (intOf i).toNat)
      case atStart => exact ⟨0, by omega, rfl, HC2.out, HR2.out, HO2.out, HB2.out⟩
      case round =>
        obtain ⟨j, hj, rfl, hcol, hres, hout, hb⟩ := hrel
        obtain ⟨wi, rfl⟩ : ∃ x : World, x = wr := ⟨_, rfl⟩
        have HC := Lib.hid hcol
        have HR := Lib.hid hres
        have HO := Lib.hid hout
        have HB := Lib.hid hb
        by_cases hlt2 : j < 4
        · have g1 := hcol.cell _ _ (rowA_get c j hlt2)
          have g2 := hout.cell _ _ (rowA_get _ k hlt)
          rw [dotR_at] at g2
          have g3 := hout.frozen k
          obtain ⟨p1, p2⟩ := HSM.out k j hlt hlt2
          obtain ⟨p3, p4⟩ := dotF_small HSM.out k hlt j hj
          have e1 : IntKind.i64.wrap (f k j * c j) = f k j * c j := IntWalk.i64_in _ (by omega)
          have e2 : IntKind.i64.wrap (dotF f c k j + f k j * c j) = dotF f c k j + f k j * c j := IntWalk.i64_in _ (by omega)
          clear hcol hres hout hb p1 p2 p3 p4
          go_wp2_with (with_reducible refine index_row rfl 75 Try.underlying75 (.tmp 16) (.tmp 17) rfl (f k) j rfl rfl hlt2 ?_)
          go_region
          go_wp2
          go_roundw
          case rel =>
            refine ⟨j + 1, by omega, by go_num, HC.out.other (by simp <;> omega) _, HR.out.other (by simp <;> omega) _, HO.out.set k _ ?_, below_drew (HB.out.setCell (by simp <;> omega) _)⟩
            rw [rowA_set _ _ _ hlt, dotR_succ]
          case measure => simp [intOf]; omega
        · have hj4 : j = 4 := by omega
          subst hj4
          clear hcol hres hout hb
          go_wp2_with fail
          go_roundw
          case rel => exact ⟨k + 1, by omega, by go_num, HC.out, HR.out, by rw [← dotR_next]; exact HO.out, HB.out⟩
          case measure => simp [intOf]; omega
    · have hk4 : k = 4 := by omega
      subst hk4
      go_wp2_with (first
        | (with_reducible refine load_arr rfl 75 (.tmp 5) rfl (w.heap.size + 1 + 1 + 1) _ _ _ rfl HO.out 4 row_ty rfl ?_)
        | (with_reducible refine store_arr rfl 75 (.tmp 4) (.tmp 33) rfl (w.heap.size + 1 + 1) _ _ (rowA (dotR f c 4 0)) rfl rfl HR.out 4 row_ty rfl rfl (rowA_one _) ?_))
      exact post_arr 75 rfl rfl (HR.out.row (c' := rowA (dotR f c 4 0)) rfl) row_ty rfl rfl ⟨rfl, below_row HB.out (by omega) _⟩
end Go.Proofs.Ytfcbfflkajlhnaa

/- Marks of the program's squares, and the square of ones. -/
namespace Go.Proofs.Ytfcbfflkajlhnaa
open Go.RowKit

theorem build_sq (n : Int) (w : World) : (Instr.build 78 #[(0, .int .i64 n)]).run Try.prog w = .ok (.agg (sqA n fun _ _ => 0)) w := run_build w _ _ _ (by kernel_rfl)
theorem build_sq0 (w : World) : (Instr.build 78 #[]).run Try.prog w = .ok (.agg (sqA 0 fun _ _ => 0)) w := run_build w _ _ _ (by kernel_rfl)
theorem sqA_zero (n : Int) (f : Nat → Nat → Int) : (sqA n f)[0]? = some (.int .i64 n) := rfl
/-- the seventeen cells of a square, one by one -/
theorem Arr.cells17 {w : World} {B : Nat} {T : TypeId} {b : Nat} {n : Int} {f : Nat → Nat → Int} (h : Arr w B T b (sqA n f)) : w.cell? ⟨b, 0, none⟩ = some (.int .i64 n) ∧ w.cell? ⟨b, 1, none⟩ = some (.int .i64 (f 0 0)) ∧ w.cell? ⟨b, 2, none⟩ = some (.int .i64 (f 0 1)) ∧ w.cell? ⟨b, 3, none⟩ = some (.int .i64 (f 0 2)) ∧ w.cell? ⟨b, 4, none⟩ = some (.int .i64 (f 0 3)) ∧ w.cell? ⟨b, 5, none⟩ = some (.int .i64 (f 1 0)) ∧ w.cell? ⟨b, 6, none⟩ = some (.int .i64 (f 1 1)) ∧ w.cell? ⟨b, 7, none⟩ = some (.int .i64 (f 1 2)) ∧ w.cell? ⟨b, 8, none⟩ = some (.int .i64 (f 1 3)) ∧ w.cell? ⟨b, 9, none⟩ = some (.int .i64 (f 2 0)) ∧ w.cell? ⟨b, 10, none⟩ = some (.int .i64 (f 2 1)) ∧ w.cell? ⟨b, 11, none⟩ = some (.int .i64 (f 2 2)) ∧ w.cell? ⟨b, 12, none⟩ = some (.int .i64 (f 2 3)) ∧ w.cell? ⟨b, 13, none⟩ = some (.int .i64 (f 3 0)) ∧ w.cell? ⟨b, 14, none⟩ = some (.int .i64 (f 3 1)) ∧ w.cell? ⟨b, 15, none⟩ = some (.int .i64 (f 3 2)) ∧ w.cell? ⟨b, 16, none⟩ = some (.int .i64 (f 3 3)) :=
  ⟨h.cell 0 _ rfl, h.cell 1 _ rfl, h.cell 2 _ rfl, h.cell 3 _ rfl, h.cell 4 _ rfl, h.cell 5 _ rfl, h.cell 6 _ rfl, h.cell 7 _ rfl, h.cell 8 _ rfl, h.cell 9 _ rfl, h.cell 10 _ rfl, h.cell 11 _ rfl, h.cell 12 _ rfl, h.cell 13 _ rfl, h.cell 14 _ rfl, h.cell 15 _ rfl, h.cell 16 _ rfl⟩
/-- the square while column by column is laid: the columns before k, and of column k the numbers before i -/
def colsTo (D : Nat → Nat → Int) (k i : Nat) : Nat → Nat → Int := fun a c => if c < k ∨ (c = k ∧ a < i) then D a c else 0
theorem colsTo_succ (D : Nat → Nat → Int) (k i : Nat) : upd2 (colsTo D k i) i k (D i k) = colsTo D k (i + 1) := by
  funext a c
  unfold upd2 colsTo
  by_cases h : a = i ∧ c = k
  · obtain ⟨rfl, rfl⟩ := h
    simp
  · rw [if_neg h]
    have e : (c < k ∨ (c = k ∧ a < i)) ↔ (c < k ∨ (c = k ∧ a < i + 1)) := by omega
    simp only [e]
theorem colsTo_next (D : Nat → Nat → Int) (n : Int) (k : Nat) : sqA n (colsTo D k 4) = sqA n (colsTo D (k + 1) 0) := by
  refine sqA_congr fun a c ha hc => ?_
  unfold colsTo
  have e : (c < k ∨ (c = k ∧ a < 4)) ↔ (c < k + 1 ∨ (c = k + 1 ∧ a < 0)) := by omega
  simp only [e]
theorem colsTo_zero (D : Nat → Nat → Int) : colsTo D 0 0 = fun _ _ => 0 := by
  funext a c
  unfold colsTo
  rw [if_neg (by omega)]
theorem colsTo_end (D : Nat → Nat → Int) (n : Nat) : colsTo D n 0 = fun a c => if c < n then D a c else 0 := by
  funext a c
  unfold colsTo
  have e : (c < n ∨ (c = n ∧ a < 0)) ↔ c < n := by omega
  simp only [e]
/-- 1 for each number that is at least 1, else the number itself -/
def markF (f : Nat → Nat → Int) : Nat → Nat → Int := fun a c => if 1 < f a c then 1 else f a c
/-- the square while row by row is marked: the rows before i, and of row i the numbers before k -/
def rowsTo (D f : Nat → Nat → Int) (i k : Nat) : Nat → Nat → Int := fun a c => if a < i ∨ (a = i ∧ c < k) then D a c else f a c
theorem rowsTo_succ (D f : Nat → Nat → Int) (i k : Nat) : upd2 (rowsTo D f i k) i k (D i k) = rowsTo D f i (k + 1) := by
  funext a c
  unfold upd2 rowsTo
  by_cases h : a = i ∧ c = k
  · obtain ⟨rfl, rfl⟩ := h
    simp
  · rw [if_neg h]
    have e : (a < i ∨ (a = i ∧ c < k)) ↔ (a < i ∨ (a = i ∧ c < k + 1)) := by omega
    simp only [e]
theorem rowsTo_next (D f : Nat → Nat → Int) (n : Int) (i : Nat) : sqA n (rowsTo D f i 4) = sqA n (rowsTo D f (i + 1) 0) := by
  refine sqA_congr fun a c ha hc => ?_
  unfold rowsTo
  have e : (a < i ∨ (a = i ∧ c < 4)) ↔ (a < i + 1 ∨ (a = i + 1 ∧ c < 0)) := by omega
  simp only [e]
theorem rowsTo_zero (D f : Nat → Nat → Int) : rowsTo D f 0 0 = f := by
  funext a c
  unfold rowsTo
  rw [if_neg (by omega)]
theorem rowsTo_end (D f : Nat → Nat → Int) (n : Int) : sqA n (rowsTo D f 4 0) = sqA n D := by
  refine sqA_congr fun a c ha hc => ?_
  unfold rowsTo
  rw [if_pos (by omega)]

/-- 1 in the first n rows and columns -/
def onesF (n : Nat) : Nat → Nat → Int := fun a c => if a < n ∧ c < n then 1 else 0
def colOne (n : Nat) : Nat → Nat → Int := fun _ c => if c < n then 1 else 0
theorem ones_next (n i : Nat) : sqA n (rowsTo (colOne n) (fun _ _ => 0) i n) = sqA n (rowsTo (colOne n) (fun _ _ => 0) (i + 1) 0) := by
  refine sqA_congr fun a c ha hc => ?_
  unfold rowsTo colOne
  by_cases h : c < n
  · have e : (a < i ∨ (a = i ∧ c < n)) ↔ (a < i + 1 ∨ (a = i + 1 ∧ c < 0)) := by omega
    simp only [e]
  · rw [if_neg h]
    simp
theorem ones_end (n : Nat) : rowsTo (colOne n) (fun _ _ => 0) n 0 = onesF n := by
  funext a c
  unfold rowsTo onesF colOne
  by_cases h : c < n
  · have e : (a < n ∨ (a = n ∧ c < 0)) ↔ (a < n ∧ c < n) := by omega
    simp only [e, if_pos h]
  · rw [if_neg h, if_neg (by omega : ¬ (a < n ∧ c < n))]
    simp

end Go.Proofs.Ytfcbfflkajlhnaa

/-
  DERIVED: THE SHELF's CONTRACTS AT THIS DUMP, IN PLAIN WORDS (tools/lay-plain.mjs out of 'TryShelf.lean', which tools/lay-shelf.mjs wrote): THE SAME DECLARATIONS UNDER THE SAME NAMES: 'import', 'namespace', 'open', 'def', 'theorem' AND NOTHING ELSE: no command of the shelf's: FOR A HAND-IN. Each laying: the table of numbers ('.._ren') and one theorem, a field a fact of the dump's own or the kernel's comparison; each contract: ONE APPLICATION.
-/
namespace Go.Proofs
open Go.Shelf
def Try.lays144_ren : Go.Shelf.Ren := ⟨fun | 144 => 92 | 143 => 121 | 219 => 139 | 217 => 148 | 225 => 149 | 224 => 150 | 267 => 151 | 266 => 155 | 314 => 156 | n => n, fun | 9 => 9 | 4 => 4 | 3 => 3 | 5 => 5 | 46 => 122 | 146 => 156 | 51 => 140 | n => n, fun | 1 => 0 | n => n⟩
theorem Try.lays144 : Go.Proofs.Lays.n144 Try.prog Try.lays144_ren := {
  mixed := by kernel_rfl
  f143 := Try.func121.trans (congrArg some (by kernel_rfl))
  f144 := Try.func92.trans (congrArg some (by kernel_rfl))
  f217 := Try.func148.trans (congrArg some (by kernel_rfl))
  f219 := Try.func139.trans (congrArg some (by kernel_rfl))
  f224 := Try.func150.trans (congrArg some (by kernel_rfl))
  f225 := Try.func149.trans (congrArg some (by kernel_rfl))
  f266 := Try.func155.trans (congrArg some (by kernel_rfl))
  f267 := Try.func151.trans (congrArg some (by kernel_rfl))
  f314 := Try.func156.trans (congrArg some (by kernel_rfl))
  t3 := Try.underlying3
  a3 := Try.isAgg3
  z3 := Try.sizeOf3
  v3 := Try.zeroValue3
  t4 := Try.underlying4
  a4 := Try.isAgg4
  z4 := Try.sizeOf4
  v4 := Try.zeroValue4
  t5 := Try.underlying5
  a5 := Try.isAgg5
  z5 := Try.sizeOf5
  v5 := Try.zeroValue5
  t9 := Try.underlying9
  a9 := Try.isAgg9
  z9 := Try.sizeOf9
  v9 := Try.zeroValue9
  t46 := Try.underlying122
  a46 := Try.isAgg122
  z46 := Try.sizeOf122
  v46 := Try.zeroValue122
  t51 := Try.underlying140
  a51 := Try.isAgg140
  z51 := Try.sizeOf140
  v51 := Try.zeroValue140
  t146 := Try.underlying156
  a146 := Try.isAgg156
  z146 := Try.sizeOf156
  v146 := Try.zeroValue156
  g1 := by kernel_rfl }
open Go.RowKit Go.Lib in
/-- strings.Contains: "Contains reports whether substr is within s.": AT A substr OF ONE BYTE c: IT RETURNS 'decide (0 ≤ Lib.indexByte s c)'; the world is as it was. (LAID: no walk: one application.) -/
theorem Try.strings_Contains_one (s : ByteArray) (c : UInt8) (w : World) :
    Calls Try.prog 92 #[.string s, .string ⟨#[c]⟩] w fun e w' => e = .returned (.bool (decide (0 ≤ Lib.indexByte s.data.toList c))) ∧ w' = w := Any.strings_Contains_one Try.lays144 s c w
open Go.RowKit Go.Lib in
/-- strings.Contains: "Contains reports whether substr is within s.": IT RETURNS 'Lib.contains s substr'; the world is as it was. (LAID: no walk: one application.) -/
theorem Try.strings_Contains (s sub : ByteArray) (m : Int) (w : World) (hs : s.size < 4294967281) (hm : w.cell? ⟨0, 0, none⟩ = some (.int .i64 m)) :
    Calls Try.prog 92 #[.string s, .string sub] w fun e w' => e = .returned (.bool (Lib.contains s.data.toList sub.data.toList)) ∧ w' = w := Any.strings_Contains Try.lays144 s sub m w hs hm
def Try.laysM144_ren : Go.Shelf.Ren := ⟨fun | 144 => 92 | 143 => 121 | 219 => 139 | 217 => 148 | 225 => 149 | 224 => 150 | 267 => 151 | 266 => 155 | 314 => 156 | n => n, fun | 9 => 9 | 4 => 4 | 3 => 3 | 5 => 5 | 46 => 122 | 146 => 156 | 51 => 140 | n => n, fun | 1 => 0 | n => n⟩
theorem Try.laysM144 : Go.Proofs.LaysM.n144 Try.prog Try.laysM144_ren := {
  mixed := by kernel_rfl
  f143 := Try.func121.trans (congrArg some (by kernel_rfl))
  f144 := Try.func92.trans (congrArg some (by kernel_rfl))
  f217 := Try.func148.trans (congrArg some (by kernel_rfl))
  f219 := Try.func139.trans (congrArg some (by kernel_rfl))
  f224 := Try.func150.trans (congrArg some (by kernel_rfl))
  f225 := Try.func149.trans (congrArg some (by kernel_rfl))
  f266 := Try.func155.trans (congrArg some (by kernel_rfl))
  f267 := Try.func151.trans (congrArg some (by kernel_rfl))
  f314 := Try.func156.trans (congrArg some (by kernel_rfl))
  t3 := Try.underlying3
  a3 := Try.isAgg3
  z3 := Try.sizeOf3
  v3 := Try.zeroValue3
  t4 := Try.underlying4
  a4 := Try.isAgg4
  z4 := Try.sizeOf4
  v4 := Try.zeroValue4
  t5 := Try.underlying5
  a5 := Try.isAgg5
  z5 := Try.sizeOf5
  v5 := Try.zeroValue5
  t9 := Try.underlying9
  a9 := Try.isAgg9
  z9 := Try.sizeOf9
  v9 := Try.zeroValue9
  t46 := Try.underlying122
  a46 := Try.isAgg122
  z46 := Try.sizeOf122
  v46 := Try.zeroValue122
  t51 := Try.underlying140
  a51 := Try.isAgg140
  z51 := Try.sizeOf140
  v51 := Try.zeroValue140
  t146 := Try.underlying156
  a146 := Try.isAgg156
  z146 := Try.sizeOf156
  v146 := Try.zeroValue156
  g1 := by kernel_rfl
  i3 := by kernel_rfl
  i4 := by kernel_rfl
  i5 := by kernel_rfl
  i9 := by kernel_rfl
  i46 := by kernel_rfl
  i51 := by kernel_rfl
  i146 := by kernel_rfl
  m1 := by kernel_rfl
  s1_3 := fun w h => Go.Proofs.cell_of_shapedOpen_int (zero := #[.int .i64 0]) (t := 3) h (of_decide_eq_true (by kernel_rfl)) (by kernel_rfl) rfl (by kernel_rfl) (by kernel_rfl) Try.underlying3 }
def Try.lays190_ren : Go.Shelf.Ren := ⟨fun | 190 => 80 | 125 => 118 | 258 => 117 | 128 => 136 | 129 => 137 | 302 => 128 | 303 => 129 | 304 => 130 | 305 => 131 | 306 => 132 | 307 => 133 | 308 => 119 | 309 => 134 | 310 => 135 | 333 => 143 | 329 => 144 | 330 => 145 | 334 => 146 | 335 => 147 | 336 => 138 | 344 => 154 | n => n, fun | 31 => 23 | 9 => 9 | 3 => 3 | 46 => 122 | 0 => 0 | 51 => 140 | 53 => 142 | 4 => 4 | 183 => 134 | 182 => 133 | 131 => 94 | 5 => 5 | 218 => 144 | 222 => 148 | 228 => 153 | 229 => 154 | n => n, fun | n => n⟩
theorem Try.lays190 : Go.Proofs.Lays.n190 Try.prog Try.lays190_ren := {
  mixed := by kernel_rfl
  f125 := Try.func118.trans (congrArg some (by kernel_rfl))
  f128 := Try.func136.trans (congrArg some (by kernel_rfl))
  f129 := Try.func137.trans (congrArg some (by kernel_rfl))
  f190 := Try.func80.trans (congrArg some (by kernel_rfl))
  f258 := Try.func117.trans (congrArg some (by kernel_rfl))
  f302 := Try.func128.trans (congrArg some (by kernel_rfl))
  f303 := Try.func129.trans (congrArg some (by kernel_rfl))
  f304 := Try.func130.trans (congrArg some (by kernel_rfl))
  f305 := Try.func131.trans (congrArg some (by kernel_rfl))
  f306 := Try.func132.trans (congrArg some (by kernel_rfl))
  f307 := Try.func133.trans (congrArg some (by kernel_rfl))
  f308 := Try.func119.trans (congrArg some (by kernel_rfl))
  f309 := Try.func134.trans (congrArg some (by kernel_rfl))
  f310 := Try.func135.trans (congrArg some (by kernel_rfl))
  f329 := Try.func144.trans (congrArg some (by kernel_rfl))
  f330 := Try.func145.trans (congrArg some (by kernel_rfl))
  f333 := Try.func143.trans (congrArg some (by kernel_rfl))
  f334 := Try.func146.trans (congrArg some (by kernel_rfl))
  f335 := Try.func147.trans (congrArg some (by kernel_rfl))
  f336 := Try.func138.trans (congrArg some (by kernel_rfl))
  f344 := Try.func154.trans (congrArg some (by kernel_rfl))
  t0 := Try.underlying0
  a0 := Try.isAgg0
  z0 := Try.sizeOf0
  v0 := Try.zeroValue0
  t3 := Try.underlying3
  a3 := Try.isAgg3
  z3 := Try.sizeOf3
  v3 := Try.zeroValue3
  t4 := Try.underlying4
  a4 := Try.isAgg4
  z4 := Try.sizeOf4
  v4 := Try.zeroValue4
  t5 := Try.underlying5
  a5 := Try.isAgg5
  z5 := Try.sizeOf5
  v5 := Try.zeroValue5
  t9 := Try.underlying9
  a9 := Try.isAgg9
  z9 := Try.sizeOf9
  v9 := Try.zeroValue9
  t31 := Try.underlying23
  a31 := Try.isAgg23
  z31 := Try.sizeOf23
  v31 := Try.zeroValue23
  t46 := Try.underlying122
  a46 := Try.isAgg122
  z46 := Try.sizeOf122
  v46 := Try.zeroValue122
  t51 := Try.underlying140
  a51 := Try.isAgg140
  z51 := Try.sizeOf140
  v51 := Try.zeroValue140
  t53 := Try.underlying142
  a53 := Try.isAgg142
  z53 := Try.sizeOf142
  v53 := Try.zeroValue142
  t131 := Try.underlying94
  a131 := Try.isAgg94
  z131 := Try.sizeOf94
  v131 := Try.zeroValue94
  t182 := Try.underlying133
  a182 := Try.isAgg133
  z182 := Try.sizeOf133
  v182 := Try.zeroValue133
  t183 := Try.underlying134
  a183 := Try.isAgg134
  z183 := Try.sizeOf134
  v183 := Try.zeroValue134
  t218 := Try.underlying144
  a218 := Try.isAgg144
  z218 := Try.sizeOf144
  v218 := Try.zeroValue144
  t222 := Try.underlying148
  a222 := Try.isAgg148
  z222 := Try.sizeOf148
  v222 := Try.zeroValue148
  t228 := Try.underlying153
  a228 := Try.isAgg153
  z228 := Try.sizeOf153
  v228 := Try.zeroValue153
  t229 := Try.underlying154
  a229 := Try.isAgg154
  z229 := Try.sizeOf154
  v229 := Try.zeroValue154 }
open Go.Sort Go.RowKit in
theorem Try.slices_Sort_string (blk off cap : Nat) (ss : List (List UInt8)) (w : World) (hH : Holds encStr w blk off ss.toArray) (hblk : blk < w.heap.size) (hsz : ss.length < 4611686018427387904) :
    Calls Try.prog 80 #[.slice (some ⟨blk, off, none⟩) ss.length cap] w fun e w' =>
      e = .returned (.tuple #[]) ∧ ∃ n os, w' = grow (putRow encStr (Sort.ahead w n) blk off (ss.mergeSort fun x y => decide (x ≤ y)).toArray) os := Any.slices_Sort_string Try.lays190 blk off cap ss w hH hblk hsz
def Try.lays113_ren : Go.Shelf.Ren := ⟨fun | 113 => 72 | n => n, fun | 28 => 35 | 3 => 3 | 4 => 4 | 9 => 9 | 20 => 20 | 0 => 0 | n => n, fun | n => n⟩
theorem Try.lays113 : Go.Proofs.Lays.n113 Try.prog Try.lays113_ren := {
  mixed := by kernel_rfl
  f113 := Try.func72.trans (congrArg some (by kernel_rfl))
  t0 := Try.underlying0
  a0 := Try.isAgg0
  z0 := Try.sizeOf0
  v0 := Try.zeroValue0
  t3 := Try.underlying3
  a3 := Try.isAgg3
  z3 := Try.sizeOf3
  v3 := Try.zeroValue3
  t4 := Try.underlying4
  a4 := Try.isAgg4
  z4 := Try.sizeOf4
  v4 := Try.zeroValue4
  t9 := Try.underlying9
  a9 := Try.isAgg9
  z9 := Try.sizeOf9
  v9 := Try.zeroValue9
  t20 := Try.underlying20
  a20 := Try.isAgg20
  z20 := Try.sizeOf20
  v20 := Try.zeroValue20
  t28 := Try.underlying35
  a28 := Try.isAgg35
  z28 := Try.sizeOf35
  v28 := Try.zeroValue35 }
open Go.Lib in
/-- slices.Max at []int: "Max returns the maximal value in x. It panics if x is empty.": OF A SLICE THAT IS NOT EMPTY IT RETURNS 'Lib.maxOf (the elements)'; the world is as it was. (Of an empty one it panics: no contract here.) (LAID: no walk: one application.) -/
theorem Try.slices_Max_int (b off n c : Nat) (zs : List Int) (w : World) (hn : 0 < n) (hz : n ≤ zs.length) (hbig : n ≤ 9223372036854775807) (hc : ∀ j, j < zs.length → w.cell? ⟨b, off + j, none⟩ = some (.int .i64 (zs.getD j 0))) :
    Calls Try.prog 72 #[.slice (some ⟨b, off, none⟩) n c] w fun e w' => e = .returned (.int .i64 (Lib.maxOf (zs.take n))) ∧ w' = w := Any.slices_Max_int Try.lays113 b off n c zs w hn hz hbig hc
def Try.lays114_ren : Go.Shelf.Ren := ⟨fun | 114 => 71 | n => n, fun | 28 => 35 | 3 => 3 | 4 => 4 | 9 => 9 | 20 => 20 | 0 => 0 | n => n, fun | n => n⟩
theorem Try.lays114 : Go.Proofs.Lays.n114 Try.prog Try.lays114_ren := {
  mixed := by kernel_rfl
  f114 := Try.func71.trans (congrArg some (by kernel_rfl))
  t0 := Try.underlying0
  a0 := Try.isAgg0
  z0 := Try.sizeOf0
  v0 := Try.zeroValue0
  t3 := Try.underlying3
  a3 := Try.isAgg3
  z3 := Try.sizeOf3
  v3 := Try.zeroValue3
  t4 := Try.underlying4
  a4 := Try.isAgg4
  z4 := Try.sizeOf4
  v4 := Try.zeroValue4
  t9 := Try.underlying9
  a9 := Try.isAgg9
  z9 := Try.sizeOf9
  v9 := Try.zeroValue9
  t20 := Try.underlying20
  a20 := Try.isAgg20
  z20 := Try.sizeOf20
  v20 := Try.zeroValue20
  t28 := Try.underlying35
  a28 := Try.isAgg35
  z28 := Try.sizeOf35
  v28 := Try.zeroValue35 }
open Go.Lib in
/-- slices.Min at []int: "Min returns the minimal value in x. It panics if x is empty.": OF A SLICE THAT IS NOT EMPTY IT RETURNS 'Lib.minOf (the elements)'; the world is as it was. (Of an empty one it panics: no contract here.) (LAID: no walk: one application.) -/
theorem Try.slices_Min_int (b off n c : Nat) (zs : List Int) (w : World) (hn : 0 < n) (hz : n ≤ zs.length) (hbig : n ≤ 9223372036854775807) (hc : ∀ j, j < zs.length → w.cell? ⟨b, off + j, none⟩ = some (.int .i64 (zs.getD j 0))) :
    Calls Try.prog 71 #[.slice (some ⟨b, off, none⟩) n c] w fun e w' => e = .returned (.int .i64 (Lib.minOf (zs.take n))) ∧ w' = w := Any.slices_Min_int Try.lays114 b off n c zs w hn hz hbig hc
def Try.laysNm215_ren : Go.Shelf.Ren := ⟨fun | 15 => 75 | n => n, fun | 22 => 35 | 3 => 3 | 4 => 4 | n => n, fun | n => n⟩
theorem Try.laysNm215 : Go.Proofs.Lays2.n15 Try.prog Try.laysNm215_ren := {
  mixed := by kernel_rfl
  f15 := Try.func75.trans (congrArg some (by kernel_rfl))
  t3 := Try.underlying3
  a3 := Try.isAgg3
  z3 := Try.sizeOf3
  v3 := Try.zeroValue3
  t4 := Try.underlying4
  a4 := Try.isAgg4
  z4 := Try.sizeOf4
  v4 := Try.zeroValue4
  t22 := Try.underlying35
  a22 := Try.isAgg35
  z22 := Try.sizeOf35
  v22 := Try.zeroValue35
  i3 := by kernel_rfl }
open Go.RowKit Go.Lib in
/-- slices.Clone at []int: "Clone returns a copy of the slice. The elements are copied using assignment, so this is a shallow clone. The result may have additional unused capacity. The result preserves the nilness of s.": OF A SLICE THAT IS NOT nil IT RETURNS A SLICE THAT IS NOT nil, OF THE SAME ELEMENTS, IN MEMORY OF THE CALL's OWN: in the how-to's words (6f): 'w'.ownsRow B e 1 v' n cells': v' begins at the head of a row among the blocks from B on (B: the heap's size at the call), not frozen, whose first cells are the elements · 'Below B w w'': below B all is as it was. The capacity is whatever the run-time gives. 'zs': what the cells behind the slice's address hold; 'zs.take n': its elements. (LAID: no walk: one application.) -/
theorem Try.slices_Clone_int (b off n c : Nat) (zs : List Int) (w : World) (hz : n ≤ zs.length) (hbig : n * 8 ≤ 140737488355328) (hc : ∀ j, j < zs.length → w.cell? ⟨b, off + j, none⟩ = some (.int .i64 (zs.getD j 0))) :
    Calls Try.prog 75 #[.slice (some ⟨b, off, none⟩) n c] w fun e w' => ∃ v', e = .returned v' ∧ w'.ownsRow w.heap.size 3 1 v' n ((zs.take n).map (Value.int .i64)) ∧ v' ≠ .slice none 0 0 ∧ Below w.heap.size w w' := Any.slices_Clone_int Try.laysNm215 b off n c zs w hz hbig hc
def Try.lays194_ren : Go.Shelf.Ren := ⟨fun | 194 => 81 | n => n, fun | 31 => 23 | 9 => 9 | 3 => 3 | 4 => 4 | 0 => 0 | n => n, fun | n => n⟩
theorem Try.lays194 : Go.Proofs.Lays.n194 Try.prog Try.lays194_ren := {
  mixed := by kernel_rfl
  f194 := Try.func81.trans (congrArg some (by kernel_rfl))
  t0 := Try.underlying0
  a0 := Try.isAgg0
  z0 := Try.sizeOf0
  v0 := Try.zeroValue0
  t3 := Try.underlying3
  a3 := Try.isAgg3
  z3 := Try.sizeOf3
  v3 := Try.zeroValue3
  t4 := Try.underlying4
  a4 := Try.isAgg4
  z4 := Try.sizeOf4
  v4 := Try.zeroValue4
  t9 := Try.underlying9
  a9 := Try.isAgg9
  z9 := Try.sizeOf9
  v9 := Try.zeroValue9
  t31 := Try.underlying23
  a31 := Try.isAgg23
  z31 := Try.sizeOf23
  v31 := Try.zeroValue23 }
open Go.RowKit Go.Lib Go.Sort in
/-- slices.Compact at []string: "Compact replaces consecutive runs of equal elements with a single copy. This is like the uniq command found on Unix. Compact modifies the contents of the slice s and returns the modified slice, which may have a smaller length. Compact zeroes the elements between the new length and the original length. The result preserves the nilness of s.": IT RETURNS THE SLICE CUT TO 'Lib.compact zs'; ITS CELLS HOLD 'Lib.compact zs', THEN ZERO VALUES up to the old length; all else is as it was, but for the count of draws. IN THE WORDS OF slices.Sort's CONTRACT ('Holds', 'putRow'): so the everyday 'slices.Sort(xs); xs = slices.Compact(xs)' goes from the one contract to the other. It asks 'zs.length ≤ cap' (every slice's: the reslicing 's[:k]' looks at it). Length 0, nil: '.._empty'. (LAID: no walk: one application.) -/
theorem Try.slices_Compact_string (blk off cap : Nat) (zs : List (List UInt8)) (w : World) (hH : Holds encStr w blk off zs.toArray) (hsz : zs.length ≤ 9223372036854775807) (hcap : zs.length ≤ cap) :
    Calls Try.prog 81 #[.slice (some ⟨blk, off, none⟩) zs.length cap] w fun e w' => e = .returned (.slice (some ⟨blk, off, none⟩) (Lib.compact zs).length cap) ∧ ∃ q, w' = putRow encStr (Sort.ahead w q) blk off (Lib.compact zs ++ List.replicate (zs.length - (Lib.compact zs).length) []).toArray := Any.slices_Compact_string Try.lays194 blk off cap zs w hH hsz hcap
open Go.RowKit Go.Lib Go.Sort in
/-- The same at a slice of length 0, a nil one too: it comes back as it is. (LAID: no walk: one application.) -/
theorem Try.slices_Compact_string_empty (a : Option Addr) (cap : Nat) (w : World) :
    Calls Try.prog 81 #[.slice a 0 cap] w fun e w' => e = .returned (.slice a 0 cap) ∧ w' = w := Any.slices_Compact_string_empty Try.lays194 a cap w
open Go.RowKit Go.Sort in
/-- .. and plain. (LAID: no walk: one application.) -/
theorem Try.slices_Sort_string_none (p : Option Addr) (cap : Nat) (w : World) :
    Calls Try.prog 80 #[.slice p 0 cap] w fun e w' => e = .returned (.tuple #[]) ∧ w' = w := Any.slices_Sort_string_none Try.lays190 p cap w
end Go.Proofs
