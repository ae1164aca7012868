/- Texts put together. -/
import Derived.Test.YtgidfainoijcmaaMg16
import Derived.IntWalk
import Derived.BigRegion
import Derived.Deep.DeepCutAuto
import Derived.Deep.RegionWith
import Derived.Deep.RegionHeld3
import Derived.Test.YtgidfainoijcmaaMg7
import Derived.Test.YtgidfainoijcmaaMg8
import Derived.Test.YtgidfainoijcmaaMg10
import Derived.Test.YtgidfainoijcmaaMg12
/- Columns, products and marks of the program's squares. -/
namespace Go.Proofs.Ytgidfainoijcmaa
open Go.RowKit

set_option maxHeartbeats 400000 in
theorem implColumn (n : Int) (f : Nat → Nat → Int) (k : Nat) (hk : k < 4) (w : World) :
    Calls Try.prog 65 #[.agg (sqA n f), .int .i64 k] w fun e w' => e = .returned (.agg (rowA fun i => f i k)) ∧ Below w.heap.size w w' := by
  go_enter Try.func65, Try.ntmps65
  go_wp2_with fail
  go_loopw [7] (fun i w' => ∃ j : Nat, j ≤ 4 ∧ i = .int .i64 j ∧ Arr w' w.heap.size 67 w.heap.size (sqA n f) ∧ Arr w' w.heap.size 64 (w.heap.size + 1) (rowA fun _ => 0) ∧ Arr w' w.heap.size 64 (w.heap.size + 1 + 1) (rowA (upTo (fun i => f i k) j)) ∧ Below w.heap.size w w') (fun i _ => 4 - (intOf i).toNat)
  case atStart =>
    refine ⟨0, by omega, rfl, ((Arr.made _ _ _ _ (Nat.le_refl _) (by simp [sqA_size, maxLen])).alloc _).alloc _, ?_, ?_, (((Below.refl _ _).alloc (Nat.le_refl _) _).alloc (by simp) _).alloc (by simp; omega) _⟩
    · have := (Arr.made (w.alloc (.cells (sqA n f) 67)) w.heap.size 64 (rowA fun _ => 0) (by simp) (by simp [rowA_size, maxLen])).alloc (.cells (rowA fun _ => 0) 64)
      simp only [World.size_alloc] at this
      exact this
    · have := Arr.made ((w.alloc (.cells (sqA n f) 67)).alloc (.cells (rowA fun _ => 0) 64)) w.heap.size 64 (rowA fun _ => 0) (by simp; omega) (by simp [rowA_size, maxLen])
      simp only [World.size_alloc] at this
      exact this
  case round =>
    obtain ⟨j, hj, rfl, hs, hr, ho, hb⟩ := hrel
    have HS := Lib.hid hs
    have HR := Lib.hid hr
    have HO := Lib.hid ho
    have HB := Lib.hid hb
    by_cases hlt : j < 4
    · have g1 := hs.cell _ _ (sqA_get n f j k hlt hk)
      have g2 := ho.cell _ _ (rowA_get _ j hlt)
      have g3 := ho.frozen j
      clear hs hr ho hb
      go_wp2_with fail
      go_roundw
      case rel =>
        refine ⟨j + 1, by omega, by go_num, HS.out.other (by simp; omega) _, HR.out.other (by simp) _, HO.out.set j _ ?_, HB.out.setCell (by simp; omega) _⟩
        rw [rowA_set _ _ _ hlt, upTo_succ]
      case measure => simp [intOf]; omega
    · have hj4 : j = 4 := by omega
      subst hj4
      clear hs hr ho hb
      go_wp2_with (first
        | (refine load_arr rfl 64 (.tmp 5) rfl (w.heap.size + 1 + 1) _ _ _ rfl HO.out 4 row_ty rfl ?_)
        | (refine store_arr rfl 64 (.tmp 4) (.tmp 19) rfl (w.heap.size + 1) _ _ (rowA (upTo (fun i => f i k) 4)) rfl rfl HR.out 4 row_ty rfl rfl (rowA_one _) ?_))
      exact post_arr 64 rfl rfl (HR.out.row (c' := rowA (upTo (fun i => f i k) 4)) rfl) row_ty rfl rfl ⟨rfl, below_row HB.out (by omega) _⟩
/-- the sum of the first j products of row i of the square and the column -/
def dotF (f : Nat → Nat → Int) (c : Nat → Int) (i : Nat) : Nat → Int
  | 0 => 0
  | j + 1 => dotF f c i j + f i j * c j
/-- each number of the square from -100 to 100, each of the column of at most 10^13 -/
def Small (f : Nat → Nat → Int) (c : Nat → Int) : Prop := ∀ i j, i < 4 → j < 4 → -1000000000000000 ≤ f i j * c j ∧ f i j * c j ≤ 1000000000000000
theorem dotF_small {f : Nat → Nat → Int} {c : Nat → Int} (h : Small f c) (i : Nat) (hi : i < 4) : ∀ j : Nat, j ≤ 4 → -((j : Int) * 1000000000000000) ≤ dotF f c i j ∧ dotF f c i j ≤ (j : Int) * 1000000000000000
  | 0, _ => by simp [dotF]
  | j + 1, hj => by
    have ih := dotF_small h i hi j (by omega)
    have := h i j hi (by omega)
    unfold dotF
    omega
/-- the result's cells while row i is at column j -/
def dotR (f : Nat → Nat → Int) (c : Nat → Int) (i j : Nat) : Nat → Int := fun a => if a < i then dotF f c a 4 else if a = i then dotF f c i j else 0
theorem dotR_at (f : Nat → Nat → Int) (c : Nat → Int) (i j : Nat) : dotR f c i j i = dotF f c i j := by simp [dotR]
theorem dotR_succ (f : Nat → Nat → Int) (c : Nat → Int) (i j : Nat) : upd1 (dotR f c i j) i (dotF f c i j + f i j * c j) = dotR f c i (j + 1) := by
  funext a
  unfold upd1 dotR
  by_cases h : a = i
  · subst h; simp [dotF]
  · simp [h]
theorem dotR_next (f : Nat → Nat → Int) (c : Nat → Int) (i : Nat) : dotR f c i 4 = dotR f c (i + 1) 0 := by
  funext a
  unfold dotR
  by_cases h : a < i
  · rw [if_pos h, if_pos (by omega)]
  · by_cases h2 : a = i
    · subst h2; simp
    · rw [if_neg h, if_neg h2, if_neg (by omega)]
      split <;> rfl

set_option maxHeartbeats 400000 in
theorem implTimesColumn (n : Int) (f : Nat → Nat → Int) (c : Nat → Int) (hsm : Small f c) (w : World) :
    Calls Try.prog 78 #[.agg (sqA n f), .agg (rowA c)] w fun e w' => e = .returned (.agg (rowA fun i => dotF f c i 4)) ∧ Below w.heap.size w w' := by
  have h0 := Arr.made w w.heap.size 67 (sqA n f) (Nat.le_refl _) (by simp [sqA_size, maxLen])
  have HSM := Lib.hid hsm
  have H0 := Lib.hid h0
  clear hsm h0
  go_enter Try.func78, Try.ntmps78
  go_wp2_with (with_reducible refine load_part rfl 65 (.tmp 10) rfl w.heap.size 1 _ _ (sqA n f) (rowsA f) rfl (((H0.out.alloc _).alloc _).alloc _) 16 rows_ty rfl (rowPart n f) ?_)
  go_loopw [12] (fun i w' => ∃ k : Nat, k ≤ 4 ∧ i = .int .i64 k ∧ Arr w' w.heap.size 64 (w.heap.size + 1) (rowA c) ∧ Arr w' w.heap.size 64 (w.heap.size + 1 + 1) (rowA fun _ => 0) ∧ Arr w' w.heap.size 64 (w.heap.size + 1 + 1 + 1) (rowA (dotR f c k 0)) ∧ Below w.heap.size w w') (fun i _ => 4 - (intOf i).toNat)
  case atStart =>
    refine ⟨0, by omega, rfl, ?_, ?_, ?_, ((((Below.refl _ _).alloc (Nat.le_refl _) _).alloc (by simp) _).alloc (by simp; omega) _).alloc (by simp; omega) _⟩
    · have := ((Arr.made (w.alloc (.cells (sqA n f) 67)) w.heap.size 64 (rowA c) (by simp) (by simp [rowA_size, maxLen])).alloc (.cells (rowA fun _ => 0) 64)).alloc (.cells (rowA fun _ => 0) 64)
      simp only [World.size_alloc] at this
      exact this
    · have := (Arr.made ((w.alloc (.cells (sqA n f) 67)).alloc (.cells (rowA c) 64)) w.heap.size 64 (rowA fun _ => 0) (by simp; omega) (by simp [rowA_size, maxLen])).alloc (.cells (rowA fun _ => 0) 64)
      simp only [World.size_alloc] at this
      exact this
    · have := Arr.made (((w.alloc (.cells (sqA n f) 67)).alloc (.cells (rowA c) 64)).alloc (.cells (rowA fun _ => 0) 64)) w.heap.size 64 (rowA fun _ => 0) (by simp; omega) (by simp [rowA_size, maxLen])
      simp only [World.size_alloc] at this
      exact this
  case round =>
    obtain ⟨k, hk, rfl, hcol, hres, hout, hb⟩ := hrel
    obtain ⟨wo, rfl⟩ : ∃ x : World, x = wr := ⟨_, rfl⟩
    have HC := Lib.hid hcol
    have HR := Lib.hid hres
    have HO := Lib.hid hout
    have HB := Lib.hid hb
    clear hcol hres hout hb
    by_cases hlt : k < 4
    · go_wp2_with (first
        | (with_reducible refine index_rows rfl (.tmp 11) (.tmp 12) rfl f k rfl rfl hlt ?_)
        | (with_reducible refine store_new rfl 64 (.tmp 7) (.tmp 15) rfl wo.heap.size _ (rowA (f k)) rfl rfl rfl 4 row_ty rfl rfl (rowA_one _) ?_)
        | (with_reducible refine load_arr rfl 64 (.tmp 7) rfl wo.heap.size _ _ _ rfl (Arr.made wo _ _ _ (Nat.le_refl _) (by simp [rowA_size, maxLen])) 4 row_ty rfl ?_))
      have HC2 := Lib.hid (HC.out.alloc (.cells (rowA (f k)) 64))
      have HR2 := Lib.hid (HR.out.alloc (.cells (rowA (f k)) 64))
      have HO2 := Lib.hid (HO.out.alloc (.cells (rowA (f k)) 64))
      have HB2 := Lib.hid (HB.out.alloc HB.out.size (.cells (rowA (f k)) 64))
      go_loopw [17] (fun i w' => ∃ j : Nat, j ≤ 4 ∧ i = .int .i64 j ∧ Arr w' w.heap.size 64 (w.heap.size + 1) (rowA c) ∧ Arr w' w.heap.size 64 (w.heap.size + 1 + 1) (rowA fun _ => 0) ∧ Arr w' w.heap.size 64 (w.heap.size + 1 + 1 + 1) (rowA (dotR f c k j)) ∧ Below w.heap.size w w') (fun i _ => 4 - (intOf i).toNat)
      case atStart => exact ⟨0, by omega, rfl, HC2.out, HR2.out, HO2.out, HB2.out⟩
      case round =>
        obtain ⟨j, hj, rfl, hcol, hres, hout, hb⟩ := hrel
        obtain ⟨wi, rfl⟩ : ∃ x : World, x = wr := ⟨_, rfl⟩
        have HC := Lib.hid hcol
        have HR := Lib.hid hres
        have HO := Lib.hid hout
        have HB := Lib.hid hb
        by_cases hlt2 : j < 4
        · have g1 := hcol.cell _ _ (rowA_get c j hlt2)
          have g2 := hout.cell _ _ (rowA_get _ k hlt)
          rw [dotR_at] at g2
          have g3 := hout.frozen k
          obtain ⟨p1, p2⟩ := HSM.out k j hlt hlt2
          obtain ⟨p3, p4⟩ := dotF_small HSM.out k hlt j hj
          have e1 : IntKind.i64.wrap (f k j * c j) = f k j * c j := IntWalk.i64_in _ (by omega)
          have e2 : IntKind.i64.wrap (dotF f c k j + f k j * c j) = dotF f c k j + f k j * c j := IntWalk.i64_in _ (by omega)
          clear hcol hres hout hb p1 p2 p3 p4
          go_wp2_with (with_reducible refine index_row rfl 64 Try.underlying64 (.tmp 16) (.tmp 17) rfl (f k) j rfl rfl hlt2 ?_)
          go_region
          go_wp2
          go_roundw
          case rel =>
            refine ⟨j + 1, by omega, by go_num, HC.out.other (by simp <;> omega) _, HR.out.other (by simp <;> omega) _, HO.out.set k _ ?_, below_drew (HB.out.setCell (by simp <;> omega) _)⟩
            rw [rowA_set _ _ _ hlt, dotR_succ]
          case measure => simp [intOf]; omega
        · have hj4 : j = 4 := by omega
          subst hj4
          clear hcol hres hout hb
          go_wp2_with fail
          go_roundw
          case rel => exact ⟨k + 1, by omega, by go_num, HC.out, HR.out, by rw [← dotR_next]; exact HO.out, HB.out⟩
          case measure => simp [intOf]; omega
    · have hk4 : k = 4 := by omega
      subst hk4
      go_wp2_with (first
        | (with_reducible refine load_arr rfl 64 (.tmp 5) rfl (w.heap.size + 1 + 1 + 1) _ _ _ rfl HO.out 4 row_ty rfl ?_)
        | (with_reducible refine store_arr rfl 64 (.tmp 4) (.tmp 33) rfl (w.heap.size + 1 + 1) _ _ (rowA (dotR f c 4 0)) rfl rfl HR.out 4 row_ty rfl rfl (rowA_one _) ?_))
      exact post_arr 64 rfl rfl (HR.out.row (c' := rowA (dotR f c 4 0)) rfl) row_ty rfl rfl ⟨rfl, below_row HB.out (by omega) _⟩
end Go.Proofs.Ytgidfainoijcmaa

/- Marks of the program's squares, and the square of ones. -/
namespace Go.Proofs.Ytgidfainoijcmaa
open Go.RowKit

theorem build_sq (n : Int) (w : World) : (Instr.build 67 #[(0, .int .i64 n)]).run Try.prog w = .ok (.agg (sqA n fun _ _ => 0)) w := run_build w _ _ _ (by kernel_rfl)
theorem build_sq0 (w : World) : (Instr.build 67 #[]).run Try.prog w = .ok (.agg (sqA 0 fun _ _ => 0)) w := run_build w _ _ _ (by kernel_rfl)
theorem sqA_zero (n : Int) (f : Nat → Nat → Int) : (sqA n f)[0]? = some (.int .i64 n) := rfl
/-- the seventeen cells of a square, one by one -/
theorem Arr.cells17 {w : World} {B : Nat} {T : TypeId} {b : Nat} {n : Int} {f : Nat → Nat → Int} (h : Arr w B T b (sqA n f)) : w.cell? ⟨b, 0, none⟩ = some (.int .i64 n) ∧ w.cell? ⟨b, 1, none⟩ = some (.int .i64 (f 0 0)) ∧ w.cell? ⟨b, 2, none⟩ = some (.int .i64 (f 0 1)) ∧ w.cell? ⟨b, 3, none⟩ = some (.int .i64 (f 0 2)) ∧ w.cell? ⟨b, 4, none⟩ = some (.int .i64 (f 0 3)) ∧ w.cell? ⟨b, 5, none⟩ = some (.int .i64 (f 1 0)) ∧ w.cell? ⟨b, 6, none⟩ = some (.int .i64 (f 1 1)) ∧ w.cell? ⟨b, 7, none⟩ = some (.int .i64 (f 1 2)) ∧ w.cell? ⟨b, 8, none⟩ = some (.int .i64 (f 1 3)) ∧ w.cell? ⟨b, 9, none⟩ = some (.int .i64 (f 2 0)) ∧ w.cell? ⟨b, 10, none⟩ = some (.int .i64 (f 2 1)) ∧ w.cell? ⟨b, 11, none⟩ = some (.int .i64 (f 2 2)) ∧ w.cell? ⟨b, 12, none⟩ = some (.int .i64 (f 2 3)) ∧ w.cell? ⟨b, 13, none⟩ = some (.int .i64 (f 3 0)) ∧ w.cell? ⟨b, 14, none⟩ = some (.int .i64 (f 3 1)) ∧ w.cell? ⟨b, 15, none⟩ = some (.int .i64 (f 3 2)) ∧ w.cell? ⟨b, 16, none⟩ = some (.int .i64 (f 3 3)) :=
  ⟨h.cell 0 _ rfl, h.cell 1 _ rfl, h.cell 2 _ rfl, h.cell 3 _ rfl, h.cell 4 _ rfl, h.cell 5 _ rfl, h.cell 6 _ rfl, h.cell 7 _ rfl, h.cell 8 _ rfl, h.cell 9 _ rfl, h.cell 10 _ rfl, h.cell 11 _ rfl, h.cell 12 _ rfl, h.cell 13 _ rfl, h.cell 14 _ rfl, h.cell 15 _ rfl, h.cell 16 _ rfl⟩
/-- the square while column by column is laid: the columns before k, and of column k the numbers before i -/
def colsTo (D : Nat → Nat → Int) (k i : Nat) : Nat → Nat → Int := fun a c => if c < k ∨ (c = k ∧ a < i) then D a c else 0
theorem colsTo_succ (D : Nat → Nat → Int) (k i : Nat) : upd2 (colsTo D k i) i k (D i k) = colsTo D k (i + 1) := by
  funext a c
  unfold upd2 colsTo
  by_cases h : a = i ∧ c = k
  · obtain ⟨rfl, rfl⟩ := h
    simp
  · rw [if_neg h]
    have e : (c < k ∨ (c = k ∧ a < i)) ↔ (c < k ∨ (c = k ∧ a < i + 1)) := by omega
    simp only [e]
theorem colsTo_next (D : Nat → Nat → Int) (n : Int) (k : Nat) : sqA n (colsTo D k 4) = sqA n (colsTo D (k + 1) 0) := by
  refine sqA_congr fun a c ha hc => ?_
  unfold colsTo
  have e : (c < k ∨ (c = k ∧ a < 4)) ↔ (c < k + 1 ∨ (c = k + 1 ∧ a < 0)) := by omega
  simp only [e]
theorem colsTo_zero (D : Nat → Nat → Int) : colsTo D 0 0 = fun _ _ => 0 := by
  funext a c
  unfold colsTo
  rw [if_neg (by omega)]
theorem colsTo_end (D : Nat → Nat → Int) (n : Nat) : colsTo D n 0 = fun a c => if c < n then D a c else 0 := by
  funext a c
  unfold colsTo
  have e : (c < n ∨ (c = n ∧ a < 0)) ↔ c < n := by omega
  simp only [e]
/-- 1 for each number that is at least 1, else the number itself -/
def markF (f : Nat → Nat → Int) : Nat → Nat → Int := fun a c => if 1 < f a c then 1 else f a c
/-- the square while row by row is marked: the rows before i, and of row i the numbers before k -/
def rowsTo (D f : Nat → Nat → Int) (i k : Nat) : Nat → Nat → Int := fun a c => if a < i ∨ (a = i ∧ c < k) then D a c else f a c
theorem rowsTo_succ (D f : Nat → Nat → Int) (i k : Nat) : upd2 (rowsTo D f i k) i k (D i k) = rowsTo D f i (k + 1) := by
  funext a c
  unfold upd2 rowsTo
  by_cases h : a = i ∧ c = k
  · obtain ⟨rfl, rfl⟩ := h
    simp
  · rw [if_neg h]
    have e : (a < i ∨ (a = i ∧ c < k)) ↔ (a < i ∨ (a = i ∧ c < k + 1)) := by omega
    simp only [e]
theorem rowsTo_next (D f : Nat → Nat → Int) (n : Int) (i : Nat) : sqA n (rowsTo D f i 4) = sqA n (rowsTo D f (i + 1) 0) := by
  refine sqA_congr fun a c ha hc => ?_
  unfold rowsTo
  have e : (a < i ∨ (a = i ∧ c < 4)) ↔ (a < i + 1 ∨ (a = i + 1 ∧ c < 0)) := by omega
  simp only [e]
theorem rowsTo_zero (D f : Nat → Nat → Int) : rowsTo D f 0 0 = f := by
  funext a c
  unfold rowsTo
  rw [if_neg (by omega)]
theorem rowsTo_end (D f : Nat → Nat → Int) (n : Int) : sqA n (rowsTo D f 4 0) = sqA n D := by
  refine sqA_congr fun a c ha hc => ?_
  unfold rowsTo
  rw [if_pos (by omega)]

set_option maxHeartbeats 1000000 in
set_option maxRecDepth 100000 in
theorem implMarked (n : Int) (f : Nat → Nat → Int) (w : World) :
    Calls Try.prog 61 #[.agg (sqA n f)] w fun e w' => e = .returned (.agg (sqA n (markF f))) ∧ Below w.heap.size w w' := by
  have h0 := Arr.made w w.heap.size 67 (sqA n f) (Nat.le_refl _) (by simp [sqA_size, maxLen])
  have H0 := Lib.hid h0
  clear h0
  go_enter Try.func61, Try.ntmps61
  go_wp2_with (with_reducible refine load_part rfl 65 (.tmp 7) rfl w.heap.size 1 _ _ (sqA n f) (rowsA f) rfl (H0.out.alloc _) 16 rows_ty rfl (rowPart n f) ?_)
  go_loopw [9] (fun i w' => ∃ k : Nat, k ≤ 4 ∧ i = .int .i64 k ∧ Arr w' w.heap.size 67 w.heap.size (sqA n (rowsTo (markF f) f k 0)) ∧ Arr w' w.heap.size 67 (w.heap.size + 1) (sqA 0 fun _ _ => 0) ∧ Below w.heap.size w w') (fun i _ => 4 - (intOf i).toNat)
  case atStart =>
    refine ⟨0, by omega, rfl, ?_, ?_, ((Below.refl _ _).alloc (Nat.le_refl _) _).alloc (by simp) _⟩
    · rw [rowsTo_zero]
      exact (Arr.made _ _ _ _ (Nat.le_refl _) (by simp [sqA_size, maxLen])).alloc _
    · have := Arr.made (w.alloc (.cells (sqA n f) 67)) w.heap.size 67 (sqA 0 fun _ _ => 0) (by simp) (by simp [sqA_size, maxLen])
      simp only [World.size_alloc] at this
      exact this
  case round =>
    obtain ⟨k, hk, rfl, hm, hres, hb⟩ := hrel
    obtain ⟨wo, rfl⟩ : ∃ x : World, x = wr := ⟨_, rfl⟩
    have HM := Lib.hid hm
    have HR := Lib.hid hres
    have HB := Lib.hid hb
    clear hm hres hb
    by_cases hlt : k < 4
    · go_wp2_with (first
        | (with_reducible refine index_rows rfl (.tmp 8) (.tmp 9) rfl f k rfl rfl hlt ?_)
        | (with_reducible refine store_new rfl 64 (.tmp 4) (.tmp 12) rfl wo.heap.size _ (rowA (f k)) rfl rfl rfl 4 row_ty rfl rfl (rowA_one _) ?_)
        | (with_reducible refine load_arr rfl 64 (.tmp 4) rfl wo.heap.size _ _ _ rfl (Arr.made wo _ _ _ (Nat.le_refl _) (by simp [rowA_size, maxLen])) 4 row_ty rfl ?_))
      have HM2 := Lib.hid (HM.out.alloc (.cells (rowA (f k)) 64))
      have HR2 := Lib.hid (HR.out.alloc (.cells (rowA (f k)) 64))
      have HB2 := Lib.hid (HB.out.alloc HB.out.size (.cells (rowA (f k)) 64))
      go_loopw [14] (fun i w' => ∃ j : Nat, j ≤ 4 ∧ i = .int .i64 j ∧ Arr w' w.heap.size 67 w.heap.size (sqA n (rowsTo (markF f) f k j)) ∧ Arr w' w.heap.size 67 (w.heap.size + 1) (sqA 0 fun _ _ => 0) ∧ Below w.heap.size w w') (fun i _ => 4 - (intOf i).toNat)
      case atStart => exact ⟨0, by omega, rfl, HM2.out, HR2.out, HB2.out⟩
      case round =>
        obtain ⟨j, hj, rfl, hm, hres, hb⟩ := hrel
        obtain ⟨wi, rfl⟩ : ∃ x : World, x = wr := ⟨_, rfl⟩
        have HM := Lib.hid hm
        have HR := Lib.hid hres
        have HB := Lib.hid hb
        by_cases hlt2 : j < 4
        · have g3 := hm.frozen (1 + k * 4 + j)
          have g2 := hm.cell _ _ (sqA_get n _ k j hlt hlt2)
          clear hm hres hb
          go_wp2_with (with_reducible refine index_row rfl 64 Try.underlying64 (.tmp 13) (.tmp 14) rfl (f k) j rfl rfl hlt2 ?_)
          go_roundw
          case rel =>
            refine ⟨j + 1, by omega, by go_num, HM.out.set (1 + k * 4 + j) _ ?_, HR.out.other (by simp <;> omega) _, HB.out.setCell (by simp <;> omega) _⟩
            rw [← rowsTo_succ, sqA_set _ _ _ _ _ hlt hlt2]
            first
              | rfl
              | rw [show min (f k j) 1 = markF f k j from by unfold markF; split <;> omega]
          case measure => simp [intOf]; omega
        · have hj4 : j = 4 := by omega
          subst hj4
          clear hm hres hb
          go_wp2_with fail
          go_roundw
          case rel => exact ⟨k + 1, by omega, by go_num, by rw [← rowsTo_next]; exact HM.out, HR.out, HB.out⟩
          case measure => simp [intOf]; omega
    · have hk4 : k = 4 := by omega
      subst hk4
      go_wp2_with (first
        | (with_reducible refine load_arr rfl 67 (.tmp 1) rfl w.heap.size _ _ _ rfl HM.out 17 sq_ty rfl ?_)
        | (with_reducible refine store_arr rfl 67 (.tmp 2) (.tmp 27) rfl (w.heap.size + 1) _ _ (sqA n (rowsTo (markF f) f 4 0)) rfl rfl HR.out 17 sq_ty rfl rfl (sqA_one _ _) ?_))
      exact post_arr 67 rfl rfl (HR.out.row (c' := sqA n (rowsTo (markF f) f 4 0)) rfl) sq_ty rfl rfl ⟨by rw [rowsTo_end], below_row HB.out (by omega) _⟩

/-- 1 in the first n rows and columns -/
def onesF (n : Nat) : Nat → Nat → Int := fun a c => if a < n ∧ c < n then 1 else 0
def colOne (n : Nat) : Nat → Nat → Int := fun _ c => if c < n then 1 else 0
theorem ones_next (n i : Nat) : sqA n (rowsTo (colOne n) (fun _ _ => 0) i n) = sqA n (rowsTo (colOne n) (fun _ _ => 0) (i + 1) 0) := by
  refine sqA_congr fun a c ha hc => ?_
  unfold rowsTo colOne
  by_cases h : c < n
  · have e : (a < i ∨ (a = i ∧ c < n)) ↔ (a < i + 1 ∨ (a = i + 1 ∧ c < 0)) := by omega
    simp only [e]
  · rw [if_neg h]
    simp
theorem ones_end (n : Nat) : rowsTo (colOne n) (fun _ _ => 0) n 0 = onesF n := by
  funext a c
  unfold rowsTo onesF colOne
  by_cases h : c < n
  · have e : (a < n ∨ (a = n ∧ c < 0)) ↔ (a < n ∧ c < n) := by omega
    simp only [e, if_pos h]
  · rw [if_neg h, if_neg (by omega : ¬ (a < n ∧ c < n))]
    simp

set_option maxHeartbeats 1000000 in
set_option maxRecDepth 100000 in
theorem implMarkedAll (n : Nat) (hn : n ≤ 4) (w : World) :
    Calls Try.prog 62 #[.int .i64 n] w fun e w' => e = .returned (.agg (sqA n (onesF n))) ∧ Below w.heap.size w w' := by
  have hbld := build_sq n
  go_enter Try.func62, Try.ntmps62
  go_wp2_with (with_reducible refine store_new rfl 67 (.tmp 3) (.tmp 7) rfl (w.heap.size + 1) _ (sqA n fun _ _ => 0) (by simp) rfl rfl 17 sq_ty rfl rfl (sqA_one _ _) ?_)
  go_loopw [9] (fun i w' => ∃ k : Nat, k ≤ n ∧ i = .int .i64 k ∧ Arr w' w.heap.size 67 w.heap.size (sqA 0 fun _ _ => 0) ∧ Arr w' w.heap.size 67 (w.heap.size + 1) (sqA n (rowsTo (colOne n) (fun _ _ => 0) k 0)) ∧ Below w.heap.size w w') (fun i _ => n - (intOf i).toNat)
  case atStart =>
    refine ⟨0, by omega, rfl, ?_, ?_, ((Below.refl _ _).alloc (Nat.le_refl _) _).alloc (by simp) _⟩
    · exact (Arr.made _ _ _ _ (Nat.le_refl _) (by simp [maxLen])).alloc _
    · rw [rowsTo_zero]
      have := Arr.made (w.alloc (.cells (sqA 0 fun _ _ => 0) 67)) w.heap.size 67 (sqA n fun _ _ => 0) (by simp) (by simp [sqA_size, maxLen])
      simp only [World.size_alloc] at this
      exact this
  case round =>
    obtain ⟨k, hk, rfl, hres, hm, hb⟩ := hrel
    obtain ⟨wo, rfl⟩ : ∃ x : World, x = wr := ⟨_, rfl⟩
    have HM := Lib.hid hm
    have HR := Lib.hid hres
    have HB := Lib.hid hb
    clear hm hres hb
    by_cases hlt : k < n
    · go_wp2_with fail
      go_loopw [13] (fun i w' => ∃ j : Nat, j ≤ n ∧ i = .int .i64 j ∧ Arr w' w.heap.size 67 w.heap.size (sqA 0 fun _ _ => 0) ∧ Arr w' w.heap.size 67 (w.heap.size + 1) (sqA n (rowsTo (colOne n) (fun _ _ => 0) k j)) ∧ Below w.heap.size w w') (fun i _ => n - (intOf i).toNat)
      case atStart => exact ⟨0, by omega, rfl, HR.out, HM.out, HB.out⟩
      case round =>
        obtain ⟨j, hj, rfl, hres, hm, hb⟩ := hrel
        obtain ⟨wi, rfl⟩ : ∃ x : World, x = wr := ⟨_, rfl⟩
        have HM := Lib.hid hm
        have HR := Lib.hid hres
        have HB := Lib.hid hb
        by_cases hlt2 : j < n
        · have g3 := hm.frozen (1 + k * 4 + j)
          have g2 := hm.cell _ _ (sqA_get n _ k j (by omega) (by omega))
          have hk4 : k < 4 := by omega
          have hj4 : j < 4 := by omega
          have HD : Hid (colOne n k j = 1) := by show colOne n k j = 1; exact if_pos hlt2
          clear hm hres hb
          go_wp2_with fail
          go_roundw
          case rel =>
            refine ⟨j + 1, by omega, by go_num, HR.out.other (by simp <;> omega) _, HM.out.set (1 + k * 4 + j) _ ?_, HB.out.setCell (by simp <;> omega) _⟩
            rw [← rowsTo_succ, sqA_set _ _ _ _ _ hk4 hj4, HD.out]
          case measure => simp [intOf]; omega
        · have hj4 : j = n := by omega
          subst hj4
          clear hm hres hb
          go_wp2_with fail
          go_roundw
          case rel => exact ⟨k + 1, by omega, by go_num, HR.out, by rw [← ones_next]; exact HM.out, HB.out⟩
          case measure => simp [intOf]; omega
    · have hk4 : k = n := by omega
      subst hk4
      go_wp2_with (first
        | (with_reducible refine load_arr rfl 67 (.tmp 3) rfl (w.heap.size + 1) _ _ _ rfl HM.out 17 sq_ty rfl ?_)
        | (with_reducible refine store_arr rfl 67 (.tmp 2) (.tmp 23) rfl w.heap.size _ _ (sqA k (rowsTo (colOne k) (fun _ _ => 0) k 0)) rfl rfl HR.out 17 sq_ty rfl rfl (sqA_one _ _) ?_))
      exact post_arr 67 rfl rfl (HR.out.row (c' := sqA k (rowsTo (colOne k) (fun _ _ => 0) k 0)) rfl) sq_ty rfl rfl ⟨by rw [ones_end], below_row HB.out (Nat.le_refl _) _⟩
end Go.Proofs.Ytgidfainoijcmaa

/- Products of the program's squares, their marks, and the square of ones. -/
namespace Go.Proofs.Ytgidfainoijcmaa
open Go.RowKit

/-- the product's numbers -/
def timesF (n : Nat) (f g : Nat → Nat → Int) : Nat → Nat → Int := fun a c => if c < n then dotF f (fun j => g j c) a 4 else 0

set_option maxHeartbeats 1000000 in
set_option maxRecDepth 100000 in
theorem implTimes (n : Nat) (m : Int) (f g : Nat → Nat → Int) (hn : n ≤ 4) (hsm : ∀ k, k < n → Small f (fun j => g j k)) (w : World) :
    Calls Try.prog 57 #[.agg (sqA n f), .agg (sqA m g)] w fun e w' => e = .returned (.agg (sqA n (timesF n f g))) ∧ Below w.heap.size w w' := by
  have HSM := Lib.hid hsm
  have hbld := build_sq n
  have hz := sqA_zero n f
  have hz2 := sqA_zero n fun _ _ => 0
  clear hsm
  go_enter Try.func57, Try.ntmps57
  go_wp2_with (with_reducible refine store_new rfl 67 (.tmp 5) (.tmp 11) rfl (w.heap.size + 1 + 1 + 1) _ (sqA n fun _ _ => 0) (by simp) rfl rfl 17 sq_ty rfl rfl (sqA_one _ _) ?_)
  go_loopw [14] (fun i w' => ∃ k : Nat, k ≤ n ∧ i = .int .i64 k ∧ Arr w' w.heap.size 67 w.heap.size (sqA n f) ∧ Arr w' w.heap.size 67 (w.heap.size + 1) (sqA m g) ∧ Arr w' w.heap.size 67 (w.heap.size + 1 + 1) (sqA 0 fun _ _ => 0) ∧ Arr w' w.heap.size 67 (w.heap.size + 1 + 1 + 1) (sqA n (colsTo (fun a c => dotF f (fun j => g j c) a 4) k 0)) ∧ Below w.heap.size w w') (fun i _ => n - (intOf i).toNat)
  case atStart =>
    refine ⟨0, by omega, rfl, ?_, ?_, ?_, ?_, ((((Below.refl _ _).alloc (Nat.le_refl _) _).alloc (by simp) _).alloc (by simp; omega) _).alloc (by simp; omega) _⟩
    · exact (((Arr.made _ _ _ _ (Nat.le_refl _) (by simp [sqA_size, maxLen])).alloc _).alloc _).alloc _
    · have := ((Arr.made (w.alloc (.cells (sqA n f) 67)) w.heap.size 67 (sqA m g) (by simp) (by simp [sqA_size, maxLen])).alloc (.cells (sqA 0 fun _ _ => 0) 67)).alloc (.cells (sqA n fun _ _ => 0) 67)
      simp only [World.size_alloc] at this
      exact this
    · have := (Arr.made ((w.alloc (.cells (sqA n f) 67)).alloc (.cells (sqA m g) 67)) w.heap.size 67 (sqA 0 fun _ _ => 0) (by simp; omega) (by simp [sqA_size, maxLen])).alloc (.cells (sqA n fun _ _ => 0) 67)
      simp only [World.size_alloc] at this
      exact this
    · rw [colsTo_zero]
      have := Arr.made (((w.alloc (.cells (sqA n f) 67)).alloc (.cells (sqA m g) 67)).alloc (.cells (sqA 0 fun _ _ => 0) 67)) w.heap.size 67 (sqA n fun _ _ => 0) (by simp; omega) (by simp [sqA_size, maxLen])
      simp only [World.size_alloc] at this
      exact this
  case round =>
    obtain ⟨k, hk, rfl, hm, hg, hres, hp, hb⟩ := hrel
    obtain ⟨wo, rfl⟩ : ∃ x : World, x = wr := ⟨_, rfl⟩
    have HM := Lib.hid hm
    have HG := Lib.hid hg
    have HR := Lib.hid hres
    have HP := Lib.hid hp
    have HB := Lib.hid hb
    clear hm hg hres hp hb
    by_cases hlt : k < n
    · have hsk := HSM.out k hlt
      have HSK := Lib.hid hsk
      clear hsk
      go_upto_region 5 with (fail)
      go_cut [6, 21, 22] (fun s t u wx => s = .int .i64 k ∧ t = .agg (rowA fun i => dotF f (fun j => g j k) i 4) ∧ u = .int .i64 0 ∧ Below wo.heap.size wo wx)
      case first =>
        have HBc : Hid (Below wo.heap.size wo wo.drew) := below_drewN (Below.refl _ _) 1
        go_region_held3 (fun w' => (w'.cell? ⟨w.heap.size, 0, none⟩ = some (.int .i64 n) ∧ w'.cell? ⟨w.heap.size, 1, none⟩ = some (.int .i64 (f 0 0)) ∧ w'.cell? ⟨w.heap.size, 2, none⟩ = some (.int .i64 (f 0 1)) ∧ w'.cell? ⟨w.heap.size, 3, none⟩ = some (.int .i64 (f 0 2)) ∧ w'.cell? ⟨w.heap.size, 4, none⟩ = some (.int .i64 (f 0 3)) ∧ w'.cell? ⟨w.heap.size, 5, none⟩ = some (.int .i64 (f 1 0)) ∧ w'.cell? ⟨w.heap.size, 6, none⟩ = some (.int .i64 (f 1 1)) ∧ w'.cell? ⟨w.heap.size, 7, none⟩ = some (.int .i64 (f 1 2)) ∧ w'.cell? ⟨w.heap.size, 8, none⟩ = some (.int .i64 (f 1 3)) ∧ w'.cell? ⟨w.heap.size, 9, none⟩ = some (.int .i64 (f 2 0)) ∧ w'.cell? ⟨w.heap.size, 10, none⟩ = some (.int .i64 (f 2 1)) ∧ w'.cell? ⟨w.heap.size, 11, none⟩ = some (.int .i64 (f 2 2)) ∧ w'.cell? ⟨w.heap.size, 12, none⟩ = some (.int .i64 (f 2 3)) ∧ w'.cell? ⟨w.heap.size, 13, none⟩ = some (.int .i64 (f 3 0)) ∧ w'.cell? ⟨w.heap.size, 14, none⟩ = some (.int .i64 (f 3 1)) ∧ w'.cell? ⟨w.heap.size, 15, none⟩ = some (.int .i64 (f 3 2)) ∧ w'.cell? ⟨w.heap.size, 16, none⟩ = some (.int .i64 (f 3 3))) ∧ (w'.cell? ⟨w.heap.size + 1, 0, none⟩ = some (.int .i64 m) ∧ w'.cell? ⟨w.heap.size + 1, 1, none⟩ = some (.int .i64 (g 0 0)) ∧ w'.cell? ⟨w.heap.size + 1, 2, none⟩ = some (.int .i64 (g 0 1)) ∧ w'.cell? ⟨w.heap.size + 1, 3, none⟩ = some (.int .i64 (g 0 2)) ∧ w'.cell? ⟨w.heap.size + 1, 4, none⟩ = some (.int .i64 (g 0 3)) ∧ w'.cell? ⟨w.heap.size + 1, 5, none⟩ = some (.int .i64 (g 1 0)) ∧ w'.cell? ⟨w.heap.size + 1, 6, none⟩ = some (.int .i64 (g 1 1)) ∧ w'.cell? ⟨w.heap.size + 1, 7, none⟩ = some (.int .i64 (g 1 2)) ∧ w'.cell? ⟨w.heap.size + 1, 8, none⟩ = some (.int .i64 (g 1 3)) ∧ w'.cell? ⟨w.heap.size + 1, 9, none⟩ = some (.int .i64 (g 2 0)) ∧ w'.cell? ⟨w.heap.size + 1, 10, none⟩ = some (.int .i64 (g 2 1)) ∧ w'.cell? ⟨w.heap.size + 1, 11, none⟩ = some (.int .i64 (g 2 2)) ∧ w'.cell? ⟨w.heap.size + 1, 12, none⟩ = some (.int .i64 (g 2 3)) ∧ w'.cell? ⟨w.heap.size + 1, 13, none⟩ = some (.int .i64 (g 3 0)) ∧ w'.cell? ⟨w.heap.size + 1, 14, none⟩ = some (.int .i64 (g 3 1)) ∧ w'.cell? ⟨w.heap.size + 1, 15, none⟩ = some (.int .i64 (g 3 2)) ∧ w'.cell? ⟨w.heap.size + 1, 16, none⟩ = some (.int .i64 (g 3 3))))
          (exact ⟨(HM.out.below HBc.out).cells17, (HG.out.below HBc.out).cells17⟩)
          (first
            | (go_at_call 65
               refine (implColumn m g k (by omega) _).mono ?_
               rintro e w' ⟨rfl, hbc⟩
               replace HBc : Hid (Below wo.heap.size wo w') := HBc.out.trans (hbc.mono HBc.out.size))
            | (go_at_call 78
               refine (implTimesColumn n f _ HSK.out _).mono ?_
               rintro e w' ⟨rfl, hbt⟩
               replace HBc : Hid (Below wo.heap.size wo w') := HBc.out.trans (hbt.mono HBc.out.size)))
        all_goals (go_wp2_with fail; go_meet; exact ⟨rfl, rfl, rfl, HBc.out⟩)
      case rest =>
        obtain ⟨rfl, rfl, rfl, hbx⟩ := hcut
        have HP2 := Lib.hid (HP.out.below hbx)
        have HM2 := Lib.hid (HM.out.below hbx)
        have HG2 := Lib.hid (HG.out.below hbx)
        have HR2 := Lib.hid (HR.out.below hbx)
        have HB2 := Lib.hid (HB.out.trans (hbx.mono HB.out.size))
        clear hbx
        go_wp2_with fail
        go_loopw [22] (fun i w' => ∃ j : Nat, j ≤ 4 ∧ i = .int .i64 j ∧ Arr w' w.heap.size 67 w.heap.size (sqA n f) ∧ Arr w' w.heap.size 67 (w.heap.size + 1) (sqA m g) ∧ Arr w' w.heap.size 67 (w.heap.size + 1 + 1) (sqA 0 fun _ _ => 0) ∧ Arr w' w.heap.size 67 (w.heap.size + 1 + 1 + 1) (sqA n (colsTo (fun a c => dotF f (fun j => g j c) a 4) k j)) ∧ Below w.heap.size w w') (fun i _ => 4 - (intOf i).toNat)
        case atStart => exact ⟨0, by omega, rfl, HM2.out, HG2.out, HR2.out, HP2.out, HB2.out⟩
        case round =>
          obtain ⟨j, hj, rfl, hm, hg, hres, hp, hb⟩ := hrel
          obtain ⟨wi, rfl⟩ : ∃ x : World, x = wr := ⟨_, rfl⟩
          have HM := Lib.hid hm
          have HG := Lib.hid hg
          have HR := Lib.hid hres
          have HP := Lib.hid hp
          have HB := Lib.hid hb
          by_cases hlt2 : j < 4
          · have g3 := hp.frozen (1 + j * 4 + k)
            have g2 := hp.cell _ _ (sqA_get n _ j k hlt2 (by omega))
            clear hm hg hres hp hb
            go_wp2_with (with_reducible refine index_row rfl 64 Try.underlying64 (.tmp 21) (.tmp 22) rfl (fun i => dotF f (fun j => g j k) i 4) j rfl rfl hlt2 ?_)
            go_roundw
            case rel =>
              refine ⟨j + 1, by omega, by go_num, HM.out.other (by simp <;> omega) _, HG.out.other (by simp <;> omega) _, HR.out.other (by simp <;> omega) _, HP.out.set (1 + j * 4 + k) _ ?_, HB.out.setCell (by simp <;> omega) _⟩
              rw [sqA_set _ _ _ _ _ hlt2 (by omega), ← colsTo_succ]
            case measure => simp [intOf]; omega
          · have hj4 : j = 4 := by omega
            subst hj4
            clear hm hg hres hp hb
            go_wp2_with fail
            go_roundw
            case rel => exact ⟨k + 1, by omega, by go_num, HM.out, HG.out, HR.out, by rw [← colsTo_next]; exact HP.out, HB.out⟩
            case measure => simp [intOf]; omega
    · have hkn : k = n := by omega
      subst hkn
      go_wp2_with (first
        | (with_reducible refine load_arr rfl 67 (.tmp 5) rfl (w.heap.size + 1 + 1 + 1) _ _ _ rfl HP.out 17 sq_ty rfl ?_)
        | (with_reducible refine store_arr rfl 67 (.tmp 4) (.tmp 34) rfl (w.heap.size + 1 + 1) _ _ (sqA k (colsTo (fun a c => dotF f (fun j => g j c) a 4) k 0)) rfl rfl HR.out 17 sq_ty rfl rfl (sqA_one _ _) ?_))
      exact post_arr 67 rfl rfl (HR.out.row (c' := sqA k (colsTo (fun a c => dotF f (fun j => g j c) a 4) k 0)) rfl) sq_ty rfl rfl ⟨by rw [colsTo_end]; rfl, below_row HB.out (by omega) _⟩
end Go.Proofs.Ytgidfainoijcmaa

/- A row of the program's squares cut; a square as a slice of slices. -/
namespace Go.Proofs.Ytgidfainoijcmaa
open Go.RowKit

/-- x[:k] of a row of a square -/
theorem cut_upto (b o k : Nat) (hk : k ≤ 4) (w : World) : (Instr.sliceAt 64 (.pointer (some ⟨b, o, none⟩)) none (some (.int .i64 (k : Int))) none).run Try.prog w = .ok (.slice (some ⟨b, o, none⟩) k 4) w := by
  have h1 : (0 : Int) ≤ k ∧ (k : Int) ≤ (4 : Nat) := by omega
  simp [Instr.sliceAt, Instr.sliceBounds, Instr.sliceBound, asIntOf, run_underlying Try.underlying64, Instr.sureAddr, hk, Addr.add]
/-- x[k:] of a row of a square -/
theorem cut_from (b o k : Nat) (hk : k < 4) (w : World) : (Instr.sliceAt 64 (.pointer (some ⟨b, o, none⟩)) (some (.int .i64 (k : Int))) none none).run Try.prog w = .ok (.slice (some ⟨b, o + k, none⟩) (4 - k) (4 - k)) w := by
  have h1 : (0 : Int) ≤ k ∧ (k : Int) ≤ (4 : Nat) := by omega
  have h2 : ¬ 4 = k := by omega
  simp [Instr.sliceAt, Instr.sliceBounds, Instr.sliceBound, asIntOf, run_underlying Try.underlying64, Instr.sureAddr, h2, Nat.le_of_lt hk, Addr.add]
/-- the first n rows and columns -/
def matOf (n : Nat) (f : Nat → Nat → Int) : List (List Int) := (List.range n).map fun i => (List.range n).map (f i)
theorem matOf_length (n : Nat) (f : Nat → Nat → Int) : (matOf n f).length = n := by simp [matOf]
theorem matOf_at (n : Nat) (f : Nat → Nat → Int) (i : Nat) (h : i < (matOf n f).length) : (matOf n f)[i] = (List.range n).map (f i) := by simp [matOf]
theorem row_take (c : Nat → Int) (n : Nat) (hn : n ≤ 4) : ([c 0, c 1, c 2, c 3] : List Int).take n = (List.range n).map c := by
  rcases (by omega : n = 0 ∨ n = 1 ∨ n = 2 ∨ n = 3 ∨ n = 4) with rfl | rfl | rfl | rfl | rfl <;> rfl
/-- the cells of a row of a square, as they are asked for by the library's functions -/
theorem Arr.rowCells {w : World} {B : Nat} {T : TypeId} {b : Nat} {n : Int} {f : Nat → Nat → Int} (h : Arr w B T b (sqA n f)) (i : Nat) (hi : i < 4) : ∀ j, j < ([f i 0, f i 1, f i 2, f i 3] : List Int).length → w.cell? ⟨b, 1 + i * 4 + j, none⟩ = some (.int .i64 (([f i 0, f i 1, f i 2, f i 3] : List Int).getD j 0)) := by
  intro j hj
  have hj4 : j < 4 := by simpa using hj
  rw [h.cell _ _ (sqA_get n f i j hi hj4)]
  rcases four_cases hj4 with rfl | rfl | rfl | rfl <;> rfl

set_option maxHeartbeats 1000000 in
set_option maxRecDepth 100000 in
theorem implLists (n : Nat) (f : Nat → Nat → Int) (h1 : 1 ≤ n) (hn : n ≤ 4) (w : World) :
    Calls Try.prog 51 #[.agg (sqA n f)] w fun e w' => ∃ v', e = .returned v' ∧ OwnMat w' w.heap.size w'.heap.size v' (matOf n f) ∧ Below w.heap.size w w' := by
  obtain ⟨i0, hi0, hz0, hz1, hz2⟩ := info_parts ints_info
  have h0 := Arr.made w w.heap.size 67 (sqA n f) (Nat.le_refl _) (by simp [sqA_size, maxLen])
  have g0 : (w.alloc (.cells (sqA n f) 67)).cell? ⟨w.heap.size, 0, none⟩ = some (.int .i64 n) := h0.cell 0 _ rfl
  have H0 := Lib.hid h0
  have HB0 : Hid (Below w.heap.size w (w.alloc (.cells (sqA n f) 67))) := (Below.refl _ _).alloc (Nat.le_refl _) _
  have hsz0 : (w.alloc (.cells (sqA n f) 67)).heap.size = w.heap.size + 1 := by simp
  clear h0
  have hl := matOf_length n f
  have HL : Hid ((matOf n f).length = n) := hl
  go_enter Try.func51, Try.ntmps51
  go_wp2_with (at_make; refine wpList_make_full _ rfl _ _ 27 rfl (w.heap.size + 1) 30 i0 (.slice none 0 0) 1 Try.underlying27 hi0 hz0 hz1 .i64 .i64 _ _ n rfl rfl rfl rfl (by rw [hz2]; omega) (by unfold maxLen; omega) (by simp) ?_; intro w1 hown hgrow)
  have hb1 : Below (w.heap.size + 1) (w.alloc (.cells (sqA n f) 67)) w1 := by
    have := (Below.refl (w.alloc (.cells (sqA n f) 67)).heap.size (w.alloc (.cells (sqA n f) 67))).grown hgrow (Nat.le_refl _) (fun k hk => by cases hk)
    simpa using this
  have hbw : Below w.heap.size w w1 := HB0.out.trans (hb1.mono (by omega))
  have hsq : Arr w1 w.heap.size 67 w.heap.size (sqA n f) := H0.out.below (by simpa using hb1)
  simp only [World.size_alloc] at hown
  have HD : Hid (((madeCells (Value.slice none 0 0).cells (n * 1)).toList).length = n) := by
    have := hown.1
    unfold Hid
    omega
  generalize (madeCells (Value.slice none 0 0).cells (n * 1)).toList = zs at hown HD
  have hz1' : w.heap.size + 1 + 1 ≤ w1.heap.size := by have := (hown.lt (w.heap.size + 1) rfl).2; omega
  have HW0 := Lib.hid hbw
  clear hb1 hgrow hbw
  go_wp2_with fail
  go_loopw [10] (fun i w' => ∃ (us : List Value), us.length ≤ n ∧ i = .int .i64 us.length ∧ w'.ownsRow (w.heap.size + 1) 30 1 (.slice (some ⟨w.heap.size + 1, 0, none⟩) n n) n (us ++ zs.drop us.length) ∧ RowsTo w' (w.heap.size + 1 + 1) us (matOf n f) ∧ Arr w' w.heap.size 67 w.heap.size (sqA n f) ∧ Below w.heap.size w w' ∧ w.heap.size + 1 + 1 ≤ w'.heap.size) (fun i _ => n - (intOf i).toNat)
  case atStart => exact ⟨[], by simp, rfl, by simpa using hown, ⟨by simp, fun i h => absurd h (by simp), fun i j h => absurd h (by simp)⟩, hsq, HW0.out, hz1'⟩
  case round =>
    obtain ⟨us, hk, rfl, ho, hrw, hq, hbk, hzk⟩ := hrel
    obtain ⟨wo, rfl⟩ : ∃ x : World, x = wr := ⟨_, rfl⟩
    clear hown hsq
    by_cases hlt : us.length < n
    · have HO := Lib.hid ho
      have HW := Lib.hid hrw
      have HQ := Lib.hid hq
      have HB := Lib.hid hbk
      have hcell : ∃ u0, (us ++ zs.drop us.length)[us.length]? = some u0 := ⟨(us ++ zs.drop us.length)[us.length]'(by rw [List.length_append, List.length_drop, HD.out]; omega), List.getElem?_eq_getElem _⟩
      obtain ⟨u0, hu0⟩ := hcell
      have HC0 : Hid (wo.cell? ⟨w.heap.size + 1, us.length, none⟩ = some u0) := (ho.cellAt us.length (by omega)).trans hu0
      have HF0 : Hid (wo.frozen? ⟨w.heap.size + 1, us.length, none⟩ = false) := ho.frozenAt us.length
      have gq : wo.cell? ⟨w.heap.size, 0, none⟩ = some (.int .i64 n) := hq.cell 0 _ rfl
      have h4 : us.length < 4 := by omega
      have hcu := cut_upto w.heap.size (1 + us.length * 4) n hn
      clear ho hrw hq hbk hu0
      go_upto_region 5 with (fail)
      go_region_with (go_at_call 79
                      go_loud (refine (Try.slices_Clone_int w.heap.size (1 + us.length * 4) n 4 [f us.length 0, f us.length 1, f us.length 2, f us.length 3] wo.drew (by simpa using hn) (by omega) (fun j hj => (HQ.out.rowCells us.length (by omega) j hj))).mono ?_)
                      rintro e w2 ⟨v2, rfl, ho2, _, hb2⟩
                      have hrow : w2.ownsRow wo.heap.size 3 1 v2 ((matOf n f)[us.length]'(by rw [HL.out]; exact hlt)).length (ints ((matOf n f)[us.length]'(by rw [HL.out]; exact hlt))) := ?_
                      rotate_left
                      · simp only [matOf_at]
                        rw [← row_take _ n hn]
                        simpa [ints, Nat.min_eq_left hn] using ho2
                      have HO2 := Lib.hid hrow
                      have hb2' : Below wo.heap.size wo w2 := ?_
                      rotate_left
                      · exact (below_drewN (Below.refl _ _) 1).trans hb2
                      have HB2 := Lib.hid hb2'
                      obtain ⟨A2, cp2, rfl⟩ := own_slice ho2
                      have c2 : w2.cell? ⟨w.heap.size + 1, us.length, none⟩ = some u0 := ?_
                      rotate_left
                      · exact (hb2'.cell (p := ⟨w.heap.size + 1, us.length, none⟩) (by simp; omega)).trans HC0.out
                      have f2 : w2.frozen? ⟨w.heap.size + 1, us.length, none⟩ = false := ?_
                      rotate_left
                      · exact (hb2'.frozen (p := ⟨w.heap.size + 1, us.length, none⟩) (by simp; omega)).trans HF0.out
                      have hz2' := hb2'.size
                      clear ho2 hb2 hb2' hrow)
      all_goals
        go_wp2_with fail
        go_roundw
        case rel =>
          have hset : (us ++ zs.drop us.length).set us.length (.slice A2 n cp2) = (us ++ [.slice A2 n cp2]) ++ zs.drop (us.length + 1) := by
            have hd : zs.drop us.length = zs[us.length]'(by rw [HD.out]; exact hlt) :: zs.drop (us.length + 1) := List.drop_eq_getElem_cons _
            rw [hd, List.set_append_right _ _ (Nat.le_refl _), Nat.sub_self, List.set_cons_zero, List.append_assoc]
            rfl
          refine ⟨us ++ [.slice A2 n cp2], by simp; omega, by simp, ?_, ?_, ?_, ?_, ?_⟩
          · have := ((own_below HO.out HB2.out).stored us.length (.slice A2 n cp2)).1
            rw [hset] at this
            simpa using this
          · exact (HW.out.snoc HB2.out hzk (by rw [HL.out]; exact hlt) HO2.out).setCell (by simp) _
          · exact (HQ.out.below HB2.out).other (by simp) _
          · exact (HB.out.trans (HB2.out.mono (by omega))).setCell (by simp) _
          · simp; omega
        case measure => simp [intOf]; omega
    · have hkl : us.length = n := by omega
      have HO := Lib.hid ho
      have HW := Lib.hid hrw
      have HB := Lib.hid hbk
      have HKL := Lib.hid hkl
      clear ho hrw hbk hkl hq
      go_wp2_with fail
      go_ret
      refine ⟨_, rfl, ⟨30, us, HKL.out.trans HL.out.symm, ?_, fun i a b => ⟨3, own_mono (HW.out.2.1 i a b) (by omega)⟩, HW.out.2.2, fun i a k e => ⟨fun h => ?_, ((HW.out.2.1 i a (by rw [HL.out]; have := HKL.out; omega)).lt k e).2⟩, fun k e => (HO.out.lt k e).2⟩, HB.out⟩
      · have := HO.out
        rw [HKL.out, List.drop_of_length_le (by rw [HD.out]; exact Nat.le_refl _), List.append_nil] at this
        rw [HL.out]
        exact own_mono this (by omega)
      · have h1 := ((HW.out.2.1 i a (by rw [HL.out]; have := HKL.out; omega)).lt k e).1
        have h2 : w.heap.size + 1 = k := by simpa [Value.ownBlock] using h
        omega
end Go.Proofs.Ytgidfainoijcmaa
