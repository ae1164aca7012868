/- Marks of the program's squares, and the square of ones. -/
import Derived.Test.YtgidfainoijcmaaSqA
import Derived.Deep.DeepCutAuto
import Derived.Deep.RegionWith
namespace Go.Proofs.Ytgidfainoijcmaa
open Go.RowKit

theorem build_sq (n : Int) (w : World) : (Instr.build 67 #[(0, .int .i64 n)]).run Try.prog w = .ok (.agg (sqA n fun _ _ => 0)) w := run_build w _ _ _ (by kernel_rfl)
theorem build_sq0 (w : World) : (Instr.build 67 #[]).run Try.prog w = .ok (.agg (sqA 0 fun _ _ => 0)) w := run_build w _ _ _ (by kernel_rfl)
theorem sqA_zero (n : Int) (f : Nat → Nat → Int) : (sqA n f)[0]? = some (.int .i64 n) := rfl
/-- the seventeen cells of a square, one by one -/
theorem Arr.cells17 {w : World} {B : Nat} {T : TypeId} {b : Nat} {n : Int} {f : Nat → Nat → Int} (h : Arr w B T b (sqA n f)) : w.cell? ⟨b, 0, none⟩ = some (.int .i64 n) ∧ w.cell? ⟨b, 1, none⟩ = some (.int .i64 (f 0 0)) ∧ w.cell? ⟨b, 2, none⟩ = some (.int .i64 (f 0 1)) ∧ w.cell? ⟨b, 3, none⟩ = some (.int .i64 (f 0 2)) ∧ w.cell? ⟨b, 4, none⟩ = some (.int .i64 (f 0 3)) ∧ w.cell? ⟨b, 5, none⟩ = some (.int .i64 (f 1 0)) ∧ w.cell? ⟨b, 6, none⟩ = some (.int .i64 (f 1 1)) ∧ w.cell? ⟨b, 7, none⟩ = some (.int .i64 (f 1 2)) ∧ w.cell? ⟨b, 8, none⟩ = some (.int .i64 (f 1 3)) ∧ w.cell? ⟨b, 9, none⟩ = some (.int .i64 (f 2 0)) ∧ w.cell? ⟨b, 10, none⟩ = some (.int .i64 (f 2 1)) ∧ w.cell? ⟨b, 11, none⟩ = some (.int .i64 (f 2 2)) ∧ w.cell? ⟨b, 12, none⟩ = some (.int .i64 (f 2 3)) ∧ w.cell? ⟨b, 13, none⟩ = some (.int .i64 (f 3 0)) ∧ w.cell? ⟨b, 14, none⟩ = some (.int .i64 (f 3 1)) ∧ w.cell? ⟨b, 15, none⟩ = some (.int .i64 (f 3 2)) ∧ w.cell? ⟨b, 16, none⟩ = some (.int .i64 (f 3 3)) :=
  ⟨h.cell 0 _ rfl, h.cell 1 _ rfl, h.cell 2 _ rfl, h.cell 3 _ rfl, h.cell 4 _ rfl, h.cell 5 _ rfl, h.cell 6 _ rfl, h.cell 7 _ rfl, h.cell 8 _ rfl, h.cell 9 _ rfl, h.cell 10 _ rfl, h.cell 11 _ rfl, h.cell 12 _ rfl, h.cell 13 _ rfl, h.cell 14 _ rfl, h.cell 15 _ rfl, h.cell 16 _ rfl⟩
/-- the square while column by column is laid: the columns before k, and of column k the numbers before i -/
def colsTo (D : Nat → Nat → Int) (k i : Nat) : Nat → Nat → Int := fun a c => if c < k ∨ (c = k ∧ a < i) then D a c else 0
theorem colsTo_succ (D : Nat → Nat → Int) (k i : Nat) : upd2 (colsTo D k i) i k (D i k) = colsTo D k (i + 1) := by
  funext a c
  unfold upd2 colsTo
  by_cases h : a = i ∧ c = k
  · obtain ⟨rfl, rfl⟩ := h
    simp
  · rw [if_neg h]
    have e : (c < k ∨ (c = k ∧ a < i)) ↔ (c < k ∨ (c = k ∧ a < i + 1)) := by omega
    simp only [e]
theorem colsTo_next (D : Nat → Nat → Int) (n : Int) (k : Nat) : sqA n (colsTo D k 4) = sqA n (colsTo D (k + 1) 0) := by
  refine sqA_congr fun a c ha hc => ?_
  unfold colsTo
  have e : (c < k ∨ (c = k ∧ a < 4)) ↔ (c < k + 1 ∨ (c = k + 1 ∧ a < 0)) := by omega
  simp only [e]
theorem colsTo_zero (D : Nat → Nat → Int) : colsTo D 0 0 = fun _ _ => 0 := by
  funext a c
  unfold colsTo
  rw [if_neg (by omega)]
theorem colsTo_end (D : Nat → Nat → Int) (n : Nat) : colsTo D n 0 = fun a c => if c < n then D a c else 0 := by
  funext a c
  unfold colsTo
  have e : (c < n ∨ (c = n ∧ a < 0)) ↔ c < n := by omega
  simp only [e]
/-- 1 for each number that is at least 1, else the number itself -/
def markF (f : Nat → Nat → Int) : Nat → Nat → Int := fun a c => if 1 < f a c then 1 else f a c
/-- the square while row by row is marked: the rows before i, and of row i the numbers before k -/
def rowsTo (D f : Nat → Nat → Int) (i k : Nat) : Nat → Nat → Int := fun a c => if a < i ∨ (a = i ∧ c < k) then D a c else f a c
theorem rowsTo_succ (D f : Nat → Nat → Int) (i k : Nat) : upd2 (rowsTo D f i k) i k (D i k) = rowsTo D f i (k + 1) := by
  funext a c
  unfold upd2 rowsTo
  by_cases h : a = i ∧ c = k
  · obtain ⟨rfl, rfl⟩ := h
    simp
  · rw [if_neg h]
    have e : (a < i ∨ (a = i ∧ c < k)) ↔ (a < i ∨ (a = i ∧ c < k + 1)) := by omega
    simp only [e]
theorem rowsTo_next (D f : Nat → Nat → Int) (n : Int) (i : Nat) : sqA n (rowsTo D f i 4) = sqA n (rowsTo D f (i + 1) 0) := by
  refine sqA_congr fun a c ha hc => ?_
  unfold rowsTo
  have e : (a < i ∨ (a = i ∧ c < 4)) ↔ (a < i + 1 ∨ (a = i + 1 ∧ c < 0)) := by omega
  simp only [e]
theorem rowsTo_zero (D f : Nat → Nat → Int) : rowsTo D f 0 0 = f := by
  funext a c
  unfold rowsTo
  rw [if_neg (by omega)]
theorem rowsTo_end (D f : Nat → Nat → Int) (n : Int) : sqA n (rowsTo D f 4 0) = sqA n D := by
  refine sqA_congr fun a c ha hc => ?_
  unfold rowsTo
  rw [if_pos (by omega)]

set_option maxHeartbeats 1000000 in
set_option maxRecDepth 100000 in
theorem implMarked (n : Int) (f : Nat → Nat → Int) (w : World) :
    Calls Try.prog 61 #[.agg (sqA n f)] w fun e w' => e = .returned (.agg (sqA n (markF f))) ∧ Below w.heap.size w w' := by
  have h0 := Arr.made w w.heap.size 67 (sqA n f) (Nat.le_refl _) (by simp [sqA_size, maxLen])
  have H0 := Lib.hid h0
  clear h0
  go_enter Try.func61, Try.ntmps61
  go_wp2_with (with_reducible refine load_part rfl 65 (.tmp 7) rfl w.heap.size 1 _ _ (sqA n f) (rowsA f) rfl (H0.out.alloc _) 16 rows_ty rfl (rowPart n f) ?_)
  go_loopw [9] (fun i w' => ∃ k : Nat, k ≤ 4 ∧ i = .int .i64 k ∧ Arr w' w.heap.size 67 w.heap.size (sqA n (rowsTo (markF f) f k 0)) ∧ Arr w' w.heap.size 67 (w.heap.size + 1) (sqA 0 fun _ _ => 0) ∧ Below w.heap.size w w') (fun i _ => 4 - (intOf i).toNat)
  case atStart =>
    refine ⟨0, by omega, rfl, ?_, ?_, ((Below.refl _ _).alloc (Nat.le_refl _) _).alloc (by simp) _⟩
    · rw [rowsTo_zero]
      exact (Arr.made _ _ _ _ (Nat.le_refl _) (by simp [sqA_size, maxLen])).alloc _
    · have := Arr.made (w.alloc (.cells (sqA n f) 67)) w.heap.size 67 (sqA 0 fun _ _ => 0) (by simp) (by simp [sqA_size, maxLen])
      simp only [World.size_alloc] at this
      exact this
  case round =>
    obtain ⟨k, hk, rfl, hm, hres, hb⟩ := hrel
    obtain ⟨wo, rfl⟩ : ∃ x : World, x = wr := ⟨_, rfl⟩
    have HM := Lib.hid hm
    have HR := Lib.hid hres
    have HB := Lib.hid hb
    clear hm hres hb
    by_cases hlt : k < 4
    · go_wp2_with (first
        | (with_reducible refine index_rows rfl (.tmp 8) (.tmp 9) rfl f k rfl rfl hlt ?_)
        | (with_reducible refine store_new rfl 64 (.tmp 4) (.tmp 12) rfl wo.heap.size _ (rowA (f k)) rfl rfl rfl 4 row_ty rfl rfl (rowA_one _) ?_)
        | (with_reducible refine load_arr rfl 64 (.tmp 4) rfl wo.heap.size _ _ _ rfl (Arr.made wo _ _ _ (Nat.le_refl _) (by simp [rowA_size, maxLen])) 4 row_ty rfl ?_))
      have HM2 := Lib.hid (HM.out.alloc (.cells (rowA (f k)) 64))
      have HR2 := Lib.hid (HR.out.alloc (.cells (rowA (f k)) 64))
      have HB2 := Lib.hid (HB.out.alloc HB.out.size (.cells (rowA (f k)) 64))
      go_loopw [14] (fun i w' => ∃ j : Nat, j ≤ 4 ∧ i = .int .i64 j ∧ Arr w' w.heap.size 67 w.heap.size (sqA n (rowsTo (markF f) f k j)) ∧ Arr w' w.heap.size 67 (w.heap.size + 1) (sqA 0 fun _ _ => 0) ∧ Below w.heap.size w w') (fun i _ => 4 - (intOf i).toNat)
      case atStart => exact ⟨0, by omega, rfl, HM2.out, HR2.out, HB2.out⟩
      case round =>
        obtain ⟨j, hj, rfl, hm, hres, hb⟩ := hrel
        obtain ⟨wi, rfl⟩ : ∃ x : World, x = wr := ⟨_, rfl⟩
        have HM := Lib.hid hm
        have HR := Lib.hid hres
        have HB := Lib.hid hb
        by_cases hlt2 : j < 4
        · have g3 := hm.frozen (1 + k * 4 + j)
          have g2 := hm.cell _ _ (sqA_get n _ k j hlt hlt2)
          clear hm hres hb
          go_wp2_with (with_reducible refine index_row rfl 64 Try.underlying64 (.tmp 13) (.tmp 14) rfl (f k) j rfl rfl hlt2 ?_)
          go_roundw
          case rel =>
            refine ⟨j + 1, by omega, by go_num, HM.out.set (1 + k * 4 + j) _ ?_, HR.out.other (by simp <;> omega) _, HB.out.setCell (by simp <;> omega) _⟩
            rw [← rowsTo_succ, sqA_set _ _ _ _ _ hlt hlt2]
            rfl
          case measure => simp [intOf]; omega
        · have hj4 : j = 4 := by omega
          subst hj4
          clear hm hres hb
          go_wp2_with fail
          go_roundw
          case rel => exact ⟨k + 1, by omega, by go_num, by rw [← rowsTo_next]; exact HM.out, HR.out, HB.out⟩
          case measure => simp [intOf]; omega
    · have hk4 : k = 4 := by omega
      subst hk4
      go_wp2_with (first
        | (with_reducible refine load_arr rfl 67 (.tmp 1) rfl w.heap.size _ _ _ rfl HM.out 17 sq_ty rfl ?_)
        | (with_reducible refine store_arr rfl 67 (.tmp 2) (.tmp 27) rfl (w.heap.size + 1) _ _ (sqA n (rowsTo (markF f) f 4 0)) rfl rfl HR.out 17 sq_ty rfl rfl (sqA_one _ _) ?_))
      exact post_arr 67 rfl rfl (HR.out.row (c' := sqA n (rowsTo (markF f) f 4 0)) rfl) sq_ty rfl rfl ⟨by rw [rowsTo_end], below_row HB.out (by omega) _⟩

/-- 1 in the first n rows and columns -/
def onesF (n : Nat) : Nat → Nat → Int := fun a c => if a < n ∧ c < n then 1 else 0
def colOne (n : Nat) : Nat → Nat → Int := fun _ c => if c < n then 1 else 0
theorem ones_next (n i : Nat) : sqA n (rowsTo (colOne n) (fun _ _ => 0) i n) = sqA n (rowsTo (colOne n) (fun _ _ => 0) (i + 1) 0) := by
  refine sqA_congr fun a c ha hc => ?_
  unfold rowsTo colOne
  by_cases h : c < n
  · have e : (a < i ∨ (a = i ∧ c < n)) ↔ (a < i + 1 ∨ (a = i + 1 ∧ c < 0)) := by omega
    simp only [e]
  · rw [if_neg h]
    simp
theorem ones_end (n : Nat) : rowsTo (colOne n) (fun _ _ => 0) n 0 = onesF n := by
  funext a c
  unfold rowsTo onesF colOne
  by_cases h : c < n
  · have e : (a < n ∨ (a = n ∧ c < 0)) ↔ (a < n ∧ c < n) := by omega
    simp only [e, if_pos h]
  · rw [if_neg h, if_neg (by omega : ¬ (a < n ∧ c < n))]
    simp

set_option maxHeartbeats 1000000 in
set_option maxRecDepth 100000 in
theorem implMarkedAll (n : Nat) (hn : n ≤ 4) (w : World) :
    Calls Try.prog 62 #[.int .i64 n] w fun e w' => e = .returned (.agg (sqA n (onesF n))) ∧ Below w.heap.size w w' := by
  have hbld := build_sq n
  go_enter Try.func62, Try.ntmps62
  go_wp2_with (with_reducible refine store_new rfl 67 (.tmp 3) (.tmp 7) rfl (w.heap.size + 1) _ (sqA n fun _ _ => 0) (by simp) rfl rfl 17 sq_ty rfl rfl (sqA_one _ _) ?_)
  go_loopw [9] (fun i w' => ∃ k : Nat, k ≤ n ∧ i = .int .i64 k ∧ Arr w' w.heap.size 67 w.heap.size (sqA 0 fun _ _ => 0) ∧ Arr w' w.heap.size 67 (w.heap.size + 1) (sqA n (rowsTo (colOne n) (fun _ _ => 0) k 0)) ∧ Below w.heap.size w w') (fun i _ => n - (intOf i).toNat)
  case atStart =>
    refine ⟨0, by omega, rfl, ?_, ?_, ((Below.refl _ _).alloc (Nat.le_refl _) _).alloc (by simp) _⟩
    · exact (Arr.made _ _ _ _ (Nat.le_refl _) (by simp [maxLen])).alloc _
    · rw [rowsTo_zero]
      have := Arr.made (w.alloc (.cells (sqA 0 fun _ _ => 0) 67)) w.heap.size 67 (sqA n fun _ _ => 0) (by simp) (by simp [sqA_size, maxLen])
      simp only [World.size_alloc] at this
      exact this
  case round =>
    obtain ⟨k, hk, rfl, hres, hm, hb⟩ := hrel
    obtain ⟨wo, rfl⟩ : ∃ x : World, x = wr := ⟨_, rfl⟩
    have HM := Lib.hid hm
    have HR := Lib.hid hres
    have HB := Lib.hid hb
    clear hm hres hb
    by_cases hlt : k < n
    · go_wp2_with fail
      go_loopw [13] (fun i w' => ∃ j : Nat, j ≤ n ∧ i = .int .i64 j ∧ Arr w' w.heap.size 67 w.heap.size (sqA 0 fun _ _ => 0) ∧ Arr w' w.heap.size 67 (w.heap.size + 1) (sqA n (rowsTo (colOne n) (fun _ _ => 0) k j)) ∧ Below w.heap.size w w') (fun i _ => n - (intOf i).toNat)
      case atStart => exact ⟨0, by omega, rfl, HR.out, HM.out, HB.out⟩
      case round =>
        obtain ⟨j, hj, rfl, hres, hm, hb⟩ := hrel
        obtain ⟨wi, rfl⟩ : ∃ x : World, x = wr := ⟨_, rfl⟩
        have HM := Lib.hid hm
        have HR := Lib.hid hres
        have HB := Lib.hid hb
        by_cases hlt2 : j < n
        · have g3 := hm.frozen (1 + k * 4 + j)
          have g2 := hm.cell _ _ (sqA_get n _ k j (by omega) (by omega))
          have hk4 : k < 4 := by omega
          have hj4 : j < 4 := by omega
          have HD : Hid (colOne n k j = 1) := by show colOne n k j = 1; exact if_pos hlt2
          clear hm hres hb
          go_wp2_with fail
          go_roundw
          case rel =>
            refine ⟨j + 1, by omega, by go_num, HR.out.other (by simp <;> omega) _, HM.out.set (1 + k * 4 + j) _ ?_, HB.out.setCell (by simp <;> omega) _⟩
            rw [← rowsTo_succ, sqA_set _ _ _ _ _ hk4 hj4, HD.out]
          case measure => simp [intOf]; omega
        · have hj4 : j = n := by omega
          subst hj4
          clear hm hres hb
          go_wp2_with fail
          go_roundw
          case rel => exact ⟨k + 1, by omega, by go_num, HR.out, by rw [← ones_next]; exact HM.out, HB.out⟩
          case measure => simp [intOf]; omega
    · have hk4 : k = n := by omega
      subst hk4
      go_wp2_with (first
        | (with_reducible refine load_arr rfl 67 (.tmp 3) rfl (w.heap.size + 1) _ _ _ rfl HM.out 17 sq_ty rfl ?_)
        | (with_reducible refine store_arr rfl 67 (.tmp 2) (.tmp 23) rfl w.heap.size _ _ (sqA k (rowsTo (colOne k) (fun _ _ => 0) k 0)) rfl rfl HR.out 17 sq_ty rfl rfl (sqA_one _ _) ?_))
      exact post_arr 67 rfl rfl (HR.out.row (c' := sqA k (rowsTo (colOne k) (fun _ _ => 0) k 0)) rfl) sq_ty rfl rfl ⟨by rw [ones_end], below_row HB.out (Nat.le_refl _) _⟩
end Go.Proofs.Ytgidfainoijcmaa
