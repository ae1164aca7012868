/- Columns, products and marks of the program's squares. -/
import Derived.Test.YtbbcdeknnfghkaaSq
import Derived.IntWalk
import Derived.BigRegion
namespace Go.Proofs.Ytbbcdeknnfghkaa
open Go.RowKit
/-- the sum of the first j products of row i of the square and the column -/
def dotF (f : Nat → Nat → Int) (c : Nat → Int) (i : Nat) : Nat → Int
  | 0 => 0
  | j + 1 => dotF f c i j + f i j * c j
/-- each number of the square from -100 to 100, each of the column of at most 10^13 -/
def Small (f : Nat → Nat → Int) (c : Nat → Int) : Prop := ∀ i j, i < 4 → j < 4 → -1000000000000000 ≤ f i j * c j ∧ f i j * c j ≤ 1000000000000000
theorem dotF_small {f : Nat → Nat → Int} {c : Nat → Int} (h : Small f c) (i : Nat) (hi : i < 4) : ∀ j : Nat, j ≤ 4 → -((j : Int) * 1000000000000000) ≤ dotF f c i j ∧ dotF f c i j ≤ (j : Int) * 1000000000000000
  | 0, _ => by simp [dotF]
  | j + 1, hj => by
    have ih := dotF_small h i hi j (by omega)
    have := h i j hi (by omega)
    unfold dotF
    omega
/-- the result's cells while row i is at column j -/
def dotR (f : Nat → Nat → Int) (c : Nat → Int) (i j : Nat) : Nat → Int := fun a => if a < i then dotF f c a 4 else if a = i then dotF f c i j else 0
theorem dotR_at (f : Nat → Nat → Int) (c : Nat → Int) (i j : Nat) : dotR f c i j i = dotF f c i j := by simp [dotR]
theorem dotR_succ (f : Nat → Nat → Int) (c : Nat → Int) (i j : Nat) : upd1 (dotR f c i j) i (dotF f c i j + f i j * c j) = dotR f c i (j + 1) := by
  funext a
  unfold upd1 dotR
  by_cases h : a = i
  · subst h; simp [dotF]
  · simp [h]
theorem dotR_next (f : Nat → Nat → Int) (c : Nat → Int) (i : Nat) : dotR f c i 4 = dotR f c (i + 1) 0 := by
  funext a
  unfold dotR
  by_cases h : a < i
  · rw [if_pos h, if_pos (by omega)]
  · by_cases h2 : a = i
    · subst h2; simp
    · rw [if_neg h, if_neg h2, if_neg (by omega)]
      split <;> rfl

set_option maxHeartbeats 400000 in
theorem implTimesColumn (n : Int) (f : Nat → Nat → Int) (c : Nat → Int) (hsm : Small f c) (w : World) :
    Calls Try.prog 64 #[.agg (sqA n f), .agg (rowA c)] w fun e w' => e = .returned (.agg (rowA fun i => dotF f c i 4)) ∧ Below w.heap.size w w' := by
  have h0 := Arr.made w w.heap.size 75 (sqA n f) (Nat.le_refl _) (by simp [sqA_size, maxLen])
  have HSM := Lib.hid hsm
  have H0 := Lib.hid h0
  clear hsm h0
  go_enter Try.func64, Try.ntmps64
  go_wp2_with (with_reducible refine load_part rfl 73 (.tmp 10) rfl w.heap.size 1 _ _ (sqA n f) (rowsA f) rfl (((H0.out.alloc _).alloc _).alloc _) 16 rows_ty rfl (rowPart n f) ?_)
  go_loopw [12] (fun i w' => ∃ k : Nat, k ≤ 4 ∧ i = .int .i64 k ∧ Arr w' w.heap.size 72 (w.heap.size + 1) (rowA c) ∧ Arr w' w.heap.size 72 (w.heap.size + 1 + 1) (rowA fun _ => 0) ∧ Arr w' w.heap.size 72 (w.heap.size + 1 + 1 + 1) (rowA (dotR f c k 0)) ∧ Below w.heap.size w w') (fun i _ => 4 - (intOf i).toNat)
  case atStart =>
    refine ⟨0, by omega, rfl, ?_, ?_, ?_, ((((Below.refl _ _).alloc (Nat.le_refl _) _).alloc (by simp) _).alloc (by simp; omega) _).alloc (by simp; omega) _⟩
    · have := ((Arr.made (w.alloc (.cells (sqA n f) 75)) w.heap.size 72 (rowA c) (by simp) (by simp [rowA_size, maxLen])).alloc (.cells (rowA fun _ => 0) 72)).alloc (.cells (rowA fun _ => 0) 72)
      simp only [World.size_alloc] at this
      exact this
    · have := (Arr.made ((w.alloc (.cells (sqA n f) 75)).alloc (.cells (rowA c) 72)) w.heap.size 72 (rowA fun _ => 0) (by simp; omega) (by simp [rowA_size, maxLen])).alloc (.cells (rowA fun _ => 0) 72)
      simp only [World.size_alloc] at this
      exact this
    · have := Arr.made (((w.alloc (.cells (sqA n f) 75)).alloc (.cells (rowA c) 72)).alloc (.cells (rowA fun _ => 0) 72)) w.heap.size 72 (rowA fun _ => 0) (by simp; omega) (by simp [rowA_size, maxLen])
      simp only [World.size_alloc] at this
      exact this
  case round =>
    obtain ⟨k, hk, rfl, hcol, hres, hout, hb⟩ := hrel
    obtain ⟨wo, rfl⟩ : ∃ x : World, x = wr := ⟨_, rfl⟩
    have HC := Lib.hid hcol
    have HR := Lib.hid hres
    have HO := Lib.hid hout
    have HB := Lib.hid hb
    clear hcol hres hout hb
    by_cases hlt : k < 4
    · go_wp2_with (first
        | (with_reducible refine index_rows rfl (.tmp 11) (.tmp 12) rfl f k rfl rfl hlt ?_)
        | (with_reducible refine store_new rfl 72 (.tmp 7) (.tmp 15) rfl wo.heap.size _ (rowA (f k)) rfl rfl rfl 4 row_ty rfl rfl (rowA_one _) ?_)
        | (with_reducible refine load_arr rfl 72 (.tmp 7) rfl wo.heap.size _ _ _ rfl (Arr.made wo _ _ _ (Nat.le_refl _) (by simp [rowA_size, maxLen])) 4 row_ty rfl ?_))
      have HC2 := Lib.hid (HC.out.alloc (.cells (rowA (f k)) 72))
      have HR2 := Lib.hid (HR.out.alloc (.cells (rowA (f k)) 72))
      have HO2 := Lib.hid (HO.out.alloc (.cells (rowA (f k)) 72))
      have HB2 := Lib.hid (HB.out.alloc HB.out.size (.cells (rowA (f k)) 72))
      go_loopw [17] (fun i w' => ∃ j : Nat, j ≤ 4 ∧ i = .int .i64 j ∧ Arr w' w.heap.size 72 (w.heap.size + 1) (rowA c) ∧ Arr w' w.heap.size 72 (w.heap.size + 1 + 1) (rowA fun _ => 0) ∧ Arr w' w.heap.size 72 (w.heap.size + 1 + 1 + 1) (rowA (dotR f c k j)) ∧ Below w.heap.size w w') (fun i _ => 4 - (intOf i).toNat)
      case atStart => exact ⟨0, by omega, rfl, HC2.out, HR2.out, HO2.out, HB2.out⟩
      case round =>
        obtain ⟨j, hj, rfl, hcol, hres, hout, hb⟩ := hrel
        obtain ⟨wi, rfl⟩ : ∃ x : World, x = wr := ⟨_, rfl⟩
        have HC := Lib.hid hcol
        have HR := Lib.hid hres
        have HO := Lib.hid hout
        have HB := Lib.hid hb
        by_cases hlt2 : j < 4
        · have g1 := hcol.cell _ _ (rowA_get c j hlt2)
          have g2 := hout.cell _ _ (rowA_get _ k hlt)
          rw [dotR_at] at g2
          have g3 := hout.frozen k
          obtain ⟨p1, p2⟩ := HSM.out k j hlt hlt2
          obtain ⟨p3, p4⟩ := dotF_small HSM.out k hlt j hj
          have e1 : IntKind.i64.wrap (f k j * c j) = f k j * c j := IntWalk.i64_in _ (by omega)
          have e2 : IntKind.i64.wrap (dotF f c k j + f k j * c j) = dotF f c k j + f k j * c j := IntWalk.i64_in _ (by omega)
          clear hcol hres hout hb p1 p2 p3 p4
          go_wp2_with (with_reducible refine index_row rfl 72 Try.underlying72 (.tmp 16) (.tmp 17) rfl (f k) j rfl rfl hlt2 ?_)
          go_region
          go_wp2
          go_roundw
          case rel =>
            refine ⟨j + 1, by omega, by go_num, HC.out.other (by simp <;> omega) _, HR.out.other (by simp <;> omega) _, HO.out.set k _ ?_, below_drew (HB.out.setCell (by simp <;> omega) _)⟩
            rw [rowA_set _ _ _ hlt, dotR_succ]
          case measure => simp [intOf]; omega
        · have hj4 : j = 4 := by omega
          subst hj4
          clear hcol hres hout hb
          go_wp2_with fail
          go_roundw
          case rel => exact ⟨k + 1, by omega, by go_num, HC.out, HR.out, by rw [← dotR_next]; exact HO.out, HB.out⟩
          case measure => simp [intOf]; omega
    · have hk4 : k = 4 := by omega
      subst hk4
      go_wp2_with (first
        | (with_reducible refine load_arr rfl 72 (.tmp 5) rfl (w.heap.size + 1 + 1 + 1) _ _ _ rfl HO.out 4 row_ty rfl ?_)
        | (with_reducible refine store_arr rfl 72 (.tmp 4) (.tmp 33) rfl (w.heap.size + 1 + 1) _ _ (rowA (dotR f c 4 0)) rfl rfl HR.out 4 row_ty rfl rfl (rowA_one _) ?_))
      exact post_arr 72 rfl rfl (HR.out.row (c' := rowA (dotR f c 4 0)) rfl) row_ty rfl rfl ⟨rfl, below_row HB.out (by omega) _⟩
end Go.Proofs.Ytbbcdeknnfghkaa
