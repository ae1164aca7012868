/- Products of the program's squares, their marks, and the square of ones. -/
import Derived.Test.YtgidfainoijcmaaSqC
import Derived.Deep.DeepCutAuto
import Derived.Deep.RegionWith
import Derived.Deep.RegionHeld3
namespace Go.Proofs.Ytgidfainoijcmaa
open Go.RowKit

/-- the product's numbers -/
def timesF (n : Nat) (f g : Nat → Nat → Int) : Nat → Nat → Int := fun a c => if c < n then dotF f (fun j => g j c) a 4 else 0

set_option maxHeartbeats 1000000 in
set_option maxRecDepth 100000 in
theorem implTimes (n : Nat) (m : Int) (f g : Nat → Nat → Int) (hn : n ≤ 4) (hsm : ∀ k, k < n → Small f (fun j => g j k)) (w : World) :
    Calls Try.prog 57 #[.agg (sqA n f), .agg (sqA m g)] w fun e w' => e = .returned (.agg (sqA n (timesF n f g))) ∧ Below w.heap.size w w' := by
  have HSM := Lib.hid hsm
  have hbld := build_sq n
  have hz := sqA_zero n f
  have hz2 := sqA_zero n fun _ _ => 0
  clear hsm
  go_enter Try.func57, Try.ntmps57
  go_wp2_with (with_reducible refine store_new rfl 67 (.tmp 5) (.tmp 11) rfl (w.heap.size + 1 + 1 + 1) _ (sqA n fun _ _ => 0) (by simp) rfl rfl 17 sq_ty rfl rfl (sqA_one _ _) ?_)
  go_loopw [14] (fun i w' => ∃ k : Nat, k ≤ n ∧ i = .int .i64 k ∧ Arr w' w.heap.size 67 w.heap.size (sqA n f) ∧ Arr w' w.heap.size 67 (w.heap.size + 1) (sqA m g) ∧ Arr w' w.heap.size 67 (w.heap.size + 1 + 1) (sqA 0 fun _ _ => 0) ∧ Arr w' w.heap.size 67 (w.heap.size + 1 + 1 + 1) (sqA n (colsTo (fun a c => dotF f (fun j => g j c) a 4) k 0)) ∧ Below w.heap.size w w') (fun i _ => n - (intOf i).toNat)
  case atStart =>
    refine ⟨0, by omega, rfl, ?_, ?_, ?_, ?_, ((((Below.refl _ _).alloc (Nat.le_refl _) _).alloc (by simp) _).alloc (by simp; omega) _).alloc (by simp; omega) _⟩
    · exact (((Arr.made _ _ _ _ (Nat.le_refl _) (by simp [sqA_size, maxLen])).alloc _).alloc _).alloc _
    · have := ((Arr.made (w.alloc (.cells (sqA n f) 67)) w.heap.size 67 (sqA m g) (by simp) (by simp [sqA_size, maxLen])).alloc (.cells (sqA 0 fun _ _ => 0) 67)).alloc (.cells (sqA n fun _ _ => 0) 67)
      simp only [World.size_alloc] at this
      exact this
    · have := (Arr.made ((w.alloc (.cells (sqA n f) 67)).alloc (.cells (sqA m g) 67)) w.heap.size 67 (sqA 0 fun _ _ => 0) (by simp; omega) (by simp [sqA_size, maxLen])).alloc (.cells (sqA n fun _ _ => 0) 67)
      simp only [World.size_alloc] at this
      exact this
    · rw [colsTo_zero]
      have := Arr.made (((w.alloc (.cells (sqA n f) 67)).alloc (.cells (sqA m g) 67)).alloc (.cells (sqA 0 fun _ _ => 0) 67)) w.heap.size 67 (sqA n fun _ _ => 0) (by simp; omega) (by simp [sqA_size, maxLen])
      simp only [World.size_alloc] at this
      exact this
  case round =>
    obtain ⟨k, hk, rfl, hm, hg, hres, hp, hb⟩ := hrel
    obtain ⟨wo, rfl⟩ : ∃ x : World, x = wr := ⟨_, rfl⟩
    have HM := Lib.hid hm
    have HG := Lib.hid hg
    have HR := Lib.hid hres
    have HP := Lib.hid hp
    have HB := Lib.hid hb
    clear hm hg hres hp hb
    by_cases hlt : k < n
    · have hsk := HSM.out k hlt
      have HSK := Lib.hid hsk
      clear hsk
      go_upto_region 5 with (fail)
      go_cut [6, 21, 22] (fun s t u wx => s = .int .i64 k ∧ t = .agg (rowA fun i => dotF f (fun j => g j k) i 4) ∧ u = .int .i64 0 ∧ Below wo.heap.size wo wx)
      case first =>
        have HBc : Hid (Below wo.heap.size wo wo.drew) := below_drewN (Below.refl _ _) 1
        go_region_held3 (fun w' => (w'.cell? ⟨w.heap.size, 0, none⟩ = some (.int .i64 n) ∧ w'.cell? ⟨w.heap.size, 1, none⟩ = some (.int .i64 (f 0 0)) ∧ w'.cell? ⟨w.heap.size, 2, none⟩ = some (.int .i64 (f 0 1)) ∧ w'.cell? ⟨w.heap.size, 3, none⟩ = some (.int .i64 (f 0 2)) ∧ w'.cell? ⟨w.heap.size, 4, none⟩ = some (.int .i64 (f 0 3)) ∧ w'.cell? ⟨w.heap.size, 5, none⟩ = some (.int .i64 (f 1 0)) ∧ w'.cell? ⟨w.heap.size, 6, none⟩ = some (.int .i64 (f 1 1)) ∧ w'.cell? ⟨w.heap.size, 7, none⟩ = some (.int .i64 (f 1 2)) ∧ w'.cell? ⟨w.heap.size, 8, none⟩ = some (.int .i64 (f 1 3)) ∧ w'.cell? ⟨w.heap.size, 9, none⟩ = some (.int .i64 (f 2 0)) ∧ w'.cell? ⟨w.heap.size, 10, none⟩ = some (.int .i64 (f 2 1)) ∧ w'.cell? ⟨w.heap.size, 11, none⟩ = some (.int .i64 (f 2 2)) ∧ w'.cell? ⟨w.heap.size, 12, none⟩ = some (.int .i64 (f 2 3)) ∧ w'.cell? ⟨w.heap.size, 13, none⟩ = some (.int .i64 (f 3 0)) ∧ w'.cell? ⟨w.heap.size, 14, none⟩ = some (.int .i64 (f 3 1)) ∧ w'.cell? ⟨w.heap.size, 15, none⟩ = some (.int .i64 (f 3 2)) ∧ w'.cell? ⟨w.heap.size, 16, none⟩ = some (.int .i64 (f 3 3))) ∧ (w'.cell? ⟨w.heap.size + 1, 0, none⟩ = some (.int .i64 m) ∧ w'.cell? ⟨w.heap.size + 1, 1, none⟩ = some (.int .i64 (g 0 0)) ∧ w'.cell? ⟨w.heap.size + 1, 2, none⟩ = some (.int .i64 (g 0 1)) ∧ w'.cell? ⟨w.heap.size + 1, 3, none⟩ = some (.int .i64 (g 0 2)) ∧ w'.cell? ⟨w.heap.size + 1, 4, none⟩ = some (.int .i64 (g 0 3)) ∧ w'.cell? ⟨w.heap.size + 1, 5, none⟩ = some (.int .i64 (g 1 0)) ∧ w'.cell? ⟨w.heap.size + 1, 6, none⟩ = some (.int .i64 (g 1 1)) ∧ w'.cell? ⟨w.heap.size + 1, 7, none⟩ = some (.int .i64 (g 1 2)) ∧ w'.cell? ⟨w.heap.size + 1, 8, none⟩ = some (.int .i64 (g 1 3)) ∧ w'.cell? ⟨w.heap.size + 1, 9, none⟩ = some (.int .i64 (g 2 0)) ∧ w'.cell? ⟨w.heap.size + 1, 10, none⟩ = some (.int .i64 (g 2 1)) ∧ w'.cell? ⟨w.heap.size + 1, 11, none⟩ = some (.int .i64 (g 2 2)) ∧ w'.cell? ⟨w.heap.size + 1, 12, none⟩ = some (.int .i64 (g 2 3)) ∧ w'.cell? ⟨w.heap.size + 1, 13, none⟩ = some (.int .i64 (g 3 0)) ∧ w'.cell? ⟨w.heap.size + 1, 14, none⟩ = some (.int .i64 (g 3 1)) ∧ w'.cell? ⟨w.heap.size + 1, 15, none⟩ = some (.int .i64 (g 3 2)) ∧ w'.cell? ⟨w.heap.size + 1, 16, none⟩ = some (.int .i64 (g 3 3))))
          (exact ⟨(HM.out.below HBc.out).cells17, (HG.out.below HBc.out).cells17⟩)
          (first
            | (go_at_call 65
               refine (implColumn m g k (by omega) _).mono ?_
               rintro e w' ⟨rfl, hbc⟩
               replace HBc : Hid (Below wo.heap.size wo w') := HBc.out.trans (hbc.mono HBc.out.size))
            | (go_at_call 78
               refine (implTimesColumn n f _ HSK.out _).mono ?_
               rintro e w' ⟨rfl, hbt⟩
               replace HBc : Hid (Below wo.heap.size wo w') := HBc.out.trans (hbt.mono HBc.out.size)))
        all_goals (go_wp2_with fail; go_meet; exact ⟨rfl, rfl, rfl, HBc.out⟩)
      case rest =>
        obtain ⟨rfl, rfl, rfl, hbx⟩ := hcut
        have HP2 := Lib.hid (HP.out.below hbx)
        have HM2 := Lib.hid (HM.out.below hbx)
        have HG2 := Lib.hid (HG.out.below hbx)
        have HR2 := Lib.hid (HR.out.below hbx)
        have HB2 := Lib.hid (HB.out.trans (hbx.mono HB.out.size))
        clear hbx
        go_wp2_with fail
        go_loopw [22] (fun i w' => ∃ j : Nat, j ≤ 4 ∧ i = .int .i64 j ∧ Arr w' w.heap.size 67 w.heap.size (sqA n f) ∧ Arr w' w.heap.size 67 (w.heap.size + 1) (sqA m g) ∧ Arr w' w.heap.size 67 (w.heap.size + 1 + 1) (sqA 0 fun _ _ => 0) ∧ Arr w' w.heap.size 67 (w.heap.size + 1 + 1 + 1) (sqA n (colsTo (fun a c => dotF f (fun j => g j c) a 4) k j)) ∧ Below w.heap.size w w') (fun i _ => 4 - (intOf i).toNat)
        case atStart => exact ⟨0, by omega, rfl, HM2.out, HG2.out, HR2.out, HP2.out, HB2.out⟩
        case round =>
          obtain ⟨j, hj, rfl, hm, hg, hres, hp, hb⟩ := hrel
          obtain ⟨wi, rfl⟩ : ∃ x : World, x = wr := ⟨_, rfl⟩
          have HM := Lib.hid hm
          have HG := Lib.hid hg
          have HR := Lib.hid hres
          have HP := Lib.hid hp
          have HB := Lib.hid hb
          by_cases hlt2 : j < 4
          · have g3 := hp.frozen (1 + j * 4 + k)
            have g2 := hp.cell _ _ (sqA_get n _ j k hlt2 (by omega))
            clear hm hg hres hp hb
            go_wp2_with (with_reducible refine index_row rfl 64 Try.underlying64 (.tmp 21) (.tmp 22) rfl (fun i => dotF f (fun j => g j k) i 4) j rfl rfl hlt2 ?_)
            go_roundw
            case rel =>
              refine ⟨j + 1, by omega, by go_num, HM.out.other (by simp <;> omega) _, HG.out.other (by simp <;> omega) _, HR.out.other (by simp <;> omega) _, HP.out.set (1 + j * 4 + k) _ ?_, HB.out.setCell (by simp <;> omega) _⟩
              rw [sqA_set _ _ _ _ _ hlt2 (by omega), ← colsTo_succ]
            case measure => simp [intOf]; omega
          · have hj4 : j = 4 := by omega
            subst hj4
            clear hm hg hres hp hb
            go_wp2_with fail
            go_roundw
            case rel => exact ⟨k + 1, by omega, by go_num, HM.out, HG.out, HR.out, by rw [← colsTo_next]; exact HP.out, HB.out⟩
            case measure => simp [intOf]; omega
    · have hkn : k = n := by omega
      subst hkn
      go_wp2_with (first
        | (with_reducible refine load_arr rfl 67 (.tmp 5) rfl (w.heap.size + 1 + 1 + 1) _ _ _ rfl HP.out 17 sq_ty rfl ?_)
        | (with_reducible refine store_arr rfl 67 (.tmp 4) (.tmp 34) rfl (w.heap.size + 1 + 1) _ _ (sqA k (colsTo (fun a c => dotF f (fun j => g j c) a 4) k 0)) rfl rfl HR.out 17 sq_ty rfl rfl (sqA_one _ _) ?_))
      exact post_arr 67 rfl rfl (HR.out.row (c' := sqA k (colsTo (fun a c => dotF f (fun j => g j c) a 4) k 0)) rfl) sq_ty rfl rfl ⟨by rw [colsTo_end]; rfl, below_row HB.out (by omega) _⟩
end Go.Proofs.Ytgidfainoijcmaa
