/- Determinants of the program's squares; DeterminantOf. Conditions: lengths of at most 2^20. -/
import Derived.Test.YtgidfainoijcmaaSqH
import Derived.Test.YtgidfainoijcmaaDetM
import Derived.Deep.DeepCutAuto
import Derived.Deep.RegionHeld3
namespace Go.Proofs.Ytgidfainoijcmaa
open Go.RowKit

set_option maxHeartbeats 4000000 in
set_option maxRecDepth 100000 in
theorem implDet : ∀ (n : Nat) (m : List (List Int)) (f : Nat → Nat → Int) (w : World), n ≤ 4 → SqN n m → (∀ i k, i < n → k < n → f i k = at2 m i k) →
    Calls Try.prog 60 #[.agg (sqA n f)] w fun e w' => e = .returned (.int .i64 (detS n m)) ∧ Below w.heap.size w w' := by
  intro n
  induction n with
  | zero =>
    intro m f w _ _ _
    have hz := sqA_zero 0 f
    have HB : Hid (Below w.heap.size w (w.alloc (.cells (sqA 0 f) 67))) := (Below.refl _ _).alloc (Nat.le_refl _) _
    simp only [Int.natCast_zero]
    go_enter Try.func60, Try.ntmps60
    go_wp2
    go_ret
    exact ⟨rfl, HB.out⟩
  | succ n ih =>
    intro m f w h4 hs hf
    have IH : Hid (∀ (m : List (List Int)) (f : Nat → Nat → Int) (w : World), n ≤ 4 → SqN n m → (∀ i k, i < n → k < n → f i k = at2 m i k) → Calls Try.prog 60 #[.agg (sqA n f)] w fun e w' => e = .returned (.int .i64 (detS n m)) ∧ Below w.heap.size w w') := ih
    clear ih
    have HS := Lib.hid hs
    have HF := Lib.hid hf
    have hml : m.length = n + 1 := hs.1
    have HML := Lib.hid hml
    have hz := sqA_zero ((n : Int) + 1) f
    have b1 : ((n : Int) + 1 == 0) = false := by rw [beq_eq_false_iff_ne]; omega
    have hD : detMax n ≤ 24000000 := by
      rcases (show n = 0 ∨ n = 1 ∨ n = 2 ∨ n = 3 by omega) with e | e | e | e <;> subst e <;> decide
    have HTB : Hid (∀ k, k < n + 1 → (-100 ≤ sgnN k * at2 m 0 k ∧ sgnN k * at2 m 0 k ≤ 100) ∧ -2400000000 ≤ sgnN k * at2 m 0 k * detS n (minorM m k) ∧ sgnN k * at2 m 0 k * detS n (minorM m k) ≤ 2400000000) := by
      intro k hk
      obtain ⟨t1, t2, t3⟩ := term_bound hs k hk (det_bound n _ (minor_sq hs k hk))
      exact ⟨t1, by omega, by omega⟩
    have HSB := Lib.hid (sumTo_bound (f := fun k => sgnN k * at2 m 0 k * detS n (minorM m k)) (D := 2400000000) (n + 1) (fun k hk => (HTB.out k hk).2))
    have HMI : Hid (∀ k, k < n + 1 → ∀ i q, i < n → q < n → minTo f k n i q = at2 (minorM m k) i q) := by
      intro k hk i q hi hq
      rw [minor_at2 hs k hk i q hi]
      unfold minTo minRow
      rw [if_pos hi]
      by_cases hqk : q < k
      · rw [if_pos hqk, if_pos hqk]
        exact hf (i + 1) q (by omega) (by omega)
      · rw [if_neg hqk, if_neg hqk, if_pos (by omega)]
        exact hf (i + 1) (q + 1) (by omega) (by omega)
    have e : ((n + 1 : Nat) : Int) = (n : Int) + 1 := by omega
    rw [e]
    clear hs hf hml hD e
    go_enter Try.func60, Try.ntmps60
    go_wp2_with fail
    go_loopw [3, 4, 11] (fun s sg q w' => ∃ (k : Nat), k ≤ n + 1 ∧ q = .int .i64 k ∧ s = .int .i64 (sumTo (fun k => sgnN k * at2 m 0 k * detS n (minorM m k)) k) ∧ sg = .int .i64 (sgnN k) ∧ Arr w' w.heap.size 67 w.heap.size (sqA ((n : Int) + 1) f) ∧ Below w.heap.size w w') (fun _ _ q _ => n + 1 - (intOf q).toNat)
    case atStart => exact ⟨0, by omega, rfl, rfl, rfl, Arr.made _ _ _ _ (Nat.le_refl _) (by simp [sqA_size, maxLen]), (Below.refl _ _).alloc (Nat.le_refl _) _⟩
    case round =>
      obtain ⟨k, hk, rfl, rfl, rfl, hm, hbk⟩ := hrel
      obtain ⟨wo, rfl⟩ : ∃ x : World, x = wr := ⟨_, rfl⟩
      have HBK := Lib.hid hbk
      have HM := Lib.hid hm
      have hszo : w.heap.size ≤ wo.heap.size := hbk.size
      by_cases hlt : k < n + 1
      · have d1 : decide ((k : Int) < (n : Int) + 1) = true := by simp; omega
        have hk4 : k < 4 := by omega
        have hki : (k : Int) < 4 := by omega
        have HG : Hid (∀ w', Below wo.heap.size wo w' → w'.cell? ⟨w.heap.size, 1 + k, none⟩ = some (.int .i64 (at2 m 0 k))) := by
          intro w' hw'
          have := (hm.below hw').cell _ _ (sqA_get ((n : Int) + 1) f 0 k (by omega) hk4)
          rw [HF.out 0 k (by omega) hlt] at this
          simpa using this
        have HSQ := Lib.hid (minor_sq HS.out k hlt)
        have HMK := Lib.hid (HMI.out k hlt)
        obtain ⟨⟨s1, s2⟩, s3, s4⟩ := HTB.out k hlt
        obtain ⟨s5, s6⟩ := HSB.out k hk
        have s7 : -1 ≤ sgnN k ∧ sgnN k ≤ 1 := by rcases sgnN_two k with e | e <;> rw [e] <;> decide
        obtain ⟨s7, s8⟩ := s7
        have e1 : IntKind.i64.wrap (sgnN k * at2 m 0 k) = sgnN k * at2 m 0 k := IntWalk.i64_in _ (by omega)
        have e2 : IntKind.i64.wrap (sgnN k * at2 m 0 k * detS n (minorM m k)) = sgnN k * at2 m 0 k * detS n (minorM m k) := IntWalk.i64_in _ (by omega)
        have e3 : IntKind.i64.wrap (sumTo (fun k => sgnN k * at2 m 0 k * detS n (minorM m k)) k + sgnN k * at2 m 0 k * detS n (minorM m k)) = sumTo (fun k => sgnN k * at2 m 0 k * detS n (minorM m k)) k + sgnN k * at2 m 0 k * detS n (minorM m k) := IntWalk.i64_in _ (by omega)
        clear hm hbk s1 s2 s3 s4 s5 s6
        go_upto_region 7 with (fail)
        go_cut [3, 4, 5] (fun s t u wx => s = .int .i64 (sumTo (fun k => sgnN k * at2 m 0 k * detS n (minorM m k)) (k + 1)) ∧ t = .int .i64 (sgnN k) ∧ u = .int .i64 k ∧ Below wo.heap.size wo wx)
        case first =>
          have HBc : Hid (Below wo.heap.size wo wo.drew) := below_drewN (Below.refl _ _) 1
          go_region_held3 (fun w' => w'.cell? ⟨w.heap.size, 1 + k, none⟩ = some (.int .i64 (at2 m 0 k)) ∧ (w'.cell? ⟨w.heap.size, 0, none⟩ = some (.int .i64 ((n : Int) + 1)) ∧ w'.cell? ⟨w.heap.size, 1, none⟩ = some (.int .i64 (f 0 0)) ∧ w'.cell? ⟨w.heap.size, 2, none⟩ = some (.int .i64 (f 0 1)) ∧ w'.cell? ⟨w.heap.size, 3, none⟩ = some (.int .i64 (f 0 2)) ∧ w'.cell? ⟨w.heap.size, 4, none⟩ = some (.int .i64 (f 0 3)) ∧ w'.cell? ⟨w.heap.size, 5, none⟩ = some (.int .i64 (f 1 0)) ∧ w'.cell? ⟨w.heap.size, 6, none⟩ = some (.int .i64 (f 1 1)) ∧ w'.cell? ⟨w.heap.size, 7, none⟩ = some (.int .i64 (f 1 2)) ∧ w'.cell? ⟨w.heap.size, 8, none⟩ = some (.int .i64 (f 1 3)) ∧ w'.cell? ⟨w.heap.size, 9, none⟩ = some (.int .i64 (f 2 0)) ∧ w'.cell? ⟨w.heap.size, 10, none⟩ = some (.int .i64 (f 2 1)) ∧ w'.cell? ⟨w.heap.size, 11, none⟩ = some (.int .i64 (f 2 2)) ∧ w'.cell? ⟨w.heap.size, 12, none⟩ = some (.int .i64 (f 2 3)) ∧ w'.cell? ⟨w.heap.size, 13, none⟩ = some (.int .i64 (f 3 0)) ∧ w'.cell? ⟨w.heap.size, 14, none⟩ = some (.int .i64 (f 3 1)) ∧ w'.cell? ⟨w.heap.size, 15, none⟩ = some (.int .i64 (f 3 2)) ∧ w'.cell? ⟨w.heap.size, 16, none⟩ = some (.int .i64 (f 3 3))))
            (exact ⟨HG.out _ HBc.out, (HM.out.below HBc.out).cells17⟩)
            (first
              | (go_at_call 95
                 refine (implMinor n (by omega) f k (by omega) _).mono ?_
                 rintro e w' ⟨rfl, hbc⟩
                 replace HBc : Hid (Below wo.heap.size wo w') := HBc.out.trans (hbc.mono HBc.out.size))
              | (go_at_call 60
                 refine (IH.out (minorM m k) (minTo f k n) _ (by omega) HSQ.out HMK.out).mono ?_
                 rintro e w' ⟨rfl, hbt⟩
                 replace HBc : Hid (Below wo.heap.size wo w') := HBc.out.trans (hbt.mono HBc.out.size)))
          all_goals (go_wp2_with fail; go_meet; exact ⟨rfl, rfl, rfl, HBc.out⟩)
        case rest =>
          obtain ⟨rfl, rfl, rfl, hbx⟩ := hcut
          have HM2 := Lib.hid (HM.out.below hbx)
          have HB2 := Lib.hid (HBK.out.trans (hbx.mono hszo))
          clear hbx
          go_wp2_with fail
          go_roundw
          case rel => exact ⟨k + 1, by omega, by go_num, rfl, by rw [sgnN_succ], HM2.out, HB2.out⟩
          case measure => simp [intOf]; omega
      · have hkn : k = n + 1 := by omega
        have HV : Hid (sumTo (fun k => sgnN k * at2 m 0 k * detS n (minorM m k)) k = detS (n + 1) m) := by rw [hkn]; exact rfl
        have d1 : decide ((k : Int) < (n : Int) + 1) = false := by simp; omega
        clear hkn hm hbk
        go_wp2_with fail
        go_ret
        exact ⟨ret_int HV.out, HBK.out⟩

theorem implDeterminantOf (m : List (List Int)) (v : Value) (w : World) (h : Mat w v m) (hm : m.length ≤ 1048576) (hr : ∀ r ∈ m, r.length ≤ 1048576) :
    Calls Try.prog 20 #[v] w fun e w' => e = .returned (.int .i64 (detR m)) ∧ Below w.heap.size w w' := by
  have HSQ := Lib.hid (implSquareOf m v w h hm hr)
  by_cases hs : sqB m = true
  · have HV : Hid (detR m = detS m.length m) := if_pos hs
    have HD : Hid (∀ W : World, Calls Try.prog 60 #[.agg (sqA m.length (at2 m))] W fun e w' => e = .returned (.int .i64 (detS m.length m)) ∧ Below W.heap.size W w') := fun W => implDet m.length m (at2 m) W (sq_parts hs).2.1 (sqN_of hs) (fun _ _ _ _ => rfl)
    have HS := Lib.hid hs
    obtain ⟨A, cap, rfl⟩ := mat_slice h
    clear h hr hs
    go_enter Try.func20, Try.ntmps20
    go_wp2_with fail
    refine HSQ.out.mono ?_
    rintro e w1 ⟨rfl, hb1⟩
    rw [HS.out, if_pos rfl]
    have HA := Lib.hid (Arr.made w1 w1.heap.size 67 (sqA m.length (at2 m)) (Nat.le_refl _) (by simp [sqA_size, maxLen]))
    have HB : Hid (Below w.heap.size w (w1.alloc (.cells (sqA m.length (at2 m)) 67))) := hb1.alloc hb1.size _
    clear hb1
    go_wp2_with (first
      | (with_reducible refine store_new rfl 67 (.tmp 3) (.tmp 8) rfl w1.heap.size _ (sqA m.length (at2 m)) rfl rfl rfl 17 sq_ty rfl rfl (sqA_one _ _) ?_)
      | (with_reducible refine load_arr rfl 67 (.tmp 3) rfl w1.heap.size _ _ _ rfl HA.out 17 sq_ty rfl ?_))
    refine (HD.out _).mono ?_
    rintro e w2 ⟨rfl, hb2⟩
    have HB2 := Lib.hid (HB.out.trans (hb2.mono HB.out.size))
    clear hb2
    go_wp2_with fail
    go_ret
    exact ⟨ret_int HV.out.symm, HB2.out⟩
  · have hs' : sqB m = false := by simpa using hs
    have HV : Hid (detR m = 0) := if_neg hs
    have HS := Lib.hid hs'
    obtain ⟨A, cap, rfl⟩ := mat_slice h
    clear h hs hs' hr
    go_enter Try.func20, Try.ntmps20
    go_wp2_with fail
    refine HSQ.out.mono ?_
    rintro e w1 ⟨rfl, hb1⟩
    rw [HS.out, if_neg (by decide)]
    have HB : Hid (Below w.heap.size w (w1.alloc (.cells (sqA 0 fun _ _ => 0) 67))) := hb1.alloc hb1.size _
    clear hb1
    go_wp2_with (with_reducible refine store_new rfl 67 (.tmp 3) (.tmp 8) rfl w1.heap.size _ (sqA 0 fun _ _ => 0) rfl rfl rfl 17 sq_ty rfl rfl (sqA_one _ _) ?_)
    go_ret
    exact ⟨ret_int HV.out.symm, HB.out⟩
end Go.Proofs.Ytgidfainoijcmaa
