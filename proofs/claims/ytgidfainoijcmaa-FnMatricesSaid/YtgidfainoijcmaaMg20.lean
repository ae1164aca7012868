/- Texts put together. -/
import Derived.Test.YtgidfainoijcmaaMg19
import Derived.Deep.DeepCutAuto
import Derived.Deep.RegionHeld3
import Derived.Test.YtgidfainoijcmaaMg17
import Derived.Test.YtgidfainoijcmaaMg6
import Derived.Test.YtgidfainoijcmaaMg11
/- Determinants of the program's squares; DeterminantOf. Conditions: lengths of at most 2^20. -/
namespace Go.Proofs.Ytgidfainoijcmaa
open Go.RowKit

set_option maxHeartbeats 4000000 in
set_option maxRecDepth 100000 in
theorem implDet : ∀ (n : Nat) (m : List (List Int)) (f : Nat → Nat → Int) (w : World), n ≤ 4 → SqN n m → (∀ i k, i < n → k < n → f i k = at2 m i k) →
    Calls Try.prog 60 #[.agg (sqA n f)] w fun e w' => e = .returned (.int .i64 (detS n m)) ∧ Below w.heap.size w w' := by
  intro n
  induction n with
  | zero =>
    intro m f w _ _ _
    have hz := sqA_zero 0 f
    have HB : Hid (Below w.heap.size w (w.alloc (.cells (sqA 0 f) 67))) := (Below.refl _ _).alloc (Nat.le_refl _) _
    simp only [Int.natCast_zero]
    go_enter Try.func60, Try.ntmps60
    go_wp2
    go_ret
    exact ⟨rfl, HB.out⟩
  | succ n ih =>
    intro m f w h4 hs hf
    have IH : Hid (∀ (m : List (List Int)) (f : Nat → Nat → Int) (w : World), n ≤ 4 → SqN n m → (∀ i k, i < n → k < n → f i k = at2 m i k) → Calls Try.prog 60 #[.agg (sqA n f)] w fun e w' => e = .returned (.int .i64 (detS n m)) ∧ Below w.heap.size w w') := ih
    clear ih
    have HS := Lib.hid hs
    have HF := Lib.hid hf
    have hml : m.length = n + 1 := hs.1
    have HML := Lib.hid hml
    have hz := sqA_zero ((n : Int) + 1) f
    have b1 : ((n : Int) + 1 == 0) = false := by rw [beq_eq_false_iff_ne]; omega
    have hD : detMax n ≤ 24000000 := by
      rcases (show n = 0 ∨ n = 1 ∨ n = 2 ∨ n = 3 by omega) with e | e | e | e <;> subst e <;> decide
    have HTB : Hid (∀ k, k < n + 1 → (-100 ≤ sgnN k * at2 m 0 k ∧ sgnN k * at2 m 0 k ≤ 100) ∧ -2400000000 ≤ sgnN k * at2 m 0 k * detS n (minorM m k) ∧ sgnN k * at2 m 0 k * detS n (minorM m k) ≤ 2400000000) := by
      intro k hk
      obtain ⟨t1, t2, t3⟩ := term_bound hs k hk (det_bound n _ (minor_sq hs k hk))
      exact ⟨t1, by omega, by omega⟩
    have HSB := Lib.hid (sumTo_bound (f := fun k => sgnN k * at2 m 0 k * detS n (minorM m k)) (D := 2400000000) (n + 1) (fun k hk => (HTB.out k hk).2))
    have HMI : Hid (∀ k, k < n + 1 → ∀ i q, i < n → q < n → minTo f k n i q = at2 (minorM m k) i q) := by
      intro k hk i q hi hq
      rw [minor_at2 hs k hk i q hi]
      unfold minTo minRow
      rw [if_pos hi]
      by_cases hqk : q < k
      · rw [if_pos hqk, if_pos hqk]
        exact hf (i + 1) q (by omega) (by omega)
      · rw [if_neg hqk, if_neg hqk, if_pos (by omega)]
        exact hf (i + 1) (q + 1) (by omega) (by omega)
    have e : ((n + 1 : Nat) : Int) = (n : Int) + 1 := by omega
    rw [e]
    clear hs hf hml hD e
    go_enter Try.func60, Try.ntmps60
    go_wp2_with fail
    go_loopw [3, 4, 11] (fun s sg q w' => ∃ (k : Nat), k ≤ n + 1 ∧ q = .int .i64 k ∧ s = .int .i64 (sumTo (fun k => sgnN k * at2 m 0 k * detS n (minorM m k)) k) ∧ sg = .int .i64 (sgnN k) ∧ Arr w' w.heap.size 67 w.heap.size (sqA ((n : Int) + 1) f) ∧ Below w.heap.size w w') (fun _ _ q _ => n + 1 - (intOf q).toNat)
    case atStart => exact ⟨0, by omega, rfl, rfl, rfl, Arr.made _ _ _ _ (Nat.le_refl _) (by simp [sqA_size, maxLen]), (Below.refl _ _).alloc (Nat.le_refl _) _⟩
    case round =>
      obtain ⟨k, hk, rfl, rfl, rfl, hm, hbk⟩ := hrel
      obtain ⟨wo, rfl⟩ : ∃ x : World, x = wr := ⟨_, rfl⟩
      have HBK := Lib.hid hbk
      have HM := Lib.hid hm
      have hszo : w.heap.size ≤ wo.heap.size := hbk.size
      by_cases hlt : k < n + 1
      · have d1 : decide ((k : Int) < (n : Int) + 1) = true := by simp; omega
        have hk4 : k < 4 := by omega
        have hki : (k : Int) < 4 := by omega
        have HG : Hid (∀ w', Below wo.heap.size wo w' → w'.cell? ⟨w.heap.size, 1 + k, none⟩ = some (.int .i64 (at2 m 0 k))) := by
          intro w' hw'
          have := (hm.below hw').cell _ _ (sqA_get ((n : Int) + 1) f 0 k (by omega) hk4)
          rw [HF.out 0 k (by omega) hlt] at this
          simpa using this
        have HSQ := Lib.hid (minor_sq HS.out k hlt)
        have HMK := Lib.hid (HMI.out k hlt)
        obtain ⟨⟨s1, s2⟩, s3, s4⟩ := HTB.out k hlt
        obtain ⟨s5, s6⟩ := HSB.out k hk
        have s7 : -1 ≤ sgnN k ∧ sgnN k ≤ 1 := by rcases sgnN_two k with e | e <;> rw [e] <;> decide
        obtain ⟨s7, s8⟩ := s7
        have e1 : IntKind.i64.wrap (sgnN k * at2 m 0 k) = sgnN k * at2 m 0 k := IntWalk.i64_in _ (by omega)
        have e2 : IntKind.i64.wrap (sgnN k * at2 m 0 k * detS n (minorM m k)) = sgnN k * at2 m 0 k * detS n (minorM m k) := IntWalk.i64_in _ (by omega)
        have e3 : IntKind.i64.wrap (sumTo (fun k => sgnN k * at2 m 0 k * detS n (minorM m k)) k + sgnN k * at2 m 0 k * detS n (minorM m k)) = sumTo (fun k => sgnN k * at2 m 0 k * detS n (minorM m k)) k + sgnN k * at2 m 0 k * detS n (minorM m k) := IntWalk.i64_in _ (by omega)
        clear hm hbk s1 s2 s3 s4 s5 s6
        go_upto_region 7 with (fail)
        go_cut [3, 4, 5] (fun s t u wx => s = .int .i64 (sumTo (fun k => sgnN k * at2 m 0 k * detS n (minorM m k)) (k + 1)) ∧ t = .int .i64 (sgnN k) ∧ u = .int .i64 k ∧ Below wo.heap.size wo wx)
        case first =>
          have HBc : Hid (Below wo.heap.size wo wo.drew) := below_drewN (Below.refl _ _) 1
          go_region_held3 (fun w' => w'.cell? ⟨w.heap.size, 1 + k, none⟩ = some (.int .i64 (at2 m 0 k)) ∧ (w'.cell? ⟨w.heap.size, 0, none⟩ = some (.int .i64 ((n : Int) + 1)) ∧ w'.cell? ⟨w.heap.size, 1, none⟩ = some (.int .i64 (f 0 0)) ∧ w'.cell? ⟨w.heap.size, 2, none⟩ = some (.int .i64 (f 0 1)) ∧ w'.cell? ⟨w.heap.size, 3, none⟩ = some (.int .i64 (f 0 2)) ∧ w'.cell? ⟨w.heap.size, 4, none⟩ = some (.int .i64 (f 0 3)) ∧ w'.cell? ⟨w.heap.size, 5, none⟩ = some (.int .i64 (f 1 0)) ∧ w'.cell? ⟨w.heap.size, 6, none⟩ = some (.int .i64 (f 1 1)) ∧ w'.cell? ⟨w.heap.size, 7, none⟩ = some (.int .i64 (f 1 2)) ∧ w'.cell? ⟨w.heap.size, 8, none⟩ = some (.int .i64 (f 1 3)) ∧ w'.cell? ⟨w.heap.size, 9, none⟩ = some (.int .i64 (f 2 0)) ∧ w'.cell? ⟨w.heap.size, 10, none⟩ = some (.int .i64 (f 2 1)) ∧ w'.cell? ⟨w.heap.size, 11, none⟩ = some (.int .i64 (f 2 2)) ∧ w'.cell? ⟨w.heap.size, 12, none⟩ = some (.int .i64 (f 2 3)) ∧ w'.cell? ⟨w.heap.size, 13, none⟩ = some (.int .i64 (f 3 0)) ∧ w'.cell? ⟨w.heap.size, 14, none⟩ = some (.int .i64 (f 3 1)) ∧ w'.cell? ⟨w.heap.size, 15, none⟩ = some (.int .i64 (f 3 2)) ∧ w'.cell? ⟨w.heap.size, 16, none⟩ = some (.int .i64 (f 3 3))))
            (exact ⟨HG.out _ HBc.out, (HM.out.below HBc.out).cells17⟩)
            (first
              | (go_at_call 95
                 refine (implMinor n (by omega) f k (by omega) _).mono ?_
                 rintro e w' ⟨rfl, hbc⟩
                 replace HBc : Hid (Below wo.heap.size wo w') := HBc.out.trans (hbc.mono HBc.out.size))
              | (go_at_call 60
                 refine (IH.out (minorM m k) (minTo f k n) _ (by omega) HSQ.out HMK.out).mono ?_
                 rintro e w' ⟨rfl, hbt⟩
                 replace HBc : Hid (Below wo.heap.size wo w') := HBc.out.trans (hbt.mono HBc.out.size)))
          all_goals (go_wp2_with fail; go_meet; exact ⟨rfl, rfl, rfl, HBc.out⟩)
        case rest =>
          obtain ⟨rfl, rfl, rfl, hbx⟩ := hcut
          have HM2 := Lib.hid (HM.out.below hbx)
          have HB2 := Lib.hid (HBK.out.trans (hbx.mono hszo))
          clear hbx
          go_wp2_with fail
          go_roundw
          case rel => exact ⟨k + 1, by omega, by go_num, rfl, by rw [sgnN_succ], HM2.out, HB2.out⟩
          case measure => simp [intOf]; omega
      · have hkn : k = n + 1 := by omega
        have HV : Hid (sumTo (fun k => sgnN k * at2 m 0 k * detS n (minorM m k)) k = detS (n + 1) m) := by rw [hkn]; exact rfl
        have d1 : decide ((k : Int) < (n : Int) + 1) = false := by simp; omega
        clear hkn hm hbk
        go_wp2_with fail
        go_ret
        exact ⟨ret_int HV.out, HBK.out⟩

theorem implDeterminantOf (m : List (List Int)) (v : Value) (w : World) (h : Mat w v m) (hm : m.length ≤ 1048576) (hr : ∀ r ∈ m, r.length ≤ 1048576) :
    Calls Try.prog 20 #[v] w fun e w' => e = .returned (.int .i64 (detR m)) ∧ Below w.heap.size w w' := by
  have HSQ := Lib.hid (implSquareOf m v w h hm hr)
  by_cases hs : sqB m = true
  · have HV : Hid (detR m = detS m.length m) := if_pos hs
    have HD : Hid (∀ W : World, Calls Try.prog 60 #[.agg (sqA m.length (at2 m))] W fun e w' => e = .returned (.int .i64 (detS m.length m)) ∧ Below W.heap.size W w') := fun W => implDet m.length m (at2 m) W (sq_parts hs).2.1 (sqN_of hs) (fun _ _ _ _ => rfl)
    have HS := Lib.hid hs
    obtain ⟨A, cap, rfl⟩ := mat_slice h
    clear h hr hs
    go_enter Try.func20, Try.ntmps20
    go_wp2_with fail
    refine HSQ.out.mono ?_
    rintro e w1 ⟨rfl, hb1⟩
    rw [HS.out, if_pos rfl]
    have HA := Lib.hid (Arr.made w1 w1.heap.size 67 (sqA m.length (at2 m)) (Nat.le_refl _) (by simp [sqA_size, maxLen]))
    have HB : Hid (Below w.heap.size w (w1.alloc (.cells (sqA m.length (at2 m)) 67))) := hb1.alloc hb1.size _
    clear hb1
    go_wp2_with (first
      | (with_reducible refine store_new rfl 67 (.tmp 3) (.tmp 8) rfl w1.heap.size _ (sqA m.length (at2 m)) rfl rfl rfl 17 sq_ty rfl rfl (sqA_one _ _) ?_)
      | (with_reducible refine load_arr rfl 67 (.tmp 3) rfl w1.heap.size _ _ _ rfl HA.out 17 sq_ty rfl ?_))
    refine (HD.out _).mono ?_
    rintro e w2 ⟨rfl, hb2⟩
    have HB2 := Lib.hid (HB.out.trans (hb2.mono HB.out.size))
    clear hb2
    go_wp2_with fail
    go_ret
    exact ⟨ret_int HV.out.symm, HB2.out⟩
  · have hs' : sqB m = false := by simpa using hs
    have HV : Hid (detR m = 0) := if_neg hs
    have HS := Lib.hid hs'
    obtain ⟨A, cap, rfl⟩ := mat_slice h
    clear h hs hs' hr
    go_enter Try.func20, Try.ntmps20
    go_wp2_with fail
    refine HSQ.out.mono ?_
    rintro e w1 ⟨rfl, hb1⟩
    rw [HS.out, if_neg (by decide)]
    have HB : Hid (Below w.heap.size w (w1.alloc (.cells (sqA 0 fun _ _ => 0) 67))) := hb1.alloc hb1.size _
    clear hb1
    go_wp2_with (with_reducible refine store_new rfl 67 (.tmp 3) (.tmp 8) rfl w1.heap.size _ (sqA 0 fun _ _ => 0) rfl rfl rfl 17 sq_ty rfl rfl (sqA_one _ _) ?_)
    go_ret
    exact ⟨ret_int HV.out.symm, HB.out⟩
end Go.Proofs.Ytgidfainoijcmaa

/- Squares of the program compared; the marks of a product. -/
namespace Go.Proofs.Ytgidfainoijcmaa
open Go.RowKit

def eqR (c e : Nat → Int) : Bool := c 0 == e 0 && (c 1 == e 1 && (c 2 == e 2 && c 3 == e 3))
def eqF (f g : Nat → Nat → Int) : Bool := eqR (f 0) (g 0) && (eqR (f 1) (g 1) && (eqR (f 2) (g 2) && eqR (f 3) (g 3)))
theorem eqR_iff (c e : Nat → Int) : eqR c e = true ↔ ∀ k, k < 4 → c k = e k := by
  unfold eqR
  simp only [Bool.and_eq_true, beq_iff_eq]
  constructor
  · rintro ⟨h0, h1, h2, h3⟩ k hk
    rcases four_cases hk with rfl | rfl | rfl | rfl <;> assumption
  · intro h
    exact ⟨h 0 (by decide), h 1 (by decide), h 2 (by decide), h 3 (by decide)⟩
theorem eqF_iff (f g : Nat → Nat → Int) : eqF f g = true ↔ ∀ i k, i < 4 → k < 4 → f i k = g i k := by
  unfold eqF
  simp only [Bool.and_eq_true, eqR_iff]
  constructor
  · rintro ⟨h0, h1, h2, h3⟩ i k hi hk
    rcases four_cases hi with rfl | rfl | rfl | rfl
    · exact h0 k hk
    · exact h1 k hk
    · exact h2 k hk
    · exact h3 k hk
  · intro h
    exact ⟨fun k hk => h 0 k (by decide) hk, fun k hk => h 1 k (by decide) hk, fun k hk => h 2 k (by decide) hk, fun k hk => h 3 k (by decide) hk⟩
theorem row_eq (c e : Nat → Int) (w : World) : (Op.equalIn 9998 64 (.agg (rowA c)) (.agg (rowA e))).run Try.prog w = .ok (eqR c e) w := by
  have u3 := Try.underlying3
  have a3 := Try.isAgg3
  have z3 := Try.sizeOf3
  unfold rowA eqR
  generalize c 0 = x0
  generalize c 1 = x1
  generalize c 2 = x2
  generalize c 3 = x3
  generalize e 0 = y0
  generalize e 1 = y1
  generalize e 2 = y2
  generalize e 3 = y3
  rw [show (9998 : Nat) = 9997 + 1 from rfl, Op.equalIn]
  simp only [Sem.run_bind, run_underlying Try.underlying64, Result.andThen_ok]
  simp only [Std.Legacy.Range.forIn_eq_forIn_range', Std.Legacy.Range.size, Nat.sub_zero, Nat.add_sub_cancel, Nat.div_one, List.range'_succ, List.range'_zero, List.forIn_cons, List.forIn_nil]
  go_simp
  by_cases h1 : x0 = y0 <;> by_cases h2 : x1 = y1 <;> by_cases h3 : x2 = y2 <;> by_cases h4 : x3 = y3 <;> simp [h1, h2, h3, h4]
theorem rows_eq (f g : Nat → Nat → Int) (w : World) : (Op.equalIn 9999 65 (.agg (rowsA f)) (.agg (rowsA g))).run Try.prog w = .ok (eqF f g) w := by
  have z3 := Try.sizeOf64
  have p0 : ∀ f : Nat → Nat → Int, (rowsA f).extract 0 4 = rowA (f 0) := fun _ => rfl
  have p1 : ∀ f : Nat → Nat → Int, (rowsA f).extract 4 8 = rowA (f 1) := fun _ => rfl
  have p2 : ∀ f : Nat → Nat → Int, (rowsA f).extract 8 12 = rowA (f 2) := fun _ => rfl
  have p3 : ∀ f : Nat → Nat → Int, (rowsA f).extract 12 16 = rowA (f 3) := fun _ => rfl
  unfold eqF
  rw [show (9999 : Nat) = 9998 + 1 from rfl, Op.equalIn]
  simp only [Sem.run_bind, run_underlying Try.underlying65, Result.andThen_ok]
  simp only [Std.Legacy.Range.forIn_eq_forIn_range', Std.Legacy.Range.size, Nat.sub_zero, Nat.add_sub_cancel, Nat.div_one, List.range'_succ, List.range'_zero, List.forIn_cons, List.forIn_nil]
  go_simp
  simp only [row_eq, Result.andThen_ok]
  generalize eqR (f 0) (g 0) = b0
  generalize eqR (f 1) (g 1) = b1
  generalize eqR (f 2) (g 2) = b2
  generalize eqR (f 3) (g 3) = b3
  cases b0 <;> cases b1 <;> cases b2 <;> cases b3 <;> simp
theorem sq_eq (n m : Int) (f g : Nat → Nat → Int) (w : World) : (Op.equalIn 10000 67 (.agg (sqA n f)) (.agg (sqA m g))).run Try.prog w = .ok (n == m && eqF f g) w := by
  have u3 := Try.underlying3
  have a3 := Try.isAgg3
  have z3 := Try.sizeOf65
  have p0 : ∀ (n : Int) (f : Nat → Nat → Int), (sqA n f).extract 1 17 = rowsA f := fun _ _ => rfl
  have p1 : ∀ (n : Int) (f : Nat → Nat → Int), (sqA n f)[0]? = some (.int .i64 n) := fun _ _ => rfl
  have hh : Try.prog.stoodInHeld 67 = false := by kernel_rfl
  rw [show (10000 : Nat) = 9999 + 1 from rfl, Op.equalIn]
  simp only [Sem.run_bind, run_underlying Try.underlying67, Result.andThen_ok]
  go_simp
  simp only [rows_eq, Result.andThen_ok]
  generalize eqF f g = b0
  by_cases h : n = m <;> cases b0 <;> simp [h]

theorem at2_nn {l : List ByteArray} (hl : substB l = true) (i k : Nat) : 0 ≤ at2 (matL l) i k ∧ at2 (matL l) i k ≤ 8 := by
  by_cases hi : i < l.length
  · have hi2 : i < (matL l).length := by rw [matL_length]; exact hi
    by_cases hk : k < l.length
    · exact matL_small hl i k hi hk
    · rw [at2_outc (matL l) l.length i k hi2 (by rw [matL_at, rowL_length]) (by omega)]
      decide
  · rw [at2_out _ i k (by rw [matL_length]; omega)]
    decide
theorem dot_pos {P : Nat → Nat → Int} {c : Nat → Int} (i : Nat) (hP : ∀ q, 0 ≤ P i q) (hc : ∀ q, 0 ≤ c q) : ∀ n, 0 ≤ dotF P c i n ∧ (0 < dotF P c i n ↔ ∃ q, q < n ∧ 0 < P i q ∧ 0 < c q)
  | 0 => ⟨by simp [dotF], by simp [dotF]⟩
  | n + 1 => by
    obtain ⟨h1, h2⟩ := dot_pos i hP hc n
    have hp := Int.mul_nonneg (hP n) (hc n)
    refine ⟨by unfold dotF; omega, ?_⟩
    constructor
    · intro h
      by_cases h3 : 0 < dotF P c i n
      · obtain ⟨q, hq, a⟩ := h2.1 h3
        exact ⟨q, by omega, a⟩
      · have h4 : 0 < P i n * c n := by unfold dotF at h; omega
        have a1 := hP n
        have a2 := hc n
        refine ⟨n, by omega, ?_, ?_⟩
        · by_cases e : P i n = 0
          · rw [e, Int.zero_mul] at h4; omega
          · omega
        · by_cases e : c n = 0
          · rw [e, Int.mul_zero] at h4; omega
          · omega
    · rintro ⟨q, hq, a, b⟩
      by_cases e : q = n
      · subst e
        have := Int.mul_pos a b
        unfold dotF; omega
      · have := h2.2 ⟨q, by omega, a, b⟩
        unfold dotF; omega
/-- which numbers of the marked product are 1; all others are 0 -/
theorem mt_iff {P M : Nat → Nat → Int} (hP : ∀ i q, 0 ≤ P i q) (hM : ∀ q c, 0 ≤ M q c) (n a c : Nat) : (markF (timesF n P M) a c = 0 ∨ markF (timesF n P M) a c = 1) ∧ (markF (timesF n P M) a c = 1 ↔ c < n ∧ ∃ q, q < 4 ∧ 0 < P a q ∧ 0 < M q c) := by
  unfold markF timesF
  by_cases hc : c < n
  · simp only [if_pos hc]
    obtain ⟨h1, h2⟩ := dot_pos (c := fun j => M j c) a (hP a) (fun q => hM q c) 4
    rw [← h2]
    generalize dotF P (fun j => M j c) a 4 = d at h1
    by_cases hd : 1 < d
    · rw [if_pos hd]
      exact ⟨.inr rfl, fun _ => ⟨hc, by omega⟩, fun _ => rfl⟩
    · rw [if_neg hd]
      exact ⟨by omega, fun _ => ⟨hc, by omega⟩, fun h => by omega⟩
  · simp only [if_neg hc]
    exact ⟨.inl (by decide), fun h => absurd h (by decide), fun h => absurd h.1 hc⟩
/-- the same of a mark alone -/
theorem mk_iff {f : Nat → Nat → Int} (hf : ∀ i q, 0 ≤ f i q) (a c : Nat) : (markF f a c = 0 ∨ markF f a c = 1) ∧ (markF f a c = 1 ↔ 0 < f a c) := by
  have := hf a c
  unfold markF
  by_cases hd : 1 < f a c
  · rw [if_pos hd]
    exact ⟨.inr rfl, fun _ => by omega, fun _ => rfl⟩
  · rw [if_neg hd]
    exact ⟨by omega, fun _ => by omega, fun h => by omega⟩
theorem small_01 {P M : Nat → Nat → Int} (hP : ∀ i q, P i q = 0 ∨ P i q = 1) (hM : ∀ q c, 0 ≤ M q c ∧ M q c ≤ 8) (k : Nat) : Small P (fun j => M j k) := by
  intro i j _ _
  have := hM j k
  show _ ≤ P i j * M j k ∧ P i j * M j k ≤ _
  rcases hP i j with e | e <;> rw [e]
  · rw [Int.zero_mul]; omega
  · rw [Int.one_mul]; omega
end Go.Proofs.Ytgidfainoijcmaa

/- IsPrimitiveSubst of the program. Conditions: lengths of at most 2^20. -/
namespace Go.Proofs.Ytgidfainoijcmaa
open Go.RowKit

theorem sgB_iff {a b : List (List Int)} {i k : Nat} : ∀ j, sgB a b i k j = true ↔ ∃ q, q < j ∧ 0 < at2 a i q ∧ 0 < at2 b q k
  | 0 => by simp [sgB]
  | j + 1 => by
    unfold sgB
    rw [Bool.or_eq_true, Bool.and_eq_true, decide_eq_true_eq, decide_eq_true_eq, sgB_iff j]
    constructor
    · rintro (⟨q, h1, h2⟩ | h)
      · exact ⟨q, by omega, h2⟩
      · exact ⟨j, by omega, h⟩
    · rintro ⟨q, h1, h2⟩
      by_cases e : q = j
      · subst e; exact .inr h2
      · exact .inl ⟨q, by omega, h2⟩
theorem posRow_iff {m : List (List Int)} {i : Nat} : ∀ n, posRow m i n = true ↔ ∀ k, k < n → 0 < at2 m i k
  | 0 => by simp [posRow]
  | n + 1 => by
    unfold posRow
    rw [Bool.and_eq_true, decide_eq_true_eq, posRow_iff n]
    constructor
    · rintro ⟨h1, h2⟩ k hk
      by_cases e : k = n
      · subst e; exact h2
      · exact h1 k (by omega)
    · intro h
      exact ⟨fun k hk => h k (by omega), h n (by omega)⟩
theorem posTo_iff {m : List (List Int)} {n : Nat} : ∀ i, posTo m n i = true ↔ ∀ q, q < i → ∀ k, k < n → 0 < at2 m q k
  | 0 => by simp [posTo]
  | i + 1 => by
    unfold posTo
    rw [Bool.and_eq_true, posTo_iff i, posRow_iff n]
    constructor
    · rintro ⟨h1, h2⟩ q hq
      by_cases e : q = i
      · subst e; exact h2
      · exact h1 q (by omega)
    · intro h
      exact ⟨fun q hq => h q (by omega), h i (by omega)⟩
/-- the marks of a power -/
def pwF (l : List ByteArray) (k : Nat) : Nat → Nat → Int := fun i j => if 0 < at2 (powS l k) i j then 1 else 0
theorem pwF_01 (l : List ByteArray) (k i j : Nat) : pwF l k i j = 0 ∨ pwF l k i j = 1 := by
  unfold pwF
  split
  · exact .inr rfl
  · exact .inl rfl
theorem pwF_pos (l : List ByteArray) (k i j : Nat) : 0 < pwF l k i j ↔ 0 < at2 (powS l k) i j := by
  unfold pwF
  by_cases h : 0 < at2 (powS l k) i j
  · rw [if_pos h]; simp [h]
  · rw [if_neg h]; simp [h]
theorem pow_out {l : List ByteArray} {k i j : Nat} (h : 0 < at2 (powS l k) i j) : i < l.length ∧ j < l.length := by
  obtain ⟨r1, r2⟩ := powS_rect l k
  by_cases hi : i < l.length
  · refine ⟨hi, ?_⟩
    by_cases hj : j < l.length
    · exact hj
    · rw [at2_outc (powS l k) l.length i j (by omega) (r2 i (by omega)) (by omega)] at h
      exact absurd h (by decide)
  · rw [at2_out _ i j (by omega)] at h
    exact absurd h (by decide)
theorem pow_succ_pos (l : List ByteArray) (k i j : Nat) : 0 < at2 (powS l (k + 1)) i j ↔ j < l.length ∧ ∃ q, 0 < at2 (powS l k) i q ∧ 0 < at2 (matL l) q j := by
  constructor
  · intro h
    obtain ⟨h1, h2⟩ := pow_out h
    refine ⟨h2, ?_⟩
    have e1 : i < (sgM (powS l k) (matL l)).length := by rw [sgM_length, (powS_rect l k).1]; exact h1
    have e2 : j < (sgM (powS l k) (matL l))[i].length := by rw [sgM_at, sgRow_length, matL_length]; exact h2
    have e : at2 (powS l (k + 1)) i j = sgI (powS l k) (matL l) i j l.length := by
      show at2 (sgM (powS l k) (matL l)) i j = _
      rw [at2_eq _ _ _ e1 e2]
      simp [sgM, sgRow, matL_length]
    rw [e] at h
    have hs : sgB (powS l k) (matL l) i j l.length = true := by
      by_cases hs : sgB (powS l k) (matL l) i j l.length = true
      · exact hs
      · unfold sgI at h
        rw [if_neg hs] at h
        omega
    obtain ⟨q, _, p1, p2⟩ := (sgB_iff _).1 hs
    exact ⟨q, p1, p2⟩
  · rintro ⟨h2, q, p1, p2⟩
    obtain ⟨h1, hq⟩ := pow_out p1
    have e1 : i < (sgM (powS l k) (matL l)).length := by rw [sgM_length, (powS_rect l k).1]; exact h1
    have e2 : j < (sgM (powS l k) (matL l))[i].length := by rw [sgM_at, sgRow_length, matL_length]; exact h2
    have e : at2 (powS l (k + 1)) i j = sgI (powS l k) (matL l) i j l.length := by
      show at2 (sgM (powS l k) (matL l)) i j = _
      rw [at2_eq _ _ _ e1 e2]
      simp [sgM, sgRow, matL_length]
    rw [e]
    unfold sgI
    rw [if_pos ((sgB_iff _).2 ⟨q, hq, p1, p2⟩)]
    decide
theorem pw_zero {l : List ByteArray} (hl : substB l = true) (n : Int) : sqA n (markF (at2 (matL l))) = sqA n (pwF l 0) := by
  refine sqA_congr fun a c _ _ => ?_
  obtain ⟨h1, h2⟩ := mk_iff (fun i q => (at2_nn hl i q).1) a c
  have h3 := pwF_pos l 0 a c
  rcases pwF_01 l 0 a c with e | e
  · rw [e] at h3 ⊢
    rcases h1 with h1 | h1
    · exact h1
    · exact absurd (h3.2 (h2.1 h1)) (by decide)
  · rw [e] at h3 ⊢
    exact h2.2 (h3.1 (by decide))
theorem pw_next {l : List ByteArray} (hl : substB l = true) (n : Int) (k : Nat) : sqA n (markF (timesF l.length (pwF l k) (at2 (matL l)))) = sqA n (pwF l (k + 1)) := by
  refine sqA_congr fun a c _ _ => ?_
  obtain ⟨h1, h2⟩ := mt_iff (P := pwF l k) (fun i q => by rcases pwF_01 l k i q with e | e <;> rw [e] <;> decide) (fun i q => (at2_nn hl i q).1) l.length a c
  have h3 := pwF_pos l (k + 1) a c
  rw [pow_succ_pos] at h3
  rcases pwF_01 l (k + 1) a c with e | e
  · rw [e] at h3 ⊢
    rcases h1 with h1 | h1
    · exact h1
    · obtain ⟨hc, q, _, p1, p2⟩ := h2.1 h1
      exact absurd (h3.2 ⟨hc, q, (pwF_pos l k a q).1 p1, p2⟩) (by decide)
  · rw [e] at h3 ⊢
    obtain ⟨hc, q, p1, p2⟩ := h3.1 (by decide)
    have h4 := (subst_parts hl).2.1
    exact h2.2 ⟨hc, q, by have := (pow_out p1).2; omega, (pwF_pos l k a q).2 p1, p2⟩
theorem pw_ones {l : List ByteArray} (hl : substB l = true) (k : Nat) : eqF (pwF l k) (onesF l.length) = posTo (powS l k) l.length l.length := by
  have h4 := (subst_parts hl).2.1
  rw [Bool.eq_iff_iff, eqF_iff, posTo_iff]
  constructor
  · intro h q hq c hc
    have e := h q c (by omega) (by omega)
    have e2 : onesF l.length q c = 1 := if_pos ⟨hq, hc⟩
    rw [e2] at e
    exact (pwF_pos l k q c).1 (by rw [e]; decide)
  · intro h q c _ _
    unfold pwF onesF
    by_cases hb : q < l.length ∧ c < l.length
    · rw [if_pos hb, if_pos (h q hb.1 c hb.2)]
    · rw [if_neg hb, if_neg (fun hp => hb (pow_out hp))]

set_option maxHeartbeats 2000000 in
set_option maxRecDepth 100000 in
theorem implIsPrimitiveSubst (l : List ByteArray) (v : Value) (w : World) (h : Lst w v (strs l)) (hz : ∀ x ∈ l, x.size ≤ 1048576) (hn : l.length ≤ 1048576) :
    Calls Try.prog 22 #[.agg #[v]] w fun e w' => e = .returned (.bool (primR l)) ∧ Below w.heap.size w w' := by
  obtain ⟨A, cp, rfl⟩ := lst_slice h
  rw [strs_length] at h ⊢
  have hb0 : Below w.heap.size w (w.alloc (.cells #[.slice A l.length cp] 25)) := (Below.refl _ _).alloc (Nat.le_refl _) _
  have HL := Lib.hid (h.below hb0)
  have HZ := Lib.hid hz
  have HB0 := Lib.hid hb0
  clear h hz hb0
  by_cases h1 : substB l = true
  · obtain ⟨hl1, hl4, _⟩ := subst_parts h1
    have HSB := Lib.hid h1
    have HV : Hid (primR l = primTo l 16) := by show primR l = _; unfold primR; rw [h1]; rfl
    have HSM : Hid (∀ k, Small (pwF l k) (fun j => at2 (matL l) j k) ∧ ∀ q c, Small (pwF l q) (fun j => at2 (matL l) j c)) := fun k => ⟨small_01 (pwF_01 l k) (fun q c => at2_nn h1 q c) k, fun q c => small_01 (pwF_01 l q) (fun q c => at2_nn h1 q c) c⟩
    clear h1
    go_enter Try.func22, Try.ntmps22
    go_wp2_with fail
    refine (implSubstOk l _ _ HL.out HZ.out hn).mono ?_
    rintro e w1 ⟨rfl, hb1⟩
    rw [HSB.out]
    have HB1 : Hid (Below w.heap.size w w1) := HB0.out.trans (hb1.mono (by simp))
    have c0 : w1.cell? ⟨w.heap.size, 0, none⟩ = some (.slice A l.length cp) := (hb1.cell (p := ⟨w.heap.size, 0, none⟩) (by simp)).trans (by go_simp)
    have HL1 := Lib.hid (HL.out.below hb1)
    clear hb1
    go_wp2_with fail
    refine (implMatrix l _ _ HL1.out HSB.out).mono ?_
    rintro e w2 ⟨rfl, hb2⟩
    have HB2 : Hid (Below w.heap.size w w2) := HB1.out.trans (hb2.mono HB1.out.size)
    clear hb2 c0
    have HQ0 : Hid (Arr (w2.alloc (.cells (sqA l.length (at2 (matL l))) 67)) w.heap.size 67 w2.heap.size (sqA l.length (at2 (matL l)))) := Arr.made _ _ _ _ HB2.out.size (by simp [sqA_size, maxLen])
    go_wp2_with (first
      | (with_reducible refine store_new rfl 67 (.tmp 3) (.tmp 9) rfl w2.heap.size _ (sqA l.length (at2 (matL l))) rfl rfl rfl 17 sq_ty rfl rfl (sqA_one _ _) ?_)
      | (with_reducible refine load_arr rfl 67 (.tmp 3) rfl w2.heap.size _ _ _ rfl HQ0.out 17 sq_ty rfl ?_))
    refine (implMarked _ _ _).mono ?_
    rintro e w3 ⟨rfl, hb3⟩
    rw [pw_zero HSB.out]
    have HB3 : Hid (Below w.heap.size w w3) := (HB2.out.alloc HB2.out.size _).trans (hb3.mono (by simp; exact Nat.le_succ_of_le HB2.out.size))
    have HQ3 := Lib.hid (HQ0.out.below hb3)
    have hsz : w2.heap.size < w3.heap.size := by have := hb3.size; simp at this; omega
    clear hb3 HQ0
    go_wp2_with (with_reducible refine store_new rfl 67 (.tmp 4) (.tmp 11) rfl w3.heap.size _ (sqA l.length (pwF l 0)) rfl rfl rfl 17 sq_ty rfl rfl (sqA_one _ _) ?_)
    go_loopw [12] (fun i w' => ∃ k : Nat, k ≤ 16 ∧ i = .int .i64 k ∧ primTo l k = false ∧ Arr w' w.heap.size 67 w2.heap.size (sqA l.length (at2 (matL l))) ∧ Arr w' w.heap.size 67 w3.heap.size (sqA l.length (pwF l k)) ∧ Below w.heap.size w w') (fun i _ => 16 - (intOf i).toNat)
    case atStart => exact ⟨0, by omega, rfl, rfl, HQ3.out.alloc _, Arr.made _ _ _ _ HB3.out.size (by simp [sqA_size, maxLen]), HB3.out.alloc HB3.out.size _⟩
    case round =>
      obtain ⟨k, hk, rfl, hpk, hm, hp, hb⟩ := hrel
      obtain ⟨wo, rfl⟩ : ∃ x : World, x = wr := ⟨_, rfl⟩
      have HM := Lib.hid hm
      have HP := Lib.hid hp
      have HB := Lib.hid hb
      have HPK := Lib.hid hpk
      have HPS : Hid (primTo l (k + 1) = posTo (powS l k) l.length l.length) := by show (primTo l k || _) = _; rw [hpk, Bool.false_or]
      clear hm hp hb hpk
      by_cases hlt : k < 16
      · have heq : ∀ w, (Op.equalIn 10000 67 (.agg #[.int .i64 l.length, .int .i64 (pwF l k 0 0), .int .i64 (pwF l k 0 1), .int .i64 (pwF l k 0 2), .int .i64 (pwF l k 0 3), .int .i64 (pwF l k 1 0), .int .i64 (pwF l k 1 1), .int .i64 (pwF l k 1 2), .int .i64 (pwF l k 1 3), .int .i64 (pwF l k 2 0), .int .i64 (pwF l k 2 1), .int .i64 (pwF l k 2 2), .int .i64 (pwF l k 2 3), .int .i64 (pwF l k 3 0), .int .i64 (pwF l k 3 1), .int .i64 (pwF l k 3 2), .int .i64 (pwF l k 3 3)]) (.agg (sqA l.length (onesF l.length)))).run Try.prog w = .ok (primTo l (k + 1)) w := fun w => by
          have := sq_eq l.length l.length (pwF l k) (onesF l.length) w
          rw [pw_ones HSB.out, beq_self_eq_true, Bool.true_and, ← HPS.out] at this
          exact this
        go_upto_region 7 with (fail)
        go_cut [18] (fun s wx => s = .bool (primTo l (k + 1)) ∧ Below wo.heap.size wo wx)
        case first =>
          have HBc : Hid (Below wo.heap.size wo wo.drew) := below_drewN (Below.refl _ _) 1
          go_region_held3 (fun w' => (w'.cell? ⟨w3.heap.size, 0, none⟩ = some (.int .i64 l.length) ∧ w'.cell? ⟨w3.heap.size, 1, none⟩ = some (.int .i64 (pwF l k 0 0)) ∧ w'.cell? ⟨w3.heap.size, 2, none⟩ = some (.int .i64 (pwF l k 0 1)) ∧ w'.cell? ⟨w3.heap.size, 3, none⟩ = some (.int .i64 (pwF l k 0 2)) ∧ w'.cell? ⟨w3.heap.size, 4, none⟩ = some (.int .i64 (pwF l k 0 3)) ∧ w'.cell? ⟨w3.heap.size, 5, none⟩ = some (.int .i64 (pwF l k 1 0)) ∧ w'.cell? ⟨w3.heap.size, 6, none⟩ = some (.int .i64 (pwF l k 1 1)) ∧ w'.cell? ⟨w3.heap.size, 7, none⟩ = some (.int .i64 (pwF l k 1 2)) ∧ w'.cell? ⟨w3.heap.size, 8, none⟩ = some (.int .i64 (pwF l k 1 3)) ∧ w'.cell? ⟨w3.heap.size, 9, none⟩ = some (.int .i64 (pwF l k 2 0)) ∧ w'.cell? ⟨w3.heap.size, 10, none⟩ = some (.int .i64 (pwF l k 2 1)) ∧ w'.cell? ⟨w3.heap.size, 11, none⟩ = some (.int .i64 (pwF l k 2 2)) ∧ w'.cell? ⟨w3.heap.size, 12, none⟩ = some (.int .i64 (pwF l k 2 3)) ∧ w'.cell? ⟨w3.heap.size, 13, none⟩ = some (.int .i64 (pwF l k 3 0)) ∧ w'.cell? ⟨w3.heap.size, 14, none⟩ = some (.int .i64 (pwF l k 3 1)) ∧ w'.cell? ⟨w3.heap.size, 15, none⟩ = some (.int .i64 (pwF l k 3 2)) ∧ w'.cell? ⟨w3.heap.size, 16, none⟩ = some (.int .i64 (pwF l k 3 3))) ∧ w'.cell? ⟨w2.heap.size, 0, none⟩ = some (.int .i64 l.length))
            (exact ⟨(HP.out.below HBc.out).cells17, (HM.out.below HBc.out).cell 0 _ rfl⟩)
            (first
              | (go_at_call 62
                 refine (implMarkedAll l.length hl4 _).mono ?_
                 rintro e w' ⟨rfl, hbc⟩
                 replace HBc : Hid (Below wo.heap.size wo w') := HBc.out.trans (hbc.mono HBc.out.size)))
          all_goals (go_wp2_with fail; go_meet; exact ⟨rfl, HBc.out⟩)
        case rest =>
          obtain ⟨rfl, hbx⟩ := hcut
          have HP2 := Lib.hid (HP.out.below hbx)
          have HM2 := Lib.hid (HM.out.below hbx)
          have HB2 := Lib.hid (HB.out.trans (hbx.mono HB.out.size))
          clear hbx heq
          by_cases hpt : primTo l (k + 1) = true
          · have HR : Hid (primR l = true) := by
              show primR l = true
              rw [HV.out]
              have := primTo_mono hpt (16 - (k + 1))
              rwa [show k + 1 + (16 - (k + 1)) = 16 by omega] at this
            rw [hpt]
            clear hpt
            go_wp2_with fail
            go_ret
            exact ⟨ret_bool HR.out.symm, HB2.out⟩
          · have hpt' : primTo l (k + 1) = false := by simpa using hpt
            have HPT := Lib.hid hpt'
            rw [hpt']
            clear hpt hpt'
            go_wp2_with (first
              | (with_reducible refine load_arr rfl 67 (.tmp 4) rfl w3.heap.size _ _ _ rfl HP2.out 17 sq_ty rfl ?_)
              | (with_reducible refine load_arr rfl 67 (.tmp 3) rfl w2.heap.size _ _ _ rfl HM2.out 17 sq_ty rfl ?_))
            refine (implTimes l.length l.length (pwF l k) (at2 (matL l)) hl4 (fun c _ => (HSM.out 0).2 k c) _).mono ?_
            rintro e w5 ⟨rfl, hb5⟩
            have HP5 := Lib.hid (HP2.out.below hb5)
            have HM5 := Lib.hid (HM2.out.below hb5)
            have HB5 := Lib.hid (HB2.out.trans (hb5.mono HB2.out.size))
            clear hb5
            go_wp2_with fail
            refine (implMarked _ _ _).mono ?_
            rintro e w6 ⟨rfl, hb6⟩
            rw [pw_next HSB.out]
            have HP6 := Lib.hid (HP5.out.below hb6)
            have HM6 := Lib.hid (HM5.out.below hb6)
            have HB6 := Lib.hid (HB5.out.trans (hb6.mono HB5.out.size))
            clear hb6
            go_wp2_with (with_reducible refine store_arr rfl 67 (.tmp 4) (.tmp 22) rfl w3.heap.size _ _ (sqA l.length (pwF l (k + 1))) rfl rfl HP6.out 17 sq_ty rfl rfl (sqA_one _ _) ?_)
            go_roundw
            case rel => exact ⟨k + 1, by omega, by go_num, HPT.out, HM6.out.otherRow (by omega) _, HP6.out.row (c' := sqA l.length (pwF l (k + 1))) rfl, below_row HB6.out HB3.out.size _⟩
            case measure => simp [intOf]; omega
      · have hk16 : k = 16 := by omega
        subst hk16
        go_wp2_with fail
        go_ret
        exact ⟨ret_bool (by rw [HV.out, HPK.out]), HB.out⟩
  · have h1' : substB l = false := by simpa using h1
    have HSB := Lib.hid h1'
    have HV : Hid (primR l = false) := by show primR l = false; unfold primR; rw [h1']; rfl
    clear h1 h1'
    go_enter Try.func22, Try.ntmps22
    go_wp2_with fail
    refine (implSubstOk l _ _ HL.out HZ.out hn).mono ?_
    rintro e w1 ⟨rfl, hb1⟩
    rw [HSB.out]
    have HB1 : Hid (Below w.heap.size w w1) := HB0.out.trans (hb1.mono (by simp))
    clear hb1
    go_wp2_with fail
    go_ret
    exact ⟨ret_bool HV.out.symm, HB1.out⟩
end Go.Proofs.Ytgidfainoijcmaa

/- l04Signs and IsPrimitiveSubst of the model. Conditions: lengths of at most 2^20. -/
namespace Go.Proofs.Ytgidfainoijcmaa
open Go.RowKit

theorem rect_cells {w : World} {v : Value} {n : Nat} {m : List (List Int)} (h : Mat w v m) (hr : RectN n m) (h0 : 0 < n) : ∃ b off cap, v = .slice (some ⟨b, off, none⟩) n cap ∧ ∀ k, k < n → ∃ b2 off2 cap2, w.cell? ⟨b, off + k, none⟩ = some (.slice (some ⟨b2, off2, none⟩) n cap2) ∧ ∀ j, j < n → w.cell? ⟨b2, off2 + j, none⟩ = some (.int .i64 (at2 m k j)) := by
  have := mat_rect h hr.2 (by rw [hr.1]; exact h0) h0
  rwa [hr.1] at this

set_option maxHeartbeats 2000000 in
set_option maxRecDepth 100000 in
theorem specSigns (n : Nat) (a b : List (List Int)) (va vb : Value) (w : World) (h1 : Mat w va a) (h2 : Mat w vb b) (ha : RectN n a) (hb : RectN n b) (h0 : 1 ≤ n) (h4 : n ≤ 4) :
    Calls Try.prog 82 #[va, vb] w fun e w' => ∃ v, e = .returned v ∧ OwnMat w' w.heap.size w'.heap.size v (sgM a b) ∧ Below w.heap.size w w' := by
  obtain ⟨i0, hi0, hz0, hz1, hz2⟩ := info_parts int_info
  obtain ⟨i1, hj0, hy0, hy1, hy2⟩ := info_parts ints_info
  obtain ⟨ba, oa, ca, rfl, hra⟩ := rect_cells h1 ha h0
  obtain ⟨bb, ob, cb, rfl, hrb⟩ := rect_cells h2 hb h0
  have HRA := Lib.hid hra
  have HRB := Lib.hid hrb
  have HML : Hid ((sgM a b).length = n) := by show (sgM a b).length = n; rw [sgM_length]; exact ha.1
  have HBL := Lib.hid hb.1
  clear h1 h2 hra hrb ha hb
  go_enter Try.func82, Try.ntmps82
  go_wp2_with fail
  go_loopw [5, 16] (fun o i w' => ∃ (us : List Value), us.length ≤ n ∧ i = .int .i64 us.length ∧ GrowMat w' w.heap.size o us (sgM a b) ∧ Below w.heap.size w w') (fun _ i _ => n - (intOf i).toNat)
  case atStart => exact ⟨[], by simp, rfl, ⟨own_made0 _ _ _ (Nat.le_refl _), ⟨by simp, fun i h => absurd h (by simp), fun i j h => absurd h (by simp)⟩⟩, (Below.refl _ _).alloc (Nat.le_refl _) _⟩
  case round =>
    obtain ⟨us, hk, rfl, hgm, hbk⟩ := hrel
    obtain ⟨wo, rfl⟩ : ∃ x : World, x = wr := ⟨_, rfl⟩
    obtain ⟨A, cpo, rfl⟩ := own_slice hgm.1
    have HGM := Lib.hid hgm
    have HBK := Lib.hid hbk
    have hszr : w.heap.size ≤ wo.heap.size := hbk.size
    clear hgm hbk
    by_cases hlt : us.length < n
    · obtain ⟨b2, o2, c2, g1, hrow⟩ := HRA.out us.length hlt
      have g1w : wo.cell? ⟨ba, oa + us.length, none⟩ = some (.slice (some ⟨b2, o2, none⟩) n c2) := (HBK.out.cell (p := ⟨ba, oa + us.length, none⟩) (World.block_lt_of_cell? w _ g1)).trans g1
      have HROW := Lib.hid hrow
      clear hrow g1
      go_wp2_with fail
      go_loopw [8, 23] (fun r j w' => ∃ (k : Nat), k ≤ n ∧ j = .int .i64 k ∧ w'.ownsRow wo.heap.size 3 1 r k (ints ((sgRow a b us.length).take k)) ∧ Below wo.heap.size wo w') (fun _ j _ => n - (intOf j).toNat)
      case atStart => exact ⟨0, by omega, rfl, own_made0 _ _ _ (Nat.le_refl _), (Below.refl _ _).alloc (Nat.le_refl _) _⟩
      case round =>
        obtain ⟨k, hk2, rfl, ho, hb2⟩ := hrel
        obtain ⟨wi, rfl⟩ : ∃ x : World, x = wr := ⟨_, rfl⟩
        obtain ⟨Ar, cpr, rfl⟩ := own_slice ho
        have HO := Lib.hid ho
        have HB2 := Lib.hid hb2
        have hszq := hb2.size
        have HBW : Hid (Below w.heap.size w wi) := HBK.out.trans (hb2.mono hszr)
        clear ho hb2
        by_cases hlt2 : k < n
        · have HS : Hid (ints ((sgRow a b us.length).take (k + 1)) = ints ((sgRow a b us.length).take k) ++ [.int .i64 (sgI a b us.length k n)]) := by
            have := sgRow_take a b us.length k (by rw [HBL.out]; exact hlt2)
            rw [HBL.out] at this
            exact this
          go_wp2_with fail
          go_loop [10, 28] (fun s q => ∃ (j : Nat), j ≤ n ∧ q = .int .i64 j ∧ s = .int .i64 (sgI a b us.length k j)) (fun _ q => n - (intOf q).toNat)
          case atStart => exact ⟨0, by omega, rfl, rfl⟩
          case round =>
            obtain ⟨j, hj, rfl, rfl⟩ := hrel
            by_cases hlt3 : j < n
            · obtain ⟨b3, o3, c3, q1, hrow3⟩ := HRB.out j hlt3
              have p1 := HROW.out j hlt3
              have p2 := hrow3 k hlt2
              have g2 : wi.cell? ⟨b2, o2 + j, none⟩ = some (.int .i64 (at2 a us.length j)) := (HBW.out.cell (p := ⟨b2, o2 + j, none⟩) (World.block_lt_of_cell? w _ p1)).trans p1
              have g3 : wi.cell? ⟨bb, ob + j, none⟩ = some (.slice (some ⟨b3, o3, none⟩) n c3) := (HBW.out.cell (p := ⟨bb, ob + j, none⟩) (World.block_lt_of_cell? w _ q1)).trans q1
              have g4 : wi.cell? ⟨b3, o3 + k, none⟩ = some (.int .i64 (at2 b j k)) := (HBW.out.cell (p := ⟨b3, o3 + k, none⟩) (World.block_lt_of_cell? w _ p2)).trans p2
              clear hrow3 q1 p1 p2
              by_cases e1 : 0 < at2 a us.length j
              · have d1 : decide ((0 : Int) < at2 a us.length j) = true := by simpa using e1
                by_cases e2 : 0 < at2 b j k
                · have d2 : decide ((0 : Int) < at2 b j k) = true := by simpa using e2
                  have HV := Lib.hid (sgI_yes e1 e2)
                  go_wp2_with fail
                  go_round
                  case rel => exact ⟨j + 1, by omega, by go_num, by rw [HV.out]⟩
                  case measure => simp [intOf]; omega
                · have d2 : decide ((0 : Int) < at2 b j k) = false := by simpa using e2
                  have HV : Hid (sgI a b us.length k (j + 1) = sgI a b us.length k j) := sgI_no (by rw [d2, Bool.and_false])
                  go_wp2_with fail
                  go_round
                  case rel => exact ⟨j + 1, by omega, by go_num, by rw [HV.out]⟩
                  case measure => simp [intOf]; omega
              · have d1 : decide ((0 : Int) < at2 a us.length j) = false := by simpa using e1
                have HV : Hid (sgI a b us.length k (j + 1) = sgI a b us.length k j) := sgI_no (by rw [d1, Bool.false_and])
                go_wp2_with fail
                go_round
                case rel => exact ⟨j + 1, by omega, by go_num, by rw [HV.out]⟩
                case measure => simp [intOf]; omega
            · have hja : j = n := by omega
              have HJA := Lib.hid hja
              clear hja
              go_wp2_with (at_builtin
                           refine wpList_append1 _ rfl (.tmp 46) (.tmp 48) _ rfl wo.heap.size 3 i0 _ 8 Try.underlying30 hi0 hz0 hz1 hz2 rfl _ k _ rfl HO.out (.int .i64 (sgI a b us.length k j)) rfl rfl (by unfold maxLen; omega) (by omega) hszq ?_
                           intro v' w1 hown1 hbel1
                           have HOW := Lib.hid hown1
                           have HBE := Lib.hid hbel1
                           clear hown1 hbel1)
              go_roundw
              case rel =>
                refine ⟨k + 1, by omega, by go_num, ?_, HB2.out.trans HBE.out⟩
                rw [HS.out, ← HJA.out]
                exact HOW.out
              case measure => simp [intOf]; omega
        · have hkl : k = n := by omega
          have HO2 : Hid (wi.ownsRow wo.heap.size 3 1 (.slice Ar k cpr) n (ints (sgRow a b us.length))) := by
            have := HO.out
            rw [hkl, List.take_of_length_le (by rw [sgRow_length, HBL.out]; exact Nat.le_refl _)] at this
            rw [hkl]
            exact this
          have HG1 := Lib.hid (GrowMat.below HGM.out HB2.out)
          have HGU := Lib.hid HG1.out.1
          clear hkl
          go_wp2_with (at_builtin
                       refine wpList_append1g _ rfl (.tmp 51) (.tmp 53) _ rfl w.heap.size 30 i1 _ 24 Try.underlying27 hj0 hy0 hy1 hy2 rfl _ us.length us rfl HGU.out (.slice Ar k cpr) rfl rfl (by unfold maxLen; omega) (by omega) (by omega) ?_
                       intro v' w1 hown1 hgr1
                       have HOW := Lib.hid hown1
                       have HGR := Lib.hid hgr1
                       clear hown1 hgr1)
          go_roundw
          case rel =>
            have hmm : us.length < (sgM a b).length := by rw [HML.out]; exact hlt
            have hrow : (sgM a b)[us.length] = sgRow a b us.length := sgM_at a b us.length hmm
            refine ⟨us ++ [.slice Ar k cpr], by simp; omega, by simp, ?_, ?_⟩
            · refine GrowMat.snoc HGM.out HB2.out hszr hmm ?_ HOW.out HGR.out
              rw [hrow, sgRow_length, HBL.out]
              exact HO2.out
            · exact HBW.out.grown HGR.out (by omega) (fun x hx => (HGU.out.lt x hx).1)
          case measure => simp [intOf]; omega
    · have hkl : us.length = (sgM a b).length := by have := HML.out; omega
      have HOM : Hid (OwnMat wo w.heap.size wo.heap.size (.slice A us.length cpo) (sgM a b)) := HGM.out.own hkl
      clear hkl
      go_wp2_with fail
      go_ret
      exact ⟨_, rfl, HOM.out, HBK.out⟩

set_option maxHeartbeats 2000000 in
set_option maxRecDepth 100000 in
theorem specIsPrimitiveSubst (l : List ByteArray) (v : Value) (w : World) (h : Lst w v (strs l)) (hz : ∀ x ∈ l, x.size ≤ 1048576) (hn : l.length ≤ 1048576) :
    Calls Try.prog 41 #[.agg #[v]] w fun e w' => e = .returned (.bool (primR l)) ∧ Below w.heap.size w w' := by
  obtain ⟨A, cp, rfl⟩ := lst_slice h
  rw [strs_length] at h ⊢
  have hb0 : Below w.heap.size w (w.alloc (.cells #[.slice A l.length cp] 25)) := (Below.refl _ _).alloc (Nat.le_refl _) _
  have HL := Lib.hid (h.below hb0)
  have HZ := Lib.hid hz
  have HB0 := Lib.hid hb0
  clear h hz hb0
  by_cases h1 : substB l = true
  · obtain ⟨hl1, hl4, _⟩ := subst_parts h1
    have H1 := Lib.hid h1
    have HV : Hid (primR l = primTo l 16) := by show primR l = _; unfold primR; rw [h1]; rfl
    go_enter Try.func41, Try.ntmps41
    go_wp2_with fail
    refine (specSubstOk l _ _ HL.out HZ.out hn).mono ?_
    rintro e w1 ⟨rfl, hb1⟩
    have HB1 : Hid (Below w.heap.size w w1) := HB0.out.trans (hb1.mono (by simp))
    have c0 : w1.cell? ⟨w.heap.size, 0, none⟩ = some (.slice A l.length cp) := (hb1.cell (p := ⟨w.heap.size, 0, none⟩) (by simp)).trans (by go_simp)
    have HL1 := Lib.hid (HL.out.below hb1)
    clear hb1
    go_wp2_with fail
    refine (specMatrix l _ _ HL1.out H1.out).mono ?_
    rintro e w3 ⟨mv, rfl, hom, hb3⟩
    obtain ⟨Am, cm, rfl⟩ := mat_slice hom.mat
    have HM := Lib.hid hom.mat
    have HB3 : Hid (Below w.heap.size w w3) := HB1.out.trans (hb3.mono HB1.out.size)
    clear hom hb3 c0
    go_wp2_with fail
    go_loopw [4, 5] (fun o i w' => ∃ (k : Nat), k ≤ 16 ∧ i = .int .i64 k ∧ Mat w' o (powS l k) ∧ primTo l k = false ∧ Below w3.heap.size w3 w') (fun _ i _ => 16 - (intOf i).toNat)
    case atStart => exact ⟨0, by omega, rfl, HM.out, rfl, Below.refl _ _⟩
    case round =>
      obtain ⟨k, hk, rfl, hmk, hpk, hbk⟩ := hrel
      obtain ⟨b, off, cap, rfl, hrow⟩ := rect_cells hmk (powS_rect l k) (show 0 < l.length by omega)
      have HMK := Lib.hid hmk
      have HPK := Lib.hid hpk
      have HBK := Lib.hid hbk
      have HROW := Lib.hid hrow
      have HPS : Hid (primTo l (k + 1) = posTo (powS l k) l.length l.length) := by show (primTo l k || _) = _; rw [hpk, Bool.false_or]
      clear hmk hpk hbk hrow
      by_cases hlt : k < 16
      · have d0 : decide ((k : Int) < 16) = true := by simp; omega
        go_wp2_with fail
        go_loop [6, 23] (fun f i => ∃ (q : Nat), q ≤ l.length ∧ i = .int .i64 q ∧ f = .bool (posTo (powS l k) l.length q)) (fun _ i => l.length - (intOf i).toNat)
        case atStart => exact ⟨0, by omega, rfl, rfl⟩
        case round =>
          obtain ⟨q, hq, rfl, rfl⟩ := hrel
          by_cases hltq : q < l.length
          · obtain ⟨b2, o2, c2, g1, hc2⟩ := HROW.out q hltq
            have HC2 := Lib.hid hc2
            clear hc2
            go_wp2_with fail
            go_loop [6, 29] (fun f i => ∃ (p : Nat), p ≤ l.length ∧ i = .int .i64 p ∧ f = .bool (posTo (powS l k) l.length q && posRow (powS l k) q p)) (fun _ i => l.length - (intOf i).toNat)
            case atStart => exact ⟨0, by omega, rfl, by show Value.bool _ = Value.bool (_ && true); rw [Bool.and_true]⟩
            case round =>
              obtain ⟨p, hp, rfl, rfl⟩ := hrel
              by_cases hltp : p < l.length
              · have g2 := HC2.out p hltp
                have HE : Hid ((posTo (powS l k) l.length q && posRow (powS l k) q (p + 1)) = ((posTo (powS l k) l.length q && posRow (powS l k) q p) && decide (0 < at2 (powS l k) q p))) := by
                  show (_ && (posRow (powS l k) q p && decide (0 < at2 (powS l k) q p))) = _
                  rw [Bool.and_assoc]
                by_cases hf : (posTo (powS l k) l.length q && posRow (powS l k) q p) = true
                · rw [hf]
                  have HF := Lib.hid hf
                  clear hf
                  go_wp2_with fail
                  go_round
                  case rel => exact ⟨p + 1, by omega, by go_num, by rw [HE.out, HF.out, Bool.true_and]⟩
                  case measure => simp [intOf]; omega
                · have hf' : (posTo (powS l k) l.length q && posRow (powS l k) q p) = false := by simpa only [Bool.not_eq_true] using hf
                  rw [hf']
                  have HF := Lib.hid hf'
                  clear hf hf'
                  go_wp2_with fail
                  go_round
                  case rel => exact ⟨p + 1, by omega, by go_num, by rw [HE.out, HF.out, Bool.false_and]⟩
                  case measure => simp [intOf]; omega
              · have hpl : p = l.length := by omega
                have HE : Hid ((posTo (powS l k) l.length q && posRow (powS l k) q p) = posTo (powS l k) l.length (q + 1)) := by rw [hpl]; exact rfl
                clear hpl
                go_wp2_with fail
                go_round
                case rel => exact ⟨q + 1, by omega, by go_num, by rw [HE.out]⟩
                case measure => simp [intOf]; omega
          · have hql : q = l.length := by omega
            have HQL : Hid (primTo l (k + 1) = posTo (powS l k) l.length q) := by rw [hql]; exact HPS.out
            clear hql
            by_cases hf : posTo (powS l k) l.length q = true
            · have HYES : Hid (primR l = true) := by
                show primR l = true
                rw [HV.out]
                have e := primTo_mono (HQL.out.trans hf) (16 - (k + 1))
                rwa [show k + 1 + (16 - (k + 1)) = 16 from by omega] at e
              rw [hf]
              clear hf
              go_wp2_with fail
              go_ret
              exact ⟨ret_bool HYES.out.symm, HB3.out.trans (HBK.out.mono HB3.out.size)⟩
            · have hf' : posTo (powS l k) l.length q = false := by simpa using hf
              have HNO := Lib.hid (HQL.out.trans hf')
              rw [hf']
              clear hf hf'
              go_wp2_with fail
              refine (specSigns l.length (powS l k) (matL l) _ _ _ HMK.out (HM.out.below HBK.out) (powS_rect l k) (matL_rect l) hl1 hl4).mono ?_
              rintro e w5 ⟨v5, rfl, ho5, hb5⟩
              obtain ⟨A5, c5, rfl⟩ := mat_slice ho5.mat
              have HM5 := Lib.hid ho5.mat
              have HB5 : Hid (Below w3.heap.size w3 w5) := HBK.out.trans (hb5.mono HBK.out.size)
              clear ho5 hb5
              go_wp2_with fail
              go_roundw
              case rel => exact ⟨k + 1, by omega, by go_num, HM5.out, HNO.out, HB5.out⟩
              case measure => simp [intOf]; omega
      · have hk16 : k = 16 := by omega
        have HNO : Hid (primR l = false) := by show primR l = false; rw [HV.out, ← hk16]; exact HPK.out
        go_wp2_with fail
        go_ret
        exact ⟨ret_bool HNO.out.symm, HB3.out.trans (HBK.out.mono HB3.out.size)⟩
  · have h1' : substB l = false := by simpa using h1
    have HV : Hid (primR l = false) := by show primR l = false; unfold primR; rw [h1']; rfl
    clear h1
    go_enter Try.func41, Try.ntmps41
    go_wp2_with fail
    refine (specSubstOk l _ _ HL.out HZ.out hn).mono ?_
    rintro e w1 ⟨rfl, hb1⟩
    have HB1 : Hid (Below w.heap.size w w1) := HB0.out.trans (hb1.mono (by simp))
    clear hb1
    go_wp2_with fail
    go_ret
    exact ⟨ret_bool HV.out.symm, HB1.out⟩
end Go.Proofs.Ytgidfainoijcmaa
