/- IsPrimitiveSubst of the program. Conditions: lengths of at most 2^20. -/
import Derived.Test.YtgidfainoijcmaaSqM
import Derived.Test.YtgidfainoijcmaaPrimP
namespace Go.Proofs.Ytgidfainoijcmaa
open Go.RowKit

theorem sgB_iff {a b : List (List Int)} {i k : Nat} : ∀ j, sgB a b i k j = true ↔ ∃ q, q < j ∧ 0 < at2 a i q ∧ 0 < at2 b q k
  | 0 => by simp [sgB]
  | j + 1 => by
    unfold sgB
    rw [Bool.or_eq_true, Bool.and_eq_true, decide_eq_true_eq, decide_eq_true_eq, sgB_iff j]
    constructor
    · rintro (⟨q, h1, h2⟩ | h)
      · exact ⟨q, by omega, h2⟩
      · exact ⟨j, by omega, h⟩
    · rintro ⟨q, h1, h2⟩
      by_cases e : q = j
      · subst e; exact .inr h2
      · exact .inl ⟨q, by omega, h2⟩
theorem posRow_iff {m : List (List Int)} {i : Nat} : ∀ n, posRow m i n = true ↔ ∀ k, k < n → 0 < at2 m i k
  | 0 => by simp [posRow]
  | n + 1 => by
    unfold posRow
    rw [Bool.and_eq_true, decide_eq_true_eq, posRow_iff n]
    constructor
    · rintro ⟨h1, h2⟩ k hk
      by_cases e : k = n
      · subst e; exact h2
      · exact h1 k (by omega)
    · intro h
      exact ⟨fun k hk => h k (by omega), h n (by omega)⟩
theorem posTo_iff {m : List (List Int)} {n : Nat} : ∀ i, posTo m n i = true ↔ ∀ q, q < i → ∀ k, k < n → 0 < at2 m q k
  | 0 => by simp [posTo]
  | i + 1 => by
    unfold posTo
    rw [Bool.and_eq_true, posTo_iff i, posRow_iff n]
    constructor
    · rintro ⟨h1, h2⟩ q hq
      by_cases e : q = i
      · subst e; exact h2
      · exact h1 q (by omega)
    · intro h
      exact ⟨fun q hq => h q (by omega), h i (by omega)⟩
/-- the marks of a power -/
def pwF (l : List ByteArray) (k : Nat) : Nat → Nat → Int := fun i j => if 0 < at2 (powS l k) i j then 1 else 0
theorem pwF_01 (l : List ByteArray) (k i j : Nat) : pwF l k i j = 0 ∨ pwF l k i j = 1 := by
  unfold pwF
  split
  · exact .inr rfl
  · exact .inl rfl
theorem pwF_pos (l : List ByteArray) (k i j : Nat) : 0 < pwF l k i j ↔ 0 < at2 (powS l k) i j := by
  unfold pwF
  by_cases h : 0 < at2 (powS l k) i j
  · rw [if_pos h]; simp [h]
  · rw [if_neg h]; simp [h]
theorem pow_out {l : List ByteArray} {k i j : Nat} (h : 0 < at2 (powS l k) i j) : i < l.length ∧ j < l.length := by
  obtain ⟨r1, r2⟩ := powS_rect l k
  by_cases hi : i < l.length
  · refine ⟨hi, ?_⟩
    by_cases hj : j < l.length
    · exact hj
    · rw [at2_outc (powS l k) l.length i j (by omega) (r2 i (by omega)) (by omega)] at h
      exact absurd h (by decide)
  · rw [at2_out _ i j (by omega)] at h
    exact absurd h (by decide)
theorem pow_succ_pos (l : List ByteArray) (k i j : Nat) : 0 < at2 (powS l (k + 1)) i j ↔ j < l.length ∧ ∃ q, 0 < at2 (powS l k) i q ∧ 0 < at2 (matL l) q j := by
  constructor
  · intro h
    obtain ⟨h1, h2⟩ := pow_out h
    refine ⟨h2, ?_⟩
    have e1 : i < (sgM (powS l k) (matL l)).length := by rw [sgM_length, (powS_rect l k).1]; exact h1
    have e2 : j < (sgM (powS l k) (matL l))[i].length := by rw [sgM_at, sgRow_length, matL_length]; exact h2
    have e : at2 (powS l (k + 1)) i j = sgI (powS l k) (matL l) i j l.length := by
      show at2 (sgM (powS l k) (matL l)) i j = _
      rw [at2_eq _ _ _ e1 e2]
      simp [sgM, sgRow, matL_length]
    rw [e] at h
    have hs : sgB (powS l k) (matL l) i j l.length = true := by
      by_cases hs : sgB (powS l k) (matL l) i j l.length = true
      · exact hs
      · unfold sgI at h
        rw [if_neg hs] at h
        omega
    obtain ⟨q, _, p1, p2⟩ := (sgB_iff _).1 hs
    exact ⟨q, p1, p2⟩
  · rintro ⟨h2, q, p1, p2⟩
    obtain ⟨h1, hq⟩ := pow_out p1
    have e1 : i < (sgM (powS l k) (matL l)).length := by rw [sgM_length, (powS_rect l k).1]; exact h1
    have e2 : j < (sgM (powS l k) (matL l))[i].length := by rw [sgM_at, sgRow_length, matL_length]; exact h2
    have e : at2 (powS l (k + 1)) i j = sgI (powS l k) (matL l) i j l.length := by
      show at2 (sgM (powS l k) (matL l)) i j = _
      rw [at2_eq _ _ _ e1 e2]
      simp [sgM, sgRow, matL_length]
    rw [e]
    unfold sgI
    rw [if_pos ((sgB_iff _).2 ⟨q, hq, p1, p2⟩)]
    decide
theorem pw_zero {l : List ByteArray} (hl : substB l = true) (n : Int) : sqA n (markF (at2 (matL l))) = sqA n (pwF l 0) := by
  refine sqA_congr fun a c _ _ => ?_
  obtain ⟨h1, h2⟩ := mk_iff (fun i q => (at2_nn hl i q).1) a c
  have h3 := pwF_pos l 0 a c
  rcases pwF_01 l 0 a c with e | e
  · rw [e] at h3 ⊢
    rcases h1 with h1 | h1
    · exact h1
    · exact absurd (h3.2 (h2.1 h1)) (by decide)
  · rw [e] at h3 ⊢
    exact h2.2 (h3.1 (by decide))
theorem pw_next {l : List ByteArray} (hl : substB l = true) (n : Int) (k : Nat) : sqA n (markF (timesF l.length (pwF l k) (at2 (matL l)))) = sqA n (pwF l (k + 1)) := by
  refine sqA_congr fun a c _ _ => ?_
  obtain ⟨h1, h2⟩ := mt_iff (P := pwF l k) (fun i q => by rcases pwF_01 l k i q with e | e <;> rw [e] <;> decide) (fun i q => (at2_nn hl i q).1) l.length a c
  have h3 := pwF_pos l (k + 1) a c
  rw [pow_succ_pos] at h3
  rcases pwF_01 l (k + 1) a c with e | e
  · rw [e] at h3 ⊢
    rcases h1 with h1 | h1
    · exact h1
    · obtain ⟨hc, q, _, p1, p2⟩ := h2.1 h1
      exact absurd (h3.2 ⟨hc, q, (pwF_pos l k a q).1 p1, p2⟩) (by decide)
  · rw [e] at h3 ⊢
    obtain ⟨hc, q, p1, p2⟩ := h3.1 (by decide)
    have h4 := (subst_parts hl).2.1
    exact h2.2 ⟨hc, q, by have := (pow_out p1).2; omega, (pwF_pos l k a q).2 p1, p2⟩
theorem pw_ones {l : List ByteArray} (hl : substB l = true) (k : Nat) : eqF (pwF l k) (onesF l.length) = posTo (powS l k) l.length l.length := by
  have h4 := (subst_parts hl).2.1
  rw [Bool.eq_iff_iff, eqF_iff, posTo_iff]
  constructor
  · intro h q hq c hc
    have e := h q c (by omega) (by omega)
    have e2 : onesF l.length q c = 1 := if_pos ⟨hq, hc⟩
    rw [e2] at e
    exact (pwF_pos l k q c).1 (by rw [e]; decide)
  · intro h q c _ _
    unfold pwF onesF
    by_cases hb : q < l.length ∧ c < l.length
    · rw [if_pos hb, if_pos (h q hb.1 c hb.2)]
    · rw [if_neg hb, if_neg (fun hp => hb (pow_out hp))]

set_option maxHeartbeats 2000000 in
set_option maxRecDepth 100000 in
theorem implIsPrimitiveSubst (l : List ByteArray) (v : Value) (w : World) (h : Lst w v (strs l)) (hz : ∀ x ∈ l, x.size ≤ 1048576) (hn : l.length ≤ 1048576) :
    Calls Try.prog 22 #[.agg #[v]] w fun e w' => e = .returned (.bool (primR l)) ∧ Below w.heap.size w w' := by
  obtain ⟨A, cp, rfl⟩ := lst_slice h
  rw [strs_length] at h ⊢
  have hb0 : Below w.heap.size w (w.alloc (.cells #[.slice A l.length cp] 25)) := (Below.refl _ _).alloc (Nat.le_refl _) _
  have HL := Lib.hid (h.below hb0)
  have HZ := Lib.hid hz
  have HB0 := Lib.hid hb0
  clear h hz hb0
  by_cases h1 : substB l = true
  · obtain ⟨hl1, hl4, _⟩ := subst_parts h1
    have HSB := Lib.hid h1
    have HV : Hid (primR l = primTo l 16) := by show primR l = _; unfold primR; rw [h1]; rfl
    have HSM : Hid (∀ k, Small (pwF l k) (fun j => at2 (matL l) j k) ∧ ∀ q c, Small (pwF l q) (fun j => at2 (matL l) j c)) := fun k => ⟨small_01 (pwF_01 l k) (fun q c => at2_nn h1 q c) k, fun q c => small_01 (pwF_01 l q) (fun q c => at2_nn h1 q c) c⟩
    clear h1
    go_enter Try.func22, Try.ntmps22
    go_wp2_with fail
    refine (implSubstOk l _ _ HL.out HZ.out hn).mono ?_
    rintro e w1 ⟨rfl, hb1⟩
    rw [HSB.out]
    have HB1 : Hid (Below w.heap.size w w1) := HB0.out.trans (hb1.mono (by simp))
    have c0 : w1.cell? ⟨w.heap.size, 0, none⟩ = some (.slice A l.length cp) := (hb1.cell (p := ⟨w.heap.size, 0, none⟩) (by simp)).trans (by go_simp)
    have HL1 := Lib.hid (HL.out.below hb1)
    clear hb1
    go_wp2_with fail
    refine (implMatrix l _ _ HL1.out HSB.out).mono ?_
    rintro e w2 ⟨rfl, hb2⟩
    have HB2 : Hid (Below w.heap.size w w2) := HB1.out.trans (hb2.mono HB1.out.size)
    clear hb2 c0
    have HQ0 : Hid (Arr (w2.alloc (.cells (sqA l.length (at2 (matL l))) 67)) w.heap.size 67 w2.heap.size (sqA l.length (at2 (matL l)))) := Arr.made _ _ _ _ HB2.out.size (by simp [sqA_size, maxLen])
    go_wp2_with (first
      | (with_reducible refine store_new rfl 67 (.tmp 3) (.tmp 9) rfl w2.heap.size _ (sqA l.length (at2 (matL l))) rfl rfl rfl 17 sq_ty rfl rfl (sqA_one _ _) ?_)
      | (with_reducible refine load_arr rfl 67 (.tmp 3) rfl w2.heap.size _ _ _ rfl HQ0.out 17 sq_ty rfl ?_))
    refine (implMarked _ _ _).mono ?_
    rintro e w3 ⟨rfl, hb3⟩
    rw [pw_zero HSB.out]
    have HB3 : Hid (Below w.heap.size w w3) := (HB2.out.alloc HB2.out.size _).trans (hb3.mono (by simp; exact Nat.le_succ_of_le HB2.out.size))
    have HQ3 := Lib.hid (HQ0.out.below hb3)
    have hsz : w2.heap.size < w3.heap.size := by have := hb3.size; simp at this; omega
    clear hb3 HQ0
    go_wp2_with (with_reducible refine store_new rfl 67 (.tmp 4) (.tmp 11) rfl w3.heap.size _ (sqA l.length (pwF l 0)) rfl rfl rfl 17 sq_ty rfl rfl (sqA_one _ _) ?_)
    go_loopw [12] (fun i w' => ∃ k : Nat, k ≤ 16 ∧ i = .int .i64 k ∧ primTo l k = false ∧ Arr w' w.heap.size 67 w2.heap.size (sqA l.length (at2 (matL l))) ∧ Arr w' w.heap.size 67 w3.heap.size (sqA l.length (pwF l k)) ∧ Below w.heap.size w w') (fun i _ => 16 - (intOf i).toNat)
    case atStart => exact ⟨0, by omega, rfl, rfl, HQ3.out.alloc _, Arr.made _ _ _ _ HB3.out.size (by simp [sqA_size, maxLen]), HB3.out.alloc HB3.out.size _⟩
    case round =>
      obtain ⟨k, hk, rfl, hpk, hm, hp, hb⟩ := hrel
      obtain ⟨wo, rfl⟩ : ∃ x : World, x = wr := ⟨_, rfl⟩
      have HM := Lib.hid hm
      have HP := Lib.hid hp
      have HB := Lib.hid hb
      have HPK := Lib.hid hpk
      have HPS : Hid (primTo l (k + 1) = posTo (powS l k) l.length l.length) := by show (primTo l k || _) = _; rw [hpk, Bool.false_or]
      clear hm hp hb hpk
      by_cases hlt : k < 16
      · have heq : ∀ w, (Op.equalIn 10000 67 (.agg #[.int .i64 l.length, .int .i64 (pwF l k 0 0), .int .i64 (pwF l k 0 1), .int .i64 (pwF l k 0 2), .int .i64 (pwF l k 0 3), .int .i64 (pwF l k 1 0), .int .i64 (pwF l k 1 1), .int .i64 (pwF l k 1 2), .int .i64 (pwF l k 1 3), .int .i64 (pwF l k 2 0), .int .i64 (pwF l k 2 1), .int .i64 (pwF l k 2 2), .int .i64 (pwF l k 2 3), .int .i64 (pwF l k 3 0), .int .i64 (pwF l k 3 1), .int .i64 (pwF l k 3 2), .int .i64 (pwF l k 3 3)]) (.agg (sqA l.length (onesF l.length)))).run Try.prog w = .ok (primTo l (k + 1)) w := fun w => by
          have := sq_eq l.length l.length (pwF l k) (onesF l.length) w
          rw [pw_ones HSB.out, beq_self_eq_true, Bool.true_and, ← HPS.out] at this
          exact this
        go_upto_region 7 with (fail)
        go_cut [18] (fun s wx => s = .bool (primTo l (k + 1)) ∧ Below wo.heap.size wo wx)
        case first =>
          have HBc : Hid (Below wo.heap.size wo wo.drew) := below_drewN (Below.refl _ _) 1
          go_region_held3 (fun w' => (w'.cell? ⟨w3.heap.size, 0, none⟩ = some (.int .i64 l.length) ∧ w'.cell? ⟨w3.heap.size, 1, none⟩ = some (.int .i64 (pwF l k 0 0)) ∧ w'.cell? ⟨w3.heap.size, 2, none⟩ = some (.int .i64 (pwF l k 0 1)) ∧ w'.cell? ⟨w3.heap.size, 3, none⟩ = some (.int .i64 (pwF l k 0 2)) ∧ w'.cell? ⟨w3.heap.size, 4, none⟩ = some (.int .i64 (pwF l k 0 3)) ∧ w'.cell? ⟨w3.heap.size, 5, none⟩ = some (.int .i64 (pwF l k 1 0)) ∧ w'.cell? ⟨w3.heap.size, 6, none⟩ = some (.int .i64 (pwF l k 1 1)) ∧ w'.cell? ⟨w3.heap.size, 7, none⟩ = some (.int .i64 (pwF l k 1 2)) ∧ w'.cell? ⟨w3.heap.size, 8, none⟩ = some (.int .i64 (pwF l k 1 3)) ∧ w'.cell? ⟨w3.heap.size, 9, none⟩ = some (.int .i64 (pwF l k 2 0)) ∧ w'.cell? ⟨w3.heap.size, 10, none⟩ = some (.int .i64 (pwF l k 2 1)) ∧ w'.cell? ⟨w3.heap.size, 11, none⟩ = some (.int .i64 (pwF l k 2 2)) ∧ w'.cell? ⟨w3.heap.size, 12, none⟩ = some (.int .i64 (pwF l k 2 3)) ∧ w'.cell? ⟨w3.heap.size, 13, none⟩ = some (.int .i64 (pwF l k 3 0)) ∧ w'.cell? ⟨w3.heap.size, 14, none⟩ = some (.int .i64 (pwF l k 3 1)) ∧ w'.cell? ⟨w3.heap.size, 15, none⟩ = some (.int .i64 (pwF l k 3 2)) ∧ w'.cell? ⟨w3.heap.size, 16, none⟩ = some (.int .i64 (pwF l k 3 3))) ∧ w'.cell? ⟨w2.heap.size, 0, none⟩ = some (.int .i64 l.length))
            (exact ⟨(HP.out.below HBc.out).cells17, (HM.out.below HBc.out).cell 0 _ rfl⟩)
            (first
              | (go_at_call 62
                 refine (implMarkedAll l.length hl4 _).mono ?_
                 rintro e w' ⟨rfl, hbc⟩
                 replace HBc : Hid (Below wo.heap.size wo w') := HBc.out.trans (hbc.mono HBc.out.size)))
          all_goals (go_wp2_with fail; go_meet; exact ⟨rfl, HBc.out⟩)
        case rest =>
          obtain ⟨rfl, hbx⟩ := hcut
          have HP2 := Lib.hid (HP.out.below hbx)
          have HM2 := Lib.hid (HM.out.below hbx)
          have HB2 := Lib.hid (HB.out.trans (hbx.mono HB.out.size))
          clear hbx heq
          by_cases hpt : primTo l (k + 1) = true
          · have HR : Hid (primR l = true) := by
              show primR l = true
              rw [HV.out]
              have := primTo_mono hpt (16 - (k + 1))
              rwa [show k + 1 + (16 - (k + 1)) = 16 by omega] at this
            rw [hpt]
            clear hpt
            go_wp2_with fail
            go_ret
            exact ⟨ret_bool HR.out.symm, HB2.out⟩
          · have hpt' : primTo l (k + 1) = false := by simpa using hpt
            have HPT := Lib.hid hpt'
            rw [hpt']
            clear hpt hpt'
            go_wp2_with (first
              | (with_reducible refine load_arr rfl 67 (.tmp 4) rfl w3.heap.size _ _ _ rfl HP2.out 17 sq_ty rfl ?_)
              | (with_reducible refine load_arr rfl 67 (.tmp 3) rfl w2.heap.size _ _ _ rfl HM2.out 17 sq_ty rfl ?_))
            refine (implTimes l.length l.length (pwF l k) (at2 (matL l)) hl4 (fun c _ => (HSM.out 0).2 k c) _).mono ?_
            rintro e w5 ⟨rfl, hb5⟩
            have HP5 := Lib.hid (HP2.out.below hb5)
            have HM5 := Lib.hid (HM2.out.below hb5)
            have HB5 := Lib.hid (HB2.out.trans (hb5.mono HB2.out.size))
            clear hb5
            go_wp2_with fail
            refine (implMarked _ _ _).mono ?_
            rintro e w6 ⟨rfl, hb6⟩
            rw [pw_next HSB.out]
            have HP6 := Lib.hid (HP5.out.below hb6)
            have HM6 := Lib.hid (HM5.out.below hb6)
            have HB6 := Lib.hid (HB5.out.trans (hb6.mono HB5.out.size))
            clear hb6
            go_wp2_with (with_reducible refine store_arr rfl 67 (.tmp 4) (.tmp 22) rfl w3.heap.size _ _ (sqA l.length (pwF l (k + 1))) rfl rfl HP6.out 17 sq_ty rfl rfl (sqA_one _ _) ?_)
            go_roundw
            case rel => exact ⟨k + 1, by omega, by go_num, HPT.out, HM6.out.otherRow (by omega) _, HP6.out.row (c' := sqA l.length (pwF l (k + 1))) rfl, below_row HB6.out HB3.out.size _⟩
            case measure => simp [intOf]; omega
      · have hk16 : k = 16 := by omega
        subst hk16
        go_wp2_with fail
        go_ret
        exact ⟨ret_bool (by rw [HV.out, HPK.out]), HB.out⟩
  · have h1' : substB l = false := by simpa using h1
    have HSB := Lib.hid h1'
    have HV : Hid (primR l = false) := by show primR l = false; unfold primR; rw [h1']; rfl
    clear h1 h1'
    go_enter Try.func22, Try.ntmps22
    go_wp2_with fail
    refine (implSubstOk l _ _ HL.out HZ.out hn).mono ?_
    rintro e w1 ⟨rfl, hb1⟩
    rw [HSB.out]
    have HB1 : Hid (Below w.heap.size w w1) := HB0.out.trans (hb1.mono (by simp))
    clear hb1
    go_wp2_with fail
    go_ret
    exact ⟨ret_bool HV.out.symm, HB1.out⟩
end Go.Proofs.Ytgidfainoijcmaa
