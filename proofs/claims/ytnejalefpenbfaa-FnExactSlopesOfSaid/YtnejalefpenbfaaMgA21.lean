/- Texts put together. -/
import Derived.Test.YtnejalefpenbfaaMgA20
/- Chapter 11 of the model: SlopesOf, CountBalanced. Conditions: lengths of at most 2^20. -/
namespace Go.Proofs.Ytnejalefpenbfaa
open Go.RowKit Go.Lib

theorem results_tmp4 {fn : Func} {t u v x : Tmp} (h : fn.results = #[.tmp t, .tmp u, .tmp v, .tmp x]) (tmps : Array Value) (P : Program) (w : World) :
    (results fn tmps).run P w = .ok (.tuple #[tmps.getD t undef, tmps.getD u undef, tmps.getD v undef, tmps.getD x undef]) w := by
  simp [results, h]

theorem mul_lim {x y : Int} (h1 : -61 ≤ x) (h2 : x ≤ 61) (h3 : 0 ≤ y) (h4 : y ≤ 61) : -3721 ≤ x * y ∧ x * y ≤ 3721 := by
  have a1 : x * y ≤ 61 * y := Int.mul_le_mul_of_nonneg_right h2 h3
  have a2 : -61 * y ≤ x * y := Int.mul_le_mul_of_nonneg_right h1 h3
  omega

set_option maxRecDepth 100000 in
set_option maxHeartbeats 2000000 in
theorem specSlopesOf (s : ByteArray) (w : World) (hs : s.size ≤ 1048576) :
    Calls Try.prog 21 #[.string s] w fun e w' => e = .returned (.tuple #[.int .i64 (slR s).1, .int .i64 (slR s).2.1, .int .i64 (slR s).2.2.1, .int .i64 (slR s).2.2.2]) ∧ Below w.heap.size w w' := by
  have HBI := Lib.hid (fun w => specIsBinaryQ s w hs)
  cases hb : binB s
  · have HV : Hid (slR s = (0, 0, 0, 0)) := if_neg (by unfold slOk; rw [hb, Bool.false_and]; decide)
    rw [hb] at HBI
    clear hb
    generalize slR s = r at *
    go_enter Try.func21, Try.ntmps21
    go_wp2_with fail
    refine (HBI.out _).mono ?_
    rintro e w' ⟨rfl, rfl⟩
    go_wp2_with fail
    refine bodyPost_ret (results_tmp4 rfl _ _ _) rfl ?_
    exact ⟨by rw [HV.out]; rfl, Below.refl _ _⟩
  rw [hb] at HBI
  cases hi : (decide ((1 : Int) ≤ s.size) && decide ((s.size : Int) ≤ 60))
  · have HV : Hid (slR s = (0, 0, 0, 0)) := if_neg (by unfold slOk; rw [hi, Bool.and_false]; decide)
    have HI := Lib.hid hi
    clear hb hi
    generalize slR s = r at *
    go_enter Try.func21, Try.ntmps21
    go_wp2_with fail
    refine (HBI.out _).mono ?_
    rintro e w' ⟨rfl, rfl⟩
    go_wp2_with fail
    refine (specIn _ _ _ _).mono ?_
    rintro e w' ⟨rfl, rfl⟩
    rw [HI.out]
    go_wp2_with fail
    refine bodyPost_ret (results_tmp4 rfl _ _ _) rfl ?_
    exact ⟨by rw [HV.out]; rfl, Below.refl _ _⟩
  have HI := Lib.hid hi
  have HV : Hid (slR s = ((slTo s s.size).1.1.tdiv (Nat.gcd (slTo s s.size).1.1.natAbs (slTo s s.size).1.2.natAbs : Nat), (slTo s s.size).1.2.tdiv (Nat.gcd (slTo s s.size).1.1.natAbs (slTo s s.size).1.2.natAbs : Nat), (slTo s s.size).2.1.tdiv (Nat.gcd (slTo s s.size).2.1.natAbs (slTo s s.size).2.2.natAbs : Nat), (slTo s s.size).2.2.tdiv (Nat.gcd (slTo s s.size).2.1.natAbs (slTo s s.size).2.2.natAbs : Nat))) := if_pos (by unfold slOk; rw [hb, hi]; rfl)
  rw [Bool.and_eq_true, decide_eq_true_eq, decide_eq_true_eq] at hi
  have HOK := Lib.hid (slTo_ok s)
  have HNX : Hid (∀ k, slTo s (k + 1) = (if (slTo s k).1.1 * ((k + 1 : Nat) : Int) < ((hgN s (k + 1) : Int) - 1) * (slTo s k).1.2 then ((hgN s (k + 1) : Int) - 1, ((k + 1 : Nat) : Int)) else (slTo s k).1, if ((lwN s (k + 1) : Int) + 1) * (slTo s k).2.2 < (slTo s k).2.1 * ((k + 1 : Nat) : Int) then ((lwN s (k + 1) : Int) + 1, ((k + 1 : Nat) : Int)) else (slTo s k).2)) := fun k => rfl
  have H0 : Hid (slTo s 0 = ((-1, 1), (2, 1))) := rfl
  have HSP := Lib.hid (fun n w (h : n ≤ s.size) => specSpread s n w h hs)
  have HLE : Hid (∀ n, lwN s n ≤ n ∧ hgN s n ≤ n) := fun n => sp_le s n _
  clear hb
  generalize slR s = r at *
  generalize slTo s = Y at *
  generalize lwN s = lo at *
  generalize hgN s = hg at *
  go_enter Try.func21, Try.ntmps21
  go_wp2_with fail
  refine (HBI.out _).mono ?_
  rintro e w' ⟨rfl, rfl⟩
  go_wp2_with fail
  refine (specIn _ _ _ _).mono ?_
  rintro e w' ⟨rfl, rfl⟩
  rw [HI.out]
  go_wp2_with fail
  go_loopw [6, 7, 8, 9, 10] (fun av bv cv dv iv w' => ∃ (k : Nat) (a b c d : Int), k ≤ s.size ∧ a = (Y k).1.1 ∧ b = (Y k).1.2 ∧ c = (Y k).2.1 ∧ d = (Y k).2.2 ∧ av = .int .i64 a ∧ bv = .int .i64 b ∧ cv = .int .i64 c ∧ dv = .int .i64 d ∧ iv = .int .i64 ((k : Int) + 1) ∧ w = w') (fun _ _ _ _ iv _ => s.size + 1 - (intOf iv).toNat)
  case atStart => exact ⟨0, -1, 1, 2, 1, Nat.zero_le _, by rw [H0.out], by rw [H0.out], by rw [H0.out], by rw [H0.out], rfl, rfl, rfl, rfl, rfl, rfl⟩
  case round =>
    obtain ⟨k, a, b, c, d, hk, ha, hb, hc, hd, rfl, rfl, rfl, rfl, rfl, rfl⟩ := hrel
    obtain ⟨⟨o1, o2⟩, ⟨o3, o4⟩, ⟨o5, o6⟩, ⟨o7, o8⟩⟩ := HOK.out k
    rw [← ha] at o1 o2
    rw [← hb] at o3 o4
    rw [← hc] at o5 o6
    rw [← hd] at o7 o8
    have HA := Lib.hid ha
    have HB := Lib.hid hb
    have HC := Lib.hid hc
    have HD := Lib.hid hd
    clear ha hb hc hd
    by_cases hlt : k < s.size
    · have HS := Lib.hid (fun w => HSP.out (k + 1) w (by omega))
      obtain ⟨l1, l2⟩ := HLE.out (k + 1)
      have HN := Lib.hid (HNX.out k)
      rw [← HA.out, ← HB.out, ← HC.out, ← HD.out] at HN
      have ek : ((k + 1 : Nat) : Int) = (k : Int) + 1 := rfl
      rw [ek] at HN HS
      have hlt' : (k : Int) + 1 ≤ (s.size : Int) := by omega
      generalize lo (k + 1) = x at *
      generalize hg (k + 1) = y at *
      have m1 := mul_lim (x := (y : Int) - 1) (y := b) (by omega) (by omega) (by omega) (by omega)
      have m2 := mul_lim (x := a) (y := (k : Int) + 1) (by omega) (by omega) (by omega) (by omega)
      have m3 := mul_lim (x := (x : Int) + 1) (y := d) (by omega) (by omega) (by omega) (by omega)
      have m4 := mul_lim (x := c) (y := (k : Int) + 1) (by omega) (by omega) (by omega) (by omega)
      obtain ⟨p1, hp1⟩ : ∃ z, z = ((y : Int) - 1) * b := ⟨_, rfl⟩
      rw [← hp1] at m1 HN
      have e1 : wrap64 (((y : Int) - 1) * b) = p1 := by rw [← hp1]; exact IntWalk.wrap64_in _ (by omega)
      obtain ⟨p2, hp2⟩ : ∃ z, z = a * ((k : Int) + 1) := ⟨_, rfl⟩
      rw [← hp2] at m2 HN
      have e2 : wrap64 (a * ((k : Int) + 1)) = p2 := by rw [← hp2]; exact IntWalk.wrap64_in _ (by omega)
      obtain ⟨p3, hp3⟩ : ∃ z, z = ((x : Int) + 1) * d := ⟨_, rfl⟩
      rw [← hp3] at m3 HN
      have e3 : wrap64 (((x : Int) + 1) * d) = p3 := by rw [← hp3]; exact IntWalk.wrap64_in _ (by omega)
      obtain ⟨p4, hp4⟩ : ∃ z, z = c * ((k : Int) + 1) := ⟨_, rfl⟩
      rw [← hp4] at m4 HN
      have e4 : wrap64 (c * ((k : Int) + 1)) = p4 := by rw [← hp4]; exact IntWalk.wrap64_in _ (by omega)
      clear hp1 hp2 hp3 hp4
      by_cases c1 : p2 < p1 <;> by_cases c2 : p3 < p4
      · rw [if_pos c1, if_pos c2] at HN
        go_wp2_with fail
        refine (HS.out _).mono ?_
        rintro e w' ⟨rfl, rfl⟩
        go_wp2_with fail
        go_roundw
        case rel => exact ⟨k + 1, _, _, _, _, by omega, by rw [HN.out], by rw [HN.out], by rw [HN.out], by rw [HN.out], by go_num, by go_num, by go_num, by go_num, by go_num, by trivial⟩
        case measure => simp [intOf]; omega
      · rw [if_pos c1, if_neg c2] at HN
        go_wp2_with fail
        refine (HS.out _).mono ?_
        rintro e w' ⟨rfl, rfl⟩
        go_wp2_with fail
        go_roundw
        case rel => exact ⟨k + 1, _, _, c, d, by omega, by rw [HN.out], by rw [HN.out], by rw [HN.out]; exact HC.out, by rw [HN.out]; exact HD.out, by go_num, by go_num, by go_num, by go_num, by go_num, by trivial⟩
        case measure => simp [intOf]; omega
      · rw [if_neg c1, if_pos c2] at HN
        go_wp2_with fail
        refine (HS.out _).mono ?_
        rintro e w' ⟨rfl, rfl⟩
        go_wp2_with fail
        go_roundw
        case rel => exact ⟨k + 1, a, b, _, _, by omega, by rw [HN.out]; exact HA.out, by rw [HN.out]; exact HB.out, by rw [HN.out], by rw [HN.out], by go_num, by go_num, by go_num, by go_num, by go_num, by trivial⟩
        case measure => simp [intOf]; omega
      · rw [if_neg c1, if_neg c2] at HN
        go_wp2_with fail
        refine (HS.out _).mono ?_
        rintro e w' ⟨rfl, rfl⟩
        go_wp2_with fail
        go_roundw
        case rel => exact ⟨k + 1, a, b, c, d, by omega, by rw [HN.out]; exact HA.out, by rw [HN.out]; exact HB.out, by rw [HN.out]; exact HC.out, by rw [HN.out]; exact HD.out, rfl, rfl, rfl, rfl, by go_num, by trivial⟩
        case measure => simp [intOf]; omega
    · have hke : k = s.size := by omega
      subst hke
      have hlt' : ¬ (s.size : Int) + 1 ≤ (s.size : Int) := by omega
      have HR := Lib.hid HV.out
      rw [← HA.out, ← HB.out, ← HC.out, ← HD.out] at HR
      have hs60 : (s.size : Int) ≤ 60 := hi.2
      obtain ⟨bn, rfl⟩ : ∃ m : Nat, b = m := ⟨b.toNat, by omega⟩
      obtain ⟨cn, rfl⟩ : ∃ m : Nat, c = m := ⟨c.toNat, by omega⟩
      obtain ⟨dn, rfl⟩ : ∃ m : Nat, d = m := ⟨d.toNat, by omega⟩
      have hmx : max a (-a) = ((a.natAbs : Nat) : Int) := by omega
      have HG1 := Lib.hid (fun w => specGcd a.natAbs bn w (by omega) (by omega))
      have HG2 := Lib.hid (fun w => specGcd cn dn w (by omega) (by omega))
      rw [Int.natAbs_natCast, Int.natAbs_natCast, Int.natAbs_natCast] at HR
      have g1 : 1 ≤ Nat.gcd a.natAbs bn := Nat.gcd_pos_of_pos_right _ (by omega)
      have g2 : 1 ≤ Nat.gcd cn dn := Nat.gcd_pos_of_pos_right _ (by omega)
      have q1 : -61 ≤ a.tdiv (Nat.gcd a.natAbs bn : Nat) ∧ a.tdiv (Nat.gcd a.natAbs bn : Nat) ≤ 61 := by
        have h2 : (a.tdiv (Nat.gcd a.natAbs bn : Nat)).natAbs ≤ a.natAbs := by rw [Int.natAbs_tdiv]; exact Nat.div_le_self _ _
        omega
      have q2 : ((bn : Nat) : Int).tdiv (Nat.gcd a.natAbs bn : Nat) = ((bn / Nat.gcd a.natAbs bn : Nat) : Int) := rfl
      have q3 : ((cn : Nat) : Int).tdiv (Nat.gcd cn dn : Nat) = ((cn / Nat.gcd cn dn : Nat) : Int) := rfl
      have q4 : ((dn : Nat) : Int).tdiv (Nat.gcd cn dn : Nat) = ((dn / Nat.gcd cn dn : Nat) : Int) := rfl
      have b2 : bn / Nat.gcd a.natAbs bn ≤ bn := Nat.div_le_self _ _
      have b3 : cn / Nat.gcd cn dn ≤ cn := Nat.div_le_self _ _
      have b4 : dn / Nat.gcd cn dn ≤ dn := Nat.div_le_self _ _
      generalize Nat.gcd a.natAbs bn = g at *
      generalize Nat.gcd cn dn = h at *
      have z1 : ¬ (g : Int) = 0 := by omega
      have z2 : ¬ (h : Int) = 0 := by omega
      have z1' : ¬ g = 0 := by omega
      have z2' : ¬ h = 0 := by omega
      obtain ⟨t1, ht1⟩ : ∃ z, a.tdiv (g : Int) = z := ⟨_, rfl⟩
      obtain ⟨t2, ht2⟩ : ∃ z, bn / g = z := ⟨_, rfl⟩
      obtain ⟨t3, ht3⟩ : ∃ z, cn / h = z := ⟨_, rfl⟩
      obtain ⟨t4, ht4⟩ : ∃ z, dn / h = z := ⟨_, rfl⟩
      rw [ht2] at q2 b2
      rw [ht3] at q3 b3
      rw [ht4] at q4 b4
      rw [ht1] at q1
      rw [q2, q3, q4, ht1] at HR
      clear ht2 ht3 ht4
      go_wp2_with fail
      all_goals
        first
          | rw [show ((a.natAbs : Nat) : Int) = -a from by omega] at HG1
          | rw [show ((a.natAbs : Nat) : Int) = a from by omega] at HG1
          | skip
        refine (HG1.out _).mono ?_
        rintro e w' ⟨rfl, rfl⟩
        go_wp2_with fail
        refine (HG2.out _).mono ?_
        rintro e w' ⟨rfl, rfl⟩
        go_wp2_with fail
        go_quiet (fail)
        go_wp2_with fail
        refine bodyPost_ret (results_tmp4 rfl _ _ _) rfl ?_
        exact ⟨by rw [HR.out]; rfl, below_drewN (Below.refl _ _) _⟩

set_option maxRecDepth 100000 in
set_option maxHeartbeats 1000000 in
theorem specCountBalancedQ (n : Int) (w : World) :
    Calls Try.prog 23 #[.int .i64 n] w fun e w' => e = .returned (.int .i64 (bcR n)) ∧ w = w' := by
  cases h1 : (decide (0 ≤ n) && decide (n ≤ 12))
  · have HV : Hid (bcR n = -1) := if_neg (by unfold bcOk; rw [h1]; decide)
    have H1 := Lib.hid h1
    clear h1
    go_enter Try.func23, Try.ntmps23
    go_wp2_with fail
    refine (specIn _ _ _ _).mono ?_
    rintro e w' ⟨rfl, rfl⟩
    rw [H1.out]
    go_wp2_with fail
    go_ret
    exact ⟨ret_int HV.out.symm, rfl⟩
  have H1 := Lib.hid h1
  have HV : Hid (bcR n = (bcTo n.toNat n.toNat : Int)) := if_pos (by unfold bcOk; rw [h1])
  rw [Bool.and_eq_true, decide_eq_true_eq, decide_eq_true_eq] at h1
  obtain ⟨n, rfl⟩ : ∃ m : Nat, n = m := ⟨n.toNat, by omega⟩
  rw [Int.toNat_natCast] at HV
  have hn : n ≤ 12 := by omega
  have HLE := Lib.hid (fun k (h : k ≤ n) => bcTo_le hn k h)
  have HNX : Hid (∀ k, bcTo n (k + 1) = bcTo n k + (n - (k + 1) + 1) * phTo (k + 1) (k + 1)) := fun k => rfl
  have H0 : Hid (bcTo n 0 = 1) := rfl
  have HPL := Lib.hid phTo_le
  have HPN : Hid (∀ i j, (Nat.gcd i (j + 1) = 1 → phTo i (j + 1) = phTo i j + 1) ∧ (Nat.gcd i (j + 1) ≠ 1 → phTo i (j + 1) = phTo i j)) := fun i j =>
    ⟨fun h => by show phTo i j + (if _ then 1 else 0) = _; rw [if_pos h], fun h => by show phTo i j + (if _ then 1 else 0) = _; rw [if_neg h]; rfl⟩
  have HP0 : Hid (∀ i, phTo i 0 = 0) := fun i => rfl
  have HG := Lib.hid (fun i j w (h1 : i ≤ 20) (h2 : j ≤ 20) => specGcd i j w (by omega) (by omega))
  have HGL : Hid (∀ i j, 1 ≤ j → Nat.gcd i j ≤ j) := fun i j h => Nat.gcd_le_right _ (by omega)
  clear h1
  generalize bcR (n : Int) = r at *
  generalize bcTo n = T at *
  generalize hph : phTo = P at *
  clear hph
  generalize hgg : Nat.gcd = G at *
  clear hgg
  go_enter Try.func23, Try.ntmps23
  go_wp2_with fail
  refine (specIn _ _ _ _).mono ?_
  rintro e w' ⟨rfl, rfl⟩
  rw [H1.out]
  go_wp2_with fail
  go_loopw [3, 4] (fun sv iv w' => ∃ (k a : Nat), k ≤ n ∧ a = T k ∧ sv = .int .i64 (a : Int) ∧ iv = .int .i64 ((k : Int) + 1) ∧ w = w') (fun _ iv _ => n + 1 - (intOf iv).toNat)
  case atStart => exact ⟨0, 1, Nat.zero_le _, H0.out.symm, rfl, rfl, rfl⟩
  case round =>
    obtain ⟨k, a, hk, ha, rfl, rfl, rfl⟩ := hrel
    have hab : a ≤ 1 + k * 144 := by rw [ha]; exact HLE.out k hk
    have HA := Lib.hid ha
    clear ha
    by_cases hlt : k < n
    · have hlt' : (k : Int) + 1 ≤ (n : Int) := by omega
      go_wp2_with fail
      go_loopw [5, 6] (fun cv jv w' => ∃ (j c : Nat), j ≤ k + 1 ∧ c = P (k + 1) j ∧ cv = .int .i64 (c : Int) ∧ jv = .int .i64 ((j : Int) + 1) ∧ w = w') (fun _ jv _ => k + 2 - (intOf jv).toNat)
      case atStart => exact ⟨0, 0, Nat.zero_le _, (HP0.out _).symm, rfl, rfl, rfl⟩
      case round =>
        obtain ⟨j, c, hj, hc, rfl, rfl, rfl⟩ := hrel
        have hcb : c ≤ j := by rw [hc]; exact HPL.out _ _
        have HC := Lib.hid hc
        clear hc
        by_cases hjl : j < k + 1
        · have hjl' : (j : Int) + 1 ≤ (k : Int) + 1 := by omega
          have HGC := Lib.hid (fun w => HG.out (k + 1) (j + 1) w (by omega) (by omega))
          have hgl := HGL.out (k + 1) (j + 1) (by omega)
          have HN := Lib.hid (HPN.out (k + 1) j)
          rw [← HC.out] at HN
          rw [show ((k + 1 : Nat) : Int) = (k : Int) + 1 from rfl, show ((j + 1 : Nat) : Int) = (j : Int) + 1 from rfl] at HGC
          generalize G (k + 1) (j + 1) = g at *
          by_cases hg : g = 1
          · have dg : ((g : Int) == 1) = true := by rw [beq_iff_eq]; omega
            have HN1 := Lib.hid (HN.out.1 hg)
            clear hg HN
            go_wp2_with fail
            refine (HGC.out _).mono ?_
            rintro e w' ⟨rfl, rfl⟩
            go_wp2_with fail
            go_roundw
            case rel => exact ⟨j + 1, c + 1, by omega, HN1.out.symm, by go_num, by go_num, by trivial⟩
            case measure => simp [intOf]; omega
          · have dg : ((g : Int) == 1) = false := by rw [beq_eq_false_iff_ne]; omega
            have HN1 := Lib.hid (HN.out.2 hg)
            clear HN
            go_wp2_with fail
            refine (HGC.out _).mono ?_
            rintro e w' ⟨rfl, rfl⟩
            go_wp2_with fail
            go_roundw
            case rel => exact ⟨j + 1, c, by omega, HN1.out.symm, rfl, by go_num, by trivial⟩
            case measure => simp [intOf]; omega
        · have hje : j = k + 1 := by omega
          have hjl' : ¬ (j : Int) + 1 ≤ (k : Int) + 1 := by omega
          have HN := Lib.hid (HNX.out k)
          rw [← HA.out, ← hje, ← (show P (k + 1) j = P j j by rw [hje]), ← HC.out, hje] at HN
          have hmb : (n - (k + 1) + 1) * c ≤ 12 * 13 := Nat.mul_le_mul (by omega) (by omega)
          have hme : (((n - (k + 1) + 1) * c : Nat) : Int) = ((n : Int) - ((k : Int) + 1) + 1) * (c : Int) := by
            rw [Int.natCast_mul]
            congr 1
            omega
          obtain ⟨z, hz⟩ : ∃ z, z = (n - (k + 1) + 1) * c := ⟨_, rfl⟩
          rw [← hz] at HN hmb hme
          have e1 : wrap64 (((n : Int) - ((k : Int) + 1) + 1) * (c : Int)) = (z : Int) := by rw [← hme]; exact IntWalk.wrap64_in _ (by omega)
          clear hje hz hme
          go_wp2_with fail
          go_roundw
          case rel => exact ⟨k + 1, a + z, by omega, HN.out.symm, by go_num, by go_num, by trivial⟩
          case measure => simp [intOf]; omega
    · have hkn : k = n := by omega
      subst hkn
      have hlt' : ¬ (k : Int) + 1 ≤ (k : Int) := by omega
      have HR : Hid ((a : Int) = r) := by show _ = _; rw [HV.out, HA.out]
      go_wp2_with fail
      go_ret
      exact ⟨ret_int HR.out, rfl⟩

theorem specCountBalanced (n : Int) (w : World) :
    Calls Try.prog 23 #[.int .i64 n] w fun e w' => e = .returned (.int .i64 (bcR n)) ∧ Below w.heap.size w w' := by
  exact (specCountBalancedQ n w).mono (fun _ _ h => ⟨h.1, by rw [← h.2]; exact Below.refl _ _⟩)
end Go.Proofs.Ytnejalefpenbfaa
