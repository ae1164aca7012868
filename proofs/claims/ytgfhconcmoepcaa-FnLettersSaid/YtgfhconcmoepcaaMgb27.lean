/- Texts put together. -/
import Derived.Test.YtgfhconcmoepcaaMgb25
import Derived.Test.YtgfhconcmoepcaaMgb18
import Derived.Test.YtgfhconcmoepcaaMgb10
import Derived.Test.YtgfhconcmoepcaaMgb26
import Derived.Test.YtgfhconcmoepcaaMgb6
import Derived.BigQuiet
import Derived.Test.YtgfhconcmoepcaaMgb15
/- Chapter 10 of the model: l09Gcd, l09Power, CountLyndon, AllPeriodsFine. Conditions: lengths of at most 2^20. -/
namespace Go.Proofs.Ytgfhconcmoepcaa
open Go.RowKit Go.Lib

set_option maxHeartbeats 1000000 in
theorem specGcd (a b : Nat) (w : World) (ha : a ≤ 1048576) (hb : b ≤ 1048576) :
    Calls Try.prog 85 #[.int .i64 (a : Int), .int .i64 (b : Int)] w fun e w' => e = .returned (.int .i64 (Nat.gcd a b : Int)) ∧ w = w' := by
  have HG : Hid (Nat.gcd a b = Nat.gcd a b) := rfl
  generalize hg : Nat.gcd a b = g at *
  have HGG := Lib.hid hg
  clear hg HG
  go_enter Try.func85, Try.ntmps85
  go_wp2
  go_loop [0, 1] (fun x y => ∃ p q : Nat, p ≤ 1048576 ∧ q ≤ 1048576 ∧ x = .int .i64 (p : Int) ∧ y = .int .i64 (q : Int) ∧ Nat.gcd p q = g) (fun _ y => (intOf y).toNat)
  case atStart => exact ⟨a, b, ha, hb, rfl, rfl, HGG.out⟩
  case round =>
    obtain ⟨p, q, hp, hq, rfl, rfl, hpq⟩ := hrel
    have HPQ := Lib.hid hpq
    clear hpq
    by_cases h0 : 0 < q
    · have hq0 : ¬ q = 0 := by omega
      have hq1 : (0 : Int) < (q : Int) := by omega
      have hmod : p % q < q := Nat.mod_lt _ h0
      have HM : Hid ((p : Int) % (q : Int) = ((p % q : Nat) : Int)) := by show _ = _; omega
      go_wp2
      go_round
      case rel => exact ⟨q, p % q, hq, by omega, rfl, by rw [HM.out], by rw [Nat.gcd_comm, ← Nat.gcd_rec, Nat.gcd_comm]; exact HPQ.out⟩
      case measure => simp only [intOf]; omega
    · have hq0 : q = 0 := by omega
      subst hq0
      have HE : Hid (p = g) := by show _ = _; have := HPQ.out; rwa [Nat.gcd_zero_right] at this
      go_wp2
      go_ret
      exact ⟨by rw [HE.out]; rfl, rfl⟩

theorem pow4 {L k : Nat} (h1 : L ≤ 4) (h2 : k ≤ 12) : L ^ k ≤ 16777216 := Nat.le_trans (Nat.pow_le_pow_left h1 k) (Nat.le_trans (Nat.pow_le_pow_right (by omega) h2) (by decide))
set_option maxHeartbeats 1000000 in
theorem specPower (L n : Nat) (w : World) (hL : L ≤ 4) (hn : n ≤ 12) :
    Calls Try.prog 84 #[.int .i64 (L : Int), .int .i64 (n : Int)] w fun e w' => e = .returned (.int .i64 ((L ^ n : Nat) : Int)) ∧ w = w' := by
  go_enter Try.func84, Try.ntmps84
  go_wp2
  go_loop [5, 6] (fun x y => ∃ p k : Nat, k ≤ n ∧ p = L ^ k ∧ x = .int .i64 (p : Int) ∧ y = .int .i64 (k : Int)) (fun _ y => n - (intOf y).toNat)
  case atStart => exact ⟨1, 0, Nat.zero_le _, rfl, rfl, rfl⟩
  case round =>
    obtain ⟨p, k, hk, hp, rfl, rfl⟩ := hrel
    have hle : p ≤ 16777216 := by rw [hp]; exact pow4 hL (by omega)
    have HP := Lib.hid hp
    clear hp
    by_cases hlt : k < n
    · have hmul : p * L ≤ 16777216 * 4 := Nat.mul_le_mul hle hL
      have HM : Hid ((p : Int) * (L : Int) = ((p * L : Nat) : Int)) := by show _ = _; rw [Int.natCast_mul]
      have e1 : wrap64 ((p : Int) * (L : Int)) = ((p * L : Nat) : Int) := by rw [HM.out]; exact IntWalk.wrap64_in _ (by omega)
      have HPS : Hid (p * L = L ^ (k + 1)) := by show _ = _; rw [HP.out, Nat.pow_succ]
      clear hmul
      generalize p * L = p2 at e1 HPS HM
      go_wp2
      go_round
      case rel => exact ⟨p2, k + 1, by omega, HPS.out, by go_num, by go_num⟩
      case measure => simp [intOf]; omega
    · have hkn : k = n := by omega
      have HE : Hid (p = L ^ n) := by show _ = _; rw [HP.out, hkn]
      clear hkn
      go_wp2
      go_ret
      exact ⟨by rw [HE.out]; rfl, rfl⟩

theorem prT_len (L : Nat) : ∀ m, (prT L m).length = m + 1
  | 0 => rfl
  | m + 1 => by
    show (prT L m ++ [_]).length = _
    rw [List.length_append, prT_len L m]
    rfl
theorem cly_small4 : ∀ L ∈ [1, 2, 3, 4], ∀ k ∈ List.range 12, ∀ d ∈ List.range 13, (-16777216 ≤ ((L : Nat) : Int) ^ (k + 1) - prSum (prT L k) (k + 1) d ∧ ((L : Nat) : Int) ^ (k + 1) - prSum (prT L k) (k + 1) d ≤ 16777216) ∧ (0 ≤ (prT L k).getD d 0 ∧ (prT L k).getD d 0 ≤ 16777216) := by decide +kernel
theorem cly_last4 : ∀ L ∈ [1, 2, 3, 4], ∀ k ∈ List.range 13, (0 ≤ (prT L k).getD k 0 ∧ (prT L k).getD k 0 ≤ 16777216) := by decide +kernel
theorem four_mem {L : Nat} (h1 : 1 ≤ L) (h2 : L ≤ 4) : L ∈ [1, 2, 3, 4] := by
  have : L = 1 ∨ L = 2 ∨ L = 3 ∨ L = 4 := by omega
  simpa using this
theorem prT_next (L m : Nat) : prT L (m + 1) = prT L m ++ [((L : Nat) : Int) ^ (m + 1) - prSum (prT L m) (m + 1) m] := rfl
theorem prSum_next (l : List Int) (m d : Nat) : prSum l m (d + 1) = prSum l m d + if m % (d + 1) = 0 then l.getD (d + 1) 0 else 0 := rfl

set_option maxRecDepth 100000 in
set_option maxHeartbeats 1000000 in
theorem specCountLyndon (a b : Int) (w : World) :
    Calls Try.prog 57 #[.int .i64 a, .int .i64 b] w fun e w' => e = .returned (.int .i64 (clyR a b)) ∧ Below w.heap.size w w' := by
  obtain ⟨i0, hi0, hz0, hz1, hz2⟩ := info_parts int_info
  cases h1 : (decide (1 ≤ a) && decide (a ≤ 4))
  · have HV : Hid (clyR a b = -1) := by show _ = _; unfold clyR clyOk; rw [h1]; rfl
    have H1 := Lib.hid h1
    clear h1
    go_enter Try.func57, Try.ntmps57
    go_wp2_with fail
    refine (specIn _ _ _ _).mono ?_
    rintro e w' ⟨rfl, rfl⟩
    rw [H1.out]
    go_wp2_with fail
    go_ret
    exact ⟨ret_int HV.out.symm, Below.refl _ _⟩
  have H1 := Lib.hid h1
  cases h2 : (decide (1 ≤ b) && decide (b ≤ 12))
  · have HV : Hid (clyR a b = -1) := by show _ = _; unfold clyR clyOk; rw [h2, Bool.and_false]; rfl
    have H2 := Lib.hid h2
    clear h1 h2
    go_enter Try.func57, Try.ntmps57
    go_wp2_with fail
    refine (specIn _ _ _ _).mono ?_
    rintro e w' ⟨rfl, rfl⟩
    rw [H1.out]
    go_wp2_with fail
    refine (specIn _ _ _ _).mono ?_
    rintro e w' ⟨rfl, rfl⟩
    rw [H2.out]
    go_wp2_with fail
    go_ret
    exact ⟨ret_int HV.out.symm, Below.refl _ _⟩
  have H2 := Lib.hid h2
  have HV : Hid (clyR a b = ((prT a.toNat b.toNat).getD b.toNat 0).tdiv b) := if_pos (by unfold clyOk; rw [h1, h2]; rfl)
  rw [Bool.and_eq_true, decide_eq_true_eq, decide_eq_true_eq] at h1 h2
  obtain ⟨L, rfl⟩ : ∃ L : Nat, a = L := ⟨a.toNat, by omega⟩
  obtain ⟨n, rfl⟩ : ∃ n : Nat, b = n := ⟨b.toNat, by omega⟩
  rw [Int.toNat_natCast, Int.toNat_natCast] at HV
  have HS : Hid (∀ k, k < 12 → ∀ d, d < 13 → (-16777216 ≤ ((L : Nat) : Int) ^ (k + 1) - prSum (prT L k) (k + 1) d ∧ ((L : Nat) : Int) ^ (k + 1) - prSum (prT L k) (k + 1) d ≤ 16777216) ∧ (0 ≤ (prT L k).getD d 0 ∧ (prT L k).getD d 0 ≤ 16777216)) := fun k hk d hd => cly_small4 L (four_mem (by omega) (by omega)) k (List.mem_range.2 hk) d (List.mem_range.2 hd)
  have HLS := Lib.hid (cly_last4 L (four_mem (by omega) (by omega)) n (List.mem_range.2 (by omega)))
  have HPW := Lib.hid (fun k w (h : k ≤ 12) => specPower L k w (by omega) h)
  have HNX := Lib.hid (prT_next L)
  have HLN := Lib.hid (prT_len L)
  have HP0 : Hid (prT L 0 = [0]) := rfl
  have hL : 1 ≤ L ∧ L ≤ 4 := by omega
  have hn : 1 ≤ n ∧ n ≤ 12 := by omega
  clear h1 h2
  generalize clyR (L : Int) (n : Int) = r at HV ⊢
  generalize prT L = P at HV HS HLS HNX HLN HP0
  go_enter Try.func57, Try.ntmps57
  go_wp2_with fail
  refine (specIn _ _ _ _).mono ?_
  rintro e w' ⟨rfl, rfl⟩
  rw [H1.out]
  go_wp2_with fail
  refine (specIn _ _ _ _).mono ?_
  rintro e w' ⟨rfl, rfl⟩
  rw [H2.out]
  go_wp2_with fail
  go_loopw [5, 6] (fun o mv w' => ∃ (k : Nat) (A : Option Addr) (cp : Nat), k ≤ n ∧ mv = .int .i64 ((k : Int) + 1) ∧ o = .slice A (k + 1) cp ∧ w'.ownsRow w.heap.size 3 1 (.slice A (k + 1) cp) (k + 1) (ints (P k)) ∧ Below w.heap.size w w') (fun _ mv _ => n + 1 - (intOf mv).toNat)
  case atStart =>
    refine ⟨0, _, _, Nat.zero_le _, rfl, rfl, ?_, (Below.refl _ _).alloc (Nat.le_refl _) _⟩
    rw [HP0.out]
    exact World.ownsRow_lit w #[.int .i64 0] 1 (Nat.le_refl _) (by unfold maxLen; decide) rfl
  case round =>
    obtain ⟨k, A, cp, hk, rfl, rfl, ho, hb⟩ := hrel
    obtain ⟨wo, rfl⟩ : ∃ x : World, x = wr := ⟨_, rfl⟩
    have HO := Lib.hid ho
    have HB := Lib.hid hb
    clear ho hb
    by_cases hlt : k < n
    · have hlt2 : (k : Int) + 1 ≤ (n : Int) := by omega
      have HPK := HPW.out (k + 1) wo (by omega)
      have e0 : ((k + 1 : Nat) : Int) = (k : Int) + 1 := by omega
      rw [e0] at HPK
      have HPKH := Lib.hid HPK
      have HXS : Hid (((L ^ (k + 1) : Nat) : Int) = ((L : Nat) : Int) ^ (k + 1)) := by show _ = _; rw [Int.natCast_pow]
      clear HPK e0
      go_wp2_with fail
      refine HPKH.out.mono ?_
      rintro e w' ⟨rfl, rfl⟩
      rw [HXS.out]
      generalize hXX : ((L : Nat) : Int) ^ (k + 1) = X
      have HX := Lib.hid hXX
      clear hXX
      go_wp2_with fail
      go_loopw [7, 8] (fun xv dv w' => ∃ (j : Nat) (x : Int), j ≤ k ∧ dv = .int .i64 ((j : Int) + 1) ∧ xv = .int .i64 x ∧ x = X - prSum (P k) (k + 1) j ∧ wo = w') (fun _ dv _ => k + 1 - (intOf dv).toNat)
      case atStart => exact ⟨0, X, Nat.zero_le _, rfl, rfl, by show X = X - 0; omega, rfl⟩
      case round =>
        obtain ⟨j, x, hj, rfl, rfl, hx, rfl⟩ := hrel
        have HXJ := Lib.hid hx
        clear hx
        have hxb : -16777216 ≤ x ∧ x ≤ 16777216 := by
          have := (HS.out k (by omega) j (by omega)).1
          rw [HX.out] at this
          rw [HXJ.out]
          exact this
        by_cases hjl : j < k
        · obtain ⟨g, cp', he, _⟩ := own_some HO.out (by omega)
          injection he with he _ _
          subst he
          have hub := (HS.out k (by omega) (j + 1) (by omega)).2
          have hc := World.ownsRow.cellAt HO.out (j + 1) (by omega)
          have hcu : wo.cell? ⟨g, j + 1, none⟩ = some (.int .i64 ((P k).getD (j + 1) 0)) := by
            rw [hc]
            unfold ints
            rw [List.getElem?_map, List.getD_eq_getElem?_getD, List.getElem?_eq_getElem (by rw [HLN.out]; omega)]
            rfl
          clear hc
          have HSN := Lib.hid (prSum_next (P k) (k + 1) j)
          have hmd : ((k : Int) + 1) % ((j : Int) + 1) = (((k + 1) % (j + 1) : Nat) : Int) := by rw [Int.natCast_emod, Int.natCast_add, Int.natCast_add]; rfl
          have hjlt : (j : Int) + 1 < (k : Int) + 1 := by omega
          generalize (P k).getD (j + 1) 0 = u at hcu hub HSN
          by_cases hm : (k + 1) % (j + 1) = 0
          · rw [hm] at hmd
            rw [if_pos hm] at HSN
            have hmd2 : ((k : Int) + 1) % ((j : Int) + 1) = 0 := hmd
            clear hm hmd
            go_wp2_with fail
            go_roundw
            case rel => exact ⟨j + 1, x - u, by omega, by go_num, by go_num, by rw [HXJ.out, HSN.out]; omega, by trivial⟩
            case measure => simp [intOf]; omega
          · have hmd2 : ¬ ((k : Int) + 1) % ((j : Int) + 1) = 0 := by rw [hmd]; omega
            rw [if_neg hm] at HSN
            clear hm hmd
            go_wp2_with fail
            go_roundw
            case rel => exact ⟨j + 1, x, by omega, by go_num, rfl, by rw [HXJ.out, HSN.out]; omega, by trivial⟩
            case measure => simp [intOf]; omega
        · have hjk : j = k := by omega
          have hjlt : ¬ (j : Int) + 1 < (k : Int) + 1 := by omega
          have HNK : Hid (P (k + 1) = P k ++ [x]) := by
            show _ = _
            rw [HNX.out, HXJ.out, hjk, HX.out]
          have hbz := HB.out.size
          clear hjk
          go_wp2_with (at_builtin
                       refine wpList_append1p _ rfl (.tmp 41) (.tmp 43) _ rfl w.heap.size 3 i0 _ 8 Try.underlying24 hi0 hz0 hz1 hz2 rfl (.slice A (k + 1) cp) (k + 1) (ints (P k)) rfl HO.out (.int .i64 x) rfl rfl (by unfold maxLen; omega) (by omega) hbz ?_
                       intro v' w5 ho5 hg5 _)
          have ho5' : w5.ownsRow w.heap.size 3 1 v' (k + 1 + 1) (ints (P (k + 1))) := by rw [HNK.out, ints_snoc]; exact ho5
          obtain ⟨A5, cp5, rfl⟩ := own_slice ho5'
          go_roundw
          case rel => exact ⟨k + 1, A5, cp5, by omega, by go_num, rfl, ho5', HB.out.grown hg5 HB.out.size (fun q hq => (HO.out.lt _ hq).1)⟩
          case measure => simp [intOf]; omega
    · have hkn : k = n := by omega
      have hlt2 : ¬ (k : Int) + 1 ≤ (n : Int) := by omega
      obtain ⟨g, cp', he, _⟩ := own_some HO.out (by omega)
      injection he with he _ _
      subst he
      have hc := World.ownsRow.cellAt HO.out n (by omega)
      have hcu : wo.cell? ⟨g, n, none⟩ = some (.int .i64 ((P n).getD n 0)) := by
        rw [hc, hkn]
        unfold ints
        rw [List.getElem?_map, List.getD_eq_getElem?_getD, List.getElem?_eq_getElem (by rw [HLN.out]; omega)]
        rfl
      clear hc
      have hub := HLS.out
      have hn0 : ¬ (n : Int) = 0 := by omega
      have hn0' : ¬ n = 0 := by omega
      generalize (P n).getD n 0 = u at hcu hub HV
      have HQ : Hid (u.tdiv (n : Int) = u / (n : Int)) := Int.tdiv_eq_ediv_of_nonneg hub.1
      have hq1 : 0 ≤ u / (n : Int) := Int.ediv_nonneg hub.1 (by omega)
      have hq2 : u / (n : Int) ≤ 16777216 := Int.le_trans (Int.ediv_le_self _ hub.1) hub.2
      clear hkn
      go_wp2_with fail
      go_ret
      exact ⟨ret_int (by rw [HV.out, HQ.out]), HB.out⟩

theorem af_no {s : ByteArray} {p q : Int} (h : wordB s = false ∨ (decide (1 ≤ p) && decide (p ≤ s.size)) = false ∨ (decide (1 ≤ q) && decide (q ≤ s.size)) = false ∨ (perB s p.toNat && perB s q.toNat) = false) : afR s p q = false := by
  unfold afR
  rcases h with h | h | h | h <;> rw [h] <;> simp

set_option maxRecDepth 100000 in
set_option maxHeartbeats 2000000 in
theorem specAllPeriodsFine (s : ByteArray) (a b : Int) (w : World) (_ : s.size ≤ 1048576) :
    Calls Try.prog 58 #[.string s, .int .i64 a, .int .i64 b] w fun e w' => e = .returned (.bool (afR s a b)) ∧ Below w.heap.size w w' := by
  cases hw : wordB s
  · have HW := Lib.hid hw
    have HV := Lib.hid (af_no (s := s) (p := a) (q := b) (.inl hw))
    clear hw
    go_enter Try.func58, Try.ntmps58
    go_wp2_with fail
    refine (specWordOk s _).mono ?_
    rintro e w' ⟨rfl, rfl⟩
    rw [HW.out]
    go_wp2_with fail
    go_ret
    exact ⟨ret_bool HV.out.symm, Below.refl _ _⟩
  have HW := Lib.hid hw
  have h4 := word_size hw
  cases h1 : (decide (1 ≤ a) && decide (a ≤ s.size))
  · have H1 := Lib.hid h1
    have HV := Lib.hid (af_no (s := s) (p := a) (q := b) (.inr (.inl h1)))
    clear hw h1
    go_enter Try.func58, Try.ntmps58
    go_wp2_with fail
    refine (specWordOk s _).mono ?_
    rintro e w' ⟨rfl, rfl⟩
    rw [HW.out]
    go_wp2_with fail
    refine (specIn _ _ _ _).mono ?_
    rintro e w' ⟨rfl, rfl⟩
    rw [H1.out]
    go_wp2_with fail
    go_ret
    exact ⟨ret_bool HV.out.symm, Below.refl _ _⟩
  have H1 := Lib.hid h1
  cases h2 : (decide (1 ≤ b) && decide (b ≤ s.size))
  · have H2 := Lib.hid h2
    have HV := Lib.hid (af_no (s := s) (p := a) (q := b) (.inr (.inr (.inl h2))))
    clear hw h1 h2
    go_enter Try.func58, Try.ntmps58
    go_wp2_with fail
    refine (specWordOk s _).mono ?_
    rintro e w' ⟨rfl, rfl⟩
    rw [HW.out]
    go_wp2_with fail
    refine (specIn _ _ _ _).mono ?_
    rintro e w' ⟨rfl, rfl⟩
    rw [H1.out]
    go_wp2_with fail
    refine (specIn _ _ _ _).mono ?_
    rintro e w' ⟨rfl, rfl⟩
    rw [H2.out]
    go_wp2_with fail
    go_ret
    exact ⟨ret_bool HV.out.symm, Below.refl _ _⟩
  have H2 := Lib.hid h2
  have HAF : Hid (afR s a b = ((perB s a.toNat && perB s b.toNat) && (decide ((s.size : Int) < a + b - (Nat.gcd a.toNat b.toNat : Int)) || perB s (Nat.gcd a.toNat b.toNat)))) := by
    show _ = _
    unfold afR
    rw [hw, h1, h2]
    rfl
  rw [Bool.and_eq_true, decide_eq_true_eq, decide_eq_true_eq] at h1 h2
  obtain ⟨p, rfl⟩ : ∃ p : Nat, a = p := ⟨a.toNat, by omega⟩
  obtain ⟨q, rfl⟩ : ∃ q : Nat, b = q := ⟨b.toNat, by omega⟩
  rw [Int.toNat_natCast, Int.toNat_natCast] at HAF
  have hp : 1 ≤ p ∧ p ≤ s.size := by omega
  have hq : 1 ≤ q ∧ q ≤ s.size := by omega
  have ep : IntKind.i64.wrap ((s.size : Int) - (p : Int)) = ((s.size - p : Nat) : Int) := by rw [IntWalk.i64_in _ (by omega)]; omega
  have eq' : IntKind.i64.wrap ((s.size : Int) - (q : Int)) = ((s.size - q : Nat) : Int) := by rw [IntWalk.i64_in _ (by omega)]; omega
  have lp : ∀ w : World, (Instr.slice 9 (.string s) none (some (.int .i64 ((s.size - p : Nat) : Int))) none).run Try.prog w = .ok (.string (s.extract 0 (s.size - p))) w := fun w => cut_lo Try.underlying9 s _ (s.size - p) w rfl (by omega)
  have hip : ∀ w : World, (Instr.slice 9 (.string s) (some (.int .i64 (p : Int))) none none).run Try.prog w = .ok (.string (s.extract p s.size)) w := fun w => cut_hi Try.underlying9 s _ p w rfl (by omega)
  have lq : ∀ w : World, (Instr.slice 9 (.string s) none (some (.int .i64 ((s.size - q : Nat) : Int))) none).run Try.prog w = .ok (.string (s.extract 0 (s.size - q))) w := fun w => cut_lo Try.underlying9 s _ (s.size - q) w rfl (by omega)
  have hiq : ∀ w : World, (Instr.slice 9 (.string s) (some (.int .i64 (q : Int))) none none).run Try.prog w = .ok (.string (s.extract q s.size)) w := fun w => cut_hi Try.underlying9 s _ q w rfl (by omega)
  have HPP : Hid (perB s p = true ↔ s.extract 0 (s.size - p) = s.extract p s.size) := by show _ ↔ _; rw [perB_iff]; exact (per_cut hp.2).symm
  have HPQ : Hid (perB s q = true ↔ s.extract 0 (s.size - q) = s.extract q s.size) := by show _ ↔ _; rw [perB_iff]; exact (per_cut hq.2).symm
  have hg1 : 1 ≤ Nat.gcd p q := Nat.gcd_pos_of_pos_left _ hp.1
  have hg2 : Nat.gcd p q ≤ p := Nat.le_of_dvd hp.1 (Nat.gcd_dvd_left _ _)
  have HGC := Lib.hid (fun w => specGcd p q w (by omega) (by omega))
  have HPG : Hid (perB s (Nat.gcd p q) = true ↔ s.extract 0 (s.size - Nat.gcd p q) = s.extract (Nat.gcd p q) s.size) := by show _ ↔ _; rw [perB_iff]; exact (per_cut (by omega)).symm
  generalize Nat.gcd p q = g at *
  have eg : IntKind.i64.wrap ((s.size : Int) - (g : Int)) = ((s.size - g : Nat) : Int) := by rw [IntWalk.i64_in _ (by omega)]; omega
  have lg : ∀ w : World, (Instr.slice 9 (.string s) none (some (.int .i64 ((s.size - g : Nat) : Int))) none).run Try.prog w = .ok (.string (s.extract 0 (s.size - g))) w := fun w => cut_lo Try.underlying9 s _ (s.size - g) w rfl (by omega)
  have hig : ∀ w : World, (Instr.slice 9 (.string s) (some (.int .i64 (g : Int))) none none).run Try.prog w = .ok (.string (s.extract g s.size)) w := fun w => cut_hi Try.underlying9 s _ g w rfl (by omega)
  have eg1 : IntKind.i64.wrap ((p : Int) + (q : Int)) = (p : Int) + (q : Int) := IntWalk.i64_in _ (by omega)
  have eg2 : IntKind.i64.wrap ((p : Int) + (q : Int) - (g : Int)) = (p : Int) + (q : Int) - (g : Int) := IntWalk.i64_in _ (by omega)
  clear hw h1 h2
  generalize s.extract 0 (s.size - p) = xp at lp HPP
  generalize s.extract p s.size = yp at hip HPP
  generalize s.extract 0 (s.size - q) = xq at lq HPQ
  generalize s.extract q s.size = yq at hiq HPQ
  generalize s.extract 0 (s.size - g) = xg at lg HPG
  generalize s.extract g s.size = yg at hig HPG
  generalize afR s (p : Int) (q : Int) = r at HAF ⊢
  generalize perB s p = bp at HPP HAF
  generalize perB s q = bq at HPQ HAF
  generalize perB s g = bg at HPG HAF
  have nob : ∀ {x y : ByteArray}, (false = true ↔ x = y) → x ≠ y := fun h e => Bool.noConfusion (h.2 e)
  cases bp
  · have np := ne_bytes (nob HPP.out)
    have HR : Hid (r = false) := by show _ = _; rw [HAF.out, Bool.false_and, Bool.false_and]
    clear nob HAF
    go_enter Try.func58, Try.ntmps58
    go_wp2_with fail
    refine (specWordOk s _).mono ?_
    rintro e w' ⟨rfl, rfl⟩
    rw [HW.out]
    go_wp2_with fail
    refine (specIn _ _ _ _).mono ?_
    rintro e w' ⟨rfl, rfl⟩
    rw [H1.out]
    go_wp2_with fail
    refine (specIn _ _ _ _).mono ?_
    rintro e w' ⟨rfl, rfl⟩
    rw [H2.out]
    go_wp2_with fail
    go_quiet (fail)
    go_wp2_with fail
    go_ret
    exact ⟨ret_bool HR.out.symm, below_drewN (Below.refl _ _) _⟩
  have np := eq_bytes (HPP.out.1 rfl)
  cases bq
  · have nq := ne_bytes (nob HPQ.out)
    have HR : Hid (r = false) := by show _ = _; rw [HAF.out, Bool.and_false, Bool.false_and]
    clear nob HAF
    go_enter Try.func58, Try.ntmps58
    go_wp2_with fail
    refine (specWordOk s _).mono ?_
    rintro e w' ⟨rfl, rfl⟩
    rw [HW.out]
    go_wp2_with fail
    refine (specIn _ _ _ _).mono ?_
    rintro e w' ⟨rfl, rfl⟩
    rw [H1.out]
    go_wp2_with fail
    refine (specIn _ _ _ _).mono ?_
    rintro e w' ⟨rfl, rfl⟩
    rw [H2.out]
    go_wp2_with fail
    go_quiet (fail)
    go_wp2_with fail
    go_ret
    exact ⟨ret_bool HR.out.symm, below_drewN (Below.refl _ _) _⟩
  have nq := eq_bytes (HPQ.out.1 rfl)
  by_cases hd : (s.size : Int) < (p : Int) + (q : Int) - (g : Int)
  · have d1 : decide ((s.size : Int) < (p : Int) + (q : Int) - (g : Int)) = true := decide_eq_true hd
    have HR : Hid (r = true) := by show _ = _; rw [HAF.out, d1]; rfl
    clear nob HAF hd
    go_enter Try.func58, Try.ntmps58
    go_wp2_with fail
    refine (specWordOk s _).mono ?_
    rintro e w' ⟨rfl, rfl⟩
    rw [HW.out]
    go_wp2_with fail
    refine (specIn _ _ _ _).mono ?_
    rintro e w' ⟨rfl, rfl⟩
    rw [H1.out]
    go_wp2_with fail
    refine (specIn _ _ _ _).mono ?_
    rintro e w' ⟨rfl, rfl⟩
    rw [H2.out]
    go_wp2_with fail
    go_quiet (fail)
    go_wp2_with fail
    refine (HGC.out _).mono ?_
    rintro e w' ⟨rfl, rfl⟩
    go_wp2_with fail
    go_quiet (fail)
    go_wp2_with fail
    go_ret
    exact ⟨ret_bool HR.out.symm, below_drewN (below_drewN (Below.refl _ _) _) _⟩
  have d1 : decide ((s.size : Int) < (p : Int) + (q : Int) - (g : Int)) = false := decide_eq_false hd
  cases bg
  · have ng := ne_bytes (nob HPG.out)
    have HR : Hid (r = false) := by show _ = _; rw [HAF.out, d1]; rfl
    clear nob HAF hd
    go_enter Try.func58, Try.ntmps58
    go_wp2_with fail
    refine (specWordOk s _).mono ?_
    rintro e w' ⟨rfl, rfl⟩
    rw [HW.out]
    go_wp2_with fail
    refine (specIn _ _ _ _).mono ?_
    rintro e w' ⟨rfl, rfl⟩
    rw [H1.out]
    go_wp2_with fail
    refine (specIn _ _ _ _).mono ?_
    rintro e w' ⟨rfl, rfl⟩
    rw [H2.out]
    go_wp2_with fail
    go_quiet (fail)
    go_wp2_with fail
    refine (HGC.out _).mono ?_
    rintro e w' ⟨rfl, rfl⟩
    go_wp2_with fail
    go_quiet (fail)
    go_wp2_with fail
    go_ret
    exact ⟨ret_bool HR.out.symm, below_drewN (below_drewN (Below.refl _ _) _) _⟩
  · have ng := eq_bytes (HPG.out.1 rfl)
    have HR : Hid (r = true) := by show _ = _; rw [HAF.out, d1]; rfl
    clear nob HAF hd
    go_enter Try.func58, Try.ntmps58
    go_wp2_with fail
    refine (specWordOk s _).mono ?_
    rintro e w' ⟨rfl, rfl⟩
    rw [HW.out]
    go_wp2_with fail
    refine (specIn _ _ _ _).mono ?_
    rintro e w' ⟨rfl, rfl⟩
    rw [H1.out]
    go_wp2_with fail
    refine (specIn _ _ _ _).mono ?_
    rintro e w' ⟨rfl, rfl⟩
    rw [H2.out]
    go_wp2_with fail
    go_quiet (fail)
    go_wp2_with fail
    refine (HGC.out _).mono ?_
    rintro e w' ⟨rfl, rfl⟩
    go_wp2_with fail
    go_quiet (fail)
    go_wp2_with fail
    go_ret
    exact ⟨ret_bool HR.out.symm, below_drewN (below_drewN (Below.refl _ _) _) _⟩
end Go.Proofs.Ytgfhconcmoepcaa

/- The program's commonDivisor, countLyndon and CountLyndon. Conditions: commonDivisor: numbers from 0 to 2^20; countLyndon: 1 to 4 letters, lengths 1 to 12. -/
namespace Go.Proofs.Ytgfhconcmoepcaa
open Go.RowKit Go.Lib

set_option maxHeartbeats 1000000 in
theorem implDivisor (a b : Nat) (w : World) (ha : a ≤ 1048576) (hb : b ≤ 1048576) :
    Calls Try.prog 64 #[.int .i64 (a : Int), .int .i64 (b : Int)] w fun e w' => e = .returned (.int .i64 (Nat.gcd a b : Int)) ∧ ∃ n, w' = w.drewN n := by
  have HG : Hid (Nat.gcd a b = Nat.gcd a b) := rfl
  generalize hg : Nat.gcd a b = g at *
  have HGG := Lib.hid hg
  clear hg HG
  go_enter Try.func64, Try.ntmps64
  go_wp2_with fail
  go_loopw [0, 1] (fun x y w' => ∃ p q : Nat, p ≤ 1048576 ∧ q ≤ 1048576 ∧ x = .int .i64 (p : Int) ∧ y = .int .i64 (q : Int) ∧ Nat.gcd p q = g ∧ ∃ n, w' = w.drewN n) (fun _ y _ => (intOf y).toNat)
  case atStart => exact ⟨a, b, ha, hb, rfl, rfl, HGG.out, 0, rfl⟩
  case round =>
    obtain ⟨p, q, hp, hq, rfl, rfl, hpq, n, rfl⟩ := hrel
    have HPQ := Lib.hid hpq
    clear hpq
    by_cases h0 : 0 < q
    · have hq0 : ¬ q = 0 := by omega
      have hq1 : (0 : Int) < (q : Int) := by omega
      have hq2 : ¬ (q : Int) = 0 := by omega
      have hmod : p % q < q := Nat.mod_lt _ h0
      have HM : Hid ((p : Int) % (q : Int) = ((p % q : Nat) : Int)) := by show _ = _; omega
      have htm : (p : Int).tmod (q : Int) = ((p % q : Nat) : Int) := by rw [Int.tmod_eq_emod_of_nonneg (by omega)]; exact HM.out
      generalize hr : p % q = r at hmod HM htm
      have HRR := Lib.hid hr
      clear hr
      go_wp2_with fail
      go_quiet (fail)
      go_wp2_with fail
      go_roundw
      case rel => exact ⟨q, r, hq, by omega, rfl, by first | rfl | rw [HM.out], by rw [← HRR.out, Nat.gcd_comm, ← Nat.gcd_rec, Nat.gcd_comm]; exact HPQ.out, _, by first | rfl | exact World.drewN_drewN _ _ _⟩
      case measure => simp only [intOf]; omega
    · have hq0 : q = 0 := by omega
      subst hq0
      have HE : Hid (p = g) := by show _ = _; have := HPQ.out; rwa [Nat.gcd_zero_right] at this
      go_wp2_with fail
      go_ret
      exact ⟨by rw [HE.out]; rfl, _, rfl⟩

/-! ### countLyndon, reckoned for small numbers -/
/-- the words of n letters that are left when those of the periods up to j are taken away -/
def clW (L n j : Nat) : Int := ((L : Nat) : Int) ^ n - prSum (prT L (n - 1)) n j
def clV (L n : Nat) : Int := ((prT L n).getD n 0).tdiv n
theorem cq_zero (L n : Nat) : clW L n 0 = ((L ^ n : Nat) : Int) := by
  unfold clW prSum
  rw [Int.natCast_pow]
  omega
theorem cq_range : ∀ L ∈ [1, 2, 3, 4], ∀ n ∈ List.range 13, ∀ j ∈ List.range 7, (0 ≤ clW L n j ∧ clW L n j ≤ 16777216) ∧ (0 ≤ clV L n ∧ clV L n ≤ 16777216) := by decide +kernel
theorem cq_step : ∀ L ∈ [1, 2, 3, 4], ∀ n ∈ List.range 13, ∀ j ∈ List.range 7, 1 ≤ n → j < n / 2 → clW L n (j + 1) = (if n % (j + 1) = 0 then clW L n j - ((j + 1 : Nat) : Int) * clV L (j + 1) else clW L n j) ∧ 0 ≤ ((j + 1 : Nat) : Int) * clV L (j + 1) ∧ ((j + 1 : Nat) : Int) * clV L (j + 1) ≤ 16777216 := by decide +kernel
theorem cq_end : ∀ L ∈ [1, 2, 3, 4], ∀ n ∈ List.range 13, 1 ≤ n → (clW L n (n / 2)).tdiv n = clV L n := by decide +kernel

set_option maxRecDepth 100000 in
set_option maxHeartbeats 1000000 in
theorem implCount (L : Nat) (hL : 1 ≤ L ∧ L ≤ 4) : ∀ (n : Nat) (w : World), 1 ≤ n → n ≤ 12 →
    Calls Try.prog 70 #[.int .i64 (L : Int), .int .i64 (n : Int)] w fun e w' => e = .returned (.int .i64 (clV L n)) ∧ w = w' := by
  intro n
  induction n using Nat.strongRecOn with
  | ind n IH =>
    intro w hn1 hn2
    have HIH := Lib.hid IH
    have hLm := four_mem hL.1 hL.2
    have HR : Hid (∀ j, j ≤ n / 2 → 0 ≤ clW L n j ∧ clW L n j ≤ 16777216) := fun j hj => (cq_range L hLm n (List.mem_range.2 (by omega)) j (List.mem_range.2 (by omega))).1
    have HRV : Hid (∀ m, m ≤ 12 → 0 ≤ clV L m ∧ clV L m ≤ 16777216) := fun m hm => (cq_range L hLm m (List.mem_range.2 (by omega)) 0 (by decide)).2
    have HST : Hid (∀ j, j < n / 2 → clW L n (j + 1) = (if n % (j + 1) = 0 then clW L n j - ((j + 1 : Nat) : Int) * clV L (j + 1) else clW L n j) ∧ 0 ≤ ((j + 1 : Nat) : Int) * clV L (j + 1) ∧ ((j + 1 : Nat) : Int) * clV L (j + 1) ≤ 16777216) := fun j hj => cq_step L hLm n (List.mem_range.2 (by omega)) j (List.mem_range.2 (by omega)) hn1 hj
    have HEN : Hid ((clW L n (n / 2)).tdiv n = clV L n) := cq_end L hLm n (List.mem_range.2 (by omega)) hn1
    have HZ := Lib.hid (cq_zero L n)
    clear IH hLm
    generalize clV L = V at *
    generalize clW L n = W at *
    go_enter Try.func70, Try.ntmps70
    go_wp2_with fail
    go_loopw [5, 9] (fun x y w' => ∃ p k : Nat, k ≤ n ∧ p = L ^ k ∧ x = .int .i64 (p : Int) ∧ y = .int .i64 (k : Int) ∧ w = w') (fun _ y _ => n - (intOf y).toNat)
    case atStart => exact ⟨1, 0, Nat.zero_le _, rfl, rfl, rfl, rfl⟩
    case round =>
      obtain ⟨p, k, hk, hp, rfl, rfl, rfl⟩ := hrel
      have hle : p ≤ 16777216 := by rw [hp]; exact pow4 hL.2 (by omega)
      have HP := Lib.hid hp
      clear hp
      by_cases hlt : k < n
      · have hmul : p * L ≤ 16777216 * 4 := Nat.mul_le_mul hle hL.2
        have HM : Hid ((p : Int) * (L : Int) = ((p * L : Nat) : Int)) := by show _ = _; rw [Int.natCast_mul]
        have e1 : wrap64 ((p : Int) * (L : Int)) = ((p * L : Nat) : Int) := by rw [HM.out]; exact IntWalk.wrap64_in _ (by omega)
        have HPS : Hid (p * L = L ^ (k + 1)) := by show _ = _; rw [HP.out, Nat.pow_succ]
        clear hmul
        generalize p * L = p2 at e1 HPS HM
        go_wp2_with fail
        go_roundw
        case rel => exact ⟨p2, k + 1, by omega, HPS.out, by go_num, by go_num, by trivial⟩
        case measure => simp [intOf]; omega
      · have hkn : k = n := by omega
        have HE : Hid ((p : Int) = W 0) := by show _ = _; rw [HZ.out, HP.out, hkn]
        have htd : (n : Int).tdiv 2 = ((n / 2 : Nat) : Int) := by rw [Int.tdiv_eq_ediv_of_nonneg (by omega)]; omega
        have HN2 := Lib.hid (show n / 2 < n by omega)
        have hh6 : n / 2 ≤ 6 := by omega
        clear hkn HP
        generalize hh : n / 2 = h at *
        have HH := Lib.hid hh
        clear hh
        go_wp2_with fail
        go_loopw [5, 17] (fun x y w' => ∃ (j : Nat) (u : Int), j ≤ h ∧ u = W j ∧ x = .int .i64 u ∧ y = .int .i64 (j : Int) ∧ w = w') (fun _ y _ => h - (intOf y).toNat)
        case atStart => exact ⟨0, _, Nat.zero_le _, HE.out, rfl, rfl, rfl⟩
        case round =>
          obtain ⟨j, u, hj, hu, rfl, rfl, rfl⟩ := hrel
          have hub : 0 ≤ u ∧ u ≤ 16777216 := by rw [hu]; exact HR.out j hj
          have HU := Lib.hid hu
          clear hu
          by_cases hlt2 : j < h
          · obtain ⟨s1, s2, s3⟩ := HST.out j hlt2
            have HS1 := Lib.hid s1
            have hjn : j + 1 < n := by have := HN2.out; omega
            have hv := HRV.out (j + 1) (by omega)
            have HC := Lib.hid (fun w => HIH.out (j + 1) hjn w (by omega) (by omega))
            have hmd : (n : Int) % ((j : Int) + 1) = ((n % (j + 1) : Nat) : Int) := by rw [Int.natCast_emod, Int.natCast_add]; rfl
            have hj0 : ¬ (j : Int) + 1 = 0 := by omega
            have ej : ((j + 1 : Nat) : Int) = (j : Int) + 1 := by omega
            rw [ej] at s2 s3 HC HS1
            clear s1 ej
            generalize V (j + 1) = v at *
            by_cases hm : n % (j + 1) = 0
            · rw [hm] at hmd
              rw [if_pos hm] at HS1
              have hmd2 : (n : Int) % ((j : Int) + 1) = 0 := hmd
              have e2 : wrap64 (((j : Int) + 1) * v) = ((j : Int) + 1) * v := IntWalk.wrap64_in _ (by omega)
              have hw := HR.out (j + 1) (by omega)
              rw [HS1.out, ← HU.out] at hw
              clear hm hmd
              generalize hz : ((j : Int) + 1) * v = z at *
              go_wp2_with fail
              refine (HC.out _).mono ?_
              rintro e w' ⟨rfl, rfl⟩
              go_wp2_with fail
              go_roundw
              case rel => exact ⟨j + 1, u - z, by omega, by rw [HS1.out, HU.out], by go_num, by go_num, by trivial⟩
              case measure => simp [intOf]; omega
            · have hmd2 : ¬ (n : Int) % ((j : Int) + 1) = 0 := by rw [hmd]; omega
              rw [if_neg hm] at HS1
              clear hm hmd
              go_wp2_with fail
              go_roundw
              case rel => exact ⟨j + 1, u, by omega, by rw [HS1.out, HU.out], rfl, by go_num, by trivial⟩
              case measure => simp [intOf]; omega
          · have hjh : j = h := by omega
            have hn0 : ¬ (n : Int) = 0 := by omega
            have hn0' : ¬ n = 0 := by omega
            have hvn := HRV.out n hn2
            have HV : Hid (u.tdiv (n : Int) = V n) := by show _ = _; rw [HU.out, hjh]; exact HEN.out
            rw [← HV.out] at hvn
            have HQ : Hid (u.tdiv (n : Int) = u / (n : Int)) := Int.tdiv_eq_ediv_of_nonneg hub.1
            rw [HQ.out] at hvn
            clear hjh
            go_wp2_with fail
            go_ret
            exact ⟨ret_int (by rw [← HV.out, HQ.out]), rfl⟩

set_option maxHeartbeats 1000000 in
theorem implCountLyndon (a b : Int) (w : World) :
    Calls Try.prog 29 #[.int .i64 a, .int .i64 b] w fun e w' => e = .returned (.int .i64 (clyR a b)) ∧ Below w.heap.size w w' := by
  by_cases hok : (1 ≤ a ∧ a ≤ 4) ∧ (1 ≤ b ∧ b ≤ 12)
  · obtain ⟨⟨a1, a2⟩, b1, b2⟩ := hok
    have HV : Hid (clyR a b = ((prT a.toNat b.toNat).getD b.toNat 0).tdiv b) := if_pos (by unfold clyOk; rw [decide_eq_true a1, decide_eq_true a2, decide_eq_true b1, decide_eq_true b2]; rfl)
    obtain ⟨L, rfl⟩ : ∃ L : Nat, a = L := ⟨a.toNat, by omega⟩
    obtain ⟨n, rfl⟩ : ∃ n : Nat, b = n := ⟨b.toNat, by omega⟩
    rw [Int.toNat_natCast, Int.toNat_natCast] at HV
    have HC := Lib.hid (fun w => implCount L (by omega) n w (by omega) (by omega))
    have HE : Hid (clV L n = clyR L n) := HV.out.symm
    clear HV
    generalize clyR (L : Int) (n : Int) = r at *
    generalize clV L n = v at *
    have h1 : ¬ (L : Int) < 1 := by omega
    have h2 : ¬ (4 : Int) < (L : Int) := by omega
    have h3 : ¬ (n : Int) < 1 := by omega
    have h4 : ¬ (12 : Int) < (n : Int) := by omega
    go_enter Try.func29, Try.ntmps29
    go_wp2_with fail
    refine (HC.out _).mono ?_
    rintro e w' ⟨rfl, rfl⟩
    go_wp2_with fail
    go_ret
    exact ⟨ret_int HE.out, Below.refl _ _⟩
  · have HV : Hid (clyR a b = -1) := if_neg (by
      unfold clyOk
      intro h
      rw [Bool.and_eq_true, Bool.and_eq_true, Bool.and_eq_true, decide_eq_true_eq, decide_eq_true_eq, decide_eq_true_eq, decide_eq_true_eq] at h
      exact hok h)
    generalize clyR a b = r at *
    by_cases h1 : a < 1
    · go_enter Try.func29, Try.ntmps29
      go_wp2_with fail
      go_ret
      exact ⟨ret_int HV.out.symm, Below.refl _ _⟩
    by_cases h2 : 4 < a
    · go_enter Try.func29, Try.ntmps29
      go_wp2_with fail
      go_ret
      exact ⟨ret_int HV.out.symm, Below.refl _ _⟩
    by_cases h3 : b < 1
    · go_enter Try.func29, Try.ntmps29
      go_wp2_with fail
      go_ret
      exact ⟨ret_int HV.out.symm, Below.refl _ _⟩
    have h4 : 12 < b := by omega
    go_enter Try.func29, Try.ntmps29
    go_wp2_with fail
    go_ret
    exact ⟨ret_int HV.out.symm, Below.refl _ _⟩
end Go.Proofs.Ytgfhconcmoepcaa

/- RootOf, IsPrimitiveWord, IsLyndon and AllPeriodsFine of the program. Condition: a text of at most 2^20 bytes. -/
namespace Go.Proofs.Ytgfhconcmoepcaa
open Go.RowKit

theorem pe_mem {s : ByteArray} (hw : wordB s = true) (x : Int) : x ∈ peR s ↔ ∃ p : Nat, x = p ∧ 1 ≤ p ∧ p ≤ s.size ∧ PerAt s p := by
  have hv : peR s = peTo s s.size := if_pos hw
  rw [hv]
  exact peTo_mem
theorem pe_up {s : ByteArray} (hw : wordB s = true) {i j : Nat} (hij : i < j) (hj : j < (peR s).length) : (peR s)[i]'(by omega) < (peR s)[j] := py_up hw hij hj
/-- the first period that divides the length is the root's -/
theorem rt_first {s : ByteArray} (hw : wordB s = true) (h : 1 ≤ s.size) {k : Nat} (hk : k < (peR s).length) (hno : ∀ j (hj : j < (peR s).length), j < k → (s.size : Int) % (peR s)[j] ≠ 0) (hyes : (s.size : Int) % (peR s)[k] = 0) : (peR s)[k] = (rtN s : Int) := by
  obtain ⟨⟨a1, a2⟩, b, c, d⟩ := rt_spec h
  obtain ⟨p, hp, p1, p2, p3⟩ := (pe_mem hw _).1 (List.getElem_mem hk)
  rw [hp] at hyes ⊢
  have hpm : s.size % p = 0 := by
    have := hyes
    rw [← Int.natCast_emod] at this
    omega
  have hle := d p p1 ⟨hpm, p3⟩
  obtain ⟨j, hj, hje⟩ := List.mem_iff_getElem.1 ((pe_mem hw (rtN s : Int)).2 ⟨rtN s, rfl, b, c, a2⟩)
  have hjk : ¬ j < k := fun hlt => by
    refine hno j hj hlt ?_
    rw [hje, ← Int.natCast_emod, a1]
    rfl
  by_cases e : j = k
  · subst e
    rw [← hp, hje]
  · have := pe_up hw (show k < j by omega) hj
    rw [hp, hje] at this
    omega
theorem rt_none {s : ByteArray} (hw : wordB s = true) (h : 1 ≤ s.size) (hno : ∀ j (hj : j < (peR s).length), (s.size : Int) % (peR s)[j] ≠ 0) : False := by
  obtain ⟨⟨a1, a2⟩, b, c, d⟩ := rt_spec h
  obtain ⟨j, hj, hje⟩ := List.mem_iff_getElem.1 ((pe_mem hw (rtN s : Int)).2 ⟨rtN s, rfl, b, c, a2⟩)
  refine hno j hj ?_
  rw [hje, ← Int.natCast_emod, a1]
  rfl
theorem pe_nil {s : ByteArray} (h : rtOk s = false) : peR s = [] := by
  unfold rtOk at h
  cases hw : wordB s
  · exact if_neg (by rw [hw]; decide)
  · rw [hw, Bool.true_and, decide_eq_false_iff_not] at h
    have hv : peR s = peTo s s.size := if_pos hw
    rw [hv, show s.size = 0 by omega]
    rfl

set_option maxRecDepth 100000 in
set_option maxHeartbeats 1000000 in
theorem implRootOf (s : ByteArray) (w : World) (hs : s.size ≤ 1048576) :
    Calls Try.prog 20 #[.string s] w fun e w' => e = .returned (.tuple #[.string (rtR s), .int .i64 (rtK s)]) ∧ Below w.heap.size w w' := by
  have HPE := Lib.hid (fun w => implPeriodsOf s w hs)
  have hpl := peR_le s
  cases hok : rtOk s
  · have HR : Hid (rtR s = ⟨#[]⟩) := if_neg (by rw [hok]; decide)
    have HK : Hid (rtK s = 0) := if_neg (by rw [hok]; decide)
    have hnl := pe_nil hok
    rw [hnl] at HPE
    clear hok hnl hpl
    generalize rtR s = r at *
    generalize rtK s = q at *
    go_enter Try.func20, Try.ntmps20
    go_wp2_with fail
    refine (HPE.out _).mono ?_
    rintro e w1 ⟨v, rfl, ho, hb1⟩
    have HB := Lib.hid hb1
    obtain ⟨A, cp, rfl⟩ := own_slice ho
    clear hb1 ho
    go_wp2_with fail
    go_loopw [9] (fun iv w' => iv = .int .i64 0 ∧ w' = w1) (fun _ _ => 0)
    case atStart => exact ⟨rfl, rfl⟩
    case round =>
      obtain ⟨rfl, rfl⟩ := hrel
      go_wp2_with fail
      go_ret2
      exact ⟨by rw [HR.out, HK.out]; rfl, HB.out⟩
  have hok2 := hok
  unfold rtOk at hok2
  rw [Bool.and_eq_true, decide_eq_true_eq] at hok2
  obtain ⟨hw, h1⟩ := hok2
  have h4 := word_size hw
  have HR : Hid (rtR s = s.extract 0 (rtN s)) := if_pos hok
  have HK : Hid (rtK s = ((s.size / rtN s : Nat) : Int)) := if_pos hok
  have HF : Hid (∀ k (hk : k < (peR s).length), (∀ j (hj : j < (peR s).length), j < k → (s.size : Int) % (peR s)[j] ≠ 0) → (s.size : Int) % (peR s)[k] = 0 → (peR s)[k] = (rtN s : Int)) := fun k hk a b => rt_first hw h1 hk a b
  have HN : Hid (¬ ∀ j (hj : j < (peR s).length), (s.size : Int) % (peR s)[j] ≠ 0) := rt_none hw h1
  have HM : Hid (∀ x ∈ peR s, 1 ≤ x ∧ x ≤ (s.size : Int)) := fun x hx => by
    obtain ⟨p, rfl, a, b, _⟩ := (pe_mem hw x).1 hx
    omega
  obtain ⟨_, b1, b2, _⟩ := rt_spec h1
  have HQ : Hid (1 ≤ rtN s ∧ rtN s ≤ s.size) := ⟨b1, b2⟩
  clear hok hw b1 b2
  generalize rtR s = r at *
  generalize rtK s = q at *
  generalize rtN s = n at *
  generalize peR s = P at *
  go_enter Try.func20, Try.ntmps20
  go_wp2_with fail
  refine (HPE.out _).mono ?_
  rintro e w1 ⟨v, rfl, ho, hb1⟩
  have HB := Lib.hid hb1
  have HO := Lib.hid ho
  obtain ⟨A, cp, rfl⟩ := own_slice ho
  clear hb1 ho
  go_wp2_with fail
  go_loopw [9] (fun iv w' => ∃ k : Nat, k ≤ P.length ∧ iv = .int .i64 (k : Int) ∧ (∀ j (hj : j < P.length), j < k → (s.size : Int) % P[j] ≠ 0) ∧ w' = w1) (fun iv _ => P.length - (intOf iv).toNat)
  case atStart => exact ⟨0, Nat.zero_le _, rfl, fun j _ h => by omega, rfl⟩
  case round =>
    obtain ⟨k, hk, rfl, hno, rfl⟩ := hrel
    have HNO := Lib.hid hno
    clear hno
    by_cases hlt : k < P.length
    · obtain ⟨g, cp', he, _⟩ := own_some HO.out (by omega)
      injection he with he _ he2
      subst he; subst he2
      have hxk := HM.out P[k] (List.getElem_mem hlt)
      have ck : wr.cell? ⟨g, k, none⟩ = some (.int .i64 P[k]) := (World.ownsRow.cellAt HO.out k (by omega)).trans (ints_get (List.getElem?_eq_getElem hlt))
      have hlt' : (k : Int) < (P.length : Int) := by omega
      by_cases hm : (s.size : Int) % P[k] = 0
      · have HE := Lib.hid (HF.out k hlt HNO.out hm)
        obtain ⟨q1, q2⟩ := HQ.out
        rw [HE.out] at ck hm
        have hn0 : ¬ (n : Int) = 0 := by omega
        have hn0' : ¬ n = 0 := by omega
        have htm : (s.size : Int).tmod (n : Int) = 0 := by rw [Int.tmod_eq_emod_of_nonneg (by omega)]; exact hm
        have HTD : Hid ((s.size : Int).tdiv (n : Int) = ((s.size / n : Nat) : Int)) := by show _ = _; rw [Int.tdiv_eq_ediv_of_nonneg (by omega)]; omega
        have hlo : ∀ w : World, (Instr.slice 9 (.string s) none (some (.int .i64 (n : Int))) none).run Try.prog w = .ok (.string (s.extract 0 n)) w := fun w => cut_lo Try.underlying9 s _ n w rfl (by omega)
        have hdb : s.size / n ≤ 400 := Nat.le_trans (Nat.div_le_self _ _) h4
        generalize hD : s.size / n = D at *
        have htd : (s.size : Int).tdiv (n : Int) = (D : Int) := HTD.out
        have hte : (s.size : Int) / (n : Int) = (D : Int) := by rw [← htd, Int.tdiv_eq_ediv_of_nonneg (by omega)]
        clear hD hxk
        go_wp2_with fail
        go_quiet (fail)
        go_wp2_with fail
        go_ret2
        exact ⟨by rw [HR.out, HK.out]; rfl, below_drewN HB.out _⟩
      · have HNN : Hid (∀ j (hj : j < P.length), j < k + 1 → (s.size : Int) % P[j] ≠ 0) := fun j hj h => by
          by_cases e : j = k
          · subst e; exact hm
          · exact HNO.out j hj (by omega)
        have hx0 : ¬ P[k] = 0 := by omega
        have htm : ¬ (s.size : Int).tmod P[k] = 0 := by rw [Int.tmod_eq_emod_of_nonneg (by omega)]; exact hm
        have hmb1 : 0 ≤ (s.size : Int) % P[k] := Int.emod_nonneg _ hx0
        have hmb2 : (s.size : Int) % P[k] < P[k] := Int.emod_lt_of_pos _ (by omega)
        generalize P[k] = x at *
        go_wp2_with fail
        go_roundw
        case rel => exact ⟨k + 1, by omega, by go_num, HNN.out, by trivial⟩
        case measure => simp [intOf]; omega
    · exact absurd (fun j hj => HNO.out j hj (by omega)) HN.out

theorem implIsPrimitiveWord (s : ByteArray) (w : World) (hs : s.size ≤ 1048576) :
    Calls Try.prog 21 #[.string s] w fun e w' => e = .returned (.bool (prmR s)) ∧ Below w.heap.size w w' := by
  have HV := Lib.hid (prm_eq s)
  have HR := Lib.hid (fun w => implRootOf s w hs)
  generalize prmR s = r at HV ⊢
  generalize rtK s = k at HV HR
  generalize rtR s = x at HR
  go_enter Try.func21, Try.ntmps21
  go_wp2_with fail
  refine (HR.out _).mono ?_
  rintro e w1 ⟨rfl, hb⟩
  have HB := Lib.hid hb
  clear hb
  go_wp2_with fail
  go_ret
  exact ⟨ret_bool HV.out.symm, HB.out⟩

/-- a Lyndon word is the least of its shifts, and no power -/
theorem ly_least (s : ByteArray) : lyR s = ((lsR s == 0) && prmR s) := by
  cases hw : wordB s
  · have h1 : lsR s = -1 := by unfold lsR; rw [hw]; rfl
    have h2 : lyR s = false := by unfold lyR; rw [hw]; rfl
    rw [h1, h2]
    rfl
  · by_cases h0 : s.size = 0
    · have h1 : lsR s = -1 := by unfold lsR; rw [decide_eq_false (show ¬ 1 ≤ s.size by omega), Bool.and_false]; rfl
      have h2 : lyR s = false := by
        unfold lyR
        rw [hw, Bool.true_and]
        cases hx : lyB s
        · rfl
        · have := ((lyB_iff s).1 hx).1; omega
      rw [h1, h2]
      rfl
    · have h1 : 1 ≤ s.size := by omega
      have hls : lsR s = (lsTo s s.size : Int) := if_pos (by rw [hw, decide_eq_true h1]; rfl)
      obtain ⟨k, hk, k1, k2, _, _, k5⟩ := py_root hw h1
      have hz := ls_least s s.size
      have hly := ls_lyn h1
      rw [Bool.eq_iff_iff, Bool.and_eq_true]
      unfold lyR
      rw [hw, Bool.true_and, lyB_iff, prm_eq, hk, hls, beq_iff_eq, beq_iff_eq]
      constructor
      · intro hl
        have h00 : lsTo s s.size = 0 := by
          by_cases hz0 : lsTo s s.size = 0
          · exact hz0
          · exfalso
            have := hz 0 (by omega)
            rw [rot_zero] at this
            exact this (hl.2 (lsTo s s.size) (by omega) (ls_lt h1))
        rw [h00, rot_zero] at hly
        have := k5.1 (hly.1 hl)
        omega
      · rintro ⟨ha, hb⟩
        have h00 : lsTo s s.size = 0 := by omega
        rw [h00, rot_zero] at hly
        exact hly.2 (k5.2 (by omega))

set_option maxHeartbeats 1000000 in
theorem implIsLyndon (s : ByteArray) (w : World) (hs : s.size ≤ 1048576) :
    Calls Try.prog 23 #[.string s] w fun e w' => e = .returned (.bool (lyR s)) ∧ Below w.heap.size w w' := by
  have HV := Lib.hid (ly_least s)
  have HL := Lib.hid (fun w => implLeastShift s w hs)
  have HP := Lib.hid (fun w => implIsPrimitiveWord s w hs)
  generalize lyR s = r at *
  generalize lsR s = k at *
  generalize prmR s = b at *
  by_cases h0 : k = 0
  · have HR : Hid (b = r) := by show _ = _; rw [HV.out, h0]; rfl
    have hk : (k == 0) = true := by rw [beq_iff_eq]; exact h0
    clear HV h0
    go_enter Try.func23, Try.ntmps23
    go_wp2_with fail
    refine (HL.out _).mono ?_
    rintro e w1 ⟨rfl, hb1⟩
    have HB := Lib.hid hb1
    clear hb1
    go_wp2_with fail
    refine (HP.out _).mono ?_
    rintro e w2 ⟨rfl, hb2⟩
    have HB2 := Lib.hid (HB.out.trans (hb2.mono HB.out.size))
    clear hb2
    go_wp2_with fail
    go_ret
    exact ⟨ret_bool HR.out, HB2.out⟩
  · have HR : Hid (false = r) := by show _ = _; rw [HV.out, beq_eq_false_iff_ne.2 h0]; rfl
    have hk : (k == 0) = false := by rw [beq_eq_false_iff_ne]; exact h0
    clear HV
    go_enter Try.func23, Try.ntmps23
    go_wp2_with fail
    refine (HL.out _).mono ?_
    rintro e w1 ⟨rfl, hb1⟩
    have HB := Lib.hid hb1
    clear hb1
    go_wp2_with fail
    go_ret
    exact ⟨ret_bool HR.out, HB.out⟩

theorem af_pe (s : ByteArray) (p q : Int) : afR s p q = (decide (p ∈ peR s) && (decide (q ∈ peR s) && (decide ((s.size : Int) < p + q - (Nat.gcd p.toNat q.toNat : Int)) || decide ((Nat.gcd p.toNat q.toNat : Int) ∈ peR s)))) := by
  cases hw : wordB s
  · have hv : peR s = [] := if_neg (by rw [hw]; decide)
    rw [af_no (.inl hw), hv]
    rfl
  · have hm : ∀ x : Int, decide (x ∈ peR s) = ((decide (1 ≤ x) && decide (x ≤ s.size)) && perB s x.toNat) := fun x => by
      rw [Bool.eq_iff_iff, decide_eq_true_eq, Bool.and_eq_true, Bool.and_eq_true, decide_eq_true_eq, decide_eq_true_eq, perB_iff, pe_mem hw]
      constructor
      · rintro ⟨n, rfl, a, b, d⟩
        exact ⟨⟨by omega, by omega⟩, by rwa [Int.toNat_natCast]⟩
      · rintro ⟨⟨a, b⟩, d⟩
        exact ⟨x.toNat, by omega, by omega, by omega, d⟩
    rw [hm p, hm q, hm (Nat.gcd p.toNat q.toNat : Int)]
    unfold afR
    rw [hw, Bool.true_and, Int.toNat_natCast]
    by_cases hp : 1 ≤ p ∧ p ≤ (s.size : Int)
    · have g1 : 1 ≤ Nat.gcd p.toNat q.toNat := Nat.gcd_pos_of_pos_left _ (by omega)
      have g2 : Nat.gcd p.toNat q.toNat ≤ p.toNat := Nat.le_of_dvd (by omega) (Nat.gcd_dvd_left _ _)
      rw [decide_eq_true (show (1 : Int) ≤ ((Nat.gcd p.toNat q.toNat : Nat) : Int) by omega), decide_eq_true (show ((Nat.gcd p.toNat q.toNat : Nat) : Int) ≤ (s.size : Int) by omega), Bool.true_and, Bool.true_and]
      generalize decide (1 ≤ p) = b1
      generalize decide (p ≤ (s.size : Int)) = b2
      generalize decide (1 ≤ q) = b3
      generalize decide (q ≤ (s.size : Int)) = b4
      generalize perB s p.toNat = b5
      generalize perB s q.toNat = b6
      cases b1 <;> cases b2 <;> cases b3 <;> cases b4 <;> cases b5 <;> cases b6 <;> rfl
    · have : (decide (1 ≤ p) && decide (p ≤ (s.size : Int))) = false := by
        rw [Bool.and_eq_false_iff, decide_eq_false_iff_not, decide_eq_false_iff_not]
        omega
      rw [this, Bool.false_and, Bool.false_and, Bool.false_and]

set_option maxRecDepth 100000 in
set_option maxHeartbeats 1000000 in
theorem implAllPeriodsFine (s : ByteArray) (a b : Int) (w : World) (hs : s.size ≤ 1048576) :
    Calls Try.prog 18 #[.string s, .int .i64 a, .int .i64 b] w fun e w' => e = .returned (.bool (afR s a b)) ∧ Below w.heap.size w w' := by
  have HPE := Lib.hid (fun w => implPeriodsOf s w hs)
  have hpl := peR_le s
  have HAF := Lib.hid (af_pe s a b)
  have HM : Hid (∀ x ∈ peR s, 1 ≤ x ∧ x ≤ 400) := fun x hx => by
    cases hw : wordB s
    · have hv : peR s = [] := if_neg (by rw [hw]; decide)
      rw [hv] at hx
      cases hx
    · obtain ⟨p, rfl, a, b, _⟩ := (pe_mem hw x).1 hx
      have := word_size hw
      omega
  generalize afR s a b = r at *
  generalize peR s = P at *
  have HCN : Hid (∀ (B : Nat) (v : Value) (x : Int) (w : World), w.ownsRow B 3 1 v P.length (ints P) → Calls Try.prog 63 #[v, .int .i64 x] w fun e w' => e = .returned (.bool (decide (x ∈ P))) ∧ w = w') := fun B v x w ho => implContainsInts B v P x w ho (by omega)
  by_cases ha : a ∈ P
  · have da : decide (a ∈ P) = true := decide_eq_true ha
    have hab := HM.out a ha
    by_cases hb : b ∈ P
    · have db : decide (b ∈ P) = true := decide_eq_true hb
      have hbb := HM.out b hb
      obtain ⟨p, rfl⟩ : ∃ p : Nat, a = p := ⟨a.toNat, by omega⟩
      obtain ⟨q, rfl⟩ : ∃ q : Nat, b = q := ⟨b.toNat, by omega⟩
      rw [Int.toNat_natCast, Int.toNat_natCast, da, db, Bool.true_and, Bool.true_and] at HAF
      have HG := Lib.hid (fun w => implDivisor p q w (by omega) (by omega))
      have g1 : 1 ≤ Nat.gcd p q := Nat.gcd_pos_of_pos_left _ (by omega)
      have g2 : Nat.gcd p q ≤ p := Nat.le_of_dvd (by omega) (Nat.gcd_dvd_left _ _)
      have DA := Lib.hid da
      have DB := Lib.hid db
      clear ha hb da db
      generalize Nat.gcd p q = g at *
      by_cases hl : (s.size : Int) < (p : Int) + (q : Int) - (g : Int)
      · have HR : Hid (true = r) := by show _ = _; rw [HAF.out, decide_eq_true hl]; rfl
        clear HAF
        go_enter Try.func18, Try.ntmps18
        go_wp2_with fail
        refine (HPE.out _).mono ?_
        rintro e w1 ⟨v, rfl, ho, hb1⟩
        have HB := Lib.hid hb1
        have HO := Lib.hid ho
        obtain ⟨A, cp, rfl⟩ := own_slice ho
        clear hb1 ho
        go_wp2_with fail
        refine (HCN.out _ _ _ _ HO.out).mono ?_
        rw [DA.out]
        rintro e w2 ⟨rfl, rfl⟩
        go_wp2_with fail
        refine (HCN.out _ _ _ _ HO.out).mono ?_
        rw [DB.out]
        rintro e w2 ⟨rfl, rfl⟩
        go_wp2_with fail
        refine (HG.out _).mono ?_
        rintro e w3 ⟨rfl, n, rfl⟩
        go_wp2_with fail
        go_ret
        exact ⟨ret_bool HR.out, below_drewN HB.out n⟩
      · have HR : Hid (decide ((g : Int) ∈ P) = r) := by show _ = _; rw [HAF.out, decide_eq_false hl]; rfl
        have dl : decide ((s.size : Int) < (p : Int) + (q : Int) - (g : Int)) = false := decide_eq_false hl
        clear HAF
        go_enter Try.func18, Try.ntmps18
        go_wp2_with fail
        refine (HPE.out _).mono ?_
        rintro e w1 ⟨v, rfl, ho, hb1⟩
        have HB := Lib.hid hb1
        have HO := Lib.hid ho
        obtain ⟨A, cp, rfl⟩ := own_slice ho
        clear hb1 ho
        go_wp2_with fail
        refine (HCN.out _ _ _ _ HO.out).mono ?_
        rw [DA.out]
        rintro e w2 ⟨rfl, rfl⟩
        go_wp2_with fail
        refine (HCN.out _ _ _ _ HO.out).mono ?_
        rw [DB.out]
        rintro e w2 ⟨rfl, rfl⟩
        go_wp2_with fail
        refine (HG.out _).mono ?_
        rintro e w3 ⟨rfl, n, rfl⟩
        go_wp2_with fail
        refine (HCN.out _ _ _ _ (own_drewN HO.out n)).mono ?_
        rw [HR.out]
        rintro e w4 ⟨rfl, rfl⟩
        go_wp2_with fail
        go_ret
        exact ⟨ret_bool (by first | rfl | (rw [dl]; rfl)), below_drewN HB.out n⟩
    · have db : decide (b ∈ P) = false := decide_eq_false hb
      have da : decide (a ∈ P) = true := decide_eq_true ha
      have HR : Hid (false = r) := by show _ = _; rw [HAF.out, db, Bool.false_and, Bool.and_false]
      have DA := Lib.hid da
      have DB := Lib.hid db
      clear ha hb da db HAF
      go_enter Try.func18, Try.ntmps18
      go_wp2_with fail
      refine (HPE.out _).mono ?_
      rintro e w1 ⟨v, rfl, ho, hb1⟩
      have HB := Lib.hid hb1
      have HO := Lib.hid ho
      obtain ⟨A, cp, rfl⟩ := own_slice ho
      clear hb1 ho
      go_wp2_with fail
      refine (HCN.out _ _ _ _ HO.out).mono ?_
      rw [DA.out]
      rintro e w2 ⟨rfl, rfl⟩
      go_wp2_with fail
      refine (HCN.out _ _ _ _ HO.out).mono ?_
      rw [DB.out]
      rintro e w2 ⟨rfl, rfl⟩
      go_wp2_with fail
      go_ret
      exact ⟨ret_bool HR.out, HB.out⟩
  · have da : decide (a ∈ P) = false := decide_eq_false ha
    have HR : Hid (false = r) := by show _ = _; rw [HAF.out, da, Bool.false_and]
    have DA := Lib.hid da
    clear ha da HAF
    go_enter Try.func18, Try.ntmps18
    go_wp2_with fail
    refine (HPE.out _).mono ?_
    rintro e w1 ⟨v, rfl, ho, hb1⟩
    have HB := Lib.hid hb1
    have HO := Lib.hid ho
    obtain ⟨A, cp, rfl⟩ := own_slice ho
    clear hb1 ho
    go_wp2_with fail
    refine (HCN.out _ _ _ _ HO.out).mono ?_
    rw [DA.out]
    rintro e w2 ⟨rfl, rfl⟩
    go_wp2_with fail
    go_ret
    exact ⟨ret_bool HR.out, HB.out⟩
end Go.Proofs.Ytgfhconcmoepcaa

/- The longest Lyndon word at the beginning of a word, found letter by letter. No program in it. -/
namespace Go.Proofs.Ytgfhconcmoepcaa
open Go.RowKit

/-- the first q letters come before each of their ends -/
def LyC (c : Nat → Nat) (q : Nat) : Prop := 1 ≤ q ∧ ∀ d, 1 ≤ d → d < q → ∃ k, d + k < q ∧ (∀ j, j < k → c j = c (d + j)) ∧ c k < c (d + k)
/-- the first p letters are a Lyndon word, and p is a period of the first i -/
def DvTo (c : Nat → Nat) (i p : Nat) : Prop := 1 ≤ p ∧ p ≤ i ∧ LyC c p ∧ ∀ k, k + p < i → c k = c (k + p)
theorem dv_start (c : Nat → Nat) : DvTo c 1 1 := ⟨Nat.le_refl _, Nat.le_refl _, ⟨Nat.le_refl _, fun d h1 h2 => by omega⟩, fun k h => by omega⟩
theorem dv_per {c : Nat → Nat} {i p : Nat} (h : ∀ k, k + p < i → c k = c (k + p)) : ∀ a k, k + a * p < i → c k = c (k + a * p)
  | 0, k, _ => by rw [Nat.zero_mul, Nat.add_zero]
  | a + 1, k, hk => by
    rw [Nat.succ_mul] at hk ⊢
    rw [dv_per h a k (by omega), h (k + a * p) (by omega), Nat.add_assoc]
theorem dv_same {c : Nat → Nat} {i p : Nat} (h : DvTo c i p) (e : c i = c (i - p)) : DvTo c (i + 1) p := by
  obtain ⟨h1, h2, h3, h4⟩ := h
  refine ⟨h1, by omega, h3, fun k hk => ?_⟩
  by_cases hi : k + p = i
  · rw [hi, e]
    congr 1
    omega
  · exact h4 k (by omega)
theorem dv_more {c : Nat → Nat} {i p : Nat} (h : DvTo c i p) (e : c (i - p) < c i) : DvTo c (i + 1) (i + 1) := by
  obtain ⟨h1, h2, h3, h4⟩ := h
  refine ⟨by omega, Nat.le_refl _, ⟨by omega, fun d d1 d2 => ?_⟩, fun k hk => by omega⟩
  have hd := Nat.div_add_mod d p
  have hb : d % p < p := Nat.mod_lt _ (by omega)
  generalize hA : d / p = a at *
  generalize hB : d % p = b at *
  rw [Nat.mul_comm] at hd
  by_cases b0 : b = 0
  · subst b0
    have ha : 1 ≤ a := by
      by_cases a0 : a = 0
      · subst a0; omega
      · omega
    obtain ⟨a', rfl⟩ : ∃ a', a = a' + 1 := ⟨a - 1, by omega⟩
    have hs : (a' + 1) * p = a' * p + p := Nat.succ_mul _ _
    refine ⟨i - d, by omega, fun j hj => ?_, ?_⟩
    · have := dv_per h4 (a' + 1) j (by omega)
      rw [this]
      congr 1
      omega
    · have := dv_per h4 a' (i - d) (by omega)
      rw [show i - d + a' * p = i - p by omega] at this
      rw [this, show d + (i - d) = i by omega]
      exact e
  · obtain ⟨k, k1, k2, k3⟩ := h3.2 b (by omega) hb
    have hper : ∀ j, d + j < i → c (d + j) = c (b + j) := fun j hj => by
      have := dv_per h4 a (b + j) (by omega)
      rw [this]
      congr 1
      omega
    by_cases hk : d + k < i
    · refine ⟨k, by omega, fun j hj => ?_, ?_⟩
      · rw [hper j (by omega)]; exact k2 j hj
      · rw [hper k hk]; exact k3
    · have ha : 1 ≤ a := by
        by_cases a0 : a = 0
        · subst a0; omega
        · omega
      obtain ⟨a', rfl⟩ : ∃ a', a = a' + 1 := ⟨a - 1, by omega⟩
      have hs : (a' + 1) * p = a' * p + p := Nat.succ_mul _ _
      refine ⟨i - d, by omega, fun j hj => ?_, ?_⟩
      · rw [hper j (by omega)]; exact k2 j (by omega)
      · rw [show d + (i - d) = i by omega]
        refine Nat.lt_of_le_of_lt ?_ e
        have := dv_per h4 a' (b + (i - d)) (by omega)
        rw [show b + (i - d) + a' * p = i - p by omega] at this
        rw [← this]
        by_cases hq : i - d = k
        · rw [hq]; omega
        · exact Nat.le_of_eq (k2 _ (by omega))
/-- where it ends, there is no longer Lyndon word -/
theorem dv_end {c : Nat → Nat} {i p q : Nat} (h : DvTo c i p) (hq : p < q) (he : q ≤ i ∨ c i < c (i - p)) : ¬ LyC c q := fun hl => by
  obtain ⟨h1, h2, h3, h4⟩ := h
  obtain ⟨k, k1, k2, k3⟩ := hl.2 p h1 hq
  by_cases hk : k + p < i
  · have := h4 k hk
    rw [Nat.add_comm] at this
    omega
  · rcases he with he | he
    · omega
    · by_cases hi : p + k = i
      · rw [hi, show k = i - p by omega] at k3
        omega
      · have := k2 (i - p) (by omega)
        rw [show p + (i - p) = i by omega] at this
        omega

/-! ### words as texts -/
theorem bl_at : ∀ u v : List UInt8, v.length < u.length → (Op.bytesLess u v = true ↔ ∃ k, k < v.length ∧ (∀ j, j < k → (u.getD j 0).toNat = (v.getD j 0).toNat) ∧ (u.getD k 0).toNat < (v.getD k 0).toNat)
  | [], v, h => by simp at h
  | x :: u, [], _ => by
    rw [bl_nil]
    constructor
    · intro h; cases h
    · rintro ⟨k, hk, _⟩; simp at hk
  | x :: u, y :: v, h => by
    rw [bl_cons, bl_at u v (by simpa using h)]
    constructor
    · rintro (hx | ⟨rfl, k, a, b, d⟩)
      · exact ⟨0, by simp, fun j hj => absurd hj (by omega), hx⟩
      · refine ⟨k + 1, by simpa using a, fun j hj => ?_, by simpa using d⟩
        cases j with
        | zero => rfl
        | succ j => simpa using b j (by omega)
    · rintro ⟨k, a, b, d⟩
      cases k with
      | zero => exact .inl d
      | succ k =>
        refine .inr ⟨UInt8.toNat.inj (by simpa using b 0 (by omega)), k, by simpa using a, fun j hj => ?_, by simpa using d⟩
        simpa using b (j + 1) (by omega)
theorem getD_take (l : List UInt8) {q j : Nat} (h : j < q) : (l.take q).getD j 0 = l.getD j 0 := by
  rw [List.getD_eq_getElem?_getD, List.getD_eq_getElem?_getD, List.getElem?_take, if_pos h]
theorem getD_drop (l : List UInt8) (d j : Nat) : (l.drop d).getD j 0 = l.getD (d + j) 0 := by
  rw [List.getD_eq_getElem?_getD, List.getD_eq_getElem?_getD, List.getElem?_drop]
/-- the letters' numbers from i on -/
def lyN (s : ByteArray) (i : Nat) : Nat → Nat := fun k => (s.data.toList.getD (i + k) 0).toNat
theorem lyn_c {s : ByteArray} {i q : Nat} (hq : i + q ≤ s.size) : LynAt (s.extract i (i + q)) ↔ LyC (lyN s i) q := by
  have hl : s.data.toList.length = s.size := by simp
  rw [lyn_suf, part_list]
  have hll : ((s.data.toList.drop i).take q).length = q := by rw [List.length_take, List.length_drop, hl]; omega
  have hg : ∀ k, k < q → (((s.data.toList.drop i).take q).getD k 0).toNat = lyN s i k := fun k hk => by
    rw [getD_take _ hk, getD_drop]
    rfl
  generalize (s.data.toList.drop i).take q = l at hll hg
  have hd : ∀ d, d < q → 1 ≤ d → (Op.bytesLess l (l.drop d) = true ↔ ∃ k, d + k < q ∧ (∀ j, j < k → lyN s i j = lyN s i (d + j)) ∧ lyN s i k < lyN s i (d + k)) := fun d h1 h2 => by
    rw [bl_at _ _ (by rw [List.length_drop]; omega), List.length_drop, hll]
    constructor
    · rintro ⟨k, a, b, e⟩
      refine ⟨k, by omega, fun j hj => ?_, ?_⟩
      · have := b j hj
        rwa [getD_drop, hg _ (by omega), hg _ (by omega)] at this
      · rwa [getD_drop, hg _ (by omega), hg _ (by omega)] at e
    · rintro ⟨k, a, b, e⟩
      refine ⟨k, by omega, fun j hj => ?_, ?_⟩
      · rw [getD_drop, hg _ (by omega), hg _ (by omega)]; exact b j hj
      · rw [getD_drop, hg _ (by omega), hg _ (by omega)]; exact e
  constructor
  · rintro ⟨h1, h2⟩
    have := List.length_pos_iff.2 h1
    refine ⟨by omega, fun d d1 d2 => (hd d d2 d1).1 ?_⟩
    have hu : l.take d ≠ [] := fun e => by
      have := congrArg List.length e
      rw [List.length_take, hll, List.length_nil] at this
      omega
    have hv : l.drop d ≠ [] := fun e => by
      have := congrArg List.length e
      rw [List.length_drop, hll, List.length_nil] at this
      omega
    exact h2 (l.take d) (l.drop d) (List.take_append_drop _ _).symm hu hv
  · rintro ⟨h1, h2⟩
    refine ⟨fun e => by rw [e, List.length_nil] at hll; omega, fun u v e hu hv => ?_⟩
    have hul := List.length_pos_iff.2 hu
    have hvl := List.length_pos_iff.2 hv
    have hle : u.length + v.length = q := by rw [← List.length_append, ← e, hll]
    have := (hd u.length (by omega) hul).2 (h2 u.length hul (by omega))
    rwa [show l.drop u.length = v by rw [e, List.drop_left]] at this
/-- what is found is the longest one -/
theorem dv_len {s : ByteArray} {i k p : Nat} (h : DvTo (lyN s i) k p) (hk : i + k ≤ s.size) (he : i + k = s.size ∨ lyN s i k < lyN s i (k - p)) : lyLen s i (s.size - i) = p := by
  obtain ⟨a, b⟩ := lyLen_spec s i (s.size - i)
  have hp1 := h.1
  have hpk := h.2.1
  have hl := lyLen_le s i (s.size - i)
  have h1 : ¬ lyLen s i (s.size - i) < p := fun hlt => b p hlt (by omega) ((lyn_c (by omega)).2 h.2.2.1)
  have h2 : ¬ p < lyLen s i (s.size - i) := fun hlt => by
    refine dv_end h hlt ?_ ((lyn_c (by omega)).1 (a (by omega)))
    rcases he with he | he
    · exact .inl (by omega)
    · exact .inr he
  omega
end Go.Proofs.Ytgfhconcmoepcaa
