/- Texts put together. -/
import Derived.Test.YtcdchieielpahaaMgC8
import Derived.Test.YtcdchieielpahaaMgC6
import Derived.Test.YtcdchieielpahaaMgC5
import Derived.BigQuiet
import Derived.OwnWalk
import Derived.Lib.SmallJoins
import Derived.Deep.RegionWith
/- SubstOk of the model, and what it asks of each image. Conditions: lengths of at most 2^20. -/
namespace Go.Proofs.Ytcdchieielpahaa
open Go.RowKit

theorem specIn (x a b : Int) (w : World) :
    Calls Try.prog 39 #[.int .i64 x, .int .i64 a, .int .i64 b] w fun e w' => e = .returned (.bool (decide (a ≤ x) && decide (x ≤ b))) ∧ w = w' := by
  by_cases h1 : a ≤ x
  · have hd1 : decide (a ≤ x) = true := by simpa using h1
    go_enter Try.func39, Try.ntmps39
    go_wp2
    go_ret
    exact ⟨ret_bool (by simp [h1]), rfl⟩
  · have hd1 : decide (a ≤ x) = false := by simpa using h1
    go_enter Try.func39, Try.ntmps39
    go_wp2
    go_ret
    exact ⟨ret_bool (by simp), rfl⟩

end Go.Proofs.Ytcdchieielpahaa

/- Chapter 12 of the model: l11Ok, l11Arc, ReturnTime, CountIn, NearestTo. No condition. -/
namespace Go.Proofs.Ytcdchieielpahaa
open Go.RowKit Go.Lib

set_option maxHeartbeats 1000000 in
theorem specGapOk (p q n : Int) (w : World) :
    Calls Try.prog 31 #[.int .i64 p, .int .i64 q, .int .i64 n] w fun e w' => e = .returned (.bool (gpOk p q n)) ∧ w = w' := by
  cases h1 : (decide (1 ≤ q) && decide (q ≤ 1000))
  · have HV : Hid (gpOk p q n = false) := by show _ = _; unfold gpOk; rw [h1]; rfl
    have H1 := Lib.hid h1
    clear h1
    go_enter Try.func31, Try.ntmps31
    go_wp2_with fail
    refine (specIn _ _ _ _).mono ?_
    rintro e w' ⟨rfl, rfl⟩
    rw [H1.out]
    go_wp2_with fail
    go_ret
    exact ⟨ret_bool HV.out.symm, rfl⟩
  have H1 := Lib.hid h1
  have hqq := h1
  rw [Bool.and_eq_true, decide_eq_true_eq, decide_eq_true_eq] at hqq
  cases h2 : (decide (0 ≤ p) && decide (p ≤ q - 1))
  · have HV : Hid (gpOk p q n = false) := by show _ = _; unfold gpOk; rw [h2, Bool.false_and, Bool.and_false]
    have H2 := Lib.hid h2
    clear h1 h2
    go_enter Try.func31, Try.ntmps31
    go_wp2_with fail
    refine (specIn _ _ _ _).mono ?_
    rintro e w' ⟨rfl, rfl⟩
    rw [H1.out]
    go_wp2_with fail
    refine (specIn _ _ _ _).mono ?_
    rintro e w' ⟨rfl, rfl⟩
    rw [H2.out]
    go_wp2_with fail
    go_ret
    exact ⟨ret_bool HV.out.symm, rfl⟩
  have H2 := Lib.hid h2
  have HV : Hid (gpOk p q n = (decide (1 ≤ n) && decide (n ≤ 400))) := by show _ = _; unfold gpOk; rw [h1, h2]; rfl
  clear h1 h2
  go_enter Try.func31, Try.ntmps31
  go_wp2_with fail
  refine (specIn _ _ _ _).mono ?_
  rintro e w' ⟨rfl, rfl⟩
  rw [H1.out]
  go_wp2_with fail
  refine (specIn _ _ _ _).mono ?_
  rintro e w' ⟨rfl, rfl⟩
  rw [H2.out]
  go_wp2_with fail
  refine (specIn _ _ _ _).mono ?_
  rintro e w' ⟨rfl, rfl⟩
  rw [← HV.out]
  go_wp2_with fail
  go_ret
  exact ⟨rfl, rfl⟩

set_option maxHeartbeats 1000000 in
theorem specArc (p q a b : Int) (w : World) :
    Calls Try.prog 38 #[.int .i64 p, .int .i64 q, .int .i64 a, .int .i64 b] w fun e w' => e = .returned (.bool (arOk p q a b)) ∧ w = w' := by
  cases h1 : (decide (1 ≤ q) && decide (q ≤ 1000))
  · have HV : Hid (arOk p q a b = false) := by show _ = _; unfold arOk; rw [h1]; rfl
    have H1 := Lib.hid h1
    clear h1
    go_enter Try.func38, Try.ntmps38
    go_wp2_with fail
    refine (specIn _ _ _ _).mono ?_
    rintro e w' ⟨rfl, rfl⟩
    rw [H1.out]
    go_wp2_with fail
    go_ret
    exact ⟨ret_bool HV.out.symm, rfl⟩
  have H1 := Lib.hid h1
  have hqq := h1
  rw [Bool.and_eq_true, decide_eq_true_eq, decide_eq_true_eq] at hqq
  cases h2 : (decide (0 ≤ p) && decide (p ≤ q - 1))
  · have HV : Hid (arOk p q a b = false) := by show _ = _; unfold arOk; rw [h2, Bool.false_and, Bool.and_false]
    have H2 := Lib.hid h2
    clear h1 h2
    go_enter Try.func38, Try.ntmps38
    go_wp2_with fail
    refine (specIn _ _ _ _).mono ?_
    rintro e w' ⟨rfl, rfl⟩
    rw [H1.out]
    go_wp2_with fail
    refine (specIn _ _ _ _).mono ?_
    rintro e w' ⟨rfl, rfl⟩
    rw [H2.out]
    go_wp2_with fail
    go_ret
    exact ⟨ret_bool HV.out.symm, rfl⟩
  have H2 := Lib.hid h2
  cases h3 : (decide (0 ≤ a) && decide (a ≤ q - 1))
  · have HV : Hid (arOk p q a b = false) := by show _ = _; unfold arOk; rw [h3, Bool.false_and, Bool.and_false, Bool.and_false]
    have H3 := Lib.hid h3
    clear h1 h2 h3
    go_enter Try.func38, Try.ntmps38
    go_wp2_with fail
    refine (specIn _ _ _ _).mono ?_
    rintro e w' ⟨rfl, rfl⟩
    rw [H1.out]
    go_wp2_with fail
    refine (specIn _ _ _ _).mono ?_
    rintro e w' ⟨rfl, rfl⟩
    rw [H2.out]
    go_wp2_with fail
    refine (specIn _ _ _ _).mono ?_
    rintro e w' ⟨rfl, rfl⟩
    rw [H3.out]
    go_wp2_with fail
    go_ret
    exact ⟨ret_bool HV.out.symm, rfl⟩
  have H3 := Lib.hid h3
  have HV : Hid (arOk p q a b = (decide (0 ≤ b) && decide (b ≤ q - 1))) := by show _ = _; unfold arOk; rw [h1, h2, h3]; rfl
  clear h1 h2 h3
  go_enter Try.func38, Try.ntmps38
  go_wp2_with fail
  refine (specIn _ _ _ _).mono ?_
  rintro e w' ⟨rfl, rfl⟩
  rw [H1.out]
  go_wp2_with fail
  refine (specIn _ _ _ _).mono ?_
  rintro e w' ⟨rfl, rfl⟩
  rw [H2.out]
  go_wp2_with fail
  refine (specIn _ _ _ _).mono ?_
  rintro e w' ⟨rfl, rfl⟩
  rw [H3.out]
  go_wp2_with fail
  refine (specIn _ _ _ _).mono ?_
  rintro e w' ⟨rfl, rfl⟩
  rw [← HV.out]
  go_wp2_with fail
  go_ret
  exact ⟨rfl, rfl⟩

theorem mul_1000 {i p : Int} (h1 : 0 ≤ i) (h2 : i ≤ 1000) (h3 : 0 ≤ p) (h4 : p ≤ 1000) : 0 ≤ i * p ∧ i * p ≤ 1000000 := by
  have a1 : i * p ≤ 1000 * p := Int.mul_le_mul_of_nonneg_right h2 h3
  exact ⟨Int.mul_nonneg h1 h3, by omega⟩
theorem rt_step (p q a b f : Int) (i m : Nat) : (inA p q a b f i = true → rtTo p q a b f i (m + 1) = i) ∧ (inA p q a b f i = false → rtTo p q a b f i (m + 1) = rtTo p q a b f (i + 1) m) :=
  ⟨fun h => if_pos h, fun h => if_neg (by rw [h]; decide)⟩

set_option maxRecDepth 100000 in
set_option maxHeartbeats 1000000 in
theorem specReturnTimeQ (p q a b f : Int) (w : World) :
    Calls Try.prog 22 #[.int .i64 p, .int .i64 q, .int .i64 a, .int .i64 b, .int .i64 f] w fun e w' => e = .returned (.int .i64 (rtT p q a b f)) ∧ w = w' := by
  have HAR := Lib.hid (fun w => specArc p q a b w)
  cases h1 : arOk p q a b
  · have HV : Hid (rtT p q a b f = -1) := if_neg (by unfold rtOkF; rw [h1, Bool.false_and]; decide)
    rw [h1] at HAR
    clear h1
    generalize rtT p q a b f = r at *
    go_enter Try.func22, Try.ntmps22
    go_wp2_with fail
    refine (HAR.out _).mono ?_
    rintro e w' ⟨rfl, rfl⟩
    go_wp2_with fail
    go_ret
    exact ⟨ret_int HV.out.symm, rfl⟩
  rw [h1] at HAR
  have hh := h1
  unfold arOk at hh
  simp only [Bool.and_eq_true, decide_eq_true_eq] at hh
  have hq : 1 ≤ q ∧ q ≤ 1000 := hh.1
  have hp : 0 ≤ p ∧ p ≤ q - 1 := hh.2.1
  clear hh
  cases h2 : (decide (0 ≤ f) && decide (f ≤ q - 1))
  · have HV : Hid (rtT p q a b f = -1) := if_neg (by unfold rtOkF; rw [h2, Bool.and_false]; decide)
    have H2 := Lib.hid h2
    clear h1 h2
    generalize rtT p q a b f = r at *
    go_enter Try.func22, Try.ntmps22
    go_wp2_with fail
    refine (HAR.out _).mono ?_
    rintro e w' ⟨rfl, rfl⟩
    go_wp2_with fail
    refine (specIn _ _ _ _).mono ?_
    rintro e w' ⟨rfl, rfl⟩
    rw [H2.out]
    go_wp2_with fail
    go_ret
    exact ⟨ret_int HV.out.symm, rfl⟩
  have H2 := Lib.hid h2
  have HV : Hid (rtT p q a b f = rtTo p q a b f 1 1000) := if_pos (by unfold rtOkF; rw [h1, h2]; rfl)
  rw [Bool.and_eq_true, decide_eq_true_eq, decide_eq_true_eq] at h2
  have HST := Lib.hid (rt_step p q a b f)
  have H0 : Hid (∀ i, rtTo p q a b f i 0 = -1) := fun i => rfl
  have HIA : Hid (∀ i : Nat, inA p q a b f i = (decide (a ≤ (f + (i : Int) * p) % q) && decide ((f + (i : Int) * p) % q ≤ b))) := fun i => rfl
  clear h1
  generalize rtT p q a b f = r at *
  generalize rtTo p q a b f = T at *
  generalize inA p q a b f = I at *
  go_enter Try.func22, Try.ntmps22
  go_wp2_with fail
  refine (HAR.out _).mono ?_
  rintro e w' ⟨rfl, rfl⟩
  go_wp2_with fail
  refine (specIn _ _ _ _).mono ?_
  rintro e w' ⟨rfl, rfl⟩
  rw [H2.out]
  go_wp2_with fail
  go_loopw [11] (fun iv w' => ∃ i m : Nat, i + m = 1001 ∧ 1 ≤ i ∧ iv = .int .i64 (i : Int) ∧ r = T i m ∧ w = w') (fun iv _ => 1001 - (intOf iv).toNat)
  case atStart => exact ⟨1, 1000, rfl, Nat.le_refl _, rfl, HV.out, rfl⟩
  case round =>
    obtain ⟨i, m, him, hi1, rfl, hr, rfl⟩ := hrel
    have HR := Lib.hid hr
    clear hr
    by_cases hlt : i ≤ 1000
    · obtain ⟨k, rfl⟩ : ∃ k, m = k + 1 := ⟨m - 1, by omega⟩
      have HS := Lib.hid (HST.out i k)
      have HI := Lib.hid (HIA.out i)
      have hm := mul_1000 (i := (i : Int)) (p := p) (by omega) (by omega) (by omega) (by omega)
      have hlt' : (i : Int) ≤ 1000 := by omega
      obtain ⟨z, hz⟩ : ∃ z, z = (i : Int) * p := ⟨_, rfl⟩
      rw [← hz] at hm HI
      have e1 : wrap64 ((i : Int) * p) = z := by rw [← hz]; exact IntWalk.wrap64_in _ (by omega)
      clear hz
      have hq0 : ¬ q = 0 := by omega
      have hb1 : 0 ≤ (f + z) % q := Int.emod_nonneg _ hq0
      have hb2 : (f + z) % q < q := Int.emod_lt_of_pos _ (by omega)
      have htm : (f + z).tmod q = (f + z) % q := Int.tmod_eq_emod_of_nonneg (by omega)
      generalize (f + z) % q = y at *
      cases hc : I i
      · have HN := Lib.hid (HS.out.2 hc)
        rw [hc] at HI
        clear HS hc
        go_wp2_with fail
        refine (specIn _ _ _ _).mono ?_
        rintro e w' ⟨rfl, rfl⟩
        rw [← HI.out]
        go_wp2_with fail
        go_roundw
        case rel => exact ⟨i + 1, k, by omega, by omega, by go_num, by rw [HR.out, HN.out], by trivial⟩
        case measure => simp [intOf]; omega
      · have HN := Lib.hid (HS.out.1 hc)
        rw [hc] at HI
        clear HS hc
        go_wp2_with fail
        refine (specIn _ _ _ _).mono ?_
        rintro e w' ⟨rfl, rfl⟩
        rw [← HI.out]
        go_wp2_with fail
        go_ret
        exact ⟨ret_int (by rw [HR.out, HN.out]), rfl⟩
    · have hlt' : ¬ (i : Int) ≤ 1000 := by omega
      have hm0 : m = 0 := by omega
      subst hm0
      have HN := Lib.hid (H0.out i)
      go_wp2_with fail
      go_ret
      exact ⟨ret_int (by rw [HR.out, HN.out]), rfl⟩

theorem ci_step (p q : Nat) (a b : Int) (k : Nat) : ciTo p q a b (k + 1) = ciTo p q a b k + if (decide (a ≤ (dpN p q k : Int)) && decide ((dpN p q k : Int) ≤ b)) = true then 1 else 0 := rfl
set_option maxRecDepth 100000 in
set_option maxHeartbeats 1000000 in
theorem specCountInQ (p q n a b : Int) (w : World) :
    Calls Try.prog 26 #[.int .i64 p, .int .i64 q, .int .i64 n, .int .i64 a, .int .i64 b] w fun e w' => e = .returned (.int .i64 (ciR p q n a b)) ∧ w = w' := by
  have HOK := Lib.hid (fun w => specGapOk p q n w)
  cases h1 : gpOk p q n
  · have HV : Hid (ciR p q n a b = -1) := if_neg (by rw [h1]; decide)
    rw [h1] at HOK
    clear h1
    generalize ciR p q n a b = r at *
    go_enter Try.func26, Try.ntmps26
    go_wp2_with fail
    refine (HOK.out _).mono ?_
    rintro e w' ⟨rfl, rfl⟩
    go_wp2_with fail
    go_ret
    exact ⟨ret_int HV.out.symm, rfl⟩
  have HV : Hid (ciR p q n a b = (ciTo p.toNat q.toNat a b n.toNat : Int)) := if_pos h1
  rw [h1] at HOK
  obtain ⟨P, Q, N, rfl, rfl, rfl, q1, q2, p1, n1, n2⟩ := gp_parts h1
  rw [Int.toNat_natCast, Int.toNat_natCast, Int.toNat_natCast] at HV
  clear h1
  have HST := Lib.hid (ci_step P Q a b)
  have HLE := Lib.hid (ciTo_le P Q a b)
  have H0 : Hid (ciTo P Q a b 0 = 0) := rfl
  have HDP : Hid (∀ k, dpN P Q k = k * P % Q) := fun k => rfl
  generalize ciR (P : Int) Q N a b = r at *
  generalize ciTo P Q a b = T at *
  generalize dpN P Q = D at *
  go_enter Try.func26, Try.ntmps26
  go_wp2_with fail
  refine (HOK.out _).mono ?_
  rintro e w' ⟨rfl, rfl⟩
  go_wp2_with fail
  go_loopw [11, 12] (fun cv iv w' => ∃ k c : Nat, k ≤ N ∧ c = T k ∧ cv = .int .i64 (c : Int) ∧ iv = .int .i64 (k : Int) ∧ w = w') (fun _ iv _ => N - (intOf iv).toNat)
  case atStart => exact ⟨0, 0, Nat.zero_le _, H0.out.symm, rfl, rfl, rfl⟩
  case round =>
    obtain ⟨k, c, hk, hc, rfl, rfl, rfl⟩ := hrel
    have hcb : c ≤ k := by rw [hc]; exact HLE.out k
    have HC := Lib.hid hc
    clear hc
    by_cases hlt : k < N
    · have hlt' : (k : Int) < (N : Int) := by omega
      have HS := Lib.hid (HST.out k)
      rw [← HC.out] at HS
      have hm := mul_1000 (i := (k : Int)) (p := (P : Int)) (by omega) (by omega) (by omega) (by omega)
      have hdm := HDP.out k
      obtain ⟨z, hz⟩ : ∃ z : Nat, z = k * P := ⟨_, rfl⟩
      have hzi : (z : Int) = (k : Int) * (P : Int) := by rw [hz, Int.natCast_mul]
      rw [← hz] at hdm
      rw [← hzi] at hm
      have e1 : wrap64 ((k : Int) * (P : Int)) = (z : Int) := by rw [← hzi]; exact IntWalk.wrap64_in _ (by omega)
      have hq0 : ¬ (Q : Int) = 0 := by omega
      have hq0' : ¬ Q = 0 := by omega
      have htm : (z : Int).tmod (Q : Int) = (D k : Int) := by rw [hdm]; rfl
      have hem : (z : Int) % (Q : Int) = (D k : Int) := by rw [hdm]; rfl
      have hdb : D k < Q := by rw [hdm]; exact Nat.mod_lt _ (by omega)
      clear hz hzi hdm
      generalize D k = d at *
      cases hx : (decide (a ≤ (d : Int)) && decide ((d : Int) ≤ b))
      · have HX := Lib.hid hx
        rw [hx, if_neg (by decide)] at HS
        clear hx
        go_wp2_with fail
        refine (specIn _ _ _ _).mono ?_
        rintro e w' ⟨rfl, rfl⟩
        rw [HX.out]
        go_wp2_with fail
        go_roundw
        case rel => exact ⟨k + 1, c, by omega, HS.out.symm, rfl, by go_num, by trivial⟩
        case measure => simp [intOf]; omega
      · have HX := Lib.hid hx
        rw [hx, if_pos rfl] at HS
        clear hx
        go_wp2_with fail
        refine (specIn _ _ _ _).mono ?_
        rintro e w' ⟨rfl, rfl⟩
        rw [HX.out]
        go_wp2_with fail
        go_roundw
        case rel => exact ⟨k + 1, c + 1, by omega, HS.out.symm, by go_num, by go_num, by trivial⟩
        case measure => simp [intOf]; omega
    · have hkn : k = N := by omega
      subst hkn
      have hlt' : ¬ (k : Int) < (k : Int) := by omega
      have HR : Hid ((c : Int) = r) := by show _ = _; rw [HV.out, HC.out]
      go_wp2_with fail
      go_ret
      exact ⟨ret_int HR.out, rfl⟩
end Go.Proofs.Ytcdchieielpahaa

/- The laws' helpers on an argument that is a slice of ints: szIntS bounds it, toIntS copies it; and the argument opened to the list that it holds. -/
namespace Go.Proofs.Ytcdchieielpahaa
open Go.ChangeShapes Go.WideShapes Go.RowKit

theorem cellsOf_int : Try.prog.cellsOf 3 = 1 := by kernel_rfl
/-- a slice of ints that came in, opened -/
theorem ints_cell {H : Type} {enc : TypeId × Value → H} {P : Program} {w : World} {base fuel : Nat} {t e : TypeId} {v : Value} {y : DataW H × List MemPlace} (ht : P.underlying t = some (.slice e)) (he : P.underlying e = some (.int .i64)) (hc : P.cellsOf e = 1)
    (hf : DataW.trod enc P w base (fun _ => true) true fuel t [v] = some y) : ∃ l : List Int, Lst w v (ints l) ∧ ∀ z ∈ l, (Lit.int .i64 z).wf = true := by
  obtain ⟨A, ln, cp, hv⟩ := Joins.slice_form ht hf
  injection hv with hv _
  subst hv
  rcases open_ints ht he hc hf with ⟨hcs, _⟩ | ⟨a, len, cap, ss, hcs, _, hl, hm, hlen, _, hcell, hwf⟩
  · simp at hcs
    obtain ⟨rfl, rfl, rfl⟩ := hcs
    exact ⟨[], ⟨none, 0, by simp [ints], by simp [ints], by simp [maxLen], .inl rfl⟩, by simp⟩
  · simp at hcs
    obtain ⟨rfl, rfl, rfl⟩ := hcs
    simp at hlen
    refine ⟨ss.take ln, ?_, fun z hz => hwf z (List.mem_of_mem_take hz)⟩
    refine ⟨some a, cp, by simp [ints, hlen, Nat.min_eq_left hl], by simp [ints, hlen]; omega, hm, ?_⟩
    by_cases h0 : ln = 0
    · subst h0
      exact .inl (by simp [ints])
    · obtain ⟨b, off, spot⟩ := a
      have h1 := hcell 0 (by omega)
      have hspot : spot = none := by simpa [Addr.add] using World.cell?_spot h1
      subst hspot
      refine .inr ⟨b, off, rfl, fun i u hu => ?_⟩
      have hi : i < ln := by
        have := (List.getElem?_eq_some_iff.1 hu).1
        simp [ints, hlen] at this
        omega
      have h2 := hcell i (by omega)
      rw [Addr.add_lit] at h2
      rw [h2]
      simp [ints, hi] at hu
      obtain ⟨x, hx, rfl⟩ := hu
      simp [List.getD, hx]

def szI (left : Int) (n : Nat) : Int := if left < n then -1 else left - n
end Go.Proofs.Ytcdchieielpahaa

/- Slices of slices of ints: what they read as; eqIntSS. -/
namespace Go.Proofs.Ytcdchieielpahaa
open Go.RowKit

/-- v is a slice whose elements are slices that read as the rows of m -/
def Mat (w : World) (v : Value) (m : List (List Int)) : Prop :=
  ∃ vs : List Value, Lst w v vs ∧ vs.length = m.length ∧ ∀ i (h : i < vs.length) (h' : i < m.length), Lst w vs[i] (ints m[i])
theorem Mat.below {w w' : World} {v : Value} {m : List (List Int)} (h : Mat w v m) (hb : Below w.heap.size w w') : Mat w' v m := by
  obtain ⟨vs, h1, h2, h3⟩ := h
  exact ⟨vs, h1.below hb, h2, fun i a b => (h3 i a b).below hb⟩
theorem Mat.drewN {w : World} {v : Value} {m : List (List Int)} (h : Mat w v m) (n : Nat) : Mat (w.drewN n) v m := h
theorem mat_slice {w : World} {v : Value} {m : List (List Int)} (h : Mat w v m) : ∃ A cap, v = .slice A m.length cap := by
  obtain ⟨vs, h1, h2, _⟩ := h
  obtain ⟨A, cap, e⟩ := lst_slice h1
  exact ⟨A, cap, by rw [e, h2]⟩
/-- the rows of a matrix in memory -/
theorem mat_rows {w : World} {v : Value} {m : List (List Int)} (h : Mat w v m) (h0 : 0 < m.length) : ∃ b off cap, v = .slice (some ⟨b, off, none⟩) m.length cap ∧ m.length ≤ cap ∧ cap ≤ maxLen ∧ ∀ k (hk : k < m.length), ∃ u, w.cell? ⟨b, off + k, none⟩ = some u ∧ Lst w u (ints m[k]) := by
  obtain ⟨vs, ⟨A, cap, e, hc1, hc2, h2⟩, h3, h4⟩ := h
  rcases h2 with h2 | ⟨b, off, rfl, h2⟩
  · rw [h2] at h3
    simp only [List.length_nil] at h3
    omega
  · refine ⟨b, off, cap, by rw [e, h3], by omega, hc2, fun k hk => ?_⟩
    have hk' : k < vs.length := by omega
    exact ⟨vs[k], h2 k _ (List.getElem?_eq_getElem hk'), h4 k hk' hk⟩

end Go.Proofs.Ytcdchieielpahaa
