/- Texts put together. -/
import Derived.Test.YtcdchieielpahaaMgD6
import Derived.Test.YtcdchieielpahaaMgD5
import Derived.Test.YtcdchieielpahaaMgD3
import Derived.BigQuiet
import Derived.Test.YtcdchieielpahaaMgD4
import Derived.Maps.AppendAt
/- SubstOk of the model, and what it asks of each image. Conditions: lengths of at most 2^20. -/
namespace Go.Proofs.Ytcdchieielpahaa
open Go.RowKit

theorem specIn (x a b : Int) (w : World) :
    Calls Try.prog 39 #[.int .i64 x, .int .i64 a, .int .i64 b] w fun e w' => e = .returned (.bool (decide (a ≤ x) && decide (x ≤ b))) ∧ w = w' := by
  by_cases h1 : a ≤ x
  · have hd1 : decide (a ≤ x) = true := by simpa using h1
    go_enter Try.func39, Try.ntmps39
    go_wp2
    go_ret
    exact ⟨ret_bool (by simp [h1]), rfl⟩
  · have hd1 : decide (a ≤ x) = false := by simpa using h1
    go_enter Try.func39, Try.ntmps39
    go_wp2
    go_ret
    exact ⟨ret_bool (by simp), rfl⟩

end Go.Proofs.Ytcdchieielpahaa

/- Chapter 12 of the model: l11Ok, l11Arc, ReturnTime, CountIn, NearestTo. No condition. -/
namespace Go.Proofs.Ytcdchieielpahaa
open Go.RowKit Go.Lib

set_option maxHeartbeats 1000000 in
theorem specGapOk (p q n : Int) (w : World) :
    Calls Try.prog 31 #[.int .i64 p, .int .i64 q, .int .i64 n] w fun e w' => e = .returned (.bool (gpOk p q n)) ∧ w = w' := by
  cases h1 : (decide (1 ≤ q) && decide (q ≤ 1000))
  · have HV : Hid (gpOk p q n = false) := by show _ = _; unfold gpOk; rw [h1]; rfl
    have H1 := Lib.hid h1
    clear h1
    go_enter Try.func31, Try.ntmps31
    go_wp2_with fail
    refine (specIn _ _ _ _).mono ?_
    rintro e w' ⟨rfl, rfl⟩
    rw [H1.out]
    go_wp2_with fail
    go_ret
    exact ⟨ret_bool HV.out.symm, rfl⟩
  have H1 := Lib.hid h1
  have hqq := h1
  rw [Bool.and_eq_true, decide_eq_true_eq, decide_eq_true_eq] at hqq
  cases h2 : (decide (0 ≤ p) && decide (p ≤ q - 1))
  · have HV : Hid (gpOk p q n = false) := by show _ = _; unfold gpOk; rw [h2, Bool.false_and, Bool.and_false]
    have H2 := Lib.hid h2
    clear h1 h2
    go_enter Try.func31, Try.ntmps31
    go_wp2_with fail
    refine (specIn _ _ _ _).mono ?_
    rintro e w' ⟨rfl, rfl⟩
    rw [H1.out]
    go_wp2_with fail
    refine (specIn _ _ _ _).mono ?_
    rintro e w' ⟨rfl, rfl⟩
    rw [H2.out]
    go_wp2_with fail
    go_ret
    exact ⟨ret_bool HV.out.symm, rfl⟩
  have H2 := Lib.hid h2
  have HV : Hid (gpOk p q n = (decide (1 ≤ n) && decide (n ≤ 400))) := by show _ = _; unfold gpOk; rw [h1, h2]; rfl
  clear h1 h2
  go_enter Try.func31, Try.ntmps31
  go_wp2_with fail
  refine (specIn _ _ _ _).mono ?_
  rintro e w' ⟨rfl, rfl⟩
  rw [H1.out]
  go_wp2_with fail
  refine (specIn _ _ _ _).mono ?_
  rintro e w' ⟨rfl, rfl⟩
  rw [H2.out]
  go_wp2_with fail
  refine (specIn _ _ _ _).mono ?_
  rintro e w' ⟨rfl, rfl⟩
  rw [← HV.out]
  go_wp2_with fail
  go_ret
  exact ⟨rfl, rfl⟩

set_option maxHeartbeats 1000000 in
theorem specArc (p q a b : Int) (w : World) :
    Calls Try.prog 38 #[.int .i64 p, .int .i64 q, .int .i64 a, .int .i64 b] w fun e w' => e = .returned (.bool (arOk p q a b)) ∧ w = w' := by
  cases h1 : (decide (1 ≤ q) && decide (q ≤ 1000))
  · have HV : Hid (arOk p q a b = false) := by show _ = _; unfold arOk; rw [h1]; rfl
    have H1 := Lib.hid h1
    clear h1
    go_enter Try.func38, Try.ntmps38
    go_wp2_with fail
    refine (specIn _ _ _ _).mono ?_
    rintro e w' ⟨rfl, rfl⟩
    rw [H1.out]
    go_wp2_with fail
    go_ret
    exact ⟨ret_bool HV.out.symm, rfl⟩
  have H1 := Lib.hid h1
  have hqq := h1
  rw [Bool.and_eq_true, decide_eq_true_eq, decide_eq_true_eq] at hqq
  cases h2 : (decide (0 ≤ p) && decide (p ≤ q - 1))
  · have HV : Hid (arOk p q a b = false) := by show _ = _; unfold arOk; rw [h2, Bool.false_and, Bool.and_false]
    have H2 := Lib.hid h2
    clear h1 h2
    go_enter Try.func38, Try.ntmps38
    go_wp2_with fail
    refine (specIn _ _ _ _).mono ?_
    rintro e w' ⟨rfl, rfl⟩
    rw [H1.out]
    go_wp2_with fail
    refine (specIn _ _ _ _).mono ?_
    rintro e w' ⟨rfl, rfl⟩
    rw [H2.out]
    go_wp2_with fail
    go_ret
    exact ⟨ret_bool HV.out.symm, rfl⟩
  have H2 := Lib.hid h2
  cases h3 : (decide (0 ≤ a) && decide (a ≤ q - 1))
  · have HV : Hid (arOk p q a b = false) := by show _ = _; unfold arOk; rw [h3, Bool.false_and, Bool.and_false, Bool.and_false]
    have H3 := Lib.hid h3
    clear h1 h2 h3
    go_enter Try.func38, Try.ntmps38
    go_wp2_with fail
    refine (specIn _ _ _ _).mono ?_
    rintro e w' ⟨rfl, rfl⟩
    rw [H1.out]
    go_wp2_with fail
    refine (specIn _ _ _ _).mono ?_
    rintro e w' ⟨rfl, rfl⟩
    rw [H2.out]
    go_wp2_with fail
    refine (specIn _ _ _ _).mono ?_
    rintro e w' ⟨rfl, rfl⟩
    rw [H3.out]
    go_wp2_with fail
    go_ret
    exact ⟨ret_bool HV.out.symm, rfl⟩
  have H3 := Lib.hid h3
  have HV : Hid (arOk p q a b = (decide (0 ≤ b) && decide (b ≤ q - 1))) := by show _ = _; unfold arOk; rw [h1, h2, h3]; rfl
  clear h1 h2 h3
  go_enter Try.func38, Try.ntmps38
  go_wp2_with fail
  refine (specIn _ _ _ _).mono ?_
  rintro e w' ⟨rfl, rfl⟩
  rw [H1.out]
  go_wp2_with fail
  refine (specIn _ _ _ _).mono ?_
  rintro e w' ⟨rfl, rfl⟩
  rw [H2.out]
  go_wp2_with fail
  refine (specIn _ _ _ _).mono ?_
  rintro e w' ⟨rfl, rfl⟩
  rw [H3.out]
  go_wp2_with fail
  refine (specIn _ _ _ _).mono ?_
  rintro e w' ⟨rfl, rfl⟩
  rw [← HV.out]
  go_wp2_with fail
  go_ret
  exact ⟨rfl, rfl⟩

theorem mul_1000 {i p : Int} (h1 : 0 ≤ i) (h2 : i ≤ 1000) (h3 : 0 ≤ p) (h4 : p ≤ 1000) : 0 ≤ i * p ∧ i * p ≤ 1000000 := by
  have a1 : i * p ≤ 1000 * p := Int.mul_le_mul_of_nonneg_right h2 h3
  exact ⟨Int.mul_nonneg h1 h3, by omega⟩
theorem rt_step (p q a b f : Int) (i m : Nat) : (inA p q a b f i = true → rtTo p q a b f i (m + 1) = i) ∧ (inA p q a b f i = false → rtTo p q a b f i (m + 1) = rtTo p q a b f (i + 1) m) :=
  ⟨fun h => if_pos h, fun h => if_neg (by rw [h]; decide)⟩

set_option maxRecDepth 100000 in
set_option maxHeartbeats 1000000 in
theorem specReturnTimeQ (p q a b f : Int) (w : World) :
    Calls Try.prog 22 #[.int .i64 p, .int .i64 q, .int .i64 a, .int .i64 b, .int .i64 f] w fun e w' => e = .returned (.int .i64 (rtT p q a b f)) ∧ w = w' := by
  have HAR := Lib.hid (fun w => specArc p q a b w)
  cases h1 : arOk p q a b
  · have HV : Hid (rtT p q a b f = -1) := if_neg (by unfold rtOkF; rw [h1, Bool.false_and]; decide)
    rw [h1] at HAR
    clear h1
    generalize rtT p q a b f = r at *
    go_enter Try.func22, Try.ntmps22
    go_wp2_with fail
    refine (HAR.out _).mono ?_
    rintro e w' ⟨rfl, rfl⟩
    go_wp2_with fail
    go_ret
    exact ⟨ret_int HV.out.symm, rfl⟩
  rw [h1] at HAR
  have hh := h1
  unfold arOk at hh
  simp only [Bool.and_eq_true, decide_eq_true_eq] at hh
  have hq : 1 ≤ q ∧ q ≤ 1000 := hh.1
  have hp : 0 ≤ p ∧ p ≤ q - 1 := hh.2.1
  clear hh
  cases h2 : (decide (0 ≤ f) && decide (f ≤ q - 1))
  · have HV : Hid (rtT p q a b f = -1) := if_neg (by unfold rtOkF; rw [h2, Bool.and_false]; decide)
    have H2 := Lib.hid h2
    clear h1 h2
    generalize rtT p q a b f = r at *
    go_enter Try.func22, Try.ntmps22
    go_wp2_with fail
    refine (HAR.out _).mono ?_
    rintro e w' ⟨rfl, rfl⟩
    go_wp2_with fail
    refine (specIn _ _ _ _).mono ?_
    rintro e w' ⟨rfl, rfl⟩
    rw [H2.out]
    go_wp2_with fail
    go_ret
    exact ⟨ret_int HV.out.symm, rfl⟩
  have H2 := Lib.hid h2
  have HV : Hid (rtT p q a b f = rtTo p q a b f 1 1000) := if_pos (by unfold rtOkF; rw [h1, h2]; rfl)
  rw [Bool.and_eq_true, decide_eq_true_eq, decide_eq_true_eq] at h2
  have HST := Lib.hid (rt_step p q a b f)
  have H0 : Hid (∀ i, rtTo p q a b f i 0 = -1) := fun i => rfl
  have HIA : Hid (∀ i : Nat, inA p q a b f i = (decide (a ≤ (f + (i : Int) * p) % q) && decide ((f + (i : Int) * p) % q ≤ b))) := fun i => rfl
  clear h1
  generalize rtT p q a b f = r at *
  generalize rtTo p q a b f = T at *
  generalize inA p q a b f = I at *
  go_enter Try.func22, Try.ntmps22
  go_wp2_with fail
  refine (HAR.out _).mono ?_
  rintro e w' ⟨rfl, rfl⟩
  go_wp2_with fail
  refine (specIn _ _ _ _).mono ?_
  rintro e w' ⟨rfl, rfl⟩
  rw [H2.out]
  go_wp2_with fail
  go_loopw [11] (fun iv w' => ∃ i m : Nat, i + m = 1001 ∧ 1 ≤ i ∧ iv = .int .i64 (i : Int) ∧ r = T i m ∧ w = w') (fun iv _ => 1001 - (intOf iv).toNat)
  case atStart => exact ⟨1, 1000, rfl, Nat.le_refl _, rfl, HV.out, rfl⟩
  case round =>
    obtain ⟨i, m, him, hi1, rfl, hr, rfl⟩ := hrel
    have HR := Lib.hid hr
    clear hr
    by_cases hlt : i ≤ 1000
    · obtain ⟨k, rfl⟩ : ∃ k, m = k + 1 := ⟨m - 1, by omega⟩
      have HS := Lib.hid (HST.out i k)
      have HI := Lib.hid (HIA.out i)
      have hm := mul_1000 (i := (i : Int)) (p := p) (by omega) (by omega) (by omega) (by omega)
      have hlt' : (i : Int) ≤ 1000 := by omega
      obtain ⟨z, hz⟩ : ∃ z, z = (i : Int) * p := ⟨_, rfl⟩
      rw [← hz] at hm HI
      have e1 : wrap64 ((i : Int) * p) = z := by rw [← hz]; exact IntWalk.wrap64_in _ (by omega)
      clear hz
      have hq0 : ¬ q = 0 := by omega
      have hb1 : 0 ≤ (f + z) % q := Int.emod_nonneg _ hq0
      have hb2 : (f + z) % q < q := Int.emod_lt_of_pos _ (by omega)
      have htm : (f + z).tmod q = (f + z) % q := Int.tmod_eq_emod_of_nonneg (by omega)
      generalize (f + z) % q = y at *
      cases hc : I i
      · have HN := Lib.hid (HS.out.2 hc)
        rw [hc] at HI
        clear HS hc
        go_wp2_with fail
        refine (specIn _ _ _ _).mono ?_
        rintro e w' ⟨rfl, rfl⟩
        rw [← HI.out]
        go_wp2_with fail
        go_roundw
        case rel => exact ⟨i + 1, k, by omega, by omega, by go_num, by rw [HR.out, HN.out], by trivial⟩
        case measure => simp [intOf]; omega
      · have HN := Lib.hid (HS.out.1 hc)
        rw [hc] at HI
        clear HS hc
        go_wp2_with fail
        refine (specIn _ _ _ _).mono ?_
        rintro e w' ⟨rfl, rfl⟩
        rw [← HI.out]
        go_wp2_with fail
        go_ret
        exact ⟨ret_int (by rw [HR.out, HN.out]), rfl⟩
    · have hlt' : ¬ (i : Int) ≤ 1000 := by omega
      have hm0 : m = 0 := by omega
      subst hm0
      have HN := Lib.hid (H0.out i)
      go_wp2_with fail
      go_ret
      exact ⟨ret_int (by rw [HR.out, HN.out]), rfl⟩

theorem ci_step (p q : Nat) (a b : Int) (k : Nat) : ciTo p q a b (k + 1) = ciTo p q a b k + if (decide (a ≤ (dpN p q k : Int)) && decide ((dpN p q k : Int) ≤ b)) = true then 1 else 0 := rfl
set_option maxRecDepth 100000 in
set_option maxHeartbeats 1000000 in
theorem specCountInQ (p q n a b : Int) (w : World) :
    Calls Try.prog 26 #[.int .i64 p, .int .i64 q, .int .i64 n, .int .i64 a, .int .i64 b] w fun e w' => e = .returned (.int .i64 (ciR p q n a b)) ∧ w = w' := by
  have HOK := Lib.hid (fun w => specGapOk p q n w)
  cases h1 : gpOk p q n
  · have HV : Hid (ciR p q n a b = -1) := if_neg (by rw [h1]; decide)
    rw [h1] at HOK
    clear h1
    generalize ciR p q n a b = r at *
    go_enter Try.func26, Try.ntmps26
    go_wp2_with fail
    refine (HOK.out _).mono ?_
    rintro e w' ⟨rfl, rfl⟩
    go_wp2_with fail
    go_ret
    exact ⟨ret_int HV.out.symm, rfl⟩
  have HV : Hid (ciR p q n a b = (ciTo p.toNat q.toNat a b n.toNat : Int)) := if_pos h1
  rw [h1] at HOK
  obtain ⟨P, Q, N, rfl, rfl, rfl, q1, q2, p1, n1, n2⟩ := gp_parts h1
  rw [Int.toNat_natCast, Int.toNat_natCast, Int.toNat_natCast] at HV
  clear h1
  have HST := Lib.hid (ci_step P Q a b)
  have HLE := Lib.hid (ciTo_le P Q a b)
  have H0 : Hid (ciTo P Q a b 0 = 0) := rfl
  have HDP : Hid (∀ k, dpN P Q k = k * P % Q) := fun k => rfl
  generalize ciR (P : Int) Q N a b = r at *
  generalize ciTo P Q a b = T at *
  generalize dpN P Q = D at *
  go_enter Try.func26, Try.ntmps26
  go_wp2_with fail
  refine (HOK.out _).mono ?_
  rintro e w' ⟨rfl, rfl⟩
  go_wp2_with fail
  go_loopw [11, 12] (fun cv iv w' => ∃ k c : Nat, k ≤ N ∧ c = T k ∧ cv = .int .i64 (c : Int) ∧ iv = .int .i64 (k : Int) ∧ w = w') (fun _ iv _ => N - (intOf iv).toNat)
  case atStart => exact ⟨0, 0, Nat.zero_le _, H0.out.symm, rfl, rfl, rfl⟩
  case round =>
    obtain ⟨k, c, hk, hc, rfl, rfl, rfl⟩ := hrel
    have hcb : c ≤ k := by rw [hc]; exact HLE.out k
    have HC := Lib.hid hc
    clear hc
    by_cases hlt : k < N
    · have hlt' : (k : Int) < (N : Int) := by omega
      have HS := Lib.hid (HST.out k)
      rw [← HC.out] at HS
      have hm := mul_1000 (i := (k : Int)) (p := (P : Int)) (by omega) (by omega) (by omega) (by omega)
      have hdm := HDP.out k
      obtain ⟨z, hz⟩ : ∃ z : Nat, z = k * P := ⟨_, rfl⟩
      have hzi : (z : Int) = (k : Int) * (P : Int) := by rw [hz, Int.natCast_mul]
      rw [← hz] at hdm
      rw [← hzi] at hm
      have e1 : wrap64 ((k : Int) * (P : Int)) = (z : Int) := by rw [← hzi]; exact IntWalk.wrap64_in _ (by omega)
      have hq0 : ¬ (Q : Int) = 0 := by omega
      have hq0' : ¬ Q = 0 := by omega
      have htm : (z : Int).tmod (Q : Int) = (D k : Int) := by rw [hdm]; rfl
      have hem : (z : Int) % (Q : Int) = (D k : Int) := by rw [hdm]; rfl
      have hdb : D k < Q := by rw [hdm]; exact Nat.mod_lt _ (by omega)
      clear hz hzi hdm
      generalize D k = d at *
      cases hx : (decide (a ≤ (d : Int)) && decide ((d : Int) ≤ b))
      · have HX := Lib.hid hx
        rw [hx, if_neg (by decide)] at HS
        clear hx
        go_wp2_with fail
        refine (specIn _ _ _ _).mono ?_
        rintro e w' ⟨rfl, rfl⟩
        rw [HX.out]
        go_wp2_with fail
        go_roundw
        case rel => exact ⟨k + 1, c, by omega, HS.out.symm, rfl, by go_num, by trivial⟩
        case measure => simp [intOf]; omega
      · have HX := Lib.hid hx
        rw [hx, if_pos rfl] at HS
        clear hx
        go_wp2_with fail
        refine (specIn _ _ _ _).mono ?_
        rintro e w' ⟨rfl, rfl⟩
        rw [HX.out]
        go_wp2_with fail
        go_roundw
        case rel => exact ⟨k + 1, c + 1, by omega, HS.out.symm, by go_num, by go_num, by trivial⟩
        case measure => simp [intOf]; omega
    · have hkn : k = N := by omega
      subst hkn
      have hlt' : ¬ (k : Int) < (k : Int) := by omega
      have HR : Hid ((c : Int) = r) := by show _ = _; rw [HV.out, HC.out]
      go_wp2_with fail
      go_ret
      exact ⟨ret_int HR.out, rfl⟩
end Go.Proofs.Ytcdchieielpahaa

/- append of one element that the walk has just laid, and where the new slice lies: so that a row read meanwhile is seen to stay. -/
namespace Go.Proofs.Ytcdchieielpahaa
open Go.RowKit

theorem wpList_append1p {P : Program} (w : World) {ops : Array Oper} {rest : List Oper} {o : Oper} {a : Act} {Q : Exit → Act → World → Prop} (hgd : o.guard = none) (s x : Operand) (t : TypeId)
    (ho : o.op = .call { callee := .builtin .append, args := #[s, x], argTypes := #[t, t] })
    (base : Nat) (e : TypeId) (i : TypeInfo) (z : Value) (bytes : Nat) (ht : P.underlying t = some (.slice e)) (hi : P.info? e = some i) (hz : i.zero = some z)
    (hsize : i.size = 1) (hby : i.bytes = bytes) (hzs : z.cells.size = 1)
    (v : Value) (n : Nat) (xs : List Value) (hs : a.eval s = v) (hown : w.ownsRow base e 1 v n xs)
    (y : Value) (hy : y.oneCell' = true) (hx : a.eval x = .slice (some ⟨w.heap.size, 0, none⟩) 1 1)
    (h63 : n + 1 ≤ maxLen) (hbytes : (n + 1) * bytes ≤ 140737488355328) (hbase : base ≤ w.heap.size)
    (h : ∀ v' w', w'.ownsRow base e 1 v' (n + 1) (xs ++ [y]) → w.grownBy w' v.ownBlock → (v'.ownBlock = v.ownBlock ∨ v'.ownBlock = some (w.heap.size + 1)) → wpList P ops Q rest (a.put o.dst v') w') :
    wpList P ops Q (o :: rest) a (w.alloc (.cells #[y] e)) := by
  refine wpList_append_own_at _ hgd s x t ho base e i z 1 bytes ht hi hz hsize hby hzs (by decide) v n xs hs (hown.alloc _) ⟨w.heap.size, 0, none⟩ 1 1 [y] hx rfl ?_ ?_ h63 hbytes (by simp; omega) ?_
  · intro j u hu
    rcases j with _ | j
    · simp at hu
      subst hu
      rw [Addr.add_lit, World.cell?_alloc_at _ _ _ _ (by simp)]
      rfl
    · simp at hu
  · intro u hu
    simp at hu
    subst hu
    exact hy
  · intro v' w' h1 h2 _ h4
    simp only [World.size_alloc] at h4
    exact h v' w' h1 (grown_trans (World.grownBy_alloc _ _ _) h2) h4
/-- a slice that lies in block B or in none before S -/
def Away (B S : Nat) (v : Value) : Prop := ∀ k, v.ownBlock = some k → k = B ∨ S ≤ k
theorem Away.next {B S : Nat} {v v' : Value} {w : World} (h : Away B S v) (hS : S ≤ w.heap.size) (h2 : v'.ownBlock = v.ownBlock ∨ v'.ownBlock = some (w.heap.size + 1)) : Away B S v' := by
  intro k hk
  rcases h2 with e | e
  · exact h k (by rw [← e]; exact hk)
  · rw [e] at hk
    injection hk with hk
    exact .inr (by omega)
/-- a row that lies between them stays -/
theorem Away.keeps {B S L : Nat} {v : Value} {w w' : World} {e : TypeId} {u : Value} {n : Nat} {xs : List Value} (h : Away B S v) (hg : w.grownBy w' v.ownBlock) (hu : w.ownsRow L e 1 u n xs) (hB : B < L) (hS : ∀ k, u.ownBlock = some k → k < S) : w'.ownsRow L e 1 u n xs := by
  refine own_apart hu hg (fun k hk hk2 => ?_)
  have h1 := (hu.lt k hk).1
  have h2 := hS k hk
  rcases h k hk2 with h3 | h3 <;> omega
end Go.Proofs.Ytcdchieielpahaa

/- What a valid substitution makes of a valid word is a valid word, if it is short enough; applied again and again. No program in it. -/
namespace Go.Proofs.Ytcdchieielpahaa
open Go.RowKit

def stepS (l : List ByteArray) (s : ByteArray) : ByteArray := ⟨(applyL l s.data.toList).toArray⟩
theorem stepS_list (l : List ByteArray) (s : ByteArray) : (stepS l s).data.toList = applyL l s.data.toList := rfl
theorem stepS_size (l : List ByteArray) (s : ByteArray) : (stepS l s).size = (applyL l s.data.toList).length := by
  show (applyL l s.data.toList).toArray.size = _
  simp
theorem all_of_word {s : ByteArray} (h : wordB s = true) : s.data.toList.all isAbcd = true := by
  unfold wordB at h
  rw [Bool.and_eq_true] at h
  exact h.2
theorem applyL_all (p : UInt8 → Bool) {l : List ByteArray} (hp : ∀ k (hk : k < l.length), l[k].data.toList.all p = true) (w : List UInt8) (hw : ∀ c ∈ w, 97 ≤ c.toNat ∧ c.toNat < 97 + l.length) : (applyL l w).all p = true := by
  unfold applyL
  rw [List.all_flatMap, List.all_eq_true]
  intro c hc
  obtain ⟨h1, h2⟩ := hw c hc
  rw [imgOf_at l c (c.toNat - 97) (by omega) (by omega)]
  exact hp _ _
theorem word_mem {s : ByteArray} (h : wordB s = true) {n : Nat} (h2 : withinB n s = true) : ∀ c ∈ s.data.toList, 97 ≤ c.toNat ∧ c.toNat < 97 + n := by
  intro c hc
  have a := List.all_eq_true.1 (all_of_word h) c hc
  have b := List.all_eq_true.1 h2 c hc
  simp [isAbcd] at a b
  omega
theorem step_word {l : List ByteArray} {s : ByteArray} (hl : substB l = true) (hs : wordB s = true) (hw : withinB l.length s = true) (h4 : (applyL l s.data.toList).length ≤ 400) : wordB (stepS l s) = true ∧ withinB l.length (stepS l s) = true := by
  obtain ⟨_, _, hi⟩ := subst_parts hl
  constructor
  · unfold wordB
    rw [stepS_size, decide_eq_true h4, stepS_list, applyL_all isAbcd (fun k hk => all_of_word (img_parts (hi k hk)).2.2.1) _ (word_mem hs hw)]
    rfl
  · exact applyL_all _ (fun k hk => (img_parts (hi k hk)).2.2.2) _ (word_mem hs hw)

/-- what ApplySubst is to return -/
def appOk (l : List ByteArray) (s : ByteArray) : Bool := (substB l && (wordB s && withinB l.length s)) && decide ((applyL l s.data.toList).length ≤ 400)
def appR (l : List ByteArray) (s : ByteArray) : ByteArray := if appOk l s = true then stepS l s else ⟨#[]⟩

def iterS (l : List ByteArray) (s : ByteArray) : Nat → ByteArray
  | 0 => s
  | n + 1 => stepS l (iterS l s n)
def iterOk (l : List ByteArray) (s : ByteArray) : Nat → Bool
  | 0 => true
  | n + 1 => iterOk l s n && decide ((applyL l (iterS l s n).data.toList).length ≤ 400)
theorem iterOk_mono {l : List ByteArray} {s : ByteArray} {k : Nat} (h : iterOk l s k = false) : ∀ n, iterOk l s (k + n) = false
  | 0 => h
  | n + 1 => by
    show (iterOk l s (k + n) && _) = false
    rw [iterOk_mono h n, Bool.false_and]
theorem iter_word {l : List ByteArray} {s : ByteArray} (hl : substB l = true) (hs : wordB s = true) (hw : withinB l.length s = true) : ∀ n, iterOk l s n = true → wordB (iterS l s n) = true ∧ withinB l.length (iterS l s n) = true
  | 0, _ => ⟨hs, hw⟩
  | n + 1, h => by
    have h' : (iterOk l s n && decide ((applyL l (iterS l s n).data.toList).length ≤ 400)) = true := h
    rw [Bool.and_eq_true, decide_eq_true_eq] at h'
    obtain ⟨a, b⟩ := iter_word hl hs hw n h'.1
    exact step_word hl a b h'.2
/-- what IterateSubst is to return -/
def itOk (l : List ByteArray) (s : ByteArray) (n : Int) : Bool := (decide (0 ≤ n) && decide (n ≤ 20)) && ((substB l && (wordB s && withinB l.length s)) && iterOk l s n.toNat)
def itR (l : List ByteArray) (s : ByteArray) (n : Int) : ByteArray := if itOk l s n = true then iterS l s n.toNat else ⟨#[]⟩
def PairSaid (r : ByteArray) (ok : Bool) (w : World) (e : Ending) (w' : World) : Prop := e = .returned (.tuple #[.string r, .bool ok]) ∧ Below w.heap.size w w'
theorem appR_no {l : List ByteArray} {s : ByteArray} (h : appOk l s = false) {w w' : World} (hb : Below w.heap.size w w') : PairSaid (appR l s) (appOk l s) w (.returned (.tuple #[.string ⟨#[]⟩, .bool false])) w' := by
  refine ⟨?_, hb⟩
  have e : appR l s = ⟨#[]⟩ := if_neg (by rw [h]; decide)
  rw [h, e]
theorem itR_no {l : List ByteArray} {s : ByteArray} {n : Int} (h : itOk l s n = false) {w w' : World} (hb : Below w.heap.size w w') : PairSaid (itR l s n) (itOk l s n) w (.returned (.tuple #[.string ⟨#[]⟩, .bool false])) w' := by
  refine ⟨?_, hb⟩
  have e : itR l s n = ⟨#[]⟩ := if_neg (by rw [h]; decide)
  rw [h, e]

theorem img_le {l : List ByteArray} (hl : substB l = true) (c : UInt8) : (imgOf l c).length ≤ 8 := by
  obtain ⟨_, _, hi⟩ := subst_parts hl
  unfold imgOf
  rw [List.getD_eq_getElem?_getD]
  by_cases h : c.toNat - 97 < l.length
  · rw [List.getElem?_eq_getElem h]
    have := (img_parts (hi _ h)).2.1
    simpa using this
  · rw [List.getElem?_eq_none (by omega)]
    simp
theorem applyL_le {l : List ByteArray} (hl : substB l = true) : ∀ w : List UInt8, (applyL l w).length ≤ 8 * w.length
  | [] => by simp [applyL]
  | c :: w => by
    have h1 := img_le hl c
    have h2 := applyL_le hl w
    unfold applyL at h2 ⊢
    rw [List.flatMap_cons, List.length_append, List.length_cons]
    omega
/-- what ComposeSubst is to return -/
def compR (l m : List ByteArray) : List ByteArray := l.map (stepS m)
def compOk (l m : List ByteArray) : Bool := (substB l && (substB m && decide (l.length = m.length))) && substB (compR l m)
def compSub (l m : List ByteArray) : List ByteArray := if compOk l m = true then compR l m else []
theorem compSub_le (l m : List ByteArray) : (compSub l m).length ≤ 4 := by
  unfold compSub; split
  · rename_i h
    unfold compOk at h
    rw [Bool.and_eq_true] at h
    exact (subst_parts h.2).2.1
  · simp
theorem compR_succ (l m : List ByteArray) (k : Nat) (hk : k < l.length) : strs (compR (l.take (k + 1)) m) = strs (compR (l.take k) m) ++ [.string (stepS m l[k])] := by
  unfold compR
  rw [List.take_succ_eq_append_getElem hk, List.map_append, List.map_cons, List.map_nil, strs_snoc]
theorem compR_small {l m : List ByteArray} (hl : substB l = true) (hm : substB m = true) : ∀ x ∈ compR l m, x.size ≤ 1048576 := by
  intro x hx
  obtain ⟨y, hy, rfl⟩ := List.mem_map.1 hx
  obtain ⟨k, hk, rfl⟩ := List.mem_iff_getElem.1 hy
  have h1 := (img_parts ((subst_parts hl).2.2 k hk)).2.1
  have h2 := applyL_le hm l[k].data.toList
  rw [stepS_size]
  have : l[k].data.toList.length = l[k].size := by simp
  omega
end Go.Proofs.Ytcdchieielpahaa
