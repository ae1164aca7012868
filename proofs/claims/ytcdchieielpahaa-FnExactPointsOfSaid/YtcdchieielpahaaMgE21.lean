/- Texts put together. -/
import Derived.Test.YtcdchieielpahaaMgE9
import Derived.Test.YtcdchieielpahaaMgE11
import Derived.Test.YtcdchieielpahaaMgE20
import Derived.Test.YtcdchieielpahaaMgE18
import Derived.BigQuiet
import Derived.Test.YtcdchieielpahaaMgE12
import Derived.Test.YtcdchieielpahaaMgE10
/- Chapter 12 of the model: NearestTo, PointsOf, GapsOf. No condition. -/
namespace Go.Proofs.Ytcdchieielpahaa
open Go.RowKit Go.Lib

theorem nr_step (p q k : Nat) : nrTo p q (k + 1) = (if dpN p q (k + 1) < dpN p q (nrTo p q k).1 then k + 1 else (nrTo p q k).1, if dpN p q (nrTo p q k).2 < dpN p q (k + 1) then k + 1 else (nrTo p q k).2) := rfl
theorem gp_of {P Q N : Nat} (h : gpOk P Q N = true) : 1 ≤ Q ∧ Q ≤ 1000 ∧ P < Q ∧ 1 ≤ N ∧ N ≤ 400 := by
  obtain ⟨p, q, n, h1, h2, h3, h4⟩ := gp_parts h
  omega
/-- a multiple as the walk reckons it -/
theorem mul_at {P Q : Nat} (k : Nat) (hk : k ≤ 1000) (hP : P ≤ 1000) (hQ : 1 ≤ Q) : ∃ z : Nat, (z : Int) = (k : Int) * (P : Int) ∧ z ≤ 1000000 ∧ (z : Int).tmod (Q : Int) = (dpN P Q k : Int) ∧ (z : Int) % (Q : Int) = (dpN P Q k : Int) ∧ dpN P Q k < Q := by
  refine ⟨k * P, Int.natCast_mul _ _, ?_, rfl, rfl, dp_lt hQ k⟩
  exact Nat.le_trans (Nat.mul_le_mul hk hP) (by omega)

set_option maxRecDepth 100000 in
set_option maxHeartbeats 2000000 in
theorem specNearestTo (p q n : Int) (w : World) :
    Calls Try.prog 20 #[.int .i64 p, .int .i64 q, .int .i64 n] w fun e w' => e = .returned (.tuple #[.int .i64 (nrA p q n), .int .i64 (nrB p q n)]) ∧ Below w.heap.size w w' := by
  have HOK := Lib.hid (fun w => specGapOk p q n w)
  cases h1 : gpOk p q n
  · have HA : Hid (nrA p q n = -1) := if_neg (by unfold nrOk; rw [h1, Bool.false_and]; decide)
    have HB : Hid (nrB p q n = -1) := if_neg (by unfold nrOk; rw [h1, Bool.false_and]; decide)
    rw [h1] at HOK
    clear h1
    generalize nrA p q n = a at *
    generalize nrB p q n = b at *
    go_enter Try.func20, Try.ntmps20
    go_wp2_with fail
    refine (HOK.out _).mono ?_
    rintro e w' ⟨rfl, rfl⟩
    go_wp2_with fail
    go_ret2
    exact ⟨by rw [HA.out, HB.out]; rfl, Below.refl _ _⟩
  by_cases hn1 : n = 1
  · have HA : Hid (nrA p q n = -1) := if_neg (by unfold nrOk; rw [h1, beq_iff_eq.2 hn1]; decide)
    have HB : Hid (nrB p q n = -1) := if_neg (by unfold nrOk; rw [h1, beq_iff_eq.2 hn1]; decide)
    have d1 : (n == 1) = true := beq_iff_eq.2 hn1
    rw [h1] at HOK
    clear h1 hn1
    generalize nrA p q n = a at *
    generalize nrB p q n = b at *
    go_enter Try.func20, Try.ntmps20
    go_wp2_with fail
    refine (HOK.out _).mono ?_
    rintro e w' ⟨rfl, rfl⟩
    go_wp2_with fail
    go_ret2
    exact ⟨by rw [HA.out, HB.out]; rfl, Below.refl _ _⟩
  have HA : Hid (nrA p q n = ((nrTo p.toNat q.toNat (n.toNat - 1)).1 : Int)) := if_pos (by unfold nrOk; rw [h1, beq_eq_false_iff_ne.2 hn1]; rfl)
  have HB : Hid (nrB p q n = ((nrTo p.toNat q.toNat (n.toNat - 1)).2 : Int)) := if_pos (by unfold nrOk; rw [h1, beq_eq_false_iff_ne.2 hn1]; rfl)
  have d1 : (n == 1) = false := beq_eq_false_iff_ne.2 hn1
  rw [h1] at HOK
  obtain ⟨P, Q, N, rfl, rfl, rfl, q1, q2, p1, n1, n2⟩ := gp_parts h1
  rw [Int.toNat_natCast, Int.toNat_natCast, Int.toNat_natCast] at HA HB
  clear h1
  have hN2 : 2 ≤ N := by omega
  have HST := Lib.hid (nr_step P Q)
  have HLE := Lib.hid (nrTo_le P Q)
  have H0 : Hid (nrTo P Q 0 = (1, 1)) := rfl
  have HMU := Lib.hid (fun k (hk : k ≤ 1000) => mul_at (P := P) (Q := Q) k hk (by omega) q1)
  clear hn1
  generalize nrA (P : Int) Q N = ra at *
  generalize nrB (P : Int) Q N = rb at *
  generalize nrTo P Q = T at *
  generalize dpN P Q = D at *
  go_enter Try.func20, Try.ntmps20
  go_wp2_with fail
  refine (HOK.out _).mono ?_
  rintro e w' ⟨rfl, rfl⟩
  go_wp2_with fail
  go_loopw [8, 9, 10] (fun av bv iv w' => ∃ k a b : Nat, k ≤ N - 1 ∧ a = (T k).1 ∧ b = (T k).2 ∧ av = .int .i64 (a : Int) ∧ bv = .int .i64 (b : Int) ∧ iv = .int .i64 ((k : Int) + 1) ∧ Below w.heap.size w w') (fun _ _ iv _ => N + 1 - (intOf iv).toNat)
  case atStart => exact ⟨0, 1, 1, by omega, by rw [H0.out], by rw [H0.out], rfl, rfl, rfl, Below.refl _ _⟩
  case round =>
    obtain ⟨k, a, b, hk, ha, hb, rfl, rfl, rfl, hbw⟩ := hrel
    obtain ⟨⟨l1, l2⟩, l3, l4⟩ := HLE.out k
    rw [← ha] at l1 l2
    rw [← hb] at l3 l4
    have HAA := Lib.hid ha
    have HBB := Lib.hid hb
    have HBW := Lib.hid hbw
    clear ha hb hbw
    by_cases hlt : k + 1 < N
    · have hlt' : (k : Int) + 1 < (N : Int) := by omega
      have HS := Lib.hid (HST.out k)
      rw [← HAA.out, ← HBB.out] at HS
      obtain ⟨z1, y1, u1, t1, m1, b1⟩ := HMU.out (k + 1) (by omega)
      obtain ⟨z2, y2, u2, t2, m2, b2⟩ := HMU.out a (by omega)
      obtain ⟨z3, y3, u3, t3, m3, b3⟩ := HMU.out b (by omega)
      rw [show ((k + 1 : Nat) : Int) = (k : Int) + 1 from rfl] at y1
      have e1 : IntKind.i64.wrap (((k : Int) + 1) * (P : Int)) = (z1 : Int) := by rw [← y1]; exact IntWalk.i64_in _ (by omega)
      have e2 : IntKind.i64.wrap ((a : Int) * (P : Int)) = (z2 : Int) := by rw [← y2]; exact IntWalk.i64_in _ (by omega)
      have e3 : IntKind.i64.wrap ((b : Int) * (P : Int)) = (z3 : Int) := by rw [← y3]; exact IntWalk.i64_in _ (by omega)
      have hq0 : ¬ (Q : Int) = 0 := by omega
      have hq0' : ¬ Q = 0 := by omega
      clear y1 y2 y3
      generalize D (k + 1) = x1 at *
      generalize D a = x2 at *
      generalize D b = x3 at *
      by_cases c1 : x1 < x2 <;> by_cases c2 : x3 < x1
      · have f1 : decide ((x1 : Int) < (x2 : Int)) = true := decide_eq_true (by omega)
        have f1' : decide (x1 < x2) = true := decide_eq_true c1
        have f2 : decide ((x3 : Int) < (x1 : Int)) = true := decide_eq_true (by omega)
        have f2' : decide (x3 < x1) = true := decide_eq_true c2
        rw [if_pos c1, if_pos c2] at HS
        go_wp2_with fail
        go_quiet (fail)
        go_wp2_with fail
        go_quiet (fail)
        go_wp2_with fail
        go_roundw
        case rel => exact ⟨k + 1, k + 1, k + 1, by omega, by rw [HS.out], by rw [HS.out], by go_num, by go_num, by go_num, by first | exact below_drewN (below_drewN HBW.out _) _ | exact below_drewN HBW.out _⟩
        case measure => simp [intOf]; omega
      · have f1 : decide ((x1 : Int) < (x2 : Int)) = true := decide_eq_true (by omega)
        have f1' : decide (x1 < x2) = true := decide_eq_true c1
        have f2 : decide ((x3 : Int) < (x1 : Int)) = false := decide_eq_false (by omega)
        have f2' : decide (x3 < x1) = false := decide_eq_false c2
        rw [if_pos c1, if_neg c2] at HS
        go_wp2_with fail
        go_quiet (fail)
        go_wp2_with fail
        go_quiet (fail)
        go_wp2_with fail
        go_roundw
        case rel => exact ⟨k + 1, k + 1, b, by omega, by rw [HS.out], by rw [HS.out], by go_num, rfl, by go_num, by first | exact below_drewN (below_drewN HBW.out _) _ | exact below_drewN HBW.out _⟩
        case measure => simp [intOf]; omega
      · have f1 : decide ((x1 : Int) < (x2 : Int)) = false := decide_eq_false (by omega)
        have f1' : decide (x1 < x2) = false := decide_eq_false c1
        have f2 : decide ((x3 : Int) < (x1 : Int)) = true := decide_eq_true (by omega)
        have f2' : decide (x3 < x1) = true := decide_eq_true c2
        rw [if_neg c1, if_pos c2] at HS
        go_wp2_with fail
        go_quiet (fail)
        go_wp2_with fail
        go_quiet (fail)
        go_wp2_with fail
        go_roundw
        case rel => exact ⟨k + 1, a, k + 1, by omega, by rw [HS.out], by rw [HS.out], rfl, by go_num, by go_num, by first | exact below_drewN (below_drewN HBW.out _) _ | exact below_drewN HBW.out _⟩
        case measure => simp [intOf]; omega
      · have f1 : decide ((x1 : Int) < (x2 : Int)) = false := decide_eq_false (by omega)
        have f1' : decide (x1 < x2) = false := decide_eq_false c1
        have f2 : decide ((x3 : Int) < (x1 : Int)) = false := decide_eq_false (by omega)
        have f2' : decide (x3 < x1) = false := decide_eq_false c2
        rw [if_neg c1, if_neg c2] at HS
        go_wp2_with fail
        go_quiet (fail)
        go_wp2_with fail
        go_quiet (fail)
        go_wp2_with fail
        go_roundw
        case rel => exact ⟨k + 1, a, b, by omega, by rw [HS.out], by rw [HS.out], rfl, rfl, by go_num, by first | exact below_drewN (below_drewN HBW.out _) _ | exact below_drewN HBW.out _⟩
        case measure => simp [intOf]; omega
    · have hkn : k = N - 1 := by omega
      have hlt' : ¬ (k : Int) + 1 < (N : Int) := by omega
      have HR1 : Hid ((a : Int) = ra) := by show _ = _; rw [HA.out, HAA.out, hkn]
      have HR2 : Hid ((b : Int) = rb) := by show _ = _; rw [HB.out, HBB.out, hkn]
      clear hkn
      go_wp2_with fail
      go_ret2
      exact ⟨by rw [← HR1.out, ← HR2.out]; rfl, HBW.out⟩

/-- which points the first k multiples are -/
def blsT (p q k : Nat) : List Bool := (List.range q).map fun x => ptB p q k x
theorem blsT_len (p q k : Nat) : (blsT p q k).length = q := by simp [blsT]
theorem blsT_zero (p q : Nat) : blsT p q 0 = List.replicate q false := by
  unfold blsT
  rw [List.eq_replicate_iff]
  refine ⟨by simp, fun b hb => ?_⟩
  obtain ⟨x, _, rfl⟩ := List.mem_map.1 hb
  rfl
theorem blsT_get {p q k x : Nat} (h : x < q) : (boolsV (blsT p q k))[x]? = some (.bool (ptB p q k x)) := by
  unfold boolsV blsT
  rw [List.getElem?_map, List.getElem?_map, List.getElem?_range h]
  rfl
theorem ptB_next (p q k x : Nat) : ptB p q (k + 1) x = (ptB p q k x || dpN p q k == x) := by
  unfold ptB
  rw [List.range_succ, List.any_append]
  simp
theorem blsT_set {p q k : Nat} (hq : 1 ≤ q) : (boolsV (blsT p q k)).set (dpN p q k) (.bool true) = boolsV (blsT p q (k + 1)) := by
  apply List.ext_getElem?
  intro x
  by_cases hx : x < q
  · by_cases e : dpN p q k = x
    · subst e
      rw [List.getElem?_set_self (by unfold boolsV; rw [List.length_map, blsT_len]; exact dp_lt hq k), blsT_get hx, ptB_next]
      simp
    · rw [List.getElem?_set_ne e, blsT_get hx, blsT_get hx, ptB_next, beq_eq_false_iff_ne.2 e, Bool.or_false]
  · have hl : ∀ k, (boolsV (blsT p q k)).length = q := fun k => by unfold boolsV; rw [List.length_map, blsT_len]
    rw [List.getElem?_eq_none (by rw [List.length_set, hl]; omega), List.getElem?_eq_none (by rw [hl]; omega)]

set_option maxRecDepth 100000 in
set_option maxHeartbeats 2000000 in
theorem specPointsOf (p q n : Int) (w : World) :
    Calls Try.prog 11 #[.int .i64 p, .int .i64 q, .int .i64 n] w fun e w' => ∃ v, e = .returned v ∧ w'.ownsRow w.heap.size 3 1 v (ptR p q n).length (ints (ptR p q n)) ∧ Below w.heap.size w w' := by
  obtain ⟨i0, hi0, hz0, hz1, hz2⟩ := info_parts int_info
  obtain ⟨j0, hj0, hy0, hy1, hy2⟩ := info_parts bool_info
  have HOK := Lib.hid (fun w => specGapOk p q n w)
  cases h1 : gpOk p q n
  · have HV : Hid (ptR p q n = []) := if_neg (by rw [h1]; decide)
    rw [h1] at HOK
    rw [HV.out]
    clear h1
    go_enter Try.func11, Try.ntmps11
    go_wp2_with fail
    refine (HOK.out _).mono ?_
    rintro e w' ⟨rfl, rfl⟩
    go_wp2_with fail
    go_ret
    exact ⟨_, rfl, World.ownsRow_nil _ _ _ _, Below.refl _ _⟩
  have HV : Hid (ptR p q n = ptTo p.toNat q.toNat n.toNat q.toNat) := if_pos h1
  rw [h1] at HOK
  obtain ⟨P, Q, N, rfl, rfl, rfl, q1, q2, p1, n1, n2⟩ := gp_parts h1
  rw [Int.toNat_natCast, Int.toNat_natCast, Int.toNat_natCast] at HV
  rw [HV.out]
  clear h1 HV
  have HMU := Lib.hid (fun k (hk : k ≤ 1000) => mul_at (P := P) (Q := Q) k hk (by omega) q1)
  have HGET := Lib.hid (fun k x (h : x < Q) => blsT_get (p := P) (q := Q) (k := k) h)
  have HSET := Lib.hid (fun k => blsT_set (p := P) (q := Q) (k := k) q1)
  have HZ0 := Lib.hid (blsT_zero P Q)
  have HPT : Hid (∀ k, (ptB P Q N k = true → ptTo P Q N (k + 1) = ptTo P Q N k ++ [(k : Int)]) ∧ (ptB P Q N k = false → ptTo P Q N (k + 1) = ptTo P Q N k)) := fun k => ⟨fun h => if_pos h, fun h => if_neg (by rw [h]; decide)⟩
  have HPL := Lib.hid (ptTo_len P Q N)
  have HP0 : Hid (ptTo P Q N 0 = []) := rfl
  generalize blsT P Q = L at *
  generalize dpN P Q = D at *
  generalize ptTo P Q N = T at *
  generalize ptB P Q = U at *
  go_enter Try.func11, Try.ntmps11
  go_wp2_with fail
  refine (HOK.out _).mono ?_
  rintro e w' ⟨rfl, rfl⟩
  go_wp2_with (at_make
               refine wpList_make_full _ rfl _ _ 38 rfl w.heap.size 4 j0 (.bool false) 1 Try.underlying38 hj0 hy0 hy1 .i64 .i64 _ _ Q rfl rfl rfl rfl (by rw [hy2]; omega) (by unfold maxLen; omega) (Nat.le_refl _) ?_
               intro w1 hown hgrow
               have HB1 : Hid (Below w.heap.size w w1) := (Below.refl _ _).grown hgrow (Nat.le_refl _) (fun k hk => by cases hk)
               have e0 : ((madeCells (Value.bool false).cells (Q * 1)).toList) = boolsV (L 0) := by
                 rw [HZ0.out, Nat.mul_one]
                 exact (toList_madeCells_one _ _).trans (by simp [boolsV])
               rw [e0] at hown
               have HO1 := Lib.hid hown
               clear hown hgrow e0)
  go_loopw [8] (fun iv w' => ∃ k : Nat, k ≤ N ∧ iv = .int .i64 (k : Int) ∧ w'.ownsRow w.heap.size 4 1 (.slice (some ⟨w.heap.size, 0, none⟩) Q Q) Q (boolsV (L k)) ∧ Below w.heap.size w w') (fun iv _ => N - (intOf iv).toNat)
  case atStart => exact ⟨0, Nat.zero_le _, rfl, HO1.out, HB1.out⟩
  case round =>
    obtain ⟨k, hk, rfl, ho, hb⟩ := hrel
    have HO := Lib.hid ho
    have HB := Lib.hid hb
    clear ho hb
    by_cases hlt : k < N
    · have hlt' : (k : Int) < (N : Int) := by omega
      obtain ⟨z, y, u, tm, em, db⟩ := HMU.out k (by omega)
      have e1 : wrap64 ((k : Int) * (P : Int)) = (z : Int) := by rw [← y]; exact IntWalk.wrap64_in _ (by omega)
      have hq0 : ¬ (Q : Int) = 0 := by omega
      have hq0' : ¬ Q = 0 := by omega
      have HS := Lib.hid (HSET.out k)
      have ck := (World.ownsRow.cellAt HO.out (D k) (by omega)).trans (HGET.out k (D k) db)
      have fk := HO.out.frozenAt (D k)
      have db' : ((D k : Nat) : Int) < (Q : Int) := by omega
      clear y
      generalize D k = d at *
      go_wp2_with fail
      go_roundw
      case rel =>
        refine ⟨k + 1, by omega, by go_num, ?_, HB.out.setCell (Nat.le_refl _) _⟩
        have := (HO.out.stored d (.bool true)).1
        rw [HS.out] at this
        exact this
      case measure => simp [intOf]; omega
    · have hkn : k = N := by omega
      subst hkn
      have hlt' : ¬ (k : Int) < (k : Int) := by omega
      obtain ⟨w2, rfl⟩ : ∃ x : World, x = wr := ⟨_, rfl⟩
      have hsz2 := HB.out.size
      have hgl := (HO.out.lt w.heap.size rfl).2
      go_wp2_with fail
      go_loopw [9, 34] (fun lv iv w' => ∃ m : Nat, m ≤ Q ∧ iv = .int .i64 (m : Int) ∧ (∃ A cp, lv = .slice A (T m).length cp) ∧ w'.ownsRow w2.heap.size 3 1 lv (T m).length (ints (T m)) ∧ Below w2.heap.size w2 w') (fun _ iv _ => Q - (intOf iv).toNat)
      case atStart =>
        refine ⟨0, Nat.zero_le _, rfl, ⟨_, _, by rw [HP0.out]; rfl⟩, ?_, (Below.refl _ _).alloc (Nat.le_refl _) _⟩
        rw [HP0.out]
        exact World.ownsRow_made w2 #[] 0 (Nat.le_refl _) (by simp [maxLen]) (by simp)
      case round =>
        obtain ⟨m, hm, rfl, ⟨A, cp, rfl⟩, ho3, hb3⟩ := hrel
        have HO3 := Lib.hid ho3
        have HB3 := Lib.hid hb3
        have hbz := hb3.size
        have hpl := HPL.out m
        clear ho3 hb3
        by_cases hml : m < Q
        · have hml' : (m : Int) < (Q : Int) := by omega
          have cm : wr.cell? ⟨w.heap.size, m, none⟩ = some (.bool (U k m)) := (HB3.out.cell (p := ⟨w.heap.size, m, none⟩) hgl).trans ((World.ownsRow.cellAt HO.out m (by omega)).trans (HGET.out k m hml))
          have HT := Lib.hid (HPT.out m)
          cases hu : U k m
          · have HN := Lib.hid (HT.out.2 hu)
            rw [hu] at cm
            clear hu HT
            go_wp2_with fail
            go_roundw
            case rel => exact ⟨m + 1, by omega, by go_num, ⟨A, cp, by rw [HN.out]⟩, by rw [HN.out]; exact HO3.out, HB3.out⟩
            case measure => simp [intOf]; omega
          · have HN := Lib.hid (HT.out.1 hu)
            rw [hu] at cm
            clear hu HT
            go_wp2_with (at_builtin
                         refine wpList_append1 _ rfl (.tmp 40) (.tmp 42) _ rfl w2.heap.size 3 i0 _ 8 Try.underlying22 hi0 hz0 hz1 hz2 rfl (.slice A (T m).length cp) (T m).length (ints (T m)) rfl HO3.out (.int .i64 (m : Int)) rfl rfl (by unfold maxLen; omega) (by omega) hbz ?_
                         intro v' w4 hown4 hbel4)
            have ho4 : w4.ownsRow w2.heap.size 3 1 v' (T (m + 1)).length (ints (T (m + 1))) := by
              rw [HN.out, List.length_append, ints_snoc]
              exact hown4
            obtain ⟨A5, cp5, rfl⟩ := own_slice ho4
            go_roundw
            case rel => exact ⟨m + 1, by omega, by go_num, ⟨A5, cp5, by rw [HN.out, List.length_append]⟩, ho4, HB3.out.trans hbel4⟩
            case measure => simp [intOf]; omega
        · have hmq : m = Q := by omega
          subst hmq
          have hml' : ¬ (m : Int) < (m : Int) := by omega
          go_wp2_with fail
          go_ret
          exact ⟨_, rfl, own_mono HO3.out hsz2, HB.out.trans (HB3.out.mono hsz2)⟩
end Go.Proofs.Ytcdchieielpahaa

/- Chapter 12 of the model: GapsOf. No condition. -/
namespace Go.Proofs.Ytcdchieielpahaa
open Go.RowKit Go.Lib

theorem ptTo_range (p q n : Nat) : ∀ k, ∀ x ∈ ptTo p q n k, 0 ≤ x ∧ x < (k : Int)
  | 0, x, h => by cases h
  | k + 1, x, h => by
    have ih := ptTo_range p q n k
    unfold ptTo at h
    split at h
    · rcases List.mem_append.1 h with h | h
      · have := ih x h; omega
      · rw [List.mem_singleton] at h; omega
    · have := ih x h; omega
theorem pt_facts (p q n : Int) : (ptR p q n).length ≤ 1000 ∧ (∀ x ∈ ptR p q n, 0 ≤ x ∧ x < q ∧ q ≤ 1000) := by
  cases h1 : gpOk p q n
  · have hv : ptR p q n = [] := if_neg (by rw [h1]; decide)
    rw [hv]
    exact ⟨Nat.zero_le _, fun x h => by cases h⟩
  · have hv : ptR p q n = ptTo p.toNat q.toNat n.toNat q.toNat := if_pos h1
    obtain ⟨P, Q, N, rfl, rfl, rfl, q1, q2, p1, n1, n2⟩ := gp_parts h1
    rw [hv, Int.toNat_natCast, Int.toNat_natCast, Int.toNat_natCast]
    refine ⟨Nat.le_trans (ptTo_len P Q N Q) q2, fun x hx => ?_⟩
    have := ptTo_range P Q N Q x hx
    omega
theorem ds_next (q : Int) (l : List Int) (k : Nat) : dsTo q l (k + 1) = dsTo q l k ++ [if k + 1 < l.length then l.getD (k + 1) 0 - l.getD k 0 else q - l.getD k 0 + l.getD 0 0] := rfl
theorem ds_len (q : Int) (l : List Int) : ∀ k, (dsTo q l k).length = k
  | 0 => rfl
  | k + 1 => by rw [ds_next, List.length_append, ds_len q l k]; rfl
theorem ints_getD {l : List Int} {k : Nat} (h : k < l.length) : (ints l)[k]? = some (.int .i64 (l.getD k 0)) := by
  unfold ints
  rw [List.getElem?_map, List.getD_eq_getElem?_getD, List.getElem?_eq_getElem h]
  rfl
theorem getD_mem {l : List Int} {k : Nat} (h : k < l.length) : l.getD k 0 ∈ l := by
  rw [List.getD_eq_getElem?_getD, List.getElem?_eq_getElem h]
  exact List.getElem_mem h

set_option maxRecDepth 100000 in
set_option maxHeartbeats 2000000 in
theorem specGapsOf (p q n : Int) (w : World) :
    Calls Try.prog 16 #[.int .i64 p, .int .i64 q, .int .i64 n] w fun e w' => ∃ v, e = .returned v ∧ w'.ownsRow w.heap.size 3 1 v (gpR p q n).length (ints (gpR p q n)) ∧ Below w.heap.size w w' := by
  obtain ⟨i0, hi0, hz0, hz1, hz2⟩ := info_parts int_info
  have HPO := Lib.hid (fun w => specPointsOf p q n w)
  obtain ⟨hl, hx⟩ := pt_facts p q n
  have HX := Lib.hid hx
  have HV : Hid (gpR p q n = dsTo q (ptR p q n) (ptR p q n).length) := rfl
  clear hx
  generalize gpR p q n = R at *
  generalize ptR p q n = l at *
  have HNX := Lib.hid (ds_next q l)
  have HLN := Lib.hid (ds_len q l)
  have H0 : Hid (dsTo q l 0 = []) := rfl
  generalize dsTo q l = T at *
  go_enter Try.func16, Try.ntmps16
  go_wp2_with fail
  refine (HPO.out _).mono ?_
  rintro e w1 ⟨v, rfl, ho, hb1⟩
  have HO := Lib.hid ho
  have HB1 := Lib.hid hb1
  have hsz1 := hb1.size
  obtain ⟨A, cp, rfl⟩ := own_slice ho
  clear ho hb1
  go_wp2_with fail
  go_loopw [8, 18] (fun lv iv w' => ∃ k : Nat, k ≤ l.length ∧ iv = .int .i64 (k : Int) ∧ (∃ A cp, lv = .slice A k cp) ∧ w'.ownsRow w1.heap.size 3 1 lv k (ints (T k)) ∧ Below w1.heap.size w1 w') (fun _ iv _ => l.length - (intOf iv).toNat)
  case atStart =>
    refine ⟨0, Nat.zero_le _, rfl, ⟨_, _, rfl⟩, ?_, (Below.refl _ _).alloc (Nat.le_refl _) _⟩
    rw [H0.out]
    exact World.ownsRow_made w1 #[] 0 (Nat.le_refl _) (by simp [maxLen]) (by simp)
  case round =>
    obtain ⟨k, hk, rfl, ⟨A3, cp3, rfl⟩, ho3, hb3⟩ := hrel
    have HO3 := Lib.hid ho3
    have HB3 := Lib.hid hb3
    have hbz := hb3.size
    clear ho3 hb3
    by_cases hlt : k < l.length
    · obtain ⟨g, cp', he, _⟩ := own_some HO.out (by omega)
      injection he with he _ he2
      subst he; subst he2
      have hgl := (HO.out.lt g rfl).2
      have hlt' : (k : Int) < (l.length : Int) := by omega
      have ck : wr.cell? ⟨g, k, none⟩ = some (.int .i64 (l.getD k 0)) := (HB3.out.cell (p := ⟨g, k, none⟩) hgl).trans ((World.ownsRow.cellAt HO.out k (by omega)).trans (ints_getD hlt))
      have bk := HX.out _ (getD_mem hlt)
      have HN := Lib.hid (HNX.out k)
      by_cases hnx : k + 1 < l.length
      · have ck1 : wr.cell? ⟨g, k + 1, none⟩ = some (.int .i64 (l.getD (k + 1) 0)) := (HB3.out.cell (p := ⟨g, k + 1, none⟩) hgl).trans ((World.ownsRow.cellAt HO.out (k + 1) (by omega)).trans (ints_getD hnx))
        have bk1 := HX.out _ (getD_mem hnx)
        rw [if_pos hnx] at HN
        have hnx' : (k : Int) + 1 < (l.length : Int) := by omega
        generalize l.getD (k + 1) 0 = y at *
        generalize l.getD k 0 = x at *
        go_wp2_with (at_builtin
                     refine wpList_append1 _ rfl (.tmp 28) (.tmp 36) _ rfl w1.heap.size 3 i0 _ 8 Try.underlying22 hi0 hz0 hz1 hz2 rfl (.slice A3 k cp3) k (ints (T k)) rfl HO3.out (.int .i64 (y - x)) rfl rfl (by unfold maxLen; omega) (by omega) hbz ?_
                     intro v' w4 hown4 hbel4)
        have ho4 : w4.ownsRow w1.heap.size 3 1 v' (k + 1) (ints (T (k + 1))) := by rw [HN.out, ints_snoc]; exact hown4
        obtain ⟨A5, cp5, rfl⟩ := own_slice ho4
        go_roundw
        case rel => exact ⟨k + 1, by omega, by go_num, ⟨A5, cp5, rfl⟩, ho4, HB3.out.trans hbel4⟩
        case measure => simp [intOf]; omega
      · have c0 : wr.cell? ⟨g, 0, none⟩ = some (.int .i64 (l.getD 0 0)) := (HB3.out.cell (p := ⟨g, 0, none⟩) hgl).trans ((World.ownsRow.cellAt HO.out 0 (by omega)).trans (ints_getD (by omega)))
        have b0 := HX.out _ (getD_mem (l := l) (k := 0) (by omega))
        rw [if_neg hnx] at HN
        have hnx' : ¬ (k : Int) + 1 < (l.length : Int) := by omega
        have hl0 : (0 : Int) < (l.length : Int) := by omega
        have hl0' : 0 < l.length := by omega
        generalize l.getD 0 0 = y at *
        generalize l.getD k 0 = x at *
        go_wp2_with (at_builtin
                     refine wpList_append1 _ rfl (.tmp 38) (.tmp 46) _ rfl w1.heap.size 3 i0 _ 8 Try.underlying22 hi0 hz0 hz1 hz2 rfl (.slice A3 k cp3) k (ints (T k)) rfl HO3.out (.int .i64 (q - x + y)) rfl rfl (by unfold maxLen; omega) (by omega) hbz ?_
                     intro v' w4 hown4 hbel4)
        have ho4 : w4.ownsRow w1.heap.size 3 1 v' (k + 1) (ints (T (k + 1))) := by rw [HN.out, ints_snoc]; exact hown4
        obtain ⟨A5, cp5, rfl⟩ := own_slice ho4
        go_roundw
        case rel => exact ⟨k + 1, by omega, by go_num, ⟨A5, cp5, rfl⟩, ho4, HB3.out.trans hbel4⟩
        case measure => simp [intOf]; omega
    · have hkl : k = l.length := by omega
      subst hkl
      have hlt' : ¬ (l.length : Int) < (l.length : Int) := by omega
      have HR : Hid (R = T l.length) := HV.out
      have HR2 : Hid (R.length = l.length) := by show _ = _; rw [HV.out, HLN.out]
      go_wp2_with fail
      go_ret
      exact ⟨_, rfl, by rw [HR2.out, HR.out]; exact own_mono HO3.out hsz1, HB1.out.trans (HB3.out.mono hsz1)⟩
end Go.Proofs.Ytcdchieielpahaa

/- l04Square and TraceOf of the model. Conditions: lengths that an int holds. -/
namespace Go.Proofs.Ytcdchieielpahaa
open Go.RowKit
/-- a row of a square matrix, cell by cell -/
theorem sq_row {w : World} {v : Value} {m : List (List Int)} (h : Mat w v m) (hs : sqB m = true) : ∃ b off cap, v = .slice (some ⟨b, off, none⟩) m.length cap ∧ m.length ≤ cap ∧ ∀ k, k < m.length → ∃ b2 off2 cap2, w.cell? ⟨b, off + k, none⟩ = some (.slice (some ⟨b2, off2, none⟩) m.length cap2) ∧ m.length ≤ cap2 ∧ cap2 ≤ maxLen ∧ ∀ j, j < m.length → w.cell? ⟨b2, off2 + j, none⟩ = some (.int .i64 (at2 m k j)) := by
  obtain ⟨h1, h4, h5, _⟩ := sq_parts hs
  obtain ⟨b, off, cap, e, q1, q2, hr⟩ := mat_rows h (by omega)
  refine ⟨b, off, cap, e, q1, fun k hk => ?_⟩
  obtain ⟨u, g1, ⟨A, cap2, e2, c1, c2, h2⟩⟩ := hr k hk
  rw [ints_length, h5 k hk] at e2 c1
  replace h2 := h2.resolve_left (by
    intro e
    have := congrArg List.length e
    rw [ints_length, h5 k hk] at this
    simp only [List.length_nil] at this
    omega)
  obtain ⟨b2, off2, rfl, h2⟩ := h2
  refine ⟨b2, off2, cap2, by rw [g1, e2], c1, c2, fun j hj => ?_⟩
  have hj' : j < m[k].length := by rw [h5 k hk]; exact hj
  rw [at2_eq m k j hk hj']
  exact ints_at h2 j hj'

theorem at2_small {m : List (List Int)} (hs : sqB m = true) (i k : Nat) (hi : i < m.length) (hk : k < m.length) : -100 ≤ at2 m i k ∧ at2 m i k ≤ 100 := by
  obtain ⟨_, _, h5, h6⟩ := sq_parts hs
  have hk' : k < m[i].length := by rw [h5 i hi]; exact hk
  rw [at2_eq m i k hi hk']
  exact h6 i hi k hk'
theorem trTo_bound {m : List (List Int)} (hs : sqB m = true) : ∀ k, k ≤ m.length → -(100 * k : Int) ≤ trTo m k ∧ trTo m k ≤ 100 * k
  | 0, _ => by simp [trTo]
  | k + 1, h => by
    have ih := trTo_bound hs k (by omega)
    have := at2_small hs k k (by omega) (by omega)
    unfold trTo
    omega

end Go.Proofs.Ytcdchieielpahaa

/- Determinants by the first row. No program in it. -/
namespace Go.Proofs.Ytcdchieielpahaa
open Go.RowKit

def sgnN (k : Nat) : Int := if k % 2 = 0 then 1 else -1
theorem sgnN_succ (k : Nat) : sgnN (k + 1) = -sgnN k := by
  unfold sgnN
  rcases Nat.mod_two_eq_zero_or_one k with h | h
  · rw [if_pos h, if_neg (show ¬ (k + 1) % 2 = 0 by omega)]
  · rw [if_pos (show (k + 1) % 2 = 0 by omega), if_neg (show ¬ k % 2 = 0 by omega)]; rfl
theorem sgnN_two (k : Nat) : sgnN k = 1 ∨ sgnN k = -1 := by
  unfold sgnN
  split
  · exact .inl rfl
  · exact .inr rfl
/-- a row without its number k -/
def cutR (k : Nat) (r : List Int) : List Int := r.take k ++ r.drop (k + 1)
def minorM (m : List (List Int)) (k : Nat) : List (List Int) := (m.drop 1).map (cutR k)
def sumTo (f : Nat → Int) : Nat → Int
  | 0 => 0
  | k + 1 => sumTo f k + f k
/-- the determinant of a matrix of n rows, by its first row -/
def detS : Nat → List (List Int) → Int
  | 0, _ => 1
  | n + 1, m => sumTo (fun k => sgnN k * at2 m 0 k * detS n (minorM m k)) (n + 1)
def SqN (n : Nat) (m : List (List Int)) : Prop := m.length = n ∧ (∀ i (h : i < m.length), m[i].length = n) ∧ ∀ i k, i < n → k < n → -100 ≤ at2 m i k ∧ at2 m i k ≤ 100
theorem sqN_of {m : List (List Int)} (h : sqB m = true) : SqN m.length m := ⟨rfl, (sq_parts h).2.2.1, fun i k hi hk => at2_small h i k hi hk⟩
theorem minorM_length (m : List (List Int)) (k : Nat) : (minorM m k).length = m.length - 1 := by simp [minorM]
theorem minorM_at (m : List (List Int)) (k i : Nat) (h : i < (minorM m k).length) (h' : i + 1 < m.length) : (minorM m k)[i] = cutR k m[i + 1] := by simp [minorM]
theorem cutR_length (k : Nat) (r : List Int) (h : k < r.length) : (cutR k r).length = r.length - 1 := by
  unfold cutR
  rw [List.length_append, List.length_take, List.length_drop]
  omega
theorem cutR_getD (k : Nat) (r : List Int) (h : k < r.length) (q : Nat) : (cutR k r).getD q 0 = r.getD (if q < k then q else q + 1) 0 := by
  unfold cutR
  rw [List.getD_eq_getElem?_getD, List.getD_eq_getElem?_getD]
  have hl : (r.take k).length = k := by rw [List.length_take]; omega
  by_cases hq : q < k
  · rw [if_pos hq, List.getElem?_append_left (by omega), List.getElem?_take, if_pos hq]
  · rw [if_neg hq, List.getElem?_append_right (by omega), hl, List.getElem?_drop]
    congr 2
    omega
theorem minor_at2 {n : Nat} {m : List (List Int)} (h : SqN (n + 1) m) (k : Nat) (hk : k < n + 1) (i q : Nat) (hi : i < n) : at2 (minorM m k) i q = at2 m (i + 1) (if q < k then q else q + 1) := by
  obtain ⟨h1, h2, _⟩ := h
  have hl : i < (minorM m k).length := by rw [minorM_length]; omega
  have hi1 : i + 1 < m.length := by omega
  unfold at2
  rw [List.getD_eq_getElem?_getD (l := minorM m k), List.getD_eq_getElem?_getD (l := m), List.getElem?_eq_getElem hl, List.getElem?_eq_getElem hi1, Option.getD_some, Option.getD_some, minorM_at m k i hl hi1]
  exact cutR_getD k _ (by rw [h2 _ hi1]; exact hk) q
theorem minor_sq {n : Nat} {m : List (List Int)} (h : SqN (n + 1) m) (k : Nat) (hk : k < n + 1) : SqN n (minorM m k) := by
  obtain ⟨h1, h2, h3⟩ := id h
  refine ⟨by rw [minorM_length]; omega, fun i hi => ?_, fun i q hi hq => ?_⟩
  · have hi1 : i + 1 < m.length := by rw [minorM_length] at hi; omega
    rw [minorM_at m k i hi hi1, cutR_length k _ (by rw [h2 _ hi1]; exact hk), h2 _ hi1]
    rfl
  · rw [minor_at2 h k hk i q hi]
    split
    · exact h3 _ _ (by omega) (by omega)
    · exact h3 _ _ (by omega) (by omega)
/-- how large a determinant of n rows can be -/
def detMax : Nat → Int
  | 0 => 1
  | n + 1 => (n + 1 : Nat) * (100 * detMax n)
theorem term_bound {n : Nat} {m : List (List Int)} (h : SqN (n + 1) m) (k : Nat) (hk : k < n + 1) {d D : Int} (hd : -D ≤ d ∧ d ≤ D) : (-100 ≤ sgnN k * at2 m 0 k ∧ sgnN k * at2 m 0 k ≤ 100) ∧ -(100 * D) ≤ sgnN k * at2 m 0 k * d ∧ sgnN k * at2 m 0 k * d ≤ 100 * D := by
  have h3 := h.2.2 0 k (by omega) hk
  have h1 : -100 ≤ sgnN k * at2 m 0 k ∧ sgnN k * at2 m 0 k ≤ 100 := by
    rcases sgnN_two k with e | e <;> rw [e] <;> omega
  exact ⟨h1, mul_bound h1 hd⟩
theorem sumTo_bound {f : Nat → Int} {D : Int} (n : Nat) (h : ∀ k, k < n → -D ≤ f k ∧ f k ≤ D) : ∀ k, k ≤ n → -(k * D) ≤ sumTo f k ∧ sumTo f k ≤ k * D
  | 0, _ => by simp [sumTo]
  | k + 1, hk => by
    have ih := sumTo_bound n h k (by omega)
    have hb := h k (by omega)
    have e : ((k + 1 : Nat) : Int) * D = k * D + D := by rw [Int.natCast_add, Int.add_mul]; simp
    rw [e]
    unfold sumTo
    omega
theorem det_bound : ∀ (n : Nat) (m : List (List Int)), SqN n m → -detMax n ≤ detS n m ∧ detS n m ≤ detMax n
  | 0, _, _ => by simp [detS, detMax]
  | n + 1, m, h => by
    have hb := sumTo_bound (f := fun k => sgnN k * at2 m 0 k * detS n (minorM m k)) (D := 100 * detMax n) (n + 1) (fun k hk => (term_bound h k hk (det_bound n _ (minor_sq h k hk))).2) (n + 1) (Nat.le_refl _)
    exact hb
/-- what DeterminantOf is to return -/
def detR (m : List (List Int)) : Int := if sqB m = true then detS m.length m else 0
end Go.Proofs.Ytcdchieielpahaa
