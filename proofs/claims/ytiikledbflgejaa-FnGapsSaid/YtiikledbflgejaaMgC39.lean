/- Texts put together. -/
import Derived.Test.YtiikledbflgejaaMgC38
/- FnGaps: the pieces that neither start nor receive. -/
namespace Go.Proofs.Ytiikledbflgejaa
open Go.Conc Go.RowKit Go.ChangeShapes Go.WideShapes Go.ChangeAt

set_option maxRecDepth 100000 in
set_option maxHeartbeats 4000000 in
theorem gap_r9 (p q n : Nat) (hq1 : 1 ≤ q) (hq60 : q ≤ 60) (_ : p < q) (_ : 1 ≤ n) (_ : n ≤ 40) (X GG L : List Int) (hS : GapSays p q n X GG L) (vc vX vG vL : Value) (w : World) (hX : Lst w vX (ints X)) (hG : Lst w vG (ints GG)) (hL : Lst w vL (ints L)) (a : Act) (ha : gA8 vc (.int .i64 (q : Int)) (.int .i64 (p : Int)) (.int .i64 (n : Int)) vX vG vL a) :
    gC8.wp Try.prog (fun e a' w' => e = .normal ∧ gA9 vc (.int .i64 (q : Int)) (.int .i64 (p : Int)) (.int .i64 (n : Int)) vX vG vL a' ∧ Bl w.heap.size w w') a w := by
  obtain ⟨u, rfl⟩ := ha
  have HS := Lib.hid hS
  have HX6 := Lib.hid hX
  have HG6 := Lib.hid hG
  have HL6 := Lib.hid hL
  have hxl1 := hS.xl.1
  have hxl2 := hS.xl.2
  have hll1 := hS.ll.1
  have hll2 := hS.ll.2
  obtain ⟨bx, ox, cX, rfl, hcx⟩ := lst_num hX (by omega)
  obtain ⟨bg, og, cG, rfl, hcg⟩ := lst_num hG (by rw [hS.gl]; omega)
  obtain ⟨bl, ol, cL, rfl, hcl⟩ := lst_num hL (by omega)
  have HCX := Lib.hid hcx
  have HCG := Lib.hid hcg
  have HCL := Lib.hid hcl
  clear hcx hcg hcl hX hG hL hS
  simp only [gC8, gT8, gT7, gT6, gT5, gT4, gT3, gT2, gT1, gT0, Try.f3, Option.getD_some]
  go_upto_region 9 with (fail)
  have hgl := HS.out.gl
  have x0 : w.cell? ⟨bx, ox, none⟩ = some (.int .i64 0) := by
    have h := HCX.out 0 (by omega)
    rw [HS.out.zero (by omega)] at h
    exact h
  have HSM := Lib.hid (fun k => ((sumQ GG _ (w.drewN k) (HG6.out.drewN k) (by omega) (fun j hj => by have := HS.out.sums j hj; omega)).mono (R' := fun e w' => e = .returned (.int .i64 (q : Int)) ∧ w' = w.drewN k) (fun _ _ h => ⟨by rw [h.1, HS.out.sum], h.2.symm⟩)))
  have d1 : decide ((X.length : Int) < 1) = false := decide_eq_false (by omega)
  have d2 : decide (X.length < 1) = false := decide_eq_false (by omega)
  have d3 : decide ((n : Int) < (X.length : Int)) = false := decide_eq_false (by omega)
  have d4 : decide (n < X.length) = false := decide_eq_false (by omega)
  have d5 : decide ((L.length : Int) < 1) = false := decide_eq_false (by omega)
  have d6 : decide (L.length < 1) = false := decide_eq_false (by omega)
  have d7 : decide ((3 : Int) < (L.length : Int)) = false := decide_eq_false (by omega)
  have d8 : decide (3 < L.length) = false := decide_eq_false (by omega)
  have d0 : ((GG.length : Int) != (X.length : Int)) = false := by rw [bne_eq_false_iff_eq]; omega
  by_cases h3 : L.length = 3
  · have d9 : ((L.length : Int) == 3) = true := by rw [beq_iff_eq]; omega
    have y0 := HCL.out 0 (by omega)
    have y1 := HCL.out 1 (by omega)
    have y2 := HCL.out 2 (by omega)
    have ht := HS.out.three h3
    have b0 := HS.out.lim.2 L[0] (List.getElem_mem _)
    have b1 := HS.out.lim.2 L[1] (List.getElem_mem _)
    rw [ht] at y2
    rw [Nat.add_zero] at y0
    clear ht
    generalize L[0] = l0 at *
    generalize L[1] = l1 at *
    have e1 : IntKind.i64.wrap (l0 + l1) = l0 + l1 := IntWalk.i64_in _ (by omega)
    have k2 : (2 : Int) < (L.length : Int) := by omega
    have k1 : (1 : Int) < (L.length : Int) := by omega
    have k0 : (0 : Int) < (L.length : Int) := by omega
    clear h3 hgl
    go_quiet (exact Calls.quiet_of_same (HSM.out _))
    go_wp2_with fail
    exact ⟨gA9_of rfl, Bl.ofBelow (below_drewN (Below.refl _ _) _)⟩
  · have d9 : ((L.length : Int) == 3) = false := by rw [beq_eq_false_iff_ne]; omega
    clear h3 hgl
    go_quiet (exact Calls.quiet_of_same (HSM.out _))
    go_wp2_with fail
    exact ⟨gA9_of rfl, Bl.ofBelow (below_drewN (Below.refl _ _) _)⟩

set_option maxRecDepth 100000 in
set_option maxHeartbeats 4000000 in
theorem gap_r11 (p q n : Nat) (hq1 : 1 ≤ q) (hq60 : q ≤ 60) (_ : p < q) (hn1 : 1 ≤ n) (hn40 : n ≤ 40) (X GG L : List Int) (hS : GapSays p q n X GG L) (vc vX vG vL : Value) (w : World) (hX : Lst w vX (ints X)) (hG : Lst w vG (ints GG)) (hL : Lst w vL (ints L)) (a : Act) (ha : gA9 vc (.int .i64 (q : Int)) (.int .i64 (p : Int)) (.int .i64 (n : Int)) vX vG vL a) :
    gC9.wp Try.prog (fun e a' w' => e = .normal ∧ gA11 vc (.int .i64 (q : Int)) (.int .i64 (p : Int)) (.int .i64 (n : Int)) vX vG vL a' ∧ Bl w.heap.size w w') a w := by
  obtain ⟨u, rfl⟩ := ha
  have HS := Lib.hid hS
  have HX6 := Lib.hid hX
  have HG6 := Lib.hid hG
  have HL6 := Lib.hid hL
  have hxl1 := hS.xl.1
  have hxl2 := hS.xl.2
  have hll1 := hS.ll.1
  have hll2 := hS.ll.2
  obtain ⟨bx, ox, cX, rfl, hcx⟩ := lst_num hX (by omega)
  obtain ⟨bg, og, cG, rfl, hcg⟩ := lst_num hG (by rw [hS.gl]; omega)
  obtain ⟨bl, ol, cL, rfl, hcl⟩ := lst_num hL (by omega)
  have HCX := Lib.hid hcx
  have HCG := Lib.hid hcg
  have HCL := Lib.hid hcl
  clear hcx hcg hcl hX hG hL hS
  have hgl := HS.out.gl
  simp only [gC9, gT9, gT8, gT7, gT6, gT5, gT4, gT3, gT2, gT1, gT0, Try.f3, Option.getD_some]
  go_wp2_with fail
  go_loopw [99] (fun ix w' => ∃ k : Nat, k ≤ X.length ∧ ix = .int .i64 (k : Int) ∧ Below w.heap.size w w') (fun ix _ => X.length - (RowKit.intOf ix).toNat)
  case atStart => exact ⟨0, by omega, rfl, Below.refl _ _⟩
  case round =>
    obtain ⟨k, hk, rfl, hb⟩ := hrel
    obtain ⟨wq, rfl⟩ : ∃ y : World, y = wr := ⟨_, rfl⟩
    have HBQ := Lib.hid hb
    clear hb
    by_cases hlt : k < X.length
    · have hlg : k < GG.length := by rw [HS.out.gl]; exact hlt
      have gg : wq.cell? ⟨bg, og + k, none⟩ = some (.int .i64 (GG[k]'hlg)) := by
        have h := HCG.out k hlg
        exact (HBQ.out.cell (World.block_lt_of_cell? _ _ h)).trans h
      have xk : wq.cell? ⟨bx, ox + k, none⟩ = some (.int .i64 (X[k]'hlt)) := by
        have h := HCX.out k hlt
        exact (HBQ.out.cell (World.block_lt_of_cell? _ _ h)).trans h
      have he := HS.out.each k hlg
      have hx := HS.out.lim.1 (X[k]'hlt) (List.getElem_mem _)
      have HHS := Lib.hid (fun j => (hasC L _ (GG[k]'hlg) (wq.drewN j) ((HL6.out.below HBQ.out).drewN j)).mono (R' := fun e w' => e = .returned (.bool true) ∧ w' = wq.drewN j) (fun _ _ h => ⟨by rw [h.1, decide_eq_true he.1], h.2.symm⟩))
      obtain ⟨_, he1, he2⟩ := he
      have d1 : decide ((GG[k]'hlg) < 1) = false := decide_eq_false (by omega)
      have w1 : IntKind.i64.wrap ((k : Int) + 1) = (k : Int) + 1 := IntWalk.i64_in _ (by omega)
      by_cases hk1 : k + 1 < X.length
      · have xn : wq.cell? ⟨bx, ox + (k + 1), none⟩ = some (.int .i64 (X[k + 1]'hk1)) := by
          have h := HCX.out (k + 1) hk1
          exact (HBQ.out.cell (World.block_lt_of_cell? _ _ h)).trans h
        rw [← HS.out.next k hlg hk1] at xn
        generalize GG[k]'hlg = g at *
        generalize X[k]'hlt = a at *
        have w2 : IntKind.i64.wrap (a + g) = a + g := IntWalk.i64_in _ (by omega)
        have c1 : ((k : Int) + 1) < (X.length : Int) := by omega
        go_upto_region 14 with (fail)
        go_quiet (exact Calls.quiet_of_same (HHS.out _))
        go_wp2_with fail
        go_roundw
        case rel => exact ⟨k + 1, by omega, by go_num, below_drewN HBQ.out _⟩
        case measure => simp [RowKit.intOf]; omega
      · generalize GG[k]'hlg = g at *
        have c1 : ¬ ((k : Int) + 1) < (X.length : Int) := by omega
        go_upto_region 14 with (fail)
        go_quiet (exact Calls.quiet_of_same (HHS.out _))
        go_wp2_with fail
        go_roundw
        case rel => exact ⟨k + 1, by omega, by go_num, below_drewN HBQ.out _⟩
        case measure => simp [RowKit.intOf]; omega
    · go_wp2_with fail
      exact ⟨gA11_of rfl, Bl.ofBelow HBQ.out⟩

set_option maxRecDepth 100000 in
set_option maxHeartbeats 4000000 in
theorem gap_r19 (p q n : Nat) (hq1 : 1 ≤ q) (hq60 : q ≤ 60) (hpq : p < q) (hn1 : 1 ≤ n) (hn40 : n ≤ 40) (X GG L : List Int) (hS : GapSays p q n X GG L) (vc vX vG vL : Value) (w : World) (hX : Lst w vX (ints X)) (hG : Lst w vG (ints GG)) (hL : Lst w vL (ints L)) (a : Act) (x y : Nat) (hx1 : 1 ≤ x) (hxn : x < n) (hy1 : 1 ≤ y) (hyn : y < n) (hlast : X.length = n → ∀ (h1 : 1 < X.length) (h2 : X.length - 1 < X.length), ((x * p % q : Nat) : Int) = X[1] ∧ ((y * p % q : Nat) : Int) = X[X.length - 1]'h2) (ha : gA18 vc (.int .i64 (q : Int)) (.int .i64 (p : Int)) (.int .i64 (n : Int)) vX vG vL (.int .i64 (x : Int)) (.int .i64 (y : Int)) a) :
    gNb.wp Try.prog (fun e a' w' => e = .normal ∧ gA19 vc (.int .i64 (q : Int)) (.int .i64 (p : Int)) (.int .i64 (n : Int)) vX vG vL a' ∧ Bl w.heap.size w w') a w := by
  obtain ⟨u, rfl⟩ := ha
  have HS := Lib.hid hS
  have HX6 := Lib.hid hX
  have HG6 := Lib.hid hG
  have HL6 := Lib.hid hL
  have hxl1 := hS.xl.1
  have hxl2 := hS.xl.2
  have hll1 := hS.ll.1
  have hll2 := hS.ll.2
  obtain ⟨bx, ox, cX, rfl, hcx⟩ := lst_num hX (by omega)
  obtain ⟨bg, og, cG, rfl, hcg⟩ := lst_num hG (by rw [hS.gl]; omega)
  obtain ⟨bl, ol, cL, rfl, hcl⟩ := lst_num hL (by omega)
  have HCX := Lib.hid hcx
  have HCG := Lib.hid hcg
  have HCL := Lib.hid hcl
  clear hcx hcg hcl hX hG hL hS
  have hma : x * p ≤ 40 * 60 := Nat.mul_le_mul (by omega) (by omega)
  have hmb : y * p ≤ 40 * 60 := Nat.mul_le_mul (by omega) (by omega)
  obtain ⟨za, hza⟩ : ∃ z : Nat, z = x * p := ⟨_, rfl⟩
  obtain ⟨zb, hzb⟩ : ∃ z : Nat, z = y * p := ⟨_, rfl⟩
  rw [← hza] at hlast hma
  rw [← hzb] at hlast hmb
  have ma : IntKind.i64.wrap ((x : Int) * (p : Int)) = (za : Int) := by
    rw [show (x : Int) * (p : Int) = (za : Int) from by rw [hza]; rfl]
    exact IntWalk.i64_in _ (by omega)
  have mb : IntKind.i64.wrap ((y : Int) * (p : Int)) = (zb : Int) := by
    rw [show (y : Int) * (p : Int) = (zb : Int) from by rw [hzb]; rfl]
    exact IntWalk.i64_in _ (by omega)
  clear hza hzb
  have ta : ((za : Nat) : Int).tmod (q : Int) = ((za % q : Nat) : Int) := rfl
  have tb : ((zb : Nat) : Int).tmod (q : Int) = ((zb % q : Nat) : Int) := rfl
  generalize za % q = ra at *
  generalize zb % q = rb at *
  have z1 : ¬ q = 0 := by omega
  have z2 : ¬ (q : Int) = 0 := by omega
  have d1 : decide ((x : Int) < 1) = false := decide_eq_false (by omega)
  have d1n : decide (x < 1) = false := decide_eq_false (by omega)
  have d2 : decide ((n : Int) ≤ (x : Int)) = false := decide_eq_false (by omega)
  have d2n : decide (n ≤ x) = false := decide_eq_false (by omega)
  have d3 : decide ((y : Int) < 1) = false := decide_eq_false (by omega)
  have d3n : decide (y < 1) = false := decide_eq_false (by omega)
  have d4 : decide ((n : Int) ≤ (y : Int)) = false := decide_eq_false (by omega)
  have d4n : decide (n ≤ y) = false := decide_eq_false (by omega)
  by_cases hl : X.length = n
  · have d5 : ((X.length : Int) == (n : Int)) = true := by rw [beq_iff_eq]; omega
    have x1 : w.cell? ⟨bx, ox + 1, none⟩ = some (.int .i64 (ra : Int)) := by
      have h := HCX.out 1 (by omega)
      rw [← (hlast hl (by omega) (by omega)).1] at h
      exact h
    have x2 : w.cell? ⟨bx, ox + (X.length - 1), none⟩ = some (.int .i64 (rb : Int)) := by
      have h := HCX.out (X.length - 1) (by omega)
      rw [← (hlast hl (by omega) (by omega)).2] at h
      exact h
    have w1 : IntKind.i64.wrap ((X.length : Int) - 1) = (X.length : Int) - 1 := IntWalk.i64_in _ (by omega)
    have b1 : (1 : Int) < (X.length : Int) := by omega
    have b2 : (0 : Int) ≤ (X.length : Int) - 1 := by omega
    have b3 : (X.length : Int) - 1 < (X.length : Int) := by omega
    have b4 : ((X.length : Int) - 1).toNat = X.length - 1 := by omega
    clear hlast hl
    simp only [gNb, gN, gC10b, gC10, gT10, gT9, gT8, gT7, gT6, gT5, gT4, gT3, gT2, gT1, gT0, Try.f3, Option.getD_some]
    go_upto_region 19 with (fail)
    go_quiet (fail)
    go_wp2_with fail
    exact ⟨gA19_of rfl, Bl.ofBelow (below_drewN (Below.refl _ _) _)⟩
  · have d5 : ((X.length : Int) == (n : Int)) = false := by rw [beq_eq_false_iff_ne]; omega
    clear hlast hl
    simp only [gNb, gN, gC10b, gC10, gT10, gT9, gT8, gT7, gT6, gT5, gT4, gT3, gT2, gT1, gT0, Try.f3, Option.getD_some]
    go_upto_region 19 with (fail)
    go_quiet (fail)
    go_wp2_with fail
    exact ⟨gA19_of rfl, Bl.ofBelow (below_drewN (Below.refl _ _) _)⟩
end Go.Proofs.Ytiikledbflgejaa
