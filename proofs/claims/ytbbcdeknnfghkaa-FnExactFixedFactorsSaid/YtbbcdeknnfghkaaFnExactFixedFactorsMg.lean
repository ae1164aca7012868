/- FnExactFixedFactors: for every argument the law returns true and its arguments read as before. No condition. -/
import Derived.Test.YtbbcdeknnfghkaaMgX1
import Derived.Test.YtbbcdeknnfghkaaMgX3
import Derived.Test.YtbbcdeknnfghkaaMgX6
import Derived.Deep.RegionWith
import Derived.Test.YtbbcdeknnfghkaaMgX15
import Derived.Test.YtbbcdeknnfghkaaMgX23
import Derived.Deep.DeepCutAuto
namespace Go.Proofs.Ytbbcdeknnfghkaa
open Go.ChangeShapes Go.WideShapes Go.ChangeAt Go.RowKit
open Go.ChangeMaps (open_string shut_string)

set_option maxHeartbeats 4000000 in
set_option maxRecDepth 100000 in
theorem fnExactFixedFactors_walk0 (l0 : List ByteArray) (v0 : Value) (a1 : ByteArray) (a2 : Int) (w : World) (q0 : Lst w v0 (strs l0)) (y0 : ∀ x ∈ l0, x.size ≤ maxLen) (b1 : a1.size ≤ maxLen) (_ : (Lit.int .i64 a2).wf = true) :
    Calls Try.prog 10 #[.agg #[v0], .string a1, .int .i64 a2] w fun e w' => e = .returned (.bool true) ∧ Below w.heap.size w w' := by
  unfold maxLen at b1
  obtain ⟨A0, cp0, rfl⟩ := lst_slice q0
  simp only [strs_length] at q0 ⊢
  have HL0 := Lib.hid q0
  have HY0 := Lib.hid y0
  clear q0 y0
  have HB : Hid (Below w.heap.size w (w.alloc (.cells #[.slice A0 l0.length cp0] 39))) := ((Below.refl w.heap.size w).alloc (Nat.le_refl _) _)
  have hres0 := facR_le l0 a1 a2
  by_cases h1 : a1.size ≤ 1048576
  · skip
    go_enter Try.func10, Try.ntmps10
    go_wp2_with fail
    refine (szSubst_any l0 _ 1048576 _ (HL0.out.below HB.out) HY0.out (by omega) (by omega)).mono ?_
    rintro e w1 ⟨hb, r0, rfl, hr1, hr2, hr3⟩
    have ccp0 : w1.cell? ⟨w.heap.size, 0, none⟩ = some (.slice A0 l0.length cp0) := (hb.cell (p := ⟨w.heap.size, 0, none⟩) (by first | assumption | (simp; omega) | simp)).trans (by first | assumption | go_simp)
    have zzp0 : w.heap.size < w1.heap.size := by have hsz := hb.size; (try simp at hsz); omega
    replace HB : Hid (Below w.heap.size w w1) := HB.out.trans (hb.mono HB.out.size)
    have hs2 : w.heap.size + 1 ≤ w1.heap.size := by have hsz := hb.size; (try simp at hsz); omega
    have HR00 := Lib.hid hr3
    clear hb hr3
    by_cases hneg0 : r0 < 0
    · go_wp2_with fail
      go_ret
      exact ⟨rfl, HB.out⟩
    have hge0 : 0 ≤ r0 := by omega
    obtain ⟨hn0, hz0⟩ := sz_use (HR00.out hge0) hge0 (by omega)
    have HZ0 := Lib.hid hz0
    clear hz0
    have hle0 : r0 ≤ 1048576 := by omega
    clear hr1 hr2
    go_wp2_with fail
    refine (toSubst_any l0 _ _ (HL0.out.below HB.out) hn0).mono ?_
    rintro e w2 ⟨vt0, rfl, ho, hb⟩
    obtain ⟨At0, ct0, rfl⟩ := own_slice ho
    have HXt0 : Hid (w2.ownsRow (w1.heap.size) 9 1 (.slice At0 (l0).length ct0) (l0).length (strs (l0))) := ho
    have HTt0 : Hid (∀ k, Value.ownBlock (.slice At0 (l0).length ct0) = some k → k < w2.heap.size) := fun k hk => (HXt0.out.lt k hk).2
    replace ccp0 : w2.cell? ⟨w.heap.size, 0, none⟩ = some (.slice A0 l0.length cp0) := (hb.cell (p := ⟨w.heap.size, 0, none⟩) (by first | assumption | (simp; omega) | simp)).trans (by first | assumption | go_simp)
    replace zzp0 : w.heap.size < w2.heap.size := by have hsz := hb.size; (try simp at hsz); omega
    replace HB : Hid (Below w.heap.size w w2) := HB.out.trans (hb.mono HB.out.size)
    have hs3 : w1.heap.size ≤ w2.heap.size := by have hsz := hb.size; (try simp at hsz); omega
    have HAt0 : Hid (Below w2.heap.size w2 w2) := Below.refl _ _
    clear hb ho
    go_wp2_with fail
    refine (specFixedFactors l0 _ a1 a2 _ ((Lst.of_own HXt0.out).below HAt0.out) HZ0.out hn0 h1).mono ?_
    rintro e w3 ⟨vw, rfl, ho, hb⟩
    obtain ⟨Aw, cw, rfl⟩ := own_slice ho
    have HXw : Hid (w3.ownsRow (w2.heap.size) 9 1 (.slice Aw (facR l0 a1 a2).length cw) (facR l0 a1 a2).length (strs (facR l0 a1 a2))) := ho
    have HTw : Hid (∀ k, Value.ownBlock (.slice Aw (facR l0 a1 a2).length cw) = some k → k < w3.heap.size) := fun k hk => (HXw.out.lt k hk).2
    replace ccp0 : w3.cell? ⟨w.heap.size, 0, none⟩ = some (.slice A0 l0.length cp0) := (hb.cell (p := ⟨w.heap.size, 0, none⟩) (by first | assumption | (simp; omega) | simp)).trans (by first | assumption | go_simp)
    replace zzp0 : w.heap.size < w3.heap.size := by have hsz := hb.size; (try simp at hsz); omega
    replace HB : Hid (Below w.heap.size w w3) := HB.out.trans (hb.mono HB.out.size)
    replace HAt0 : Hid (Below w2.heap.size w2 w3) := HAt0.out.trans (hb.mono HAt0.out.size)
    have hs4 : w2.heap.size ≤ w3.heap.size := by have hsz := hb.size; (try simp at hsz); omega
    have HAw : Hid (Below w3.heap.size w3 w3) := Below.refl _ _
    clear hb ho
    clear HXt0 HAt0 HTt0
    go_wp2_with fail
    refine (toSubst_any l0 _ _ (HL0.out.below HB.out) hn0).mono ?_
    rintro e w4 ⟨vx0, rfl, ho, hb⟩
    obtain ⟨Ax0, cx0, rfl⟩ := own_slice ho
    have HXx0 : Hid (w4.ownsRow (w3.heap.size) 9 1 (.slice Ax0 (l0).length cx0) (l0).length (strs (l0))) := ho
    have HTx0 : Hid (∀ k, Value.ownBlock (.slice Ax0 (l0).length cx0) = some k → k < w4.heap.size) := fun k hk => (HXx0.out.lt k hk).2
    replace ccp0 : w4.cell? ⟨w.heap.size, 0, none⟩ = some (.slice A0 l0.length cp0) := (hb.cell (p := ⟨w.heap.size, 0, none⟩) (by first | assumption | (simp; omega) | simp)).trans (by first | assumption | go_simp)
    replace zzp0 : w.heap.size < w4.heap.size := by have hsz := hb.size; (try simp at hsz); omega
    replace HB : Hid (Below w.heap.size w w4) := HB.out.trans (hb.mono HB.out.size)
    replace HAw : Hid (Below w3.heap.size w3 w4) := HAw.out.trans (hb.mono HAw.out.size)
    have hs5 : w3.heap.size ≤ w4.heap.size := by have hsz := hb.size; (try simp at hsz); omega
    have HAx0 : Hid (Below w4.heap.size w4 w4) := Below.refl _ _
    clear hb ho
    go_wp2_with fail
    replace HB : Hid (Below w.heap.size w (w4.alloc (.cells #[.slice Ax0 (l0).length cx0] 24))) := HB.out.alloc HB.out.size _
    replace HAw : Hid (Below w3.heap.size w3 (w4.alloc (.cells #[.slice Ax0 (l0).length cx0] 24))) := HAw.out.alloc HAw.out.size _
    replace HAx0 : Hid (Below w4.heap.size w4 (w4.alloc (.cells #[.slice Ax0 (l0).length cx0] 24))) := HAx0.out.alloc HAx0.out.size _
    refine (implFixedFactors l0 _ a1 a2 _ ((Lst.of_own HXx0.out).below HAx0.out) HZ0.out hn0 h1).mono ?_
    rintro e w5 ⟨vg, rfl, ho, hb⟩
    obtain ⟨Ag, cg, rfl⟩ := own_slice ho
    have HXg : Hid (w5.ownsRow (w4.heap.size + 1) 9 1 (.slice Ag (facR l0 a1 a2).length cg) (facR l0 a1 a2).length (strs (facR l0 a1 a2))) := own_mono ho (by first | omega | (simp; try omega))
    have HTg : Hid (∀ k, Value.ownBlock (.slice Ag (facR l0 a1 a2).length cg) = some k → k < w5.heap.size) := fun k hk => (HXg.out.lt k hk).2
    replace ccp0 : w5.cell? ⟨w.heap.size, 0, none⟩ = some (.slice A0 l0.length cp0) := (hb.cell (p := ⟨w.heap.size, 0, none⟩) (by first | assumption | (simp; omega) | simp)).trans (by first | assumption | go_simp)
    have ccx0 : w5.cell? ⟨w4.heap.size, 0, none⟩ = some (.slice Ax0 (l0).length cx0) := (hb.cell (p := ⟨w4.heap.size, 0, none⟩) (by first | assumption | (simp; omega) | simp)).trans (by first | assumption | go_simp)
    replace zzp0 : w.heap.size < w5.heap.size := by have hsz := hb.size; (try simp at hsz); omega
    have zzx0 : w4.heap.size < w5.heap.size := by have hsz := hb.size; (try simp at hsz); omega
    replace HB : Hid (Below w.heap.size w w5) := HB.out.trans (hb.mono HB.out.size)
    replace HAw : Hid (Below w3.heap.size w3 w5) := HAw.out.trans (hb.mono HAw.out.size)
    replace HAx0 : Hid (Below w4.heap.size w4 w5) := HAx0.out.trans (hb.mono HAx0.out.size)
    have hs6 : w4.heap.size + 1 ≤ w5.heap.size := by have hsz := hb.size; (try simp at hsz); omega
    have HAg : Hid (Below w5.heap.size w5 w5) := Below.refl _ _
    clear hb ho
    go_wp2_with fail
    refine (eqStringS_b (facR l0 a1 a2) _ _ _ ((Lst.of_own HXg.out).below HAg.out) ((Lst.of_own HXw.out).below HAw.out)).mono ?_
    rintro e w6 ⟨rfl, hb⟩
    replace ccp0 : w6.cell? ⟨w.heap.size, 0, none⟩ = some (.slice A0 l0.length cp0) := (hb.cell (p := ⟨w.heap.size, 0, none⟩) (by first | assumption | (simp; omega) | simp)).trans (by first | assumption | go_simp)
    replace ccx0 : w6.cell? ⟨w4.heap.size, 0, none⟩ = some (.slice Ax0 (l0).length cx0) := (hb.cell (p := ⟨w4.heap.size, 0, none⟩) (by first | assumption | (simp; omega) | simp)).trans (by first | assumption | go_simp)
    replace zzp0 : w.heap.size < w6.heap.size := by have hsz := hb.size; (try simp at hsz); omega
    replace zzx0 : w4.heap.size < w6.heap.size := by have hsz := hb.size; (try simp at hsz); omega
    replace HB : Hid (Below w.heap.size w w6) := HB.out.trans (hb.mono HB.out.size)
    replace HAw : Hid (Below w3.heap.size w3 w6) := HAw.out.trans (hb.mono HAw.out.size)
    replace HAx0 : Hid (Below w4.heap.size w4 w6) := HAx0.out.trans (hb.mono HAx0.out.size)
    replace HAg : Hid (Below w5.heap.size w5 w6) := HAg.out.trans (hb.mono HAg.out.size)
    have hs7 : w5.heap.size ≤ w6.heap.size := by have hsz := hb.size; (try simp at hsz); omega
    clear hb
    go_upto_region 12 with (fail)
    go_cut [42] (fun s wx => s = .bool false ∧ wx.cell? ⟨w.heap.size, 0, none⟩ = some (.slice A0 l0.length cp0) ∧ wx.cell? ⟨w4.heap.size, 0, none⟩ = some (.slice Ax0 (l0).length cx0) ∧ w.heap.size < wx.heap.size ∧ w4.heap.size < wx.heap.size ∧ Hid (Below w.heap.size w wx) ∧ Hid (Below w3.heap.size w3 wx) ∧ Hid (Below w4.heap.size w4 wx) ∧ Hid (Below w5.heap.size w5 wx) ∧ w6.heap.size ≤ wx.heap.size)
    case first =>
      go_region_with (first
        | (go_at_call 28
           replace HB : Hid (Below w.heap.size w w6.drew) := below_drewN HB.out 1
           replace HAw : Hid (Below w3.heap.size w3 w6.drew) := below_drewN HAw.out 1
           replace HAx0 : Hid (Below w4.heap.size w4 w6.drew) := below_drewN HAx0.out 1
           replace HAg : Hid (Below w5.heap.size w5 w6.drew) := below_drewN HAg.out 1
           refine (toSubst_any l0 _ _ (HL0.out.below HB.out) hn0).mono ?_
           rintro e w7 ⟨vy, rfl, hoy, hb⟩
           replace ccp0 : w7.cell? ⟨w.heap.size, 0, none⟩ = some (.slice A0 l0.length cp0) := (hb.cell (p := ⟨w.heap.size, 0, none⟩) (by first | assumption | (simp; omega) | simp)).trans (by first | assumption | go_simp)
           replace ccx0 : w7.cell? ⟨w4.heap.size, 0, none⟩ = some (.slice Ax0 (l0).length cx0) := (hb.cell (p := ⟨w4.heap.size, 0, none⟩) (by first | assumption | (simp; omega) | simp)).trans (by first | assumption | go_simp)
           replace zzp0 : w.heap.size < w7.heap.size := by have hsz := hb.size; (try simp at hsz); omega
           replace zzx0 : w4.heap.size < w7.heap.size := by have hsz := hb.size; (try simp at hsz); omega
           replace HB : Hid (Below w.heap.size w w7) := HB.out.trans (hb.mono HB.out.size)
           replace HAw : Hid (Below w3.heap.size w3 w7) := HAw.out.trans (hb.mono HAw.out.size)
           replace HAx0 : Hid (Below w4.heap.size w4 w7) := HAx0.out.trans (hb.mono HAx0.out.size)
           replace HAg : Hid (Below w5.heap.size w5 w7) := HAg.out.trans (hb.mono HAg.out.size)
           have hs8 : w6.heap.size ≤ w7.heap.size := by have hsz := hb.size; (try simp at hsz); omega
           have HYY : Hid (Lst w7 vy (strs l0)) := Lst.of_own hoy
           clear hb hoy)
        | (go_at_call 30
           refine (eqSubst_same l0 _ _ _ ((Lst.of_own HXx0.out).below HAx0.out) HYY.out).mono ?_
           rintro e w8 ⟨rfl, hb⟩
           replace ccp0 : w8.cell? ⟨w.heap.size, 0, none⟩ = some (.slice A0 l0.length cp0) := (hb.cell (p := ⟨w.heap.size, 0, none⟩) (by first | assumption | (simp; omega) | simp)).trans (by first | assumption | go_simp)
           replace ccx0 : w8.cell? ⟨w4.heap.size, 0, none⟩ = some (.slice Ax0 (l0).length cx0) := (hb.cell (p := ⟨w4.heap.size, 0, none⟩) (by first | assumption | (simp; omega) | simp)).trans (by first | assumption | go_simp)
           replace zzp0 : w.heap.size < w8.heap.size := by have hsz := hb.size; (try simp at hsz); omega
           replace zzx0 : w4.heap.size < w8.heap.size := by have hsz := hb.size; (try simp at hsz); omega
           replace HB : Hid (Below w.heap.size w w8) := HB.out.trans (hb.mono HB.out.size)
           replace HAw : Hid (Below w3.heap.size w3 w8) := HAw.out.trans (hb.mono HAw.out.size)
           replace HAx0 : Hid (Below w4.heap.size w4 w8) := HAx0.out.trans (hb.mono HAx0.out.size)
           replace HAg : Hid (Below w5.heap.size w5 w8) := HAg.out.trans (hb.mono HAg.out.size)
           have hs9 : w7.heap.size ≤ w8.heap.size := by have hsz := hb.size; (try simp at hsz); omega
           clear hb HYY))
      all_goals
        go_wp2_with fail
        go_meet
        exact ⟨rfl, ccp0, ccx0, zzp0, zzx0, HB, HAw, HAx0, HAg, by omega⟩
    case rest =>
      clear ccp0 ccx0 zzp0 zzx0 HB HAw HAx0 HAg
      obtain ⟨rfl, ccp0, ccx0, zzp0, zzx0, HB, HAw, HAx0, HAg, hsc0⟩ := hcut
      obtain ⟨w9, rfl⟩ : ∃ x : World, x = wc := ⟨_, rfl⟩
      go_wp2_with fail
      refine (markSubst_own (w3.heap.size) _ 1 (l0).length _ _ (by omega) (by omega) (own_below HXx0.out HAx0.out)).mono ?_
      rintro e w10 ⟨rfl, ho, hg⟩
      have hk : KeepsOut (w3.heap.size) (w4.heap.size) w9 w10 := KeepsOut.of_grown hg (fun k hk => ⟨(HXx0.out.lt k hk).1, HTx0.out k hk⟩)
      clear hg
      have hs10 : w9.heap.size ≤ w10.heap.size := by have hsz := hk.size; (try simp at hsz); omega
      replace ccp0 : w10.cell? ⟨w.heap.size, 0, none⟩ = some (.slice A0 l0.length cp0) := KeepsOut.cell hk (by first | assumption | go_simp) (by omega)
      replace ccx0 : w10.cell? ⟨w4.heap.size, 0, none⟩ = some (.slice Ax0 (l0).length cx0) := KeepsOut.cell hk (by first | assumption | go_simp) (by omega)
      replace zzp0 : w.heap.size < w10.heap.size := by omega
      replace zzx0 : w4.heap.size < w10.heap.size := by omega
      replace HXg : Hid (w10.ownsRow (w4.heap.size + 1) 9 1 (.slice Ag (facR l0 a1 a2).length cg) (facR l0 a1 a2).length (strs (facR l0 a1 a2))) := KeepsOut.own (own_below HXg.out HAg.out) hk (fun j hj => .inr (by have := (HXg.out.lt j hj).1; omega))
      replace HB : Hid (Below w.heap.size w w10) := KeepsOut.below HB.out hk HB.out.size (by omega)
      replace HAw : Hid (Below w3.heap.size w3 w10) := KeepsOut.below HAw.out hk HAw.out.size (by omega)
      replace HAg : Hid (Below w10.heap.size w10 w10) := Below.refl _ _
      clear hk ho HXx0 HAx0
      go_wp2_with fail
      refine (eqStringS_b (facR l0 a1 a2) _ _ _ ((Lst.of_own HXg.out).below HAg.out) ((Lst.of_own HXw.out).below HAw.out)).mono ?_
      rintro e w11 ⟨rfl, hb⟩
      replace ccp0 : w11.cell? ⟨w.heap.size, 0, none⟩ = some (.slice A0 l0.length cp0) := (hb.cell (p := ⟨w.heap.size, 0, none⟩) (by first | assumption | (simp; omega) | simp)).trans (by first | assumption | go_simp)
      replace ccx0 : w11.cell? ⟨w4.heap.size, 0, none⟩ = some (.slice Ax0 (l0).length cx0) := (hb.cell (p := ⟨w4.heap.size, 0, none⟩) (by first | assumption | (simp; omega) | simp)).trans (by first | assumption | go_simp)
      replace zzp0 : w.heap.size < w11.heap.size := by have hsz := hb.size; (try simp at hsz); omega
      replace zzx0 : w4.heap.size < w11.heap.size := by have hsz := hb.size; (try simp at hsz); omega
      replace HB : Hid (Below w.heap.size w w11) := HB.out.trans (hb.mono HB.out.size)
      replace HAw : Hid (Below w3.heap.size w3 w11) := HAw.out.trans (hb.mono HAw.out.size)
      replace HAg : Hid (Below w10.heap.size w10 w11) := HAg.out.trans (hb.mono HAg.out.size)
      have hs11 : w10.heap.size ≤ w11.heap.size := by have hsz := hb.size; (try simp at hsz); omega
      clear hb
      go_wp2_with fail
      refine (markStringS_own (w4.heap.size + 1) _ 1 (facR l0 a1 a2).length _ _ (by omega) (by omega) (own_below HXg.out HAg.out)).mono ?_
      rintro e w12 ⟨rfl, ho, hg⟩
      have hk : KeepsOut (w4.heap.size + 1) (w5.heap.size) w11 w12 := KeepsOut.of_grown hg (fun k hk => ⟨(HXg.out.lt k hk).1, HTg.out k hk⟩)
      clear hg
      have hs12 : w11.heap.size ≤ w12.heap.size := by have hsz := hk.size; (try simp at hsz); omega
      replace ccp0 : w12.cell? ⟨w.heap.size, 0, none⟩ = some (.slice A0 l0.length cp0) := KeepsOut.cell hk (by first | assumption | go_simp) (by omega)
      replace ccx0 : w12.cell? ⟨w4.heap.size, 0, none⟩ = some (.slice Ax0 (l0).length cx0) := KeepsOut.cell hk (by first | assumption | go_simp) (by omega)
      replace zzp0 : w.heap.size < w12.heap.size := by omega
      replace zzx0 : w4.heap.size < w12.heap.size := by omega
      replace HB : Hid (Below w.heap.size w w12) := KeepsOut.below HB.out hk HB.out.size (by omega)
      replace HAw : Hid (Below w3.heap.size w3 w12) := KeepsOut.below HAw.out hk HAw.out.size (by omega)
      have HM : Hid (Lst w12 (.slice Ag (facR l0 a1 a2).length cg) (strs (marks 1 (facR l0 a1 a2).length))) := Lst.of_own ho
      clear hk ho HXg HAg
      have HAm : Hid (Below w12.heap.size w12 w12) := Below.refl _ _
      go_wp2_with fail
      refine (heldStringS_marks _ 1 (facR l0 a1 a2).length _ (by omega) (by omega) (Lst.below HM.out HAm.out)).mono ?_
      rintro e w13 ⟨rfl, hb⟩
      replace ccp0 : w13.cell? ⟨w.heap.size, 0, none⟩ = some (.slice A0 l0.length cp0) := (hb.cell (p := ⟨w.heap.size, 0, none⟩) (by first | assumption | (simp; omega) | simp)).trans (by first | assumption | go_simp)
      replace ccx0 : w13.cell? ⟨w4.heap.size, 0, none⟩ = some (.slice Ax0 (l0).length cx0) := (hb.cell (p := ⟨w4.heap.size, 0, none⟩) (by first | assumption | (simp; omega) | simp)).trans (by first | assumption | go_simp)
      replace zzp0 : w.heap.size < w13.heap.size := by have hsz := hb.size; (try simp at hsz); omega
      replace zzx0 : w4.heap.size < w13.heap.size := by have hsz := hb.size; (try simp at hsz); omega
      replace HB : Hid (Below w.heap.size w w13) := HB.out.trans (hb.mono HB.out.size)
      replace HAw : Hid (Below w3.heap.size w3 w13) := HAw.out.trans (hb.mono HAw.out.size)
      replace HAm : Hid (Below w12.heap.size w12 w13) := HAm.out.trans (hb.mono HAm.out.size)
      have hs13 : w12.heap.size ≤ w13.heap.size := by have hsz := hb.size; (try simp at hsz); omega
      clear hb
      go_wp2_with fail
      refine (toSubst_any l0 _ _ (HL0.out.below HB.out) hn0).mono ?_
      rintro e w14 ⟨vh0, rfl, ho, hb⟩
      obtain ⟨Ah0, ch0, rfl⟩ := own_slice ho
      have HXh0 : Hid (w14.ownsRow (w13.heap.size) 9 1 (.slice Ah0 (l0).length ch0) (l0).length (strs (l0))) := ho
      have HTh0 : Hid (∀ k, Value.ownBlock (.slice Ah0 (l0).length ch0) = some k → k < w14.heap.size) := fun k hk => (HXh0.out.lt k hk).2
      replace ccp0 : w14.cell? ⟨w.heap.size, 0, none⟩ = some (.slice A0 l0.length cp0) := (hb.cell (p := ⟨w.heap.size, 0, none⟩) (by first | assumption | (simp; omega) | simp)).trans (by first | assumption | go_simp)
      replace ccx0 : w14.cell? ⟨w4.heap.size, 0, none⟩ = some (.slice Ax0 (l0).length cx0) := (hb.cell (p := ⟨w4.heap.size, 0, none⟩) (by first | assumption | (simp; omega) | simp)).trans (by first | assumption | go_simp)
      replace zzp0 : w.heap.size < w14.heap.size := by have hsz := hb.size; (try simp at hsz); omega
      replace zzx0 : w4.heap.size < w14.heap.size := by have hsz := hb.size; (try simp at hsz); omega
      replace HB : Hid (Below w.heap.size w w14) := HB.out.trans (hb.mono HB.out.size)
      replace HAw : Hid (Below w3.heap.size w3 w14) := HAw.out.trans (hb.mono HAw.out.size)
      replace HAm : Hid (Below w12.heap.size w12 w14) := HAm.out.trans (hb.mono HAm.out.size)
      have hs14 : w13.heap.size ≤ w14.heap.size := by have hsz := hb.size; (try simp at hsz); omega
      have HAh0 : Hid (Below w14.heap.size w14 w14) := Below.refl _ _
      clear hb ho
      go_wp2_with fail
      refine (implFixedFactors l0 _ a1 a2 _ ((Lst.of_own HXh0.out).below HAh0.out) HZ0.out hn0 h1).mono ?_
      rintro e w15 ⟨vh, rfl, ho, hb⟩
      obtain ⟨Ah, ch, rfl⟩ := own_slice ho
      have HXh : Hid (w15.ownsRow (w14.heap.size) 9 1 (.slice Ah (facR l0 a1 a2).length ch) (facR l0 a1 a2).length (strs (facR l0 a1 a2))) := ho
      have HTh : Hid (∀ k, Value.ownBlock (.slice Ah (facR l0 a1 a2).length ch) = some k → k < w15.heap.size) := fun k hk => (HXh.out.lt k hk).2
      replace ccp0 : w15.cell? ⟨w.heap.size, 0, none⟩ = some (.slice A0 l0.length cp0) := (hb.cell (p := ⟨w.heap.size, 0, none⟩) (by first | assumption | (simp; omega) | simp)).trans (by first | assumption | go_simp)
      replace ccx0 : w15.cell? ⟨w4.heap.size, 0, none⟩ = some (.slice Ax0 (l0).length cx0) := (hb.cell (p := ⟨w4.heap.size, 0, none⟩) (by first | assumption | (simp; omega) | simp)).trans (by first | assumption | go_simp)
      replace zzp0 : w.heap.size < w15.heap.size := by have hsz := hb.size; (try simp at hsz); omega
      replace zzx0 : w4.heap.size < w15.heap.size := by have hsz := hb.size; (try simp at hsz); omega
      replace HB : Hid (Below w.heap.size w w15) := HB.out.trans (hb.mono HB.out.size)
      replace HAw : Hid (Below w3.heap.size w3 w15) := HAw.out.trans (hb.mono HAw.out.size)
      replace HAm : Hid (Below w12.heap.size w12 w15) := HAm.out.trans (hb.mono HAm.out.size)
      replace HAh0 : Hid (Below w14.heap.size w14 w15) := HAh0.out.trans (hb.mono HAh0.out.size)
      have hs15 : w14.heap.size ≤ w15.heap.size := by have hsz := hb.size; (try simp at hsz); omega
      have HAh : Hid (Below w15.heap.size w15 w15) := Below.refl _ _
      clear hb ho
      clear HXh0 HAh0 HTh0
      go_wp2_with fail
      refine (eqStringS_b (facR l0 a1 a2) _ _ _ ((Lst.of_own HXh.out).below HAh.out) ((Lst.of_own HXw.out).below HAw.out)).mono ?_
      rintro e w16 ⟨rfl, hb⟩
      replace ccp0 : w16.cell? ⟨w.heap.size, 0, none⟩ = some (.slice A0 l0.length cp0) := (hb.cell (p := ⟨w.heap.size, 0, none⟩) (by first | assumption | (simp; omega) | simp)).trans (by first | assumption | go_simp)
      replace ccx0 : w16.cell? ⟨w4.heap.size, 0, none⟩ = some (.slice Ax0 (l0).length cx0) := (hb.cell (p := ⟨w4.heap.size, 0, none⟩) (by first | assumption | (simp; omega) | simp)).trans (by first | assumption | go_simp)
      replace zzp0 : w.heap.size < w16.heap.size := by have hsz := hb.size; (try simp at hsz); omega
      replace zzx0 : w4.heap.size < w16.heap.size := by have hsz := hb.size; (try simp at hsz); omega
      replace HB : Hid (Below w.heap.size w w16) := HB.out.trans (hb.mono HB.out.size)
      replace HAw : Hid (Below w3.heap.size w3 w16) := HAw.out.trans (hb.mono HAw.out.size)
      replace HAm : Hid (Below w12.heap.size w12 w16) := HAm.out.trans (hb.mono HAm.out.size)
      replace HAh : Hid (Below w15.heap.size w15 w16) := HAh.out.trans (hb.mono HAh.out.size)
      have hs16 : w15.heap.size ≤ w16.heap.size := by have hsz := hb.size; (try simp at hsz); omega
      clear hb
      go_wp2_with fail
      refine (heldStringS_marks _ 1 (facR l0 a1 a2).length _ (by omega) (by omega) (Lst.below HM.out HAm.out)).mono ?_
      rintro e w17 ⟨rfl, hb⟩
      replace ccp0 : w17.cell? ⟨w.heap.size, 0, none⟩ = some (.slice A0 l0.length cp0) := (hb.cell (p := ⟨w.heap.size, 0, none⟩) (by first | assumption | (simp; omega) | simp)).trans (by first | assumption | go_simp)
      replace ccx0 : w17.cell? ⟨w4.heap.size, 0, none⟩ = some (.slice Ax0 (l0).length cx0) := (hb.cell (p := ⟨w4.heap.size, 0, none⟩) (by first | assumption | (simp; omega) | simp)).trans (by first | assumption | go_simp)
      replace zzp0 : w.heap.size < w17.heap.size := by have hsz := hb.size; (try simp at hsz); omega
      replace zzx0 : w4.heap.size < w17.heap.size := by have hsz := hb.size; (try simp at hsz); omega
      replace HB : Hid (Below w.heap.size w w17) := HB.out.trans (hb.mono HB.out.size)
      replace HAw : Hid (Below w3.heap.size w3 w17) := HAw.out.trans (hb.mono HAw.out.size)
      replace HAm : Hid (Below w12.heap.size w12 w17) := HAm.out.trans (hb.mono HAm.out.size)
      replace HAh : Hid (Below w15.heap.size w15 w17) := HAh.out.trans (hb.mono HAh.out.size)
      have hs17 : w16.heap.size ≤ w17.heap.size := by have hsz := hb.size; (try simp at hsz); omega
      clear hb
      go_wp2_with fail
      go_ret
      exact ⟨rfl, HB.out⟩
  · go_enter Try.func10, Try.ntmps10
    go_wp2_with fail
    go_ret
    exact ⟨rfl, HB.out⟩

set_option maxRecDepth 100000 in
theorem fnExactFixedFactors_walk {H : Type} {enc : TypeId × Value → H} {base : Nat} {r : Reach} {b0 : Nat} {d0 : DataW H} {ps0 : List MemPlace} (v0 : Value) (a1 : ByteArray) (a2 : Int) (w : World) (hval0 : Value.okWide Try.prog w r b0 39 v0) (h0 : DataW.Trod enc Try.prog w base (fun _ => true) true 39 v0 d0 ps0) (b1 : a1.size ≤ maxLen) (b2 : (Lit.int .i64 a2).wf = true) :
    Calls Try.prog 10 #[v0, .string a1, .int .i64 a2] w fun e w' => e = .returned (.bool true) ∧ Below w.heap.size w w' := by
  obtain ⟨u0, l0, rfl, hl0, hz0⟩ := subst_arg Try.underlying39 (by kernel_rfl) rfl (by kernel_rfl) Try.underlying22 Try.underlying9 cellsOf_str hval0 h0
  exact fnExactFixedFactors_walk0 l0 u0 a1 a2 w hl0 hz0 b1 b2

set_option maxRecDepth 100000 in
theorem fnExactFixedFactors_row (os : Os) (started : os.Started) (H : Type) (enc : TypeId × Value → H) :
    ReturnsInHanded {} Try.checked os 10 .any (Rows.fnExactFixedFactorsSpec.pre6 enc Try.prog Try.f10 Rows.fnExactFixedFactorsRow.domain false) (Rows.fnExactFixedFactorsSpec.post enc Try.prog Try.f10 false true false false) :=
  lawLifted (C := Try.checked) ownKnobs started (by kernel_rfl) Try.func10 laidOut (by kernel_rfl) (by kernel_rfl) Try.underlying4 rfl
    (fun ds h => by match ds, h with | [_, _, _], _ => rfl)
    (ChangeSpec.witness6 (enc := enc) (C := Try.checked) false ⟨#[], #[.agg #[.slice none 0 0], .string ⟨#[]⟩, .int .i64 0], []⟩ 8 (by kernel_rfl) (by kernel_rfl) (by kernel_rfl) (by kernel_rfl))
    (fun W base args ds p hval0 hA0 hlt => by
      have hval : ∀ (j : Nat) t v, Try.f10.params[j]? = some t → args[j]? = some v → Value.okWide Try.prog W .any base t v := hval0
      have hA : DataW.TrodAll enc Try.prog W 0 (fun _ => true) true Try.f10.params.toList args.toList ds p := hA0
      clear hval0 hA0
      rw [Try.params10] at hA hval
      obtain ⟨v0, v1, v2, d0, d1, d2, p0, p1, p2, rfl, rfl, rfl, h0, h1, h2⟩ := trodAll_three hA
      obtain ⟨a1, rfl, rfl, rfl, b1⟩ := open_string Try.underlying9 (hval 1 9 v1 rfl rfl) h1
      obtain ⟨a2, rfl, rfl, rfl, b2⟩ := open_int Try.underlying3 (hval 2 3 v2 rfl rfl) h2
      exact fnExactFixedFactors_walk v0 a1 a2 W (hval 0 39 v0 rfl rfl) h0 b1 b2)

theorem fnExactFixedFactors_holds : Rows.FnExactFixedFactorsSaid :=
  OpenClaim.holds_of_wide 10 Try.f10 rfl rfl rfl rfl rfl rfl rfl ⟨rfl, rfl, rfl, rfl, rfl⟩ rfl rfl rfl rfl rfl (by kernel_rfl) Try.func10 (by kernel_rfl)
    (of_decide_eq_true (by kernel_rfl)) (by unfold Func.isWrapper; first | (rw [if_pos (by decide +kernel)]; kernel_rfl) | (rw [if_neg (by decide +kernel)]; exact ⟨rfl, rfl⟩))
    (fun os started H enc _ => fnExactFixedFactors_row os started H enc)


end Go.Proofs.Ytbbcdeknnfghkaa
