/- FnExactCountAfter: for every argument the law returns true and its arguments read as before. No condition. -/
import Derived.Test.YtgidfainoijcmaaOwn
import Derived.Test.YtgidfainoijcmaaSubstArgs
import Derived.Test.YtgidfainoijcmaaMatLaw
import Derived.Deep.RegionWith
import Derived.Test.YtgidfainoijcmaaCountM
import Derived.Test.YtgidfainoijcmaaSqKb
import Derived.Deep.DeepCutAuto
namespace Go.Proofs.Ytgidfainoijcmaa
open Go.ChangeShapes Go.WideShapes Go.ChangeAt Go.RowKit
open Go.ChangeMaps (open_string shut_string)

set_option maxHeartbeats 4000000 in
set_option maxRecDepth 100000 in
theorem fnExactCountAfter_walk0 (l0 : List ByteArray) (v0 : Value) (l1 : List Int) (v1 : Value) (a2 : Int) (w : World) (q0 : Lst w v0 (strs l0)) (y0 : ∀ x ∈ l0, x.size ≤ maxLen) (q1 : Lst w v1 (ints l1)) (y1 : ∀ z ∈ l1, (Lit.int .i64 z).wf = true) (_ : (Lit.int .i64 a2).wf = true) :
    Calls Try.prog 5 #[.agg #[v0], v1, .int .i64 a2] w fun e w' => e = .returned (.bool true) ∧ Below w.heap.size w w' := by
  obtain ⟨A0, cp0, rfl⟩ := lst_slice q0
  obtain ⟨A1, cp1, rfl⟩ := lst_slice q1
  simp only [strs_length] at q0 ⊢
  simp only [ints_length] at q1 ⊢
  have hmx1 : l1.length ≤ 9223372036854775807 := by obtain ⟨_, _, e, h1, h2, _⟩ := q1; rw [ints_length] at h1; unfold maxLen at h2; omega
  have HL0 := Lib.hid q0
  have HY0 := Lib.hid y0
  have HL1 := Lib.hid q1
  have HY1 := Lib.hid y1
  have HW1 := HY1
  clear q0 y0 q1 y1
  have HB : Hid (Below w.heap.size w (w.alloc (.cells #[.slice A0 l0.length cp0] 42))) := ((Below.refl w.heap.size w).alloc (Nat.le_refl _) _)
  have hres0 := caR_le l0 l1 a2
  by_cases hn1 : l1.length ≤ 1048576
  · skip
    go_enter Try.func5, Try.ntmps5
    go_wp2_with fail
    refine (szSubst_any l0 _ 1048576 _ (HL0.out.below HB.out) HY0.out (by omega) (by omega)).mono ?_
    rintro e w1 ⟨hb, r0, rfl, hr1, hr2, hr3⟩
    have ccp0 : w1.cell? ⟨w.heap.size, 0, none⟩ = some (.slice A0 l0.length cp0) := (hb.cell (p := ⟨w.heap.size, 0, none⟩) (by first | assumption | (simp; omega) | simp)).trans (by first | assumption | go_simp)
    have zzp0 : w.heap.size < w1.heap.size := by have hsz := hb.size; (try simp at hsz); omega
    replace HB : Hid (Below w.heap.size w w1) := HB.out.trans (hb.mono HB.out.size)
    have hs2 : w.heap.size + 1 ≤ w1.heap.size := by have hsz := hb.size; (try simp at hsz); omega
    have HR00 := Lib.hid hr3
    clear hb hr3
    by_cases hneg0 : r0 < 0
    · go_wp2_with fail
      go_ret
      exact ⟨rfl, HB.out⟩
    have hge0 : 0 ≤ r0 := by omega
    obtain ⟨hn0, hz0⟩ := sz_use (HR00.out hge0) hge0 (by omega)
    have HZ0 := Lib.hid hz0
    clear hz0
    have hle0 : r0 ≤ 1048576 := by omega
    clear hr1 hr2
    go_wp2_with fail
    refine (toSubst_any l0 _ _ (HL0.out.below HB.out) hn0).mono ?_
    rintro e w2 ⟨vt0, rfl, ho, hb⟩
    obtain ⟨At0, ct0, rfl⟩ := own_slice ho
    have HXt0 : Hid (w2.ownsRow (w1.heap.size) 9 1 (.slice At0 (l0).length ct0) (l0).length (strs (l0))) := ho
    have HTt0 : Hid (∀ k, Value.ownBlock (.slice At0 (l0).length ct0) = some k → k < w2.heap.size) := fun k hk => (HXt0.out.lt k hk).2
    replace ccp0 : w2.cell? ⟨w.heap.size, 0, none⟩ = some (.slice A0 l0.length cp0) := (hb.cell (p := ⟨w.heap.size, 0, none⟩) (by first | assumption | (simp; omega) | simp)).trans (by first | assumption | go_simp)
    replace zzp0 : w.heap.size < w2.heap.size := by have hsz := hb.size; (try simp at hsz); omega
    replace HB : Hid (Below w.heap.size w w2) := HB.out.trans (hb.mono HB.out.size)
    have hs3 : w1.heap.size ≤ w2.heap.size := by have hsz := hb.size; (try simp at hsz); omega
    have HAt0 : Hid (Below w2.heap.size w2 w2) := Below.refl _ _
    clear hb ho
    go_wp2_with fail
    refine (toIntS_any l1 _ _ (HL1.out.below HB.out) hn1).mono ?_
    rintro e w3 ⟨vt1, rfl, ho, hb⟩
    obtain ⟨At1, ct1, rfl⟩ := own_slice ho
    have HXt1 : Hid (w3.ownsRow (w2.heap.size) 3 1 (.slice At1 (l1).length ct1) (l1).length (ints (l1))) := ho
    have HTt1 : Hid (∀ k, Value.ownBlock (.slice At1 (l1).length ct1) = some k → k < w3.heap.size) := fun k hk => (HXt1.out.lt k hk).2
    replace ccp0 : w3.cell? ⟨w.heap.size, 0, none⟩ = some (.slice A0 l0.length cp0) := (hb.cell (p := ⟨w.heap.size, 0, none⟩) (by first | assumption | (simp; omega) | simp)).trans (by first | assumption | go_simp)
    replace zzp0 : w.heap.size < w3.heap.size := by have hsz := hb.size; (try simp at hsz); omega
    replace HB : Hid (Below w.heap.size w w3) := HB.out.trans (hb.mono HB.out.size)
    replace HAt0 : Hid (Below w2.heap.size w2 w3) := HAt0.out.trans (hb.mono HAt0.out.size)
    have hs4 : w2.heap.size ≤ w3.heap.size := by have hsz := hb.size; (try simp at hsz); omega
    have HAt1 : Hid (Below w3.heap.size w3 w3) := Below.refl _ _
    clear hb ho
    go_wp2_with fail
    refine (specCountAfter l0 _ l1 _ a2 _ ((Lst.of_own HXt0.out).below HAt0.out) HZ0.out hn0 ((Lst.of_own HXt1.out).below HAt1.out) hn1).mono ?_
    rintro e w4 ⟨vw, rfl, ho, hb⟩
    obtain ⟨Aw, cw, rfl⟩ := own_slice ho
    have HXw : Hid (w4.ownsRow (w3.heap.size) 3 1 (.slice Aw (caR l0 l1 a2).length cw) (caR l0 l1 a2).length (ints (caR l0 l1 a2))) := ho
    have HTw : Hid (∀ k, Value.ownBlock (.slice Aw (caR l0 l1 a2).length cw) = some k → k < w4.heap.size) := fun k hk => (HXw.out.lt k hk).2
    replace ccp0 : w4.cell? ⟨w.heap.size, 0, none⟩ = some (.slice A0 l0.length cp0) := (hb.cell (p := ⟨w.heap.size, 0, none⟩) (by first | assumption | (simp; omega) | simp)).trans (by first | assumption | go_simp)
    replace zzp0 : w.heap.size < w4.heap.size := by have hsz := hb.size; (try simp at hsz); omega
    replace HB : Hid (Below w.heap.size w w4) := HB.out.trans (hb.mono HB.out.size)
    replace HAt0 : Hid (Below w2.heap.size w2 w4) := HAt0.out.trans (hb.mono HAt0.out.size)
    replace HAt1 : Hid (Below w3.heap.size w3 w4) := HAt1.out.trans (hb.mono HAt1.out.size)
    have hs5 : w3.heap.size ≤ w4.heap.size := by have hsz := hb.size; (try simp at hsz); omega
    have HAw : Hid (Below w4.heap.size w4 w4) := Below.refl _ _
    clear hb ho
    clear HXt0 HAt0 HTt0
    clear HXt1 HAt1 HTt1
    go_wp2_with fail
    refine (toSubst_any l0 _ _ (HL0.out.below HB.out) hn0).mono ?_
    rintro e w5 ⟨vx0, rfl, ho, hb⟩
    obtain ⟨Ax0, cx0, rfl⟩ := own_slice ho
    have HXx0 : Hid (w5.ownsRow (w4.heap.size) 9 1 (.slice Ax0 (l0).length cx0) (l0).length (strs (l0))) := ho
    have HTx0 : Hid (∀ k, Value.ownBlock (.slice Ax0 (l0).length cx0) = some k → k < w5.heap.size) := fun k hk => (HXx0.out.lt k hk).2
    replace ccp0 : w5.cell? ⟨w.heap.size, 0, none⟩ = some (.slice A0 l0.length cp0) := (hb.cell (p := ⟨w.heap.size, 0, none⟩) (by first | assumption | (simp; omega) | simp)).trans (by first | assumption | go_simp)
    replace zzp0 : w.heap.size < w5.heap.size := by have hsz := hb.size; (try simp at hsz); omega
    replace HB : Hid (Below w.heap.size w w5) := HB.out.trans (hb.mono HB.out.size)
    replace HAw : Hid (Below w4.heap.size w4 w5) := HAw.out.trans (hb.mono HAw.out.size)
    have hs6 : w4.heap.size ≤ w5.heap.size := by have hsz := hb.size; (try simp at hsz); omega
    have HAx0 : Hid (Below w5.heap.size w5 w5) := Below.refl _ _
    clear hb ho
    go_wp2_with fail
    replace HB : Hid (Below w.heap.size w (w5.alloc (.cells #[.slice Ax0 (l0).length cx0] 25))) := HB.out.alloc HB.out.size _
    replace HAw : Hid (Below w4.heap.size w4 (w5.alloc (.cells #[.slice Ax0 (l0).length cx0] 25))) := HAw.out.alloc HAw.out.size _
    replace HAx0 : Hid (Below w5.heap.size w5 (w5.alloc (.cells #[.slice Ax0 (l0).length cx0] 25))) := HAx0.out.alloc HAx0.out.size _
    refine (toIntS_any l1 _ _ (HL1.out.below HB.out) hn1).mono ?_
    rintro e w6 ⟨vx1, rfl, ho, hb⟩
    obtain ⟨Ax1, cx1, rfl⟩ := own_slice ho
    have HXx1 : Hid (w6.ownsRow (w5.heap.size + 1) 3 1 (.slice Ax1 (l1).length cx1) (l1).length (ints (l1))) := own_mono ho (by first | omega | (simp; try omega))
    have HTx1 : Hid (∀ k, Value.ownBlock (.slice Ax1 (l1).length cx1) = some k → k < w6.heap.size) := fun k hk => (HXx1.out.lt k hk).2
    replace ccp0 : w6.cell? ⟨w.heap.size, 0, none⟩ = some (.slice A0 l0.length cp0) := (hb.cell (p := ⟨w.heap.size, 0, none⟩) (by first | assumption | (simp; omega) | simp)).trans (by first | assumption | go_simp)
    have ccx0 : w6.cell? ⟨w5.heap.size, 0, none⟩ = some (.slice Ax0 (l0).length cx0) := (hb.cell (p := ⟨w5.heap.size, 0, none⟩) (by first | assumption | (simp; omega) | simp)).trans (by first | assumption | go_simp)
    replace zzp0 : w.heap.size < w6.heap.size := by have hsz := hb.size; (try simp at hsz); omega
    have zzx0 : w5.heap.size < w6.heap.size := by have hsz := hb.size; (try simp at hsz); omega
    replace HB : Hid (Below w.heap.size w w6) := HB.out.trans (hb.mono HB.out.size)
    replace HAw : Hid (Below w4.heap.size w4 w6) := HAw.out.trans (hb.mono HAw.out.size)
    replace HAx0 : Hid (Below w5.heap.size w5 w6) := HAx0.out.trans (hb.mono HAx0.out.size)
    have hs7 : w5.heap.size + 1 ≤ w6.heap.size := by have hsz := hb.size; (try simp at hsz); omega
    have HAx1 : Hid (Below w6.heap.size w6 w6) := Below.refl _ _
    clear hb ho
    go_wp2_with fail
    refine (implCountAfter l0 _ l1 _ a2 _ ((Lst.of_own HXx0.out).below HAx0.out) HZ0.out hn0 ((Lst.of_own HXx1.out).below HAx1.out) hn1).mono ?_
    rintro e w7 ⟨vg, rfl, ho, hb⟩
    obtain ⟨Ag, cg, rfl⟩ := own_slice ho
    have HXg : Hid (w7.ownsRow (w6.heap.size) 3 1 (.slice Ag (caR l0 l1 a2).length cg) (caR l0 l1 a2).length (ints (caR l0 l1 a2))) := ho
    have HTg : Hid (∀ k, Value.ownBlock (.slice Ag (caR l0 l1 a2).length cg) = some k → k < w7.heap.size) := fun k hk => (HXg.out.lt k hk).2
    replace ccp0 : w7.cell? ⟨w.heap.size, 0, none⟩ = some (.slice A0 l0.length cp0) := (hb.cell (p := ⟨w.heap.size, 0, none⟩) (by first | assumption | (simp; omega) | simp)).trans (by first | assumption | go_simp)
    replace ccx0 : w7.cell? ⟨w5.heap.size, 0, none⟩ = some (.slice Ax0 (l0).length cx0) := (hb.cell (p := ⟨w5.heap.size, 0, none⟩) (by first | assumption | (simp; omega) | simp)).trans (by first | assumption | go_simp)
    replace zzp0 : w.heap.size < w7.heap.size := by have hsz := hb.size; (try simp at hsz); omega
    replace zzx0 : w5.heap.size < w7.heap.size := by have hsz := hb.size; (try simp at hsz); omega
    replace HB : Hid (Below w.heap.size w w7) := HB.out.trans (hb.mono HB.out.size)
    replace HAw : Hid (Below w4.heap.size w4 w7) := HAw.out.trans (hb.mono HAw.out.size)
    replace HAx0 : Hid (Below w5.heap.size w5 w7) := HAx0.out.trans (hb.mono HAx0.out.size)
    replace HAx1 : Hid (Below w6.heap.size w6 w7) := HAx1.out.trans (hb.mono HAx1.out.size)
    have hs8 : w6.heap.size ≤ w7.heap.size := by have hsz := hb.size; (try simp at hsz); omega
    have HAg : Hid (Below w7.heap.size w7 w7) := Below.refl _ _
    clear hb ho
    go_wp2_with fail
    refine (eqIntS_b (caR l0 l1 a2) _ _ _ ((Lst.of_own HXg.out).below HAg.out) ((Lst.of_own HXw.out).below HAw.out)).mono ?_
    rintro e w8 ⟨rfl, hb⟩
    replace ccp0 : w8.cell? ⟨w.heap.size, 0, none⟩ = some (.slice A0 l0.length cp0) := (hb.cell (p := ⟨w.heap.size, 0, none⟩) (by first | assumption | (simp; omega) | simp)).trans (by first | assumption | go_simp)
    replace ccx0 : w8.cell? ⟨w5.heap.size, 0, none⟩ = some (.slice Ax0 (l0).length cx0) := (hb.cell (p := ⟨w5.heap.size, 0, none⟩) (by first | assumption | (simp; omega) | simp)).trans (by first | assumption | go_simp)
    replace zzp0 : w.heap.size < w8.heap.size := by have hsz := hb.size; (try simp at hsz); omega
    replace zzx0 : w5.heap.size < w8.heap.size := by have hsz := hb.size; (try simp at hsz); omega
    replace HB : Hid (Below w.heap.size w w8) := HB.out.trans (hb.mono HB.out.size)
    replace HAw : Hid (Below w4.heap.size w4 w8) := HAw.out.trans (hb.mono HAw.out.size)
    replace HAx0 : Hid (Below w5.heap.size w5 w8) := HAx0.out.trans (hb.mono HAx0.out.size)
    replace HAx1 : Hid (Below w6.heap.size w6 w8) := HAx1.out.trans (hb.mono HAx1.out.size)
    replace HAg : Hid (Below w7.heap.size w7 w8) := HAg.out.trans (hb.mono HAg.out.size)
    have hs9 : w7.heap.size ≤ w8.heap.size := by have hsz := hb.size; (try simp at hsz); omega
    clear hb
    go_upto_region 13 with (fail)
    go_cut [60] (fun s wx => s = .bool false ∧ wx.cell? ⟨w.heap.size, 0, none⟩ = some (.slice A0 l0.length cp0) ∧ wx.cell? ⟨w5.heap.size, 0, none⟩ = some (.slice Ax0 (l0).length cx0) ∧ w.heap.size < wx.heap.size ∧ w5.heap.size < wx.heap.size ∧ Hid (Below w.heap.size w wx) ∧ Hid (Below w4.heap.size w4 wx) ∧ Hid (Below w5.heap.size w5 wx) ∧ Hid (Below w6.heap.size w6 wx) ∧ Hid (Below w7.heap.size w7 wx) ∧ w8.heap.size ≤ wx.heap.size)
    case first =>
      go_region_with (first
        | (go_at_call 27
           replace HB : Hid (Below w.heap.size w w8.drew) := below_drewN HB.out 1
           replace HAw : Hid (Below w4.heap.size w4 w8.drew) := below_drewN HAw.out 1
           replace HAx0 : Hid (Below w5.heap.size w5 w8.drew) := below_drewN HAx0.out 1
           replace HAx1 : Hid (Below w6.heap.size w6 w8.drew) := below_drewN HAx1.out 1
           replace HAg : Hid (Below w7.heap.size w7 w8.drew) := below_drewN HAg.out 1
           refine (toSubst_any l0 _ _ (HL0.out.below HB.out) hn0).mono ?_
           rintro e w9 ⟨vy, rfl, hoy, hb⟩
           replace ccp0 : w9.cell? ⟨w.heap.size, 0, none⟩ = some (.slice A0 l0.length cp0) := (hb.cell (p := ⟨w.heap.size, 0, none⟩) (by first | assumption | (simp; omega) | simp)).trans (by first | assumption | go_simp)
           replace ccx0 : w9.cell? ⟨w5.heap.size, 0, none⟩ = some (.slice Ax0 (l0).length cx0) := (hb.cell (p := ⟨w5.heap.size, 0, none⟩) (by first | assumption | (simp; omega) | simp)).trans (by first | assumption | go_simp)
           replace zzp0 : w.heap.size < w9.heap.size := by have hsz := hb.size; (try simp at hsz); omega
           replace zzx0 : w5.heap.size < w9.heap.size := by have hsz := hb.size; (try simp at hsz); omega
           replace HB : Hid (Below w.heap.size w w9) := HB.out.trans (hb.mono HB.out.size)
           replace HAw : Hid (Below w4.heap.size w4 w9) := HAw.out.trans (hb.mono HAw.out.size)
           replace HAx0 : Hid (Below w5.heap.size w5 w9) := HAx0.out.trans (hb.mono HAx0.out.size)
           replace HAx1 : Hid (Below w6.heap.size w6 w9) := HAx1.out.trans (hb.mono HAx1.out.size)
           replace HAg : Hid (Below w7.heap.size w7 w9) := HAg.out.trans (hb.mono HAg.out.size)
           have hs10 : w8.heap.size ≤ w9.heap.size := by have hsz := hb.size; (try simp at hsz); omega
           have HYY : Hid (Lst w9 vy (strs l0)) := Lst.of_own hoy
           clear hb hoy)
        | (go_at_call 29
           refine (eqSubst_same l0 _ _ _ ((Lst.of_own HXx0.out).below HAx0.out) HYY.out).mono ?_
           rintro e w10 ⟨rfl, hb⟩
           replace ccp0 : w10.cell? ⟨w.heap.size, 0, none⟩ = some (.slice A0 l0.length cp0) := (hb.cell (p := ⟨w.heap.size, 0, none⟩) (by first | assumption | (simp; omega) | simp)).trans (by first | assumption | go_simp)
           replace ccx0 : w10.cell? ⟨w5.heap.size, 0, none⟩ = some (.slice Ax0 (l0).length cx0) := (hb.cell (p := ⟨w5.heap.size, 0, none⟩) (by first | assumption | (simp; omega) | simp)).trans (by first | assumption | go_simp)
           replace zzp0 : w.heap.size < w10.heap.size := by have hsz := hb.size; (try simp at hsz); omega
           replace zzx0 : w5.heap.size < w10.heap.size := by have hsz := hb.size; (try simp at hsz); omega
           replace HB : Hid (Below w.heap.size w w10) := HB.out.trans (hb.mono HB.out.size)
           replace HAw : Hid (Below w4.heap.size w4 w10) := HAw.out.trans (hb.mono HAw.out.size)
           replace HAx0 : Hid (Below w5.heap.size w5 w10) := HAx0.out.trans (hb.mono HAx0.out.size)
           replace HAx1 : Hid (Below w6.heap.size w6 w10) := HAx1.out.trans (hb.mono HAx1.out.size)
           replace HAg : Hid (Below w7.heap.size w7 w10) := HAg.out.trans (hb.mono HAg.out.size)
           have hs11 : w9.heap.size ≤ w10.heap.size := by have hsz := hb.size; (try simp at hsz); omega
           clear hb HYY))
      all_goals
        go_wp2_with fail
        go_meet
        exact ⟨rfl, ccp0, ccx0, zzp0, zzx0, HB, HAw, HAx0, HAx1, HAg, by omega⟩
    case rest =>
      clear ccp0 ccx0 zzp0 zzx0 HB HAw HAx0 HAx1 HAg
      obtain ⟨rfl, ccp0, ccx0, zzp0, zzx0, HB, HAw, HAx0, HAx1, HAg, hsc0⟩ := hcut
      obtain ⟨w11, rfl⟩ : ∃ x : World, x = wc := ⟨_, rfl⟩
      go_wp2_with fail
      refine (toIntS_any l1 _ _ (HL1.out.below HB.out) hn1).mono ?_
      rintro e w12 ⟨vy1, rfl, ho, hb⟩
      obtain ⟨Ay1, cy1, rfl⟩ := own_slice ho
      have HXy1 : Hid (w12.ownsRow (w11.heap.size) 3 1 (.slice Ay1 (l1).length cy1) (l1).length (ints (l1))) := ho
      have HTy1 : Hid (∀ k, Value.ownBlock (.slice Ay1 (l1).length cy1) = some k → k < w12.heap.size) := fun k hk => (HXy1.out.lt k hk).2
      replace ccp0 : w12.cell? ⟨w.heap.size, 0, none⟩ = some (.slice A0 l0.length cp0) := (hb.cell (p := ⟨w.heap.size, 0, none⟩) (by first | assumption | (simp; omega) | simp)).trans (by first | assumption | go_simp)
      replace ccx0 : w12.cell? ⟨w5.heap.size, 0, none⟩ = some (.slice Ax0 (l0).length cx0) := (hb.cell (p := ⟨w5.heap.size, 0, none⟩) (by first | assumption | (simp; omega) | simp)).trans (by first | assumption | go_simp)
      replace zzp0 : w.heap.size < w12.heap.size := by have hsz := hb.size; (try simp at hsz); omega
      replace zzx0 : w5.heap.size < w12.heap.size := by have hsz := hb.size; (try simp at hsz); omega
      replace HB : Hid (Below w.heap.size w w12) := HB.out.trans (hb.mono HB.out.size)
      replace HAw : Hid (Below w4.heap.size w4 w12) := HAw.out.trans (hb.mono HAw.out.size)
      replace HAx0 : Hid (Below w5.heap.size w5 w12) := HAx0.out.trans (hb.mono HAx0.out.size)
      replace HAx1 : Hid (Below w6.heap.size w6 w12) := HAx1.out.trans (hb.mono HAx1.out.size)
      replace HAg : Hid (Below w7.heap.size w7 w12) := HAg.out.trans (hb.mono HAg.out.size)
      have hs12 : w11.heap.size ≤ w12.heap.size := by have hsz := hb.size; (try simp at hsz); omega
      have HAy1 : Hid (Below w12.heap.size w12 w12) := Below.refl _ _
      clear hb ho
      go_wp2_with fail
      refine (eqIntS_b (l1) _ _ _ ((Lst.of_own HXx1.out).below HAx1.out) ((Lst.of_own HXy1.out).below HAy1.out)).mono ?_
      rintro e w13 ⟨rfl, hb⟩
      replace ccp0 : w13.cell? ⟨w.heap.size, 0, none⟩ = some (.slice A0 l0.length cp0) := (hb.cell (p := ⟨w.heap.size, 0, none⟩) (by first | assumption | (simp; omega) | simp)).trans (by first | assumption | go_simp)
      replace ccx0 : w13.cell? ⟨w5.heap.size, 0, none⟩ = some (.slice Ax0 (l0).length cx0) := (hb.cell (p := ⟨w5.heap.size, 0, none⟩) (by first | assumption | (simp; omega) | simp)).trans (by first | assumption | go_simp)
      replace zzp0 : w.heap.size < w13.heap.size := by have hsz := hb.size; (try simp at hsz); omega
      replace zzx0 : w5.heap.size < w13.heap.size := by have hsz := hb.size; (try simp at hsz); omega
      replace HB : Hid (Below w.heap.size w w13) := HB.out.trans (hb.mono HB.out.size)
      replace HAw : Hid (Below w4.heap.size w4 w13) := HAw.out.trans (hb.mono HAw.out.size)
      replace HAx0 : Hid (Below w5.heap.size w5 w13) := HAx0.out.trans (hb.mono HAx0.out.size)
      replace HAx1 : Hid (Below w6.heap.size w6 w13) := HAx1.out.trans (hb.mono HAx1.out.size)
      replace HAg : Hid (Below w7.heap.size w7 w13) := HAg.out.trans (hb.mono HAg.out.size)
      replace HAy1 : Hid (Below w12.heap.size w12 w13) := HAy1.out.trans (hb.mono HAy1.out.size)
      have hs13 : w12.heap.size ≤ w13.heap.size := by have hsz := hb.size; (try simp at hsz); omega
      clear hb
      clear HXy1 HAy1 HTy1
      go_wp2_with fail
      refine (markSubst_own (w4.heap.size) _ 1 (l0).length _ _ (by omega) (by omega) (own_below HXx0.out HAx0.out)).mono ?_
      rintro e w14 ⟨rfl, ho, hg⟩
      have hk : KeepsOut (w4.heap.size) (w5.heap.size) w13 w14 := KeepsOut.of_grown hg (fun k hk => ⟨(HXx0.out.lt k hk).1, HTx0.out k hk⟩)
      clear hg
      have hs14 : w13.heap.size ≤ w14.heap.size := by have hsz := hk.size; (try simp at hsz); omega
      replace ccp0 : w14.cell? ⟨w.heap.size, 0, none⟩ = some (.slice A0 l0.length cp0) := KeepsOut.cell hk (by first | assumption | go_simp) (by omega)
      replace ccx0 : w14.cell? ⟨w5.heap.size, 0, none⟩ = some (.slice Ax0 (l0).length cx0) := KeepsOut.cell hk (by first | assumption | go_simp) (by omega)
      replace zzp0 : w.heap.size < w14.heap.size := by omega
      replace zzx0 : w5.heap.size < w14.heap.size := by omega
      replace HXx1 : Hid (w14.ownsRow (w5.heap.size + 1) 3 1 (.slice Ax1 (l1).length cx1) (l1).length (ints (l1))) := KeepsOut.own (own_below HXx1.out HAx1.out) hk (fun j hj => .inr (by have := (HXx1.out.lt j hj).1; omega))
      replace HXg : Hid (w14.ownsRow (w6.heap.size) 3 1 (.slice Ag (caR l0 l1 a2).length cg) (caR l0 l1 a2).length (ints (caR l0 l1 a2))) := KeepsOut.own (own_below HXg.out HAg.out) hk (fun j hj => .inr (by have := (HXg.out.lt j hj).1; omega))
      replace HB : Hid (Below w.heap.size w w14) := KeepsOut.below HB.out hk HB.out.size (by omega)
      replace HAw : Hid (Below w4.heap.size w4 w14) := KeepsOut.below HAw.out hk HAw.out.size (by omega)
      replace HAx1 : Hid (Below w14.heap.size w14 w14) := Below.refl _ _
      replace HAg : Hid (Below w14.heap.size w14 w14) := Below.refl _ _
      clear hk ho HXx0 HAx0
      go_wp2_with fail
      refine (markIntS_own (w5.heap.size + 1) _ (1 + (((l0).length : Nat) : Int)) (l1).length _ _ (by omega) (by omega) (own_below HXx1.out HAx1.out)).mono ?_
      rintro e w15 ⟨rfl, ho, hg⟩
      have hk : KeepsOut (w5.heap.size + 1) (w6.heap.size) w14 w15 := KeepsOut.of_grown hg (fun k hk => ⟨(HXx1.out.lt k hk).1, HTx1.out k hk⟩)
      clear hg
      have hs15 : w14.heap.size ≤ w15.heap.size := by have hsz := hk.size; (try simp at hsz); omega
      replace ccp0 : w15.cell? ⟨w.heap.size, 0, none⟩ = some (.slice A0 l0.length cp0) := KeepsOut.cell hk (by first | assumption | go_simp) (by omega)
      replace ccx0 : w15.cell? ⟨w5.heap.size, 0, none⟩ = some (.slice Ax0 (l0).length cx0) := KeepsOut.cell hk (by first | assumption | go_simp) (by omega)
      replace zzp0 : w.heap.size < w15.heap.size := by omega
      replace zzx0 : w5.heap.size < w15.heap.size := by omega
      replace HXg : Hid (w15.ownsRow (w6.heap.size) 3 1 (.slice Ag (caR l0 l1 a2).length cg) (caR l0 l1 a2).length (ints (caR l0 l1 a2))) := KeepsOut.own (own_below HXg.out HAg.out) hk (fun j hj => .inr (by have := (HXg.out.lt j hj).1; omega))
      replace HB : Hid (Below w.heap.size w w15) := KeepsOut.below HB.out hk HB.out.size (by omega)
      replace HAw : Hid (Below w4.heap.size w4 w15) := KeepsOut.below HAw.out hk HAw.out.size (by omega)
      replace HAg : Hid (Below w15.heap.size w15 w15) := Below.refl _ _
      clear hk ho HXx1 HAx1
      go_wp2_with fail
      refine (eqIntS_b (caR l0 l1 a2) _ _ _ ((Lst.of_own HXg.out).below HAg.out) ((Lst.of_own HXw.out).below HAw.out)).mono ?_
      rintro e w16 ⟨rfl, hb⟩
      replace ccp0 : w16.cell? ⟨w.heap.size, 0, none⟩ = some (.slice A0 l0.length cp0) := (hb.cell (p := ⟨w.heap.size, 0, none⟩) (by first | assumption | (simp; omega) | simp)).trans (by first | assumption | go_simp)
      replace ccx0 : w16.cell? ⟨w5.heap.size, 0, none⟩ = some (.slice Ax0 (l0).length cx0) := (hb.cell (p := ⟨w5.heap.size, 0, none⟩) (by first | assumption | (simp; omega) | simp)).trans (by first | assumption | go_simp)
      replace zzp0 : w.heap.size < w16.heap.size := by have hsz := hb.size; (try simp at hsz); omega
      replace zzx0 : w5.heap.size < w16.heap.size := by have hsz := hb.size; (try simp at hsz); omega
      replace HB : Hid (Below w.heap.size w w16) := HB.out.trans (hb.mono HB.out.size)
      replace HAw : Hid (Below w4.heap.size w4 w16) := HAw.out.trans (hb.mono HAw.out.size)
      replace HAg : Hid (Below w15.heap.size w15 w16) := HAg.out.trans (hb.mono HAg.out.size)
      have hs16 : w15.heap.size ≤ w16.heap.size := by have hsz := hb.size; (try simp at hsz); omega
      clear hb
      go_wp2_with fail
      refine (markIntS_own (w6.heap.size) _ 1 (caR l0 l1 a2).length _ _ (by omega) (by omega) (own_below HXg.out HAg.out)).mono ?_
      rintro e w17 ⟨rfl, ho, hg⟩
      have hk : KeepsOut (w6.heap.size) (w7.heap.size) w16 w17 := KeepsOut.of_grown hg (fun k hk => ⟨(HXg.out.lt k hk).1, HTg.out k hk⟩)
      clear hg
      have hs17 : w16.heap.size ≤ w17.heap.size := by have hsz := hk.size; (try simp at hsz); omega
      replace ccp0 : w17.cell? ⟨w.heap.size, 0, none⟩ = some (.slice A0 l0.length cp0) := KeepsOut.cell hk (by first | assumption | go_simp) (by omega)
      replace ccx0 : w17.cell? ⟨w5.heap.size, 0, none⟩ = some (.slice Ax0 (l0).length cx0) := KeepsOut.cell hk (by first | assumption | go_simp) (by omega)
      replace zzp0 : w.heap.size < w17.heap.size := by omega
      replace zzx0 : w5.heap.size < w17.heap.size := by omega
      replace HB : Hid (Below w.heap.size w w17) := KeepsOut.below HB.out hk HB.out.size (by omega)
      replace HAw : Hid (Below w4.heap.size w4 w17) := KeepsOut.below HAw.out hk HAw.out.size (by omega)
      have HM : Hid (Lst w17 (.slice Ag (caR l0 l1 a2).length cg) (ints (upto 1 (caR l0 l1 a2).length))) := Lst.of_own ho
      clear hk ho HXg HAg
      have HAm : Hid (Below w17.heap.size w17 w17) := Below.refl _ _
      go_wp2_with fail
      refine (heldIntS_b _ 1 (caR l0 l1 a2).length _ (by omega) (by omega) (Lst.below HM.out HAm.out)).mono ?_
      rintro e w18 ⟨rfl, hb⟩
      replace ccp0 : w18.cell? ⟨w.heap.size, 0, none⟩ = some (.slice A0 l0.length cp0) := (hb.cell (p := ⟨w.heap.size, 0, none⟩) (by first | assumption | (simp; omega) | simp)).trans (by first | assumption | go_simp)
      replace ccx0 : w18.cell? ⟨w5.heap.size, 0, none⟩ = some (.slice Ax0 (l0).length cx0) := (hb.cell (p := ⟨w5.heap.size, 0, none⟩) (by first | assumption | (simp; omega) | simp)).trans (by first | assumption | go_simp)
      replace zzp0 : w.heap.size < w18.heap.size := by have hsz := hb.size; (try simp at hsz); omega
      replace zzx0 : w5.heap.size < w18.heap.size := by have hsz := hb.size; (try simp at hsz); omega
      replace HB : Hid (Below w.heap.size w w18) := HB.out.trans (hb.mono HB.out.size)
      replace HAw : Hid (Below w4.heap.size w4 w18) := HAw.out.trans (hb.mono HAw.out.size)
      replace HAm : Hid (Below w17.heap.size w17 w18) := HAm.out.trans (hb.mono HAm.out.size)
      have hs18 : w17.heap.size ≤ w18.heap.size := by have hsz := hb.size; (try simp at hsz); omega
      clear hb
      go_wp2_with fail
      refine (toSubst_any l0 _ _ (HL0.out.below HB.out) hn0).mono ?_
      rintro e w19 ⟨vh0, rfl, ho, hb⟩
      obtain ⟨Ah0, ch0, rfl⟩ := own_slice ho
      have HXh0 : Hid (w19.ownsRow (w18.heap.size) 9 1 (.slice Ah0 (l0).length ch0) (l0).length (strs (l0))) := ho
      have HTh0 : Hid (∀ k, Value.ownBlock (.slice Ah0 (l0).length ch0) = some k → k < w19.heap.size) := fun k hk => (HXh0.out.lt k hk).2
      replace ccp0 : w19.cell? ⟨w.heap.size, 0, none⟩ = some (.slice A0 l0.length cp0) := (hb.cell (p := ⟨w.heap.size, 0, none⟩) (by first | assumption | (simp; omega) | simp)).trans (by first | assumption | go_simp)
      replace ccx0 : w19.cell? ⟨w5.heap.size, 0, none⟩ = some (.slice Ax0 (l0).length cx0) := (hb.cell (p := ⟨w5.heap.size, 0, none⟩) (by first | assumption | (simp; omega) | simp)).trans (by first | assumption | go_simp)
      replace zzp0 : w.heap.size < w19.heap.size := by have hsz := hb.size; (try simp at hsz); omega
      replace zzx0 : w5.heap.size < w19.heap.size := by have hsz := hb.size; (try simp at hsz); omega
      replace HB : Hid (Below w.heap.size w w19) := HB.out.trans (hb.mono HB.out.size)
      replace HAw : Hid (Below w4.heap.size w4 w19) := HAw.out.trans (hb.mono HAw.out.size)
      replace HAm : Hid (Below w17.heap.size w17 w19) := HAm.out.trans (hb.mono HAm.out.size)
      have hs19 : w18.heap.size ≤ w19.heap.size := by have hsz := hb.size; (try simp at hsz); omega
      have HAh0 : Hid (Below w19.heap.size w19 w19) := Below.refl _ _
      clear hb ho
      go_wp2_with fail
      refine (toIntS_any l1 _ _ (HL1.out.below HB.out) hn1).mono ?_
      rintro e w20 ⟨vh1, rfl, ho, hb⟩
      obtain ⟨Ah1, ch1, rfl⟩ := own_slice ho
      have HXh1 : Hid (w20.ownsRow (w19.heap.size) 3 1 (.slice Ah1 (l1).length ch1) (l1).length (ints (l1))) := ho
      have HTh1 : Hid (∀ k, Value.ownBlock (.slice Ah1 (l1).length ch1) = some k → k < w20.heap.size) := fun k hk => (HXh1.out.lt k hk).2
      replace ccp0 : w20.cell? ⟨w.heap.size, 0, none⟩ = some (.slice A0 l0.length cp0) := (hb.cell (p := ⟨w.heap.size, 0, none⟩) (by first | assumption | (simp; omega) | simp)).trans (by first | assumption | go_simp)
      replace ccx0 : w20.cell? ⟨w5.heap.size, 0, none⟩ = some (.slice Ax0 (l0).length cx0) := (hb.cell (p := ⟨w5.heap.size, 0, none⟩) (by first | assumption | (simp; omega) | simp)).trans (by first | assumption | go_simp)
      replace zzp0 : w.heap.size < w20.heap.size := by have hsz := hb.size; (try simp at hsz); omega
      replace zzx0 : w5.heap.size < w20.heap.size := by have hsz := hb.size; (try simp at hsz); omega
      replace HB : Hid (Below w.heap.size w w20) := HB.out.trans (hb.mono HB.out.size)
      replace HAw : Hid (Below w4.heap.size w4 w20) := HAw.out.trans (hb.mono HAw.out.size)
      replace HAm : Hid (Below w17.heap.size w17 w20) := HAm.out.trans (hb.mono HAm.out.size)
      replace HAh0 : Hid (Below w19.heap.size w19 w20) := HAh0.out.trans (hb.mono HAh0.out.size)
      have hs20 : w19.heap.size ≤ w20.heap.size := by have hsz := hb.size; (try simp at hsz); omega
      have HAh1 : Hid (Below w20.heap.size w20 w20) := Below.refl _ _
      clear hb ho
      go_wp2_with fail
      refine (implCountAfter l0 _ l1 _ a2 _ ((Lst.of_own HXh0.out).below HAh0.out) HZ0.out hn0 ((Lst.of_own HXh1.out).below HAh1.out) hn1).mono ?_
      rintro e w21 ⟨vh, rfl, ho, hb⟩
      obtain ⟨Ah, ch, rfl⟩ := own_slice ho
      have HXh : Hid (w21.ownsRow (w20.heap.size) 3 1 (.slice Ah (caR l0 l1 a2).length ch) (caR l0 l1 a2).length (ints (caR l0 l1 a2))) := ho
      have HTh : Hid (∀ k, Value.ownBlock (.slice Ah (caR l0 l1 a2).length ch) = some k → k < w21.heap.size) := fun k hk => (HXh.out.lt k hk).2
      replace ccp0 : w21.cell? ⟨w.heap.size, 0, none⟩ = some (.slice A0 l0.length cp0) := (hb.cell (p := ⟨w.heap.size, 0, none⟩) (by first | assumption | (simp; omega) | simp)).trans (by first | assumption | go_simp)
      replace ccx0 : w21.cell? ⟨w5.heap.size, 0, none⟩ = some (.slice Ax0 (l0).length cx0) := (hb.cell (p := ⟨w5.heap.size, 0, none⟩) (by first | assumption | (simp; omega) | simp)).trans (by first | assumption | go_simp)
      replace zzp0 : w.heap.size < w21.heap.size := by have hsz := hb.size; (try simp at hsz); omega
      replace zzx0 : w5.heap.size < w21.heap.size := by have hsz := hb.size; (try simp at hsz); omega
      replace HB : Hid (Below w.heap.size w w21) := HB.out.trans (hb.mono HB.out.size)
      replace HAw : Hid (Below w4.heap.size w4 w21) := HAw.out.trans (hb.mono HAw.out.size)
      replace HAm : Hid (Below w17.heap.size w17 w21) := HAm.out.trans (hb.mono HAm.out.size)
      replace HAh0 : Hid (Below w19.heap.size w19 w21) := HAh0.out.trans (hb.mono HAh0.out.size)
      replace HAh1 : Hid (Below w20.heap.size w20 w21) := HAh1.out.trans (hb.mono HAh1.out.size)
      have hs21 : w20.heap.size ≤ w21.heap.size := by have hsz := hb.size; (try simp at hsz); omega
      have HAh : Hid (Below w21.heap.size w21 w21) := Below.refl _ _
      clear hb ho
      clear HXh0 HAh0 HTh0
      clear HXh1 HAh1 HTh1
      go_wp2_with fail
      refine (eqIntS_b (caR l0 l1 a2) _ _ _ ((Lst.of_own HXh.out).below HAh.out) ((Lst.of_own HXw.out).below HAw.out)).mono ?_
      rintro e w22 ⟨rfl, hb⟩
      replace ccp0 : w22.cell? ⟨w.heap.size, 0, none⟩ = some (.slice A0 l0.length cp0) := (hb.cell (p := ⟨w.heap.size, 0, none⟩) (by first | assumption | (simp; omega) | simp)).trans (by first | assumption | go_simp)
      replace ccx0 : w22.cell? ⟨w5.heap.size, 0, none⟩ = some (.slice Ax0 (l0).length cx0) := (hb.cell (p := ⟨w5.heap.size, 0, none⟩) (by first | assumption | (simp; omega) | simp)).trans (by first | assumption | go_simp)
      replace zzp0 : w.heap.size < w22.heap.size := by have hsz := hb.size; (try simp at hsz); omega
      replace zzx0 : w5.heap.size < w22.heap.size := by have hsz := hb.size; (try simp at hsz); omega
      replace HB : Hid (Below w.heap.size w w22) := HB.out.trans (hb.mono HB.out.size)
      replace HAw : Hid (Below w4.heap.size w4 w22) := HAw.out.trans (hb.mono HAw.out.size)
      replace HAm : Hid (Below w17.heap.size w17 w22) := HAm.out.trans (hb.mono HAm.out.size)
      replace HAh : Hid (Below w21.heap.size w21 w22) := HAh.out.trans (hb.mono HAh.out.size)
      have hs22 : w21.heap.size ≤ w22.heap.size := by have hsz := hb.size; (try simp at hsz); omega
      clear hb
      go_wp2_with fail
      refine (heldIntS_b _ 1 (caR l0 l1 a2).length _ (by omega) (by omega) (Lst.below HM.out HAm.out)).mono ?_
      rintro e w23 ⟨rfl, hb⟩
      replace ccp0 : w23.cell? ⟨w.heap.size, 0, none⟩ = some (.slice A0 l0.length cp0) := (hb.cell (p := ⟨w.heap.size, 0, none⟩) (by first | assumption | (simp; omega) | simp)).trans (by first | assumption | go_simp)
      replace ccx0 : w23.cell? ⟨w5.heap.size, 0, none⟩ = some (.slice Ax0 (l0).length cx0) := (hb.cell (p := ⟨w5.heap.size, 0, none⟩) (by first | assumption | (simp; omega) | simp)).trans (by first | assumption | go_simp)
      replace zzp0 : w.heap.size < w23.heap.size := by have hsz := hb.size; (try simp at hsz); omega
      replace zzx0 : w5.heap.size < w23.heap.size := by have hsz := hb.size; (try simp at hsz); omega
      replace HB : Hid (Below w.heap.size w w23) := HB.out.trans (hb.mono HB.out.size)
      replace HAw : Hid (Below w4.heap.size w4 w23) := HAw.out.trans (hb.mono HAw.out.size)
      replace HAm : Hid (Below w17.heap.size w17 w23) := HAm.out.trans (hb.mono HAm.out.size)
      replace HAh : Hid (Below w21.heap.size w21 w23) := HAh.out.trans (hb.mono HAh.out.size)
      have hs23 : w22.heap.size ≤ w23.heap.size := by have hsz := hb.size; (try simp at hsz); omega
      clear hb
      go_wp2_with fail
      go_ret
      exact ⟨rfl, HB.out⟩
  · go_enter Try.func5, Try.ntmps5
    go_wp2_with fail
    go_ret
    exact ⟨rfl, HB.out⟩

set_option maxRecDepth 100000 in
theorem fnExactCountAfter_walk {H : Type} {enc : TypeId × Value → H} {base : Nat} {r : Reach} {b0 : Nat} {d0 : DataW H} {ps0 : List MemPlace} (v0 : Value) {d1 : DataW H} {ps1 : List MemPlace} (v1 : Value) (a2 : Int) (w : World) (hval0 : Value.okWide Try.prog w r b0 42 v0) (h0 : DataW.Trod enc Try.prog w base (fun _ => true) true 42 v0 d0 ps0) (hval1 : Value.okWide Try.prog w r b0 30 v1) (h1 : DataW.Trod enc Try.prog w base (fun _ => true) true 30 v1 d1 ps1) (b2 : (Lit.int .i64 a2).wf = true) :
    Calls Try.prog 5 #[v0, v1, .int .i64 a2] w fun e w' => e = .returned (.bool true) ∧ Below w.heap.size w w' := by
  obtain ⟨u0, l0, rfl, hl0, hz0⟩ := subst_arg Try.underlying42 (by kernel_rfl) rfl (by kernel_rfl) Try.underlying23 Try.underlying9 cellsOf_str hval0 h0
  obtain ⟨l1, hl1, hz1⟩ := ints_arg Try.underlying30 Try.underlying3 cellsOf_int hval1 h1
  exact fnExactCountAfter_walk0 l0 u0 l1 v1 a2 w hl0 hz0 hl1 hz1 b2

set_option maxRecDepth 100000 in
theorem fnExactCountAfter_row (os : Os) (started : os.Started) (H : Type) (enc : TypeId × Value → H) :
    ReturnsInHanded {} Try.checked os 5 .any (Rows.fnExactCountAfterSpec.pre6 enc Try.prog Try.f5 Rows.fnExactCountAfterRow.domain false) (Rows.fnExactCountAfterSpec.post enc Try.prog Try.f5 false true false false) :=
  lawLifted (C := Try.checked) ownKnobs started (by kernel_rfl) Try.func5 laidOut (by kernel_rfl) (by kernel_rfl) Try.underlying4 rfl
    (fun ds h => by match ds, h with | [_, _, _], _ => rfl)
    (ChangeSpec.witness6 (enc := enc) (C := Try.checked) false ⟨#[], #[.agg #[.slice none 0 0], .slice none 0 0, .int .i64 0], []⟩ 8 (by kernel_rfl) (by kernel_rfl) (by kernel_rfl) (by kernel_rfl))
    (fun W base args ds p hval0 hA0 hlt => by
      have hval : ∀ (j : Nat) t v, Try.f5.params[j]? = some t → args[j]? = some v → Value.okWide Try.prog W .any base t v := hval0
      have hA : DataW.TrodAll enc Try.prog W 0 (fun _ => true) true Try.f5.params.toList args.toList ds p := hA0
      clear hval0 hA0
      rw [Try.params5] at hA hval
      obtain ⟨v0, v1, v2, d0, d1, d2, p0, p1, p2, rfl, rfl, rfl, h0, h1, h2⟩ := trodAll_three hA
      obtain ⟨a2, rfl, rfl, rfl, b2⟩ := open_int Try.underlying3 (hval 2 3 v2 rfl rfl) h2
      exact fnExactCountAfter_walk v0 v1 a2 W (hval 0 42 v0 rfl rfl) h0 (hval 1 30 v1 rfl rfl) h1 b2)

theorem fnExactCountAfter_holds : Rows.FnExactCountAfterSaid :=
  OpenClaim.holds_of_wide 5 Try.f5 rfl rfl rfl rfl rfl rfl rfl ⟨rfl, rfl, rfl, rfl, rfl⟩ rfl rfl rfl rfl rfl (by kernel_rfl) Try.func5 (by kernel_rfl)
    (of_decide_eq_true (by kernel_rfl)) (by unfold Func.isWrapper; first | (rw [if_pos (by decide +kernel)]; kernel_rfl) | (rw [if_neg (by decide +kernel)]; exact ⟨rfl, rfl⟩))
    (fun os started H enc _ => fnExactCountAfter_row os started H enc)


end Go.Proofs.Ytgidfainoijcmaa
