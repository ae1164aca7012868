/- FnExactTurnSubst: for every argument the law returns true and its arguments read as before. No condition. -/
import Derived.Test.YtgekhijjeojhaaaOwn
import Derived.Test.YtgekhijjeojhaaaSubstArgs
import Derived.Deep.RegionWith
import Derived.Test.YtgekhijjeojhaaaTurnSub
import Derived.Test.YtgekhijjeojhaaaTurnSubI
import Derived.Deep.DeepCutAuto
namespace Go.Proofs.Ytgekhijjeojhaaa
open Go.ChangeShapes Go.WideShapes Go.ChangeAt Go.RowKit
open Go.ChangeMaps (open_string shut_string)

set_option maxHeartbeats 4000000 in
set_option maxRecDepth 100000 in
theorem fnExactTurnSubst_walk0 (l0 : List ByteArray) (v0 : Value) (w : World) (h0 : Lst w v0 (strs l0)) (hz0 : ∀ x ∈ l0, x.size ≤ maxLen) :
    Calls Try.prog 9 #[.agg #[v0]] w fun e w' => e = .returned (.bool true) ∧ Below w.heap.size w w' := by
  have hres := turnSub_le l0
  obtain ⟨A0, cp0, rfl⟩ := lst_slice h0
  simp only [strs_length] at h0 ⊢
  have hb0 : Below w.heap.size w (w.alloc (.cells #[.slice A0 l0.length cp0] 24)) := ((Below.refl w.heap.size w).alloc (Nat.le_refl _) _)
  have HL0 : Hid (Lst (w.alloc (.cells #[.slice A0 l0.length cp0] 24)) (.slice A0 l0.length cp0) (strs l0)) := h0.below hb0
  have HLT0 := Lib.hid (lst_lt h0)
  have HZM0 := Lib.hid hz0
  have HB : Hid (Below w.heap.size w (w.alloc (.cells #[.slice A0 l0.length cp0] 24))) := hb0
  clear hb0 h0 hz0
  go_enter Try.func9, Try.ntmps9
  go_wp2_with fail
  refine (szSubst_any l0 _ 1048576 _ HL0.out HZM0.out (by omega) (by omega)).mono ?_
  rintro e w1 ⟨hb, r0, rfl, hr1, hr2, hr3⟩
  have ccp0 : w1.cell? ⟨w.heap.size, 0, none⟩ = some (.slice A0 l0.length cp0) := (hb.cell (p := ⟨w.heap.size, 0, none⟩) (by first | assumption | (simp; omega) | simp)).trans (by first | assumption | go_simp)
  have zzp0 : w.heap.size < w1.heap.size := by have hsz := hb.size; (try simp at hsz); omega
  replace HL0 : Hid (Lst w1 (.slice A0 l0.length cp0) (strs l0)) := HL0.out.below hb
  replace HB : Hid (Below w.heap.size w w1) := HB.out.trans (hb.mono (HB.out.size))
  have hs1 : w.heap.size + 1 ≤ w1.heap.size := by have hsz := hb.size; (try simp at hsz); omega
  have HR0 := Lib.hid hr3
  clear hb hr3
  by_cases hneg0 : r0 < 0
  · go_wp2_with fail
    go_ret
    exact ⟨rfl, HB.out⟩
  have hge0 : 0 ≤ r0 := by omega
  obtain ⟨hn0, hz0⟩ := sz_use (HR0.out hge0) hge0 (by omega)
  have HZ0 := Lib.hid hz0
  have hle0 : r0 ≤ 1048576 := by omega
  clear hz0 hr1 hr2
  go_wp2_with fail
  refine (toSubst_any l0 _ _ HL0.out hn0).mono ?_
  rintro e w2 ⟨vw0, rfl, ho, hb⟩
  obtain ⟨Aw0, cpw0, rfl⟩ := own_slice ho
  replace ccp0 : w2.cell? ⟨w.heap.size, 0, none⟩ = some (.slice A0 l0.length cp0) := (hb.cell (p := ⟨w.heap.size, 0, none⟩) (by first | assumption | (simp; omega) | simp)).trans (by first | assumption | go_simp)
  replace zzp0 : w.heap.size < w2.heap.size := by have hsz := hb.size; (try simp at hsz); omega
  replace HL0 : Hid (Lst w2 (.slice A0 l0.length cp0) (strs l0)) := HL0.out.below hb
  replace HB : Hid (Below w.heap.size w w2) := HB.out.trans (hb.mono (HB.out.size))
  have hs2 : w1.heap.size ≤ w2.heap.size := by have hsz := hb.size; (try simp at hsz); omega
  have HXw0 : Hid (Lst w2 (.slice Aw0 l0.length cpw0) (strs l0)) := Lst.of_own ho
  clear hb ho
  go_wp2_with fail
  refine (specTurnSubst l0 _ _ HXw0.out HZ0.out hn0).mono ?_
  rintro e w3 ⟨vw, rfl, ho, hb⟩
  obtain ⟨Aw, cpw, rfl⟩ := own_slice ho
  have LOw : Hid (∀ k, Value.ownBlock (.slice Aw (turnSub l0).length cpw) = some k → w2.heap.size ≤ k ∧ k < w3.heap.size) := fun k hk => by have hlk := ho.lt k hk; (try simp at hlk); omega
  replace ccp0 : w3.cell? ⟨w.heap.size, 0, none⟩ = some (.slice A0 l0.length cp0) := (hb.cell (p := ⟨w.heap.size, 0, none⟩) (by first | assumption | (simp; omega) | simp)).trans (by first | assumption | go_simp)
  replace zzp0 : w.heap.size < w3.heap.size := by have hsz := hb.size; (try simp at hsz); omega
  replace HL0 : Hid (Lst w3 (.slice A0 l0.length cp0) (strs l0)) := HL0.out.below hb
  replace HXw0 : Hid (Lst w3 (.slice Aw0 l0.length cpw0) (strs l0)) := HXw0.out.below hb
  replace HB : Hid (Below w.heap.size w w3) := HB.out.trans (hb.mono (HB.out.size))
  have hs3 : w2.heap.size ≤ w3.heap.size := by have hsz := hb.size; (try simp at hsz); omega
  have HGw : Hid (w3.ownsRow w2.heap.size 9 1 (.slice Aw (turnSub l0).length cpw) (turnSub l0).length (strs (turnSub l0))) := ho
  clear hb ho
  clear HXw0
  go_wp2_with fail
  have hbA : Below w3.heap.size w3 (w3.alloc (.cells #[.slice Aw (turnSub l0).length cpw] 27)) := (Below.refl _ _).alloc (Nat.le_refl _) _
  replace HL0 : Hid (Lst (w3.alloc (.cells #[.slice Aw (turnSub l0).length cpw] 27)) (.slice A0 l0.length cp0) (strs l0)) := HL0.out.below hbA
  replace HGw : Hid ((w3.alloc (.cells #[.slice Aw (turnSub l0).length cpw] 27)).ownsRow w2.heap.size 9 1 (.slice Aw (turnSub l0).length cpw) (turnSub l0).length (strs (turnSub l0))) := own_below HGw.out hbA
  replace HB : Hid (Below w.heap.size w (w3.alloc (.cells #[.slice Aw (turnSub l0).length cpw] 27))) := HB.out.trans (hbA.mono (HB.out.size))
  clear hbA
  refine (toSubst_any l0 _ _ HL0.out hn0).mono ?_
  rintro e w4 ⟨vx0, rfl, ho, hb⟩
  obtain ⟨Ax0, cpx0, rfl⟩ := own_slice ho
  have LOx0 : Hid (∀ k, Value.ownBlock (.slice Ax0 l0.length cpx0) = some k → w3.heap.size + 1 ≤ k ∧ k < w4.heap.size) := fun k hk => by have hlk := ho.lt k hk; (try simp at hlk); omega
  replace ccp0 : w4.cell? ⟨w.heap.size, 0, none⟩ = some (.slice A0 l0.length cp0) := (hb.cell (p := ⟨w.heap.size, 0, none⟩) (by first | assumption | (simp; omega) | simp)).trans (by first | assumption | go_simp)
  have ccw : w4.cell? ⟨w3.heap.size, 0, none⟩ = some (.slice Aw (turnSub l0).length cpw) := (hb.cell (p := ⟨w3.heap.size, 0, none⟩) (by first | assumption | (simp; omega) | simp)).trans (by first | assumption | go_simp)
  replace zzp0 : w.heap.size < w4.heap.size := by have hsz := hb.size; (try simp at hsz); omega
  have zzw : w3.heap.size < w4.heap.size := by have hsz := hb.size; (try simp at hsz); omega
  replace HL0 : Hid (Lst w4 (.slice A0 l0.length cp0) (strs l0)) := HL0.out.below hb
  replace HGw : Hid (w4.ownsRow w2.heap.size 9 1 (.slice Aw (turnSub l0).length cpw) (turnSub l0).length (strs (turnSub l0))) := own_below HGw.out hb
  replace HB : Hid (Below w.heap.size w w4) := HB.out.trans (hb.mono (HB.out.size))
  have hs4 : w3.heap.size + 1 ≤ w4.heap.size := by have hsz := hb.size; (try simp at hsz); omega
  have HXx0 : Hid (w4.ownsRow (w3.alloc (.cells #[.slice Aw (turnSub l0).length cpw] 27)).heap.size 9 1 (.slice Ax0 l0.length cpx0) (l0).length (strs (l0))) := ho
  clear hb ho
  go_wp2_with fail
  have hbA : Below w4.heap.size w4 (w4.alloc (.cells #[.slice Ax0 l0.length cpx0] 27)) := (Below.refl _ _).alloc (Nat.le_refl _) _
  replace HL0 : Hid (Lst (w4.alloc (.cells #[.slice Ax0 l0.length cpx0] 27)) (.slice A0 l0.length cp0) (strs l0)) := HL0.out.below hbA
  replace HGw : Hid ((w4.alloc (.cells #[.slice Ax0 l0.length cpx0] 27)).ownsRow w2.heap.size 9 1 (.slice Aw (turnSub l0).length cpw) (turnSub l0).length (strs (turnSub l0))) := own_below HGw.out hbA
  replace HXx0 : Hid ((w4.alloc (.cells #[.slice Ax0 l0.length cpx0] 27)).ownsRow (w3.alloc (.cells #[.slice Aw (turnSub l0).length cpw] 27)).heap.size 9 1 (.slice Ax0 l0.length cpx0) (l0).length (strs (l0))) := own_below HXx0.out hbA
  replace HB : Hid (Below w.heap.size w (w4.alloc (.cells #[.slice Ax0 l0.length cpx0] 27))) := HB.out.trans (hbA.mono (HB.out.size))
  clear hbA
  refine (implTurnSubst l0 _ _ (Lst.of_own HXx0.out) HZ0.out hn0).mono ?_
  rintro e w5 ⟨vg, rfl, ho, hb⟩
  obtain ⟨Ag, cpg, rfl⟩ := own_slice ho
  have LOg : Hid (∀ k, Value.ownBlock (.slice Ag (turnSub l0).length cpg) = some k → w4.heap.size + 1 ≤ k ∧ k < w5.heap.size) := fun k hk => by have hlk := ho.lt k hk; (try simp at hlk); omega
  replace ccp0 : w5.cell? ⟨w.heap.size, 0, none⟩ = some (.slice A0 l0.length cp0) := (hb.cell (p := ⟨w.heap.size, 0, none⟩) (by first | assumption | (simp; omega) | simp)).trans (by first | assumption | go_simp)
  replace ccw : w5.cell? ⟨w3.heap.size, 0, none⟩ = some (.slice Aw (turnSub l0).length cpw) := (hb.cell (p := ⟨w3.heap.size, 0, none⟩) (by first | assumption | (simp; omega) | simp)).trans (by first | assumption | go_simp)
  have ccx0 : w5.cell? ⟨w4.heap.size, 0, none⟩ = some (.slice Ax0 l0.length cpx0) := (hb.cell (p := ⟨w4.heap.size, 0, none⟩) (by first | assumption | (simp; omega) | simp)).trans (by first | assumption | go_simp)
  replace zzp0 : w.heap.size < w5.heap.size := by have hsz := hb.size; (try simp at hsz); omega
  replace zzw : w3.heap.size < w5.heap.size := by have hsz := hb.size; (try simp at hsz); omega
  have zzx0 : w4.heap.size < w5.heap.size := by have hsz := hb.size; (try simp at hsz); omega
  replace HL0 : Hid (Lst w5 (.slice A0 l0.length cp0) (strs l0)) := HL0.out.below hb
  replace HGw : Hid (w5.ownsRow w2.heap.size 9 1 (.slice Aw (turnSub l0).length cpw) (turnSub l0).length (strs (turnSub l0))) := own_below HGw.out hb
  replace HXx0 : Hid (w5.ownsRow (w3.alloc (.cells #[.slice Aw (turnSub l0).length cpw] 27)).heap.size 9 1 (.slice Ax0 l0.length cpx0) (l0).length (strs (l0))) := own_below HXx0.out hb
  replace HB : Hid (Below w.heap.size w w5) := HB.out.trans (hb.mono (HB.out.size))
  have hs5 : w4.heap.size + 1 ≤ w5.heap.size := by have hsz := hb.size; (try simp at hsz); omega
  have HGg : Hid (w5.ownsRow (w4.alloc (.cells #[.slice Ax0 l0.length cpx0] 27)).heap.size 9 1 (.slice Ag (turnSub l0).length cpg) (turnSub l0).length (strs (turnSub l0))) := ho
  clear hb ho
  go_wp2_with fail
  have hbA : Below w5.heap.size w5 (w5.alloc (.cells #[.slice Ag (turnSub l0).length cpg] 27)) := (Below.refl _ _).alloc (Nat.le_refl _) _
  replace HL0 : Hid (Lst (w5.alloc (.cells #[.slice Ag (turnSub l0).length cpg] 27)) (.slice A0 l0.length cp0) (strs l0)) := HL0.out.below hbA
  replace HGw : Hid ((w5.alloc (.cells #[.slice Ag (turnSub l0).length cpg] 27)).ownsRow w2.heap.size 9 1 (.slice Aw (turnSub l0).length cpw) (turnSub l0).length (strs (turnSub l0))) := own_below HGw.out hbA
  replace HXx0 : Hid ((w5.alloc (.cells #[.slice Ag (turnSub l0).length cpg] 27)).ownsRow (w3.alloc (.cells #[.slice Aw (turnSub l0).length cpw] 27)).heap.size 9 1 (.slice Ax0 l0.length cpx0) (l0).length (strs (l0))) := own_below HXx0.out hbA
  replace HGg : Hid ((w5.alloc (.cells #[.slice Ag (turnSub l0).length cpg] 27)).ownsRow (w4.alloc (.cells #[.slice Ax0 l0.length cpx0] 27)).heap.size 9 1 (.slice Ag (turnSub l0).length cpg) (turnSub l0).length (strs (turnSub l0))) := own_below HGg.out hbA
  replace HB : Hid (Below w.heap.size w (w5.alloc (.cells #[.slice Ag (turnSub l0).length cpg] 27))) := HB.out.trans (hbA.mono (HB.out.size))
  clear hbA
  refine (eqSubst_same (turnSub l0) _ _ _ (Lst.of_own HGg.out) (Lst.of_own HGw.out)).mono ?_
  rintro e w6 ⟨rfl, hb⟩
  replace ccp0 : w6.cell? ⟨w.heap.size, 0, none⟩ = some (.slice A0 l0.length cp0) := (hb.cell (p := ⟨w.heap.size, 0, none⟩) (by first | assumption | (simp; omega) | simp)).trans (by first | assumption | go_simp)
  replace ccw : w6.cell? ⟨w3.heap.size, 0, none⟩ = some (.slice Aw (turnSub l0).length cpw) := (hb.cell (p := ⟨w3.heap.size, 0, none⟩) (by first | assumption | (simp; omega) | simp)).trans (by first | assumption | go_simp)
  replace ccx0 : w6.cell? ⟨w4.heap.size, 0, none⟩ = some (.slice Ax0 l0.length cpx0) := (hb.cell (p := ⟨w4.heap.size, 0, none⟩) (by first | assumption | (simp; omega) | simp)).trans (by first | assumption | go_simp)
  have ccg : w6.cell? ⟨w5.heap.size, 0, none⟩ = some (.slice Ag (turnSub l0).length cpg) := (hb.cell (p := ⟨w5.heap.size, 0, none⟩) (by first | assumption | (simp; omega) | simp)).trans (by first | assumption | go_simp)
  replace zzp0 : w.heap.size < w6.heap.size := by have hsz := hb.size; (try simp at hsz); omega
  replace zzw : w3.heap.size < w6.heap.size := by have hsz := hb.size; (try simp at hsz); omega
  replace zzx0 : w4.heap.size < w6.heap.size := by have hsz := hb.size; (try simp at hsz); omega
  have zzg : w5.heap.size < w6.heap.size := by have hsz := hb.size; (try simp at hsz); omega
  replace HL0 : Hid (Lst w6 (.slice A0 l0.length cp0) (strs l0)) := HL0.out.below hb
  replace HGw : Hid (w6.ownsRow w2.heap.size 9 1 (.slice Aw (turnSub l0).length cpw) (turnSub l0).length (strs (turnSub l0))) := own_below HGw.out hb
  replace HXx0 : Hid (w6.ownsRow (w3.alloc (.cells #[.slice Aw (turnSub l0).length cpw] 27)).heap.size 9 1 (.slice Ax0 l0.length cpx0) (l0).length (strs (l0))) := own_below HXx0.out hb
  replace HGg : Hid (w6.ownsRow (w4.alloc (.cells #[.slice Ax0 l0.length cpx0] 27)).heap.size 9 1 (.slice Ag (turnSub l0).length cpg) (turnSub l0).length (strs (turnSub l0))) := own_below HGg.out hb
  replace HB : Hid (Below w.heap.size w w6) := HB.out.trans (hb.mono (HB.out.size))
  have hs6 : w5.heap.size + 1 ≤ w6.heap.size := by have hsz := hb.size; (try simp at hsz); omega
  clear hb
  go_upto_region 10 with (fail)
  go_cut [45] (fun s wx => s = .bool false ∧ wx.cell? ⟨w.heap.size, 0, none⟩ = some (.slice A0 l0.length cp0) ∧ wx.cell? ⟨w3.heap.size, 0, none⟩ = some (.slice Aw (turnSub l0).length cpw) ∧ wx.cell? ⟨w4.heap.size, 0, none⟩ = some (.slice Ax0 l0.length cpx0) ∧ wx.cell? ⟨w5.heap.size, 0, none⟩ = some (.slice Ag (turnSub l0).length cpg) ∧ w.heap.size < wx.heap.size ∧ w3.heap.size < wx.heap.size ∧ w4.heap.size < wx.heap.size ∧ w5.heap.size < wx.heap.size ∧ Hid (Lst wx (.slice A0 l0.length cp0) (strs l0)) ∧ Hid (wx.ownsRow w2.heap.size 9 1 (.slice Aw (turnSub l0).length cpw) (turnSub l0).length (strs (turnSub l0))) ∧ Hid (wx.ownsRow (w3.alloc (.cells #[.slice Aw (turnSub l0).length cpw] 27)).heap.size 9 1 (.slice Ax0 l0.length cpx0) (l0).length (strs (l0))) ∧ Hid (wx.ownsRow (w4.alloc (.cells #[.slice Ax0 l0.length cpx0] 27)).heap.size 9 1 (.slice Ag (turnSub l0).length cpg) (turnSub l0).length (strs (turnSub l0))) ∧ Hid (Below w.heap.size w wx) ∧ w6.heap.size ≤ wx.heap.size)
  case first =>
    go_region_with (first
      | (go_at_call 15
         refine (toSubst_any l0 _ _ (HL0.out.drewN 1) hn0).mono ?_
         rintro e w7 ⟨vy, rfl, hoy, hb⟩
         replace ccp0 : w7.cell? ⟨w.heap.size, 0, none⟩ = some (.slice A0 l0.length cp0) := (hb.cell (p := ⟨w.heap.size, 0, none⟩) (by first | assumption | (simp; omega) | simp)).trans (by first | assumption | go_simp)
         replace ccw : w7.cell? ⟨w3.heap.size, 0, none⟩ = some (.slice Aw (turnSub l0).length cpw) := (hb.cell (p := ⟨w3.heap.size, 0, none⟩) (by first | assumption | (simp; omega) | simp)).trans (by first | assumption | go_simp)
         replace ccx0 : w7.cell? ⟨w4.heap.size, 0, none⟩ = some (.slice Ax0 l0.length cpx0) := (hb.cell (p := ⟨w4.heap.size, 0, none⟩) (by first | assumption | (simp; omega) | simp)).trans (by first | assumption | go_simp)
         replace ccg : w7.cell? ⟨w5.heap.size, 0, none⟩ = some (.slice Ag (turnSub l0).length cpg) := (hb.cell (p := ⟨w5.heap.size, 0, none⟩) (by first | assumption | (simp; omega) | simp)).trans (by first | assumption | go_simp)
         replace zzp0 : w.heap.size < w7.heap.size := by have hsz := hb.size; (try simp at hsz); omega
         replace zzw : w3.heap.size < w7.heap.size := by have hsz := hb.size; (try simp at hsz); omega
         replace zzx0 : w4.heap.size < w7.heap.size := by have hsz := hb.size; (try simp at hsz); omega
         replace zzg : w5.heap.size < w7.heap.size := by have hsz := hb.size; (try simp at hsz); omega
         replace HL0 : Hid (Lst w7 (.slice A0 l0.length cp0) (strs l0)) := (HL0.out.drewN 1).below hb
         replace HGw : Hid (w7.ownsRow w2.heap.size 9 1 (.slice Aw (turnSub l0).length cpw) (turnSub l0).length (strs (turnSub l0))) := own_below (own_drewN HGw.out 1) hb
         replace HXx0 : Hid (w7.ownsRow (w3.alloc (.cells #[.slice Aw (turnSub l0).length cpw] 27)).heap.size 9 1 (.slice Ax0 l0.length cpx0) (l0).length (strs (l0))) := own_below (own_drewN HXx0.out 1) hb
         replace HGg : Hid (w7.ownsRow (w4.alloc (.cells #[.slice Ax0 l0.length cpx0] 27)).heap.size 9 1 (.slice Ag (turnSub l0).length cpg) (turnSub l0).length (strs (turnSub l0))) := own_below (own_drewN HGg.out 1) hb
         replace HB : Hid (Below w.heap.size w w7) := (below_drewN HB.out 1).trans (hb.mono (HB.out.size))
         have hs7 : w6.heap.size ≤ w7.heap.size := by have hsz := hb.size; (try simp at hsz); omega
         have HY : Hid (Lst w7 vy (strs l0)) := Lst.of_own hoy
         clear hb hoy)
      | (go_at_call 17
         refine (eqSubst_same l0 _ _ _ (Lst.of_own HXx0.out) HY.out).mono ?_
         rintro e w8 ⟨rfl, hb⟩
         replace ccp0 : w8.cell? ⟨w.heap.size, 0, none⟩ = some (.slice A0 l0.length cp0) := (hb.cell (p := ⟨w.heap.size, 0, none⟩) (by first | assumption | (simp; omega) | simp)).trans (by first | assumption | go_simp)
         replace ccw : w8.cell? ⟨w3.heap.size, 0, none⟩ = some (.slice Aw (turnSub l0).length cpw) := (hb.cell (p := ⟨w3.heap.size, 0, none⟩) (by first | assumption | (simp; omega) | simp)).trans (by first | assumption | go_simp)
         replace ccx0 : w8.cell? ⟨w4.heap.size, 0, none⟩ = some (.slice Ax0 l0.length cpx0) := (hb.cell (p := ⟨w4.heap.size, 0, none⟩) (by first | assumption | (simp; omega) | simp)).trans (by first | assumption | go_simp)
         replace ccg : w8.cell? ⟨w5.heap.size, 0, none⟩ = some (.slice Ag (turnSub l0).length cpg) := (hb.cell (p := ⟨w5.heap.size, 0, none⟩) (by first | assumption | (simp; omega) | simp)).trans (by first | assumption | go_simp)
         replace zzp0 : w.heap.size < w8.heap.size := by have hsz := hb.size; (try simp at hsz); omega
         replace zzw : w3.heap.size < w8.heap.size := by have hsz := hb.size; (try simp at hsz); omega
         replace zzx0 : w4.heap.size < w8.heap.size := by have hsz := hb.size; (try simp at hsz); omega
         replace zzg : w5.heap.size < w8.heap.size := by have hsz := hb.size; (try simp at hsz); omega
         replace HL0 : Hid (Lst w8 (.slice A0 l0.length cp0) (strs l0)) := HL0.out.below hb
         replace HGw : Hid (w8.ownsRow w2.heap.size 9 1 (.slice Aw (turnSub l0).length cpw) (turnSub l0).length (strs (turnSub l0))) := own_below HGw.out hb
         replace HXx0 : Hid (w8.ownsRow (w3.alloc (.cells #[.slice Aw (turnSub l0).length cpw] 27)).heap.size 9 1 (.slice Ax0 l0.length cpx0) (l0).length (strs (l0))) := own_below HXx0.out hb
         replace HGg : Hid (w8.ownsRow (w4.alloc (.cells #[.slice Ax0 l0.length cpx0] 27)).heap.size 9 1 (.slice Ag (turnSub l0).length cpg) (turnSub l0).length (strs (turnSub l0))) := own_below HGg.out hb
         replace HB : Hid (Below w.heap.size w w8) := HB.out.trans (hb.mono (HB.out.size))
         have hs8 : w7.heap.size ≤ w8.heap.size := by have hsz := hb.size; (try simp at hsz); omega
         clear hb HY))
    all_goals
      go_wp2_with fail
      go_meet
      exact ⟨rfl, ccp0, ccw, ccx0, ccg, zzp0, zzw, zzx0, zzg, HL0, HGw, HXx0, HGg, HB, by omega⟩
  case rest =>
    clear ccp0 ccw ccx0 ccg zzp0 zzw zzx0 zzg HL0 HGw HXx0 HGg HB
    obtain ⟨rfl, ccp0, ccw, ccx0, ccg, zzp0, zzw, zzx0, zzg, HL0, HGw, HXx0, HGg, HB, hsc0⟩ := hcut
    obtain ⟨w9, rfl⟩ : ∃ x : World, x = wc := ⟨_, rfl⟩
    go_wp2_with fail
    refine (markSubst_own ((w3.alloc (.cells #[.slice Aw (turnSub l0).length cpw] 27)).heap.size) _ 1 (l0).length _ _ (by omega) (by omega) HXx0.out).mono ?_
    rintro e w10 ⟨rfl, ho, hg⟩
    replace ccp0 : w10.cell? ⟨w.heap.size, 0, none⟩ = some (.slice A0 l0.length cp0) := grown_cell hg ccp0 (fun h => by have := LOx0.out _ h; omega)
    replace ccw : w10.cell? ⟨w3.heap.size, 0, none⟩ = some (.slice Aw (turnSub l0).length cpw) := grown_cell hg ccw (fun h => by have := LOx0.out _ h; omega)
    replace ccx0 : w10.cell? ⟨w4.heap.size, 0, none⟩ = some (.slice Ax0 l0.length cpx0) := grown_cell hg ccx0 (fun h => by have := LOx0.out _ h; omega)
    replace ccg : w10.cell? ⟨w5.heap.size, 0, none⟩ = some (.slice Ag (turnSub l0).length cpg) := grown_cell hg ccg (fun h => by have := LOx0.out _ h; omega)
    replace zzp0 : w.heap.size < w10.heap.size := Nat.lt_of_lt_of_le zzp0 hg.size
    replace zzw : w3.heap.size < w10.heap.size := Nat.lt_of_lt_of_le zzw hg.size
    replace zzx0 : w4.heap.size < w10.heap.size := Nat.lt_of_lt_of_le zzx0 hg.size
    replace zzg : w5.heap.size < w10.heap.size := Nat.lt_of_lt_of_le zzg hg.size
    replace HL0 : Hid (Lst w10 (.slice A0 l0.length cp0) (strs l0)) := HL0.out.grown2 hg (HLT0.out.imp id (fun hlt k hk h => by have := hlt k hk; have := LOx0.out _ h; omega))
    replace HGw : Hid (w10.ownsRow w2.heap.size 9 1 (.slice Aw (turnSub l0).length cpw) (turnSub l0).length (strs (turnSub l0))) := own_apart HGw.out hg (fun k h1 h2 => by have := LOw.out k h1; have := LOx0.out k h2; omega)
    replace HGg : Hid (w10.ownsRow (w4.alloc (.cells #[.slice Ax0 l0.length cpx0] 27)).heap.size 9 1 (.slice Ag (turnSub l0).length cpg) (turnSub l0).length (strs (turnSub l0))) := own_apart HGg.out hg (fun k h1 h2 => by have := LOg.out k h1; have := LOx0.out k h2; omega)
    replace HB : Hid (Below w.heap.size w w10) := HB.out.grown hg (HB.out.size) (fun k h => by have := LOx0.out k h; omega)
    have hs9 : w9.heap.size ≤ w10.heap.size := by have hsz := hg.size; (try simp at hsz); omega
    clear hg ho HXx0
    go_wp2_with fail
    skip
    refine (eqSubst_same (turnSub l0) _ _ _ (Lst.of_own HGg.out) (Lst.of_own HGw.out)).mono ?_
    rintro e w11 ⟨rfl, hb⟩
    replace ccp0 : w11.cell? ⟨w.heap.size, 0, none⟩ = some (.slice A0 l0.length cp0) := (hb.cell (p := ⟨w.heap.size, 0, none⟩) (by first | assumption | (simp; omega) | simp)).trans (by first | assumption | go_simp)
    replace ccw : w11.cell? ⟨w3.heap.size, 0, none⟩ = some (.slice Aw (turnSub l0).length cpw) := (hb.cell (p := ⟨w3.heap.size, 0, none⟩) (by first | assumption | (simp; omega) | simp)).trans (by first | assumption | go_simp)
    replace ccx0 : w11.cell? ⟨w4.heap.size, 0, none⟩ = some (.slice Ax0 l0.length cpx0) := (hb.cell (p := ⟨w4.heap.size, 0, none⟩) (by first | assumption | (simp; omega) | simp)).trans (by first | assumption | go_simp)
    replace ccg : w11.cell? ⟨w5.heap.size, 0, none⟩ = some (.slice Ag (turnSub l0).length cpg) := (hb.cell (p := ⟨w5.heap.size, 0, none⟩) (by first | assumption | (simp; omega) | simp)).trans (by first | assumption | go_simp)
    replace zzp0 : w.heap.size < w11.heap.size := by have hsz := hb.size; (try simp at hsz); omega
    replace zzw : w3.heap.size < w11.heap.size := by have hsz := hb.size; (try simp at hsz); omega
    replace zzx0 : w4.heap.size < w11.heap.size := by have hsz := hb.size; (try simp at hsz); omega
    replace zzg : w5.heap.size < w11.heap.size := by have hsz := hb.size; (try simp at hsz); omega
    replace HL0 : Hid (Lst w11 (.slice A0 l0.length cp0) (strs l0)) := HL0.out.below hb
    replace HGw : Hid (w11.ownsRow w2.heap.size 9 1 (.slice Aw (turnSub l0).length cpw) (turnSub l0).length (strs (turnSub l0))) := own_below HGw.out hb
    replace HGg : Hid (w11.ownsRow (w4.alloc (.cells #[.slice Ax0 l0.length cpx0] 27)).heap.size 9 1 (.slice Ag (turnSub l0).length cpg) (turnSub l0).length (strs (turnSub l0))) := own_below HGg.out hb
    replace HB : Hid (Below w.heap.size w w11) := HB.out.trans (hb.mono (HB.out.size))
    have hs10 : w10.heap.size ≤ w11.heap.size := by have hsz := hb.size; (try simp at hsz); omega
    clear hb
    go_wp2_with fail
    refine (markSubst_own ((w4.alloc (.cells #[.slice Ax0 l0.length cpx0] 27)).heap.size) _ 1 (turnSub l0).length _ _ (by omega) (by omega) HGg.out).mono ?_
    rintro e w12 ⟨rfl, ho, hg⟩
    replace ccp0 : w12.cell? ⟨w.heap.size, 0, none⟩ = some (.slice A0 l0.length cp0) := grown_cell hg ccp0 (fun h => by have := LOg.out _ h; omega)
    replace ccw : w12.cell? ⟨w3.heap.size, 0, none⟩ = some (.slice Aw (turnSub l0).length cpw) := grown_cell hg ccw (fun h => by have := LOg.out _ h; omega)
    replace ccx0 : w12.cell? ⟨w4.heap.size, 0, none⟩ = some (.slice Ax0 l0.length cpx0) := grown_cell hg ccx0 (fun h => by have := LOg.out _ h; omega)
    replace ccg : w12.cell? ⟨w5.heap.size, 0, none⟩ = some (.slice Ag (turnSub l0).length cpg) := grown_cell hg ccg (fun h => by have := LOg.out _ h; omega)
    replace zzp0 : w.heap.size < w12.heap.size := Nat.lt_of_lt_of_le zzp0 hg.size
    replace zzw : w3.heap.size < w12.heap.size := Nat.lt_of_lt_of_le zzw hg.size
    replace zzx0 : w4.heap.size < w12.heap.size := Nat.lt_of_lt_of_le zzx0 hg.size
    replace zzg : w5.heap.size < w12.heap.size := Nat.lt_of_lt_of_le zzg hg.size
    replace HL0 : Hid (Lst w12 (.slice A0 l0.length cp0) (strs l0)) := HL0.out.grown2 hg (HLT0.out.imp id (fun hlt k hk h => by have := hlt k hk; have := LOg.out _ h; omega))
    replace HGw : Hid (w12.ownsRow w2.heap.size 9 1 (.slice Aw (turnSub l0).length cpw) (turnSub l0).length (strs (turnSub l0))) := own_apart HGw.out hg (fun k h1 h2 => by have := LOw.out k h1; have := LOg.out k h2; omega)
    replace HB : Hid (Below w.heap.size w w12) := HB.out.grown hg (HB.out.size) (fun k h => by have := LOg.out k h; omega)
    have hs11 : w11.heap.size ≤ w12.heap.size := by have hsz := hg.size; (try simp at hsz); omega
    have HM : Hid (Lst w12 (.slice Ag (turnSub l0).length cpg) (strs (marks 1 (turnSub l0).length))) := Lst.of_own ho
    clear hg ho HGg
    go_wp2_with fail
    refine (heldSubst_marks _ 1 (turnSub l0).length _ (by omega) (by omega) HM.out).mono ?_
    rintro e w13 ⟨rfl, hb⟩
    replace ccp0 : w13.cell? ⟨w.heap.size, 0, none⟩ = some (.slice A0 l0.length cp0) := (hb.cell (p := ⟨w.heap.size, 0, none⟩) (by first | assumption | (simp; omega) | simp)).trans (by first | assumption | go_simp)
    replace ccw : w13.cell? ⟨w3.heap.size, 0, none⟩ = some (.slice Aw (turnSub l0).length cpw) := (hb.cell (p := ⟨w3.heap.size, 0, none⟩) (by first | assumption | (simp; omega) | simp)).trans (by first | assumption | go_simp)
    replace ccx0 : w13.cell? ⟨w4.heap.size, 0, none⟩ = some (.slice Ax0 l0.length cpx0) := (hb.cell (p := ⟨w4.heap.size, 0, none⟩) (by first | assumption | (simp; omega) | simp)).trans (by first | assumption | go_simp)
    replace ccg : w13.cell? ⟨w5.heap.size, 0, none⟩ = some (.slice Ag (turnSub l0).length cpg) := (hb.cell (p := ⟨w5.heap.size, 0, none⟩) (by first | assumption | (simp; omega) | simp)).trans (by first | assumption | go_simp)
    replace zzp0 : w.heap.size < w13.heap.size := by have hsz := hb.size; (try simp at hsz); omega
    replace zzw : w3.heap.size < w13.heap.size := by have hsz := hb.size; (try simp at hsz); omega
    replace zzx0 : w4.heap.size < w13.heap.size := by have hsz := hb.size; (try simp at hsz); omega
    replace zzg : w5.heap.size < w13.heap.size := by have hsz := hb.size; (try simp at hsz); omega
    replace HL0 : Hid (Lst w13 (.slice A0 l0.length cp0) (strs l0)) := HL0.out.below hb
    replace HM : Hid (Lst w13 (.slice Ag (turnSub l0).length cpg) (strs (marks 1 (turnSub l0).length))) := HM.out.below hb
    replace HGw : Hid (w13.ownsRow w2.heap.size 9 1 (.slice Aw (turnSub l0).length cpw) (turnSub l0).length (strs (turnSub l0))) := own_below HGw.out hb
    replace HB : Hid (Below w.heap.size w w13) := HB.out.trans (hb.mono (HB.out.size))
    have hs12 : w12.heap.size ≤ w13.heap.size := by have hsz := hb.size; (try simp at hsz); omega
    clear hb
    go_wp2_with fail
    refine (toSubst_any l0 _ _ HL0.out hn0).mono ?_
    rintro e w14 ⟨vh0, rfl, ho, hb⟩
    obtain ⟨Ah0, cph0, rfl⟩ := own_slice ho
    replace ccp0 : w14.cell? ⟨w.heap.size, 0, none⟩ = some (.slice A0 l0.length cp0) := (hb.cell (p := ⟨w.heap.size, 0, none⟩) (by first | assumption | (simp; omega) | simp)).trans (by first | assumption | go_simp)
    replace ccw : w14.cell? ⟨w3.heap.size, 0, none⟩ = some (.slice Aw (turnSub l0).length cpw) := (hb.cell (p := ⟨w3.heap.size, 0, none⟩) (by first | assumption | (simp; omega) | simp)).trans (by first | assumption | go_simp)
    replace ccx0 : w14.cell? ⟨w4.heap.size, 0, none⟩ = some (.slice Ax0 l0.length cpx0) := (hb.cell (p := ⟨w4.heap.size, 0, none⟩) (by first | assumption | (simp; omega) | simp)).trans (by first | assumption | go_simp)
    replace ccg : w14.cell? ⟨w5.heap.size, 0, none⟩ = some (.slice Ag (turnSub l0).length cpg) := (hb.cell (p := ⟨w5.heap.size, 0, none⟩) (by first | assumption | (simp; omega) | simp)).trans (by first | assumption | go_simp)
    replace zzp0 : w.heap.size < w14.heap.size := by have hsz := hb.size; (try simp at hsz); omega
    replace zzw : w3.heap.size < w14.heap.size := by have hsz := hb.size; (try simp at hsz); omega
    replace zzx0 : w4.heap.size < w14.heap.size := by have hsz := hb.size; (try simp at hsz); omega
    replace zzg : w5.heap.size < w14.heap.size := by have hsz := hb.size; (try simp at hsz); omega
    replace HL0 : Hid (Lst w14 (.slice A0 l0.length cp0) (strs l0)) := HL0.out.below hb
    replace HM : Hid (Lst w14 (.slice Ag (turnSub l0).length cpg) (strs (marks 1 (turnSub l0).length))) := HM.out.below hb
    replace HGw : Hid (w14.ownsRow w2.heap.size 9 1 (.slice Aw (turnSub l0).length cpw) (turnSub l0).length (strs (turnSub l0))) := own_below HGw.out hb
    replace HB : Hid (Below w.heap.size w w14) := HB.out.trans (hb.mono (HB.out.size))
    have hs13 : w13.heap.size ≤ w14.heap.size := by have hsz := hb.size; (try simp at hsz); omega
    have HXh0 : Hid (Lst w14 (.slice Ah0 l0.length cph0) (strs l0)) := Lst.of_own ho
    clear hb ho
    go_wp2_with fail
    refine (implTurnSubst l0 _ _ HXh0.out HZ0.out hn0).mono ?_
    rintro e w15 ⟨vh, rfl, ho, hb⟩
    obtain ⟨Ah, cph, rfl⟩ := own_slice ho
    have LOh : Hid (∀ k, Value.ownBlock (.slice Ah (turnSub l0).length cph) = some k → w14.heap.size ≤ k ∧ k < w15.heap.size) := fun k hk => by have hlk := ho.lt k hk; (try simp at hlk); omega
    replace ccp0 : w15.cell? ⟨w.heap.size, 0, none⟩ = some (.slice A0 l0.length cp0) := (hb.cell (p := ⟨w.heap.size, 0, none⟩) (by first | assumption | (simp; omega) | simp)).trans (by first | assumption | go_simp)
    replace ccw : w15.cell? ⟨w3.heap.size, 0, none⟩ = some (.slice Aw (turnSub l0).length cpw) := (hb.cell (p := ⟨w3.heap.size, 0, none⟩) (by first | assumption | (simp; omega) | simp)).trans (by first | assumption | go_simp)
    replace ccx0 : w15.cell? ⟨w4.heap.size, 0, none⟩ = some (.slice Ax0 l0.length cpx0) := (hb.cell (p := ⟨w4.heap.size, 0, none⟩) (by first | assumption | (simp; omega) | simp)).trans (by first | assumption | go_simp)
    replace ccg : w15.cell? ⟨w5.heap.size, 0, none⟩ = some (.slice Ag (turnSub l0).length cpg) := (hb.cell (p := ⟨w5.heap.size, 0, none⟩) (by first | assumption | (simp; omega) | simp)).trans (by first | assumption | go_simp)
    replace zzp0 : w.heap.size < w15.heap.size := by have hsz := hb.size; (try simp at hsz); omega
    replace zzw : w3.heap.size < w15.heap.size := by have hsz := hb.size; (try simp at hsz); omega
    replace zzx0 : w4.heap.size < w15.heap.size := by have hsz := hb.size; (try simp at hsz); omega
    replace zzg : w5.heap.size < w15.heap.size := by have hsz := hb.size; (try simp at hsz); omega
    replace HL0 : Hid (Lst w15 (.slice A0 l0.length cp0) (strs l0)) := HL0.out.below hb
    replace HM : Hid (Lst w15 (.slice Ag (turnSub l0).length cpg) (strs (marks 1 (turnSub l0).length))) := HM.out.below hb
    replace HXh0 : Hid (Lst w15 (.slice Ah0 l0.length cph0) (strs l0)) := HXh0.out.below hb
    replace HGw : Hid (w15.ownsRow w2.heap.size 9 1 (.slice Aw (turnSub l0).length cpw) (turnSub l0).length (strs (turnSub l0))) := own_below HGw.out hb
    replace HB : Hid (Below w.heap.size w w15) := HB.out.trans (hb.mono (HB.out.size))
    have hs14 : w14.heap.size ≤ w15.heap.size := by have hsz := hb.size; (try simp at hsz); omega
    have HGh : Hid (w15.ownsRow w14.heap.size 9 1 (.slice Ah (turnSub l0).length cph) (turnSub l0).length (strs (turnSub l0))) := ho
    clear hb ho
    clear HXh0
    go_wp2_with fail
    have hbA : Below w15.heap.size w15 (w15.alloc (.cells #[.slice Ah (turnSub l0).length cph] 27)) := (Below.refl _ _).alloc (Nat.le_refl _) _
    replace HL0 : Hid (Lst (w15.alloc (.cells #[.slice Ah (turnSub l0).length cph] 27)) (.slice A0 l0.length cp0) (strs l0)) := HL0.out.below hbA
    replace HM : Hid (Lst (w15.alloc (.cells #[.slice Ah (turnSub l0).length cph] 27)) (.slice Ag (turnSub l0).length cpg) (strs (marks 1 (turnSub l0).length))) := HM.out.below hbA
    replace HGw : Hid ((w15.alloc (.cells #[.slice Ah (turnSub l0).length cph] 27)).ownsRow w2.heap.size 9 1 (.slice Aw (turnSub l0).length cpw) (turnSub l0).length (strs (turnSub l0))) := own_below HGw.out hbA
    replace HGh : Hid ((w15.alloc (.cells #[.slice Ah (turnSub l0).length cph] 27)).ownsRow w14.heap.size 9 1 (.slice Ah (turnSub l0).length cph) (turnSub l0).length (strs (turnSub l0))) := own_below HGh.out hbA
    replace HB : Hid (Below w.heap.size w (w15.alloc (.cells #[.slice Ah (turnSub l0).length cph] 27))) := HB.out.trans (hbA.mono (HB.out.size))
    clear hbA
    refine (eqSubst_same (turnSub l0) _ _ _ (Lst.of_own HGh.out) (Lst.of_own HGw.out)).mono ?_
    rintro e w16 ⟨rfl, hb⟩
    replace ccp0 : w16.cell? ⟨w.heap.size, 0, none⟩ = some (.slice A0 l0.length cp0) := (hb.cell (p := ⟨w.heap.size, 0, none⟩) (by first | assumption | (simp; omega) | simp)).trans (by first | assumption | go_simp)
    replace ccw : w16.cell? ⟨w3.heap.size, 0, none⟩ = some (.slice Aw (turnSub l0).length cpw) := (hb.cell (p := ⟨w3.heap.size, 0, none⟩) (by first | assumption | (simp; omega) | simp)).trans (by first | assumption | go_simp)
    replace ccx0 : w16.cell? ⟨w4.heap.size, 0, none⟩ = some (.slice Ax0 l0.length cpx0) := (hb.cell (p := ⟨w4.heap.size, 0, none⟩) (by first | assumption | (simp; omega) | simp)).trans (by first | assumption | go_simp)
    replace ccg : w16.cell? ⟨w5.heap.size, 0, none⟩ = some (.slice Ag (turnSub l0).length cpg) := (hb.cell (p := ⟨w5.heap.size, 0, none⟩) (by first | assumption | (simp; omega) | simp)).trans (by first | assumption | go_simp)
    have cch : w16.cell? ⟨w15.heap.size, 0, none⟩ = some (.slice Ah (turnSub l0).length cph) := (hb.cell (p := ⟨w15.heap.size, 0, none⟩) (by first | assumption | (simp; omega) | simp)).trans (by first | assumption | go_simp)
    replace zzp0 : w.heap.size < w16.heap.size := by have hsz := hb.size; (try simp at hsz); omega
    replace zzw : w3.heap.size < w16.heap.size := by have hsz := hb.size; (try simp at hsz); omega
    replace zzx0 : w4.heap.size < w16.heap.size := by have hsz := hb.size; (try simp at hsz); omega
    replace zzg : w5.heap.size < w16.heap.size := by have hsz := hb.size; (try simp at hsz); omega
    have zzh : w15.heap.size < w16.heap.size := by have hsz := hb.size; (try simp at hsz); omega
    replace HL0 : Hid (Lst w16 (.slice A0 l0.length cp0) (strs l0)) := HL0.out.below hb
    replace HM : Hid (Lst w16 (.slice Ag (turnSub l0).length cpg) (strs (marks 1 (turnSub l0).length))) := HM.out.below hb
    replace HGw : Hid (w16.ownsRow w2.heap.size 9 1 (.slice Aw (turnSub l0).length cpw) (turnSub l0).length (strs (turnSub l0))) := own_below HGw.out hb
    replace HGh : Hid (w16.ownsRow w14.heap.size 9 1 (.slice Ah (turnSub l0).length cph) (turnSub l0).length (strs (turnSub l0))) := own_below HGh.out hb
    replace HB : Hid (Below w.heap.size w w16) := HB.out.trans (hb.mono (HB.out.size))
    have hs15 : w15.heap.size + 1 ≤ w16.heap.size := by have hsz := hb.size; (try simp at hsz); omega
    clear hb
    go_wp2_with fail
    refine (heldSubst_marks _ 1 (turnSub l0).length _ (by omega) (by omega) HM.out).mono ?_
    rintro e w17 ⟨rfl, hb⟩
    replace ccp0 : w17.cell? ⟨w.heap.size, 0, none⟩ = some (.slice A0 l0.length cp0) := (hb.cell (p := ⟨w.heap.size, 0, none⟩) (by first | assumption | (simp; omega) | simp)).trans (by first | assumption | go_simp)
    replace ccw : w17.cell? ⟨w3.heap.size, 0, none⟩ = some (.slice Aw (turnSub l0).length cpw) := (hb.cell (p := ⟨w3.heap.size, 0, none⟩) (by first | assumption | (simp; omega) | simp)).trans (by first | assumption | go_simp)
    replace ccx0 : w17.cell? ⟨w4.heap.size, 0, none⟩ = some (.slice Ax0 l0.length cpx0) := (hb.cell (p := ⟨w4.heap.size, 0, none⟩) (by first | assumption | (simp; omega) | simp)).trans (by first | assumption | go_simp)
    replace ccg : w17.cell? ⟨w5.heap.size, 0, none⟩ = some (.slice Ag (turnSub l0).length cpg) := (hb.cell (p := ⟨w5.heap.size, 0, none⟩) (by first | assumption | (simp; omega) | simp)).trans (by first | assumption | go_simp)
    replace cch : w17.cell? ⟨w15.heap.size, 0, none⟩ = some (.slice Ah (turnSub l0).length cph) := (hb.cell (p := ⟨w15.heap.size, 0, none⟩) (by first | assumption | (simp; omega) | simp)).trans (by first | assumption | go_simp)
    replace zzp0 : w.heap.size < w17.heap.size := by have hsz := hb.size; (try simp at hsz); omega
    replace zzw : w3.heap.size < w17.heap.size := by have hsz := hb.size; (try simp at hsz); omega
    replace zzx0 : w4.heap.size < w17.heap.size := by have hsz := hb.size; (try simp at hsz); omega
    replace zzg : w5.heap.size < w17.heap.size := by have hsz := hb.size; (try simp at hsz); omega
    replace zzh : w15.heap.size < w17.heap.size := by have hsz := hb.size; (try simp at hsz); omega
    replace HL0 : Hid (Lst w17 (.slice A0 l0.length cp0) (strs l0)) := HL0.out.below hb
    replace HM : Hid (Lst w17 (.slice Ag (turnSub l0).length cpg) (strs (marks 1 (turnSub l0).length))) := HM.out.below hb
    replace HGw : Hid (w17.ownsRow w2.heap.size 9 1 (.slice Aw (turnSub l0).length cpw) (turnSub l0).length (strs (turnSub l0))) := own_below HGw.out hb
    replace HGh : Hid (w17.ownsRow w14.heap.size 9 1 (.slice Ah (turnSub l0).length cph) (turnSub l0).length (strs (turnSub l0))) := own_below HGh.out hb
    replace HB : Hid (Below w.heap.size w w17) := HB.out.trans (hb.mono (HB.out.size))
    have hs16 : w16.heap.size ≤ w17.heap.size := by have hsz := hb.size; (try simp at hsz); omega
    clear hb
    go_wp2_with fail
    go_ret
    exact ⟨rfl, HB.out⟩

theorem fnExactTurnSubst_walk {H : Type} {enc : TypeId × Value → H} {base : Nat} {r : Reach} {b0 : Nat} {d0 : DataW H} {ps0 : List MemPlace} (v0 : Value) (w : World) (hval0 : Value.okWide Try.prog w r b0 24 v0) (h0 : DataW.Trod enc Try.prog w base (fun _ => true) true 24 v0 d0 ps0) :
    Calls Try.prog 9 #[v0] w fun e w' => e = .returned (.bool true) ∧ Below w.heap.size w w' := by
  obtain ⟨u0, l0, rfl, hl0, hz0⟩ := subst_arg Try.underlying24 (by kernel_rfl) rfl (by kernel_rfl) Try.underlying22 Try.underlying9 cellsOf_str hval0 h0
  exact fnExactTurnSubst_walk0 l0 u0 w hl0 hz0

set_option maxRecDepth 100000 in
theorem fnExactTurnSubst_row (os : Os) (started : os.Started) (H : Type) (enc : TypeId × Value → H) :
    ReturnsInHanded {} Try.checked os 9 .any (Rows.fnExactTurnSubstSpec.pre6 enc Try.prog Try.f9 Rows.fnExactTurnSubstRow.domain false) (Rows.fnExactTurnSubstSpec.post enc Try.prog Try.f9 false true false false) :=
  lawLifted (C := Try.checked) ownKnobs started (by kernel_rfl) Try.func9 laidOut (by kernel_rfl) (by kernel_rfl) Try.underlying4 rfl
    (fun ds h => by match ds, h with | [_], _ => rfl)
    (ChangeSpec.witness6 (enc := enc) (C := Try.checked) false ⟨#[], #[.agg #[.slice none 0 0]], []⟩ 8 (by kernel_rfl) (by kernel_rfl) (by kernel_rfl) (by kernel_rfl))
    (fun W base args ds p hval0 hA0 hlt => by
      have hval : ∀ (j : Nat) t v, Try.f9.params[j]? = some t → args[j]? = some v → Value.okWide Try.prog W .any base t v := hval0
      have hA : DataW.TrodAll enc Try.prog W 0 (fun _ => true) true Try.f9.params.toList args.toList ds p := hA0
      clear hval0 hA0
      rw [Try.params9] at hA hval
      obtain ⟨v0, d0, rfl, rfl, h0⟩ := trodAll_one hA
      exact fnExactTurnSubst_walk v0 W (hval 0 24 v0 rfl rfl) h0)

theorem fnExactTurnSubst_holds : Rows.FnExactTurnSubstSaid :=
  OpenClaim.holds_of_wide 9 Try.f9 rfl rfl rfl rfl rfl rfl rfl ⟨rfl, rfl, rfl, rfl, rfl⟩ rfl rfl rfl rfl rfl (by kernel_rfl) Try.func9 (by kernel_rfl)
    (of_decide_eq_true (by kernel_rfl)) (by unfold Func.isWrapper; first | (rw [if_pos (by decide +kernel)]; kernel_rfl) | (rw [if_neg (by decide +kernel)]; exact ⟨rfl, rfl⟩))
    (fun os started H enc _ => fnExactTurnSubst_row os started H enc)


end Go.Proofs.Ytgekhijjeojhaaa
