/- FnExactComposeSubst: for every argument the law returns true and its arguments read as before. No condition. -/
import Derived.Test.YtgekhijjeojhaaaOwn
import Derived.Test.YtgekhijjeojhaaaSubstArgs
import Derived.Deep.RegionWith
import Derived.Test.YtgekhijjeojhaaaCompose
import Derived.Test.YtgekhijjeojhaaaComposeI
import Derived.Deep.DeepCutAuto
import Derived.Deep.RegionHeld3
namespace Go.Proofs.Ytgekhijjeojhaaa
open Go.ChangeShapes Go.WideShapes Go.ChangeAt Go.RowKit
open Go.ChangeMaps (open_string shut_string)

set_option maxHeartbeats 4000000 in
set_option maxRecDepth 100000 in
theorem fnExactComposeSubst_walk0 (l0 : List ByteArray) (v0 : Value) (l1 : List ByteArray) (v1 : Value) (w : World) (h0 : Lst w v0 (strs l0)) (hz0 : ∀ x ∈ l0, x.size ≤ maxLen) (h1 : Lst w v1 (strs l1)) (hz1 : ∀ x ∈ l1, x.size ≤ maxLen) :
    Calls Try.prog 6 #[.agg #[v0], .agg #[v1]] w fun e w' => e = .returned (.bool true) ∧ Below w.heap.size w w' := by
  have hres := compSub_le l0 l1
  obtain ⟨A0, cp0, rfl⟩ := lst_slice h0
  obtain ⟨A1, cp1, rfl⟩ := lst_slice h1
  simp only [strs_length] at h0 h1 ⊢
  have hb0 : Below w.heap.size w ((w.alloc (.cells #[.slice A0 l0.length cp0] 24)).alloc (.cells #[.slice A1 l1.length cp1] 24)) := (((Below.refl w.heap.size w).alloc (Nat.le_refl _) _).alloc (by simp; try omega) _)
  have HL0 : Hid (Lst ((w.alloc (.cells #[.slice A0 l0.length cp0] 24)).alloc (.cells #[.slice A1 l1.length cp1] 24)) (.slice A0 l0.length cp0) (strs l0)) := h0.below hb0
  have HLT0 := Lib.hid (lst_lt h0)
  have HZM0 := Lib.hid hz0
  have HL1 : Hid (Lst ((w.alloc (.cells #[.slice A0 l0.length cp0] 24)).alloc (.cells #[.slice A1 l1.length cp1] 24)) (.slice A1 l1.length cp1) (strs l1)) := h1.below hb0
  have HLT1 := Lib.hid (lst_lt h1)
  have HZM1 := Lib.hid hz1
  have HB : Hid (Below w.heap.size w ((w.alloc (.cells #[.slice A0 l0.length cp0] 24)).alloc (.cells #[.slice A1 l1.length cp1] 24))) := hb0
  clear hb0 h0 hz0 h1 hz1
  go_enter Try.func6, Try.ntmps6
  go_wp2_with fail
  refine (szSubst_any l0 _ 1048576 _ HL0.out HZM0.out (by omega) (by omega)).mono ?_
  rintro e w1 ⟨hb, r0, rfl, hr1, hr2, hr3⟩
  have ccp0 : w1.cell? ⟨w.heap.size, 0, none⟩ = some (.slice A0 l0.length cp0) := (hb.cell (p := ⟨w.heap.size, 0, none⟩) (by first | assumption | (simp; omega) | simp)).trans (by first | assumption | go_simp)
  have ccp1 : w1.cell? ⟨w.heap.size + 1, 0, none⟩ = some (.slice A1 l1.length cp1) := (hb.cell (p := ⟨w.heap.size + 1, 0, none⟩) (by first | assumption | (simp; omega) | simp)).trans (by first | assumption | go_simp)
  have zzp0 : w.heap.size < w1.heap.size := by have hsz := hb.size; (try simp at hsz); omega
  have zzp1 : w.heap.size + 1 < w1.heap.size := by have hsz := hb.size; (try simp at hsz); omega
  replace HL0 : Hid (Lst w1 (.slice A0 l0.length cp0) (strs l0)) := HL0.out.below hb
  replace HL1 : Hid (Lst w1 (.slice A1 l1.length cp1) (strs l1)) := HL1.out.below hb
  replace HB : Hid (Below w.heap.size w w1) := HB.out.trans (hb.mono (HB.out.size))
  have hs1 : w.heap.size + 1 + 1 ≤ w1.heap.size := by have hsz := hb.size; (try simp at hsz); omega
  have HR0 := Lib.hid hr3
  clear hb hr3
  by_cases hneg0 : r0 < 0
  · go_wp2_with fail
    go_ret
    exact ⟨rfl, HB.out⟩
  have hge0 : 0 ≤ r0 := by omega
  obtain ⟨hn0, hz0⟩ := sz_use (HR0.out hge0) hge0 (by omega)
  have HZ0 := Lib.hid hz0
  have hle0 : r0 ≤ 1048576 := by omega
  clear hz0 hr1 hr2
  go_wp2_with fail
  refine (szSubst_any l1 _ r0 _ HL1.out HZM1.out (by omega) (by omega)).mono ?_
  rintro e w2 ⟨hb, r1, rfl, hr1, hr2, hr3⟩
  replace ccp0 : w2.cell? ⟨w.heap.size, 0, none⟩ = some (.slice A0 l0.length cp0) := (hb.cell (p := ⟨w.heap.size, 0, none⟩) (by first | assumption | (simp; omega) | simp)).trans (by first | assumption | go_simp)
  replace ccp1 : w2.cell? ⟨w.heap.size + 1, 0, none⟩ = some (.slice A1 l1.length cp1) := (hb.cell (p := ⟨w.heap.size + 1, 0, none⟩) (by first | assumption | (simp; omega) | simp)).trans (by first | assumption | go_simp)
  replace zzp0 : w.heap.size < w2.heap.size := by have hsz := hb.size; (try simp at hsz); omega
  replace zzp1 : w.heap.size + 1 < w2.heap.size := by have hsz := hb.size; (try simp at hsz); omega
  replace HL0 : Hid (Lst w2 (.slice A0 l0.length cp0) (strs l0)) := HL0.out.below hb
  replace HL1 : Hid (Lst w2 (.slice A1 l1.length cp1) (strs l1)) := HL1.out.below hb
  replace HB : Hid (Below w.heap.size w w2) := HB.out.trans (hb.mono (HB.out.size))
  have hs2 : w1.heap.size ≤ w2.heap.size := by have hsz := hb.size; (try simp at hsz); omega
  have HR1 := Lib.hid hr3
  clear hb hr3
  by_cases hneg1 : r1 < 0
  · go_wp2_with fail
    go_ret
    exact ⟨rfl, HB.out⟩
  have hge1 : 0 ≤ r1 := by omega
  obtain ⟨hn1, hz1⟩ := sz_use (HR1.out hge1) hge1 (by omega)
  have HZ1 := Lib.hid hz1
  have hle1 : r1 ≤ 1048576 := by omega
  clear hz1 hr1 hr2
  go_upto_region 8 with (fail)
  go_cut [6, 7] (fun s t wx => ∃ (gw : Nat) (Aw : Option Addr) (cpw : Nat), s = .pointer (some ⟨gw, 0, none⟩) ∧ t = .bool (compOk l0 l1) ∧ Below w2.heap.size w2 wx ∧ wx.cell? ⟨gw, 0, none⟩ = some (.slice Aw (compSub l0 l1).length cpw) ∧ gw < wx.heap.size ∧ Hid (wx.ownsRow (w2.heap.size) 9 1 (.slice Aw (compSub l0 l1).length cpw) (compSub l0 l1).length (strs (compSub l0 l1))) ∧ Hid (∀ k, Value.ownBlock (.slice Aw (compSub l0 l1).length cpw) = some k → w2.heap.size ≤ k ∧ k ≠ gw ∧ k < wx.heap.size) ∧ w2.heap.size ≤ gw)
  case first =>
    have HBc : Hid (Below w2.heap.size w2 w2.drew) := below_drewN (Below.refl _ _) 1
    go_region_held3 (fun w' => w'.cell? ⟨w.heap.size, 0, none⟩ = some (.slice A0 l0.length cp0) ∧ w'.cell? ⟨w.heap.size + 1, 0, none⟩ = some (.slice A1 l1.length cp1))
      (first | exact ⟨ccp0, ccp1⟩ | (refine ⟨?_, ?_⟩ <;> (first | assumption | (go_simp; done))))
      (first
        | (go_at_call_of 15 (Value.slice A0 l0.length cp0)
           refine (toSubst_any l0 _ _ (by first | exact HL0.out.below HBc.out | exact HL0.out.below (HBc.out.alloc HBc.out.size _) | exact HL0.out.below (below_drewN ((Below.refl _ _).alloc (Nat.le_refl _) _) 1)) hn0).mono ?_
           rintro e wt0 ⟨vt0, rfl, hot, hb⟩
           replace ccp0 : wt0.cell? ⟨w.heap.size, 0, none⟩ = some (.slice A0 l0.length cp0) := (hb.cell (p := ⟨w.heap.size, 0, none⟩) (by first | assumption | (simp; omega) | simp)).trans (by first | assumption | go_simp)
           replace ccp1 : wt0.cell? ⟨w.heap.size + 1, 0, none⟩ = some (.slice A1 l1.length cp1) := (hb.cell (p := ⟨w.heap.size + 1, 0, none⟩) (by first | assumption | (simp; omega) | simp)).trans (by first | assumption | go_simp)
           replace zzp0 : w.heap.size < wt0.heap.size := by have hsz := hb.size; (try simp at hsz); omega
           replace zzp1 : w.heap.size + 1 < wt0.heap.size := by have hsz := hb.size; (try simp at hsz); omega
           have hszwt0 := hb.size
           try simp at hszwt0
           try (have qcs : wt0.cell? ⟨w2.heap.size, 0, none⟩ = some (.slice none 0 0) := ?_
                rotate_left
                · refine (hb.cell (p := ⟨w2.heap.size, 0, none⟩) ?_).trans ?_
                  · first | assumption | omega | (simp; omega) | (simp; done)
                  · first | assumption | (go_simp; done))
           try (have qfs : wt0.frozen? ⟨w2.heap.size, 0, none⟩ = false := ?_
                rotate_left
                · refine (hb.frozen (p := ⟨w2.heap.size, 0, none⟩) ?_).trans ?_
                  · first | assumption | omega | (simp; omega) | (simp; done)
                  · first | assumption | (go_simp; done))
           try (have qc0 : wt0.cell? ⟨wt0.heap.size, 0, none⟩ = some (.slice none 0 0) := ?_
                rotate_left
                · refine (hb.cell (p := ⟨wt0.heap.size, 0, none⟩) ?_).trans ?_
                  · first | assumption | omega | (simp; omega) | (simp; done)
                  · first | assumption | (go_simp; done))
           try (have qf0 : wt0.frozen? ⟨wt0.heap.size, 0, none⟩ = false := ?_
                rotate_left
                · refine (hb.frozen (p := ⟨wt0.heap.size, 0, none⟩) ?_).trans ?_
                  · first | assumption | omega | (simp; omega) | (simp; done)
                  · first | assumption | (go_simp; done))
           try (have qc1 : wt0.cell? ⟨wt1.heap.size, 0, none⟩ = some (.slice none 0 0) := ?_
                rotate_left
                · refine (hb.cell (p := ⟨wt1.heap.size, 0, none⟩) ?_).trans ?_
                  · first | assumption | omega | (simp; omega) | (simp; done)
                  · first | assumption | (go_simp; done))
           try (have qf1 : wt0.frozen? ⟨wt1.heap.size, 0, none⟩ = false := ?_
                rotate_left
                · refine (hb.frozen (p := ⟨wt1.heap.size, 0, none⟩) ?_).trans ?_
                  · first | assumption | omega | (simp; omega) | (simp; done)
                  · first | assumption | (go_simp; done))
           have hstwt0 : w2.heap.size ≤ wt0.heap.size := by have hsz := hb.size; (try simp at hsz); omega
           replace HBc : Hid (Below w2.heap.size w2 wt0) := by first | exact HBc.out.trans (hb.mono HBc.out.size) | exact (HBc.out.alloc HBc.out.size _).trans (hb.mono (by have := HBc.out.size; simp at this ⊢; omega)) | exact (below_drewN ((Below.refl _ _).alloc (Nat.le_refl _) _) 1).trans (hb.mono (by simp))
           try (replace HY1 : Hid (Lst wt0 vt1 (strs l1)) := by first | exact HY1.out.below hb | exact (HY1.out.below ((Below.refl _ _).alloc (Nat.le_refl _) _)).below hb)
           have HY0 : Hid (Lst wt0 vt0 (strs l0)) := Lst.of_own hot
           clear hb hot)
        | (go_at_call_of 15 (Value.slice A1 l1.length cp1)
           refine (toSubst_any l1 _ _ (by first | exact HL1.out.below HBc.out | exact HL1.out.below (HBc.out.alloc HBc.out.size _) | exact HL1.out.below (below_drewN ((Below.refl _ _).alloc (Nat.le_refl _) _) 1)) hn1).mono ?_
           rintro e wt1 ⟨vt1, rfl, hot, hb⟩
           replace ccp0 : wt1.cell? ⟨w.heap.size, 0, none⟩ = some (.slice A0 l0.length cp0) := (hb.cell (p := ⟨w.heap.size, 0, none⟩) (by first | assumption | (simp; omega) | simp)).trans (by first | assumption | go_simp)
           replace ccp1 : wt1.cell? ⟨w.heap.size + 1, 0, none⟩ = some (.slice A1 l1.length cp1) := (hb.cell (p := ⟨w.heap.size + 1, 0, none⟩) (by first | assumption | (simp; omega) | simp)).trans (by first | assumption | go_simp)
           replace zzp0 : w.heap.size < wt1.heap.size := by have hsz := hb.size; (try simp at hsz); omega
           replace zzp1 : w.heap.size + 1 < wt1.heap.size := by have hsz := hb.size; (try simp at hsz); omega
           have hszwt1 := hb.size
           try simp at hszwt1
           try (have qcs : wt1.cell? ⟨w2.heap.size, 0, none⟩ = some (.slice none 0 0) := ?_
                rotate_left
                · refine (hb.cell (p := ⟨w2.heap.size, 0, none⟩) ?_).trans ?_
                  · first | assumption | omega | (simp; omega) | (simp; done)
                  · first | assumption | (go_simp; done))
           try (have qfs : wt1.frozen? ⟨w2.heap.size, 0, none⟩ = false := ?_
                rotate_left
                · refine (hb.frozen (p := ⟨w2.heap.size, 0, none⟩) ?_).trans ?_
                  · first | assumption | omega | (simp; omega) | (simp; done)
                  · first | assumption | (go_simp; done))
           try (have qc0 : wt1.cell? ⟨wt0.heap.size, 0, none⟩ = some (.slice none 0 0) := ?_
                rotate_left
                · refine (hb.cell (p := ⟨wt0.heap.size, 0, none⟩) ?_).trans ?_
                  · first | assumption | omega | (simp; omega) | (simp; done)
                  · first | assumption | (go_simp; done))
           try (have qf0 : wt1.frozen? ⟨wt0.heap.size, 0, none⟩ = false := ?_
                rotate_left
                · refine (hb.frozen (p := ⟨wt0.heap.size, 0, none⟩) ?_).trans ?_
                  · first | assumption | omega | (simp; omega) | (simp; done)
                  · first | assumption | (go_simp; done))
           try (have qc1 : wt1.cell? ⟨wt1.heap.size, 0, none⟩ = some (.slice none 0 0) := ?_
                rotate_left
                · refine (hb.cell (p := ⟨wt1.heap.size, 0, none⟩) ?_).trans ?_
                  · first | assumption | omega | (simp; omega) | (simp; done)
                  · first | assumption | (go_simp; done))
           try (have qf1 : wt1.frozen? ⟨wt1.heap.size, 0, none⟩ = false := ?_
                rotate_left
                · refine (hb.frozen (p := ⟨wt1.heap.size, 0, none⟩) ?_).trans ?_
                  · first | assumption | omega | (simp; omega) | (simp; done)
                  · first | assumption | (go_simp; done))
           have hstwt1 : w2.heap.size ≤ wt1.heap.size := by have hsz := hb.size; (try simp at hsz); omega
           replace HBc : Hid (Below w2.heap.size w2 wt1) := by first | exact HBc.out.trans (hb.mono HBc.out.size) | exact (HBc.out.alloc HBc.out.size _).trans (hb.mono (by have := HBc.out.size; simp at this ⊢; omega)) | exact (below_drewN ((Below.refl _ _).alloc (Nat.le_refl _) _) 1).trans (hb.mono (by simp))
           try (replace HY0 : Hid (Lst wt1 vt0 (strs l0)) := by first | exact HY0.out.below hb | exact (HY0.out.below ((Below.refl _ _).alloc (Nat.le_refl _) _)).below hb)
           have HY1 : Hid (Lst wt1 vt1 (strs l1)) := Lst.of_own hot
           clear hb hot)
        | (go_at_call 22
           refine (specComposeSubst l0 l1 _ _ _ (by first | exact HY0.out | exact HY0.out.below ((Below.refl _ _).alloc (Nat.le_refl _) _)) (by first | exact HY1.out | exact HY1.out.below ((Below.refl _ _).alloc (Nat.le_refl _) _)) HZ0.out HZ1.out hn0 hn1).mono ?_
           rintro e w3 ⟨vw, rfl, ho, hb⟩
           obtain ⟨Aw, cpw, rfl⟩ := own_slice ho
           have LOw := Lib.hid ho.lt
           have hsw := hb.size
           replace ccp0 : w3.cell? ⟨w.heap.size, 0, none⟩ = some (.slice A0 l0.length cp0) := (hb.cell (p := ⟨w.heap.size, 0, none⟩) (by first | assumption | (simp; omega) | simp)).trans (by first | assumption | go_simp)
           replace ccp1 : w3.cell? ⟨w.heap.size + 1, 0, none⟩ = some (.slice A1 l1.length cp1) := (hb.cell (p := ⟨w.heap.size + 1, 0, none⟩) (by first | assumption | (simp; omega) | simp)).trans (by first | assumption | go_simp)
           replace zzp0 : w.heap.size < w3.heap.size := by have hsz := hb.size; (try simp at hsz); omega
           replace zzp1 : w.heap.size + 1 < w3.heap.size := by have hsz := hb.size; (try simp at hsz); omega
           have hszw3 := hb.size
           try simp at hszw3
           try (have qcs : w3.cell? ⟨w2.heap.size, 0, none⟩ = some (.slice none 0 0) := ?_
                rotate_left
                · refine (hb.cell (p := ⟨w2.heap.size, 0, none⟩) ?_).trans ?_
                  · first | assumption | omega | (simp; omega) | (simp; done)
                  · first | assumption | (go_simp; done))
           try (have qfs : w3.frozen? ⟨w2.heap.size, 0, none⟩ = false := ?_
                rotate_left
                · refine (hb.frozen (p := ⟨w2.heap.size, 0, none⟩) ?_).trans ?_
                  · first | assumption | omega | (simp; omega) | (simp; done)
                  · first | assumption | (go_simp; done))
           try (have qc0 : w3.cell? ⟨wt0.heap.size, 0, none⟩ = some (.slice none 0 0) := ?_
                rotate_left
                · refine (hb.cell (p := ⟨wt0.heap.size, 0, none⟩) ?_).trans ?_
                  · first | assumption | omega | (simp; omega) | (simp; done)
                  · first | assumption | (go_simp; done))
           try (have qf0 : w3.frozen? ⟨wt0.heap.size, 0, none⟩ = false := ?_
                rotate_left
                · refine (hb.frozen (p := ⟨wt0.heap.size, 0, none⟩) ?_).trans ?_
                  · first | assumption | omega | (simp; omega) | (simp; done)
                  · first | assumption | (go_simp; done))
           try (have qc1 : w3.cell? ⟨wt1.heap.size, 0, none⟩ = some (.slice none 0 0) := ?_
                rotate_left
                · refine (hb.cell (p := ⟨wt1.heap.size, 0, none⟩) ?_).trans ?_
                  · first | assumption | omega | (simp; omega) | (simp; done)
                  · first | assumption | (go_simp; done))
           try (have qf1 : w3.frozen? ⟨wt1.heap.size, 0, none⟩ = false := ?_
                rotate_left
                · refine (hb.frozen (p := ⟨wt1.heap.size, 0, none⟩) ?_).trans ?_
                  · first | assumption | omega | (simp; omega) | (simp; done)
                  · first | assumption | (go_simp; done))
           have hstw3 : w2.heap.size ≤ w3.heap.size := by have hsz := hb.size; (try simp at hsz); omega
           replace HBc : Hid (Below w2.heap.size w2 w3) := by first | exact HBc.out.trans (hb.mono HBc.out.size) | exact (HBc.out.alloc HBc.out.size _).trans (hb.mono (by have := HBc.out.size; simp at this ⊢; omega)) | exact (below_drewN ((Below.refl _ _).alloc (Nat.le_refl _) _) 1).trans (hb.mono (by simp))
           have HGw : Hid (w3.ownsRow (w2.heap.size) 9 1 (.slice Aw (compSub l0 l1).length cpw) (compSub l0 l1).length (strs (compSub l0 l1))) := own_mono ho (by first | omega | (simp; omega))
           try simp at hsw
           clear hb ho HY0 HY1))
    all_goals
      go_wp2_with fail
      go_meet
      first
        | (refine ⟨w3.heap.size, Aw, cpw, rfl, rfl, HBc.out.alloc HBc.out.size _, ?_, ?_, ?_, ?_, ?_⟩
           · rw [World.cell?_alloc_at _ _ _ _ rfl]; rfl
           · simp; done
           · exact own_below HGw.out ((Below.refl _ _).alloc (Nat.le_refl _) _)
           · intro k hk; have hlk := LOw.out k hk; (try simp at hlk); simp; omega
           · omega)
        | (refine ⟨wt1.heap.size, Aw, cpw, rfl, rfl, HBc.out.setCell ?_ _, ?_, ?_, own_setCell2 HGw.out ?_ _, ?_, ?_⟩
           · first | omega | (simp; omega) | (simp; done)
           · go_simp; done
           · first | omega | (simp; omega)
           · intro k hk; have hlk := LOw.out k hk; (try simp at hlk); (try simp); omega
           · intro k hk; have hlk := LOw.out k hk; (try simp at hlk); (try simp); omega
           · omega)
        | (refine ⟨wt0.heap.size, Aw, cpw, rfl, rfl, HBc.out.setCell ?_ _, ?_, ?_, own_setCell2 HGw.out ?_ _, ?_, ?_⟩
           · first | omega | (simp; omega) | (simp; done)
           · go_simp; done
           · first | omega | (simp; omega)
           · intro k hk; have hlk := LOw.out k hk; (try simp at hlk); (try simp); omega
           · intro k hk; have hlk := LOw.out k hk; (try simp at hlk); (try simp); omega
           · omega)
        | (refine ⟨w2.heap.size, Aw, cpw, rfl, rfl, HBc.out.setCell ?_ _, ?_, ?_, own_setCell2 HGw.out ?_ _, ?_, ?_⟩
           · first | omega | (simp; omega) | (simp; done)
           · go_simp; done
           · first | omega | (simp; omega)
           · intro k hk; have hlk := LOw.out k hk; (try simp at hlk); (try simp); omega
           · intro k hk; have hlk := LOw.out k hk; (try simp at hlk); (try simp); omega
           · omega)
  case rest =>
    obtain ⟨gw, Aw, cpw, rfl, rfl, hbs, ccw, zzw, HGw, LOw, hsgw⟩ := hcut
    obtain ⟨w4, rfl⟩ : ∃ x : World, x = wc := ⟨_, rfl⟩
    have hupw := zzw
    replace ccp0 : w4.cell? ⟨w.heap.size, 0, none⟩ = some (.slice A0 l0.length cp0) := (hbs.cell (p := ⟨w.heap.size, 0, none⟩) (by first | assumption | (simp; omega) | simp)).trans (by first | assumption | go_simp)
    replace ccp1 : w4.cell? ⟨w.heap.size + 1, 0, none⟩ = some (.slice A1 l1.length cp1) := (hbs.cell (p := ⟨w.heap.size + 1, 0, none⟩) (by first | assumption | (simp; omega) | simp)).trans (by first | assumption | go_simp)
    replace zzp0 : w.heap.size < w4.heap.size := by have hsz := hbs.size; (try simp at hsz); omega
    replace zzp1 : w.heap.size + 1 < w4.heap.size := by have hsz := hbs.size; (try simp at hsz); omega
    replace HL0 : Hid (Lst w4 (.slice A0 l0.length cp0) (strs l0)) := HL0.out.below hbs
    replace HL1 : Hid (Lst w4 (.slice A1 l1.length cp1) (strs l1)) := HL1.out.below hbs
    replace HB : Hid (Below w.heap.size w w4) := HB.out.trans (hbs.mono (HB.out.size))
    have hs3 : w2.heap.size ≤ w4.heap.size := by have hsz := hbs.size; (try simp at hsz); omega
    clear hbs
    go_wp2_with fail
    refine (toSubst_any l0 _ _ HL0.out hn0).mono ?_
    rintro e w5 ⟨vx0, rfl, ho, hb⟩
    obtain ⟨Ax0, cpx0, rfl⟩ := own_slice ho
    have LOx0 : Hid (∀ k, Value.ownBlock (.slice Ax0 l0.length cpx0) = some k → w4.heap.size ≤ k ∧ k < w5.heap.size) := fun k hk => by have hlk := ho.lt k hk; (try simp at hlk); omega
    replace ccp0 : w5.cell? ⟨w.heap.size, 0, none⟩ = some (.slice A0 l0.length cp0) := (hb.cell (p := ⟨w.heap.size, 0, none⟩) (by first | assumption | (simp; omega) | simp)).trans (by first | assumption | go_simp)
    replace ccp1 : w5.cell? ⟨w.heap.size + 1, 0, none⟩ = some (.slice A1 l1.length cp1) := (hb.cell (p := ⟨w.heap.size + 1, 0, none⟩) (by first | assumption | (simp; omega) | simp)).trans (by first | assumption | go_simp)
    replace ccw : w5.cell? ⟨gw, 0, none⟩ = some (.slice Aw (compSub l0 l1).length cpw) := (hb.cell (p := ⟨gw, 0, none⟩) (by first | assumption | (simp; omega) | simp)).trans (by first | assumption | go_simp)
    replace zzp0 : w.heap.size < w5.heap.size := by have hsz := hb.size; (try simp at hsz); omega
    replace zzp1 : w.heap.size + 1 < w5.heap.size := by have hsz := hb.size; (try simp at hsz); omega
    replace zzw : gw < w5.heap.size := by have hsz := hb.size; (try simp at hsz); omega
    replace HL0 : Hid (Lst w5 (.slice A0 l0.length cp0) (strs l0)) := HL0.out.below hb
    replace HL1 : Hid (Lst w5 (.slice A1 l1.length cp1) (strs l1)) := HL1.out.below hb
    replace HGw : Hid (w5.ownsRow (w2.heap.size) 9 1 (.slice Aw (compSub l0 l1).length cpw) (compSub l0 l1).length (strs (compSub l0 l1))) := own_below HGw.out hb
    replace HB : Hid (Below w.heap.size w w5) := HB.out.trans (hb.mono (HB.out.size))
    have hs4 : w4.heap.size ≤ w5.heap.size := by have hsz := hb.size; (try simp at hsz); omega
    have HXx0 : Hid (w5.ownsRow w4.heap.size 9 1 (.slice Ax0 l0.length cpx0) (l0).length (strs (l0))) := ho
    clear hb ho
    go_wp2_with fail
    have hbA : Below w5.heap.size w5 (w5.alloc (.cells #[.slice Ax0 l0.length cpx0] 27)) := (Below.refl _ _).alloc (Nat.le_refl _) _
    replace HL0 : Hid (Lst (w5.alloc (.cells #[.slice Ax0 l0.length cpx0] 27)) (.slice A0 l0.length cp0) (strs l0)) := HL0.out.below hbA
    replace HL1 : Hid (Lst (w5.alloc (.cells #[.slice Ax0 l0.length cpx0] 27)) (.slice A1 l1.length cp1) (strs l1)) := HL1.out.below hbA
    replace HGw : Hid ((w5.alloc (.cells #[.slice Ax0 l0.length cpx0] 27)).ownsRow (w2.heap.size) 9 1 (.slice Aw (compSub l0 l1).length cpw) (compSub l0 l1).length (strs (compSub l0 l1))) := own_below HGw.out hbA
    replace HXx0 : Hid ((w5.alloc (.cells #[.slice Ax0 l0.length cpx0] 27)).ownsRow w4.heap.size 9 1 (.slice Ax0 l0.length cpx0) (l0).length (strs (l0))) := own_below HXx0.out hbA
    replace HB : Hid (Below w.heap.size w (w5.alloc (.cells #[.slice Ax0 l0.length cpx0] 27))) := HB.out.trans (hbA.mono (HB.out.size))
    clear hbA
    refine (toSubst_any l1 _ _ HL1.out hn1).mono ?_
    rintro e w6 ⟨vx1, rfl, ho, hb⟩
    obtain ⟨Ax1, cpx1, rfl⟩ := own_slice ho
    have LOx1 : Hid (∀ k, Value.ownBlock (.slice Ax1 l1.length cpx1) = some k → w5.heap.size + 1 ≤ k ∧ k < w6.heap.size) := fun k hk => by have hlk := ho.lt k hk; (try simp at hlk); omega
    replace ccp0 : w6.cell? ⟨w.heap.size, 0, none⟩ = some (.slice A0 l0.length cp0) := (hb.cell (p := ⟨w.heap.size, 0, none⟩) (by first | assumption | (simp; omega) | simp)).trans (by first | assumption | go_simp)
    replace ccp1 : w6.cell? ⟨w.heap.size + 1, 0, none⟩ = some (.slice A1 l1.length cp1) := (hb.cell (p := ⟨w.heap.size + 1, 0, none⟩) (by first | assumption | (simp; omega) | simp)).trans (by first | assumption | go_simp)
    replace ccw : w6.cell? ⟨gw, 0, none⟩ = some (.slice Aw (compSub l0 l1).length cpw) := (hb.cell (p := ⟨gw, 0, none⟩) (by first | assumption | (simp; omega) | simp)).trans (by first | assumption | go_simp)
    have ccx0 : w6.cell? ⟨w5.heap.size, 0, none⟩ = some (.slice Ax0 l0.length cpx0) := (hb.cell (p := ⟨w5.heap.size, 0, none⟩) (by first | assumption | (simp; omega) | simp)).trans (by first | assumption | go_simp)
    replace zzp0 : w.heap.size < w6.heap.size := by have hsz := hb.size; (try simp at hsz); omega
    replace zzp1 : w.heap.size + 1 < w6.heap.size := by have hsz := hb.size; (try simp at hsz); omega
    replace zzw : gw < w6.heap.size := by have hsz := hb.size; (try simp at hsz); omega
    have zzx0 : w5.heap.size < w6.heap.size := by have hsz := hb.size; (try simp at hsz); omega
    replace HL0 : Hid (Lst w6 (.slice A0 l0.length cp0) (strs l0)) := HL0.out.below hb
    replace HL1 : Hid (Lst w6 (.slice A1 l1.length cp1) (strs l1)) := HL1.out.below hb
    replace HGw : Hid (w6.ownsRow (w2.heap.size) 9 1 (.slice Aw (compSub l0 l1).length cpw) (compSub l0 l1).length (strs (compSub l0 l1))) := own_below HGw.out hb
    replace HXx0 : Hid (w6.ownsRow w4.heap.size 9 1 (.slice Ax0 l0.length cpx0) (l0).length (strs (l0))) := own_below HXx0.out hb
    replace HB : Hid (Below w.heap.size w w6) := HB.out.trans (hb.mono (HB.out.size))
    have hs5 : w5.heap.size + 1 ≤ w6.heap.size := by have hsz := hb.size; (try simp at hsz); omega
    have HXx1 : Hid (w6.ownsRow (w5.alloc (.cells #[.slice Ax0 l0.length cpx0] 27)).heap.size 9 1 (.slice Ax1 l1.length cpx1) (l1).length (strs (l1))) := ho
    clear hb ho
    go_wp2_with fail
    have hbA : Below w6.heap.size w6 (w6.alloc (.cells #[.slice Ax1 l1.length cpx1] 27)) := (Below.refl _ _).alloc (Nat.le_refl _) _
    replace HL0 : Hid (Lst (w6.alloc (.cells #[.slice Ax1 l1.length cpx1] 27)) (.slice A0 l0.length cp0) (strs l0)) := HL0.out.below hbA
    replace HL1 : Hid (Lst (w6.alloc (.cells #[.slice Ax1 l1.length cpx1] 27)) (.slice A1 l1.length cp1) (strs l1)) := HL1.out.below hbA
    replace HGw : Hid ((w6.alloc (.cells #[.slice Ax1 l1.length cpx1] 27)).ownsRow (w2.heap.size) 9 1 (.slice Aw (compSub l0 l1).length cpw) (compSub l0 l1).length (strs (compSub l0 l1))) := own_below HGw.out hbA
    replace HXx0 : Hid ((w6.alloc (.cells #[.slice Ax1 l1.length cpx1] 27)).ownsRow w4.heap.size 9 1 (.slice Ax0 l0.length cpx0) (l0).length (strs (l0))) := own_below HXx0.out hbA
    replace HXx1 : Hid ((w6.alloc (.cells #[.slice Ax1 l1.length cpx1] 27)).ownsRow (w5.alloc (.cells #[.slice Ax0 l0.length cpx0] 27)).heap.size 9 1 (.slice Ax1 l1.length cpx1) (l1).length (strs (l1))) := own_below HXx1.out hbA
    replace HB : Hid (Below w.heap.size w (w6.alloc (.cells #[.slice Ax1 l1.length cpx1] 27))) := HB.out.trans (hbA.mono (HB.out.size))
    clear hbA
    refine (implComposeSubst l0 l1 _ _ _ (Lst.of_own HXx0.out) (Lst.of_own HXx1.out) HZ0.out HZ1.out hn0 hn1).mono ?_
    rintro e w7 ⟨vg, rfl, ho, hb⟩
    obtain ⟨Ag, cpg, rfl⟩ := own_slice ho
    have LOg : Hid (∀ k, Value.ownBlock (.slice Ag (compSub l0 l1).length cpg) = some k → w6.heap.size + 1 ≤ k ∧ k < w7.heap.size) := fun k hk => by have hlk := ho.lt k hk; (try simp at hlk); omega
    replace ccp0 : w7.cell? ⟨w.heap.size, 0, none⟩ = some (.slice A0 l0.length cp0) := (hb.cell (p := ⟨w.heap.size, 0, none⟩) (by first | assumption | (simp; omega) | simp)).trans (by first | assumption | go_simp)
    replace ccp1 : w7.cell? ⟨w.heap.size + 1, 0, none⟩ = some (.slice A1 l1.length cp1) := (hb.cell (p := ⟨w.heap.size + 1, 0, none⟩) (by first | assumption | (simp; omega) | simp)).trans (by first | assumption | go_simp)
    replace ccw : w7.cell? ⟨gw, 0, none⟩ = some (.slice Aw (compSub l0 l1).length cpw) := (hb.cell (p := ⟨gw, 0, none⟩) (by first | assumption | (simp; omega) | simp)).trans (by first | assumption | go_simp)
    replace ccx0 : w7.cell? ⟨w5.heap.size, 0, none⟩ = some (.slice Ax0 l0.length cpx0) := (hb.cell (p := ⟨w5.heap.size, 0, none⟩) (by first | assumption | (simp; omega) | simp)).trans (by first | assumption | go_simp)
    have ccx1 : w7.cell? ⟨w6.heap.size, 0, none⟩ = some (.slice Ax1 l1.length cpx1) := (hb.cell (p := ⟨w6.heap.size, 0, none⟩) (by first | assumption | (simp; omega) | simp)).trans (by first | assumption | go_simp)
    replace zzp0 : w.heap.size < w7.heap.size := by have hsz := hb.size; (try simp at hsz); omega
    replace zzp1 : w.heap.size + 1 < w7.heap.size := by have hsz := hb.size; (try simp at hsz); omega
    replace zzw : gw < w7.heap.size := by have hsz := hb.size; (try simp at hsz); omega
    replace zzx0 : w5.heap.size < w7.heap.size := by have hsz := hb.size; (try simp at hsz); omega
    have zzx1 : w6.heap.size < w7.heap.size := by have hsz := hb.size; (try simp at hsz); omega
    replace HL0 : Hid (Lst w7 (.slice A0 l0.length cp0) (strs l0)) := HL0.out.below hb
    replace HL1 : Hid (Lst w7 (.slice A1 l1.length cp1) (strs l1)) := HL1.out.below hb
    replace HGw : Hid (w7.ownsRow (w2.heap.size) 9 1 (.slice Aw (compSub l0 l1).length cpw) (compSub l0 l1).length (strs (compSub l0 l1))) := own_below HGw.out hb
    replace HXx0 : Hid (w7.ownsRow w4.heap.size 9 1 (.slice Ax0 l0.length cpx0) (l0).length (strs (l0))) := own_below HXx0.out hb
    replace HXx1 : Hid (w7.ownsRow (w5.alloc (.cells #[.slice Ax0 l0.length cpx0] 27)).heap.size 9 1 (.slice Ax1 l1.length cpx1) (l1).length (strs (l1))) := own_below HXx1.out hb
    replace HB : Hid (Below w.heap.size w w7) := HB.out.trans (hb.mono (HB.out.size))
    have hs6 : w6.heap.size + 1 ≤ w7.heap.size := by have hsz := hb.size; (try simp at hsz); omega
    have HGg : Hid (w7.ownsRow (w6.alloc (.cells #[.slice Ax1 l1.length cpx1] 27)).heap.size 9 1 (.slice Ag (compSub l0 l1).length cpg) (compSub l0 l1).length (strs (compSub l0 l1))) := ho
    clear hb ho
    go_wp2_with fail
    have hbA : Below w7.heap.size w7 (w7.alloc (.cells #[.slice Ag (compSub l0 l1).length cpg] 27)) := (Below.refl _ _).alloc (Nat.le_refl _) _
    replace HL0 : Hid (Lst (w7.alloc (.cells #[.slice Ag (compSub l0 l1).length cpg] 27)) (.slice A0 l0.length cp0) (strs l0)) := HL0.out.below hbA
    replace HL1 : Hid (Lst (w7.alloc (.cells #[.slice Ag (compSub l0 l1).length cpg] 27)) (.slice A1 l1.length cp1) (strs l1)) := HL1.out.below hbA
    replace HGw : Hid ((w7.alloc (.cells #[.slice Ag (compSub l0 l1).length cpg] 27)).ownsRow (w2.heap.size) 9 1 (.slice Aw (compSub l0 l1).length cpw) (compSub l0 l1).length (strs (compSub l0 l1))) := own_below HGw.out hbA
    replace HXx0 : Hid ((w7.alloc (.cells #[.slice Ag (compSub l0 l1).length cpg] 27)).ownsRow w4.heap.size 9 1 (.slice Ax0 l0.length cpx0) (l0).length (strs (l0))) := own_below HXx0.out hbA
    replace HXx1 : Hid ((w7.alloc (.cells #[.slice Ag (compSub l0 l1).length cpg] 27)).ownsRow (w5.alloc (.cells #[.slice Ax0 l0.length cpx0] 27)).heap.size 9 1 (.slice Ax1 l1.length cpx1) (l1).length (strs (l1))) := own_below HXx1.out hbA
    replace HGg : Hid ((w7.alloc (.cells #[.slice Ag (compSub l0 l1).length cpg] 27)).ownsRow (w6.alloc (.cells #[.slice Ax1 l1.length cpx1] 27)).heap.size 9 1 (.slice Ag (compSub l0 l1).length cpg) (compSub l0 l1).length (strs (compSub l0 l1))) := own_below HGg.out hbA
    replace HB : Hid (Below w.heap.size w (w7.alloc (.cells #[.slice Ag (compSub l0 l1).length cpg] 27))) := HB.out.trans (hbA.mono (HB.out.size))
    clear hbA
    refine (eqSubst_same (compSub l0 l1) _ _ _ (Lst.of_own HGg.out) (Lst.of_own HGw.out)).mono ?_
    rintro e w8 ⟨rfl, hb⟩
    replace ccp0 : w8.cell? ⟨w.heap.size, 0, none⟩ = some (.slice A0 l0.length cp0) := (hb.cell (p := ⟨w.heap.size, 0, none⟩) (by first | assumption | (simp; omega) | simp)).trans (by first | assumption | go_simp)
    replace ccp1 : w8.cell? ⟨w.heap.size + 1, 0, none⟩ = some (.slice A1 l1.length cp1) := (hb.cell (p := ⟨w.heap.size + 1, 0, none⟩) (by first | assumption | (simp; omega) | simp)).trans (by first | assumption | go_simp)
    replace ccw : w8.cell? ⟨gw, 0, none⟩ = some (.slice Aw (compSub l0 l1).length cpw) := (hb.cell (p := ⟨gw, 0, none⟩) (by first | assumption | (simp; omega) | simp)).trans (by first | assumption | go_simp)
    replace ccx0 : w8.cell? ⟨w5.heap.size, 0, none⟩ = some (.slice Ax0 l0.length cpx0) := (hb.cell (p := ⟨w5.heap.size, 0, none⟩) (by first | assumption | (simp; omega) | simp)).trans (by first | assumption | go_simp)
    replace ccx1 : w8.cell? ⟨w6.heap.size, 0, none⟩ = some (.slice Ax1 l1.length cpx1) := (hb.cell (p := ⟨w6.heap.size, 0, none⟩) (by first | assumption | (simp; omega) | simp)).trans (by first | assumption | go_simp)
    have ccg : w8.cell? ⟨w7.heap.size, 0, none⟩ = some (.slice Ag (compSub l0 l1).length cpg) := (hb.cell (p := ⟨w7.heap.size, 0, none⟩) (by first | assumption | (simp; omega) | simp)).trans (by first | assumption | go_simp)
    replace zzp0 : w.heap.size < w8.heap.size := by have hsz := hb.size; (try simp at hsz); omega
    replace zzp1 : w.heap.size + 1 < w8.heap.size := by have hsz := hb.size; (try simp at hsz); omega
    replace zzw : gw < w8.heap.size := by have hsz := hb.size; (try simp at hsz); omega
    replace zzx0 : w5.heap.size < w8.heap.size := by have hsz := hb.size; (try simp at hsz); omega
    replace zzx1 : w6.heap.size < w8.heap.size := by have hsz := hb.size; (try simp at hsz); omega
    have zzg : w7.heap.size < w8.heap.size := by have hsz := hb.size; (try simp at hsz); omega
    replace HL0 : Hid (Lst w8 (.slice A0 l0.length cp0) (strs l0)) := HL0.out.below hb
    replace HL1 : Hid (Lst w8 (.slice A1 l1.length cp1) (strs l1)) := HL1.out.below hb
    replace HGw : Hid (w8.ownsRow (w2.heap.size) 9 1 (.slice Aw (compSub l0 l1).length cpw) (compSub l0 l1).length (strs (compSub l0 l1))) := own_below HGw.out hb
    replace HXx0 : Hid (w8.ownsRow w4.heap.size 9 1 (.slice Ax0 l0.length cpx0) (l0).length (strs (l0))) := own_below HXx0.out hb
    replace HXx1 : Hid (w8.ownsRow (w5.alloc (.cells #[.slice Ax0 l0.length cpx0] 27)).heap.size 9 1 (.slice Ax1 l1.length cpx1) (l1).length (strs (l1))) := own_below HXx1.out hb
    replace HGg : Hid (w8.ownsRow (w6.alloc (.cells #[.slice Ax1 l1.length cpx1] 27)).heap.size 9 1 (.slice Ag (compSub l0 l1).length cpg) (compSub l0 l1).length (strs (compSub l0 l1))) := own_below HGg.out hb
    replace HB : Hid (Below w.heap.size w w8) := HB.out.trans (hb.mono (HB.out.size))
    have hs7 : w7.heap.size + 1 ≤ w8.heap.size := by have hsz := hb.size; (try simp at hsz); omega
    clear hb
    go_upto_region 14 with (fail)
    go_cut [58] (fun s wx => s = .bool false ∧ wx.cell? ⟨w.heap.size, 0, none⟩ = some (.slice A0 l0.length cp0) ∧ wx.cell? ⟨w.heap.size + 1, 0, none⟩ = some (.slice A1 l1.length cp1) ∧ wx.cell? ⟨gw, 0, none⟩ = some (.slice Aw (compSub l0 l1).length cpw) ∧ wx.cell? ⟨w5.heap.size, 0, none⟩ = some (.slice Ax0 l0.length cpx0) ∧ wx.cell? ⟨w6.heap.size, 0, none⟩ = some (.slice Ax1 l1.length cpx1) ∧ wx.cell? ⟨w7.heap.size, 0, none⟩ = some (.slice Ag (compSub l0 l1).length cpg) ∧ w.heap.size < wx.heap.size ∧ w.heap.size + 1 < wx.heap.size ∧ gw < wx.heap.size ∧ w5.heap.size < wx.heap.size ∧ w6.heap.size < wx.heap.size ∧ w7.heap.size < wx.heap.size ∧ Hid (Lst wx (.slice A0 l0.length cp0) (strs l0)) ∧ Hid (Lst wx (.slice A1 l1.length cp1) (strs l1)) ∧ Hid (wx.ownsRow (w2.heap.size) 9 1 (.slice Aw (compSub l0 l1).length cpw) (compSub l0 l1).length (strs (compSub l0 l1))) ∧ Hid (wx.ownsRow w4.heap.size 9 1 (.slice Ax0 l0.length cpx0) (l0).length (strs (l0))) ∧ Hid (wx.ownsRow (w5.alloc (.cells #[.slice Ax0 l0.length cpx0] 27)).heap.size 9 1 (.slice Ax1 l1.length cpx1) (l1).length (strs (l1))) ∧ Hid (wx.ownsRow (w6.alloc (.cells #[.slice Ax1 l1.length cpx1] 27)).heap.size 9 1 (.slice Ag (compSub l0 l1).length cpg) (compSub l0 l1).length (strs (compSub l0 l1))) ∧ Hid (Below w.heap.size w wx) ∧ w8.heap.size ≤ wx.heap.size)
    case first =>
      go_region_with (first
        | (go_at_call 15
           refine (toSubst_any l0 _ _ (HL0.out.drewN 1) hn0).mono ?_
           rintro e w9 ⟨vy, rfl, hoy, hb⟩
           replace ccp0 : w9.cell? ⟨w.heap.size, 0, none⟩ = some (.slice A0 l0.length cp0) := (hb.cell (p := ⟨w.heap.size, 0, none⟩) (by first | assumption | (simp; omega) | simp)).trans (by first | assumption | go_simp)
           replace ccp1 : w9.cell? ⟨w.heap.size + 1, 0, none⟩ = some (.slice A1 l1.length cp1) := (hb.cell (p := ⟨w.heap.size + 1, 0, none⟩) (by first | assumption | (simp; omega) | simp)).trans (by first | assumption | go_simp)
           replace ccw : w9.cell? ⟨gw, 0, none⟩ = some (.slice Aw (compSub l0 l1).length cpw) := (hb.cell (p := ⟨gw, 0, none⟩) (by first | assumption | (simp; omega) | simp)).trans (by first | assumption | go_simp)
           replace ccx0 : w9.cell? ⟨w5.heap.size, 0, none⟩ = some (.slice Ax0 l0.length cpx0) := (hb.cell (p := ⟨w5.heap.size, 0, none⟩) (by first | assumption | (simp; omega) | simp)).trans (by first | assumption | go_simp)
           replace ccx1 : w9.cell? ⟨w6.heap.size, 0, none⟩ = some (.slice Ax1 l1.length cpx1) := (hb.cell (p := ⟨w6.heap.size, 0, none⟩) (by first | assumption | (simp; omega) | simp)).trans (by first | assumption | go_simp)
           replace ccg : w9.cell? ⟨w7.heap.size, 0, none⟩ = some (.slice Ag (compSub l0 l1).length cpg) := (hb.cell (p := ⟨w7.heap.size, 0, none⟩) (by first | assumption | (simp; omega) | simp)).trans (by first | assumption | go_simp)
           replace zzp0 : w.heap.size < w9.heap.size := by have hsz := hb.size; (try simp at hsz); omega
           replace zzp1 : w.heap.size + 1 < w9.heap.size := by have hsz := hb.size; (try simp at hsz); omega
           replace zzw : gw < w9.heap.size := by have hsz := hb.size; (try simp at hsz); omega
           replace zzx0 : w5.heap.size < w9.heap.size := by have hsz := hb.size; (try simp at hsz); omega
           replace zzx1 : w6.heap.size < w9.heap.size := by have hsz := hb.size; (try simp at hsz); omega
           replace zzg : w7.heap.size < w9.heap.size := by have hsz := hb.size; (try simp at hsz); omega
           replace HL0 : Hid (Lst w9 (.slice A0 l0.length cp0) (strs l0)) := (HL0.out.drewN 1).below hb
           replace HL1 : Hid (Lst w9 (.slice A1 l1.length cp1) (strs l1)) := (HL1.out.drewN 1).below hb
           replace HGw : Hid (w9.ownsRow (w2.heap.size) 9 1 (.slice Aw (compSub l0 l1).length cpw) (compSub l0 l1).length (strs (compSub l0 l1))) := own_below (own_drewN HGw.out 1) hb
           replace HXx0 : Hid (w9.ownsRow w4.heap.size 9 1 (.slice Ax0 l0.length cpx0) (l0).length (strs (l0))) := own_below (own_drewN HXx0.out 1) hb
           replace HXx1 : Hid (w9.ownsRow (w5.alloc (.cells #[.slice Ax0 l0.length cpx0] 27)).heap.size 9 1 (.slice Ax1 l1.length cpx1) (l1).length (strs (l1))) := own_below (own_drewN HXx1.out 1) hb
           replace HGg : Hid (w9.ownsRow (w6.alloc (.cells #[.slice Ax1 l1.length cpx1] 27)).heap.size 9 1 (.slice Ag (compSub l0 l1).length cpg) (compSub l0 l1).length (strs (compSub l0 l1))) := own_below (own_drewN HGg.out 1) hb
           replace HB : Hid (Below w.heap.size w w9) := (below_drewN HB.out 1).trans (hb.mono (HB.out.size))
           have hs8 : w8.heap.size ≤ w9.heap.size := by have hsz := hb.size; (try simp at hsz); omega
           have HY : Hid (Lst w9 vy (strs l0)) := Lst.of_own hoy
           clear hb hoy)
        | (go_at_call 17
           refine (eqSubst_same l0 _ _ _ (Lst.of_own HXx0.out) HY.out).mono ?_
           rintro e w10 ⟨rfl, hb⟩
           replace ccp0 : w10.cell? ⟨w.heap.size, 0, none⟩ = some (.slice A0 l0.length cp0) := (hb.cell (p := ⟨w.heap.size, 0, none⟩) (by first | assumption | (simp; omega) | simp)).trans (by first | assumption | go_simp)
           replace ccp1 : w10.cell? ⟨w.heap.size + 1, 0, none⟩ = some (.slice A1 l1.length cp1) := (hb.cell (p := ⟨w.heap.size + 1, 0, none⟩) (by first | assumption | (simp; omega) | simp)).trans (by first | assumption | go_simp)
           replace ccw : w10.cell? ⟨gw, 0, none⟩ = some (.slice Aw (compSub l0 l1).length cpw) := (hb.cell (p := ⟨gw, 0, none⟩) (by first | assumption | (simp; omega) | simp)).trans (by first | assumption | go_simp)
           replace ccx0 : w10.cell? ⟨w5.heap.size, 0, none⟩ = some (.slice Ax0 l0.length cpx0) := (hb.cell (p := ⟨w5.heap.size, 0, none⟩) (by first | assumption | (simp; omega) | simp)).trans (by first | assumption | go_simp)
           replace ccx1 : w10.cell? ⟨w6.heap.size, 0, none⟩ = some (.slice Ax1 l1.length cpx1) := (hb.cell (p := ⟨w6.heap.size, 0, none⟩) (by first | assumption | (simp; omega) | simp)).trans (by first | assumption | go_simp)
           replace ccg : w10.cell? ⟨w7.heap.size, 0, none⟩ = some (.slice Ag (compSub l0 l1).length cpg) := (hb.cell (p := ⟨w7.heap.size, 0, none⟩) (by first | assumption | (simp; omega) | simp)).trans (by first | assumption | go_simp)
           replace zzp0 : w.heap.size < w10.heap.size := by have hsz := hb.size; (try simp at hsz); omega
           replace zzp1 : w.heap.size + 1 < w10.heap.size := by have hsz := hb.size; (try simp at hsz); omega
           replace zzw : gw < w10.heap.size := by have hsz := hb.size; (try simp at hsz); omega
           replace zzx0 : w5.heap.size < w10.heap.size := by have hsz := hb.size; (try simp at hsz); omega
           replace zzx1 : w6.heap.size < w10.heap.size := by have hsz := hb.size; (try simp at hsz); omega
           replace zzg : w7.heap.size < w10.heap.size := by have hsz := hb.size; (try simp at hsz); omega
           replace HL0 : Hid (Lst w10 (.slice A0 l0.length cp0) (strs l0)) := HL0.out.below hb
           replace HL1 : Hid (Lst w10 (.slice A1 l1.length cp1) (strs l1)) := HL1.out.below hb
           replace HGw : Hid (w10.ownsRow (w2.heap.size) 9 1 (.slice Aw (compSub l0 l1).length cpw) (compSub l0 l1).length (strs (compSub l0 l1))) := own_below HGw.out hb
           replace HXx0 : Hid (w10.ownsRow w4.heap.size 9 1 (.slice Ax0 l0.length cpx0) (l0).length (strs (l0))) := own_below HXx0.out hb
           replace HXx1 : Hid (w10.ownsRow (w5.alloc (.cells #[.slice Ax0 l0.length cpx0] 27)).heap.size 9 1 (.slice Ax1 l1.length cpx1) (l1).length (strs (l1))) := own_below HXx1.out hb
           replace HGg : Hid (w10.ownsRow (w6.alloc (.cells #[.slice Ax1 l1.length cpx1] 27)).heap.size 9 1 (.slice Ag (compSub l0 l1).length cpg) (compSub l0 l1).length (strs (compSub l0 l1))) := own_below HGg.out hb
           replace HB : Hid (Below w.heap.size w w10) := HB.out.trans (hb.mono (HB.out.size))
           have hs9 : w9.heap.size ≤ w10.heap.size := by have hsz := hb.size; (try simp at hsz); omega
           clear hb HY))
      all_goals
        go_wp2_with fail
        go_meet
        exact ⟨rfl, ccp0, ccp1, ccw, ccx0, ccx1, ccg, zzp0, zzp1, zzw, zzx0, zzx1, zzg, HL0, HL1, HGw, HXx0, HXx1, HGg, HB, by omega⟩
    case rest =>
      clear ccp0 ccp1 ccw ccx0 ccx1 ccg zzp0 zzp1 zzw zzx0 zzx1 zzg HL0 HL1 HGw HXx0 HXx1 HGg HB
      obtain ⟨rfl, ccp0, ccp1, ccw, ccx0, ccx1, ccg, zzp0, zzp1, zzw, zzx0, zzx1, zzg, HL0, HL1, HGw, HXx0, HXx1, HGg, HB, hsc0⟩ := hcut
      obtain ⟨w11, rfl⟩ : ∃ x : World, x = wc := ⟨_, rfl⟩
      go_upto_region 16 with (fail)
      go_cut [63] (fun s wx => s = .bool false ∧ wx.cell? ⟨w.heap.size, 0, none⟩ = some (.slice A0 l0.length cp0) ∧ wx.cell? ⟨w.heap.size + 1, 0, none⟩ = some (.slice A1 l1.length cp1) ∧ wx.cell? ⟨gw, 0, none⟩ = some (.slice Aw (compSub l0 l1).length cpw) ∧ wx.cell? ⟨w5.heap.size, 0, none⟩ = some (.slice Ax0 l0.length cpx0) ∧ wx.cell? ⟨w6.heap.size, 0, none⟩ = some (.slice Ax1 l1.length cpx1) ∧ wx.cell? ⟨w7.heap.size, 0, none⟩ = some (.slice Ag (compSub l0 l1).length cpg) ∧ w.heap.size < wx.heap.size ∧ w.heap.size + 1 < wx.heap.size ∧ gw < wx.heap.size ∧ w5.heap.size < wx.heap.size ∧ w6.heap.size < wx.heap.size ∧ w7.heap.size < wx.heap.size ∧ Hid (Lst wx (.slice A0 l0.length cp0) (strs l0)) ∧ Hid (Lst wx (.slice A1 l1.length cp1) (strs l1)) ∧ Hid (wx.ownsRow (w2.heap.size) 9 1 (.slice Aw (compSub l0 l1).length cpw) (compSub l0 l1).length (strs (compSub l0 l1))) ∧ Hid (wx.ownsRow w4.heap.size 9 1 (.slice Ax0 l0.length cpx0) (l0).length (strs (l0))) ∧ Hid (wx.ownsRow (w5.alloc (.cells #[.slice Ax0 l0.length cpx0] 27)).heap.size 9 1 (.slice Ax1 l1.length cpx1) (l1).length (strs (l1))) ∧ Hid (wx.ownsRow (w6.alloc (.cells #[.slice Ax1 l1.length cpx1] 27)).heap.size 9 1 (.slice Ag (compSub l0 l1).length cpg) (compSub l0 l1).length (strs (compSub l0 l1))) ∧ Hid (Below w.heap.size w wx) ∧ w11.heap.size ≤ wx.heap.size)
      case first =>
        go_region_with (first
          | (go_at_call 15
             refine (toSubst_any l1 _ _ (HL1.out.drewN 1) hn1).mono ?_
             rintro e w12 ⟨vy, rfl, hoy, hb⟩
             replace ccp0 : w12.cell? ⟨w.heap.size, 0, none⟩ = some (.slice A0 l0.length cp0) := (hb.cell (p := ⟨w.heap.size, 0, none⟩) (by first | assumption | (simp; omega) | simp)).trans (by first | assumption | go_simp)
             replace ccp1 : w12.cell? ⟨w.heap.size + 1, 0, none⟩ = some (.slice A1 l1.length cp1) := (hb.cell (p := ⟨w.heap.size + 1, 0, none⟩) (by first | assumption | (simp; omega) | simp)).trans (by first | assumption | go_simp)
             replace ccw : w12.cell? ⟨gw, 0, none⟩ = some (.slice Aw (compSub l0 l1).length cpw) := (hb.cell (p := ⟨gw, 0, none⟩) (by first | assumption | (simp; omega) | simp)).trans (by first | assumption | go_simp)
             replace ccx0 : w12.cell? ⟨w5.heap.size, 0, none⟩ = some (.slice Ax0 l0.length cpx0) := (hb.cell (p := ⟨w5.heap.size, 0, none⟩) (by first | assumption | (simp; omega) | simp)).trans (by first | assumption | go_simp)
             replace ccx1 : w12.cell? ⟨w6.heap.size, 0, none⟩ = some (.slice Ax1 l1.length cpx1) := (hb.cell (p := ⟨w6.heap.size, 0, none⟩) (by first | assumption | (simp; omega) | simp)).trans (by first | assumption | go_simp)
             replace ccg : w12.cell? ⟨w7.heap.size, 0, none⟩ = some (.slice Ag (compSub l0 l1).length cpg) := (hb.cell (p := ⟨w7.heap.size, 0, none⟩) (by first | assumption | (simp; omega) | simp)).trans (by first | assumption | go_simp)
             replace zzp0 : w.heap.size < w12.heap.size := by have hsz := hb.size; (try simp at hsz); omega
             replace zzp1 : w.heap.size + 1 < w12.heap.size := by have hsz := hb.size; (try simp at hsz); omega
             replace zzw : gw < w12.heap.size := by have hsz := hb.size; (try simp at hsz); omega
             replace zzx0 : w5.heap.size < w12.heap.size := by have hsz := hb.size; (try simp at hsz); omega
             replace zzx1 : w6.heap.size < w12.heap.size := by have hsz := hb.size; (try simp at hsz); omega
             replace zzg : w7.heap.size < w12.heap.size := by have hsz := hb.size; (try simp at hsz); omega
             replace HL0 : Hid (Lst w12 (.slice A0 l0.length cp0) (strs l0)) := (HL0.out.drewN 1).below hb
             replace HL1 : Hid (Lst w12 (.slice A1 l1.length cp1) (strs l1)) := (HL1.out.drewN 1).below hb
             replace HGw : Hid (w12.ownsRow (w2.heap.size) 9 1 (.slice Aw (compSub l0 l1).length cpw) (compSub l0 l1).length (strs (compSub l0 l1))) := own_below (own_drewN HGw.out 1) hb
             replace HXx0 : Hid (w12.ownsRow w4.heap.size 9 1 (.slice Ax0 l0.length cpx0) (l0).length (strs (l0))) := own_below (own_drewN HXx0.out 1) hb
             replace HXx1 : Hid (w12.ownsRow (w5.alloc (.cells #[.slice Ax0 l0.length cpx0] 27)).heap.size 9 1 (.slice Ax1 l1.length cpx1) (l1).length (strs (l1))) := own_below (own_drewN HXx1.out 1) hb
             replace HGg : Hid (w12.ownsRow (w6.alloc (.cells #[.slice Ax1 l1.length cpx1] 27)).heap.size 9 1 (.slice Ag (compSub l0 l1).length cpg) (compSub l0 l1).length (strs (compSub l0 l1))) := own_below (own_drewN HGg.out 1) hb
             replace HB : Hid (Below w.heap.size w w12) := (below_drewN HB.out 1).trans (hb.mono (HB.out.size))
             have hs10 : w11.heap.size ≤ w12.heap.size := by have hsz := hb.size; (try simp at hsz); omega
             have HY : Hid (Lst w12 vy (strs l1)) := Lst.of_own hoy
             clear hb hoy)
          | (go_at_call 17
             refine (eqSubst_same l1 _ _ _ (Lst.of_own HXx1.out) HY.out).mono ?_
             rintro e w13 ⟨rfl, hb⟩
             replace ccp0 : w13.cell? ⟨w.heap.size, 0, none⟩ = some (.slice A0 l0.length cp0) := (hb.cell (p := ⟨w.heap.size, 0, none⟩) (by first | assumption | (simp; omega) | simp)).trans (by first | assumption | go_simp)
             replace ccp1 : w13.cell? ⟨w.heap.size + 1, 0, none⟩ = some (.slice A1 l1.length cp1) := (hb.cell (p := ⟨w.heap.size + 1, 0, none⟩) (by first | assumption | (simp; omega) | simp)).trans (by first | assumption | go_simp)
             replace ccw : w13.cell? ⟨gw, 0, none⟩ = some (.slice Aw (compSub l0 l1).length cpw) := (hb.cell (p := ⟨gw, 0, none⟩) (by first | assumption | (simp; omega) | simp)).trans (by first | assumption | go_simp)
             replace ccx0 : w13.cell? ⟨w5.heap.size, 0, none⟩ = some (.slice Ax0 l0.length cpx0) := (hb.cell (p := ⟨w5.heap.size, 0, none⟩) (by first | assumption | (simp; omega) | simp)).trans (by first | assumption | go_simp)
             replace ccx1 : w13.cell? ⟨w6.heap.size, 0, none⟩ = some (.slice Ax1 l1.length cpx1) := (hb.cell (p := ⟨w6.heap.size, 0, none⟩) (by first | assumption | (simp; omega) | simp)).trans (by first | assumption | go_simp)
             replace ccg : w13.cell? ⟨w7.heap.size, 0, none⟩ = some (.slice Ag (compSub l0 l1).length cpg) := (hb.cell (p := ⟨w7.heap.size, 0, none⟩) (by first | assumption | (simp; omega) | simp)).trans (by first | assumption | go_simp)
             replace zzp0 : w.heap.size < w13.heap.size := by have hsz := hb.size; (try simp at hsz); omega
             replace zzp1 : w.heap.size + 1 < w13.heap.size := by have hsz := hb.size; (try simp at hsz); omega
             replace zzw : gw < w13.heap.size := by have hsz := hb.size; (try simp at hsz); omega
             replace zzx0 : w5.heap.size < w13.heap.size := by have hsz := hb.size; (try simp at hsz); omega
             replace zzx1 : w6.heap.size < w13.heap.size := by have hsz := hb.size; (try simp at hsz); omega
             replace zzg : w7.heap.size < w13.heap.size := by have hsz := hb.size; (try simp at hsz); omega
             replace HL0 : Hid (Lst w13 (.slice A0 l0.length cp0) (strs l0)) := HL0.out.below hb
             replace HL1 : Hid (Lst w13 (.slice A1 l1.length cp1) (strs l1)) := HL1.out.below hb
             replace HGw : Hid (w13.ownsRow (w2.heap.size) 9 1 (.slice Aw (compSub l0 l1).length cpw) (compSub l0 l1).length (strs (compSub l0 l1))) := own_below HGw.out hb
             replace HXx0 : Hid (w13.ownsRow w4.heap.size 9 1 (.slice Ax0 l0.length cpx0) (l0).length (strs (l0))) := own_below HXx0.out hb
             replace HXx1 : Hid (w13.ownsRow (w5.alloc (.cells #[.slice Ax0 l0.length cpx0] 27)).heap.size 9 1 (.slice Ax1 l1.length cpx1) (l1).length (strs (l1))) := own_below HXx1.out hb
             replace HGg : Hid (w13.ownsRow (w6.alloc (.cells #[.slice Ax1 l1.length cpx1] 27)).heap.size 9 1 (.slice Ag (compSub l0 l1).length cpg) (compSub l0 l1).length (strs (compSub l0 l1))) := own_below HGg.out hb
             replace HB : Hid (Below w.heap.size w w13) := HB.out.trans (hb.mono (HB.out.size))
             have hs11 : w12.heap.size ≤ w13.heap.size := by have hsz := hb.size; (try simp at hsz); omega
             clear hb HY))
        all_goals
          go_wp2_with fail
          go_meet
          exact ⟨rfl, ccp0, ccp1, ccw, ccx0, ccx1, ccg, zzp0, zzp1, zzw, zzx0, zzx1, zzg, HL0, HL1, HGw, HXx0, HXx1, HGg, HB, by omega⟩
      case rest =>
        clear ccp0 ccp1 ccw ccx0 ccx1 ccg zzp0 zzp1 zzw zzx0 zzx1 zzg HL0 HL1 HGw HXx0 HXx1 HGg HB
        obtain ⟨rfl, ccp0, ccp1, ccw, ccx0, ccx1, ccg, zzp0, zzp1, zzw, zzx0, zzx1, zzg, HL0, HL1, HGw, HXx0, HXx1, HGg, HB, hsc1⟩ := hcut
        obtain ⟨w14, rfl⟩ : ∃ x : World, x = wc := ⟨_, rfl⟩
        go_wp2_with fail
        refine (markSubst_own (w4.heap.size) _ 1 (l0).length _ _ (by omega) (by omega) HXx0.out).mono ?_
        rintro e w15 ⟨rfl, ho, hg⟩
        replace ccp0 : w15.cell? ⟨w.heap.size, 0, none⟩ = some (.slice A0 l0.length cp0) := grown_cell hg ccp0 (fun h => by have := LOx0.out _ h; omega)
        replace ccp1 : w15.cell? ⟨w.heap.size + 1, 0, none⟩ = some (.slice A1 l1.length cp1) := grown_cell hg ccp1 (fun h => by have := LOx0.out _ h; omega)
        replace ccw : w15.cell? ⟨gw, 0, none⟩ = some (.slice Aw (compSub l0 l1).length cpw) := grown_cell hg ccw (fun h => by have := LOx0.out _ h; omega)
        replace ccx0 : w15.cell? ⟨w5.heap.size, 0, none⟩ = some (.slice Ax0 l0.length cpx0) := grown_cell hg ccx0 (fun h => by have := LOx0.out _ h; omega)
        replace ccx1 : w15.cell? ⟨w6.heap.size, 0, none⟩ = some (.slice Ax1 l1.length cpx1) := grown_cell hg ccx1 (fun h => by have := LOx0.out _ h; omega)
        replace ccg : w15.cell? ⟨w7.heap.size, 0, none⟩ = some (.slice Ag (compSub l0 l1).length cpg) := grown_cell hg ccg (fun h => by have := LOx0.out _ h; omega)
        replace zzp0 : w.heap.size < w15.heap.size := Nat.lt_of_lt_of_le zzp0 hg.size
        replace zzp1 : w.heap.size + 1 < w15.heap.size := Nat.lt_of_lt_of_le zzp1 hg.size
        replace zzw : gw < w15.heap.size := Nat.lt_of_lt_of_le zzw hg.size
        replace zzx0 : w5.heap.size < w15.heap.size := Nat.lt_of_lt_of_le zzx0 hg.size
        replace zzx1 : w6.heap.size < w15.heap.size := Nat.lt_of_lt_of_le zzx1 hg.size
        replace zzg : w7.heap.size < w15.heap.size := Nat.lt_of_lt_of_le zzg hg.size
        replace HL0 : Hid (Lst w15 (.slice A0 l0.length cp0) (strs l0)) := HL0.out.grown2 hg (HLT0.out.imp id (fun hlt k hk h => by have := hlt k hk; have := LOx0.out _ h; omega))
        replace HL1 : Hid (Lst w15 (.slice A1 l1.length cp1) (strs l1)) := HL1.out.grown2 hg (HLT1.out.imp id (fun hlt k hk h => by have := hlt k hk; have := LOx0.out _ h; omega))
        replace HGw : Hid (w15.ownsRow (w2.heap.size) 9 1 (.slice Aw (compSub l0 l1).length cpw) (compSub l0 l1).length (strs (compSub l0 l1))) := own_apart HGw.out hg (fun k h1 h2 => by have := LOw.out k h1; have := LOx0.out k h2; omega)
        replace HXx1 : Hid (w15.ownsRow (w5.alloc (.cells #[.slice Ax0 l0.length cpx0] 27)).heap.size 9 1 (.slice Ax1 l1.length cpx1) (l1).length (strs (l1))) := own_apart HXx1.out hg (fun k h1 h2 => by have := LOx1.out k h1; have := LOx0.out k h2; omega)
        replace HGg : Hid (w15.ownsRow (w6.alloc (.cells #[.slice Ax1 l1.length cpx1] 27)).heap.size 9 1 (.slice Ag (compSub l0 l1).length cpg) (compSub l0 l1).length (strs (compSub l0 l1))) := own_apart HGg.out hg (fun k h1 h2 => by have := LOg.out k h1; have := LOx0.out k h2; omega)
        replace HB : Hid (Below w.heap.size w w15) := HB.out.grown hg (HB.out.size) (fun k h => by have := LOx0.out k h; omega)
        have hs12 : w14.heap.size ≤ w15.heap.size := by have hsz := hg.size; (try simp at hsz); omega
        clear hg ho HXx0
        go_wp2_with fail
        refine (markSubst_own ((w5.alloc (.cells #[.slice Ax0 l0.length cpx0] 27)).heap.size) _ (1 + ((l0).length : Int)) (l1).length _ _ (by omega) (by omega) HXx1.out).mono ?_
        rintro e w16 ⟨rfl, ho, hg⟩
        replace ccp0 : w16.cell? ⟨w.heap.size, 0, none⟩ = some (.slice A0 l0.length cp0) := grown_cell hg ccp0 (fun h => by have := LOx1.out _ h; omega)
        replace ccp1 : w16.cell? ⟨w.heap.size + 1, 0, none⟩ = some (.slice A1 l1.length cp1) := grown_cell hg ccp1 (fun h => by have := LOx1.out _ h; omega)
        replace ccw : w16.cell? ⟨gw, 0, none⟩ = some (.slice Aw (compSub l0 l1).length cpw) := grown_cell hg ccw (fun h => by have := LOx1.out _ h; omega)
        replace ccx0 : w16.cell? ⟨w5.heap.size, 0, none⟩ = some (.slice Ax0 l0.length cpx0) := grown_cell hg ccx0 (fun h => by have := LOx1.out _ h; omega)
        replace ccx1 : w16.cell? ⟨w6.heap.size, 0, none⟩ = some (.slice Ax1 l1.length cpx1) := grown_cell hg ccx1 (fun h => by have := LOx1.out _ h; omega)
        replace ccg : w16.cell? ⟨w7.heap.size, 0, none⟩ = some (.slice Ag (compSub l0 l1).length cpg) := grown_cell hg ccg (fun h => by have := LOx1.out _ h; omega)
        replace zzp0 : w.heap.size < w16.heap.size := Nat.lt_of_lt_of_le zzp0 hg.size
        replace zzp1 : w.heap.size + 1 < w16.heap.size := Nat.lt_of_lt_of_le zzp1 hg.size
        replace zzw : gw < w16.heap.size := Nat.lt_of_lt_of_le zzw hg.size
        replace zzx0 : w5.heap.size < w16.heap.size := Nat.lt_of_lt_of_le zzx0 hg.size
        replace zzx1 : w6.heap.size < w16.heap.size := Nat.lt_of_lt_of_le zzx1 hg.size
        replace zzg : w7.heap.size < w16.heap.size := Nat.lt_of_lt_of_le zzg hg.size
        replace HL0 : Hid (Lst w16 (.slice A0 l0.length cp0) (strs l0)) := HL0.out.grown2 hg (HLT0.out.imp id (fun hlt k hk h => by have := hlt k hk; have := LOx1.out _ h; omega))
        replace HL1 : Hid (Lst w16 (.slice A1 l1.length cp1) (strs l1)) := HL1.out.grown2 hg (HLT1.out.imp id (fun hlt k hk h => by have := hlt k hk; have := LOx1.out _ h; omega))
        replace HGw : Hid (w16.ownsRow (w2.heap.size) 9 1 (.slice Aw (compSub l0 l1).length cpw) (compSub l0 l1).length (strs (compSub l0 l1))) := own_apart HGw.out hg (fun k h1 h2 => by have := LOw.out k h1; have := LOx1.out k h2; omega)
        replace HGg : Hid (w16.ownsRow (w6.alloc (.cells #[.slice Ax1 l1.length cpx1] 27)).heap.size 9 1 (.slice Ag (compSub l0 l1).length cpg) (compSub l0 l1).length (strs (compSub l0 l1))) := own_apart HGg.out hg (fun k h1 h2 => by have := LOg.out k h1; have := LOx1.out k h2; omega)
        replace HB : Hid (Below w.heap.size w w16) := HB.out.grown hg (HB.out.size) (fun k h => by have := LOx1.out k h; omega)
        have hs13 : w15.heap.size ≤ w16.heap.size := by have hsz := hg.size; (try simp at hsz); omega
        clear hg ho HXx1
        go_wp2_with fail
        skip
        refine (eqSubst_same (compSub l0 l1) _ _ _ (Lst.of_own HGg.out) (Lst.of_own HGw.out)).mono ?_
        rintro e w17 ⟨rfl, hb⟩
        replace ccp0 : w17.cell? ⟨w.heap.size, 0, none⟩ = some (.slice A0 l0.length cp0) := (hb.cell (p := ⟨w.heap.size, 0, none⟩) (by first | assumption | (simp; omega) | simp)).trans (by first | assumption | go_simp)
        replace ccp1 : w17.cell? ⟨w.heap.size + 1, 0, none⟩ = some (.slice A1 l1.length cp1) := (hb.cell (p := ⟨w.heap.size + 1, 0, none⟩) (by first | assumption | (simp; omega) | simp)).trans (by first | assumption | go_simp)
        replace ccw : w17.cell? ⟨gw, 0, none⟩ = some (.slice Aw (compSub l0 l1).length cpw) := (hb.cell (p := ⟨gw, 0, none⟩) (by first | assumption | (simp; omega) | simp)).trans (by first | assumption | go_simp)
        replace ccx0 : w17.cell? ⟨w5.heap.size, 0, none⟩ = some (.slice Ax0 l0.length cpx0) := (hb.cell (p := ⟨w5.heap.size, 0, none⟩) (by first | assumption | (simp; omega) | simp)).trans (by first | assumption | go_simp)
        replace ccx1 : w17.cell? ⟨w6.heap.size, 0, none⟩ = some (.slice Ax1 l1.length cpx1) := (hb.cell (p := ⟨w6.heap.size, 0, none⟩) (by first | assumption | (simp; omega) | simp)).trans (by first | assumption | go_simp)
        replace ccg : w17.cell? ⟨w7.heap.size, 0, none⟩ = some (.slice Ag (compSub l0 l1).length cpg) := (hb.cell (p := ⟨w7.heap.size, 0, none⟩) (by first | assumption | (simp; omega) | simp)).trans (by first | assumption | go_simp)
        replace zzp0 : w.heap.size < w17.heap.size := by have hsz := hb.size; (try simp at hsz); omega
        replace zzp1 : w.heap.size + 1 < w17.heap.size := by have hsz := hb.size; (try simp at hsz); omega
        replace zzw : gw < w17.heap.size := by have hsz := hb.size; (try simp at hsz); omega
        replace zzx0 : w5.heap.size < w17.heap.size := by have hsz := hb.size; (try simp at hsz); omega
        replace zzx1 : w6.heap.size < w17.heap.size := by have hsz := hb.size; (try simp at hsz); omega
        replace zzg : w7.heap.size < w17.heap.size := by have hsz := hb.size; (try simp at hsz); omega
        replace HL0 : Hid (Lst w17 (.slice A0 l0.length cp0) (strs l0)) := HL0.out.below hb
        replace HL1 : Hid (Lst w17 (.slice A1 l1.length cp1) (strs l1)) := HL1.out.below hb
        replace HGw : Hid (w17.ownsRow (w2.heap.size) 9 1 (.slice Aw (compSub l0 l1).length cpw) (compSub l0 l1).length (strs (compSub l0 l1))) := own_below HGw.out hb
        replace HGg : Hid (w17.ownsRow (w6.alloc (.cells #[.slice Ax1 l1.length cpx1] 27)).heap.size 9 1 (.slice Ag (compSub l0 l1).length cpg) (compSub l0 l1).length (strs (compSub l0 l1))) := own_below HGg.out hb
        replace HB : Hid (Below w.heap.size w w17) := HB.out.trans (hb.mono (HB.out.size))
        have hs14 : w16.heap.size ≤ w17.heap.size := by have hsz := hb.size; (try simp at hsz); omega
        clear hb
        go_wp2_with fail
        refine (markSubst_own ((w6.alloc (.cells #[.slice Ax1 l1.length cpx1] 27)).heap.size) _ 1 (compSub l0 l1).length _ _ (by omega) (by omega) HGg.out).mono ?_
        rintro e w18 ⟨rfl, ho, hg⟩
        replace ccp0 : w18.cell? ⟨w.heap.size, 0, none⟩ = some (.slice A0 l0.length cp0) := grown_cell hg ccp0 (fun h => by have := LOg.out _ h; omega)
        replace ccp1 : w18.cell? ⟨w.heap.size + 1, 0, none⟩ = some (.slice A1 l1.length cp1) := grown_cell hg ccp1 (fun h => by have := LOg.out _ h; omega)
        replace ccw : w18.cell? ⟨gw, 0, none⟩ = some (.slice Aw (compSub l0 l1).length cpw) := grown_cell hg ccw (fun h => by have := LOg.out _ h; omega)
        replace ccx0 : w18.cell? ⟨w5.heap.size, 0, none⟩ = some (.slice Ax0 l0.length cpx0) := grown_cell hg ccx0 (fun h => by have := LOg.out _ h; omega)
        replace ccx1 : w18.cell? ⟨w6.heap.size, 0, none⟩ = some (.slice Ax1 l1.length cpx1) := grown_cell hg ccx1 (fun h => by have := LOg.out _ h; omega)
        replace ccg : w18.cell? ⟨w7.heap.size, 0, none⟩ = some (.slice Ag (compSub l0 l1).length cpg) := grown_cell hg ccg (fun h => by have := LOg.out _ h; omega)
        replace zzp0 : w.heap.size < w18.heap.size := Nat.lt_of_lt_of_le zzp0 hg.size
        replace zzp1 : w.heap.size + 1 < w18.heap.size := Nat.lt_of_lt_of_le zzp1 hg.size
        replace zzw : gw < w18.heap.size := Nat.lt_of_lt_of_le zzw hg.size
        replace zzx0 : w5.heap.size < w18.heap.size := Nat.lt_of_lt_of_le zzx0 hg.size
        replace zzx1 : w6.heap.size < w18.heap.size := Nat.lt_of_lt_of_le zzx1 hg.size
        replace zzg : w7.heap.size < w18.heap.size := Nat.lt_of_lt_of_le zzg hg.size
        replace HL0 : Hid (Lst w18 (.slice A0 l0.length cp0) (strs l0)) := HL0.out.grown2 hg (HLT0.out.imp id (fun hlt k hk h => by have := hlt k hk; have := LOg.out _ h; omega))
        replace HL1 : Hid (Lst w18 (.slice A1 l1.length cp1) (strs l1)) := HL1.out.grown2 hg (HLT1.out.imp id (fun hlt k hk h => by have := hlt k hk; have := LOg.out _ h; omega))
        replace HGw : Hid (w18.ownsRow (w2.heap.size) 9 1 (.slice Aw (compSub l0 l1).length cpw) (compSub l0 l1).length (strs (compSub l0 l1))) := own_apart HGw.out hg (fun k h1 h2 => by have := LOw.out k h1; have := LOg.out k h2; omega)
        replace HB : Hid (Below w.heap.size w w18) := HB.out.grown hg (HB.out.size) (fun k h => by have := LOg.out k h; omega)
        have hs15 : w17.heap.size ≤ w18.heap.size := by have hsz := hg.size; (try simp at hsz); omega
        have HM : Hid (Lst w18 (.slice Ag (compSub l0 l1).length cpg) (strs (marks 1 (compSub l0 l1).length))) := Lst.of_own ho
        clear hg ho HGg
        go_wp2_with fail
        refine (heldSubst_marks _ 1 (compSub l0 l1).length _ (by omega) (by omega) HM.out).mono ?_
        rintro e w19 ⟨rfl, hb⟩
        replace ccp0 : w19.cell? ⟨w.heap.size, 0, none⟩ = some (.slice A0 l0.length cp0) := (hb.cell (p := ⟨w.heap.size, 0, none⟩) (by first | assumption | (simp; omega) | simp)).trans (by first | assumption | go_simp)
        replace ccp1 : w19.cell? ⟨w.heap.size + 1, 0, none⟩ = some (.slice A1 l1.length cp1) := (hb.cell (p := ⟨w.heap.size + 1, 0, none⟩) (by first | assumption | (simp; omega) | simp)).trans (by first | assumption | go_simp)
        replace ccw : w19.cell? ⟨gw, 0, none⟩ = some (.slice Aw (compSub l0 l1).length cpw) := (hb.cell (p := ⟨gw, 0, none⟩) (by first | assumption | (simp; omega) | simp)).trans (by first | assumption | go_simp)
        replace ccx0 : w19.cell? ⟨w5.heap.size, 0, none⟩ = some (.slice Ax0 l0.length cpx0) := (hb.cell (p := ⟨w5.heap.size, 0, none⟩) (by first | assumption | (simp; omega) | simp)).trans (by first | assumption | go_simp)
        replace ccx1 : w19.cell? ⟨w6.heap.size, 0, none⟩ = some (.slice Ax1 l1.length cpx1) := (hb.cell (p := ⟨w6.heap.size, 0, none⟩) (by first | assumption | (simp; omega) | simp)).trans (by first | assumption | go_simp)
        replace ccg : w19.cell? ⟨w7.heap.size, 0, none⟩ = some (.slice Ag (compSub l0 l1).length cpg) := (hb.cell (p := ⟨w7.heap.size, 0, none⟩) (by first | assumption | (simp; omega) | simp)).trans (by first | assumption | go_simp)
        replace zzp0 : w.heap.size < w19.heap.size := by have hsz := hb.size; (try simp at hsz); omega
        replace zzp1 : w.heap.size + 1 < w19.heap.size := by have hsz := hb.size; (try simp at hsz); omega
        replace zzw : gw < w19.heap.size := by have hsz := hb.size; (try simp at hsz); omega
        replace zzx0 : w5.heap.size < w19.heap.size := by have hsz := hb.size; (try simp at hsz); omega
        replace zzx1 : w6.heap.size < w19.heap.size := by have hsz := hb.size; (try simp at hsz); omega
        replace zzg : w7.heap.size < w19.heap.size := by have hsz := hb.size; (try simp at hsz); omega
        replace HL0 : Hid (Lst w19 (.slice A0 l0.length cp0) (strs l0)) := HL0.out.below hb
        replace HL1 : Hid (Lst w19 (.slice A1 l1.length cp1) (strs l1)) := HL1.out.below hb
        replace HM : Hid (Lst w19 (.slice Ag (compSub l0 l1).length cpg) (strs (marks 1 (compSub l0 l1).length))) := HM.out.below hb
        replace HGw : Hid (w19.ownsRow (w2.heap.size) 9 1 (.slice Aw (compSub l0 l1).length cpw) (compSub l0 l1).length (strs (compSub l0 l1))) := own_below HGw.out hb
        replace HB : Hid (Below w.heap.size w w19) := HB.out.trans (hb.mono (HB.out.size))
        have hs16 : w18.heap.size ≤ w19.heap.size := by have hsz := hb.size; (try simp at hsz); omega
        clear hb
        go_upto_region 31 with (fail)
        go_cut [15, 16] (fun s t wx => ∃ (gh : Nat) (Ah : Option Addr) (cph : Nat), s = .pointer (some ⟨gh, 0, none⟩) ∧ t = .bool (compOk l0 l1) ∧ Below w19.heap.size w19 wx ∧ wx.cell? ⟨gh, 0, none⟩ = some (.slice Ah (compSub l0 l1).length cph) ∧ gh < wx.heap.size ∧ Hid (wx.ownsRow (w19.heap.size) 9 1 (.slice Ah (compSub l0 l1).length cph) (compSub l0 l1).length (strs (compSub l0 l1))) ∧ Hid (∀ k, Value.ownBlock (.slice Ah (compSub l0 l1).length cph) = some k → w19.heap.size ≤ k ∧ k ≠ gh ∧ k < wx.heap.size) ∧ w19.heap.size ≤ gh)
        case first =>
          have HBc : Hid (Below w19.heap.size w19 w19.drew) := below_drewN (Below.refl _ _) 1
          go_region_held3 (fun w' => w'.cell? ⟨w.heap.size, 0, none⟩ = some (.slice A0 l0.length cp0) ∧ w'.cell? ⟨w.heap.size + 1, 0, none⟩ = some (.slice A1 l1.length cp1))
            (first | exact ⟨ccp0, ccp1⟩ | (refine ⟨?_, ?_⟩ <;> (first | assumption | (go_simp; done))))
            (first
              | (go_at_call_of 15 (Value.slice A0 l0.length cp0)
                 refine (toSubst_any l0 _ _ (by first | exact HL0.out.below HBc.out | exact HL0.out.below (HBc.out.alloc HBc.out.size _) | exact HL0.out.below (below_drewN ((Below.refl _ _).alloc (Nat.le_refl _) _) 1)) hn0).mono ?_
                 rintro e wt0 ⟨vt0, rfl, hot, hb⟩
                 replace ccp0 : wt0.cell? ⟨w.heap.size, 0, none⟩ = some (.slice A0 l0.length cp0) := (hb.cell (p := ⟨w.heap.size, 0, none⟩) (by first | assumption | (simp; omega) | simp)).trans (by first | assumption | go_simp)
                 replace ccp1 : wt0.cell? ⟨w.heap.size + 1, 0, none⟩ = some (.slice A1 l1.length cp1) := (hb.cell (p := ⟨w.heap.size + 1, 0, none⟩) (by first | assumption | (simp; omega) | simp)).trans (by first | assumption | go_simp)
                 replace zzp0 : w.heap.size < wt0.heap.size := by have hsz := hb.size; (try simp at hsz); omega
                 replace zzp1 : w.heap.size + 1 < wt0.heap.size := by have hsz := hb.size; (try simp at hsz); omega
                 replace zzw : gw < wt0.heap.size := by have hsz := hb.size; (try simp at hsz); omega
                 replace zzx0 : w5.heap.size < wt0.heap.size := by have hsz := hb.size; (try simp at hsz); omega
                 replace zzx1 : w6.heap.size < wt0.heap.size := by have hsz := hb.size; (try simp at hsz); omega
                 replace zzg : w7.heap.size < wt0.heap.size := by have hsz := hb.size; (try simp at hsz); omega
                 have hszwt0 := hb.size
                 try simp at hszwt0
                 try (have qcs : wt0.cell? ⟨w19.heap.size, 0, none⟩ = some (.slice none 0 0) := ?_
                      rotate_left
                      · refine (hb.cell (p := ⟨w19.heap.size, 0, none⟩) ?_).trans ?_
                        · first | assumption | omega | (simp; omega) | (simp; done)
                        · first | assumption | (go_simp; done))
                 try (have qfs : wt0.frozen? ⟨w19.heap.size, 0, none⟩ = false := ?_
                      rotate_left
                      · refine (hb.frozen (p := ⟨w19.heap.size, 0, none⟩) ?_).trans ?_
                        · first | assumption | omega | (simp; omega) | (simp; done)
                        · first | assumption | (go_simp; done))
                 try (have qc0 : wt0.cell? ⟨wt0.heap.size, 0, none⟩ = some (.slice none 0 0) := ?_
                      rotate_left
                      · refine (hb.cell (p := ⟨wt0.heap.size, 0, none⟩) ?_).trans ?_
                        · first | assumption | omega | (simp; omega) | (simp; done)
                        · first | assumption | (go_simp; done))
                 try (have qf0 : wt0.frozen? ⟨wt0.heap.size, 0, none⟩ = false := ?_
                      rotate_left
                      · refine (hb.frozen (p := ⟨wt0.heap.size, 0, none⟩) ?_).trans ?_
                        · first | assumption | omega | (simp; omega) | (simp; done)
                        · first | assumption | (go_simp; done))
                 try (have qc1 : wt0.cell? ⟨wt1.heap.size, 0, none⟩ = some (.slice none 0 0) := ?_
                      rotate_left
                      · refine (hb.cell (p := ⟨wt1.heap.size, 0, none⟩) ?_).trans ?_
                        · first | assumption | omega | (simp; omega) | (simp; done)
                        · first | assumption | (go_simp; done))
                 try (have qf1 : wt0.frozen? ⟨wt1.heap.size, 0, none⟩ = false := ?_
                      rotate_left
                      · refine (hb.frozen (p := ⟨wt1.heap.size, 0, none⟩) ?_).trans ?_
                        · first | assumption | omega | (simp; omega) | (simp; done)
                        · first | assumption | (go_simp; done))
                 have hstwt0 : w19.heap.size ≤ wt0.heap.size := by have hsz := hb.size; (try simp at hsz); omega
                 replace HBc : Hid (Below w19.heap.size w19 wt0) := by first | exact HBc.out.trans (hb.mono HBc.out.size) | exact (HBc.out.alloc HBc.out.size _).trans (hb.mono (by have := HBc.out.size; simp at this ⊢; omega)) | exact (below_drewN ((Below.refl _ _).alloc (Nat.le_refl _) _) 1).trans (hb.mono (by simp))
                 try (replace HY1 : Hid (Lst wt0 vt1 (strs l1)) := by first | exact HY1.out.below hb | exact (HY1.out.below ((Below.refl _ _).alloc (Nat.le_refl _) _)).below hb)
                 have HY0 : Hid (Lst wt0 vt0 (strs l0)) := Lst.of_own hot
                 clear hb hot)
              | (go_at_call_of 15 (Value.slice A1 l1.length cp1)
                 refine (toSubst_any l1 _ _ (by first | exact HL1.out.below HBc.out | exact HL1.out.below (HBc.out.alloc HBc.out.size _) | exact HL1.out.below (below_drewN ((Below.refl _ _).alloc (Nat.le_refl _) _) 1)) hn1).mono ?_
                 rintro e wt1 ⟨vt1, rfl, hot, hb⟩
                 replace ccp0 : wt1.cell? ⟨w.heap.size, 0, none⟩ = some (.slice A0 l0.length cp0) := (hb.cell (p := ⟨w.heap.size, 0, none⟩) (by first | assumption | (simp; omega) | simp)).trans (by first | assumption | go_simp)
                 replace ccp1 : wt1.cell? ⟨w.heap.size + 1, 0, none⟩ = some (.slice A1 l1.length cp1) := (hb.cell (p := ⟨w.heap.size + 1, 0, none⟩) (by first | assumption | (simp; omega) | simp)).trans (by first | assumption | go_simp)
                 replace zzp0 : w.heap.size < wt1.heap.size := by have hsz := hb.size; (try simp at hsz); omega
                 replace zzp1 : w.heap.size + 1 < wt1.heap.size := by have hsz := hb.size; (try simp at hsz); omega
                 replace zzw : gw < wt1.heap.size := by have hsz := hb.size; (try simp at hsz); omega
                 replace zzx0 : w5.heap.size < wt1.heap.size := by have hsz := hb.size; (try simp at hsz); omega
                 replace zzx1 : w6.heap.size < wt1.heap.size := by have hsz := hb.size; (try simp at hsz); omega
                 replace zzg : w7.heap.size < wt1.heap.size := by have hsz := hb.size; (try simp at hsz); omega
                 have hszwt1 := hb.size
                 try simp at hszwt1
                 try (have qcs : wt1.cell? ⟨w19.heap.size, 0, none⟩ = some (.slice none 0 0) := ?_
                      rotate_left
                      · refine (hb.cell (p := ⟨w19.heap.size, 0, none⟩) ?_).trans ?_
                        · first | assumption | omega | (simp; omega) | (simp; done)
                        · first | assumption | (go_simp; done))
                 try (have qfs : wt1.frozen? ⟨w19.heap.size, 0, none⟩ = false := ?_
                      rotate_left
                      · refine (hb.frozen (p := ⟨w19.heap.size, 0, none⟩) ?_).trans ?_
                        · first | assumption | omega | (simp; omega) | (simp; done)
                        · first | assumption | (go_simp; done))
                 try (have qc0 : wt1.cell? ⟨wt0.heap.size, 0, none⟩ = some (.slice none 0 0) := ?_
                      rotate_left
                      · refine (hb.cell (p := ⟨wt0.heap.size, 0, none⟩) ?_).trans ?_
                        · first | assumption | omega | (simp; omega) | (simp; done)
                        · first | assumption | (go_simp; done))
                 try (have qf0 : wt1.frozen? ⟨wt0.heap.size, 0, none⟩ = false := ?_
                      rotate_left
                      · refine (hb.frozen (p := ⟨wt0.heap.size, 0, none⟩) ?_).trans ?_
                        · first | assumption | omega | (simp; omega) | (simp; done)
                        · first | assumption | (go_simp; done))
                 try (have qc1 : wt1.cell? ⟨wt1.heap.size, 0, none⟩ = some (.slice none 0 0) := ?_
                      rotate_left
                      · refine (hb.cell (p := ⟨wt1.heap.size, 0, none⟩) ?_).trans ?_
                        · first | assumption | omega | (simp; omega) | (simp; done)
                        · first | assumption | (go_simp; done))
                 try (have qf1 : wt1.frozen? ⟨wt1.heap.size, 0, none⟩ = false := ?_
                      rotate_left
                      · refine (hb.frozen (p := ⟨wt1.heap.size, 0, none⟩) ?_).trans ?_
                        · first | assumption | omega | (simp; omega) | (simp; done)
                        · first | assumption | (go_simp; done))
                 have hstwt1 : w19.heap.size ≤ wt1.heap.size := by have hsz := hb.size; (try simp at hsz); omega
                 replace HBc : Hid (Below w19.heap.size w19 wt1) := by first | exact HBc.out.trans (hb.mono HBc.out.size) | exact (HBc.out.alloc HBc.out.size _).trans (hb.mono (by have := HBc.out.size; simp at this ⊢; omega)) | exact (below_drewN ((Below.refl _ _).alloc (Nat.le_refl _) _) 1).trans (hb.mono (by simp))
                 try (replace HY0 : Hid (Lst wt1 vt0 (strs l0)) := by first | exact HY0.out.below hb | exact (HY0.out.below ((Below.refl _ _).alloc (Nat.le_refl _) _)).below hb)
                 have HY1 : Hid (Lst wt1 vt1 (strs l1)) := Lst.of_own hot
                 clear hb hot)
              | (go_at_call 23
                 refine (implComposeSubst l0 l1 _ _ _ (by first | exact HY0.out | exact HY0.out.below ((Below.refl _ _).alloc (Nat.le_refl _) _)) (by first | exact HY1.out | exact HY1.out.below ((Below.refl _ _).alloc (Nat.le_refl _) _)) HZ0.out HZ1.out hn0 hn1).mono ?_
                 rintro e w20 ⟨vh, rfl, ho, hb⟩
                 obtain ⟨Ah, cph, rfl⟩ := own_slice ho
                 have LOh := Lib.hid ho.lt
                 have hsw := hb.size
                 replace ccp0 : w20.cell? ⟨w.heap.size, 0, none⟩ = some (.slice A0 l0.length cp0) := (hb.cell (p := ⟨w.heap.size, 0, none⟩) (by first | assumption | (simp; omega) | simp)).trans (by first | assumption | go_simp)
                 replace ccp1 : w20.cell? ⟨w.heap.size + 1, 0, none⟩ = some (.slice A1 l1.length cp1) := (hb.cell (p := ⟨w.heap.size + 1, 0, none⟩) (by first | assumption | (simp; omega) | simp)).trans (by first | assumption | go_simp)
                 replace zzp0 : w.heap.size < w20.heap.size := by have hsz := hb.size; (try simp at hsz); omega
                 replace zzp1 : w.heap.size + 1 < w20.heap.size := by have hsz := hb.size; (try simp at hsz); omega
                 replace zzw : gw < w20.heap.size := by have hsz := hb.size; (try simp at hsz); omega
                 replace zzx0 : w5.heap.size < w20.heap.size := by have hsz := hb.size; (try simp at hsz); omega
                 replace zzx1 : w6.heap.size < w20.heap.size := by have hsz := hb.size; (try simp at hsz); omega
                 replace zzg : w7.heap.size < w20.heap.size := by have hsz := hb.size; (try simp at hsz); omega
                 have hszw20 := hb.size
                 try simp at hszw20
                 try (have qcs : w20.cell? ⟨w19.heap.size, 0, none⟩ = some (.slice none 0 0) := ?_
                      rotate_left
                      · refine (hb.cell (p := ⟨w19.heap.size, 0, none⟩) ?_).trans ?_
                        · first | assumption | omega | (simp; omega) | (simp; done)
                        · first | assumption | (go_simp; done))
                 try (have qfs : w20.frozen? ⟨w19.heap.size, 0, none⟩ = false := ?_
                      rotate_left
                      · refine (hb.frozen (p := ⟨w19.heap.size, 0, none⟩) ?_).trans ?_
                        · first | assumption | omega | (simp; omega) | (simp; done)
                        · first | assumption | (go_simp; done))
                 try (have qc0 : w20.cell? ⟨wt0.heap.size, 0, none⟩ = some (.slice none 0 0) := ?_
                      rotate_left
                      · refine (hb.cell (p := ⟨wt0.heap.size, 0, none⟩) ?_).trans ?_
                        · first | assumption | omega | (simp; omega) | (simp; done)
                        · first | assumption | (go_simp; done))
                 try (have qf0 : w20.frozen? ⟨wt0.heap.size, 0, none⟩ = false := ?_
                      rotate_left
                      · refine (hb.frozen (p := ⟨wt0.heap.size, 0, none⟩) ?_).trans ?_
                        · first | assumption | omega | (simp; omega) | (simp; done)
                        · first | assumption | (go_simp; done))
                 try (have qc1 : w20.cell? ⟨wt1.heap.size, 0, none⟩ = some (.slice none 0 0) := ?_
                      rotate_left
                      · refine (hb.cell (p := ⟨wt1.heap.size, 0, none⟩) ?_).trans ?_
                        · first | assumption | omega | (simp; omega) | (simp; done)
                        · first | assumption | (go_simp; done))
                 try (have qf1 : w20.frozen? ⟨wt1.heap.size, 0, none⟩ = false := ?_
                      rotate_left
                      · refine (hb.frozen (p := ⟨wt1.heap.size, 0, none⟩) ?_).trans ?_
                        · first | assumption | omega | (simp; omega) | (simp; done)
                        · first | assumption | (go_simp; done))
                 have hstw20 : w19.heap.size ≤ w20.heap.size := by have hsz := hb.size; (try simp at hsz); omega
                 replace HBc : Hid (Below w19.heap.size w19 w20) := by first | exact HBc.out.trans (hb.mono HBc.out.size) | exact (HBc.out.alloc HBc.out.size _).trans (hb.mono (by have := HBc.out.size; simp at this ⊢; omega)) | exact (below_drewN ((Below.refl _ _).alloc (Nat.le_refl _) _) 1).trans (hb.mono (by simp))
                 have HGh : Hid (w20.ownsRow (w19.heap.size) 9 1 (.slice Ah (compSub l0 l1).length cph) (compSub l0 l1).length (strs (compSub l0 l1))) := own_mono ho (by first | omega | (simp; omega))
                 try simp at hsw
                 clear hb ho HY0 HY1))
          all_goals
            go_wp2_with fail
            go_meet
            first
              | (refine ⟨w20.heap.size, Ah, cph, rfl, rfl, HBc.out.alloc HBc.out.size _, ?_, ?_, ?_, ?_, ?_⟩
                 · rw [World.cell?_alloc_at _ _ _ _ rfl]; rfl
                 · simp; done
                 · exact own_below HGh.out ((Below.refl _ _).alloc (Nat.le_refl _) _)
                 · intro k hk; have hlk := LOh.out k hk; (try simp at hlk); simp; omega
                 · omega)
              | (refine ⟨wt1.heap.size, Ah, cph, rfl, rfl, HBc.out.setCell ?_ _, ?_, ?_, own_setCell2 HGh.out ?_ _, ?_, ?_⟩
                 · first | omega | (simp; omega) | (simp; done)
                 · go_simp; done
                 · first | omega | (simp; omega)
                 · intro k hk; have hlk := LOh.out k hk; (try simp at hlk); (try simp); omega
                 · intro k hk; have hlk := LOh.out k hk; (try simp at hlk); (try simp); omega
                 · omega)
              | (refine ⟨wt0.heap.size, Ah, cph, rfl, rfl, HBc.out.setCell ?_ _, ?_, ?_, own_setCell2 HGh.out ?_ _, ?_, ?_⟩
                 · first | omega | (simp; omega) | (simp; done)
                 · go_simp; done
                 · first | omega | (simp; omega)
                 · intro k hk; have hlk := LOh.out k hk; (try simp at hlk); (try simp); omega
                 · intro k hk; have hlk := LOh.out k hk; (try simp at hlk); (try simp); omega
                 · omega)
              | (refine ⟨w19.heap.size, Ah, cph, rfl, rfl, HBc.out.setCell ?_ _, ?_, ?_, own_setCell2 HGh.out ?_ _, ?_, ?_⟩
                 · first | omega | (simp; omega) | (simp; done)
                 · go_simp; done
                 · first | omega | (simp; omega)
                 · intro k hk; have hlk := LOh.out k hk; (try simp at hlk); (try simp); omega
                 · intro k hk; have hlk := LOh.out k hk; (try simp at hlk); (try simp); omega
                 · omega)
        case rest =>
          obtain ⟨gh, Ah, cph, rfl, rfl, hbs, cch, zzh, HGh, LOh, hsgh⟩ := hcut
          obtain ⟨w21, rfl⟩ : ∃ x : World, x = wc := ⟨_, rfl⟩
          have huph := zzh
          replace ccp0 : w21.cell? ⟨w.heap.size, 0, none⟩ = some (.slice A0 l0.length cp0) := (hbs.cell (p := ⟨w.heap.size, 0, none⟩) (by first | assumption | (simp; omega) | simp)).trans (by first | assumption | go_simp)
          replace ccp1 : w21.cell? ⟨w.heap.size + 1, 0, none⟩ = some (.slice A1 l1.length cp1) := (hbs.cell (p := ⟨w.heap.size + 1, 0, none⟩) (by first | assumption | (simp; omega) | simp)).trans (by first | assumption | go_simp)
          replace ccw : w21.cell? ⟨gw, 0, none⟩ = some (.slice Aw (compSub l0 l1).length cpw) := (hbs.cell (p := ⟨gw, 0, none⟩) (by first | assumption | (simp; omega) | simp)).trans (by first | assumption | go_simp)
          replace ccx0 : w21.cell? ⟨w5.heap.size, 0, none⟩ = some (.slice Ax0 l0.length cpx0) := (hbs.cell (p := ⟨w5.heap.size, 0, none⟩) (by first | assumption | (simp; omega) | simp)).trans (by first | assumption | go_simp)
          replace ccx1 : w21.cell? ⟨w6.heap.size, 0, none⟩ = some (.slice Ax1 l1.length cpx1) := (hbs.cell (p := ⟨w6.heap.size, 0, none⟩) (by first | assumption | (simp; omega) | simp)).trans (by first | assumption | go_simp)
          replace ccg : w21.cell? ⟨w7.heap.size, 0, none⟩ = some (.slice Ag (compSub l0 l1).length cpg) := (hbs.cell (p := ⟨w7.heap.size, 0, none⟩) (by first | assumption | (simp; omega) | simp)).trans (by first | assumption | go_simp)
          replace zzp0 : w.heap.size < w21.heap.size := by have hsz := hbs.size; (try simp at hsz); omega
          replace zzp1 : w.heap.size + 1 < w21.heap.size := by have hsz := hbs.size; (try simp at hsz); omega
          replace zzw : gw < w21.heap.size := by have hsz := hbs.size; (try simp at hsz); omega
          replace zzx0 : w5.heap.size < w21.heap.size := by have hsz := hbs.size; (try simp at hsz); omega
          replace zzx1 : w6.heap.size < w21.heap.size := by have hsz := hbs.size; (try simp at hsz); omega
          replace zzg : w7.heap.size < w21.heap.size := by have hsz := hbs.size; (try simp at hsz); omega
          replace HL0 : Hid (Lst w21 (.slice A0 l0.length cp0) (strs l0)) := HL0.out.below hbs
          replace HL1 : Hid (Lst w21 (.slice A1 l1.length cp1) (strs l1)) := HL1.out.below hbs
          replace HM : Hid (Lst w21 (.slice Ag (compSub l0 l1).length cpg) (strs (marks 1 (compSub l0 l1).length))) := HM.out.below hbs
          replace HGw : Hid (w21.ownsRow (w2.heap.size) 9 1 (.slice Aw (compSub l0 l1).length cpw) (compSub l0 l1).length (strs (compSub l0 l1))) := own_below HGw.out hbs
          replace HB : Hid (Below w.heap.size w w21) := HB.out.trans (hbs.mono (HB.out.size))
          have hs17 : w19.heap.size ≤ w21.heap.size := by have hsz := hbs.size; (try simp at hsz); omega
          clear hbs
          go_wp2_with fail
          refine (eqSubst_same (compSub l0 l1) _ _ _ (Lst.of_own HGh.out) (Lst.of_own HGw.out)).mono ?_
          rintro e w22 ⟨rfl, hb⟩
          replace ccp0 : w22.cell? ⟨w.heap.size, 0, none⟩ = some (.slice A0 l0.length cp0) := (hb.cell (p := ⟨w.heap.size, 0, none⟩) (by first | assumption | (simp; omega) | simp)).trans (by first | assumption | go_simp)
          replace ccp1 : w22.cell? ⟨w.heap.size + 1, 0, none⟩ = some (.slice A1 l1.length cp1) := (hb.cell (p := ⟨w.heap.size + 1, 0, none⟩) (by first | assumption | (simp; omega) | simp)).trans (by first | assumption | go_simp)
          replace ccw : w22.cell? ⟨gw, 0, none⟩ = some (.slice Aw (compSub l0 l1).length cpw) := (hb.cell (p := ⟨gw, 0, none⟩) (by first | assumption | (simp; omega) | simp)).trans (by first | assumption | go_simp)
          replace ccx0 : w22.cell? ⟨w5.heap.size, 0, none⟩ = some (.slice Ax0 l0.length cpx0) := (hb.cell (p := ⟨w5.heap.size, 0, none⟩) (by first | assumption | (simp; omega) | simp)).trans (by first | assumption | go_simp)
          replace ccx1 : w22.cell? ⟨w6.heap.size, 0, none⟩ = some (.slice Ax1 l1.length cpx1) := (hb.cell (p := ⟨w6.heap.size, 0, none⟩) (by first | assumption | (simp; omega) | simp)).trans (by first | assumption | go_simp)
          replace ccg : w22.cell? ⟨w7.heap.size, 0, none⟩ = some (.slice Ag (compSub l0 l1).length cpg) := (hb.cell (p := ⟨w7.heap.size, 0, none⟩) (by first | assumption | (simp; omega) | simp)).trans (by first | assumption | go_simp)
          replace cch : w22.cell? ⟨gh, 0, none⟩ = some (.slice Ah (compSub l0 l1).length cph) := (hb.cell (p := ⟨gh, 0, none⟩) (by first | assumption | (simp; omega) | simp)).trans (by first | assumption | go_simp)
          replace zzp0 : w.heap.size < w22.heap.size := by have hsz := hb.size; (try simp at hsz); omega
          replace zzp1 : w.heap.size + 1 < w22.heap.size := by have hsz := hb.size; (try simp at hsz); omega
          replace zzw : gw < w22.heap.size := by have hsz := hb.size; (try simp at hsz); omega
          replace zzx0 : w5.heap.size < w22.heap.size := by have hsz := hb.size; (try simp at hsz); omega
          replace zzx1 : w6.heap.size < w22.heap.size := by have hsz := hb.size; (try simp at hsz); omega
          replace zzg : w7.heap.size < w22.heap.size := by have hsz := hb.size; (try simp at hsz); omega
          replace zzh : gh < w22.heap.size := by have hsz := hb.size; (try simp at hsz); omega
          replace HL0 : Hid (Lst w22 (.slice A0 l0.length cp0) (strs l0)) := HL0.out.below hb
          replace HL1 : Hid (Lst w22 (.slice A1 l1.length cp1) (strs l1)) := HL1.out.below hb
          replace HM : Hid (Lst w22 (.slice Ag (compSub l0 l1).length cpg) (strs (marks 1 (compSub l0 l1).length))) := HM.out.below hb
          replace HGw : Hid (w22.ownsRow (w2.heap.size) 9 1 (.slice Aw (compSub l0 l1).length cpw) (compSub l0 l1).length (strs (compSub l0 l1))) := own_below HGw.out hb
          replace HGh : Hid (w22.ownsRow (w19.heap.size) 9 1 (.slice Ah (compSub l0 l1).length cph) (compSub l0 l1).length (strs (compSub l0 l1))) := own_below HGh.out hb
          replace HB : Hid (Below w.heap.size w w22) := HB.out.trans (hb.mono (HB.out.size))
          have hs18 : w21.heap.size ≤ w22.heap.size := by have hsz := hb.size; (try simp at hsz); omega
          clear hb
          go_wp2_with fail
          refine (heldSubst_marks _ 1 (compSub l0 l1).length _ (by omega) (by omega) HM.out).mono ?_
          rintro e w23 ⟨rfl, hb⟩
          replace ccp0 : w23.cell? ⟨w.heap.size, 0, none⟩ = some (.slice A0 l0.length cp0) := (hb.cell (p := ⟨w.heap.size, 0, none⟩) (by first | assumption | (simp; omega) | simp)).trans (by first | assumption | go_simp)
          replace ccp1 : w23.cell? ⟨w.heap.size + 1, 0, none⟩ = some (.slice A1 l1.length cp1) := (hb.cell (p := ⟨w.heap.size + 1, 0, none⟩) (by first | assumption | (simp; omega) | simp)).trans (by first | assumption | go_simp)
          replace ccw : w23.cell? ⟨gw, 0, none⟩ = some (.slice Aw (compSub l0 l1).length cpw) := (hb.cell (p := ⟨gw, 0, none⟩) (by first | assumption | (simp; omega) | simp)).trans (by first | assumption | go_simp)
          replace ccx0 : w23.cell? ⟨w5.heap.size, 0, none⟩ = some (.slice Ax0 l0.length cpx0) := (hb.cell (p := ⟨w5.heap.size, 0, none⟩) (by first | assumption | (simp; omega) | simp)).trans (by first | assumption | go_simp)
          replace ccx1 : w23.cell? ⟨w6.heap.size, 0, none⟩ = some (.slice Ax1 l1.length cpx1) := (hb.cell (p := ⟨w6.heap.size, 0, none⟩) (by first | assumption | (simp; omega) | simp)).trans (by first | assumption | go_simp)
          replace ccg : w23.cell? ⟨w7.heap.size, 0, none⟩ = some (.slice Ag (compSub l0 l1).length cpg) := (hb.cell (p := ⟨w7.heap.size, 0, none⟩) (by first | assumption | (simp; omega) | simp)).trans (by first | assumption | go_simp)
          replace cch : w23.cell? ⟨gh, 0, none⟩ = some (.slice Ah (compSub l0 l1).length cph) := (hb.cell (p := ⟨gh, 0, none⟩) (by first | assumption | (simp; omega) | simp)).trans (by first | assumption | go_simp)
          replace zzp0 : w.heap.size < w23.heap.size := by have hsz := hb.size; (try simp at hsz); omega
          replace zzp1 : w.heap.size + 1 < w23.heap.size := by have hsz := hb.size; (try simp at hsz); omega
          replace zzw : gw < w23.heap.size := by have hsz := hb.size; (try simp at hsz); omega
          replace zzx0 : w5.heap.size < w23.heap.size := by have hsz := hb.size; (try simp at hsz); omega
          replace zzx1 : w6.heap.size < w23.heap.size := by have hsz := hb.size; (try simp at hsz); omega
          replace zzg : w7.heap.size < w23.heap.size := by have hsz := hb.size; (try simp at hsz); omega
          replace zzh : gh < w23.heap.size := by have hsz := hb.size; (try simp at hsz); omega
          replace HL0 : Hid (Lst w23 (.slice A0 l0.length cp0) (strs l0)) := HL0.out.below hb
          replace HL1 : Hid (Lst w23 (.slice A1 l1.length cp1) (strs l1)) := HL1.out.below hb
          replace HM : Hid (Lst w23 (.slice Ag (compSub l0 l1).length cpg) (strs (marks 1 (compSub l0 l1).length))) := HM.out.below hb
          replace HGw : Hid (w23.ownsRow (w2.heap.size) 9 1 (.slice Aw (compSub l0 l1).length cpw) (compSub l0 l1).length (strs (compSub l0 l1))) := own_below HGw.out hb
          replace HGh : Hid (w23.ownsRow (w19.heap.size) 9 1 (.slice Ah (compSub l0 l1).length cph) (compSub l0 l1).length (strs (compSub l0 l1))) := own_below HGh.out hb
          replace HB : Hid (Below w.heap.size w w23) := HB.out.trans (hb.mono (HB.out.size))
          have hs19 : w22.heap.size ≤ w23.heap.size := by have hsz := hb.size; (try simp at hsz); omega
          clear hb
          go_wp2_with fail
          go_ret
          exact ⟨rfl, HB.out⟩

theorem fnExactComposeSubst_walk {H : Type} {enc : TypeId × Value → H} {base : Nat} {r : Reach} {b0 : Nat} {d0 : DataW H} {ps0 : List MemPlace} (v0 : Value) {d1 : DataW H} {ps1 : List MemPlace} (v1 : Value) (w : World) (hval0 : Value.okWide Try.prog w r b0 24 v0) (h0 : DataW.Trod enc Try.prog w base (fun _ => true) true 24 v0 d0 ps0) (hval1 : Value.okWide Try.prog w r b0 24 v1) (h1 : DataW.Trod enc Try.prog w base (fun _ => true) true 24 v1 d1 ps1) :
    Calls Try.prog 6 #[v0, v1] w fun e w' => e = .returned (.bool true) ∧ Below w.heap.size w w' := by
  obtain ⟨u0, l0, rfl, hl0, hz0⟩ := subst_arg Try.underlying24 (by kernel_rfl) rfl (by kernel_rfl) Try.underlying22 Try.underlying9 cellsOf_str hval0 h0
  obtain ⟨u1, l1, rfl, hl1, hz1⟩ := subst_arg Try.underlying24 (by kernel_rfl) rfl (by kernel_rfl) Try.underlying22 Try.underlying9 cellsOf_str hval1 h1
  exact fnExactComposeSubst_walk0 l0 u0 l1 u1 w hl0 hz0 hl1 hz1

set_option maxRecDepth 100000 in
theorem fnExactComposeSubst_row (os : Os) (started : os.Started) (H : Type) (enc : TypeId × Value → H) :
    ReturnsInHanded {} Try.checked os 6 .any (Rows.fnExactComposeSubstSpec.pre6 enc Try.prog Try.f6 Rows.fnExactComposeSubstRow.domain false) (Rows.fnExactComposeSubstSpec.post enc Try.prog Try.f6 false true false false) :=
  lawLifted (C := Try.checked) ownKnobs started (by kernel_rfl) Try.func6 laidOut (by kernel_rfl) (by kernel_rfl) Try.underlying4 rfl
    (fun ds h => by match ds, h with | [_, _], _ => rfl)
    (ChangeSpec.witness6 (enc := enc) (C := Try.checked) false ⟨#[], #[.agg #[.slice none 0 0], .agg #[.slice none 0 0]], []⟩ 8 (by kernel_rfl) (by kernel_rfl) (by kernel_rfl) (by kernel_rfl))
    (fun W base args ds p hval0 hA0 hlt => by
      have hval : ∀ (j : Nat) t v, Try.f6.params[j]? = some t → args[j]? = some v → Value.okWide Try.prog W .any base t v := hval0
      have hA : DataW.TrodAll enc Try.prog W 0 (fun _ => true) true Try.f6.params.toList args.toList ds p := hA0
      clear hval0 hA0
      rw [Try.params6] at hA hval
      obtain ⟨v0, v1, d0, d1, p0, p1, rfl, rfl, rfl, h0, h1⟩ := trodAll_two hA
      exact fnExactComposeSubst_walk v0 v1 W (hval 0 24 v0 rfl rfl) h0 (hval 1 24 v1 rfl rfl) h1)

theorem fnExactComposeSubst_holds : Rows.FnExactComposeSubstSaid :=
  OpenClaim.holds_of_wide 6 Try.f6 rfl rfl rfl rfl rfl rfl rfl ⟨rfl, rfl, rfl, rfl, rfl⟩ rfl rfl rfl rfl rfl (by kernel_rfl) Try.func6 (by kernel_rfl)
    (of_decide_eq_true (by kernel_rfl)) (by unfold Func.isWrapper; first | (rw [if_pos (by decide +kernel)]; kernel_rfl) | (rw [if_neg (by decide +kernel)]; exact ⟨rfl, rfl⟩))
    (fun os started H enc _ => fnExactComposeSubst_row os started H enc)


end Go.Proofs.Ytgekhijjeojhaaa
