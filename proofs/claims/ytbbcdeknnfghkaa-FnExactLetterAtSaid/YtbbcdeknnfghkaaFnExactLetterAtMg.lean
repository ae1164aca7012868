/- FnExactLetterAt: for every argument the law returns true and its arguments read as before. No condition. -/
import Derived.Test.YtbbcdeknnfghkaaMgL1
import Derived.Test.YtbbcdeknnfghkaaMgL3
import Derived.Deep.RegionWith
import Derived.Test.YtbbcdeknnfghkaaMgL15
import Derived.Test.YtbbcdeknnfghkaaMgL22
namespace Go.Proofs.Ytbbcdeknnfghkaa
open Go.ChangeShapes Go.WideShapes Go.ChangeAt Go.RowKit
open Go.ChangeMaps (open_string shut_string)

set_option maxHeartbeats 4000000 in
set_option maxRecDepth 100000 in
theorem fnExactLetterAt_walk0 (l0 : List ByteArray) (v0 : Value) (a1 : ByteArray) (a2 : Int) (w : World) (h0 : Lst w v0 (strs l0)) (hz0 : ∀ x ∈ l0, x.size ≤ maxLen) (b1 : a1.size ≤ maxLen) (_ : (Lit.int .i64 a2).wf = true) :
    Calls Try.prog 7 #[.agg #[v0], .string a1, .int .i64 a2] w fun e w' => e = .returned (.bool true) ∧ Below w.heap.size w w' := by
  unfold maxLen at b1
  obtain ⟨A0, cp0, rfl⟩ := lst_slice h0
  simp only [strs_length] at h0 ⊢
  have hb0 : Below w.heap.size w (w.alloc (.cells #[.slice A0 l0.length cp0] 39)) := ((Below.refl w.heap.size w).alloc (Nat.le_refl _) _)
  have HL0 : Hid (Lst (w.alloc (.cells #[.slice A0 l0.length cp0] 39)) (.slice A0 l0.length cp0) (strs l0)) := h0.below hb0
  have HLT0 := Lib.hid (lst_lt h0)
  have HZM0 := Lib.hid hz0
  have HB : Hid (Below w.heap.size w (w.alloc (.cells #[.slice A0 l0.length cp0] 39))) := hb0
  clear hb0 h0 hz0
  by_cases h1 : a1.size ≤ 1048576
  · skip
    go_enter Try.func7, Try.ntmps7
    go_wp2_with fail
    refine (szSubst_any l0 _ 1048576 _ HL0.out HZM0.out (by omega) (by omega)).mono ?_
    rintro e w1 ⟨hb, r0, rfl, hr1, hr2, hr3⟩
    have ccp0 : w1.cell? ⟨w.heap.size, 0, none⟩ = some (.slice A0 l0.length cp0) := (hb.cell (p := ⟨w.heap.size, 0, none⟩) (by first | assumption | (simp; omega) | simp)).trans (by first | assumption | go_simp)
    have zzp0 : w.heap.size < w1.heap.size := by have hsz := hb.size; (try simp at hsz); omega
    replace HL0 : Hid (Lst w1 (.slice A0 l0.length cp0) (strs l0)) := HL0.out.below hb
    replace HB : Hid (Below w.heap.size w w1) := HB.out.trans (hb.mono (HB.out.size))
    have hs1 : w.heap.size + 1 ≤ w1.heap.size := by have hsz := hb.size; (try simp at hsz); omega
    have HR0 := Lib.hid hr3
    clear hb hr3
    by_cases hneg0 : r0 < 0
    · go_wp2_with fail
      go_ret
      exact ⟨rfl, HB.out⟩
    have hge0 : 0 ≤ r0 := by omega
    obtain ⟨hn0, hz0⟩ := sz_use (HR0.out hge0) hge0 (by omega)
    have HZ0 := Lib.hid hz0
    have hle0 : r0 ≤ 1048576 := by omega
    clear hz0 hr1 hr2
    go_wp2_with fail
    refine (toSubst_any l0 _ _ HL0.out hn0).mono ?_
    rintro e w2 ⟨vw0, rfl, ho, hb⟩
    obtain ⟨Aw0, cpw0, rfl⟩ := own_slice ho
    replace ccp0 : w2.cell? ⟨w.heap.size, 0, none⟩ = some (.slice A0 l0.length cp0) := (hb.cell (p := ⟨w.heap.size, 0, none⟩) (by first | assumption | (simp; omega) | simp)).trans (by first | assumption | go_simp)
    replace zzp0 : w.heap.size < w2.heap.size := by have hsz := hb.size; (try simp at hsz); omega
    replace HL0 : Hid (Lst w2 (.slice A0 l0.length cp0) (strs l0)) := HL0.out.below hb
    replace HB : Hid (Below w.heap.size w w2) := HB.out.trans (hb.mono (HB.out.size))
    have hs2 : w1.heap.size ≤ w2.heap.size := by have hsz := hb.size; (try simp at hsz); omega
    have HXw0 : Hid (Lst w2 (.slice Aw0 l0.length cpw0) (strs l0)) := Lst.of_own ho
    clear hb ho
    go_wp2_with fail
    refine (specLetterAt l0 _ a1 a2 _ HXw0.out HZ0.out hn0 h1).mono ?_
    rintro e w3 ⟨rfl, hb⟩
    replace ccp0 : w3.cell? ⟨w.heap.size, 0, none⟩ = some (.slice A0 l0.length cp0) := (hb.cell (p := ⟨w.heap.size, 0, none⟩) (by first | assumption | (simp; omega) | simp)).trans (by first | assumption | go_simp)
    replace zzp0 : w.heap.size < w3.heap.size := by have hsz := hb.size; (try simp at hsz); omega
    replace HL0 : Hid (Lst w3 (.slice A0 l0.length cp0) (strs l0)) := HL0.out.below hb
    replace HXw0 : Hid (Lst w3 (.slice Aw0 l0.length cpw0) (strs l0)) := HXw0.out.below hb
    replace HB : Hid (Below w.heap.size w w3) := HB.out.trans (hb.mono (HB.out.size))
    have hs3 : w2.heap.size ≤ w3.heap.size := by have hsz := hb.size; (try simp at hsz); omega
    clear hb
    clear HXw0
    go_wp2_with fail
    refine (toSubst_any l0 _ _ HL0.out hn0).mono ?_
    rintro e w4 ⟨vx0, rfl, ho, hb⟩
    obtain ⟨Ax0, cpx0, rfl⟩ := own_slice ho
    replace ccp0 : w4.cell? ⟨w.heap.size, 0, none⟩ = some (.slice A0 l0.length cp0) := (hb.cell (p := ⟨w.heap.size, 0, none⟩) (by first | assumption | (simp; omega) | simp)).trans (by first | assumption | go_simp)
    replace zzp0 : w.heap.size < w4.heap.size := by have hsz := hb.size; (try simp at hsz); omega
    replace HL0 : Hid (Lst w4 (.slice A0 l0.length cp0) (strs l0)) := HL0.out.below hb
    replace HB : Hid (Below w.heap.size w w4) := HB.out.trans (hb.mono (HB.out.size))
    have hs4 : w3.heap.size ≤ w4.heap.size := by have hsz := hb.size; (try simp at hsz); omega
    have HXx0 : Hid (Lst w4 (.slice Ax0 l0.length cpx0) (strs l0)) := Lst.of_own ho
    clear hb ho
    go_wp2_with fail
    have hbA : Below w4.heap.size w4 (w4.alloc (.cells #[.slice Ax0 l0.length cpx0] 24)) := (Below.refl _ _).alloc (Nat.le_refl _) _
    replace HL0 : Hid (Lst (w4.alloc (.cells #[.slice Ax0 l0.length cpx0] 24)) (.slice A0 l0.length cp0) (strs l0)) := HL0.out.below hbA
    replace HXx0 : Hid (Lst (w4.alloc (.cells #[.slice Ax0 l0.length cpx0] 24)) (.slice Ax0 l0.length cpx0) (strs l0)) := HXx0.out.below hbA
    replace HB : Hid (Below w.heap.size w (w4.alloc (.cells #[.slice Ax0 l0.length cpx0] 24))) := HB.out.trans (hbA.mono (HB.out.size))
    clear hbA
    refine (implLetterAt l0 _ a1 a2 _ HXx0.out HZ0.out hn0 h1).mono ?_
    rintro e w5 ⟨rfl, hb⟩
    replace ccp0 : w5.cell? ⟨w.heap.size, 0, none⟩ = some (.slice A0 l0.length cp0) := (hb.cell (p := ⟨w.heap.size, 0, none⟩) (by first | assumption | (simp; omega) | simp)).trans (by first | assumption | go_simp)
    have ccx0 : w5.cell? ⟨w4.heap.size, 0, none⟩ = some (.slice Ax0 l0.length cpx0) := (hb.cell (p := ⟨w4.heap.size, 0, none⟩) (by first | assumption | (simp; omega) | simp)).trans (by first | assumption | go_simp)
    replace zzp0 : w.heap.size < w5.heap.size := by have hsz := hb.size; (try simp at hsz); omega
    have zzx0 : w4.heap.size < w5.heap.size := by have hsz := hb.size; (try simp at hsz); omega
    replace HL0 : Hid (Lst w5 (.slice A0 l0.length cp0) (strs l0)) := HL0.out.below hb
    replace HXx0 : Hid (Lst w5 (.slice Ax0 l0.length cpx0) (strs l0)) := HXx0.out.below hb
    replace HB : Hid (Below w.heap.size w w5) := HB.out.trans (hb.mono (HB.out.size))
    have hs5 : w4.heap.size + 1 ≤ w5.heap.size := by have hsz := hb.size; (try simp at hsz); omega
    clear hb
    go_wp2_with fail
    go_region_with (first
      | (go_at_call 28
         refine (toSubst_any l0 _ _ (HL0.out.drewN 1) hn0).mono ?_
         rintro e w6 ⟨vy, rfl, hoy, hb⟩
         replace ccp0 : w6.cell? ⟨w.heap.size, 0, none⟩ = some (.slice A0 l0.length cp0) := (hb.cell (p := ⟨w.heap.size, 0, none⟩) (by first | assumption | (simp; omega) | simp)).trans (by first | assumption | go_simp)
         replace ccx0 : w6.cell? ⟨w4.heap.size, 0, none⟩ = some (.slice Ax0 l0.length cpx0) := (hb.cell (p := ⟨w4.heap.size, 0, none⟩) (by first | assumption | (simp; omega) | simp)).trans (by first | assumption | go_simp)
         replace zzp0 : w.heap.size < w6.heap.size := by have hsz := hb.size; (try simp at hsz); omega
         replace zzx0 : w4.heap.size < w6.heap.size := by have hsz := hb.size; (try simp at hsz); omega
         replace HL0 : Hid (Lst w6 (.slice A0 l0.length cp0) (strs l0)) := (HL0.out.drewN 1).below hb
         replace HXx0 : Hid (Lst w6 (.slice Ax0 l0.length cpx0) (strs l0)) := (HXx0.out.drewN 1).below hb
         replace HB : Hid (Below w.heap.size w w6) := (below_drewN HB.out 1).trans (hb.mono (HB.out.size))
         have hs6 : w5.heap.size ≤ w6.heap.size := by have hsz := hb.size; (try simp at hsz); omega
         have HY : Hid (Lst w6 vy (strs l0)) := Lst.of_own hoy
         clear hb hoy)
      | (go_at_call 30
         refine (eqSubst_same l0 _ _ _ HXx0.out HY.out).mono ?_
         rintro e w7 ⟨rfl, hb⟩
         replace ccp0 : w7.cell? ⟨w.heap.size, 0, none⟩ = some (.slice A0 l0.length cp0) := (hb.cell (p := ⟨w.heap.size, 0, none⟩) (by first | assumption | (simp; omega) | simp)).trans (by first | assumption | go_simp)
         replace ccx0 : w7.cell? ⟨w4.heap.size, 0, none⟩ = some (.slice Ax0 l0.length cpx0) := (hb.cell (p := ⟨w4.heap.size, 0, none⟩) (by first | assumption | (simp; omega) | simp)).trans (by first | assumption | go_simp)
         replace zzp0 : w.heap.size < w7.heap.size := by have hsz := hb.size; (try simp at hsz); omega
         replace zzx0 : w4.heap.size < w7.heap.size := by have hsz := hb.size; (try simp at hsz); omega
         replace HL0 : Hid (Lst w7 (.slice A0 l0.length cp0) (strs l0)) := HL0.out.below hb
         replace HXx0 : Hid (Lst w7 (.slice Ax0 l0.length cpx0) (strs l0)) := HXx0.out.below hb
         replace HB : Hid (Below w.heap.size w w7) := HB.out.trans (hb.mono (HB.out.size))
         have hs7 : w6.heap.size ≤ w7.heap.size := by have hsz := hb.size; (try simp at hsz); omega
         clear hb HY))
    all_goals
      go_wp2_with fail
      go_ret
      exact ⟨rfl, HB.out⟩
  · go_enter Try.func7, Try.ntmps7
    go_wp2_with fail
    go_ret
    exact ⟨rfl, HB.out⟩

set_option maxRecDepth 100000 in
theorem fnExactLetterAt_walk {H : Type} {enc : TypeId × Value → H} {base : Nat} {r : Reach} {b0 : Nat} {d0 : DataW H} {ps0 : List MemPlace} (v0 : Value) (a1 : ByteArray) (a2 : Int) (w : World) (hval0 : Value.okWide Try.prog w r b0 39 v0) (h0 : DataW.Trod enc Try.prog w base (fun _ => true) true 39 v0 d0 ps0) (b1 : a1.size ≤ maxLen) (b2 : (Lit.int .i64 a2).wf = true) :
    Calls Try.prog 7 #[v0, .string a1, .int .i64 a2] w fun e w' => e = .returned (.bool true) ∧ Below w.heap.size w w' := by
  obtain ⟨u0, l0, rfl, hl0, hz0⟩ := subst_arg Try.underlying39 (by kernel_rfl) rfl (by kernel_rfl) Try.underlying22 Try.underlying9 cellsOf_str hval0 h0
  exact fnExactLetterAt_walk0 l0 u0 a1 a2 w hl0 hz0 b1 b2

set_option maxRecDepth 100000 in
theorem fnExactLetterAt_row (os : Os) (started : os.Started) (H : Type) (enc : TypeId × Value → H) :
    ReturnsInHanded {} Try.checked os 7 .any (Rows.fnExactLetterAtSpec.pre6 enc Try.prog Try.f7 Rows.fnExactLetterAtRow.domain false) (Rows.fnExactLetterAtSpec.post enc Try.prog Try.f7 false true false false) :=
  lawLifted (C := Try.checked) ownKnobs started (by kernel_rfl) Try.func7 laidOut (by kernel_rfl) (by kernel_rfl) Try.underlying4 rfl
    (fun ds h => by match ds, h with | [_, _, _], _ => rfl)
    (ChangeSpec.witness6 (enc := enc) (C := Try.checked) false ⟨#[], #[.agg #[.slice none 0 0], .string ⟨#[]⟩, .int .i64 0], []⟩ 8 (by kernel_rfl) (by kernel_rfl) (by kernel_rfl) (by kernel_rfl))
    (fun W base args ds p hval0 hA0 hlt => by
      have hval : ∀ (j : Nat) t v, Try.f7.params[j]? = some t → args[j]? = some v → Value.okWide Try.prog W .any base t v := hval0
      have hA : DataW.TrodAll enc Try.prog W 0 (fun _ => true) true Try.f7.params.toList args.toList ds p := hA0
      clear hval0 hA0
      rw [Try.params7] at hA hval
      obtain ⟨v0, v1, v2, d0, d1, d2, p0, p1, p2, rfl, rfl, rfl, h0, h1, h2⟩ := trodAll_three hA
      obtain ⟨a1, rfl, rfl, rfl, b1⟩ := open_string Try.underlying9 (hval 1 9 v1 rfl rfl) h1
      obtain ⟨a2, rfl, rfl, rfl, b2⟩ := open_int Try.underlying3 (hval 2 3 v2 rfl rfl) h2
      exact fnExactLetterAt_walk v0 a1 a2 W (hval 0 39 v0 rfl rfl) h0 b1 b2)

theorem fnExactLetterAt_holds : Rows.FnExactLetterAtSaid :=
  OpenClaim.holds_of_wide 7 Try.f7 rfl rfl rfl rfl rfl rfl rfl ⟨rfl, rfl, rfl, rfl, rfl⟩ rfl rfl rfl rfl rfl (by kernel_rfl) Try.func7 (by kernel_rfl)
    (of_decide_eq_true (by kernel_rfl)) (by unfold Func.isWrapper; first | (rw [if_pos (by decide +kernel)]; kernel_rfl) | (rw [if_neg (by decide +kernel)]; exact ⟨rfl, rfl⟩))
    (fun os started H enc _ => fnExactLetterAt_row os started H enc)


end Go.Proofs.Ytbbcdeknnfghkaa
