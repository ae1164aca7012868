/- FnExactIsFixedStart: for every argument the law returns true and its arguments read as before. No condition. -/
import Derived.Test.YtbbcdeknnfghkaaMgI1
import Derived.Test.YtbbcdeknnfghkaaMgI3
import Derived.Test.YtbbcdeknnfghkaaMgI6
import Derived.Deep.RegionWith
import Derived.Test.YtbbcdeknnfghkaaMgI14
import Derived.Test.YtbbcdeknnfghkaaMgI21
namespace Go.Proofs.Ytbbcdeknnfghkaa
open Go.ChangeShapes Go.WideShapes Go.ChangeAt Go.RowKit
open Go.ChangeMaps (open_string shut_string)

set_option maxHeartbeats 4000000 in
set_option maxRecDepth 100000 in
theorem fnExactIsFixedStart_walk0 (l0 : List ByteArray) (v0 : Value) (a1 : ByteArray) (w : World) (q0 : Lst w v0 (strs l0)) (y0 : ∀ x ∈ l0, x.size ≤ maxLen) (b1 : a1.size ≤ maxLen) :
    Calls Try.prog 6 #[.agg #[v0], .string a1] w fun e w' => e = .returned (.bool true) ∧ Below w.heap.size w w' := by
  unfold maxLen at b1
  obtain ⟨A0, cp0, rfl⟩ := lst_slice q0
  simp only [strs_length] at q0 ⊢
  have HL0 := Lib.hid q0
  have HY0 := Lib.hid y0
  clear q0 y0
  have HB : Hid (Below w.heap.size w (w.alloc (.cells #[.slice A0 l0.length cp0] 39))) := ((Below.refl w.heap.size w).alloc (Nat.le_refl _) _)
  by_cases h1 : a1.size ≤ 1048576
  · skip
    go_enter Try.func6, Try.ntmps6
    go_wp2_with fail
    refine (szSubst_any l0 _ 1048576 _ (HL0.out.below HB.out) HY0.out (by omega) (by omega)).mono ?_
    rintro e w1 ⟨hb, r0, rfl, hr1, hr2, hr3⟩
    have ccp0 : w1.cell? ⟨w.heap.size, 0, none⟩ = some (.slice A0 l0.length cp0) := (hb.cell (p := ⟨w.heap.size, 0, none⟩) (by first | assumption | (simp; omega) | simp)).trans (by first | assumption | go_simp)
    have zzp0 : w.heap.size < w1.heap.size := by have hsz := hb.size; (try simp at hsz); omega
    replace HB : Hid (Below w.heap.size w w1) := HB.out.trans (hb.mono HB.out.size)
    have hs1 : w.heap.size + 1 ≤ w1.heap.size := by have hsz := hb.size; (try simp at hsz); omega
    have HR00 := Lib.hid hr3
    clear hb hr3
    by_cases hneg0 : r0 < 0
    · go_wp2_with fail
      go_ret
      exact ⟨rfl, HB.out⟩
    have hge0 : 0 ≤ r0 := by omega
    obtain ⟨hn0, hz0⟩ := sz_use (HR00.out hge0) hge0 (by omega)
    have HZ0 := Lib.hid hz0
    clear hz0
    have hle0 : r0 ≤ 1048576 := by omega
    clear hr1 hr2
    go_wp2_with fail
    refine (toSubst_any l0 _ _ (HL0.out.below HB.out) hn0).mono ?_
    rintro e w2 ⟨vt0, rfl, ho, hb⟩
    obtain ⟨At0, ct0, rfl⟩ := own_slice ho
    have HXt0 : Hid (w2.ownsRow (w1.heap.size) 9 1 (.slice At0 (l0).length ct0) (l0).length (strs (l0))) := ho
    have HTt0 : Hid (∀ k, Value.ownBlock (.slice At0 (l0).length ct0) = some k → k < w2.heap.size) := fun k hk => (HXt0.out.lt k hk).2
    replace ccp0 : w2.cell? ⟨w.heap.size, 0, none⟩ = some (.slice A0 l0.length cp0) := (hb.cell (p := ⟨w.heap.size, 0, none⟩) (by first | assumption | (simp; omega) | simp)).trans (by first | assumption | go_simp)
    replace zzp0 : w.heap.size < w2.heap.size := by have hsz := hb.size; (try simp at hsz); omega
    replace HB : Hid (Below w.heap.size w w2) := HB.out.trans (hb.mono HB.out.size)
    have hs2 : w1.heap.size ≤ w2.heap.size := by have hsz := hb.size; (try simp at hsz); omega
    have HAt0 : Hid (Below w2.heap.size w2 w2) := Below.refl _ _
    clear hb ho
    go_wp2_with fail
    refine (specIsFixedStart l0 _ a1 _ ((Lst.of_own HXt0.out).below HAt0.out) HZ0.out hn0 h1).mono ?_
    rintro e w3 ⟨rfl, hb⟩
    replace ccp0 : w3.cell? ⟨w.heap.size, 0, none⟩ = some (.slice A0 l0.length cp0) := (hb.cell (p := ⟨w.heap.size, 0, none⟩) (by first | assumption | (simp; omega) | simp)).trans (by first | assumption | go_simp)
    replace zzp0 : w.heap.size < w3.heap.size := by have hsz := hb.size; (try simp at hsz); omega
    replace HB : Hid (Below w.heap.size w w3) := HB.out.trans (hb.mono HB.out.size)
    replace HAt0 : Hid (Below w2.heap.size w2 w3) := HAt0.out.trans (hb.mono HAt0.out.size)
    have hs3 : w2.heap.size ≤ w3.heap.size := by have hsz := hb.size; (try simp at hsz); omega
    clear hb
    clear HXt0 HAt0 HTt0
    go_wp2_with fail
    refine (toSubst_any l0 _ _ (HL0.out.below HB.out) hn0).mono ?_
    rintro e w4 ⟨vx0, rfl, ho, hb⟩
    obtain ⟨Ax0, cx0, rfl⟩ := own_slice ho
    have HXx0 : Hid (w4.ownsRow (w3.heap.size) 9 1 (.slice Ax0 (l0).length cx0) (l0).length (strs (l0))) := ho
    have HTx0 : Hid (∀ k, Value.ownBlock (.slice Ax0 (l0).length cx0) = some k → k < w4.heap.size) := fun k hk => (HXx0.out.lt k hk).2
    replace ccp0 : w4.cell? ⟨w.heap.size, 0, none⟩ = some (.slice A0 l0.length cp0) := (hb.cell (p := ⟨w.heap.size, 0, none⟩) (by first | assumption | (simp; omega) | simp)).trans (by first | assumption | go_simp)
    replace zzp0 : w.heap.size < w4.heap.size := by have hsz := hb.size; (try simp at hsz); omega
    replace HB : Hid (Below w.heap.size w w4) := HB.out.trans (hb.mono HB.out.size)
    have hs4 : w3.heap.size ≤ w4.heap.size := by have hsz := hb.size; (try simp at hsz); omega
    have HAx0 : Hid (Below w4.heap.size w4 w4) := Below.refl _ _
    clear hb ho
    go_wp2_with fail
    replace HB : Hid (Below w.heap.size w (w4.alloc (.cells #[.slice Ax0 (l0).length cx0] 24))) := HB.out.alloc HB.out.size _
    replace HAx0 : Hid (Below w4.heap.size w4 (w4.alloc (.cells #[.slice Ax0 (l0).length cx0] 24))) := HAx0.out.alloc HAx0.out.size _
    refine (implIsFixedStart l0 _ a1 _ ((Lst.of_own HXx0.out).below HAx0.out) HZ0.out hn0 h1).mono ?_
    rintro e w5 ⟨rfl, hb⟩
    replace ccp0 : w5.cell? ⟨w.heap.size, 0, none⟩ = some (.slice A0 l0.length cp0) := (hb.cell (p := ⟨w.heap.size, 0, none⟩) (by first | assumption | (simp; omega) | simp)).trans (by first | assumption | go_simp)
    have ccx0 : w5.cell? ⟨w4.heap.size, 0, none⟩ = some (.slice Ax0 (l0).length cx0) := (hb.cell (p := ⟨w4.heap.size, 0, none⟩) (by first | assumption | (simp; omega) | simp)).trans (by first | assumption | go_simp)
    replace zzp0 : w.heap.size < w5.heap.size := by have hsz := hb.size; (try simp at hsz); omega
    have zzx0 : w4.heap.size < w5.heap.size := by have hsz := hb.size; (try simp at hsz); omega
    replace HB : Hid (Below w.heap.size w w5) := HB.out.trans (hb.mono HB.out.size)
    replace HAx0 : Hid (Below w4.heap.size w4 w5) := HAx0.out.trans (hb.mono HAx0.out.size)
    have hs5 : w4.heap.size + 1 ≤ w5.heap.size := by have hsz := hb.size; (try simp at hsz); omega
    clear hb
    go_wp2_with fail
    go_region_with (first
      | (go_at_call 28
         replace HB : Hid (Below w.heap.size w w5.drew) := below_drewN HB.out 1
         replace HAx0 : Hid (Below w4.heap.size w4 w5.drew) := below_drewN HAx0.out 1
         refine (toSubst_any l0 _ _ (HL0.out.below HB.out) hn0).mono ?_
         rintro e w6 ⟨vy, rfl, hoy, hb⟩
         replace ccp0 : w6.cell? ⟨w.heap.size, 0, none⟩ = some (.slice A0 l0.length cp0) := (hb.cell (p := ⟨w.heap.size, 0, none⟩) (by first | assumption | (simp; omega) | simp)).trans (by first | assumption | go_simp)
         replace ccx0 : w6.cell? ⟨w4.heap.size, 0, none⟩ = some (.slice Ax0 (l0).length cx0) := (hb.cell (p := ⟨w4.heap.size, 0, none⟩) (by first | assumption | (simp; omega) | simp)).trans (by first | assumption | go_simp)
         replace zzp0 : w.heap.size < w6.heap.size := by have hsz := hb.size; (try simp at hsz); omega
         replace zzx0 : w4.heap.size < w6.heap.size := by have hsz := hb.size; (try simp at hsz); omega
         replace HB : Hid (Below w.heap.size w w6) := HB.out.trans (hb.mono HB.out.size)
         replace HAx0 : Hid (Below w4.heap.size w4 w6) := HAx0.out.trans (hb.mono HAx0.out.size)
         have hs6 : w5.heap.size ≤ w6.heap.size := by have hsz := hb.size; (try simp at hsz); omega
         have HYY : Hid (Lst w6 vy (strs l0)) := Lst.of_own hoy
         clear hb hoy)
      | (go_at_call 30
         refine (eqSubst_same l0 _ _ _ ((Lst.of_own HXx0.out).below HAx0.out) HYY.out).mono ?_
         rintro e w7 ⟨rfl, hb⟩
         replace ccp0 : w7.cell? ⟨w.heap.size, 0, none⟩ = some (.slice A0 l0.length cp0) := (hb.cell (p := ⟨w.heap.size, 0, none⟩) (by first | assumption | (simp; omega) | simp)).trans (by first | assumption | go_simp)
         replace ccx0 : w7.cell? ⟨w4.heap.size, 0, none⟩ = some (.slice Ax0 (l0).length cx0) := (hb.cell (p := ⟨w4.heap.size, 0, none⟩) (by first | assumption | (simp; omega) | simp)).trans (by first | assumption | go_simp)
         replace zzp0 : w.heap.size < w7.heap.size := by have hsz := hb.size; (try simp at hsz); omega
         replace zzx0 : w4.heap.size < w7.heap.size := by have hsz := hb.size; (try simp at hsz); omega
         replace HB : Hid (Below w.heap.size w w7) := HB.out.trans (hb.mono HB.out.size)
         replace HAx0 : Hid (Below w4.heap.size w4 w7) := HAx0.out.trans (hb.mono HAx0.out.size)
         have hs7 : w6.heap.size ≤ w7.heap.size := by have hsz := hb.size; (try simp at hsz); omega
         clear hb HYY))
    all_goals
      go_wp2_with fail
      go_ret
      exact ⟨rfl, HB.out⟩
  · go_enter Try.func6, Try.ntmps6
    go_wp2_with fail
    go_ret
    exact ⟨rfl, HB.out⟩

set_option maxRecDepth 100000 in
theorem fnExactIsFixedStart_walk {H : Type} {enc : TypeId × Value → H} {base : Nat} {r : Reach} {b0 : Nat} {d0 : DataW H} {ps0 : List MemPlace} (v0 : Value) (a1 : ByteArray) (w : World) (hval0 : Value.okWide Try.prog w r b0 39 v0) (h0 : DataW.Trod enc Try.prog w base (fun _ => true) true 39 v0 d0 ps0) (b1 : a1.size ≤ maxLen) :
    Calls Try.prog 6 #[v0, .string a1] w fun e w' => e = .returned (.bool true) ∧ Below w.heap.size w w' := by
  obtain ⟨u0, l0, rfl, hl0, hz0⟩ := subst_arg Try.underlying39 (by kernel_rfl) rfl (by kernel_rfl) Try.underlying22 Try.underlying9 cellsOf_str hval0 h0
  exact fnExactIsFixedStart_walk0 l0 u0 a1 w hl0 hz0 b1

set_option maxRecDepth 100000 in
theorem fnExactIsFixedStart_row (os : Os) (started : os.Started) (H : Type) (enc : TypeId × Value → H) :
    ReturnsInHanded {} Try.checked os 6 .any (Rows.fnExactIsFixedStartSpec.pre6 enc Try.prog Try.f6 Rows.fnExactIsFixedStartRow.domain false) (Rows.fnExactIsFixedStartSpec.post enc Try.prog Try.f6 false true false false) :=
  lawLifted (C := Try.checked) ownKnobs started (by kernel_rfl) Try.func6 laidOut (by kernel_rfl) (by kernel_rfl) Try.underlying4 rfl
    (fun ds h => by match ds, h with | [_, _], _ => rfl)
    (ChangeSpec.witness6 (enc := enc) (C := Try.checked) false ⟨#[], #[.agg #[.slice none 0 0], .string ⟨#[]⟩], []⟩ 8 (by kernel_rfl) (by kernel_rfl) (by kernel_rfl) (by kernel_rfl))
    (fun W base args ds p hval0 hA0 hlt => by
      have hval : ∀ (j : Nat) t v, Try.f6.params[j]? = some t → args[j]? = some v → Value.okWide Try.prog W .any base t v := hval0
      have hA : DataW.TrodAll enc Try.prog W 0 (fun _ => true) true Try.f6.params.toList args.toList ds p := hA0
      clear hval0 hA0
      rw [Try.params6] at hA hval
      obtain ⟨v0, v1, d0, d1, p0, p1, rfl, rfl, rfl, h0, h1⟩ := trodAll_two hA
      obtain ⟨a1, rfl, rfl, rfl, b1⟩ := open_string Try.underlying9 (hval 1 9 v1 rfl rfl) h1
      exact fnExactIsFixedStart_walk v0 a1 W (hval 0 39 v0 rfl rfl) h0 b1)

theorem fnExactIsFixedStart_holds : Rows.FnExactIsFixedStartSaid :=
  OpenClaim.holds_of_wide 6 Try.f6 rfl rfl rfl rfl rfl rfl rfl ⟨rfl, rfl, rfl, rfl, rfl⟩ rfl rfl rfl rfl rfl (by kernel_rfl) Try.func6 (by kernel_rfl)
    (of_decide_eq_true (by kernel_rfl)) (by unfold Func.isWrapper; first | (rw [if_pos (by decide +kernel)]; kernel_rfl) | (rw [if_neg (by decide +kernel)]; exact ⟨rfl, rfl⟩))
    (fun os started H enc _ => fnExactIsFixedStart_row os started H enc)


end Go.Proofs.Ytbbcdeknnfghkaa
