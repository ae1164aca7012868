/- FnExactParseSubst: for every argument the law returns true and its arguments read as before. No condition. -/
import Derived.Test.YtgekhijjeojhaaaOwn
import Derived.Test.YtgekhijjeojhaaaSubstArgs
import Derived.Deep.RegionWith
import Derived.Test.YtgekhijjeojhaaaFormat
import Derived.Test.YtgekhijjeojhaaaFormatI
namespace Go.Proofs.Ytgekhijjeojhaaa
open Go.ChangeShapes Go.WideShapes Go.ChangeAt Go.RowKit
open Go.ChangeMaps (open_string shut_string)

set_option maxHeartbeats 4000000 in
set_option maxRecDepth 100000 in
theorem fnExactParseSubst_walk (a0 : ByteArray) (w : World) (b0 : a0.size ≤ maxLen) :
    Calls Try.prog 11 #[.string a0] w fun e w' => e = .returned (.bool true) ∧ Below w.heap.size w w' := by
  unfold maxLen at b0
  have hres := parseSub_le a0
  have hb0 : Below w.heap.size w w := (Below.refl w.heap.size w)
  have HB : Hid (Below w.heap.size w w) := hb0
  clear hb0
  by_cases h0 : a0.size ≤ 1048576
  · skip
    go_enter Try.func11, Try.ntmps11
    go_wp2_with fail
    refine (specParseSubst a0 _ h0).mono ?_
    rintro e w1 ⟨vw, rfl, ho, hb⟩
    obtain ⟨Aw, cpw, rfl⟩ := own_slice ho
    have LOw : Hid (∀ k, Value.ownBlock (.slice Aw (parseSub a0).length cpw) = some k → w.heap.size ≤ k ∧ k < w1.heap.size) := fun k hk => by have hlk := ho.lt k hk; (try simp at hlk); omega
    replace HB : Hid (Below w.heap.size w w1) := HB.out.trans (hb.mono (HB.out.size))
    have hs1 : w.heap.size ≤ w1.heap.size := by have hsz := hb.size; (try simp at hsz); omega
    have HGw : Hid (w1.ownsRow w.heap.size 9 1 (.slice Aw (parseSub a0).length cpw) (parseSub a0).length (strs (parseSub a0))) := ho
    clear hb ho
    go_wp2_with fail
    have hbA : Below w1.heap.size w1 (w1.alloc (.cells #[.slice Aw (parseSub a0).length cpw] 27)) := (Below.refl _ _).alloc (Nat.le_refl _) _
    replace HGw : Hid ((w1.alloc (.cells #[.slice Aw (parseSub a0).length cpw] 27)).ownsRow w.heap.size 9 1 (.slice Aw (parseSub a0).length cpw) (parseSub a0).length (strs (parseSub a0))) := own_below HGw.out hbA
    replace HB : Hid (Below w.heap.size w (w1.alloc (.cells #[.slice Aw (parseSub a0).length cpw] 27))) := HB.out.trans (hbA.mono (HB.out.size))
    clear hbA
    refine (implParseSubst a0 _ h0).mono ?_
    rintro e w2 ⟨vg, rfl, ho, hb⟩
    obtain ⟨Ag, cpg, rfl⟩ := own_slice ho
    have LOg : Hid (∀ k, Value.ownBlock (.slice Ag (parseSub a0).length cpg) = some k → w1.heap.size + 1 ≤ k ∧ k < w2.heap.size) := fun k hk => by have hlk := ho.lt k hk; (try simp at hlk); omega
    have ccw : w2.cell? ⟨w1.heap.size, 0, none⟩ = some (.slice Aw (parseSub a0).length cpw) := (hb.cell (p := ⟨w1.heap.size, 0, none⟩) (by first | assumption | (simp; omega) | simp)).trans (by first | assumption | go_simp)
    have zzw : w1.heap.size < w2.heap.size := by have hsz := hb.size; (try simp at hsz); omega
    replace HGw : Hid (w2.ownsRow w.heap.size 9 1 (.slice Aw (parseSub a0).length cpw) (parseSub a0).length (strs (parseSub a0))) := own_below HGw.out hb
    replace HB : Hid (Below w.heap.size w w2) := HB.out.trans (hb.mono (HB.out.size))
    have hs2 : w1.heap.size + 1 ≤ w2.heap.size := by have hsz := hb.size; (try simp at hsz); omega
    have HGg : Hid (w2.ownsRow (w1.alloc (.cells #[.slice Aw (parseSub a0).length cpw] 27)).heap.size 9 1 (.slice Ag (parseSub a0).length cpg) (parseSub a0).length (strs (parseSub a0))) := ho
    clear hb ho
    go_wp2_with fail
    have hbA : Below w2.heap.size w2 (w2.alloc (.cells #[.slice Ag (parseSub a0).length cpg] 27)) := (Below.refl _ _).alloc (Nat.le_refl _) _
    replace HGw : Hid ((w2.alloc (.cells #[.slice Ag (parseSub a0).length cpg] 27)).ownsRow w.heap.size 9 1 (.slice Aw (parseSub a0).length cpw) (parseSub a0).length (strs (parseSub a0))) := own_below HGw.out hbA
    replace HGg : Hid ((w2.alloc (.cells #[.slice Ag (parseSub a0).length cpg] 27)).ownsRow (w1.alloc (.cells #[.slice Aw (parseSub a0).length cpw] 27)).heap.size 9 1 (.slice Ag (parseSub a0).length cpg) (parseSub a0).length (strs (parseSub a0))) := own_below HGg.out hbA
    replace HB : Hid (Below w.heap.size w (w2.alloc (.cells #[.slice Ag (parseSub a0).length cpg] 27))) := HB.out.trans (hbA.mono (HB.out.size))
    clear hbA
    refine (eqSubst_same (parseSub a0) _ _ _ (Lst.of_own HGg.out) (Lst.of_own HGw.out)).mono ?_
    rintro e w3 ⟨rfl, hb⟩
    replace ccw : w3.cell? ⟨w1.heap.size, 0, none⟩ = some (.slice Aw (parseSub a0).length cpw) := (hb.cell (p := ⟨w1.heap.size, 0, none⟩) (by first | assumption | (simp; omega) | simp)).trans (by first | assumption | go_simp)
    have ccg : w3.cell? ⟨w2.heap.size, 0, none⟩ = some (.slice Ag (parseSub a0).length cpg) := (hb.cell (p := ⟨w2.heap.size, 0, none⟩) (by first | assumption | (simp; omega) | simp)).trans (by first | assumption | go_simp)
    replace zzw : w1.heap.size < w3.heap.size := by have hsz := hb.size; (try simp at hsz); omega
    have zzg : w2.heap.size < w3.heap.size := by have hsz := hb.size; (try simp at hsz); omega
    replace HGw : Hid (w3.ownsRow w.heap.size 9 1 (.slice Aw (parseSub a0).length cpw) (parseSub a0).length (strs (parseSub a0))) := own_below HGw.out hb
    replace HGg : Hid (w3.ownsRow (w1.alloc (.cells #[.slice Aw (parseSub a0).length cpw] 27)).heap.size 9 1 (.slice Ag (parseSub a0).length cpg) (parseSub a0).length (strs (parseSub a0))) := own_below HGg.out hb
    replace HB : Hid (Below w.heap.size w w3) := HB.out.trans (hb.mono (HB.out.size))
    have hs3 : w2.heap.size + 1 ≤ w3.heap.size := by have hsz := hb.size; (try simp at hsz); omega
    clear hb
    go_wp2_with fail
    refine (markSubst_own ((w1.alloc (.cells #[.slice Aw (parseSub a0).length cpw] 27)).heap.size) _ 1 (parseSub a0).length _ _ (by omega) (by omega) HGg.out).mono ?_
    rintro e w4 ⟨rfl, ho, hg⟩
    replace ccw : w4.cell? ⟨w1.heap.size, 0, none⟩ = some (.slice Aw (parseSub a0).length cpw) := grown_cell hg ccw (fun h => by have := LOg.out _ h; omega)
    replace ccg : w4.cell? ⟨w2.heap.size, 0, none⟩ = some (.slice Ag (parseSub a0).length cpg) := grown_cell hg ccg (fun h => by have := LOg.out _ h; omega)
    replace zzw : w1.heap.size < w4.heap.size := Nat.lt_of_lt_of_le zzw hg.size
    replace zzg : w2.heap.size < w4.heap.size := Nat.lt_of_lt_of_le zzg hg.size
    replace HGw : Hid (w4.ownsRow w.heap.size 9 1 (.slice Aw (parseSub a0).length cpw) (parseSub a0).length (strs (parseSub a0))) := own_apart HGw.out hg (fun k h1 h2 => by have := LOw.out k h1; have := LOg.out k h2; omega)
    replace HB : Hid (Below w.heap.size w w4) := HB.out.grown hg (HB.out.size) (fun k h => by have := LOg.out k h; omega)
    have hs4 : w3.heap.size ≤ w4.heap.size := by have hsz := hg.size; (try simp at hsz); omega
    have HM : Hid (Lst w4 (.slice Ag (parseSub a0).length cpg) (strs (marks 1 (parseSub a0).length))) := Lst.of_own ho
    clear hg ho HGg
    go_wp2_with fail
    refine (heldSubst_marks _ 1 (parseSub a0).length _ (by omega) (by omega) HM.out).mono ?_
    rintro e w5 ⟨rfl, hb⟩
    replace ccw : w5.cell? ⟨w1.heap.size, 0, none⟩ = some (.slice Aw (parseSub a0).length cpw) := (hb.cell (p := ⟨w1.heap.size, 0, none⟩) (by first | assumption | (simp; omega) | simp)).trans (by first | assumption | go_simp)
    replace ccg : w5.cell? ⟨w2.heap.size, 0, none⟩ = some (.slice Ag (parseSub a0).length cpg) := (hb.cell (p := ⟨w2.heap.size, 0, none⟩) (by first | assumption | (simp; omega) | simp)).trans (by first | assumption | go_simp)
    replace zzw : w1.heap.size < w5.heap.size := by have hsz := hb.size; (try simp at hsz); omega
    replace zzg : w2.heap.size < w5.heap.size := by have hsz := hb.size; (try simp at hsz); omega
    replace HM : Hid (Lst w5 (.slice Ag (parseSub a0).length cpg) (strs (marks 1 (parseSub a0).length))) := HM.out.below hb
    replace HGw : Hid (w5.ownsRow w.heap.size 9 1 (.slice Aw (parseSub a0).length cpw) (parseSub a0).length (strs (parseSub a0))) := own_below HGw.out hb
    replace HB : Hid (Below w.heap.size w w5) := HB.out.trans (hb.mono (HB.out.size))
    have hs5 : w4.heap.size ≤ w5.heap.size := by have hsz := hb.size; (try simp at hsz); omega
    clear hb
    go_wp2_with fail
    refine (implParseSubst a0 _ h0).mono ?_
    rintro e w6 ⟨vh, rfl, ho, hb⟩
    obtain ⟨Ah, cph, rfl⟩ := own_slice ho
    have LOh : Hid (∀ k, Value.ownBlock (.slice Ah (parseSub a0).length cph) = some k → w5.heap.size ≤ k ∧ k < w6.heap.size) := fun k hk => by have hlk := ho.lt k hk; (try simp at hlk); omega
    replace ccw : w6.cell? ⟨w1.heap.size, 0, none⟩ = some (.slice Aw (parseSub a0).length cpw) := (hb.cell (p := ⟨w1.heap.size, 0, none⟩) (by first | assumption | (simp; omega) | simp)).trans (by first | assumption | go_simp)
    replace ccg : w6.cell? ⟨w2.heap.size, 0, none⟩ = some (.slice Ag (parseSub a0).length cpg) := (hb.cell (p := ⟨w2.heap.size, 0, none⟩) (by first | assumption | (simp; omega) | simp)).trans (by first | assumption | go_simp)
    replace zzw : w1.heap.size < w6.heap.size := by have hsz := hb.size; (try simp at hsz); omega
    replace zzg : w2.heap.size < w6.heap.size := by have hsz := hb.size; (try simp at hsz); omega
    replace HM : Hid (Lst w6 (.slice Ag (parseSub a0).length cpg) (strs (marks 1 (parseSub a0).length))) := HM.out.below hb
    replace HGw : Hid (w6.ownsRow w.heap.size 9 1 (.slice Aw (parseSub a0).length cpw) (parseSub a0).length (strs (parseSub a0))) := own_below HGw.out hb
    replace HB : Hid (Below w.heap.size w w6) := HB.out.trans (hb.mono (HB.out.size))
    have hs6 : w5.heap.size ≤ w6.heap.size := by have hsz := hb.size; (try simp at hsz); omega
    have HGh : Hid (w6.ownsRow w5.heap.size 9 1 (.slice Ah (parseSub a0).length cph) (parseSub a0).length (strs (parseSub a0))) := ho
    clear hb ho
    go_wp2_with fail
    have hbA : Below w6.heap.size w6 (w6.alloc (.cells #[.slice Ah (parseSub a0).length cph] 27)) := (Below.refl _ _).alloc (Nat.le_refl _) _
    replace HM : Hid (Lst (w6.alloc (.cells #[.slice Ah (parseSub a0).length cph] 27)) (.slice Ag (parseSub a0).length cpg) (strs (marks 1 (parseSub a0).length))) := HM.out.below hbA
    replace HGw : Hid ((w6.alloc (.cells #[.slice Ah (parseSub a0).length cph] 27)).ownsRow w.heap.size 9 1 (.slice Aw (parseSub a0).length cpw) (parseSub a0).length (strs (parseSub a0))) := own_below HGw.out hbA
    replace HGh : Hid ((w6.alloc (.cells #[.slice Ah (parseSub a0).length cph] 27)).ownsRow w5.heap.size 9 1 (.slice Ah (parseSub a0).length cph) (parseSub a0).length (strs (parseSub a0))) := own_below HGh.out hbA
    replace HB : Hid (Below w.heap.size w (w6.alloc (.cells #[.slice Ah (parseSub a0).length cph] 27))) := HB.out.trans (hbA.mono (HB.out.size))
    clear hbA
    refine (eqSubst_same (parseSub a0) _ _ _ (Lst.of_own HGh.out) (Lst.of_own HGw.out)).mono ?_
    rintro e w7 ⟨rfl, hb⟩
    replace ccw : w7.cell? ⟨w1.heap.size, 0, none⟩ = some (.slice Aw (parseSub a0).length cpw) := (hb.cell (p := ⟨w1.heap.size, 0, none⟩) (by first | assumption | (simp; omega) | simp)).trans (by first | assumption | go_simp)
    replace ccg : w7.cell? ⟨w2.heap.size, 0, none⟩ = some (.slice Ag (parseSub a0).length cpg) := (hb.cell (p := ⟨w2.heap.size, 0, none⟩) (by first | assumption | (simp; omega) | simp)).trans (by first | assumption | go_simp)
    have cch : w7.cell? ⟨w6.heap.size, 0, none⟩ = some (.slice Ah (parseSub a0).length cph) := (hb.cell (p := ⟨w6.heap.size, 0, none⟩) (by first | assumption | (simp; omega) | simp)).trans (by first | assumption | go_simp)
    replace zzw : w1.heap.size < w7.heap.size := by have hsz := hb.size; (try simp at hsz); omega
    replace zzg : w2.heap.size < w7.heap.size := by have hsz := hb.size; (try simp at hsz); omega
    have zzh : w6.heap.size < w7.heap.size := by have hsz := hb.size; (try simp at hsz); omega
    replace HM : Hid (Lst w7 (.slice Ag (parseSub a0).length cpg) (strs (marks 1 (parseSub a0).length))) := HM.out.below hb
    replace HGw : Hid (w7.ownsRow w.heap.size 9 1 (.slice Aw (parseSub a0).length cpw) (parseSub a0).length (strs (parseSub a0))) := own_below HGw.out hb
    replace HGh : Hid (w7.ownsRow w5.heap.size 9 1 (.slice Ah (parseSub a0).length cph) (parseSub a0).length (strs (parseSub a0))) := own_below HGh.out hb
    replace HB : Hid (Below w.heap.size w w7) := HB.out.trans (hb.mono (HB.out.size))
    have hs7 : w6.heap.size + 1 ≤ w7.heap.size := by have hsz := hb.size; (try simp at hsz); omega
    clear hb
    go_wp2_with fail
    refine (heldSubst_marks _ 1 (parseSub a0).length _ (by omega) (by omega) HM.out).mono ?_
    rintro e w8 ⟨rfl, hb⟩
    replace ccw : w8.cell? ⟨w1.heap.size, 0, none⟩ = some (.slice Aw (parseSub a0).length cpw) := (hb.cell (p := ⟨w1.heap.size, 0, none⟩) (by first | assumption | (simp; omega) | simp)).trans (by first | assumption | go_simp)
    replace ccg : w8.cell? ⟨w2.heap.size, 0, none⟩ = some (.slice Ag (parseSub a0).length cpg) := (hb.cell (p := ⟨w2.heap.size, 0, none⟩) (by first | assumption | (simp; omega) | simp)).trans (by first | assumption | go_simp)
    replace cch : w8.cell? ⟨w6.heap.size, 0, none⟩ = some (.slice Ah (parseSub a0).length cph) := (hb.cell (p := ⟨w6.heap.size, 0, none⟩) (by first | assumption | (simp; omega) | simp)).trans (by first | assumption | go_simp)
    replace zzw : w1.heap.size < w8.heap.size := by have hsz := hb.size; (try simp at hsz); omega
    replace zzg : w2.heap.size < w8.heap.size := by have hsz := hb.size; (try simp at hsz); omega
    replace zzh : w6.heap.size < w8.heap.size := by have hsz := hb.size; (try simp at hsz); omega
    replace HM : Hid (Lst w8 (.slice Ag (parseSub a0).length cpg) (strs (marks 1 (parseSub a0).length))) := HM.out.below hb
    replace HGw : Hid (w8.ownsRow w.heap.size 9 1 (.slice Aw (parseSub a0).length cpw) (parseSub a0).length (strs (parseSub a0))) := own_below HGw.out hb
    replace HGh : Hid (w8.ownsRow w5.heap.size 9 1 (.slice Ah (parseSub a0).length cph) (parseSub a0).length (strs (parseSub a0))) := own_below HGh.out hb
    replace HB : Hid (Below w.heap.size w w8) := HB.out.trans (hb.mono (HB.out.size))
    have hs8 : w7.heap.size ≤ w8.heap.size := by have hsz := hb.size; (try simp at hsz); omega
    clear hb
    go_wp2_with fail
    go_ret
    exact ⟨rfl, HB.out⟩
  · go_enter Try.func11, Try.ntmps11
    go_wp2_with fail
    go_ret
    exact ⟨rfl, HB.out⟩

set_option maxRecDepth 100000 in
theorem fnExactParseSubst_row (os : Os) (started : os.Started) (H : Type) (enc : TypeId × Value → H) :
    ReturnsInHanded {} Try.checked os 11 .any (Rows.fnExactParseSubstSpec.pre6 enc Try.prog Try.f11 Rows.fnExactParseSubstRow.domain false) (Rows.fnExactParseSubstSpec.post enc Try.prog Try.f11 false true false false) :=
  lawLifted (C := Try.checked) ownKnobs started (by kernel_rfl) Try.func11 laidOut (by kernel_rfl) (by kernel_rfl) Try.underlying4 rfl
    (fun ds h => by match ds, h with | [_], _ => rfl)
    (ChangeSpec.witness6 (enc := enc) (C := Try.checked) false ⟨#[], #[.string ⟨#[]⟩], []⟩ 8 (by kernel_rfl) (by kernel_rfl) (by kernel_rfl) (by kernel_rfl))
    (fun W base args ds p hval0 hA0 hlt => by
      have hval : ∀ (j : Nat) t v, Try.f11.params[j]? = some t → args[j]? = some v → Value.okWide Try.prog W .any base t v := hval0
      have hA : DataW.TrodAll enc Try.prog W 0 (fun _ => true) true Try.f11.params.toList args.toList ds p := hA0
      clear hval0 hA0
      rw [Try.params11] at hA hval
      obtain ⟨v0, d0, rfl, rfl, h0⟩ := trodAll_one hA
      obtain ⟨a0, rfl, rfl, rfl, b0⟩ := open_string Try.underlying9 (hval 0 9 v0 rfl rfl) h0
      exact fnExactParseSubst_walk a0 W b0)

theorem fnExactParseSubst_holds : Rows.FnExactParseSubstSaid :=
  OpenClaim.holds_of_wide 11 Try.f11 rfl rfl rfl rfl rfl rfl rfl ⟨rfl, rfl, rfl, rfl, rfl⟩ rfl rfl rfl rfl rfl (by kernel_rfl) Try.func11 (by kernel_rfl)
    (of_decide_eq_true (by kernel_rfl)) (by unfold Func.isWrapper; first | (rw [if_pos (by decide +kernel)]; kernel_rfl) | (rw [if_neg (by decide +kernel)]; exact ⟨rfl, rfl⟩))
    (fun os started H enc _ => fnExactParseSubst_row os started H enc)


end Go.Proofs.Ytgekhijjeojhaaa
