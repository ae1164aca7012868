/- FormatSubst and ParseSubst of the program. Conditions: lengths of at most 2^20. -/
import Derived.Test.YtgekhijjeojhaaaFormat
import Derived.Test.YtgekhijjeojhaaaSubI
import Derived.Test.YtgekhijjeojhaaaJoinParts
import Derived.Test.YtgekhijjeojhaaaSplitI
import Derived.Test.YtgekhijjeojhaaaSplitJoin
namespace Go.Proofs.Ytgekhijjeojhaaa
open Go.RowKit

theorem implFormatSubst (l : List ByteArray) (v : Value) (w : World) (h : Lst w v (strs l)) (hz : ∀ x ∈ l, x.size ≤ 1048576) (hn : l.length ≤ 1048576) :
    Calls Try.prog 33 #[.agg #[v]] w fun e w' => e = .returned (.string (fmtR l)) ∧ Below w.heap.size w w' := by
  obtain ⟨A, cp, rfl⟩ := lst_slice h
  rw [strs_length] at h ⊢
  have hb0 : Below w.heap.size w (w.alloc (.cells #[.slice A l.length cp] 27)) := (Below.refl _ _).alloc (Nat.le_refl _) _
  have HL := Lib.hid (h.below hb0)
  have HZ := Lib.hid hz
  have HB0 := Lib.hid hb0
  clear h hz hb0
  by_cases h1 : substB l = true
  · have ht := subst_total h1
    have HR : Hid (fmtR l = joinS l ⟨#[44]⟩) := if_pos h1
    have HJ : Hid ((joinS l ⟨#[44]⟩).size ≤ 140737488355328) := by
      show (joinS l ⟨#[44]⟩).size ≤ 140737488355328
      have := joinS_size l ⟨#[44]⟩
      have e : (⟨#[44]⟩ : ByteArray).size = 1 := rfl
      rw [e] at this
      omega
    go_enter Try.func33, Try.ntmps33
    go_wp2_with fail
    refine (implSubstOk l _ _ HL.out HZ.out hn).mono ?_
    rintro e w1 ⟨rfl, hb1⟩
    have c0 : w1.cell? ⟨w.heap.size, 0, none⟩ = some (.slice A l.length cp) := (hb1.cell (p := ⟨w.heap.size, 0, none⟩) (by simp)).trans (by go_simp)
    have HB1 := Lib.hid hb1
    have HB2 : Hid (Below w.heap.size w w1) := HB0.out.trans (hb1.mono (by simp))
    clear hb1
    go_wp2_with fail
    refine (implJoin_any l ⟨#[44]⟩ _ _ (HL.out.below HB1.out) (by omega) HJ.out).mono ?_
    rintro e w2 ⟨rfl, hb2⟩
    have HB3 : Hid (Below w.heap.size w w2) := HB2.out.trans (hb2.mono HB2.out.size)
    clear hb2
    go_wp2_with fail
    go_ret
    exact ⟨ret_str HR.out.symm, HB3.out⟩
  · have h1' : substB l = false := by simpa using h1
    have HR : Hid (fmtR l = ⟨#[]⟩) := if_neg h1
    clear h1
    go_enter Try.func33, Try.ntmps33
    go_wp2_with fail
    refine (implSubstOk l _ _ HL.out HZ.out hn).mono ?_
    rintro e w1 ⟨rfl, hb1⟩
    have HB2 : Hid (Below w.heap.size w w1) := HB0.out.trans (hb1.mono (by simp))
    clear hb1
    go_wp2_with fail
    go_ret
    exact ⟨ret_str HR.out.symm, HB2.out⟩

/-- a valid list of parts is written as the text that it was cut from, which is short -/
theorem parseOk_eq (t : ByteArray) : parseOk t = substB (splitL t ⟨#[44]⟩) := by
  unfold parseOk
  by_cases h : substB (splitL t ⟨#[44]⟩) = true
  · have e : fmtR (splitL t ⟨#[44]⟩) = t := by
      unfold fmtR
      rw [if_pos h, split_join]
    have h1 := subst_total h
    have h2 := joinS_size (splitL t ⟨#[44]⟩) ⟨#[44]⟩
    rw [split_join] at h2
    have e1 : (⟨#[44]⟩ : ByteArray).size = 1 := rfl
    rw [e1] at h2
    rw [h, decide_eq_true e, decide_eq_true (show t.size ≤ 40 by omega)]
    rfl
  · rw [show substB (splitL t ⟨#[44]⟩) = false by simpa using h]
    simp

set_option maxHeartbeats 400000 in
theorem implParseSubst (t : ByteArray) (w : World) (ht : t.size ≤ 1048576) :
    Calls Try.prog 35 #[.string t] w (SubSaid (parseSub t) (parseOk t) w) := by
  have HB0 : Hid (Below w.heap.size w (w.alloc (.cells #[.slice none 0 0] 27))) := (Below.refl _ _).alloc (Nat.le_refl _) _
  have hs1 := splitL_length t ⟨#[44]⟩
  have HSM := Lib.hid (splitL_small t ⟨#[44]⟩)
  have HSP := Lib.hid (fun w => implSplitAny t ⟨#[44]⟩ w ht)
  have HOKS := Lib.hid (parseOk_eq t)
  have HSUB : Hid (parseOk t = true → parseSub t = splitL t ⟨#[44]⟩) := fun h => if_pos h
  have HSUB2 : Hid (parseOk t = false → parseSub t = []) := fun h => if_neg (by rw [h]; decide)
  generalize splitL t ⟨#[44]⟩ = l at hs1 HSM HSP HOKS HSUB HSUB2
  go_enter Try.func35, Try.ntmps35
  go_wp2_with fail
  refine (HSP.out _).mono ?_
  rintro e w1 ⟨v, rfl, ho, hb1⟩
  obtain ⟨A, cp, rfl⟩ := own_slice ho
  have c1 : w1.cell? ⟨w.heap.size, 0, none⟩ = some (.slice none 0 0) := (hb1.cell (p := ⟨w.heap.size, 0, none⟩) (by simp)).trans (by go_simp)
  have f1 : w1.frozen? ⟨w.heap.size, 0, none⟩ = false := (hb1.frozen (p := ⟨w.heap.size, 0, none⟩) (by simp)).trans (by go_simp)
  have hz1 : w.heap.size < w1.heap.size := by have := hb1.size; simp at this; omega
  have HB1 : Hid (Below w.heap.size w w1) := HB0.out.trans (hb1.mono (by simp))
  have HO : Hid (w1.ownsRow (w.heap.size + 1) 9 1 (.slice A l.length cp) l.length (strs l)) := own_mono ho (by simp)
  have hbd := build_sub A l.length cp
  have hbz := build_zero
  by_cases hll : l.length ≤ 2097152
  · have HZ : Hid (∀ x ∈ l, x.size ≤ 1048576) := fun x hx => by have := HSM.out x hx; omega
    clear ho hb1
    go_wp2_with fail
    refine (implSubstOkL l _ _ ((Lst.of_own HO.out).below ((Below.refl _ _).alloc (Nat.le_refl _) _)) HZ.out hll).mono ?_
    rintro e w2 ⟨rfl, hb2⟩
    have c2 : w2.cell? ⟨w.heap.size, 0, none⟩ = some (.slice none 0 0) := (hb2.cell (p := ⟨w.heap.size, 0, none⟩) (by simp; omega)).trans (by go_simp)
    have f2 : w2.frozen? ⟨w.heap.size, 0, none⟩ = false := (hb2.frozen (p := ⟨w.heap.size, 0, none⟩) (by simp; omega)).trans (by go_simp)
    have d2 : w2.cell? ⟨w1.heap.size, 0, none⟩ = some (.slice A l.length cp) := (hb2.cell (p := ⟨w1.heap.size, 0, none⟩) (by simp)).trans (by go_simp)
    have hz2 : w1.heap.size < w2.heap.size := by have := hb2.size; simp at this; omega
    have HB2 : Hid (Below w.heap.size w w2) := (HB1.out.alloc (by omega) _).trans (hb2.mono (by simp; omega))
    have HO2 : Hid (w2.ownsRow (w.heap.size + 1) 9 1 (.slice A l.length cp) l.length (strs l)) := own_below (HO.out.alloc _) hb2
    clear hb2 c1 f1
    by_cases h1 : substB l = true
    · have HOK : Hid (parseOk t = true) := by show parseOk t = true; rw [HOKS.out, h1]
      have HSB : Hid (parseSub t = l) := HSUB.out HOK.out
      go_wp2_with fail
      refine bodyPost_ret (v := .tuple #[.agg #[.slice A l.length cp], .bool true]) (by simp [results, Try.results35, go_sem, c2]) rfl ⟨.slice A l.length cp, ?_, ?_, ?_⟩
      · rw [HOK.out]
      · rw [HSB.out]
        exact own_mono (own_setCell (B := w.heap.size + 1) HO2.out (by simp) _) (by omega)
      · exact HB2.out.setCell (by simp) _
    · have h1' : substB l = false := by simpa using h1
      have HOK : Hid (parseOk t = false) := by show parseOk t = false; rw [HOKS.out, h1']
      have HSB : Hid (parseSub t = []) := HSUB2.out HOK.out
      clear h1
      go_wp2_with fail
      refine bodyPost_ret (v := .tuple #[.agg #[.slice none 0 0], .bool false]) (by simp [results, Try.results35, go_sem, c2]) rfl ⟨.slice none 0 0, ?_, ?_, ?_⟩
      · rw [HOK.out]
      · rw [HSB.out]
        exact World.ownsRow_nil _ _ _ _
      · exact HB2.out.setCell (by simp) _
  · omega
end Go.Proofs.Ytgekhijjeojhaaa
