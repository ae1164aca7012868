/- IsUniform and IsCode of the model. Conditions: lengths of at most 2^20. -/
import Derived.Test.YtgekhijjeojhaaaSubstOk
import Derived.Test.YtgekhijjeojhaaaApply
namespace Go.Proofs.Ytgekhijjeojhaaa
open Go.RowKit

/-- what IsUniform is to return -/
def firstS (l : List ByteArray) : Nat := (l.getD 0 ⟨#[]⟩).size
def unifR (l : List ByteArray) : Int := if substB l = true then (if (l.all fun x => decide (x.size = firstS l)) = true then (firstS l : Int) else 0) else -1

set_option maxHeartbeats 400000 in
theorem specIsUniform (l : List ByteArray) (v : Value) (w : World) (h : Lst w v (strs l)) (hz : ∀ x ∈ l, x.size ≤ 1048576) (hn : l.length ≤ 1048576) :
    Calls Try.prog 26 #[.agg #[v]] w fun e w' => e = .returned (.int .i64 (unifR l)) ∧ Below w.heap.size w w' := by
  obtain ⟨A, cp, rfl⟩ := lst_slice h
  rw [strs_length] at h ⊢
  have hb0 : Below w.heap.size w (w.alloc (.cells #[.slice A l.length cp] 27)) := (Below.refl _ _).alloc (Nat.le_refl _) _
  have HL := Lib.hid (h.below hb0)
  have HZ := Lib.hid hz
  have HB0 := Lib.hid hb0
  clear h hz hb0
  by_cases h1 : substB l = true
  · obtain ⟨hl1, hl4, hl5⟩ := subst_parts h1
    have HI := Lib.hid hl5
    have hp : 0 < l.length := by omega
    have hfirst : firstS l = l[0].size := by
      unfold firstS
      rw [List.getD_eq_getElem?_getD, List.getElem?_eq_getElem hp]
      rfl
    have HF := Lib.hid hfirst
    have HR : Hid (unifR l = if (l.all fun x => decide (x.size = firstS l)) = true then (firstS l : Int) else 0) := if_pos h1
    clear hl5 hfirst
    go_enter Try.func26, Try.ntmps26
    go_wp2_with fail
    refine (specSubstOk l _ _ HL.out HZ.out hn).mono ?_
    rintro e w1 ⟨rfl, hb1⟩
    obtain ⟨hc, hf⟩ := below_reads hb1
    have c0 : w1.cell? ⟨w.heap.size, 0, none⟩ = some (.slice A l.length cp) := by rw [hc _ _ (by simp)]; go_simp
    have HB2 : Hid (Below w.heap.size w w1) := HB0.out.trans (hb1.mono (by simp))
    obtain ⟨b, off, cp', hv, hat⟩ := lst_at (HL.out.below hb1) hp
    injection hv with hA _ hcp
    subst hA; subst hcp
    have HAT := Lib.hid hat
    have g0 : w1.cell? ⟨b, off, none⟩ = some (.string l[0]) := hat 0 hp
    have hs0 := (img_parts (HI.out 0 hp)).2.1
    clear hb1 hc hf hat
    go_wp2_with fail
    go_loop [11] (fun i => ∃ k : Nat, k ≤ l.length ∧ i = .int .i64 k ∧ ((l.take k).all fun x => decide (x.size = firstS l)) = true) (fun i => l.length - (intOf i).toNat)
    case atStart => exact ⟨0, Nat.zero_le _, rfl, rfl⟩
    case round =>
      obtain ⟨k, hk, rfl, ha⟩ := hrel
      have HA := Lib.hid ha
      clear ha
      by_cases hlt : k < l.length
      · have g1 := HAT.out k hlt
        have hs1 := (img_parts (HI.out k hlt)).2.1
        by_cases he : l[k].size = l[0].size
        · have b1 : ((l[k].size : Int) != (l[0].size : Int)) = false := by rw [he]; simp
          have HE := Lib.hid he
          clear he
          go_wp2_with fail
          go_round
          case rel => exact ⟨k + 1, by omega, by go_num, lall_snoc l k hlt HA.out (by rw [HF.out]; exact decide_eq_true HE.out)⟩
          case measure => simp [intOf]; omega
        · have b1 : ((l[k].size : Int) != (l[0].size : Int)) = true := by rw [bne_iff_ne]; omega
          have HV : Hid (unifR l = 0) := by
            show unifR l = 0
            rw [HR.out, if_neg]
            rw [lall_no l k hlt (by rw [HF.out]; exact decide_eq_false he)]
            decide
          clear he
          go_wp2_with fail
          go_ret
          exact ⟨ret_int HV.out.symm, HB2.out⟩
      · have hk' : k = l.length := by omega
        have HV : Hid (unifR l = (l[0].size : Int)) := by
          show unifR l = _
          rw [HR.out, if_pos (lall_end l (hk' ▸ HA.out)), HF.out]
        clear hk'
        go_wp2_with fail
        go_ret
        exact ⟨ret_int HV.out.symm, HB2.out⟩
  · have h1' : substB l = false := by simpa using h1
    have HR : Hid (unifR l = -1) := if_neg h1
    clear h1
    go_enter Try.func26, Try.ntmps26
    go_wp2_with fail
    refine (specSubstOk l _ _ HL.out HZ.out hn).mono ?_
    rintro e w1 ⟨rfl, hb1⟩
    have HB2 : Hid (Below w.heap.size w w1) := HB0.out.trans (hb1.mono (by simp))
    clear hb1
    go_wp2_with fail
    go_ret
    exact ⟨ret_int HR.out.symm, HB2.out⟩
end Go.Proofs.Ytgekhijjeojhaaa
