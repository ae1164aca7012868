/- IsCode of the model. Conditions: lengths of at most 2^20. -/
import Derived.Test.YtgekhijjeojhaaaSubstOk
import Derived.Test.YtgekhijjeojhaaaApply
namespace Go.Proofs.Ytgekhijjeojhaaa
open Go.RowKit

/-- the image i begins the image k, another one -/
def Begins (l : List ByteArray) (i k : Nat) : Prop := i ≠ k ∧ ∃ (hi : i < l.length) (hk : k < l.length), l[i].size ≤ l[k].size ∧ l[k].extract 0 l[i].size = l[i]
/-- what IsCode is to return -/
noncomputable def codeR (l : List ByteArray) : Bool := substB l && @decide (¬ ∃ i k, Begins l i k) (Classical.propDecidable _)
theorem codeR_no {l : List ByteArray} {i k : Nat} (h : Begins l i k) : codeR l = false := by
  unfold codeR
  rw [@decide_eq_false _ (Classical.propDecidable _) (fun hn => hn ⟨i, k, h⟩), Bool.and_false]
theorem codeR_yes {l : List ByteArray} (h1 : substB l = true) (h : ∀ i, i < l.length → ∀ k, ¬ Begins l i k) : codeR l = true := by
  unfold codeR
  rw [h1, @decide_eq_true _ (Classical.propDecidable _)]
  · rfl
  · rintro ⟨i, k, hb⟩
    obtain ⟨_, hi, _, _⟩ := id hb
    exact h i hi k hb

theorem slice_to {P : Program} {t : TypeId} (ht : P.underlying t = some .string) (s : ByteArray) (n : Nat) (w : World) (h : n ≤ s.size) :
    (Instr.slice t (.string s) none (some (.int .i64 (n : Int))) none).run P w = .ok (.string (s.extract 0 n)) w := by
  rw [run_slice_string_to_if (P := P) w t s .i64 (n : Int) ht, if_pos ⟨by omega, by omega⟩]
  rfl

set_option maxHeartbeats 1000000 in
theorem specIsCode (l : List ByteArray) (v : Value) (w : World) (h : Lst w v (strs l)) (hz : ∀ x ∈ l, x.size ≤ 1048576) (hn : l.length ≤ 1048576) :
    Calls Try.prog 28 #[.agg #[v]] w fun e w' => e = .returned (.bool (codeR l)) ∧ Below w.heap.size w w' := by
  obtain ⟨A, cp, rfl⟩ := lst_slice h
  rw [strs_length] at h ⊢
  have hb0 : Below w.heap.size w (w.alloc (.cells #[.slice A l.length cp] 27)) := (Below.refl _ _).alloc (Nat.le_refl _) _
  have HL := Lib.hid (h.below hb0)
  have HZ := Lib.hid hz
  have HB0 := Lib.hid hb0
  clear h hz hb0
  by_cases h1 : substB l = true
  · obtain ⟨hl1, hl4, hl5⟩ := subst_parts h1
    have HI := Lib.hid hl5
    have hp : 0 < l.length := by omega
    have H1 := Lib.hid h1
    clear hl5
    go_enter Try.func28, Try.ntmps28
    go_wp2_with fail
    refine (specSubstOk l _ _ HL.out HZ.out hn).mono ?_
    rintro e w1 ⟨rfl, hb1⟩
    obtain ⟨hc, hf⟩ := below_reads hb1
    have c0 : w1.cell? ⟨w.heap.size, 0, none⟩ = some (.slice A l.length cp) := by rw [hc _ _ (by simp)]; go_simp
    have HB2 : Hid (Below w.heap.size w w1) := HB0.out.trans (hb1.mono (by simp))
    obtain ⟨b, off, cp', hv, hat⟩ := lst_at (HL.out.below hb1) hp
    injection hv with hA _ hcp
    subst hA; subst hcp
    have HAT := Lib.hid hat
    clear hb1 hc hf hat
    go_wp2_with fail
    go_loop [13] (fun i => ∃ k : Nat, k ≤ l.length ∧ i = .int .i64 k ∧ ∀ i', i' < k → ∀ j, ¬ Begins l i' j) (fun i => l.length - (intOf i).toNat)
    case atStart => exact ⟨0, Nat.zero_le _, rfl, fun i' hi => absurd hi (by omega)⟩
    case round =>
      obtain ⟨k, hk, rfl, ha⟩ := hrel
      have HA := Lib.hid ha
      clear ha
      by_cases hlt : k < l.length
      · have g1 := HAT.out k hlt
        have hs1 := (img_parts (HI.out k hlt)).2.1
        go_wp2_with fail
        go_loop [21] (fun i => ∃ j : Nat, j ≤ l.length ∧ i = .int .i64 j ∧ ∀ j', j' < j → ¬ Begins l k j') (fun i => l.length - (intOf i).toNat)
        case atStart => exact ⟨0, Nat.zero_le _, rfl, fun i' hi => absurd hi (by omega)⟩
        case round =>
          obtain ⟨j, hj, rfl, hb⟩ := hrel
          have HB := Lib.hid hb
          clear hb
          by_cases hlt2 : j < l.length
          · have g2 := HAT.out j hlt2
            have hs2 := (img_parts (HI.out j hlt2)).2.1
            by_cases he : k = j
            · have b1 : ((k : Int) != (j : Int)) = false := by rw [he]; simp
              have HN : Hid (¬ Begins l k j) := fun hh => hh.1 he
              clear he
              go_wp2_with fail
              go_round
              case rel =>
                refine ⟨j + 1, by omega, by go_num, fun j' hj' => ?_⟩
                by_cases e : j' = j
                · subst e; exact HN.out
                · exact HB.out j' (by omega)
              case measure => simp [intOf]; omega
            · have b1 : ((k : Int) != (j : Int)) = true := by rw [bne_iff_ne]; omega
              by_cases hle : l[k].size ≤ l[j].size
              · have d1 : decide ((l[k].size : Int) ≤ l[j].size) = true := by simp; omega
                have hsl := fun (w : World) => slice_to (P := Try.prog) Try.underlying9 l[j] l[k].size w hle
                by_cases hx : l[j].extract 0 l[k].size = l[k]
                · have HN : Hid (codeR l = false) := codeR_no (i := k) (k := j) ⟨he, hlt, hlt2, hle, hx⟩
                  have b2 : ((l[j].extract 0 l[k].size).toList == l[k].toList) = true := by rw [hx]; simp
                  clear he hx
                  go_wp2_with fail
                  go_ret
                  exact ⟨ret_bool HN.out.symm, HB2.out⟩
                · have HN : Hid (¬ Begins l k j) := fun ⟨_, _, _, _, hh⟩ => hx hh
                  have b2 : ((l[j].extract 0 l[k].size).toList == l[k].toList) = false := by rw [beq_eq_false_iff_ne]; exact fun hh => hx (bytes_ext hh)
                  clear he hx
                  go_wp2_with fail
                  go_round
                  case rel =>
                    refine ⟨j + 1, by omega, by go_num, fun j' hj' => ?_⟩
                    by_cases e : j' = j
                    · subst e; exact HN.out
                    · exact HB.out j' (by omega)
                  case measure => simp [intOf]; omega
              · have d1 : decide ((l[k].size : Int) ≤ l[j].size) = false := by simp; omega
                have HN : Hid (¬ Begins l k j) := fun ⟨_, _, _, hh, _⟩ => hle hh
                have hgt : l[j].size < l[k].size := by omega
                clear he hle
                go_wp2_with fail
                go_round
                case rel =>
                  refine ⟨j + 1, by omega, by go_num, fun j' hj' => ?_⟩
                  by_cases e : j' = j
                  · subst e; exact HN.out
                  · exact HB.out j' (by omega)
                case measure => simp [intOf]; omega
          · have HALL : Hid (∀ j', ¬ Begins l k j') := by
              intro j' hh
              obtain ⟨_, _, hk', _⟩ := id hh
              exact HB.out j' (by omega) hh
            go_wp2_with fail
            go_round
            case rel =>
              refine ⟨k + 1, by omega, by go_num, fun i' hi' => ?_⟩
              by_cases e : i' = k
              · subst e; exact HALL.out
              · exact HA.out i' (by omega)
            case measure => simp [intOf]; omega
      · have HV : Hid (codeR l = true) := codeR_yes H1.out (fun i hi => HA.out i (by omega))
        go_wp2_with fail
        go_ret
        exact ⟨ret_bool HV.out.symm, HB2.out⟩
  · have h1' : substB l = false := by simpa using h1
    have HR : Hid (codeR l = false) := by show codeR l = false; unfold codeR; rw [h1', Bool.false_and]
    clear h1
    go_enter Try.func28, Try.ntmps28
    go_wp2_with fail
    refine (specSubstOk l _ _ HL.out HZ.out hn).mono ?_
    rintro e w1 ⟨rfl, hb1⟩
    have HB2 : Hid (Below w.heap.size w w1) := HB0.out.trans (hb1.mono (by simp))
    clear hb1
    go_wp2_with fail
    go_ret
    exact ⟨ret_bool HR.out.symm, HB2.out⟩
end Go.Proofs.Ytgekhijjeojhaaa
