/- IsCode of the program. Conditions: lengths of at most 2^20. -/
import Derived.Test.YtgekhijjeojhaaaCode
import Derived.Test.YtgekhijjeojhaaaSubI
import Derived.Test.YtgekhijjeojhaaaCommonI
import Derived.Lib.Explode
namespace Go.Proofs.Ytgekhijjeojhaaa
open Go.RowKit

theorem lcp_pre : ∀ (l m : List UInt8), lcp l m = m.length ↔ l.take m.length = m
  | _, [] => by simp [lcp]
  | [], b :: m => by simp [lcp]
  | a :: l, b :: m => by
    have ih := lcp_pre l m
    show (if a = b then lcp l m + 1 else 0) = (b :: m).length ↔ (a :: l).take (b :: m).length = b :: m
    rw [List.length_cons, List.take_succ_cons]
    by_cases h : a = b
    · rw [if_pos h, h]
      constructor
      · intro e; rw [ih.1 (by omega)]
      · intro e; injection e with _ e; rw [ih.2 e]
    · rw [if_neg h]
      constructor
      · intro e; omega
      · intro e; injection e with e _; exact absurd e h
theorem begins_iff (s t : ByteArray) : lcp s.data.toList t.data.toList = t.size ↔ (t.size ≤ s.size ∧ s.extract 0 t.size = t) := by
  have ht : t.data.toList.length = t.size := by simp
  have hs : s.data.toList.length = s.size := by simp
  have he : (s.extract 0 t.size).data.toList = s.data.toList.take t.size := by
    rw [Lib.extract_data]
    simp
  have h1 := lcp_pre s.data.toList t.data.toList
  rw [ht] at h1
  rw [h1]
  constructor
  · intro h
    refine ⟨?_, ?_⟩
    · have := congrArg List.length h
      rw [List.length_take, ht, hs] at this
      omega
    · apply bytes_ext
      rw [ByteArray.toList_eq, ByteArray.toList_eq, he, h]
  · rintro ⟨_, h⟩
    rw [← he, h]

set_option maxHeartbeats 1000000 in
theorem implIsCode (l : List ByteArray) (v : Value) (w : World) (h : Lst w v (strs l)) (hz : ∀ x ∈ l, x.size ≤ 1048576) (hn : l.length ≤ 1048576) :
    Calls Try.prog 29 #[.agg #[v]] w fun e w' => e = .returned (.bool (codeR l)) ∧ Below w.heap.size w w' := by
  obtain ⟨A, cp, rfl⟩ := lst_slice h
  rw [strs_length] at h ⊢
  have hb0 : Below w.heap.size w (w.alloc (.cells #[.slice A l.length cp] 27)) := (Below.refl _ _).alloc (Nat.le_refl _) _
  have HL := Lib.hid (h.below hb0)
  have HZ := Lib.hid hz
  have HB0 := Lib.hid hb0
  clear h hz hb0
  by_cases h1 : substB l = true
  · obtain ⟨hl1, hl4, hl5⟩ := subst_parts h1
    have HI := Lib.hid hl5
    have hp : 0 < l.length := by omega
    have H1 := Lib.hid h1
    clear hl5
    go_enter Try.func29, Try.ntmps29
    go_wp2_with fail
    refine (implSubstOk l _ _ HL.out HZ.out hn).mono ?_
    rintro e w1 ⟨rfl, hb1⟩
    have c0 : w1.cell? ⟨w.heap.size, 0, none⟩ = some (.slice A l.length cp) := (hb1.cell (p := ⟨w.heap.size, 0, none⟩) (by simp)).trans (by go_simp)
    have HB2 : Hid (Below w.heap.size w w1) := HB0.out.trans (hb1.mono (by simp))
    obtain ⟨b, off, cp', hv, hat⟩ := lst_at (HL.out.below hb1) hp
    injection hv with hA _ hcp
    subst hA; subst hcp
    have HAT := Lib.hid hat
    clear hb1 hat
    go_wp2_with fail
    go_loopw [13] (fun i w' => ∃ k n : Nat, k ≤ l.length ∧ i = .int .i64 k ∧ (∀ i', i' < k → ∀ j, ¬ Begins l i' j) ∧ w' = w1.drewN n) (fun i _ => l.length - (intOf i).toNat)
    case atStart => exact ⟨0, 0, Nat.zero_le _, rfl, fun i' hi => absurd hi (by omega), rfl⟩
    case round =>
      obtain ⟨k, n, hk, rfl, ha, rfl⟩ := hrel
      have HA := Lib.hid ha
      clear ha
      have c0' : (w1.drewN n).cell? ⟨w.heap.size, 0, none⟩ = some (.slice (some ⟨b, off, none⟩) l.length cp) := c0
      by_cases hlt : k < l.length
      · have g1 : (w1.drewN n).cell? ⟨b, off + k, none⟩ = some (.string l[k]) := HAT.out k hlt
        have hs1 := (img_parts (HI.out k hlt)).2.1
        go_wp2_with fail
        go_loopw [21] (fun i w' => ∃ j n : Nat, j ≤ l.length ∧ i = .int .i64 j ∧ (∀ j', j' < j → ¬ Begins l k j') ∧ w' = w1.drewN n) (fun i _ => l.length - (intOf i).toNat)
        case atStart => exact ⟨0, n, Nat.zero_le _, rfl, fun i' hi => absurd hi (by omega), rfl⟩
        case round =>
          obtain ⟨j, n', hj, rfl, hb, rfl⟩ := hrel
          have HB := Lib.hid hb
          clear hb
          by_cases hlt2 : j < l.length
          · have g2 : (w1.drewN n').cell? ⟨b, off + j, none⟩ = some (.string l[j]) := HAT.out j hlt2
            have hs2 := (img_parts (HI.out j hlt2)).2.1
            by_cases he : k = j
            · have b1 : ((k : Int) != (j : Int)) = false := by rw [he]; simp
              have HN : Hid (¬ Begins l k j) := fun hh => hh.1 he
              clear he
              go_wp2_with fail
              go_roundw
              case rel =>
                refine ⟨j + 1, _, by omega, by go_num, fun j' hj' => ?_, rfl⟩
                by_cases e : j' = j
                · subst e; exact HN.out
                · exact HB.out j' (by omega)
              case measure => simp [intOf]; omega
            · have b1 : ((k : Int) != (j : Int)) = true := by rw [bne_iff_ne]; omega
              by_cases hx : lcp l[j].data.toList l[k].data.toList = l[k].size
              · have HN : Hid (codeR l = false) := codeR_no (i := k) (k := j) ⟨he, hlt, hlt2, (begins_iff _ _).1 hx⟩
                have b2 : ((lcp l[j].data.toList l[k].data.toList : Int) == (l[k].size : Int)) = true := by rw [hx]; simp
                clear he hx
                go_wp2_with fail
                refine (implCommon l[j] l[k] _ (by omega) (by omega)).mono ?_
                rintro e w2 ⟨rfl, m, rfl⟩
                go_wp2_with fail
                go_ret
                exact ⟨ret_bool HN.out.symm, below_drewN HB2.out _⟩
              · have HN : Hid (¬ Begins l k j) := fun ⟨_, _, _, hh⟩ => hx ((begins_iff _ _).2 hh)
                have b2 : ((lcp l[j].data.toList l[k].data.toList : Int) == (l[k].size : Int)) = false := by rw [beq_eq_false_iff_ne]; omega
                clear he hx
                go_wp2_with fail
                refine (implCommon l[j] l[k] _ (by omega) (by omega)).mono ?_
                rintro e w2 ⟨rfl, m, rfl⟩
                go_wp2_with fail
                go_roundw
                case rel =>
                  refine ⟨j + 1, _, by omega, by go_num, fun j' hj' => ?_, rfl⟩
                  by_cases e : j' = j
                  · subst e; exact HN.out
                  · exact HB.out j' (by omega)
                case measure => simp [intOf]; omega
          · have HALL : Hid (∀ j', ¬ Begins l k j') := by
              intro j' hh
              obtain ⟨_, _, hk', _⟩ := id hh
              exact HB.out j' (by omega) hh
            go_wp2_with fail
            go_roundw
            case rel =>
              refine ⟨k + 1, _, by omega, by go_num, fun i' hi' => ?_, rfl⟩
              by_cases e : i' = k
              · subst e; exact HALL.out
              · exact HA.out i' (by omega)
            case measure => simp [intOf]; omega
      · have HV : Hid (codeR l = true) := codeR_yes H1.out (fun i hi => HA.out i (by omega))
        go_wp2_with fail
        go_ret
        exact ⟨ret_bool HV.out.symm, below_drewN HB2.out _⟩
  · have h1' : substB l = false := by simpa using h1
    have HR : Hid (codeR l = false) := by show codeR l = false; unfold codeR; rw [h1', Bool.false_and]
    clear h1
    go_enter Try.func29, Try.ntmps29
    go_wp2_with fail
    refine (implSubstOk l _ _ HL.out HZ.out hn).mono ?_
    rintro e w1 ⟨rfl, hb1⟩
    have HB2 : Hid (Below w.heap.size w w1) := HB0.out.trans (hb1.mono (by simp))
    clear hb1
    go_wp2_with fail
    go_ret
    exact ⟨ret_bool HR.out.symm, HB2.out⟩
end Go.Proofs.Ytgekhijjeojhaaa
