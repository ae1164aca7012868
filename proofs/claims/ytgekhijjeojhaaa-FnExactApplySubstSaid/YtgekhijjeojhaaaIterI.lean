/- ApplySubst and IterateSubst of the program. Conditions: lengths of at most 2^20. -/
import Derived.Test.YtgekhijjeojhaaaTableI
namespace Go.Proofs.Ytgekhijjeojhaaa
open Go.RowKit

set_option maxHeartbeats 1000000 in
theorem implIterateSubst (l : List ByteArray) (v : Value) (s : ByteArray) (n : Int) (w : World) (h : Lst w v (strs l)) (hz : ∀ x ∈ l, x.size ≤ 1048576) (hn : l.length ≤ 1048576) (hs : s.size ≤ 1048576) :
    Calls Try.prog 21 #[.agg #[v], .string s, .int .i64 n] w (PairSaid (itR l s n) (itOk l s n) w) := by
  obtain ⟨A, cp, rfl⟩ := lst_slice h
  rw [strs_length] at h ⊢
  have hb0 : Below w.heap.size w (w.alloc (.cells #[.slice A l.length cp] 27)) := (Below.refl _ _).alloc (Nat.le_refl _) _
  have HL := Lib.hid (h.below hb0)
  have HZ := Lib.hid hz
  have HB0 := Lib.hid hb0
  clear h hz hb0
  by_cases h1 : substB l = true
  · obtain ⟨hl1, hl4, _⟩ := subst_parts h1
    have H1 := Lib.hid h1
    by_cases h2 : (wordB s && withinB l.length s) = true
    · have H2 := Lib.hid h2
      by_cases h3 : n < 0
      · have d1 : decide (n < 0) = true := by simpa using h3
        have HNO : Hid (itOk l s n = false) := by show itOk l s n = false; unfold itOk; rw [decide_eq_false (show ¬ 0 ≤ n by omega)]; simp
        go_enter Try.func21, Try.ntmps21
        go_wp2_with fail
        refine (implSubstOk l _ _ HL.out HZ.out hn).mono ?_
        rintro e w1 ⟨rfl, hb1⟩
        have HB1 : Hid (Below w.heap.size w w1) := HB0.out.trans (hb1.mono (by simp))
        have c0 : w1.cell? ⟨w.heap.size, 0, none⟩ = some (.slice A l.length cp) := (hb1.cell (p := ⟨w.heap.size, 0, none⟩) (by simp)).trans (by go_simp)
        clear hb1
        go_wp2_with fail
        refine (implHasImages A l.length cp s _ hn hs).mono ?_
        rintro e w2 ⟨rfl, hb2⟩
        have HB2 : Hid (Below w.heap.size w w2) := HB1.out.trans (hb2.mono HB1.out.size)
        clear hb2
        go_wp2_with fail
        go_ret2
        exact itR_no HNO.out HB2.out
      · by_cases h4 : 20 < n
        · have d1 : decide (n < 0) = false := by simpa using h3
          have d2 : decide ((20 : Int) < n) = true := by simpa using h4
          have HNO : Hid (itOk l s n = false) := by show itOk l s n = false; unfold itOk; rw [decide_eq_false (show ¬ n ≤ 20 by omega)]; simp
          go_enter Try.func21, Try.ntmps21
          go_wp2_with fail
          refine (implSubstOk l _ _ HL.out HZ.out hn).mono ?_
          rintro e w1 ⟨rfl, hb1⟩
          have HB1 : Hid (Below w.heap.size w w1) := HB0.out.trans (hb1.mono (by simp))
          have c0 : w1.cell? ⟨w.heap.size, 0, none⟩ = some (.slice A l.length cp) := (hb1.cell (p := ⟨w.heap.size, 0, none⟩) (by simp)).trans (by go_simp)
          clear hb1
          go_wp2_with fail
          refine (implHasImages A l.length cp s _ hn hs).mono ?_
          rintro e w2 ⟨rfl, hb2⟩
          have HB2 : Hid (Below w.heap.size w w2) := HB1.out.trans (hb2.mono HB1.out.size)
          clear hb2
          go_wp2_with fail
          go_ret2
          exact itR_no HNO.out HB2.out
        · have d1 : decide (n < 0) = false := by simpa using h3
          have d2 : decide ((20 : Int) < n) = false := by simpa using h4
          have hww : wordB s = true ∧ withinB l.length s = true := by rw [Bool.and_eq_true] at h2; exact h2
          have HWW := Lib.hid hww
          clear hww
          go_enter Try.func21, Try.ntmps21
          go_wp2_with fail
          refine (implSubstOk l _ _ HL.out HZ.out hn).mono ?_
          rintro e w1 ⟨rfl, hb1⟩
          have HB1 : Hid (Below w.heap.size w w1) := HB0.out.trans (hb1.mono (by simp))
          have c0 : w1.cell? ⟨w.heap.size, 0, none⟩ = some (.slice A l.length cp) := (hb1.cell (p := ⟨w.heap.size, 0, none⟩) (by simp)).trans (by go_simp)
          have hz1 : w.heap.size < w1.heap.size := by have := hb1.size; simp at this; omega
          have HL1 := Lib.hid (HL.out.below hb1)
          clear hb1
          go_wp2_with fail
          refine (implHasImages A l.length cp s _ hn hs).mono ?_
          rintro e w2 ⟨rfl, hb2⟩
          have HB2 : Hid (Below w.heap.size w w2) := HB1.out.trans (hb2.mono HB1.out.size)
          have c2 : w2.cell? ⟨w.heap.size, 0, none⟩ = some (.slice A l.length cp) := (hb2.cell (p := ⟨w.heap.size, 0, none⟩) hz1).trans c0
          have HL2 := Lib.hid (HL1.out.below hb2)
          clear hb2 c0
          go_wp2_with fail
          refine (implTable l _ _ HL2.out hl1 hl4).mono ?_
          rintro e w3 ⟨g, S, rfl, ht, hb3⟩
          have HB3 : Hid (Below w.heap.size w w3) := HB2.out.trans (hb3.mono HB2.out.size)
          have HT : Hid (ImgTab w3 S g l) := ht
          clear hb3 ht c2
          go_wp2_with fail
          go_loopw [9, 31] (fun u i w' => ∃ k : Nat, (k : Int) ≤ n ∧ i = .int .i64 k ∧ u = .string (iterS l s k) ∧ iterOk l s k = true ∧ Below w3.heap.size w3 w') (fun _ i _ => (n - intOf i).toNat)
          case atStart => exact ⟨0, by omega, rfl, rfl, rfl, Below.refl _ _⟩
          case round =>
            obtain ⟨k, hk, rfl, rfl, hok, hbk⟩ := hrel
            have hw1 := iter_word H1.out HWW.out.1 HWW.out.2 k hok
            have HW1 := Lib.hid hw1
            have HOK := Lib.hid hok
            have HBK := Lib.hid hbk
            clear hok hbk hw1
            by_cases hlt : (k : Int) < n
            · go_wp2_with fail
              refine (implWrite l g S _ (iterS l s k) wr (ImgTab.below HT.out HBK.out) H1.out HW1.out.1 HW1.out.2).mono ?_
              rintro e w4 ⟨rfl, hb4⟩
              have HB4 : Hid (Below w3.heap.size w3 w4) := HBK.out.trans (hb4.mono HBK.out.size)
              have hsz : (stepS l (iterS l s k)).size ≤ 1048576 := by
                have a := applyL_le H1.out (iterS l s k).data.toList
                have b := word_size HW1.out.1
                rw [stepS_size]
                have : (iterS l s k).data.toList.length = (iterS l s k).size := by simp
                omega
              clear hb4
              go_wp2_with fail
              refine (implOk (stepS l (iterS l s k)) _ hsz).mono ?_
              rintro e w5 ⟨rfl, hb5⟩
              have HB5 : Hid (Below w3.heap.size w3 w5) := HB4.out.trans (hb5.mono HB4.out.size)
              clear hb5
              by_cases h4 : (applyL l (iterS l s k).data.toList).length ≤ 400
              · have hy : wordB (stepS l (iterS l s k)) = true := (step_word H1.out HW1.out.1 HW1.out.2 h4).1
                have HOK2 : Hid (iterOk l s (k + 1) = true) := by show (iterOk l s k && _) = true; rw [HOK.out, decide_eq_true h4]; rfl
                clear h4
                go_wp2_with fail
                go_roundw
                case rel => exact ⟨k + 1, by omega, by go_num, rfl, HOK2.out, HB5.out⟩
                case measure => simp [intOf]; omega
              · have hy : wordB (stepS l (iterS l s k)) = false := word_long (by rw [stepS_size]; omega)
                have HNO : Hid (itOk l s n = false) := by
                  show itOk l s n = false
                  unfold itOk
                  have e1 : iterOk l s (k + 1) = false := by show (iterOk l s k && _) = false; rw [decide_eq_false h4, Bool.and_false]
                  have e2 := iterOk_mono e1 (n.toNat - (k + 1))
                  rw [show k + 1 + (n.toNat - (k + 1)) = n.toNat from by omega] at e2
                  rw [e2, Bool.and_false, Bool.and_false]
                clear h4
                go_wp2_with fail
                go_ret2
                exact itR_no HNO.out (HB3.out.trans (HB5.out.mono HB3.out.size))
            · have hkn : n = (k : Int) := by omega
              have HYES : Hid (itOk l s n = true) := by
                show itOk l s n = true
                unfold itOk
                rw [H1.out, HWW.out.1, HWW.out.2, hkn, Int.toNat_natCast, HOK.out]
                simp
                omega
              have HEQ : Hid (iterS l s k = iterS l s n.toNat) := by show iterS l s k = iterS l s n.toNat; rw [hkn, Int.toNat_natCast]
              clear hkn
              go_wp2_with fail
              go_ret2
              refine ⟨?_, HB3.out.trans (HBK.out.mono HB3.out.size)⟩
              have e2 : itR l s n = iterS l s n.toNat := if_pos HYES.out
              rw [HYES.out, e2, ← HEQ.out]
              rfl
    · have h2' : (wordB s && withinB l.length s) = false := by simpa only [Bool.not_eq_true] using h2
      have HNO : Hid (itOk l s n = false) := by show itOk l s n = false; unfold itOk; rw [h2']; simp
      clear h2
      go_enter Try.func21, Try.ntmps21
      go_wp2_with fail
      refine (implSubstOk l _ _ HL.out HZ.out hn).mono ?_
      rintro e w1 ⟨rfl, hb1⟩
      have HB1 : Hid (Below w.heap.size w w1) := HB0.out.trans (hb1.mono (by simp))
      have c0 : w1.cell? ⟨w.heap.size, 0, none⟩ = some (.slice A l.length cp) := (hb1.cell (p := ⟨w.heap.size, 0, none⟩) (by simp)).trans (by go_simp)
      clear hb1
      go_wp2_with fail
      refine (implHasImages A l.length cp s _ hn hs).mono ?_
      rintro e w2 ⟨rfl, hb2⟩
      have HB2 : Hid (Below w.heap.size w w2) := HB1.out.trans (hb2.mono HB1.out.size)
      clear hb2
      go_wp2_with fail
      go_ret2
      exact itR_no HNO.out HB2.out
  · have HNO : Hid (itOk l s n = false) := by show itOk l s n = false; unfold itOk; rw [show substB l = false by simpa using h1]; simp
    have h1' : substB l = false := by simpa using h1
    clear h1
    go_enter Try.func21, Try.ntmps21
    go_wp2_with fail
    refine (implSubstOk l _ _ HL.out HZ.out hn).mono ?_
    rintro e w1 ⟨rfl, hb1⟩
    have HB1 : Hid (Below w.heap.size w w1) := HB0.out.trans (hb1.mono (by simp))
    clear hb1
    go_wp2_with fail
    go_ret2
    exact itR_no HNO.out HB1.out

theorem it_one (l : List ByteArray) (s : ByteArray) : itOk l s 1 = appOk l s ∧ itR l s 1 = appR l s := by
  have e : itOk l s 1 = appOk l s := by
    unfold itOk appOk
    rfl
  refine ⟨e, ?_⟩
  unfold itR appR
  rw [e]
  rfl

theorem implApplySubst (l : List ByteArray) (v : Value) (s : ByteArray) (w : World) (h : Lst w v (strs l)) (hz : ∀ x ∈ l, x.size ≤ 1048576) (hn : l.length ≤ 1048576) (hs : s.size ≤ 1048576) :
    Calls Try.prog 19 #[.agg #[v], .string s] w (PairSaid (appR l s) (appOk l s) w) := by
  obtain ⟨A, cp, rfl⟩ := lst_slice h
  rw [strs_length] at h ⊢
  have hb0 : Below w.heap.size w (w.alloc (.cells #[.slice A l.length cp] 27)) := (Below.refl _ _).alloc (Nat.le_refl _) _
  have HL := Lib.hid (h.below hb0)
  have HZ := Lib.hid hz
  have HB0 := Lib.hid hb0
  clear h hz hb0
  have HE := Lib.hid (it_one l s)
  go_enter Try.func19, Try.ntmps19
  go_wp2_with fail
  refine (implIterateSubst l _ s 1 _ HL.out HZ.out hn hs).mono ?_
  rintro e w1 ⟨rfl, hb1⟩
  have HB1 : Hid (Below w.heap.size w w1) := HB0.out.trans (hb1.mono (by simp))
  clear hb1
  go_wp2_with fail
  go_ret2
  exact ⟨by rw [HE.out.1, HE.out.2]; rfl, HB1.out⟩
end Go.Proofs.Ytgekhijjeojhaaa
