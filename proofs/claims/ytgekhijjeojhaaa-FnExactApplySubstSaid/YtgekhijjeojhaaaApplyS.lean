/- ApplySubst and IterateSubst of the model. Conditions: lengths of at most 2^20. -/
import Derived.Test.YtgekhijjeojhaaaApply
import Derived.Test.YtgekhijjeojhaaaSubstW
namespace Go.Proofs.Ytgekhijjeojhaaa
open Go.RowKit

set_option maxHeartbeats 400000 in
theorem specApplySubst (l : List ByteArray) (v : Value) (s : ByteArray) (w : World) (h : Lst w v (strs l)) (hz : ∀ x ∈ l, x.size ≤ 1048576) (hn : l.length ≤ 1048576) (_ : s.size ≤ 1048576) :
    Calls Try.prog 18 #[.agg #[v], .string s] w (PairSaid (appR l s) (appOk l s) w) := by
  obtain ⟨A, cp, rfl⟩ := lst_slice h
  rw [strs_length] at h ⊢
  have hb0 : Below w.heap.size w (w.alloc (.cells #[.slice A l.length cp] 27)) := (Below.refl _ _).alloc (Nat.le_refl _) _
  have HL := Lib.hid (h.below hb0)
  have HZ := Lib.hid hz
  have HB0 := Lib.hid hb0
  clear h hz hb0
  by_cases h1 : substB l = true
  · by_cases h2 : wordB s = true
    · have HWI := Lib.hid (fun w => specWithin l.length s w hn h2)
      by_cases h3 : withinB l.length s = true
      · have HAP := Lib.hid (fun (w : World) h => specApply l (.slice A l.length cp) s w h h1 h2 h3)
        go_enter Try.func18, Try.ntmps18
        go_wp2_with fail
        refine (specSubstOk l _ _ HL.out HZ.out hn).mono ?_
        rintro e w1 ⟨rfl, hb1⟩
        obtain ⟨hc, hf⟩ := below_reads hb1
        have HB1 := Lib.hid hb1
        have HB2 : Hid (Below w.heap.size w w1) := HB0.out.trans (hb1.mono (by simp))
        clear hb1
        go_wp2_with fail
        refine (specWordOk s _).mono ?_
        rintro e w' ⟨rfl, rfl⟩
        go_wp2_with fail
        refine (HWI.out _).mono ?_
        rintro e w' ⟨rfl, rfl⟩
        go_wp2_with fail
        refine (HAP.out _ (HL.out.below HB1.out)).mono ?_
        rintro e w2 ⟨hb2, r, rfl, hr1, hr2, hr3⟩
        have HB3 : Hid (Below w.heap.size w w2) := HB2.out.trans (hb2.mono HB2.out.size)
        have HR2 := Lib.hid hr2
        have HR3 := Lib.hid hr3
        clear hb2 hr2 hr3 hc hf
        by_cases h4 : (applyL l s.data.toList).length ≤ 400
        · have hsz : r.size ≤ 400 := by rw [HR2.out h4]; show (stepS l s).size ≤ 400; rw [stepS_size]; exact h4
          go_wp2_with fail
          go_ret2
          refine ⟨?_, HB3.out⟩
          have e1 : appOk l s = true := by unfold appOk; rw [h1, h2, h3, decide_eq_true h4]; rfl
          have e2 : appR l s = stepS l s := if_pos e1
          rw [e1, e2, show r = stepS l s from HR2.out h4]
          rfl
        · have hsz : 400 < r.size := HR3.out (by omega)
          have HNO : Hid (appOk l s = false) := by show appOk l s = false; unfold appOk; rw [decide_eq_false h4, Bool.and_false]
          go_wp2_with fail
          go_ret2
          exact appR_no HNO.out HB3.out
      · have HNO : Hid (appOk l s = false) := by show appOk l s = false; unfold appOk; rw [show withinB l.length s = false by simpa using h3]; simp
        have h3' : withinB l.length s = false := by simpa using h3
        clear h3
        go_enter Try.func18, Try.ntmps18
        go_wp2_with fail
        refine (specSubstOk l _ _ HL.out HZ.out hn).mono ?_
        rintro e w1 ⟨rfl, hb1⟩
        obtain ⟨hc, hf⟩ := below_reads hb1
        have HB1 := Lib.hid hb1
        have HB2 : Hid (Below w.heap.size w w1) := HB0.out.trans (hb1.mono (by simp))
        clear hb1
        go_wp2_with fail
        refine (specWordOk s _).mono ?_
        rintro e w' ⟨rfl, rfl⟩
        go_wp2_with fail
        refine (HWI.out _).mono ?_
        rintro e w' ⟨rfl, rfl⟩
        go_wp2_with fail
        go_ret2
        exact appR_no HNO.out HB2.out
    · have HNO : Hid (appOk l s = false) := by show appOk l s = false; unfold appOk; rw [show wordB s = false by simpa using h2]; simp
      have h2' : wordB s = false := by simpa using h2
      clear h2
      go_enter Try.func18, Try.ntmps18
      go_wp2_with fail
      refine (specSubstOk l _ _ HL.out HZ.out hn).mono ?_
      rintro e w1 ⟨rfl, hb1⟩
      obtain ⟨hc, hf⟩ := below_reads hb1
      have HB1 := Lib.hid hb1
      have HB2 : Hid (Below w.heap.size w w1) := HB0.out.trans (hb1.mono (by simp))
      clear hb1
      go_wp2_with fail
      refine (specWordOk s _).mono ?_
      rintro e w' ⟨rfl, rfl⟩
      go_wp2_with fail
      go_ret2
      exact appR_no HNO.out HB2.out
  · have HNO : Hid (appOk l s = false) := by show appOk l s = false; unfold appOk; rw [show substB l = false by simpa using h1]; simp
    have h1' : substB l = false := by simpa using h1
    clear h1
    go_enter Try.func18, Try.ntmps18
    go_wp2_with fail
    refine (specSubstOk l _ _ HL.out HZ.out hn).mono ?_
    rintro e w1 ⟨rfl, hb1⟩
    obtain ⟨hc, hf⟩ := below_reads hb1
    have HB1 := Lib.hid hb1
    have HB2 : Hid (Below w.heap.size w w1) := HB0.out.trans (hb1.mono (by simp))
    clear hb1
    go_wp2_with fail
    go_ret2
    exact appR_no HNO.out HB2.out

set_option maxHeartbeats 1000000 in
theorem specIterateSubst (l : List ByteArray) (v : Value) (s : ByteArray) (n : Int) (w : World) (h : Lst w v (strs l)) (hz : ∀ x ∈ l, x.size ≤ 1048576) (hn : l.length ≤ 1048576) (_ : s.size ≤ 1048576) :
    Calls Try.prog 20 #[.agg #[v], .string s, .int .i64 n] w (PairSaid (itR l s n) (itOk l s n) w) := by
  obtain ⟨A, cp, rfl⟩ := lst_slice h
  rw [strs_length] at h ⊢
  have hb0 : Below w.heap.size w (w.alloc (.cells #[.slice A l.length cp] 27)) := (Below.refl _ _).alloc (Nat.le_refl _) _
  have HL := Lib.hid (h.below hb0)
  have HZ := Lib.hid hz
  have HB0 := Lib.hid hb0
  clear h hz hb0
  by_cases h0 : 0 ≤ n ∧ n ≤ 20
  · obtain ⟨d1n, d2n⟩ := h0
    have d1 : decide ((0 : Int) ≤ n) = true := by simpa using d1n
    have d2 : decide (n ≤ (20 : Int)) = true := by simpa using d2n
    by_cases h1 : substB l = true
    · by_cases h2 : wordB s = true
      · have HWI := Lib.hid (fun w => specWithin l.length s w hn h2)
        by_cases h3 : withinB l.length s = true
        · go_enter Try.func20, Try.ntmps20
          go_wp2_with fail
          refine (specIn _ _ _ _).mono ?_
          rintro e w' ⟨rfl, rfl⟩
          go_wp2_with fail
          refine (specSubstOk l _ _ HL.out HZ.out hn).mono ?_
          rintro e w1 ⟨rfl, hb1⟩
          obtain ⟨hc, hf⟩ := below_reads hb1
          have HB1 := Lib.hid hb1
          have HB2 : Hid (Below w.heap.size w w1) := HB0.out.trans (hb1.mono (by simp))
          have hz1 : w.heap.size < w1.heap.size := by have := hb1.size; simp at this; omega
          clear hb1
          go_wp2_with fail
          refine (specWordOk s _).mono ?_
          rintro e w' ⟨rfl, rfl⟩
          go_wp2_with fail
          refine (HWI.out _).mono ?_
          rintro e w' ⟨rfl, rfl⟩
          go_wp2_with fail
          have G0 : Hid (w1.cell? ⟨w.heap.size, 0, none⟩ = some (.slice A l.length cp)) := (hc w.heap.size 0 (by simp)).trans (by rw [World.cell?_alloc_at _ _ _ _ rfl]; rfl)
          have HLL := Lib.hid (HL.out.below HB1.out)
          clear hc hf
          go_loopw [1, 8] (fun u i w' => ∃ k : Nat, (k : Int) ≤ n ∧ i = .int .i64 k ∧ u = .string (iterS l s k) ∧ iterOk l s k = true ∧ Below w1.heap.size w1 w') (fun _ i _ => (n - intOf i).toNat)
          case atStart => exact ⟨0, d1n, rfl, rfl, rfl, Below.refl _ _⟩
          case round =>
            obtain ⟨k, hk, rfl, rfl, hok, hbk⟩ := hrel
            have hw1 := iter_word h1 h2 h3 k hok
            have HOK := Lib.hid hok
            have HBK := Lib.hid hbk
            have g0 : wr.cell? ⟨w.heap.size, 0, none⟩ = some (.slice A l.length cp) := (hbk.cell (p := ⟨w.heap.size, 0, none⟩) hz1).trans G0.out
            have HAP := Lib.hid (specApply l (.slice A l.length cp) (iterS l s k) wr (HLL.out.below hbk) h1 hw1.1 hw1.2)
            clear hok hbk hw1
            by_cases hlt : (k : Int) < n
            · go_wp2_with fail
              refine HAP.out.mono ?_
              rintro e w2 ⟨hb2, r, rfl, hr1, hr2, hr3⟩
              have HB3 : Hid (Below w1.heap.size w1 w2) := HBK.out.trans (hb2.mono HBK.out.size)
              have HR2 := Lib.hid hr2
              have HR3 := Lib.hid hr3
              clear hb2 hr2 hr3 g0
              by_cases h4 : (applyL l (iterS l s k).data.toList).length ≤ 400
              · have hsz : r.size ≤ 400 := by rw [HR2.out h4]; show (stepS l (iterS l s k)).size ≤ 400; rw [stepS_size]; exact h4
                have HEQ : Hid (r = iterS l s (k + 1)) := HR2.out h4
                have HOK2 : Hid (iterOk l s (k + 1) = true) := by show (iterOk l s k && _) = true; rw [HOK.out, decide_eq_true h4]; rfl
                clear h4
                go_wp2_with fail
                go_roundw
                case rel => exact ⟨k + 1, by omega, by go_num, by rw [HEQ.out], HOK2.out, HB3.out⟩
                case measure => simp [intOf]; omega
              · have hsz : 400 < r.size := HR3.out (by omega)
                have HNO : Hid (itOk l s n = false) := by
                  show itOk l s n = false
                  unfold itOk
                  have e1 : iterOk l s (k + 1) = false := by show (iterOk l s k && _) = false; rw [decide_eq_false h4, Bool.and_false]
                  have e2 := iterOk_mono e1 (n.toNat - (k + 1))
                  rw [show k + 1 + (n.toNat - (k + 1)) = n.toNat from by omega] at e2
                  rw [e2, Bool.and_false, Bool.and_false]
                clear h4
                go_wp2_with fail
                go_ret2
                exact itR_no HNO.out (HB2.out.trans (HB3.out.mono (by omega)))
            · have hkn : n = (k : Int) := by omega
              have HYES : Hid (itOk l s n = true) := by
                show itOk l s n = true
                unfold itOk
                rw [h1, h2, h3, hkn, Int.toNat_natCast, HOK.out]
                simp
                omega
              have HEQ : Hid (iterS l s k = iterS l s n.toNat) := by show iterS l s k = iterS l s n.toNat; rw [hkn, Int.toNat_natCast]
              clear hkn
              go_wp2_with fail
              go_ret2
              refine ⟨?_, HB2.out.trans (HBK.out.mono (by omega))⟩
              have e2 : itR l s n = iterS l s n.toNat := if_pos HYES.out
              rw [HYES.out, e2, ← HEQ.out]
              rfl
        · have HNO : Hid (itOk l s n = false) := by show itOk l s n = false; unfold itOk; rw [show withinB l.length s = false by simpa using h3]; simp
          have h3' : withinB l.length s = false := by simpa using h3
          clear h3
          go_enter Try.func20, Try.ntmps20
          go_wp2_with fail
          refine (specIn _ _ _ _).mono ?_
          rintro e w' ⟨rfl, rfl⟩
          go_wp2_with fail
          refine (specSubstOk l _ _ HL.out HZ.out hn).mono ?_
          rintro e w1 ⟨rfl, hb1⟩
          obtain ⟨hc, hf⟩ := below_reads hb1
          have HB1 := Lib.hid hb1
          have HB2 : Hid (Below w.heap.size w w1) := HB0.out.trans (hb1.mono (by simp))
          have hz1 : w.heap.size < w1.heap.size := by have := hb1.size; simp at this; omega
          clear hb1
          go_wp2_with fail
          refine (specWordOk s _).mono ?_
          rintro e w' ⟨rfl, rfl⟩
          go_wp2_with fail
          refine (HWI.out _).mono ?_
          rintro e w' ⟨rfl, rfl⟩
          go_wp2_with fail
          go_ret2
          exact itR_no HNO.out HB2.out
      · have HNO : Hid (itOk l s n = false) := by show itOk l s n = false; unfold itOk; rw [show wordB s = false by simpa using h2]; simp
        have h2' : wordB s = false := by simpa using h2
        clear h2
        go_enter Try.func20, Try.ntmps20
        go_wp2_with fail
        refine (specIn _ _ _ _).mono ?_
        rintro e w' ⟨rfl, rfl⟩
        go_wp2_with fail
        refine (specSubstOk l _ _ HL.out HZ.out hn).mono ?_
        rintro e w1 ⟨rfl, hb1⟩
        obtain ⟨hc, hf⟩ := below_reads hb1
        have HB1 := Lib.hid hb1
        have HB2 : Hid (Below w.heap.size w w1) := HB0.out.trans (hb1.mono (by simp))
        have hz1 : w.heap.size < w1.heap.size := by have := hb1.size; simp at this; omega
        clear hb1
        go_wp2_with fail
        refine (specWordOk s _).mono ?_
        rintro e w' ⟨rfl, rfl⟩
        go_wp2_with fail
        go_ret2
        exact itR_no HNO.out HB2.out
    · have HNO : Hid (itOk l s n = false) := by show itOk l s n = false; unfold itOk; rw [show substB l = false by simpa using h1]; simp
      have h1' : substB l = false := by simpa using h1
      clear h1
      go_enter Try.func20, Try.ntmps20
      go_wp2_with fail
      refine (specIn _ _ _ _).mono ?_
      rintro e w' ⟨rfl, rfl⟩
      go_wp2_with fail
      refine (specSubstOk l _ _ HL.out HZ.out hn).mono ?_
      rintro e w1 ⟨rfl, hb1⟩
      obtain ⟨hc, hf⟩ := below_reads hb1
      have HB1 := Lib.hid hb1
      have HB2 : Hid (Below w.heap.size w w1) := HB0.out.trans (hb1.mono (by simp))
      have hz1 : w.heap.size < w1.heap.size := by have := hb1.size; simp at this; omega
      clear hb1
      go_wp2_with fail
      go_ret2
      exact itR_no HNO.out HB2.out
  · have d1 : (decide ((0 : Int) ≤ n) && decide (n ≤ (20 : Int))) = false := by simp; omega
    have HNO : Hid (itOk l s n = false) := by show itOk l s n = false; unfold itOk; rw [d1, Bool.false_and]
    clear h0
    go_enter Try.func20, Try.ntmps20
    go_wp2_with fail
    refine (specIn _ _ _ _).mono ?_
    rintro e w' ⟨rfl, rfl⟩
    go_wp2_with fail
    go_ret2
    exact itR_no HNO.out HB0.out
end Go.Proofs.Ytgekhijjeojhaaa
