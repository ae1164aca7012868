/- CountAfter of the program, every call. Conditions: lengths of at most 2^20. -/
import Derived.Test.YtgidfainoijcmaaSqK
namespace Go.Proofs.Ytgidfainoijcmaa
open Go.RowKit

set_option maxHeartbeats 4000000 in
set_option maxRecDepth 100000 in
theorem implCountAfter (l : List ByteArray) (v : Value) (cs : List Int) (u : Value) (n : Int) (w : World) (h : Lst w v (strs l)) (hz : ∀ x ∈ l, x.size ≤ 1048576) (hn : l.length ≤ 1048576) (hu : Lst w u (ints cs)) (hc : cs.length ≤ 1048576) :
    Calls Try.prog 35 #[.agg #[v], u, .int .i64 n] w (IntsSaid (caR l cs n) (caOk l cs n) w) := by
  obtain ⟨i0, hi0, hz0, hz1, hz2⟩ := info_parts int_info
  have hsz : (Try.prog.info? 3).map (·.size) = some 1 := by rw [hi0, Option.map_some, hz1]
  have HSZ := Lib.hid hsz
  obtain ⟨A, cp, rfl⟩ := lst_slice h
  obtain ⟨C, cq, rfl⟩ := lst_slice hu
  rw [strs_length] at h ⊢
  rw [ints_length] at hu ⊢
  have hb0 : Below w.heap.size w (w.alloc (.cells #[.slice A l.length cp] 25)) := (Below.refl _ _).alloc (Nat.le_refl _) _
  have HRUN := Lib.hid (caRun l A cp C cq cs n w h hz hn hu hc)
  have HL := Lib.hid (h.below hb0)
  have HU := Lib.hid (hu.below hb0)
  have HZ := Lib.hid hz
  have HB0 := Lib.hid hb0
  clear h hz hb0 hu hsz hz0 hz2
  by_cases h1 : substB l = true
  · obtain ⟨hl1, hl4, _⟩ := subst_parts h1
    have HSB := Lib.hid h1
    by_cases h2 : cs.length = l.length
    · have b2 : ((cs.length : Int) != (l.length : Int)) = false := by rw [h2]; simp
      have H2 := Lib.hid h2
      by_cases h3 : n < 0
      · have d1 : decide (n < 0) = true := decide_eq_true h3
        have HN : Hid (caOk l cs n = false) := by show caOk l cs n = false; unfold caOk; rw [decide_eq_false (show ¬ 0 ≤ n by omega)]; simp
        clear h3 h2 h1
        go_enter Try.func35, Try.ntmps35
        go_wp2_with fail
        refine (implSubstOk l _ _ HL.out HZ.out hn).mono ?_
        rintro e w1 ⟨rfl, hb1⟩
        rw [HSB.out]
        have HB1 : Hid (Below w.heap.size w w1) := HB0.out.trans (hb1.mono (by simp))
        have c0 : w1.cell? ⟨w.heap.size, 0, none⟩ = some (.slice A l.length cp) := (hb1.cell (p := ⟨w.heap.size, 0, none⟩) (by simp)).trans (by go_simp)
        have HL1 := Lib.hid (HL.out.below hb1)
        have HU1 := Lib.hid (HU.out.below hb1)
        clear hb1
        go_wp2_with fail
        go_ret2
        exact intsSaid_no (caR_no HN.out) HN.out HB1.out
      · have d1 : decide (n < 0) = false := decide_eq_false h3
        by_cases h3' : 40 < n
        · have d2 : decide (40 < n) = true := decide_eq_true h3'
          have HN : Hid (caOk l cs n = false) := by show caOk l cs n = false; unfold caOk; rw [decide_eq_false (show ¬ n ≤ 40 by omega)]; simp
          clear h3 h3' h2 h1
          go_enter Try.func35, Try.ntmps35
          go_wp2_with fail
          refine (implSubstOk l _ _ HL.out HZ.out hn).mono ?_
          rintro e w1 ⟨rfl, hb1⟩
          rw [HSB.out]
          have HB1 : Hid (Below w.heap.size w w1) := HB0.out.trans (hb1.mono (by simp))
          have c0 : w1.cell? ⟨w.heap.size, 0, none⟩ = some (.slice A l.length cp) := (hb1.cell (p := ⟨w.heap.size, 0, none⟩) (by simp)).trans (by go_simp)
          have HL1 := Lib.hid (HL.out.below hb1)
          have HU1 := Lib.hid (HU.out.below hb1)
          clear hb1
          go_wp2_with fail
          go_ret2
          exact intsSaid_no (caR_no HN.out) HN.out HB1.out
        · have d2 : decide (40 < n) = false := decide_eq_false h3'
          have HPRE : Hid (caOk l cs n = (cs.all cntOk && itCok l cs n.toNat)) := by show caOk l cs n = _; unfold caOk; rw [h1, decide_eq_true h2, decide_eq_true (show 0 ≤ n by omega), decide_eq_true (show n ≤ 40 by omega)]; rfl
          have HIFF := Lib.hid (cntOk_iff cs (by omega))
          have hcs0 : 0 < cs.length := by omega
          have hcs4 : cs.length ≤ 4 := by omega
          clear h2 h1
          by_cases hmin : Lib.minOf cs < 0
          · have e1 : decide (Lib.minOf cs < 0) = true := decide_eq_true hmin
            have HN : Hid (caOk l cs n = false) := by
              have : cs.all cntOk = false := by rw [← Bool.not_eq_true, HIFF.out]; omega
              show caOk l cs n = false
              rw [HPRE.out, this, Bool.false_and]
            clear hmin
            go_enter Try.func35, Try.ntmps35
            go_wp2_with fail
            refine (implSubstOk l _ _ HL.out HZ.out hn).mono ?_
            rintro e w1 ⟨rfl, hb1⟩
            rw [HSB.out]
            have HB1 : Hid (Below w.heap.size w w1) := HB0.out.trans (hb1.mono (by simp))
            have c0 : w1.cell? ⟨w.heap.size, 0, none⟩ = some (.slice A l.length cp) := (hb1.cell (p := ⟨w.heap.size, 0, none⟩) (by simp)).trans (by go_simp)
            have HL1 := Lib.hid (HL.out.below hb1)
            have HU1 := Lib.hid (HU.out.below hb1)
            clear hb1
            go_wp2_with fail
            refine (minCall HU1.out hcs0 hc).mono ?_
            rintro e w' ⟨rfl, rfl⟩
            go_wp2_with fail
            go_ret2
            exact intsSaid_no (caR_no HN.out) HN.out HB1.out
          · have e1 : decide (Lib.minOf cs < 0) = false := decide_eq_false hmin
            by_cases hmax : 1000 < Lib.maxOf cs
            · have e2 : decide (1000 < Lib.maxOf cs) = true := decide_eq_true hmax
              have HN : Hid (caOk l cs n = false) := by
                have : cs.all cntOk = false := by rw [← Bool.not_eq_true, HIFF.out]; omega
                show caOk l cs n = false
                rw [HPRE.out, this, Bool.false_and]
              clear hmax
              go_enter Try.func35, Try.ntmps35
              go_wp2_with fail
              refine (implSubstOk l _ _ HL.out HZ.out hn).mono ?_
              rintro e w1 ⟨rfl, hb1⟩
              rw [HSB.out]
              have HB1 : Hid (Below w.heap.size w w1) := HB0.out.trans (hb1.mono (by simp))
              have c0 : w1.cell? ⟨w.heap.size, 0, none⟩ = some (.slice A l.length cp) := (hb1.cell (p := ⟨w.heap.size, 0, none⟩) (by simp)).trans (by go_simp)
              have HL1 := Lib.hid (HL.out.below hb1)
              have HU1 := Lib.hid (HU.out.below hb1)
              clear hb1
              go_wp2_with fail
              refine (minCall HU1.out hcs0 hc).mono ?_
              rintro e w' ⟨rfl, rfl⟩
              go_wp2_with fail
              refine (maxCall HU1.out hcs0 hc).mono ?_
              rintro e w' ⟨rfl, rfl⟩
              go_wp2_with fail
              go_ret2
              exact intsSaid_no (caR_no HN.out) HN.out HB1.out
            · exact HRUN.out HSB.out H2.out h3 h3' hmin hmax
    · have b2 : ((cs.length : Int) != (l.length : Int)) = true := by rw [bne_iff_ne]; omega
      have HN : Hid (caOk l cs n = false) := by show caOk l cs n = false; unfold caOk; rw [decide_eq_false h2]; simp
      clear h2 h1
      go_enter Try.func35, Try.ntmps35
      go_wp2_with fail
      refine (implSubstOk l _ _ HL.out HZ.out hn).mono ?_
      rintro e w1 ⟨rfl, hb1⟩
      rw [HSB.out]
      have HB1 : Hid (Below w.heap.size w w1) := HB0.out.trans (hb1.mono (by simp))
      have c0 : w1.cell? ⟨w.heap.size, 0, none⟩ = some (.slice A l.length cp) := (hb1.cell (p := ⟨w.heap.size, 0, none⟩) (by simp)).trans (by go_simp)
      have HL1 := Lib.hid (HL.out.below hb1)
      have HU1 := Lib.hid (HU.out.below hb1)
      clear hb1
      go_wp2_with fail
      go_ret2
      exact intsSaid_no (caR_no HN.out) HN.out HB1.out
  · have h1' : substB l = false := by simpa using h1
    have HSB := Lib.hid h1'
    have HN : Hid (caOk l cs n = false) := by show caOk l cs n = false; unfold caOk; rw [h1']; simp
    clear h1 h1'
    go_enter Try.func35, Try.ntmps35
    go_wp2_with fail
    refine (implSubstOk l _ _ HL.out HZ.out hn).mono ?_
    rintro e w1 ⟨rfl, hb1⟩
    rw [HSB.out]
    have HB1 : Hid (Below w.heap.size w w1) := HB0.out.trans (hb1.mono (by simp))
    have c0 : w1.cell? ⟨w.heap.size, 0, none⟩ = some (.slice A l.length cp) := (hb1.cell (p := ⟨w.heap.size, 0, none⟩) (by simp)).trans (by go_simp)
    have HL1 := Lib.hid (HL.out.below hb1)
    have HU1 := Lib.hid (HU.out.below hb1)
    clear hb1
    go_wp2_with fail
    go_ret2
    exact intsSaid_no (caR_no HN.out) HN.out HB1.out
end Go.Proofs.Ytgidfainoijcmaa
