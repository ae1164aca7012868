/- ComposeSubst of the program. Conditions: lengths of at most 2^20. -/
import Derived.Test.YtgekhijjeojhaaaChangedI
import Derived.Deep.DeepCutAuto
import Derived.Deep.RegionHeld3
namespace Go.Proofs.Ytgekhijjeojhaaa
open Go.RowKit

set_option maxHeartbeats 2000000 in
theorem implComposeSubst (l m : List ByteArray) (v u : Value) (w : World) (h : Lst w v (strs l)) (h' : Lst w u (strs m)) (hz : ∀ x ∈ l, x.size ≤ 1048576) (hz' : ∀ x ∈ m, x.size ≤ 1048576) (hn : l.length ≤ 1048576) (hn' : m.length ≤ 1048576) :
    Calls Try.prog 23 #[.agg #[v], .agg #[u]] w (SubSaid (compSub l m) (compOk l m) w) := by
  obtain ⟨i0, hi0, hz0, hz1, hz2⟩ := info_parts str_info
  obtain ⟨A, cp, rfl⟩ := lst_slice h
  obtain ⟨B, cq, rfl⟩ := lst_slice h'
  rw [strs_length] at h h' ⊢
  rw [strs_length]
  have hb0 : Below w.heap.size w (((w.alloc (.cells #[.slice A l.length cp] 27)).alloc (.cells #[.slice B m.length cq] 27)).alloc (.cells #[.slice none 0 0] 27)) := (((Below.refl _ _).alloc (Nat.le_refl _) _).alloc (by simp) _).alloc (by simp; omega) _
  have HL := Lib.hid (h.below hb0)
  have HM := Lib.hid (h'.below hb0)
  have HZ := Lib.hid hz
  have HZ' := Lib.hid hz'
  have HB0 := Lib.hid hb0
  clear h h' hz hz' hb0
  by_cases h1 : substB l = true
  · by_cases h2 : substB m = true
    · by_cases h3 : l.length = m.length
      · have b3 : ((l.length : Int) != (m.length : Int)) = false := by rw [h3]; simp
        have H3 := Lib.hid h3
        obtain ⟨hl1, hl4, hl5⟩ := subst_parts h1
        have HI := Lib.hid hl5
        clear hl5 h3
        go_enter Try.func23, Try.ntmps23
        go_wp2_with fail
        refine (implSubstOk l _ _ HL.out HZ.out hn).mono ?_
        rintro e wa ⟨rfl, hba⟩
        obtain ⟨ha, hfa⟩ := below_reads hba
        have HBA := Lib.hid hba
        have a0 : wa.cell? ⟨w.heap.size, 0, none⟩ = some (.slice A l.length cp) := by rw [ha _ _ (by simp; omega)]; go_simp
        have a1 : wa.cell? ⟨w.heap.size + 1, 0, none⟩ = some (.slice B m.length cq) := by rw [ha _ _ (by simp)]; go_simp
        have a2 : wa.cell? ⟨w.heap.size + 1 + 1, 0, none⟩ = some (.slice none 0 0) := by rw [ha _ _ (by simp)]; go_simp
        have fa : wa.frozen? ⟨w.heap.size + 1 + 1, 0, none⟩ = false := by rw [hfa _ _ (by simp)]; go_simp
        have hza : w.heap.size + 3 ≤ wa.heap.size := by have := hba.size; simpa using this
        clear hba ha hfa
        go_wp2_with fail
        refine (implSubstOk m _ _ (HM.out.below HBA.out) HZ'.out hn').mono ?_
        rintro e w1 ⟨rfl, hb1⟩
        have HB1 := Lib.hid hb1
        have c0 : w1.cell? ⟨w.heap.size, 0, none⟩ = some (.slice A l.length cp) := (hb1.cell (p := ⟨w.heap.size, 0, none⟩) (by simp; omega)).trans a0
        have c1 : w1.cell? ⟨w.heap.size + 1, 0, none⟩ = some (.slice B m.length cq) := (hb1.cell (p := ⟨w.heap.size + 1, 0, none⟩) (by simp; omega)).trans a1
        have c2 : w1.cell? ⟨w.heap.size + 1 + 1, 0, none⟩ = some (.slice none 0 0) := (hb1.cell (p := ⟨w.heap.size + 1 + 1, 0, none⟩) (by simp; omega)).trans a2
        have f2 : w1.frozen? ⟨w.heap.size + 1 + 1, 0, none⟩ = false := (hb1.frozen (p := ⟨w.heap.size + 1 + 1, 0, none⟩) (by simp; omega)).trans fa
        have hzw : w.heap.size + 3 ≤ w1.heap.size := by have := hb1.size; omega
        have hzw0 : w.heap.size < w1.heap.size := by omega
        have hzw1 : w.heap.size + 1 < w1.heap.size := by omega
        have hzw2 : w.heap.size + 1 + 1 < w1.heap.size := by omega
        have HB2 : Hid (Below w.heap.size w w1) := (HB0.out.trans (HBA.out.mono (by simp; omega))).trans (hb1.mono (by omega))
        have HLL := Lib.hid ((HL.out.below HBA.out).below hb1)
        have HMM := Lib.hid ((HM.out.below HBA.out).below hb1)
        have hbz := build_zero
        obtain ⟨hm1, hm4, _⟩ := subst_parts h2
        have H1 := Lib.hid h1
        have H2 := Lib.hid h2
        have ccp0 := c0
        have ccp1 := c1
        have zzp0 := hzw0
        have zzp1 := hzw1
        clear hb1 a0 a1 a2 fa c0 c1
        go_upto_region 3 with (fail)
        go_cut [6] (fun s wx => ∃ (g : Nat) (A' : Option Addr) (cp' : Nat), s = .pointer (some ⟨g, 0, none⟩) ∧ wx.cell? ⟨g, 0, none⟩ = some (.slice A' l.length cp') ∧ g < wx.heap.size ∧ w1.heap.size ≤ g ∧ Hid (wx.ownsRow w1.heap.size 9 1 (.slice A' l.length cp') l.length (strs (compR l m))) ∧ Below w1.heap.size w1 wx)
        case first =>
          have HBc : Hid (Below w1.heap.size w1 w1.drew) := below_drewN (Below.refl _ _) 1
          go_region_held3 (fun w' => w'.cell? ⟨w.heap.size, 0, none⟩ = some (.slice A l.length cp) ∧ w'.cell? ⟨w.heap.size + 1, 0, none⟩ = some (.slice B m.length cq))
            (first | exact ⟨ccp0, ccp1⟩ | (refine ⟨?_, ?_⟩ <;> (first | assumption | (go_simp; done))))
            (first
              | (go_at_call 46
                 refine (implTable m _ _ (by first | exact HMM.out.below HBc.out | exact HMM.out.below (HBc.out.alloc HBc.out.size _) | exact HMM.out.below (below_drewN ((Below.refl _ _).alloc (Nat.le_refl _) _) 1)) hm1 hm4).mono ?_
                 rintro e wt ⟨g0, S0, rfl, ht, hb⟩
                 have HT : Hid (ImgTab wt S0 g0 m) := ht
                 have hszxwt := hb.size
                 try simp at hszxwt
                 replace ccp0 : wt.cell? ⟨w.heap.size, 0, none⟩ = some (.slice A l.length cp) := (hb.cell (p := ⟨w.heap.size, 0, none⟩) (by first | assumption | (simp; omega) | simp)).trans (by first | assumption | go_simp)
                 replace ccp1 : wt.cell? ⟨w.heap.size + 1, 0, none⟩ = some (.slice B m.length cq) := (hb.cell (p := ⟨w.heap.size + 1, 0, none⟩) (by first | assumption | (simp; omega) | simp)).trans (by first | assumption | go_simp)
                 replace zzp0 : w.heap.size < wt.heap.size := by omega
                 replace zzp1 : w.heap.size + 1 < wt.heap.size := by omega
                 try (have qcs : wt.cell? ⟨w1.heap.size, 0, none⟩ = some (.slice none 0 0) := ?_
                      rotate_left
                      · refine (hb.cell (p := ⟨w1.heap.size, 0, none⟩) ?_).trans ?_
                        · first | assumption | omega | (simp; omega) | (simp; done)
                        · first | assumption | (go_simp; done))
                 try (have qfs : wt.frozen? ⟨w1.heap.size, 0, none⟩ = false := ?_
                      rotate_left
                      · refine (hb.frozen (p := ⟨w1.heap.size, 0, none⟩) ?_).trans ?_
                        · first | assumption | omega | (simp; omega) | (simp; done)
                        · first | assumption | (go_simp; done))
                 replace HBc : Hid (Below w1.heap.size w1 wt) := by first | exact HBc.out.trans (hb.mono HBc.out.size) | exact (HBc.out.alloc HBc.out.size _).trans (hb.mono (by have := HBc.out.size; simp at this ⊢; omega)) | exact (below_drewN ((Below.refl _ _).alloc (Nat.le_refl _) _) 1).trans (hb.mono (by simp))
                 have hstwt : w1.heap.size ≤ wt.heap.size := HBc.out.size
                 clear hb ht)
              | (go_at_call 49
                 refine (implChangedWrite l _ m g0 S0 _ _ (by first | exact HLL.out.below HBc.out | exact HLL.out.below (HBc.out.alloc HBc.out.size _)) H1.out (by first | exact HT.out | exact ImgTab.below HT.out ((Below.refl _ _).alloc (Nat.le_refl _) _)) H2.out H3.out).mono ?_
                 rintro e wc ⟨v', rfl, ho, hb⟩
                 obtain ⟨A', cp', rfl⟩ := own_slice ho
                 have HLO := Lib.hid ho.lt
                 have hszxwc := hb.size
                 try simp at hszxwc
                 replace ccp0 : wc.cell? ⟨w.heap.size, 0, none⟩ = some (.slice A l.length cp) := (hb.cell (p := ⟨w.heap.size, 0, none⟩) (by first | assumption | (simp; omega) | simp)).trans (by first | assumption | go_simp)
                 replace ccp1 : wc.cell? ⟨w.heap.size + 1, 0, none⟩ = some (.slice B m.length cq) := (hb.cell (p := ⟨w.heap.size + 1, 0, none⟩) (by first | assumption | (simp; omega) | simp)).trans (by first | assumption | go_simp)
                 replace zzp0 : w.heap.size < wc.heap.size := by omega
                 replace zzp1 : w.heap.size + 1 < wc.heap.size := by omega
                 try (have qcs : wc.cell? ⟨w1.heap.size, 0, none⟩ = some (.slice none 0 0) := ?_
                      rotate_left
                      · refine (hb.cell (p := ⟨w1.heap.size, 0, none⟩) ?_).trans ?_
                        · first | assumption | omega | (simp; omega) | (simp; done)
                        · first | assumption | (go_simp; done))
                 try (have qfs : wc.frozen? ⟨w1.heap.size, 0, none⟩ = false := ?_
                      rotate_left
                      · refine (hb.frozen (p := ⟨w1.heap.size, 0, none⟩) ?_).trans ?_
                        · first | assumption | omega | (simp; omega) | (simp; done)
                        · first | assumption | (go_simp; done))
                 try (have qct : wc.cell? ⟨wt.heap.size, 0, none⟩ = some (.slice none 0 0) := ?_
                      rotate_left
                      · refine (hb.cell (p := ⟨wt.heap.size, 0, none⟩) ?_).trans ?_
                        · first | assumption | omega | (simp; omega) | (simp; done)
                        · first | assumption | (go_simp; done))
                 try (have qft : wc.frozen? ⟨wt.heap.size, 0, none⟩ = false := ?_
                      rotate_left
                      · refine (hb.frozen (p := ⟨wt.heap.size, 0, none⟩) ?_).trans ?_
                        · first | assumption | omega | (simp; omega) | (simp; done)
                        · first | assumption | (go_simp; done))
                 replace HBc : Hid (Below w1.heap.size w1 wc) := by first | exact HBc.out.trans (hb.mono HBc.out.size) | exact (HBc.out.alloc HBc.out.size _).trans (hb.mono (by have := HBc.out.size; simp at this ⊢; omega)) | exact (below_drewN ((Below.refl _ _).alloc (Nat.le_refl _) _) 1).trans (hb.mono (by simp))
                 have hstwc : w1.heap.size ≤ wc.heap.size := HBc.out.size
                 have HO : Hid (wc.ownsRow w1.heap.size 9 1 (.slice A' l.length cp') l.length (strs (compR l m))) := own_mono ho (by first | omega | (simp; omega))
                 clear hb ho))
          all_goals
            go_wp2_with fail
            go_meet
            first
              | (refine ⟨wc.heap.size, A', cp', rfl, ?_, ?_, ?_, ?_, ?_⟩
                 · rw [World.cell?_alloc_at _ _ _ _ rfl]; rfl
                 · simp; done
                 · omega
                 · exact own_below HO.out ((Below.refl _ _).alloc (Nat.le_refl _) _)
                 · exact HBc.out.alloc HBc.out.size _)
              | (refine ⟨wt.heap.size, A', cp', rfl, ?_, ?_, ?_, ?_, ?_⟩
                 · go_simp; done
                 · first | omega | (simp; omega)
                 · omega
                 · exact own_setCell2 HO.out (by intro k hk; have hlk := HLO.out k hk; (try simp at hlk); (try simp); omega) _
                 · exact HBc.out.setCell (by first | omega | (simp; omega)) _)
              | (refine ⟨w1.heap.size, A', cp', rfl, ?_, ?_, ?_, ?_, ?_⟩
                 · go_simp; done
                 · first | omega | (simp; omega)
                 · omega
                 · exact own_setCell2 HO.out (by intro k hk; have hlk := HLO.out k hk; (try simp at hlk); (try simp); omega) _
                 · exact HBc.out.setCell (by first | omega | (simp; omega) | simp) _)
        case rest =>
          obtain ⟨g, A', cp', rfl, cg, hgl, hgw, HO, hbx⟩ := hcut
          obtain ⟨wx, rfl⟩ : ∃ x : World, x = wc := ⟨_, rfl⟩
          have HLEN : Hid ((compR l m).length = l.length) := by show (compR l m).length = l.length; unfold compR; rw [List.length_map]
          have cr1 : wx.cell? ⟨w.heap.size + 1 + 1, 0, none⟩ = some (.slice none 0 0) := (hbx.cell (p := ⟨w.heap.size + 1 + 1, 0, none⟩) hzw2).trans c2
          have fr1 : wx.frozen? ⟨w.heap.size + 1 + 1, 0, none⟩ = false := (hbx.frozen (p := ⟨w.heap.size + 1 + 1, 0, none⟩) hzw2).trans f2
          have HBX := Lib.hid hbx
          have hszx : w.heap.size + 3 ≤ wx.heap.size := by have := hbx.size; omega
          have HLX : Hid (Lst wx (.slice A' l.length cp') (strs (compR l m))) := by
            have := Lst.of_own HO.out
            exact this
          clear hbx c2 f2
          go_wp2_with fail
          refine (implSubstOk (compR l m) _ _ HLX.out (compR_small H1.out H2.out) (by rw [HLEN.out]; omega)).mono ?_
          rintro e w3 ⟨rfl, hb3⟩
          have d1 : w3.cell? ⟨w.heap.size + 1 + 1, 0, none⟩ = some (.slice none 0 0) := (hb3.cell (p := ⟨w.heap.size + 1 + 1, 0, none⟩) (by simp; omega)).trans cr1
          have e1 : w3.frozen? ⟨w.heap.size + 1 + 1, 0, none⟩ = false := (hb3.frozen (p := ⟨w.heap.size + 1 + 1, 0, none⟩) (by simp; omega)).trans fr1
          have d2 : w3.cell? ⟨g, 0, none⟩ = some (.slice A' l.length cp') := (hb3.cell (p := ⟨g, 0, none⟩) hgl).trans cg
          have HB3 := Lib.hid hb3
          have hz3 : wx.heap.size ≤ w3.heap.size := hb3.size
          clear hb3 cr1 fr1 cg
          by_cases h5 : substB (compR l m) = true
          · have HOK : Hid (compOk l m = true) := by show compOk l m = true; unfold compOk; rw [H1.out, H2.out, h5, decide_eq_true H3.out]; rfl
            have HSB : Hid (compSub l m = compR l m) := if_pos HOK.out
            go_wp2_with fail
            refine bodyPost_ret (v := .tuple #[.agg #[.slice A' l.length cp'], .bool true]) (by simp [results, Try.results23, go_sem, d1]) rfl ⟨.slice A' l.length cp', ?_, ?_, ?_⟩
            · rw [HOK.out]
            · rw [HSB.out, HLEN.out]
              exact own_mono (own_setCell (B := w1.heap.size) (own_below HO.out HB3.out) (by simp; omega) _) (by omega)
            · exact ((HB2.out.trans (HBX.out.mono (by omega))).trans (HB3.out.mono (by omega))).setCell (by simp; omega) _
          · have h5' : substB (compR l m) = false := by simpa using h5
            have HOK : Hid (compOk l m = false) := by show compOk l m = false; unfold compOk; rw [h5', Bool.and_false]
            have HSB : Hid (compSub l m = []) := if_neg (by rw [HOK.out]; decide)
            clear h5
            go_wp2_with fail
            refine bodyPost_ret (v := .tuple #[.agg #[.slice none 0 0], .bool false]) (by simp [results, Try.results23, go_sem, d1]) rfl ⟨.slice none 0 0, ?_, ?_, ?_⟩
            · rw [HOK.out]
            · rw [HSB.out]
              exact World.ownsRow_nil _ _ _ _
            · exact ((HB2.out.trans (HBX.out.mono (by omega))).trans (HB3.out.mono (by omega))).setCell (by simp; omega) _
      · have b3 : ((l.length : Int) != (m.length : Int)) = true := by rw [bne_iff_ne]; omega
        have HOK : Hid (compOk l m = false) := by show compOk l m = false; unfold compOk; rw [decide_eq_false h3]; simp
        have HSB : Hid (compSub l m = []) := if_neg (by rw [HOK.out]; decide)
        clear h3
        go_enter Try.func23, Try.ntmps23
        go_wp2_with fail
        refine (implSubstOk l _ _ HL.out HZ.out hn).mono ?_
        rintro e wa ⟨rfl, hba⟩
        obtain ⟨ha, hfa⟩ := below_reads hba
        have HBA := Lib.hid hba
        have a0 : wa.cell? ⟨w.heap.size, 0, none⟩ = some (.slice A l.length cp) := by rw [ha _ _ (by simp; omega)]; go_simp
        have a1 : wa.cell? ⟨w.heap.size + 1, 0, none⟩ = some (.slice B m.length cq) := by rw [ha _ _ (by simp)]; go_simp
        have a2 : wa.cell? ⟨w.heap.size + 1 + 1, 0, none⟩ = some (.slice none 0 0) := by rw [ha _ _ (by simp)]; go_simp
        have fa : wa.frozen? ⟨w.heap.size + 1 + 1, 0, none⟩ = false := by rw [hfa _ _ (by simp)]; go_simp
        have hza : w.heap.size + 3 ≤ wa.heap.size := by have := hba.size; simpa using this
        have HBW : Hid (Below w.heap.size w wa) := HB0.out.trans (hba.mono (by simp; omega))
        have hbz := build_zero
        clear hba ha hfa
        go_wp2_with fail
        refine (implSubstOk m _ _ (HM.out.below HBA.out) HZ'.out hn').mono ?_
        rintro e w1 ⟨rfl, hb1⟩
        have c0 : w1.cell? ⟨w.heap.size, 0, none⟩ = some (.slice A l.length cp) := (hb1.cell (p := ⟨w.heap.size, 0, none⟩) (by simp; omega)).trans a0
        have c1 : w1.cell? ⟨w.heap.size + 1, 0, none⟩ = some (.slice B m.length cq) := (hb1.cell (p := ⟨w.heap.size + 1, 0, none⟩) (by simp; omega)).trans a1
        have c2 : w1.cell? ⟨w.heap.size + 1 + 1, 0, none⟩ = some (.slice none 0 0) := (hb1.cell (p := ⟨w.heap.size + 1 + 1, 0, none⟩) (by simp; omega)).trans a2
        have f2 : w1.frozen? ⟨w.heap.size + 1 + 1, 0, none⟩ = false := (hb1.frozen (p := ⟨w.heap.size + 1 + 1, 0, none⟩) (by simp; omega)).trans fa
        have HB2 : Hid (Below w.heap.size w w1) := HBW.out.trans (hb1.mono (by omega))
        clear hb1 a0 a1 a2 fa
        go_wp2_with fail
        refine bodyPost_ret (v := .tuple #[.agg #[.slice none 0 0], .bool false]) (by simp [results, Try.results23, go_sem, c2]) rfl ⟨.slice none 0 0, ?_, ?_, ?_⟩
        · rw [HOK.out]
        · rw [HSB.out]
          exact World.ownsRow_nil _ _ _ _
        · exact HB2.out.setCell (by simp; omega) _
    · have h2' : substB m = false := by simpa using h2
      have HOK : Hid (compOk l m = false) := by show compOk l m = false; unfold compOk; rw [h2']; simp
      have HSB : Hid (compSub l m = []) := if_neg (by rw [HOK.out]; decide)
      clear h2
      go_enter Try.func23, Try.ntmps23
      go_wp2_with fail
      refine (implSubstOk l _ _ HL.out HZ.out hn).mono ?_
      rintro e wa ⟨rfl, hba⟩
      obtain ⟨ha, hfa⟩ := below_reads hba
      have HBA := Lib.hid hba
      have a0 : wa.cell? ⟨w.heap.size, 0, none⟩ = some (.slice A l.length cp) := by rw [ha _ _ (by simp; omega)]; go_simp
      have a1 : wa.cell? ⟨w.heap.size + 1, 0, none⟩ = some (.slice B m.length cq) := by rw [ha _ _ (by simp)]; go_simp
      have a2 : wa.cell? ⟨w.heap.size + 1 + 1, 0, none⟩ = some (.slice none 0 0) := by rw [ha _ _ (by simp)]; go_simp
      have fa : wa.frozen? ⟨w.heap.size + 1 + 1, 0, none⟩ = false := by rw [hfa _ _ (by simp)]; go_simp
      have hza : w.heap.size + 3 ≤ wa.heap.size := by have := hba.size; simpa using this
      have HBW : Hid (Below w.heap.size w wa) := HB0.out.trans (hba.mono (by simp; omega))
      have hbz := build_zero
      clear hba ha hfa
      go_wp2_with fail
      refine (implSubstOk m _ _ (HM.out.below HBA.out) HZ'.out hn').mono ?_
      rintro e w1 ⟨rfl, hb1⟩
      have c0 : w1.cell? ⟨w.heap.size, 0, none⟩ = some (.slice A l.length cp) := (hb1.cell (p := ⟨w.heap.size, 0, none⟩) (by simp; omega)).trans a0
      have c1 : w1.cell? ⟨w.heap.size + 1, 0, none⟩ = some (.slice B m.length cq) := (hb1.cell (p := ⟨w.heap.size + 1, 0, none⟩) (by simp; omega)).trans a1
      have c2 : w1.cell? ⟨w.heap.size + 1 + 1, 0, none⟩ = some (.slice none 0 0) := (hb1.cell (p := ⟨w.heap.size + 1 + 1, 0, none⟩) (by simp; omega)).trans a2
      have f2 : w1.frozen? ⟨w.heap.size + 1 + 1, 0, none⟩ = false := (hb1.frozen (p := ⟨w.heap.size + 1 + 1, 0, none⟩) (by simp; omega)).trans fa
      have HB2 : Hid (Below w.heap.size w w1) := HBW.out.trans (hb1.mono (by omega))
      clear hb1 a0 a1 a2 fa
      go_wp2_with fail
      refine bodyPost_ret (v := .tuple #[.agg #[.slice none 0 0], .bool false]) (by simp [results, Try.results23, go_sem, c2]) rfl ⟨.slice none 0 0, ?_, ?_, ?_⟩
      · rw [HOK.out]
      · rw [HSB.out]
        exact World.ownsRow_nil _ _ _ _
      · exact HB2.out.setCell (by simp; omega) _
  · have h1' : substB l = false := by simpa using h1
    have HOK : Hid (compOk l m = false) := by show compOk l m = false; unfold compOk; rw [h1']; simp
    have HSB : Hid (compSub l m = []) := if_neg (by rw [HOK.out]; decide)
    clear h1
    go_enter Try.func23, Try.ntmps23
    go_wp2_with fail
    refine (implSubstOk l _ _ HL.out HZ.out hn).mono ?_
    rintro e wa ⟨rfl, hba⟩
    obtain ⟨ha, hfa⟩ := below_reads hba
    have HBA := Lib.hid hba
    have a0 : wa.cell? ⟨w.heap.size, 0, none⟩ = some (.slice A l.length cp) := by rw [ha _ _ (by simp; omega)]; go_simp
    have a1 : wa.cell? ⟨w.heap.size + 1, 0, none⟩ = some (.slice B m.length cq) := by rw [ha _ _ (by simp)]; go_simp
    have a2 : wa.cell? ⟨w.heap.size + 1 + 1, 0, none⟩ = some (.slice none 0 0) := by rw [ha _ _ (by simp)]; go_simp
    have fa : wa.frozen? ⟨w.heap.size + 1 + 1, 0, none⟩ = false := by rw [hfa _ _ (by simp)]; go_simp
    have hza : w.heap.size + 3 ≤ wa.heap.size := by have := hba.size; simpa using this
    have HBW : Hid (Below w.heap.size w wa) := HB0.out.trans (hba.mono (by simp; omega))
    have hbz := build_zero
    clear hba ha hfa
    go_wp2_with fail
    refine bodyPost_ret (v := .tuple #[.agg #[.slice none 0 0], .bool false]) (by simp [results, Try.results23, go_sem, a2]) rfl ⟨.slice none 0 0, ?_, ?_, ?_⟩
    · rw [HOK.out]
    · rw [HSB.out]
      exact World.ownsRow_nil _ _ _ _
    · exact HBW.out.setCell (by simp; omega) _
end Go.Proofs.Ytgekhijjeojhaaa
