/- ComposeSubst of the model. Conditions: lengths of at most 2^20. -/
import Derived.Test.YtgekhijjeojhaaaSubRes
import Derived.Test.YtgekhijjeojhaaaApply
namespace Go.Proofs.Ytgekhijjeojhaaa
open Go.RowKit

set_option maxHeartbeats 2000000 in
theorem specComposeSubst (l m : List ByteArray) (v u : Value) (w : World) (h : Lst w v (strs l)) (h' : Lst w u (strs m)) (hz : ∀ x ∈ l, x.size ≤ 1048576) (hz' : ∀ x ∈ m, x.size ≤ 1048576) (hn : l.length ≤ 1048576) (hn' : m.length ≤ 1048576) :
    Calls Try.prog 22 #[.agg #[v], .agg #[u]] w (SubSaid (compSub l m) (compOk l m) w) := by
  obtain ⟨i0, hi0, hz0, hz1, hz2⟩ := info_parts str_info
  obtain ⟨A, cp, rfl⟩ := lst_slice h
  obtain ⟨B, cq, rfl⟩ := lst_slice h'
  rw [strs_length] at h h' ⊢
  rw [strs_length]
  have hb0 : Below w.heap.size w (((w.alloc (.cells #[.slice A l.length cp] 27)).alloc (.cells #[.slice B m.length cq] 27)).alloc (.cells #[.slice none 0 0] 27)) := (((Below.refl _ _).alloc (Nat.le_refl _) _).alloc (by simp) _).alloc (by simp; omega) _
  have HL := Lib.hid (h.below hb0)
  have HM := Lib.hid (h'.below hb0)
  have HZ := Lib.hid hz
  have HZ' := Lib.hid hz'
  have HB0 := Lib.hid hb0
  clear h h' hz hz' hb0
  by_cases h1 : substB l = true
  · by_cases h2 : substB m = true
    · by_cases h3 : l.length = m.length
      · have b3 : ((l.length : Int) != (m.length : Int)) = false := by rw [h3]; simp
        have H3 := Lib.hid h3
        obtain ⟨hl1, hl4, hl5⟩ := subst_parts h1
        have HI := Lib.hid hl5
        clear hl5 h3
        go_enter Try.func22, Try.ntmps22
        go_wp2_with fail
        refine (specSubstOk l _ _ HL.out HZ.out hn).mono ?_
        rintro e wa ⟨rfl, hba⟩
        obtain ⟨ha, hfa⟩ := below_reads hba
        have HBA := Lib.hid hba
        have a0 : wa.cell? ⟨w.heap.size, 0, none⟩ = some (.slice A l.length cp) := by rw [ha _ _ (by simp; omega)]; go_simp
        have a1 : wa.cell? ⟨w.heap.size + 1, 0, none⟩ = some (.slice B m.length cq) := by rw [ha _ _ (by simp)]; go_simp
        have a2 : wa.cell? ⟨w.heap.size + 1 + 1, 0, none⟩ = some (.slice none 0 0) := by rw [ha _ _ (by simp)]; go_simp
        have fa : wa.frozen? ⟨w.heap.size + 1 + 1, 0, none⟩ = false := by rw [hfa _ _ (by simp)]; go_simp
        have hza : w.heap.size + 3 ≤ wa.heap.size := by have := hba.size; simpa using this
        clear hba ha hfa
        go_wp2_with fail
        refine (specSubstOk m _ _ (HM.out.below HBA.out) HZ'.out hn').mono ?_
        rintro e w1 ⟨rfl, hb1⟩
        have HB1 := Lib.hid hb1
        have c0 : w1.cell? ⟨w.heap.size, 0, none⟩ = some (.slice A l.length cp) := (hb1.cell (p := ⟨w.heap.size, 0, none⟩) (by simp; omega)).trans a0
        have c1 : w1.cell? ⟨w.heap.size + 1, 0, none⟩ = some (.slice B m.length cq) := (hb1.cell (p := ⟨w.heap.size + 1, 0, none⟩) (by simp; omega)).trans a1
        have c2 : w1.cell? ⟨w.heap.size + 1 + 1, 0, none⟩ = some (.slice none 0 0) := (hb1.cell (p := ⟨w.heap.size + 1 + 1, 0, none⟩) (by simp; omega)).trans a2
        have f2 : w1.frozen? ⟨w.heap.size + 1 + 1, 0, none⟩ = false := (hb1.frozen (p := ⟨w.heap.size + 1 + 1, 0, none⟩) (by simp; omega)).trans fa
        have hzw : w.heap.size + 3 ≤ w1.heap.size := by have := hb1.size; omega
        have hzw0 : w.heap.size < w1.heap.size := by omega
        have hzw1 : w.heap.size + 1 < w1.heap.size := by omega
        have hzw2 : w.heap.size + 1 + 1 < w1.heap.size := by omega
        have HB2 : Hid (Below w.heap.size w w1) := (HB0.out.trans (HBA.out.mono (by simp; omega))).trans (hb1.mono (by omega))
        have HLL := Lib.hid ((HL.out.below HBA.out).below hb1)
        have HMM := Lib.hid ((HM.out.below HBA.out).below hb1)
        have hbz := build_zero
        clear hb1 a0 a1 a2 fa
        go_wp2_with fail
        obtain ⟨b, off, cp', hv, hat⟩ := lst_at HLL.out (by omega)
        injection hv with hA _ hcp
        subst hA; subst hcp
        have HAT := Lib.hid hat
        clear hat
        go_loopw [31] (fun i wr => ∃ (k : Nat) (o : Value), k ≤ l.length ∧ i = .int .i64 k ∧ wr.cell? ⟨w1.heap.size, 0, none⟩ = some o ∧ wr.frozen? ⟨w1.heap.size, 0, none⟩ = false ∧ wr.ownsRow (w1.heap.size + 1) 9 1 o k (strs (compR (l.take k) m)) ∧ Below w1.heap.size w1 wr ∧ w1.heap.size < wr.heap.size) (fun i _ => l.length - (intOf i).toNat)
        case atStart => exact ⟨0, _, Nat.zero_le _, rfl, by go_simp, by go_simp, World.ownsRow_nil _ _ _ _, (Below.refl _ _).alloc (Nat.le_refl _) _, by simp⟩
        case round =>
          obtain ⟨k, o, hk, rfl, co, fo, ho, hbk, hzr⟩ := hrel
          obtain ⟨A', cp2, rfl⟩ := own_slice ho
          have HO := Lib.hid ho
          have HBK := Lib.hid hbk
          by_cases hlt : k < l.length
          · have g1 : wr.cell? ⟨b, off + k, none⟩ = some (.string l[k]) := (hbk.cell (p := ⟨b, off + k, none⟩) (World.block_lt_of_cell? _ _ (HAT.out k hlt))).trans (HAT.out k hlt)
            have gt : wr.cell? ⟨w.heap.size + 1, 0, none⟩ = some (.slice B m.length cq) := (hbk.cell (p := ⟨w.heap.size + 1, 0, none⟩) hzw1).trans c1
            obtain ⟨q1, q2, q3, q4⟩ := img_parts (HI.out k hlt)
            have HAP := Lib.hid (fun (w' : World) (hw' : Below w1.heap.size w1 w') => specApplyShort m (.slice B m.length cq) l[k] w' (HMM.out.below hw') h2 q3 (by rw [← H3.out]; exact q4) q2)
            have HT := Lib.hid (compR_succ l m k hlt)
            clear ho hbk q1 q2 q3 q4
            go_wp2_with fail
            go_region_law (first
              | (refine step_own rfl (.tmp 36) (.tmp 40) 22 rfl (w1.heap.size + 1) 9 i0 _ 16 Try.underlying22 hi0 hz0 hz1 hz2 rfl _ k _ (by simp [Act.eval]) ((own_below (own_drewN HO.out 1) HB2'.out).alloc _) ⟨w2.heap.size, 0, none⟩ 1 1 [.string (stepS m l[k])] (by simp [Act.eval]) rfl (fun j u hu => cell_one _ _ _ j u hu) (fun u hu => by simp at hu; subst hu; rfl) (by unfold maxLen; omega) (by omega) (by simp; omega) ?_
                 intro v' w' hown' hbel'
                 obtain ⟨A3, cp3, rfl⟩ := own_slice hown'
                 have c3 : w'.cell? ⟨w1.heap.size, 0, none⟩ = some (.slice A' k cp2) := (hbel'.cell (p := ⟨w1.heap.size, 0, none⟩) (by simp)).trans (by go_simp)
                 have f3 : w'.frozen? ⟨w1.heap.size, 0, none⟩ = false := (hbel'.frozen (p := ⟨w1.heap.size, 0, none⟩) (by simp)).trans (by go_simp)
                 have HOW := Lib.hid hown'
                 have HBE := Lib.hid hbel'
                 clear hown' hbel')
              | (go_simp
                 go_wp2_with (go_at_call 45
                              refine (HAP.out _ (below_drewN HBK.out 1)).mono ?_
                              rintro e w2 ⟨rfl, hb2⟩
                              have c2' : w2.cell? ⟨w1.heap.size, 0, none⟩ = some (.slice A' k cp2) := (hb2.cell (p := ⟨w1.heap.size, 0, none⟩) (by simpa using hzr)).trans (by go_simp)
                              have f2' : w2.frozen? ⟨w1.heap.size, 0, none⟩ = false := (hb2.frozen (p := ⟨w1.heap.size, 0, none⟩) (by simpa using hzr)).trans (by go_simp)
                              have hz2' : w1.heap.size < w2.heap.size := by have := hb2.size; simp at this; omega
                              have HB2' := Lib.hid hb2
                              clear hb2)))
            all_goals
              go_wp2_with fail
              go_roundw
              case rel =>
                refine ⟨k + 1, .slice A3 (k + 1) cp3, by omega, by go_num, by go_simp, by go_simp, ?_, ?_, ?_⟩
                · rw [HT.out]
                  exact own_setCell HOW.out (by simp) _
                · exact (((below_drewN HBK.out 1).trans (HB2'.out.mono (by simp; omega))).trans ((Below.refl w1.heap.size _).alloc (by omega) _)).trans (HBE.out.mono (by omega)) |>.setCell (Nat.le_refl _) _
                · have := HBE.out.size
                  simp at this ⊢
                  omega
              case measure => simp [intOf]; omega
          · have hkl : k = l.length := by omega
            have cr1 : wr.cell? ⟨w.heap.size + 1 + 1, 0, none⟩ = some (.slice none 0 0) := (hbk.cell (p := ⟨w.heap.size + 1 + 1, 0, none⟩) hzw2).trans c2
            have fr1 : wr.frozen? ⟨w.heap.size + 1 + 1, 0, none⟩ = false := (hbk.frozen (p := ⟨w.heap.size + 1 + 1, 0, none⟩) hzw2).trans f2
            have HOC : Hid (wr.ownsRow (w1.heap.size + 1) 9 1 (.slice A' k cp2) k (strs (compR l m))) := by
              have := ho
              rw [hkl, List.take_length] at this
              rw [hkl]
              exact this
            have HLEN : Hid ((compR l m).length = k) := by show (compR l m).length = k; unfold compR; rw [List.length_map]; exact hkl.symm
            clear ho hbk hkl c0 c1 c2 f2
            go_wp2_with fail
            refine (specSubstOk (compR l m) _ _ (Lst.of_own HOC.out) (compR_small h1 h2) (by rw [HLEN.out]; omega)).mono ?_
            rintro e w3 ⟨rfl, hb3⟩
            have d1 : w3.cell? ⟨w.heap.size + 1 + 1, 0, none⟩ = some (.slice none 0 0) := (hb3.cell (p := ⟨w.heap.size + 1 + 1, 0, none⟩) (by simp; omega)).trans cr1
            have e1 : w3.frozen? ⟨w.heap.size + 1 + 1, 0, none⟩ = false := (hb3.frozen (p := ⟨w.heap.size + 1 + 1, 0, none⟩) (by simp; omega)).trans fr1
            have d2 : w3.cell? ⟨w1.heap.size, 0, none⟩ = some (.slice A' k cp2) := (hb3.cell (p := ⟨w1.heap.size, 0, none⟩) hzr).trans co
            have HB3 := Lib.hid hb3
            have hz3 : wr.heap.size ≤ w3.heap.size := hb3.size
            clear hb3 cr1 fr1 co fo
            by_cases h5 : substB (compR l m) = true
            · have HOK : Hid (compOk l m = true) := by show compOk l m = true; unfold compOk; rw [h1, h2, h5, decide_eq_true H3.out]; rfl
              have HSB : Hid (compSub l m = compR l m) := if_pos HOK.out
              go_wp2_with fail
              refine bodyPost_ret (v := .tuple #[.agg #[.slice A' k cp2], .bool true]) (by simp [results, Try.results22, go_sem, d1]) rfl ⟨.slice A' k cp2, ?_, ?_, ?_⟩
              · rw [HOK.out]
              · rw [HSB.out, HLEN.out]
                exact own_mono (own_setCell (own_below HOC.out HB3.out) (by simp; omega) _) (by omega)
              · exact ((HB2.out.trans (HBK.out.mono (by omega))).trans (HB3.out.mono (by omega))).setCell (by simp; omega) _
            · have h5' : substB (compR l m) = false := by simpa using h5
              have HOK : Hid (compOk l m = false) := by show compOk l m = false; unfold compOk; rw [h5', Bool.and_false]
              have HSB : Hid (compSub l m = []) := if_neg (by rw [HOK.out]; decide)
              clear h5
              go_wp2_with fail
              refine bodyPost_ret (v := .tuple #[.agg #[.slice none 0 0], .bool false]) (by simp [results, Try.results22, go_sem, d1]) rfl ⟨.slice none 0 0, ?_, ?_, ?_⟩
              · rw [HOK.out]
              · rw [HSB.out]
                exact World.ownsRow_nil _ _ _ _
              · exact ((HB2.out.trans (HBK.out.mono (by omega))).trans (HB3.out.mono (by omega))).setCell (by simp; omega) _
      · have b3 : ((l.length : Int) != (m.length : Int)) = true := by rw [bne_iff_ne]; omega
        have HOK : Hid (compOk l m = false) := by show compOk l m = false; unfold compOk; rw [decide_eq_false h3]; simp
        have HSB : Hid (compSub l m = []) := if_neg (by rw [HOK.out]; decide)
        clear h3
        go_enter Try.func22, Try.ntmps22
        go_wp2_with fail
        refine (specSubstOk l _ _ HL.out HZ.out hn).mono ?_
        rintro e wa ⟨rfl, hba⟩
        obtain ⟨ha, hfa⟩ := below_reads hba
        have HBA := Lib.hid hba
        have a0 : wa.cell? ⟨w.heap.size, 0, none⟩ = some (.slice A l.length cp) := by rw [ha _ _ (by simp; omega)]; go_simp
        have a1 : wa.cell? ⟨w.heap.size + 1, 0, none⟩ = some (.slice B m.length cq) := by rw [ha _ _ (by simp)]; go_simp
        have a2 : wa.cell? ⟨w.heap.size + 1 + 1, 0, none⟩ = some (.slice none 0 0) := by rw [ha _ _ (by simp)]; go_simp
        have fa : wa.frozen? ⟨w.heap.size + 1 + 1, 0, none⟩ = false := by rw [hfa _ _ (by simp)]; go_simp
        have hza : w.heap.size + 3 ≤ wa.heap.size := by have := hba.size; simpa using this
        have HBW : Hid (Below w.heap.size w wa) := HB0.out.trans (hba.mono (by simp; omega))
        have hbz := build_zero
        clear hba ha hfa
        go_wp2_with fail
        refine (specSubstOk m _ _ (HM.out.below HBA.out) HZ'.out hn').mono ?_
        rintro e w1 ⟨rfl, hb1⟩
        have c0 : w1.cell? ⟨w.heap.size, 0, none⟩ = some (.slice A l.length cp) := (hb1.cell (p := ⟨w.heap.size, 0, none⟩) (by simp; omega)).trans a0
        have c1 : w1.cell? ⟨w.heap.size + 1, 0, none⟩ = some (.slice B m.length cq) := (hb1.cell (p := ⟨w.heap.size + 1, 0, none⟩) (by simp; omega)).trans a1
        have c2 : w1.cell? ⟨w.heap.size + 1 + 1, 0, none⟩ = some (.slice none 0 0) := (hb1.cell (p := ⟨w.heap.size + 1 + 1, 0, none⟩) (by simp; omega)).trans a2
        have f2 : w1.frozen? ⟨w.heap.size + 1 + 1, 0, none⟩ = false := (hb1.frozen (p := ⟨w.heap.size + 1 + 1, 0, none⟩) (by simp; omega)).trans fa
        have HB2 : Hid (Below w.heap.size w w1) := HBW.out.trans (hb1.mono (by omega))
        clear hb1 a0 a1 a2 fa
        go_wp2_with fail
        refine bodyPost_ret (v := .tuple #[.agg #[.slice none 0 0], .bool false]) (by simp [results, Try.results22, go_sem, c2]) rfl ⟨.slice none 0 0, ?_, ?_, ?_⟩
        · rw [HOK.out]
        · rw [HSB.out]
          exact World.ownsRow_nil _ _ _ _
        · exact HB2.out.setCell (by simp; omega) _
    · have h2' : substB m = false := by simpa using h2
      have HOK : Hid (compOk l m = false) := by show compOk l m = false; unfold compOk; rw [h2']; simp
      have HSB : Hid (compSub l m = []) := if_neg (by rw [HOK.out]; decide)
      clear h2
      go_enter Try.func22, Try.ntmps22
      go_wp2_with fail
      refine (specSubstOk l _ _ HL.out HZ.out hn).mono ?_
      rintro e wa ⟨rfl, hba⟩
      obtain ⟨ha, hfa⟩ := below_reads hba
      have HBA := Lib.hid hba
      have a0 : wa.cell? ⟨w.heap.size, 0, none⟩ = some (.slice A l.length cp) := by rw [ha _ _ (by simp; omega)]; go_simp
      have a1 : wa.cell? ⟨w.heap.size + 1, 0, none⟩ = some (.slice B m.length cq) := by rw [ha _ _ (by simp)]; go_simp
      have a2 : wa.cell? ⟨w.heap.size + 1 + 1, 0, none⟩ = some (.slice none 0 0) := by rw [ha _ _ (by simp)]; go_simp
      have fa : wa.frozen? ⟨w.heap.size + 1 + 1, 0, none⟩ = false := by rw [hfa _ _ (by simp)]; go_simp
      have hza : w.heap.size + 3 ≤ wa.heap.size := by have := hba.size; simpa using this
      have HBW : Hid (Below w.heap.size w wa) := HB0.out.trans (hba.mono (by simp; omega))
      have hbz := build_zero
      clear hba ha hfa
      go_wp2_with fail
      refine (specSubstOk m _ _ (HM.out.below HBA.out) HZ'.out hn').mono ?_
      rintro e w1 ⟨rfl, hb1⟩
      have c0 : w1.cell? ⟨w.heap.size, 0, none⟩ = some (.slice A l.length cp) := (hb1.cell (p := ⟨w.heap.size, 0, none⟩) (by simp; omega)).trans a0
      have c1 : w1.cell? ⟨w.heap.size + 1, 0, none⟩ = some (.slice B m.length cq) := (hb1.cell (p := ⟨w.heap.size + 1, 0, none⟩) (by simp; omega)).trans a1
      have c2 : w1.cell? ⟨w.heap.size + 1 + 1, 0, none⟩ = some (.slice none 0 0) := (hb1.cell (p := ⟨w.heap.size + 1 + 1, 0, none⟩) (by simp; omega)).trans a2
      have f2 : w1.frozen? ⟨w.heap.size + 1 + 1, 0, none⟩ = false := (hb1.frozen (p := ⟨w.heap.size + 1 + 1, 0, none⟩) (by simp; omega)).trans fa
      have HB2 : Hid (Below w.heap.size w w1) := HBW.out.trans (hb1.mono (by omega))
      clear hb1 a0 a1 a2 fa
      go_wp2_with fail
      refine bodyPost_ret (v := .tuple #[.agg #[.slice none 0 0], .bool false]) (by simp [results, Try.results22, go_sem, c2]) rfl ⟨.slice none 0 0, ?_, ?_, ?_⟩
      · rw [HOK.out]
      · rw [HSB.out]
        exact World.ownsRow_nil _ _ _ _
      · exact HB2.out.setCell (by simp; omega) _
  · have h1' : substB l = false := by simpa using h1
    have HOK : Hid (compOk l m = false) := by show compOk l m = false; unfold compOk; rw [h1']; simp
    have HSB : Hid (compSub l m = []) := if_neg (by rw [HOK.out]; decide)
    clear h1
    go_enter Try.func22, Try.ntmps22
    go_wp2_with fail
    refine (specSubstOk l _ _ HL.out HZ.out hn).mono ?_
    rintro e wa ⟨rfl, hba⟩
    obtain ⟨ha, hfa⟩ := below_reads hba
    have HBA := Lib.hid hba
    have a0 : wa.cell? ⟨w.heap.size, 0, none⟩ = some (.slice A l.length cp) := by rw [ha _ _ (by simp; omega)]; go_simp
    have a1 : wa.cell? ⟨w.heap.size + 1, 0, none⟩ = some (.slice B m.length cq) := by rw [ha _ _ (by simp)]; go_simp
    have a2 : wa.cell? ⟨w.heap.size + 1 + 1, 0, none⟩ = some (.slice none 0 0) := by rw [ha _ _ (by simp)]; go_simp
    have fa : wa.frozen? ⟨w.heap.size + 1 + 1, 0, none⟩ = false := by rw [hfa _ _ (by simp)]; go_simp
    have hza : w.heap.size + 3 ≤ wa.heap.size := by have := hba.size; simpa using this
    have HBW : Hid (Below w.heap.size w wa) := HB0.out.trans (hba.mono (by simp; omega))
    have hbz := build_zero
    clear hba ha hfa
    go_wp2_with fail
    refine bodyPost_ret (v := .tuple #[.agg #[.slice none 0 0], .bool false]) (by simp [results, Try.results22, go_sem, a2]) rfl ⟨.slice none 0 0, ?_, ?_, ?_⟩
    · rw [HOK.out]
    · rw [HSB.out]
      exact World.ownsRow_nil _ _ _ _
    · exact HBW.out.setCell (by simp; omega) _
end Go.Proofs.Ytgekhijjeojhaaa
