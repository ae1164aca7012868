/- Texts put together. -/
import Derived.Test.YtgidfainoijcmaaMg5
import Derived.Test.YtgidfainoijcmaaMg15
import Derived.Test.YtgidfainoijcmaaMg7
import Derived.Test.YtgidfainoijcmaaMg13
import Derived.Test.YtgidfainoijcmaaMg10
import Derived.Deep.DeepCutAuto
import Derived.Deep.RegionHeld3
import Derived.Test.YtgidfainoijcmaaMg3
import Derived.Test.YtgidfainoijcmaaMg1
import Derived.Deep.WholeRow
import Derived.Deep.MidRow
import Derived.Laws.CopyOwn
import Derived.Test.YtgidfainoijcmaaRows
import Derived.Lib.Hide
import Derived.OwnWalk
/- TurnSubst of the model. Conditions: lengths of at most 2^20. -/
namespace Go.Proofs.Ytgidfainoijcmaa
open Go.RowKit

def turnL (l : List ByteArray) : List ByteArray := l.map turnS
def turnSub (l : List ByteArray) : List ByteArray := if substB l = true then turnL l else []
theorem turnSub_le (l : List ByteArray) : (turnSub l).length ≤ 4 := by
  unfold turnSub; split
  · rename_i h; have := (subst_parts h).2.1; unfold turnL; rw [List.length_map]; exact this
  · simp
theorem turnL_succ (l : List ByteArray) (k : Nat) (hk : k < l.length) : strs (turnL (l.take (k + 1))) = strs (turnL (l.take k)) ++ [.string (turnS l[k])] := by
  unfold turnL
  rw [List.take_succ_eq_append_getElem hk, List.map_append, List.map_cons, List.map_nil, strs_snoc]

end Go.Proofs.Ytgidfainoijcmaa

/- changed of the program: each image turned, each image written by another table. Condition: the substitution is valid. -/
namespace Go.Proofs.Ytgidfainoijcmaa
open Go.RowKit
set_option maxHeartbeats 400000 in
theorem implChangedWrite (l : List ByteArray) (v : Value) (m : List ByteArray) (g S cq : Nat) (w : World) (h : Lst w v (strs l)) (hl : substB l = true) (ht : ImgTab w S g m) (hm : substB m = true) (hlm : l.length = m.length) :
    Calls Try.prog 53 #[.agg #[v], .func (.func 55) #[.slice (some ⟨g, 0, none⟩) m.length cq] #[]] w fun e w' => ∃ v', e = .returned (.agg #[v']) ∧ w'.ownsRow w.heap.size 9 1 v' l.length (strs (compR l m)) ∧ Below w.heap.size w w' := by
  obtain ⟨i0, hi0, hz0, hz1, hz2⟩ := info_parts str_info
  obtain ⟨hl1, hl4, hl5⟩ := subst_parts hl
  obtain ⟨b, off, cp, rfl, hat⟩ := lst_at h (by omega)
  have H1 := Lib.hid hat
  have HI := Lib.hid hl5
  have hbw := World.block_lt_of_cell? w _ (hat 0 (by omega))
  have HT : Hid (ImgTab w S g m) := ht
  have HWR0 : Hid (∀ k (hk : k < l.length) (wr : World), Below w.heap.size w wr → Calls Try.prog 55 #[.slice (some ⟨g, 0, none⟩) m.length cq, .string l[k]] wr fun e w' => e = .returned (.string (stepS m l[k])) ∧ Below wr.heap.size wr w') := by
    intro k hk wr hb
    obtain ⟨q1, q2, q3, q4⟩ := img_parts (hl5 k hk)
    exact implWrite m g S cq l[k] wr (ImgTab.below HT.out hb) hm q3 (by rw [← hlm]; exact q4)
  clear ht hm hlm
  clear h hat hl5
  have hb0 : Below w.heap.size w ((w.alloc (.cells #[.slice (some ⟨b, off, none⟩) l.length cp] 25)).alloc (.cells #[.slice none 0 0] 25)) := ((Below.refl _ _).alloc (Nat.le_refl _) _).alloc (by simp) _
  go_enter Try.func53, Try.ntmps53
  go_wp2_with (at_make; refine wpList_make_full _ rfl _ _ 23 rfl (w.heap.size + 2) 9 i0 (.string ⟨#[]⟩) 1 Try.underlying23 hi0 hz0 hz1 .i64 .i64 _ _ l.length rfl rfl rfl rfl (by rw [hz2]; omega) (by unfold maxLen; omega) (by simp) ?_; intro w1 hown hgrow; have c0 : w1.cell? ⟨w.heap.size, 0, none⟩ = some (.slice (some ⟨b, off, none⟩) l.length cp) := (hgrow.cell (a := ⟨w.heap.size, 0, none⟩) (by go_simp) (by simp)); have c1 : w1.cell? ⟨w.heap.size + 1, 0, none⟩ = some (.slice none 0 0) := (hgrow.cell (a := ⟨w.heap.size + 1, 0, none⟩) (by go_simp) (by simp)))
  have HBG : Hid (Below (w.heap.size + 2) ((w.alloc (.cells #[.slice (some ⟨b, off, none⟩) l.length cp] 25)).alloc (.cells #[.slice none 0 0] 25)) w1) := (Below.refl _ _).grown hgrow (by simp) (fun k hk => by cases hk)
  have f1 : w1.frozen? ⟨w.heap.size + 1, 0, none⟩ = false := (HBG.out.frozen (p := ⟨w.heap.size + 1, 0, none⟩) (by simp)).trans (by go_simp)
  have HB1 : Hid (Below w.heap.size w w1) := hb0.trans (HBG.out.mono (by simp))
  have hsz1 : w.heap.size + 3 ≤ w1.heap.size := by
    have h1 := (hown.lt (w.heap.size + 2) (by simp [Value.ownBlock])).2
    omega
  have HCL : Hid ((strs (compR l m)).length = l.length) := by show (strs (compR l m)).length = l.length; rw [strs_length]; exact List.length_map _
  have HZL : Hid (((madeCells (Value.string ⟨#[]⟩).cells (l.length * 1)).toList).length = (strs (compR l m)).length) := by
    have := hown.1
    have := HCL.out
    unfold Hid
    omega
  have HCA : Hid (∀ k (hk : k < l.length) (h : k < (strs (compR l m)).length), (strs (compR l m))[k] = .string (stepS m l[k])) := by
    intro k hk h
    simp [strs, compR]
  generalize (madeCells (Value.string ⟨#[]⟩).cells (l.length * 1)).toList = zs at hown HZL
  generalize hLL : strs (compR l m) = L at HZL HCL HCA
  have HLL := Lib.hid hLL
  clear hLL hgrow hb0
  go_loopw [15] (fun i wr => ∃ k : Nat, k ≤ l.length ∧ i = .int .i64 k ∧ wr.ownsRow (w.heap.size + 2) 9 1 (.slice (some ⟨w.heap.size + 2, 0, none⟩) l.length l.length) l.length (L.take k ++ zs.drop k) ∧ Below (w.heap.size + 2) w1 wr) (fun i _ => l.length - (intOf i).toNat)
  case atStart => exact ⟨0, by omega, rfl, by simpa using hown, Below.refl _ _⟩
  case round =>
    obtain ⟨k, hk, rfl, ho, hbk⟩ := hrel
    have HBK := Lib.hid hbk
    have HO := Lib.hid ho
    have hszr : w.heap.size + 3 ≤ wr.heap.size := by have := hbk.size; omega
    clear ho hbk
    by_cases hlt : k < l.length
    · have hkL : k < L.length := by rw [HCL.out]; exact hlt
      obtain ⟨u, hu⟩ := lay_get L zs k hkL HZL.out
      have g1 : wr.cell? ⟨b, off + k, none⟩ = some (.string l[k]) := (HBK.out.cell (p := ⟨b, off + k, none⟩) (by simp; omega)).trans ((HB1.out.cell (p := ⟨b, off + k, none⟩) hbw).trans (H1.out k hlt))
      obtain ⟨q1, q2, q3, q4⟩ := img_parts (HI.out k hlt)
      have HU := Lib.hid hu
      clear hu
      go_wp2_with fail
      refine (HWR0.out k hlt wr (HB1.out.trans (HBK.out.mono (by omega)))).mono ?_
      rintro e w2 ⟨rfl, hb2⟩
      have ho2 := own_below HO.out hb2
      have g2 := (ho2.cellAt k (by omega)).trans HU.out
      have g3 := ho2.frozenAt k
      have HO2 := Lib.hid ho2
      have HB2 := Lib.hid hb2
      clear ho2 hb2
      go_wp2_with fail
      go_roundw
      case rel =>
        refine ⟨k + 1, by omega, by go_num, ?_, (HBK.out.trans (HB2.out.mono (by omega))).setCell (by simp) _⟩
        have := (HO2.out.stored k (.string (stepS m l[k]))).1
        rw [← HCA.out k hlt hkL, lay_set L zs k hkL HZL.out] at this
        rw [HCA.out k hlt hkL] at this
        exact this
      case measure => simp [intOf]; omega
    · have hkl : k = l.length := by omega
      have e : L.take k ++ zs.drop k = L := by rw [hkl, ← HCL.out]; exact lay_end L zs HZL.out
      have HO2 := Lib.hid HO.out
      rw [e] at HO2
      have cr1 : wr.cell? ⟨w.heap.size + 1, 0, none⟩ = some (.slice none 0 0) := (HBK.out.cell (p := ⟨w.heap.size + 1, 0, none⟩) (by simp)).trans c1
      have fr1 : wr.frozen? ⟨w.heap.size + 1, 0, none⟩ = false := (HBK.out.frozen (p := ⟨w.heap.size + 1, 0, none⟩) (by simp)).trans f1
      have hbd := build_sub (some ⟨w.heap.size + 2, 0, none⟩) l.length l.length
      clear e hkl
      go_wp2_with fail
      refine bodyPost_ret (v := .agg #[.slice (some ⟨w.heap.size + 2, 0, none⟩) l.length l.length]) (by simp [results, Try.results53, go_sem, cr1]) rfl ⟨_, rfl, ?_, ?_⟩
      · rw [HLL.out]
        exact own_mono (own_setCell (B := w.heap.size + 2) HO2.out (by simp) _) (by omega)
      · exact (HB1.out.trans (HBK.out.mono (by omega))).setCell (by simp) _
end Go.Proofs.Ytgidfainoijcmaa

/- ComposeSubst of the program. Conditions: lengths of at most 2^20. -/
namespace Go.Proofs.Ytgidfainoijcmaa
open Go.RowKit

set_option maxHeartbeats 2000000 in
set_option maxRecDepth 100000 in
theorem implComposeSubst (l m : List ByteArray) (v u : Value) (w : World) (h : Lst w v (strs l)) (h' : Lst w u (strs m)) (hz : ∀ x ∈ l, x.size ≤ 1048576) (hz' : ∀ x ∈ m, x.size ≤ 1048576) (hn : l.length ≤ 1048576) (hn' : m.length ≤ 1048576) :
    Calls Try.prog 15 #[.agg #[v], .agg #[u]] w (SubSaid (compSub l m) (compOk l m) w) := by
  obtain ⟨i0, hi0, hz0, hz1, hz2⟩ := info_parts str_info
  obtain ⟨A, cp, rfl⟩ := lst_slice h
  obtain ⟨B, cq, rfl⟩ := lst_slice h'
  rw [strs_length] at h h' ⊢
  rw [strs_length]
  have hb0 : Below w.heap.size w (((w.alloc (.cells #[.slice A l.length cp] 25)).alloc (.cells #[.slice B m.length cq] 25)).alloc (.cells #[.slice none 0 0] 25)) := (((Below.refl _ _).alloc (Nat.le_refl _) _).alloc (by simp) _).alloc (by simp; omega) _
  have HL := Lib.hid (h.below hb0)
  have HM := Lib.hid (h'.below hb0)
  have HZ := Lib.hid hz
  have HZ' := Lib.hid hz'
  have HB0 := Lib.hid hb0
  clear h h' hz hz' hb0
  by_cases h1 : substB l = true
  · by_cases h2 : substB m = true
    · by_cases h3 : l.length = m.length
      · have b3 : ((l.length : Int) != (m.length : Int)) = false := by rw [h3]; simp
        have H3 := Lib.hid h3
        obtain ⟨hl1, hl4, hl5⟩ := subst_parts h1
        have HI := Lib.hid hl5
        clear hl5 h3
        go_enter Try.func15, Try.ntmps15
        go_wp2_with fail
        refine (implSubstOk l _ _ HL.out HZ.out hn).mono ?_
        rintro e wa ⟨rfl, hba⟩
        obtain ⟨ha, hfa⟩ := below_reads hba
        have HBA := Lib.hid hba
        have a0 : wa.cell? ⟨w.heap.size, 0, none⟩ = some (.slice A l.length cp) := by rw [ha _ _ (by simp; omega)]; go_simp
        have a1 : wa.cell? ⟨w.heap.size + 1, 0, none⟩ = some (.slice B m.length cq) := by rw [ha _ _ (by simp)]; go_simp
        have a2 : wa.cell? ⟨w.heap.size + 1 + 1, 0, none⟩ = some (.slice none 0 0) := by rw [ha _ _ (by simp)]; go_simp
        have fa : wa.frozen? ⟨w.heap.size + 1 + 1, 0, none⟩ = false := by rw [hfa _ _ (by simp)]; go_simp
        have hza : w.heap.size + 3 ≤ wa.heap.size := by have := hba.size; simpa using this
        clear hba ha hfa
        go_wp2_with fail
        refine (implSubstOk m _ _ (HM.out.below HBA.out) HZ'.out hn').mono ?_
        rintro e w1 ⟨rfl, hb1⟩
        have HB1 := Lib.hid hb1
        have c0 : w1.cell? ⟨w.heap.size, 0, none⟩ = some (.slice A l.length cp) := (hb1.cell (p := ⟨w.heap.size, 0, none⟩) (by simp; omega)).trans a0
        have c1 : w1.cell? ⟨w.heap.size + 1, 0, none⟩ = some (.slice B m.length cq) := (hb1.cell (p := ⟨w.heap.size + 1, 0, none⟩) (by simp; omega)).trans a1
        have c2 : w1.cell? ⟨w.heap.size + 1 + 1, 0, none⟩ = some (.slice none 0 0) := (hb1.cell (p := ⟨w.heap.size + 1 + 1, 0, none⟩) (by simp; omega)).trans a2
        have f2 : w1.frozen? ⟨w.heap.size + 1 + 1, 0, none⟩ = false := (hb1.frozen (p := ⟨w.heap.size + 1 + 1, 0, none⟩) (by simp; omega)).trans fa
        have hzw : w.heap.size + 3 ≤ w1.heap.size := by have := hb1.size; omega
        have hzw0 : w.heap.size < w1.heap.size := by omega
        have hzw1 : w.heap.size + 1 < w1.heap.size := by omega
        have hzw2 : w.heap.size + 1 + 1 < w1.heap.size := by omega
        have HB2 : Hid (Below w.heap.size w w1) := (HB0.out.trans (HBA.out.mono (by simp; omega))).trans (hb1.mono (by omega))
        have HLL := Lib.hid ((HL.out.below HBA.out).below hb1)
        have HMM := Lib.hid ((HM.out.below HBA.out).below hb1)
        have hbz := build_zero
        obtain ⟨hm1, hm4, _⟩ := subst_parts h2
        have H1 := Lib.hid h1
        have H2 := Lib.hid h2
        have ccp0 := c0
        have ccp1 := c1
        have zzp0 := hzw0
        have zzp1 := hzw1
        clear hb1 a0 a1 a2 fa c0 c1
        go_upto_region 3 with (fail)
        go_cut [6] (fun s wx => ∃ (g : Nat) (A' : Option Addr) (cp' : Nat), s = .pointer (some ⟨g, 0, none⟩) ∧ wx.cell? ⟨g, 0, none⟩ = some (.slice A' l.length cp') ∧ g < wx.heap.size ∧ w1.heap.size ≤ g ∧ Hid (wx.ownsRow w1.heap.size 9 1 (.slice A' l.length cp') l.length (strs (compR l m))) ∧ Below w1.heap.size w1 wx)
        case first =>
          have HBc : Hid (Below w1.heap.size w1 w1.drew) := below_drewN (Below.refl _ _) 1
          go_region_held3 (fun w' => w'.cell? ⟨w.heap.size, 0, none⟩ = some (.slice A l.length cp) ∧ w'.cell? ⟨w.heap.size + 1, 0, none⟩ = some (.slice B m.length cq))
            (first | exact ⟨ccp0, ccp1⟩ | (refine ⟨?_, ?_⟩ <;> (first | assumption | (go_simp; done))))
            (first
              | (go_at_call 54
                 refine (implTable m _ _ (by first | exact HMM.out.below HBc.out | exact HMM.out.below (HBc.out.alloc HBc.out.size _) | exact HMM.out.below (below_drewN ((Below.refl _ _).alloc (Nat.le_refl _) _) 1)) hm1 hm4).mono ?_
                 rintro e wt ⟨g0, S0, rfl, ht, hb⟩
                 have HT : Hid (ImgTab wt S0 g0 m) := ht
                 have hszxwt := hb.size
                 try simp at hszxwt
                 replace ccp0 : wt.cell? ⟨w.heap.size, 0, none⟩ = some (.slice A l.length cp) := (hb.cell (p := ⟨w.heap.size, 0, none⟩) (by first | assumption | (simp; omega) | simp)).trans (by first | assumption | go_simp)
                 replace ccp1 : wt.cell? ⟨w.heap.size + 1, 0, none⟩ = some (.slice B m.length cq) := (hb.cell (p := ⟨w.heap.size + 1, 0, none⟩) (by first | assumption | (simp; omega) | simp)).trans (by first | assumption | go_simp)
                 replace zzp0 : w.heap.size < wt.heap.size := by omega
                 replace zzp1 : w.heap.size + 1 < wt.heap.size := by omega
                 try (have qcs : wt.cell? ⟨w1.heap.size, 0, none⟩ = some (.slice none 0 0) := ?_
                      rotate_left
                      · refine (hb.cell (p := ⟨w1.heap.size, 0, none⟩) ?_).trans ?_
                        · first | assumption | omega | (simp; omega) | (simp; done)
                        · first | assumption | (go_simp; done))
                 try (have qfs : wt.frozen? ⟨w1.heap.size, 0, none⟩ = false := ?_
                      rotate_left
                      · refine (hb.frozen (p := ⟨w1.heap.size, 0, none⟩) ?_).trans ?_
                        · first | assumption | omega | (simp; omega) | (simp; done)
                        · first | assumption | (go_simp; done))
                 replace HBc : Hid (Below w1.heap.size w1 wt) := by first | exact HBc.out.trans (hb.mono HBc.out.size) | exact (HBc.out.alloc HBc.out.size _).trans (hb.mono (by have := HBc.out.size; simp at this ⊢; omega)) | exact (below_drewN ((Below.refl _ _).alloc (Nat.le_refl _) _) 1).trans (hb.mono (by simp))
                 have hstwt : w1.heap.size ≤ wt.heap.size := HBc.out.size
                 clear hb ht)
              | (go_at_call 53
                 refine (implChangedWrite l _ m g0 S0 _ _ (by first | exact HLL.out.below HBc.out | exact HLL.out.below (HBc.out.alloc HBc.out.size _)) H1.out (by first | exact HT.out | exact ImgTab.below HT.out ((Below.refl _ _).alloc (Nat.le_refl _) _)) H2.out H3.out).mono ?_
                 rintro e wc ⟨v', rfl, ho, hb⟩
                 obtain ⟨A', cp', rfl⟩ := own_slice ho
                 have HLO := Lib.hid ho.lt
                 have hszxwc := hb.size
                 try simp at hszxwc
                 replace ccp0 : wc.cell? ⟨w.heap.size, 0, none⟩ = some (.slice A l.length cp) := (hb.cell (p := ⟨w.heap.size, 0, none⟩) (by first | assumption | (simp; omega) | simp)).trans (by first | assumption | go_simp)
                 replace ccp1 : wc.cell? ⟨w.heap.size + 1, 0, none⟩ = some (.slice B m.length cq) := (hb.cell (p := ⟨w.heap.size + 1, 0, none⟩) (by first | assumption | (simp; omega) | simp)).trans (by first | assumption | go_simp)
                 replace zzp0 : w.heap.size < wc.heap.size := by omega
                 replace zzp1 : w.heap.size + 1 < wc.heap.size := by omega
                 try (have qcs : wc.cell? ⟨w1.heap.size, 0, none⟩ = some (.slice none 0 0) := ?_
                      rotate_left
                      · refine (hb.cell (p := ⟨w1.heap.size, 0, none⟩) ?_).trans ?_
                        · first | assumption | omega | (simp; omega) | (simp; done)
                        · first | assumption | (go_simp; done))
                 try (have qfs : wc.frozen? ⟨w1.heap.size, 0, none⟩ = false := ?_
                      rotate_left
                      · refine (hb.frozen (p := ⟨w1.heap.size, 0, none⟩) ?_).trans ?_
                        · first | assumption | omega | (simp; omega) | (simp; done)
                        · first | assumption | (go_simp; done))
                 try (have qct : wc.cell? ⟨wt.heap.size, 0, none⟩ = some (.slice none 0 0) := ?_
                      rotate_left
                      · refine (hb.cell (p := ⟨wt.heap.size, 0, none⟩) ?_).trans ?_
                        · first | assumption | omega | (simp; omega) | (simp; done)
                        · first | assumption | (go_simp; done))
                 try (have qft : wc.frozen? ⟨wt.heap.size, 0, none⟩ = false := ?_
                      rotate_left
                      · refine (hb.frozen (p := ⟨wt.heap.size, 0, none⟩) ?_).trans ?_
                        · first | assumption | omega | (simp; omega) | (simp; done)
                        · first | assumption | (go_simp; done))
                 replace HBc : Hid (Below w1.heap.size w1 wc) := by first | exact HBc.out.trans (hb.mono HBc.out.size) | exact (HBc.out.alloc HBc.out.size _).trans (hb.mono (by have := HBc.out.size; simp at this ⊢; omega)) | exact (below_drewN ((Below.refl _ _).alloc (Nat.le_refl _) _) 1).trans (hb.mono (by simp))
                 have hstwc : w1.heap.size ≤ wc.heap.size := HBc.out.size
                 have HO : Hid (wc.ownsRow w1.heap.size 9 1 (.slice A' l.length cp') l.length (strs (compR l m))) := own_mono ho (by first | omega | (simp; omega))
                 clear hb ho))
          all_goals
            go_wp2_with fail
            go_meet
            first
              | (refine ⟨wc.heap.size, A', cp', rfl, ?_, ?_, ?_, ?_, ?_⟩
                 · rw [World.cell?_alloc_at _ _ _ _ rfl]; rfl
                 · simp; done
                 · omega
                 · exact own_below HO.out ((Below.refl _ _).alloc (Nat.le_refl _) _)
                 · exact HBc.out.alloc HBc.out.size _)
              | (refine ⟨wt.heap.size, A', cp', rfl, ?_, ?_, ?_, ?_, ?_⟩
                 · go_simp; done
                 · first | omega | (simp; omega)
                 · omega
                 · exact own_setCell2 HO.out (by intro k hk; have hlk := HLO.out k hk; (try simp at hlk); (try simp); omega) _
                 · exact HBc.out.setCell (by first | omega | (simp; omega)) _)
              | (refine ⟨w1.heap.size, A', cp', rfl, ?_, ?_, ?_, ?_, ?_⟩
                 · go_simp; done
                 · first | omega | (simp; omega)
                 · omega
                 · exact own_setCell2 HO.out (by intro k hk; have hlk := HLO.out k hk; (try simp at hlk); (try simp); omega) _
                 · exact HBc.out.setCell (by first | omega | (simp; omega) | simp) _)
        case rest =>
          obtain ⟨g, A', cp', rfl, cg, hgl, hgw, HO, hbx⟩ := hcut
          obtain ⟨wx, rfl⟩ : ∃ x : World, x = wc := ⟨_, rfl⟩
          have HLEN : Hid ((compR l m).length = l.length) := by show (compR l m).length = l.length; unfold compR; rw [List.length_map]
          have cr1 : wx.cell? ⟨w.heap.size + 1 + 1, 0, none⟩ = some (.slice none 0 0) := (hbx.cell (p := ⟨w.heap.size + 1 + 1, 0, none⟩) hzw2).trans c2
          have fr1 : wx.frozen? ⟨w.heap.size + 1 + 1, 0, none⟩ = false := (hbx.frozen (p := ⟨w.heap.size + 1 + 1, 0, none⟩) hzw2).trans f2
          have HBX := Lib.hid hbx
          have hszx : w.heap.size + 3 ≤ wx.heap.size := by have := hbx.size; omega
          have HLX : Hid (Lst wx (.slice A' l.length cp') (strs (compR l m))) := by
            have := Lst.of_own HO.out
            exact this
          clear hbx c2 f2
          go_wp2_with fail
          refine (implSubstOk (compR l m) _ _ HLX.out (compR_small H1.out H2.out) (by rw [HLEN.out]; omega)).mono ?_
          rintro e w3 ⟨rfl, hb3⟩
          have d1 : w3.cell? ⟨w.heap.size + 1 + 1, 0, none⟩ = some (.slice none 0 0) := (hb3.cell (p := ⟨w.heap.size + 1 + 1, 0, none⟩) (by simp; omega)).trans cr1
          have e1 : w3.frozen? ⟨w.heap.size + 1 + 1, 0, none⟩ = false := (hb3.frozen (p := ⟨w.heap.size + 1 + 1, 0, none⟩) (by simp; omega)).trans fr1
          have d2 : w3.cell? ⟨g, 0, none⟩ = some (.slice A' l.length cp') := (hb3.cell (p := ⟨g, 0, none⟩) hgl).trans cg
          have HB3 := Lib.hid hb3
          have hz3 : wx.heap.size ≤ w3.heap.size := hb3.size
          clear hb3 cr1 fr1 cg
          by_cases h5 : substB (compR l m) = true
          · have HOK : Hid (compOk l m = true) := by show compOk l m = true; unfold compOk; rw [H1.out, H2.out, h5, decide_eq_true H3.out]; rfl
            have HSB : Hid (compSub l m = compR l m) := if_pos HOK.out
            go_wp2_with fail
            refine bodyPost_ret (v := .tuple #[.agg #[.slice A' l.length cp'], .bool true]) (by simp [results, Try.results15, go_sem, d1]) rfl ⟨.slice A' l.length cp', ?_, ?_, ?_⟩
            · rw [HOK.out]
            · rw [HSB.out, HLEN.out]
              exact own_mono (own_setCell (B := w1.heap.size) (own_below HO.out HB3.out) (by simp; omega) _) (by omega)
            · exact ((HB2.out.trans (HBX.out.mono (by omega))).trans (HB3.out.mono (by omega))).setCell (by simp; omega) _
          · have h5' : substB (compR l m) = false := by simpa using h5
            have HOK : Hid (compOk l m = false) := by show compOk l m = false; unfold compOk; rw [h5', Bool.and_false]
            have HSB : Hid (compSub l m = []) := if_neg (by rw [HOK.out]; decide)
            clear h5
            go_wp2_with fail
            refine bodyPost_ret (v := .tuple #[.agg #[.slice none 0 0], .bool false]) (by simp [results, Try.results15, go_sem, d1]) rfl ⟨.slice none 0 0, ?_, ?_, ?_⟩
            · rw [HOK.out]
            · rw [HSB.out]
              exact World.ownsRow_nil _ _ _ _
            · exact ((HB2.out.trans (HBX.out.mono (by omega))).trans (HB3.out.mono (by omega))).setCell (by simp; omega) _
      · have b3 : ((l.length : Int) != (m.length : Int)) = true := by rw [bne_iff_ne]; omega
        have HOK : Hid (compOk l m = false) := by show compOk l m = false; unfold compOk; rw [decide_eq_false h3]; simp
        have HSB : Hid (compSub l m = []) := if_neg (by rw [HOK.out]; decide)
        clear h3
        go_enter Try.func15, Try.ntmps15
        go_wp2_with fail
        refine (implSubstOk l _ _ HL.out HZ.out hn).mono ?_
        rintro e wa ⟨rfl, hba⟩
        obtain ⟨ha, hfa⟩ := below_reads hba
        have HBA := Lib.hid hba
        have a0 : wa.cell? ⟨w.heap.size, 0, none⟩ = some (.slice A l.length cp) := by rw [ha _ _ (by simp; omega)]; go_simp
        have a1 : wa.cell? ⟨w.heap.size + 1, 0, none⟩ = some (.slice B m.length cq) := by rw [ha _ _ (by simp)]; go_simp
        have a2 : wa.cell? ⟨w.heap.size + 1 + 1, 0, none⟩ = some (.slice none 0 0) := by rw [ha _ _ (by simp)]; go_simp
        have fa : wa.frozen? ⟨w.heap.size + 1 + 1, 0, none⟩ = false := by rw [hfa _ _ (by simp)]; go_simp
        have hza : w.heap.size + 3 ≤ wa.heap.size := by have := hba.size; simpa using this
        have HBW : Hid (Below w.heap.size w wa) := HB0.out.trans (hba.mono (by simp; omega))
        have hbz := build_zero
        clear hba ha hfa
        go_wp2_with fail
        refine (implSubstOk m _ _ (HM.out.below HBA.out) HZ'.out hn').mono ?_
        rintro e w1 ⟨rfl, hb1⟩
        have c0 : w1.cell? ⟨w.heap.size, 0, none⟩ = some (.slice A l.length cp) := (hb1.cell (p := ⟨w.heap.size, 0, none⟩) (by simp; omega)).trans a0
        have c1 : w1.cell? ⟨w.heap.size + 1, 0, none⟩ = some (.slice B m.length cq) := (hb1.cell (p := ⟨w.heap.size + 1, 0, none⟩) (by simp; omega)).trans a1
        have c2 : w1.cell? ⟨w.heap.size + 1 + 1, 0, none⟩ = some (.slice none 0 0) := (hb1.cell (p := ⟨w.heap.size + 1 + 1, 0, none⟩) (by simp; omega)).trans a2
        have f2 : w1.frozen? ⟨w.heap.size + 1 + 1, 0, none⟩ = false := (hb1.frozen (p := ⟨w.heap.size + 1 + 1, 0, none⟩) (by simp; omega)).trans fa
        have HB2 : Hid (Below w.heap.size w w1) := HBW.out.trans (hb1.mono (by omega))
        clear hb1 a0 a1 a2 fa
        go_wp2_with fail
        refine bodyPost_ret (v := .tuple #[.agg #[.slice none 0 0], .bool false]) (by simp [results, Try.results15, go_sem, c2]) rfl ⟨.slice none 0 0, ?_, ?_, ?_⟩
        · rw [HOK.out]
        · rw [HSB.out]
          exact World.ownsRow_nil _ _ _ _
        · exact HB2.out.setCell (by simp; omega) _
    · have h2' : substB m = false := by simpa using h2
      have HOK : Hid (compOk l m = false) := by show compOk l m = false; unfold compOk; rw [h2']; simp
      have HSB : Hid (compSub l m = []) := if_neg (by rw [HOK.out]; decide)
      clear h2
      go_enter Try.func15, Try.ntmps15
      go_wp2_with fail
      refine (implSubstOk l _ _ HL.out HZ.out hn).mono ?_
      rintro e wa ⟨rfl, hba⟩
      obtain ⟨ha, hfa⟩ := below_reads hba
      have HBA := Lib.hid hba
      have a0 : wa.cell? ⟨w.heap.size, 0, none⟩ = some (.slice A l.length cp) := by rw [ha _ _ (by simp; omega)]; go_simp
      have a1 : wa.cell? ⟨w.heap.size + 1, 0, none⟩ = some (.slice B m.length cq) := by rw [ha _ _ (by simp)]; go_simp
      have a2 : wa.cell? ⟨w.heap.size + 1 + 1, 0, none⟩ = some (.slice none 0 0) := by rw [ha _ _ (by simp)]; go_simp
      have fa : wa.frozen? ⟨w.heap.size + 1 + 1, 0, none⟩ = false := by rw [hfa _ _ (by simp)]; go_simp
      have hza : w.heap.size + 3 ≤ wa.heap.size := by have := hba.size; simpa using this
      have HBW : Hid (Below w.heap.size w wa) := HB0.out.trans (hba.mono (by simp; omega))
      have hbz := build_zero
      clear hba ha hfa
      go_wp2_with fail
      refine (implSubstOk m _ _ (HM.out.below HBA.out) HZ'.out hn').mono ?_
      rintro e w1 ⟨rfl, hb1⟩
      have c0 : w1.cell? ⟨w.heap.size, 0, none⟩ = some (.slice A l.length cp) := (hb1.cell (p := ⟨w.heap.size, 0, none⟩) (by simp; omega)).trans a0
      have c1 : w1.cell? ⟨w.heap.size + 1, 0, none⟩ = some (.slice B m.length cq) := (hb1.cell (p := ⟨w.heap.size + 1, 0, none⟩) (by simp; omega)).trans a1
      have c2 : w1.cell? ⟨w.heap.size + 1 + 1, 0, none⟩ = some (.slice none 0 0) := (hb1.cell (p := ⟨w.heap.size + 1 + 1, 0, none⟩) (by simp; omega)).trans a2
      have f2 : w1.frozen? ⟨w.heap.size + 1 + 1, 0, none⟩ = false := (hb1.frozen (p := ⟨w.heap.size + 1 + 1, 0, none⟩) (by simp; omega)).trans fa
      have HB2 : Hid (Below w.heap.size w w1) := HBW.out.trans (hb1.mono (by omega))
      clear hb1 a0 a1 a2 fa
      go_wp2_with fail
      refine bodyPost_ret (v := .tuple #[.agg #[.slice none 0 0], .bool false]) (by simp [results, Try.results15, go_sem, c2]) rfl ⟨.slice none 0 0, ?_, ?_, ?_⟩
      · rw [HOK.out]
      · rw [HSB.out]
        exact World.ownsRow_nil _ _ _ _
      · exact HB2.out.setCell (by simp; omega) _
  · have h1' : substB l = false := by simpa using h1
    have HOK : Hid (compOk l m = false) := by show compOk l m = false; unfold compOk; rw [h1']; simp
    have HSB : Hid (compSub l m = []) := if_neg (by rw [HOK.out]; decide)
    clear h1
    go_enter Try.func15, Try.ntmps15
    go_wp2_with fail
    refine (implSubstOk l _ _ HL.out HZ.out hn).mono ?_
    rintro e wa ⟨rfl, hba⟩
    obtain ⟨ha, hfa⟩ := below_reads hba
    have HBA := Lib.hid hba
    have a0 : wa.cell? ⟨w.heap.size, 0, none⟩ = some (.slice A l.length cp) := by rw [ha _ _ (by simp; omega)]; go_simp
    have a1 : wa.cell? ⟨w.heap.size + 1, 0, none⟩ = some (.slice B m.length cq) := by rw [ha _ _ (by simp)]; go_simp
    have a2 : wa.cell? ⟨w.heap.size + 1 + 1, 0, none⟩ = some (.slice none 0 0) := by rw [ha _ _ (by simp)]; go_simp
    have fa : wa.frozen? ⟨w.heap.size + 1 + 1, 0, none⟩ = false := by rw [hfa _ _ (by simp)]; go_simp
    have hza : w.heap.size + 3 ≤ wa.heap.size := by have := hba.size; simpa using this
    have HBW : Hid (Below w.heap.size w wa) := HB0.out.trans (hba.mono (by simp; omega))
    have hbz := build_zero
    clear hba ha hfa
    go_wp2_with fail
    refine bodyPost_ret (v := .tuple #[.agg #[.slice none 0 0], .bool false]) (by simp [results, Try.results15, go_sem, a2]) rfl ⟨.slice none 0 0, ?_, ?_, ?_⟩
    · rw [HOK.out]
    · rw [HSB.out]
      exact World.ownsRow_nil _ _ _ _
    · exact HBW.out.setCell (by simp; omega) _
end Go.Proofs.Ytgidfainoijcmaa

/- Squares and rows of the program as cells of an array: 17 and 4 of them. -/
namespace Go.Proofs.Ytgidfainoijcmaa
open Go.RowKit

/-- the cells of a square: its size, its four rows -/
def sqA (n : Int) (f : Nat → Nat → Int) : Array Value := #[.int .i64 n,
  .int .i64 (f 0 0), .int .i64 (f 0 1), .int .i64 (f 0 2), .int .i64 (f 0 3),
  .int .i64 (f 1 0), .int .i64 (f 1 1), .int .i64 (f 1 2), .int .i64 (f 1 3),
  .int .i64 (f 2 0), .int .i64 (f 2 1), .int .i64 (f 2 2), .int .i64 (f 2 3),
  .int .i64 (f 3 0), .int .i64 (f 3 1), .int .i64 (f 3 2), .int .i64 (f 3 3)]
def rowA (c : Nat → Int) : Array Value := #[.int .i64 (c 0), .int .i64 (c 1), .int .i64 (c 2), .int .i64 (c 3)]
theorem sqA_size (n : Int) (f : Nat → Nat → Int) : (sqA n f).size = 17 := rfl
theorem rowA_size (c : Nat → Int) : (rowA c).size = 4 := rfl
theorem four_cases {k : Nat} (h : k < 4) : k = 0 ∨ k = 1 ∨ k = 2 ∨ k = 3 := by omega
theorem sqA_get (n : Int) (f : Nat → Nat → Int) (i k : Nat) (hi : i < 4) (hk : k < 4) : (sqA n f)[1 + i * 4 + k]? = some (.int .i64 (f i k)) := by
  rcases four_cases hi with rfl | rfl | rfl | rfl <;> rcases four_cases hk with rfl | rfl | rfl | rfl <;> rfl
theorem rowA_get (c : Nat → Int) (k : Nat) (hk : k < 4) : (rowA c)[k]? = some (.int .i64 (c k)) := by
  rcases four_cases hk with rfl | rfl | rfl | rfl <;> rfl
def upd2 (f : Nat → Nat → Int) (i k : Nat) (x : Int) : Nat → Nat → Int := fun a b => if a = i ∧ b = k then x else f a b
def upd1 (c : Nat → Int) (k : Nat) (x : Int) : Nat → Int := fun a => if a = k then x else c a
theorem sqA_set (n : Int) (f : Nat → Nat → Int) (i k : Nat) (x : Int) (hi : i < 4) (hk : k < 4) : (sqA n f).toList.set (1 + i * 4 + k) (.int .i64 x) = (sqA n (upd2 f i k x)).toList := by
  rcases four_cases hi with rfl | rfl | rfl | rfl <;> rcases four_cases hk with rfl | rfl | rfl | rfl <;> rfl
theorem rowA_set (c : Nat → Int) (k : Nat) (x : Int) (hk : k < 4) : (rowA c).toList.set k (.int .i64 x) = (rowA (upd1 c k x)).toList := by
  rcases four_cases hk with rfl | rfl | rfl | rfl <;> rfl
theorem sqA_congr {n : Int} {f g : Nat → Nat → Int} (h : ∀ i k, i < 4 → k < 4 → f i k = g i k) : sqA n f = sqA n g := by
  simp [sqA, h]
theorem rowA_congr {c d : Nat → Int} (h : ∀ k, k < 4 → c k = d k) : rowA c = rowA d := by
  simp [rowA, h]

/-- a block of the call's own that holds these cells, whole -/
def Arr (w : World) (B : Nat) (T : TypeId) (b : Nat) (c : Array Value) : Prop :=
  w.ownsRow B T 1 (.slice (some ⟨b, 0, none⟩) c.size c.size) c.size c.toList
theorem Arr.cell {w : World} {B : Nat} {T : TypeId} {b : Nat} {c : Array Value} (h : Arr w B T b c) (k : Nat) (u : Value) (hu : c[k]? = some u) : w.cell? ⟨b, k, none⟩ = some u := by
  have hk : k < c.size := (Array.getElem?_eq_some_iff.1 hu).1
  have h2 := World.ownsRow.cellAt h k (by omega)
  rw [h2]
  simpa using hu
theorem Arr.frozen {w : World} {B : Nat} {T : TypeId} {b : Nat} {c : Array Value} (h : Arr w B T b c) (k : Nat) : w.frozen? ⟨b, k, none⟩ = false :=
  World.ownsRow.frozenAt h k
theorem Arr.made (w : World) (B : Nat) (T : TypeId) (c : Array Value) (hB : B ≤ w.heap.size) (hm : c.size ≤ maxLen) : Arr (w.alloc (.cells c T)) B T w.heap.size c :=
  World.ownsRow_lit w c c.size hB hm (by omega)
theorem Arr.alloc {w : World} {B : Nat} {T : TypeId} {b : Nat} {c : Array Value} (h : Arr w B T b c) (o : Obj) : Arr (w.alloc o) B T b c := World.ownsRow.alloc h o
theorem Arr.below {w w' : World} {B : Nat} {T : TypeId} {b : Nat} {c : Array Value} (h : Arr w B T b c) (hb : Below w.heap.size w w') : Arr w' B T b c := own_below h hb
theorem Arr.lt {w : World} {B : Nat} {T : TypeId} {b : Nat} {c : Array Value} (h : Arr w B T b c) : B ≤ b ∧ b < w.heap.size := World.ownsRow.lt h b rfl
theorem Arr.set {w : World} {B : Nat} {T : TypeId} {b : Nat} {c c' : Array Value} (h : Arr w B T b c) (k : Nat) (u : Value) (hc : c.toList.set k u = c'.toList) : Arr (w.setCell ⟨b, k, none⟩ u) B T b c' := by
  have hs : c'.size = c.size := by
    have := congrArg List.length hc
    simpa using this.symm
  have := (World.ownsRow.stored h k u).1
  rw [hc] at this
  unfold Arr
  rw [hs]
  exact this
theorem Arr.other {w : World} {B : Nat} {T : TypeId} {b : Nat} {c : Array Value} (h : Arr w B T b c) {a : Addr} (ha : a.block ≠ b) (u : Value) : Arr (w.setCell a u) B T b c :=
  own_setCell2 h (fun k hk => by simp [Value.ownBlock] at hk; omega) u
theorem Arr.load {P : Program} {w : World} {B : Nat} {T : TypeId} {b : Nat} {c : Array Value} (h : Arr w B T b c) (n : Nat) (hn : c.size = n) :
    (loadCellsFrom ⟨b, 0, none⟩ 0 n #[]).run P w = .ok c w := by
  subst hn
  have := run_loadCells_list (P := P) w ⟨b, 0, none⟩ c.toList (fun j v hv => by
    have hadd : (⟨b, 0, none⟩ : Addr).add j = ⟨b, j, none⟩ := by unfold Addr.add; split <;> simp_all
    rw [hadd]
    exact h.cell j v (by simpa using hv))
  simpa [loadCells] using this
theorem Arr.heap {w : World} {B : Nat} {T : TypeId} {b : Nat} {c : Array Value} (h : Arr w B T b c) : w.heap[b]? = some (.cells c T (0, 0)) := by
  rcases h.2 with ⟨h', _⟩ | ⟨g', cap', cur, h', hb, hg, hnc, hcm, hcs, htake⟩
  · simp at h'
  · simp only [Value.slice.injEq, Option.some.injEq, Addr.mk.injEq, and_true, true_and] at h'
    obtain ⟨rfl, rfl⟩ := h'
    have e : cur.toList = c.toList := by
      rw [← htake, List.take_of_length_le]
      simp only [Array.length_toList]
      omega
    rw [hg, Array.toList_inj.1 e]
theorem Arr.row {w : World} {B : Nat} {T : TypeId} {b : Nat} {c c' : Array Value} (h : Arr w B T b c) (hs : c'.size = c.size) : Arr (w.setRow b c') B T b c' := by
  rcases h.2 with ⟨h', _⟩ | ⟨g', cap', cur, h', hb, hg, hnc, hcm, hcs, htake⟩
  · simp at h'
  · simp only [Value.slice.injEq, Option.some.injEq, Addr.mk.injEq, and_true, true_and] at h'
    obtain ⟨rfl, rfl⟩ := h'
    refine ⟨by simp, .inr ⟨b, c'.size, c', rfl, hb, setRow_heap w b _ _ T _ h.heap, Nat.le_refl _, by omega, by omega, ?_⟩⟩
    rw [List.take_of_length_le]
    simp
theorem Arr.store {P : Program} {w : World} {B : Nat} {T : TypeId} {b : Nat} {c c' : Array Value} (h : Arr w B T b c) (hs : c'.size = c.size) (hi : (P.info? T).map (·.size) = some c'.size) (h1 : c'.all (·.oneCell') = true) :
    (storeCells ⟨b, 0, none⟩ c'.toList 0).run P w = .ok () (w.setRow b c') := by
  have := run_storeVar_row (P := P) w b T T c c' h.heap hi hs.symm h1
  cases hq : P.info? T with
  | none => simp [hq] at hi
  | some i =>
    have hs : c'.size = i.size := by simp [hq] at hi; omega
    simpa [storeVar, sizeOf, typeInfo, hq, Value.cells, hs] using this
theorem Arr.otherRow {w : World} {B : Nat} {T : TypeId} {b : Nat} {c : Array Value} (h : Arr w B T b c) {g : Nat} (hg : g ≠ b) (cs : Array Value) : Arr (w.setRow g cs) B T b c := by
  refine World.ownsRow.kept h (row := some g) ⟨rfl, rfl, rfl, by simp, fun k _ hk => setRow_other w g k cs (fun e => hk (by rw [e]))⟩ (.inr ?_)
  intro e
  exact hg (by simpa [Value.ownBlock] using e.symm)
theorem sqA_one (n : Int) (f : Nat → Nat → Int) : (sqA n f).all (·.oneCell') = true := by simp [sqA, Value.oneCell']
theorem rowA_one (c : Nat → Int) : (rowA c).all (·.oneCell') = true := by simp [rowA, Value.oneCell']
theorem sq_size : (Try.prog.info? 67).map (·.size) = some 17 := by kernel_rfl
theorem row_size : (Try.prog.info? 64).map (·.size) = some 4 := by kernel_rfl
/-- the first j numbers of c, then 0 -/
def upTo (c : Nat → Int) (j : Nat) : Nat → Int := fun a => if a < j then c a else 0
theorem upTo_succ (c : Nat → Int) (j : Nat) : upd1 (upTo c j) j (c j) = upTo c (j + 1) := by
  funext a
  unfold upd1 upTo
  by_cases h : a = j
  · subst h; simp
  · have e : (a < j + 1) ↔ a < j := by omega
    simp [h, e]
theorem rowA_upTo (c : Nat → Int) : rowA (upTo c 4) = rowA c := rfl
/-- what a load and a store of a whole array or struct of that type ask of the program -/
def RowType (P : Program) (T : TypeId) (n : Nat) : Prop := ∃ d, P.underlying T = some d ∧ d.isRow = true ∧ (P.info? T).map (·.size) = some n
theorem sq_ty : RowType Try.prog 67 17 := ⟨_, Try.underlying67, rfl, by kernel_rfl⟩
theorem row_ty : RowType Try.prog 64 4 := ⟨_, Try.underlying64, rfl, by kernel_rfl⟩
theorem load_arr {P : Program} {w : World} {ops : Array Oper} {rest : List Oper} {op : Oper} {a : Act} {Q : Exit → Act → World → Prop} (hgd : op.guard = none) (ty : TypeId) (x : Operand) (ho : op.op = .load ty x)
    (b B : Nat) (T : TypeId) (c : Array Value) (hx : a.eval x = .pointer (some ⟨b, 0, none⟩)) (hc : Arr w B T b c) (n : Nat) (ht : RowType P ty n) (hn : c.size = n)
    (h : wpList P ops Q rest (a.put op.dst (.agg c)) w) : wpList P ops Q (op :: rest) a w := by
  obtain ⟨d, hu, hd, hi⟩ := ht
  refine wpList_load_mid hgd ty x ho b 0 hx c.toList d (fun j v hv => ?_) hu hd (by simpa [hn] using hi) (by simpa using h)
  rw [Nat.zero_add]
  exact hc.cell j v (by simpa using hv)
/-- the rows of a square, all at once -/
theorem load_part {P : Program} {w : World} {ops : Array Oper} {rest : List Oper} {op : Oper} {a : Act} {Q : Exit → Act → World → Prop} (hgd : op.guard = none) (ty : TypeId) (x : Operand) (ho : op.op = .load ty x)
    (b o B : Nat) (T : TypeId) (c c' : Array Value) (hx : a.eval x = .pointer (some ⟨b, o, none⟩)) (hc : Arr w B T b c) (n : Nat) (ht : RowType P ty n) (hn : c'.size = n)
    (hp : ∀ j v, c'[j]? = some v → c[o + j]? = some v)
    (h : wpList P ops Q rest (a.put op.dst (.agg c')) w) : wpList P ops Q (op :: rest) a w := by
  obtain ⟨d, hu, hd, hi⟩ := ht
  refine wpList_load_mid hgd ty x ho b o hx c'.toList d (fun j v hv => ?_) hu hd (by simpa [hn] using hi) (by simpa using h)
  exact hc.cell _ v (hp j v (by simpa using hv))
theorem store_arr {P : Program} {w : World} {ops : Array Oper} {rest : List Oper} {op : Oper} {a : Act} {Q : Exit → Act → World → Prop} (hgd : op.guard = none) (T : TypeId) (x y : Operand) (ho : op.op = .store T x y)
    (b B : Nat) (c c' : Array Value) (hx : a.eval x = .pointer (some ⟨b, 0, none⟩)) (hy : a.eval y = .agg c') (hc : Arr w B T b c) (n : Nat) (ht : RowType P T n) (hn : c'.size = n) (hs : c'.size = c.size) (h1 : c'.all (·.oneCell') = true)
    (h : wpList P ops Q rest (a.put op.dst undef) (w.setRow b c')) : wpList P ops Q (op :: rest) a w := by
  obtain ⟨d, hu, hd, hi⟩ := ht
  refine wpList_plain hgd fun _ hK => ?_
  unfold Oper.wp execOp
  have := run_storeVar_row (P := P) w b T T c c' hc.heap (by rw [hi, hn]) hs.symm h1
  simp only [ho, hx, hy, Instr.storeAt, Instr.sureAddr, Sem.run_bind, Sem.run_pure, Result.andThen_ok, this]
  exact hK _ _ h
/-- the block that was made last is overwritten -/
theorem store_new {P : Program} {w : World} {ops : Array Oper} {rest : List Oper} {op : Oper} {a : Act} {Q : Exit → Act → World → Prop} (hgd : op.guard = none) (T : TypeId) (x y : Operand) (ho : op.op = .store T x y)
    (b : Nat) (c c' : Array Value) (hb : w.heap.size = b) (hx : a.eval x = .pointer (some ⟨b, 0, none⟩)) (hy : a.eval y = .agg c') (n : Nat) (ht : RowType P T n) (hn : c'.size = n) (hs : c'.size = c.size) (h1 : c'.all (·.oneCell') = true)
    (h : wpList P ops Q rest (a.put op.dst undef) (w.alloc (.cells c' T))) : wpList P ops Q (op :: rest) a (w.alloc (.cells c T)) := by
  subst hb
  obtain ⟨d, hu, hd, hi⟩ := ht
  refine wpList_plain hgd fun _ hK => ?_
  unfold Oper.wp execOp
  have := run_storeVar_new (P := P) w T c c' (by rw [hi, hn]) hs.symm h1
  simp only [ho, hx, hy, Instr.storeAt, Instr.sureAddr, Sem.run_bind, Sem.run_pure, Result.andThen_ok, this]
  exact hK _ _ h
theorem below_drew {B : Nat} {w0 w : World} (hb : Below B w0 w) : Below B w0 w.drew := hb.drew
theorem below_row {B g : Nat} {w0 w : World} (hb : Below B w0 w) (hg : B ≤ g) (cs : Array Value) : Below B w0 (w.setRow g cs) := below_setRow hb hg cs
/-- the result variable in a block of its own -/
theorem result_arr {P : Program} {w : World} {B : Nat} {T : TypeId} {b n : Nat} {c : Array Value} (ty : TypeId) (hc : Arr w B T b c) (ht : RowType P ty n) (hn : c.size = n) :
    (loadVar ty ⟨b, 0, none⟩).run P w = .ok (.agg c) w := by
  obtain ⟨d, hu, hd, hi⟩ := ht
  exact run_loadVar_row w b T ty c (0, 0) d hc.heap hu (by cases d <;> simp_all) (by rw [hi, hn])
/-- a function whose one result is an array or a struct in a variable -/
theorem post_arr {P : Program} {fn : Func} {R : Ending → World → Prop} {a : Act} {w : World} {B : Nat} {T : TypeId} {b n p : Nat} {c : Array Value} (ty : TypeId) (hr : fn.results = #[.cell p ty]) (hp : a.tmps.getD p undef = .pointer (some ⟨b, 0, none⟩))
    (hc : Arr w B T b c) (ht : RowType P ty n) (hn : c.size = n) (hd : a.defers = []) (h : R (.returned (.agg c)) w) : bodyPost P fn R .ret a w := by
  refine bodyPost_ret (v := .agg c) ?_ hd h
  have hp' : a.tmps[p]?.getD undef = .pointer (some ⟨b, 0, none⟩) := by rw [← Array.getD_eq_getD_getElem?]; exact hp
  simp only [results, hr]
  simp [asAddr, hp', result_arr (P := P) ty hc ht hn]
/-- the sixteen numbers of a square, row by row -/
def rowsA (f : Nat → Nat → Int) : Array Value := #[.int .i64 (f 0 0), .int .i64 (f 0 1), .int .i64 (f 0 2), .int .i64 (f 0 3), .int .i64 (f 1 0), .int .i64 (f 1 1), .int .i64 (f 1 2), .int .i64 (f 1 3), .int .i64 (f 2 0), .int .i64 (f 2 1), .int .i64 (f 2 2), .int .i64 (f 2 3), .int .i64 (f 3 0), .int .i64 (f 3 1), .int .i64 (f 3 2), .int .i64 (f 3 3)]
theorem rows_ty : RowType Try.prog 65 16 := ⟨_, Try.underlying65, rfl, by kernel_rfl⟩
theorem rowPart (n : Int) (f : Nat → Nat → Int) (j : Nat) (v : Value) (h : (rowsA f)[j]? = some v) : (sqA n f)[1 + j]? = some v := by
  have e : (sqA n f).toList.tail = (rowsA f).toList := rfl
  rw [← Array.getElem?_toList] at h ⊢
  rw [← e] at h
  rw [Nat.add_comm]
  simpa using h
theorem index_rows {w : World} {ops : Array Oper} {rest : List Oper} {op : Oper} {a : Act} {Q : Exit → Act → World → Prop} (hgd : op.guard = none) (x y : Operand) (ho : op.op = .index 65 x y)
    (f : Nat → Nat → Int) (i : Nat) (hx : a.eval x = .agg (rowsA f)) (hy : a.eval y = .int .i64 i) (hi : i < 4)
    (h : wpList Try.prog ops Q rest (a.put op.dst (.agg (rowA (f i)))) w) : wpList Try.prog ops Q (op :: rest) a w := by
  refine wpList_plain hgd fun _ hK => ?_
  unfold Oper.wp execOp
  have : (Instr.index 65 (.agg (rowsA f)) (.int .i64 i)).run Try.prog w = .ok (.agg (rowA (f i))) w := by
    rcases four_cases hi with rfl | rfl | rfl | rfl <;> (simp [Instr.index, asIntOf, run_underlying Try.underlying65, part, rowsA, rowA]; try rfl)
  simp only [ho, hx, hy, this, Sem.run_bind, Result.andThen_ok]
  exact hK _ _ h
theorem index_row {w : World} {ops : Array Oper} {rest : List Oper} {op : Oper} {a : Act} {Q : Exit → Act → World → Prop} (hgd : op.guard = none) (T : TypeId) (hT : Try.prog.underlying T = some (.array 4 3)) (x y : Operand) (ho : op.op = .index T x y)
    (c : Nat → Int) (i : Nat) (hx : a.eval x = .agg (rowA c)) (hy : a.eval y = .int .i64 i) (hi : i < 4)
    (h : wpList Try.prog ops Q rest (a.put op.dst (.int .i64 (c i))) w) : wpList Try.prog ops Q (op :: rest) a w := by
  refine wpList_plain hgd fun _ hK => ?_
  unfold Oper.wp execOp
  have : (Instr.index T (.agg (rowA c)) (.int .i64 i)).run Try.prog w = .ok (.int .i64 (c i)) w := by
    rcases four_cases hi with rfl | rfl | rfl | rfl <;> (simp [Instr.index, asIntOf, run_underlying hT, part, rowA]; try rfl)
  simp only [ho, hx, hy, this, Sem.run_bind, Result.andThen_ok]
  exact hK _ _ h
end Go.Proofs.Ytgidfainoijcmaa
