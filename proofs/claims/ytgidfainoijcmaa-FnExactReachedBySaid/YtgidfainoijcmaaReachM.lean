/- ReachedBy of the model. Conditions: lengths of at most 2^20. -/
import Derived.Test.YtgidfainoijcmaaReachP
import Derived.Test.YtgidfainoijcmaaLetM
import Derived.IntWalk
namespace Go.Proofs.Ytgidfainoijcmaa
open Go.RowKit

def boolsV (s : List Bool) : List Value := s.map Value.bool
theorem bool_info : (Try.prog.info? 4).map (fun i => (i.zero, i.size, i.bytes)) = some (some (.bool false), 1, 1) := by kernel_rfl
theorem own_bool_at {w : World} {B g cp n : Nat} {s : List Bool} (h : w.ownsRow B 4 1 (.slice (some ⟨g, 0, none⟩) n cp) n (boolsV s)) (hl : s.length = n) (k : Nat) (hk : k < n) : w.cell? ⟨g, k, none⟩ = some (.bool (got s k)) := by
  rw [h.cellAt k (by omega)]
  simp [boolsV, got, List.getD, List.getElem?_eq_getElem (show k < s.length by omega)]
theorem boolsV_set (s : List Bool) (k : Nat) : (boolsV s).set k (.bool true) = boolsV (s.set k true) := by unfold boolsV; rw [List.map_set]
theorem letterN_slice (P : Program) {t : TypeId} (ht : P.underlying t = some .string) (k : Nat) (hk : k ≤ 3) (w : World) :
    (Instr.slice t (.string ⟨#[97, 98, 99, 100]⟩) (some (.int .i64 (k : Int))) (some (.int .i64 ((k : Int) + 1))) none).run P w = .ok (.string ⟨#[letterN k]⟩) w := by
  have h4 : ((⟨#[97, 98, 99, 100]⟩ : ByteArray).size : Int) = 4 := rfl
  rw [run_slice_string (P := P) w t ⟨#[97, 98, 99, 100]⟩ .i64 .i64 (k : Int) ((k : Int) + 1) ht (by omega) (by omega) (by omega)]
  rcases (show k = 0 ∨ k = 1 ∨ k = 2 ∨ k = 3 by omega) with e | e | e | e <;> subst e <;> rfl
def outS (s : Nat → Bool) (j : Nat) : ByteArray := ⟨(outTo s j).toArray⟩
theorem outS_yes {s : Nat → Bool} {j : Nat} (h : s j = true) : outS s j ++ ⟨#[letterN j]⟩ = outS s (j + 1) := by
  apply bytes_ext
  rw [ByteArray.toList_eq, ByteArray.toList_eq]
  show (outS s j ++ ⟨#[letterN j]⟩).data.toList = (outTo s j ++ if s j = true then [letterN j] else [])
  rw [if_pos h, ByteArray.data_append]
  simp [outS]
theorem outS_no {s : Nat → Bool} {j : Nat} (h : s j = false) : outS s (j + 1) = outS s j := by
  unfold outS
  show (ByteArray.mk (outTo s j ++ if s j = true then [letterN j] else []).toArray) = _
  rw [h]
  simp
theorem outTo_length (s : Nat → Bool) : ∀ j, (outTo s j).length ≤ j
  | 0 => Nat.le_refl _
  | j + 1 => by
    have := outTo_length s j
    show (outTo s j ++ if s j = true then [letterN j] else []).length ≤ j + 1
    rw [List.length_append]
    split
    · simp; omega
    · simp; omega
theorem outS_size (s : Nat → Bool) (j : Nat) : (outS s j).size ≤ j := by
  have := outTo_length s j
  show (outTo s j).toArray.size ≤ j
  simpa using this

set_option maxHeartbeats 2000000 in
set_option maxRecDepth 100000 in
theorem specReachedBy (l : List ByteArray) (v : Value) (t : ByteArray) (w : World) (h : Lst w v (strs l)) (hz : ∀ x ∈ l, x.size ≤ 1048576) (hn : l.length ≤ 1048576) (ht : t.size ≤ 1048576) :
    Calls Try.prog 42 #[.agg #[v], .string t] w fun e w' => e = .returned (.string (reachR l t)) ∧ Below w.heap.size w w' := by
  obtain ⟨i0, hi0, hz0, hz1, hz2⟩ := info_parts bool_info
  obtain ⟨A, cp, rfl⟩ := lst_slice h
  rw [strs_length] at h ⊢
  have hb0 : Below w.heap.size w (w.alloc (.cells #[.slice A l.length cp] 25)) := (Below.refl _ _).alloc (Nat.le_refl _) _
  have HL := Lib.hid (h.below hb0)
  have HZ := Lib.hid hz
  have HB0 := Lib.hid hb0
  clear h hz hb0
  by_cases h0 : letOk l t = true
  · have hr : letR l t = (letN t : Int) := if_pos h0
    have hN : letN t < l.length := by
      unfold letOk at h0
      rw [Bool.and_eq_true] at h0
      simpa using h0.2
    have d0 : decide ((letN t : Int) < 0) = false := by simp
    by_cases h1 : substB l = true
    · obtain ⟨hl1, hl4, hl5⟩ := subst_parts h1
      have HI := Lib.hid hl5
      have H1 := Lib.hid h1
      have HV : Hid (reachR l t = outS (got (passN l (oneB l.length (letN t)) 4)) l.length) := by
        show reachR l t = _
        unfold reachR outS
        rw [h0, h1, if_pos (by rfl)]
        congr 2
        refine outTo_congr _ (fun i _ => ?_)
        by_cases hg : got (passN l (oneB l.length (letN t)) 4) i = true
        · rw [hg]
          exact @decide_eq_true _ (Classical.propDecidable _) ((reach_iff h1 hN i).1 hg)
        · rw [show got (passN l (oneB l.length (letN t)) 4) i = false by simpa using hg]
          exact @decide_eq_false _ (Classical.propDecidable _) (fun h => hg ((reach_iff h1 hN i).2 h))
      clear h0 hl5
      go_enter Try.func42, Try.ntmps42
      go_wp2_with fail
      refine (specLetter A l cp t _ hn ht).mono ?_
      rintro e w1 ⟨rfl, hb1⟩
      rw [hr]
      have HB1 : Hid (Below w.heap.size w w1) := HB0.out.trans (hb1.mono (by simp))
      have c1 : w1.cell? ⟨w.heap.size, 0, none⟩ = some (.slice A l.length cp) := (hb1.cell (p := ⟨w.heap.size, 0, none⟩) (by simp)).trans (by go_simp)
      have hz1w : w.heap.size < w1.heap.size := by have := hb1.size; simp at this; omega
      have HL1 := Lib.hid (HL.out.below hb1)
      clear hb1 hr
      go_wp2_with fail
      refine (specSubstOk l _ _ HL1.out HZ.out hn).mono ?_
      rintro e w2 ⟨rfl, hb2⟩
      have HB2 : Hid (Below w.heap.size w w2) := HB1.out.trans (hb2.mono HB1.out.size)
      have c2 : w2.cell? ⟨w.heap.size, 0, none⟩ = some (.slice A l.length cp) := (hb2.cell (p := ⟨w.heap.size, 0, none⟩) hz1w).trans c1
      have hz2w : w.heap.size < w2.heap.size := by have := hb2.size; omega
      obtain ⟨b, off, cp', hv, hat⟩ := lst_at (HL1.out.below hb2) (by omega)
      injection hv with hA _ hcp
      subst hA; subst hcp
      have HAT := Lib.hid hat
      clear hb2 c1 hat
      go_wp2_with (at_make
                   refine wpList_make_full _ rfl _ _ 96 rfl w2.heap.size 4 i0 (.bool false) 1 Try.underlying96 hi0 hz0 hz1 .i64 .i64 _ _ l.length rfl rfl rfl rfl (by rw [hz2]; omega) (by unfold maxLen; omega) (Nat.le_refl _) ?_
                   intro w3 hown hgrow
                   have HB3 : Hid (Below w2.heap.size w2 w3) := (Below.refl _ _).grown hgrow (Nat.le_refl _) (fun k hk => by cases hk)
                   have e0 : ((madeCells (Value.bool false).cells (l.length * 1)).toList) = boolsV (List.replicate l.length false) := by
                     rw [Nat.mul_one]
                     exact (toList_madeCells_one _ _).trans (by simp [boolsV])
                   rw [e0] at hown
                   have g3 : w3.cell? ⟨w2.heap.size, letN t, none⟩ = some (.bool false) := (hown.cellAt (letN t) (by omega)).trans (by simp [boolsV, hN])
                   have f3 : w3.frozen? ⟨w2.heap.size, letN t, none⟩ = false := hown.frozenAt (letN t)
                   have hz3 : w2.heap.size < w3.heap.size := (hown.lt w2.heap.size rfl).2
                   have HOWN : Hid ((w3.setCell ⟨w2.heap.size, letN t, none⟩ (.bool true)).ownsRow w2.heap.size 4 1 (.slice (some ⟨w2.heap.size, 0, none⟩) l.length l.length) l.length (boolsV (oneB l.length (letN t)))) := by
                     have := (hown.stored (letN t) (.bool true)).1
                     rw [boolsV_set] at this
                     exact this
                   clear hown hgrow e0)
      have HBS : Hid (Below w2.heap.size w2 (w3.setCell ⟨w2.heap.size, letN t, none⟩ (.bool true))) := HB3.out.setCell (Nat.le_refl _) _
      have hz4 : w2.heap.size < (w3.setCell ⟨w2.heap.size, letN t, none⟩ (.bool true)).heap.size := by simp; exact hz3
      have HPL := Lib.hid (fun r => passN_length l (oneB l.length (letN t)) r)
      have hOL := oneB_length l.length (letN t)
      rw [hOL] at HPL
      generalize oneB l.length (letN t) = s0 at HOWN HPL HV
      generalize w3.setCell ⟨w2.heap.size, letN t, none⟩ (.bool true) = w4 at HOWN HBS hz4 ⊢
      clear g3 f3 HB3 hz3 hOL
      go_loopw [7] (fun i w' => ∃ (r : Nat), r ≤ 4 ∧ i = .int .i64 r ∧ w'.ownsRow w2.heap.size 4 1 (.slice (some ⟨w2.heap.size, 0, none⟩) l.length l.length) l.length (boolsV (passN l s0 r)) ∧ Below w2.heap.size w2 w' ∧ w2.heap.size < w'.heap.size) (fun i _ => 4 - (intOf i).toNat)
      case atStart => exact ⟨0, by omega, rfl, HOWN.out, HBS.out, hz4⟩
      case round =>
        obtain ⟨r, hr4, rfl, ho, hb, hzr⟩ := hrel
        obtain ⟨wo, rfl⟩ : ∃ x : World, x = wr := ⟨_, rfl⟩
        have HO := Lib.hid ho
        have HB := Lib.hid hb
        have hcur := HPL.out r
        have HNX : Hid (passN l s0 (r + 1) = passTo l (passN l s0 r) l.length) := rfl
        have co : wo.cell? ⟨w.heap.size, 0, none⟩ = some (.slice (some ⟨b, off, none⟩) l.length cp) := (hb.cell (p := ⟨w.heap.size, 0, none⟩) hz2w).trans c2
        have HFIN : Hid (r = 4 → reachR l t = outS (got (passN l s0 r)) l.length) := fun e => by subst e; exact HV.out
        generalize passN l s0 r = cur at HO hcur HNX HFIN
        clear ho hb
        by_cases hlt : r < 4
        · have d4 : decide ((r : Int) < 4) = true := by simp; omega
          go_wp2_with fail
          go_loopw [38] (fun i w' => ∃ (q : Nat), q ≤ l.length ∧ i = .int .i64 q ∧ w'.ownsRow w2.heap.size 4 1 (.slice (some ⟨w2.heap.size, 0, none⟩) l.length l.length) l.length (boolsV (passTo l cur q)) ∧ Below w2.heap.size w2 w' ∧ w2.heap.size < w'.heap.size) (fun i _ => l.length - (intOf i).toNat)
          case atStart => exact ⟨0, by omega, rfl, HO.out, HB.out, hzr⟩
          case round =>
            obtain ⟨q, hq, rfl, ho, hb, hzq⟩ := hrel
            obtain ⟨wi, rfl⟩ : ∃ x : World, x = wr := ⟨_, rfl⟩
            have HOQ := Lib.hid ho
            have HBQ := Lib.hid hb
            have hpl : (passTo l cur q).length = l.length := by rw [passTo_length]; exact hcur
            have HPQ := Lib.hid hpl
            clear ho hb hpl
            by_cases hltq : q < l.length
            · have g1 : wi.cell? ⟨b, off + q, none⟩ = some (.string l[q]) := (HBQ.out.cell (p := ⟨b, off + q, none⟩) (World.block_lt_of_cell? w2 _ (HAT.out q hltq))).trans (HAT.out q hltq)
              have g2 := own_bool_at HOQ.out HPQ.out q hltq
              have hs8 := (img_parts (HI.out q hltq)).2.1
              by_cases hg : got (passTo l cur q) q = true
              · have HYES := Lib.hid (passTo_yes hltq hg)
                have HLET := Lib.hid (img_letters H1.out hltq)
                rw [hg] at g2
                clear hg
                go_wp2_with fail
                go_loopw [10] (fun i w' => ∃ (j : Nat), j ≤ l[q].size ∧ i = .int .i64 j ∧ w'.ownsRow w2.heap.size 4 1 (.slice (some ⟨w2.heap.size, 0, none⟩) l.length l.length) l.length (boolsV (markW (passTo l cur q) (l[q].data.toList.take j))) ∧ Below w2.heap.size w2 w' ∧ w2.heap.size < w'.heap.size) (fun i _ => l[q].size - (intOf i).toNat)
                case atStart => exact ⟨0, by omega, rfl, HOQ.out, HBQ.out, hzq⟩
                case round =>
                  obtain ⟨j, hj, rfl, ho, hb, hzj⟩ := hrel
                  by_cases hltj : j < l[q].size
                  · have hmem : l[q][j] ∈ l[q].data.toList := by
                      have : l[q][j] = l[q].data.toList[j]'(by simpa using hltj) := rfl
                      rw [this]; exact List.getElem_mem _
                    obtain ⟨p1, p2⟩ := HLET.out _ hmem
                    obtain ⟨c, hc⟩ : ∃ c, l[q][j].toNat = 97 + c := ⟨l[q][j].toNat - 97, by omega⟩
                    have hcl : c < l.length := by omega
                    have q1 : IntKind.u8.wrap ((l[q][j].toNat : Int) - 97) = (c : Int) := by rw [IntWalk.u8_in _ (by omega)]; omega
                    have hml : (markW (passTo l cur q) (l[q].data.toList.take j)).length = l.length := by rw [markW_length]; exact HPQ.out
                    have g5 := own_bool_at ho hml c hcl
                    have f5 := ho.frozenAt c
                    have HO5 := Lib.hid ho
                    have HB5 := Lib.hid hb
                    have HSN : Hid (markW (passTo l cur q) (l[q].data.toList.take (j + 1)) = (markW (passTo l cur q) (l[q].data.toList.take j)).set c true) := by
                      show markW _ _ = _
                      rw [take_snoc l[q] j hltj, markW_snoc, show l[q][j].toNat - 97 = c from by omega]
                    clear ho hb hml hmem p1 p2 hc
                    go_wp2_with fail
                    go_roundw
                    case rel =>
                      refine ⟨j + 1, by omega, by go_num, ?_, HB5.out.setCell (Nat.le_refl _) _, by simp; exact hzj⟩
                      have := (HO5.out.stored c (.bool true)).1
                      rw [boolsV_set, ← HSN.out] at this
                      exact this
                    case measure => simp [intOf]; omega
                  · have hjl : j = l[q].size := by omega
                    have HO5 : Hid (wr.ownsRow w2.heap.size 4 1 (.slice (some ⟨w2.heap.size, 0, none⟩) l.length l.length) l.length (boolsV (passTo l cur (q + 1)))) := by
                      have h5 := ho
                      rw [hjl, take_all l[q] _ (Nat.le_refl _), ← HYES.out] at h5
                      exact h5
                    have HB5 := Lib.hid hb
                    clear ho hb hjl
                    go_wp2_with fail
                    go_roundw
                    case rel => exact ⟨q + 1, by omega, by go_num, HO5.out, HB5.out, hzj⟩
                    case measure => simp [intOf]; omega
              · have hg' : got (passTo l cur q) q = false := by simpa using hg
                have HNO := Lib.hid (passTo_no hg')
                rw [hg'] at g2
                clear hg hg'
                go_wp2_with fail
                go_roundw
                case rel => exact ⟨q + 1, by omega, by go_num, by rw [HNO.out]; exact HOQ.out, HBQ.out, hzq⟩
                case measure => simp [intOf]; omega
            · have hql : q = l.length := by omega
              have HO5 : Hid (wi.ownsRow w2.heap.size 4 1 (.slice (some ⟨w2.heap.size, 0, none⟩) l.length l.length) l.length (boolsV (passN l s0 (r + 1)))) := by
                rw [HNX.out, ← hql]
                have h5 := HOQ.out
                rw [hql] at h5 ⊢
                exact h5
              clear hql
              go_wp2_with fail
              go_roundw
              case rel => exact ⟨r + 1, by omega, by go_num, HO5.out, HBQ.out, hzq⟩
              case measure => simp [intOf]; omega
        · have hr44 : r = 4 := by omega
          have HF := Lib.hid (HFIN.out hr44)
          go_wp2_with fail
          go_loop [11, 63] (fun s i => ∃ (j : Nat), j ≤ l.length ∧ i = .int .i64 j ∧ s = .string (outS (got cur) j)) (fun _ i => l.length - (intOf i).toNat)
          case atStart => exact ⟨0, by omega, rfl, rfl⟩
          case round =>
            obtain ⟨j, hj, rfl, rfl⟩ := hrel
            by_cases hltj : j < l.length
            · have g5 := own_bool_at HO.out hcur j hltj
              have hsl := letterN_slice Try.prog Try.underlying9 j (by omega)
              have hos := outS_size (got cur) j
              by_cases hg : got cur j = true
              · have HY := Lib.hid (outS_yes hg)
                rw [hg] at g5
                clear hg
                go_wp2_with fail
                go_round
                case rel => exact ⟨j + 1, by omega, by go_num, by rw [← HY.out]⟩
                case measure => simp [intOf]; omega
              · have hg' : got cur j = false := by simpa using hg
                have HY := Lib.hid (outS_no hg')
                rw [hg'] at g5
                clear hg hg'
                go_wp2_with fail
                go_round
                case rel => exact ⟨j + 1, by omega, by go_num, by rw [HY.out]⟩
                case measure => simp [intOf]; omega
            · have hjl : j = l.length := by omega
              have HF2 : Hid (outS (got cur) j = reachR l t) := by rw [hjl]; exact HF.out.symm
              clear hjl
              go_wp2_with fail
              go_ret
              exact ⟨ret_str HF2.out, HB2.out.trans (HB.out.mono HB2.out.size)⟩
    · have h1' : substB l = false := by simpa using h1
      have HV : Hid (reachR l t = ⟨#[]⟩) := by show reachR l t = _; unfold reachR; rw [h1', Bool.and_false]; rfl
      clear h0 h1
      go_enter Try.func42, Try.ntmps42
      go_wp2_with fail
      refine (specLetter A l cp t _ hn ht).mono ?_
      rintro e w1 ⟨rfl, hb1⟩
      rw [hr]
      have HB1 : Hid (Below w.heap.size w w1) := HB0.out.trans (hb1.mono (by simp))
      have c1 : w1.cell? ⟨w.heap.size, 0, none⟩ = some (.slice A l.length cp) := (hb1.cell (p := ⟨w.heap.size, 0, none⟩) (by simp)).trans (by go_simp)
      have HL1 := Lib.hid (HL.out.below hb1)
      clear hb1 hr
      go_wp2_with fail
      refine (specSubstOk l _ _ HL1.out HZ.out hn).mono ?_
      rintro e w2 ⟨rfl, hb2⟩
      have HB2 : Hid (Below w.heap.size w w2) := HB1.out.trans (hb2.mono HB1.out.size)
      clear hb2 c1
      go_wp2_with fail
      go_ret
      exact ⟨ret_str HV.out.symm, HB2.out⟩
  · have hr : letR l t = -1 := if_neg h0
    have HV : Hid (reachR l t = ⟨#[]⟩) := by show reachR l t = _; unfold reachR; rw [show letOk l t = false by simpa using h0]; rfl
    clear h0
    go_enter Try.func42, Try.ntmps42
    go_wp2_with fail
    refine (specLetter A l cp t _ hn ht).mono ?_
    rintro e w1 ⟨rfl, hb1⟩
    rw [hr]
    have HB1 : Hid (Below w.heap.size w w1) := HB0.out.trans (hb1.mono (by simp))
    clear hb1 hr
    go_wp2_with fail
    go_ret
    exact ⟨ret_str HV.out.symm, HB1.out⟩
end Go.Proofs.Ytgidfainoijcmaa
