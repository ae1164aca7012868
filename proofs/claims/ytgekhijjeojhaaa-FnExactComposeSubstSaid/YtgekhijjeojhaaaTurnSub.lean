/- TurnSubst of the model. Conditions: lengths of at most 2^20. -/
import Derived.Test.YtgekhijjeojhaaaSubstOk
import Derived.Test.YtgekhijjeojhaaaTurn
import Derived.Test.YtgekhijjeojhaaaStepOwn
import Derived.Test.YtgekhijjeojhaaaSubRes
import Derived.Test.YtgekhijjeojhaaaApply
namespace Go.Proofs.Ytgekhijjeojhaaa
open Go.RowKit

def turnL (l : List ByteArray) : List ByteArray := l.map turnS
def turnSub (l : List ByteArray) : List ByteArray := if substB l = true then turnL l else []
theorem turnSub_le (l : List ByteArray) : (turnSub l).length ≤ 4 := by
  unfold turnSub; split
  · rename_i h; have := (subst_parts h).2.1; unfold turnL; rw [List.length_map]; exact this
  · simp
theorem turnL_succ (l : List ByteArray) (k : Nat) (hk : k < l.length) : strs (turnL (l.take (k + 1))) = strs (turnL (l.take k)) ++ [.string (turnS l[k])] := by
  unfold turnL
  rw [List.take_succ_eq_append_getElem hk, List.map_append, List.map_cons, List.map_nil, strs_snoc]

set_option maxHeartbeats 1000000 in
theorem specTurnSubst (l : List ByteArray) (v : Value) (w : World) (h : Lst w v (strs l)) (hz : ∀ x ∈ l, x.size ≤ 1048576) (hn : l.length ≤ 1048576) :
    Calls Try.prog 30 #[.agg #[v]] w (SubSaid (turnSub l) (substB l) w) := by
  obtain ⟨i0, hi0, hz0, hz1, hz2⟩ := info_parts str_info
  obtain ⟨A, cp, rfl⟩ := lst_slice h
  rw [strs_length] at h ⊢
  have hb0 : Below w.heap.size w ((w.alloc (.cells #[.slice A l.length cp] 27)).alloc (.cells #[.slice none 0 0] 27)) := ((Below.refl _ _).alloc (Nat.le_refl _) _).alloc (by simp) _
  have HL := Lib.hid (h.below hb0)
  have HZ := Lib.hid hz
  have HB0 := Lib.hid hb0
  clear h hz hb0
  by_cases h1 : substB l = true
  · have HR : Hid (turnSub l = turnL l) := if_pos h1
    obtain ⟨hl1, hl4, hl5⟩ := subst_parts h1
    have HI := Lib.hid hl5
    clear hl5
    go_enter Try.func30, Try.ntmps30
    go_wp2_with fail
    refine (specSubstOk l _ _ HL.out HZ.out hn).mono ?_
    rintro e w1 ⟨rfl, hb1⟩
    obtain ⟨hc, hf⟩ := below_reads hb1
    have HB1 := Lib.hid hb1
    have HB2 : Hid (Below w.heap.size w w1) := HB0.out.trans (hb1.mono (by simp; omega))
    have hzw : w.heap.size + 2 ≤ w1.heap.size := by have := hb1.size; simpa using this
    have hzw0 : w.heap.size < w1.heap.size := by omega
    have hzw1 : w.heap.size + 1 < w1.heap.size := by omega
    have HLL := Lib.hid (HL.out.below hb1)
    clear hb1
    have c0 : w1.cell? ⟨w.heap.size, 0, none⟩ = some (.slice A l.length cp) := by rw [hc _ _ (by simp; omega)]; go_simp
    have c1 : w1.cell? ⟨w.heap.size + 1, 0, none⟩ = some (.slice none 0 0) := by rw [hc _ _ (by simp)]; go_simp
    have f1 : w1.frozen? ⟨w.heap.size + 1, 0, none⟩ = false := by rw [hf _ _ (by simp)]; go_simp
    clear hc hf
    have hbz := build_zero
    go_wp2_with fail
    obtain ⟨b, off, cp', hv, hat⟩ := lst_at HLL.out (by omega)
    injection hv with hA _ hcp
    subst hA; subst hcp
    have HAT := Lib.hid hat
    clear hat
    go_loopw [15] (fun i wr => ∃ (k : Nat) (o : Value), k ≤ l.length ∧ i = .int .i64 k ∧ wr.cell? ⟨w1.heap.size, 0, none⟩ = some o ∧ wr.frozen? ⟨w1.heap.size, 0, none⟩ = false ∧ wr.ownsRow (w1.heap.size + 1) 9 1 o k (strs (turnL (l.take k))) ∧ Below w1.heap.size w1 wr ∧ w1.heap.size < wr.heap.size) (fun i _ => l.length - (intOf i).toNat)
    case atStart => exact ⟨0, _, Nat.zero_le _, rfl, by go_simp, by go_simp, World.ownsRow_nil _ _ _ _, (Below.refl _ _).alloc (Nat.le_refl _) _, by simp⟩
    case round =>
      obtain ⟨k, o, hk, rfl, co, fo, ho, hbk, hzr⟩ := hrel
      obtain ⟨A', cp2, rfl⟩ := own_slice ho
      have HO := Lib.hid ho
      have HBK := Lib.hid hbk
      by_cases hlt : k < l.length
      · have g1 : wr.cell? ⟨b, off + k, none⟩ = some (.string l[k]) := (hbk.cell (p := ⟨b, off + k, none⟩) (World.block_lt_of_cell? _ _ (HAT.out k hlt))).trans (HAT.out k hlt)
        have hsz := (img_parts (HI.out k hlt)).2.1
        have HT := Lib.hid (turnL_succ l k hlt)
        clear ho hbk
        go_wp2_with fail
        go_region_law (first
          | (refine step_own rfl (.tmp 20) (.tmp 23) 22 rfl (w1.heap.size + 1) 9 i0 _ 16 Try.underlying22 hi0 hz0 hz1 hz2 rfl _ k _ (by simp [Act.eval]) ((own_below (own_drewN HO.out 1) HB2'.out).alloc _) ⟨w2.heap.size, 0, none⟩ 1 1 [.string (turnS l[k])] (by simp [Act.eval]) rfl (fun j u hu => cell_one _ _ _ j u hu) (fun u hu => by simp at hu; subst hu; rfl) (by unfold maxLen; omega) (by omega) (by simp; omega) ?_
             intro v' w' hown' hbel'
             obtain ⟨A3, cp3, rfl⟩ := own_slice hown'
             have c3 : w'.cell? ⟨w1.heap.size, 0, none⟩ = some (.slice A' k cp2) := (hbel'.cell (p := ⟨w1.heap.size, 0, none⟩) (by simp)).trans (by go_simp)
             have f3 : w'.frozen? ⟨w1.heap.size, 0, none⟩ = false := (hbel'.frozen (p := ⟨w1.heap.size, 0, none⟩) (by simp)).trans (by go_simp)
             have HOW := Lib.hid hown'
             have HBE := Lib.hid hbel'
             clear hown' hbel')
          | (go_simp
             go_wp2_with (go_at_call 53
                          refine (specTurn l[k] _ (by omega)).mono ?_
                          rintro e w2 ⟨rfl, hb2⟩
                          have c2 : w2.cell? ⟨w1.heap.size, 0, none⟩ = some (.slice A' k cp2) := (hb2.cell (p := ⟨w1.heap.size, 0, none⟩) (by simpa using hzr)).trans (by go_simp)
                          have f2 : w2.frozen? ⟨w1.heap.size, 0, none⟩ = false := (hb2.frozen (p := ⟨w1.heap.size, 0, none⟩) (by simpa using hzr)).trans (by go_simp)
                          have hz2' : w1.heap.size < w2.heap.size := by have := hb2.size; simp at this; omega
                          have HB2' := Lib.hid hb2
                          clear hb2)))
        all_goals
          go_wp2_with fail
          go_roundw
          case rel =>
            refine ⟨k + 1, .slice A3 (k + 1) cp3, by omega, by go_num, by go_simp, by go_simp, ?_, ?_, ?_⟩
            · rw [HT.out]
              exact own_setCell HOW.out (by simp) _
            · exact (((below_drewN HBK.out 1).trans (HB2'.out.mono (by simp; omega))).trans ((Below.refl w1.heap.size _).alloc (by omega) _)).trans (HBE.out.mono (by omega)) |>.setCell (Nat.le_refl _) _
            · have := HBE.out.size
              simp at this ⊢
              omega
          case measure => simp [intOf]; omega
      · have hkl : k = l.length := by omega
        have cr1 : wr.cell? ⟨w.heap.size + 1, 0, none⟩ = some (.slice none 0 0) := (hbk.cell (p := ⟨w.heap.size + 1, 0, none⟩) hzw1).trans c1
        have fr1 : wr.frozen? ⟨w.heap.size + 1, 0, none⟩ = false := (hbk.frozen (p := ⟨w.heap.size + 1, 0, none⟩) hzw1).trans f1
        have HKL := Lib.hid hkl
        clear ho hbk hkl c1 f1
        go_wp2_with fail
        refine bodyPost_ret (v := .tuple #[.agg #[.slice A' k cp2], .bool true]) (by simp [results, Try.results30, go_sem, cr1]) rfl ⟨.slice A' k cp2, ?_, ?_, ?_⟩
        · rfl
        · rw [HR.out, show (turnL l).length = k from by unfold turnL; rw [List.length_map]; exact HKL.out.symm]
          have := HO.out
          rw [HKL.out, List.take_length] at this
          rw [HKL.out]
          exact own_mono (own_setCell this (by simp; omega) _) (by omega)
        · exact ((HB2.out.trans (HBK.out.mono (by omega))).setCell (by simp) _)
  · have h1' : substB l = false := by simpa using h1
    have HR : Hid (turnSub l = []) := if_neg h1
    clear h1
    go_enter Try.func30, Try.ntmps30
    go_wp2_with fail
    refine (specSubstOk l _ _ HL.out HZ.out hn).mono ?_
    rintro e w1 ⟨rfl, hb1⟩
    obtain ⟨hc, hf⟩ := below_reads hb1
    have HB2 : Hid (Below w.heap.size w w1) := HB0.out.trans (hb1.mono (by simp; omega))
    have c1 : w1.cell? ⟨w.heap.size + 1, 0, none⟩ = some (.slice none 0 0) := by rw [hc _ _ (by simp)]; go_simp
    have f1 : w1.frozen? ⟨w.heap.size + 1, 0, none⟩ = false := by rw [hf _ _ (by simp)]; go_simp
    have hbz := build_zero
    clear hc hf hb1
    go_wp2_with fail
    refine bodyPost_ret (v := .tuple #[.agg #[.slice none 0 0], .bool false]) (by simp [results, Try.results30, go_sem, c1]) rfl ⟨.slice none 0 0, ?_, ?_, ?_⟩
    · rw [h1']
    · rw [HR.out]
      exact World.ownsRow_nil _ _ _ _
    · exact HB2.out.setCell (by simp) _
end Go.Proofs.Ytgekhijjeojhaaa
