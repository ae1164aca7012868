/- changed of the program: each image turned, each image written by another table. Condition: the substitution is valid. -/
import Derived.Test.YtgekhijjeojhaaaTableI
import Derived.Test.YtgekhijjeojhaaaTurnI
import Derived.Test.YtgekhijjeojhaaaTurnSub
import Derived.Test.YtgekhijjeojhaaaSubRes
namespace Go.Proofs.Ytgekhijjeojhaaa
open Go.RowKit

set_option maxHeartbeats 400000 in
theorem implChangedTurn (l : List ByteArray) (v : Value) (w : World) (h : Lst w v (strs l)) (hl : substB l = true) :
    Calls Try.prog 49 #[.agg #[v], .func (.func 54) #[] #[]] w fun e w' => ∃ v', e = .returned (.agg #[v']) ∧ w'.ownsRow w.heap.size 9 1 v' l.length (strs (turnL l)) ∧ Below w.heap.size w w' := by
  obtain ⟨i0, hi0, hz0, hz1, hz2⟩ := info_parts str_info
  obtain ⟨hl1, hl4, hl5⟩ := subst_parts hl
  obtain ⟨b, off, cp, rfl, hat⟩ := lst_at h (by omega)
  have H1 := Lib.hid hat
  have HI := Lib.hid hl5
  have hbw := World.block_lt_of_cell? w _ (hat 0 (by omega))
  clear h hat hl5
  have hb0 : Below w.heap.size w ((w.alloc (.cells #[.slice (some ⟨b, off, none⟩) l.length cp] 27)).alloc (.cells #[.slice none 0 0] 27)) := ((Below.refl _ _).alloc (Nat.le_refl _) _).alloc (by simp) _
  go_enter Try.func49, Try.ntmps49
  go_wp2_with (at_make; refine wpList_make_full _ rfl _ _ 22 rfl (w.heap.size + 2) 9 i0 (.string ⟨#[]⟩) 1 Try.underlying22 hi0 hz0 hz1 .i64 .i64 _ _ l.length rfl rfl rfl rfl (by rw [hz2]; omega) (by unfold maxLen; omega) (by simp) ?_; intro w1 hown hgrow; have c0 : w1.cell? ⟨w.heap.size, 0, none⟩ = some (.slice (some ⟨b, off, none⟩) l.length cp) := (hgrow.cell (a := ⟨w.heap.size, 0, none⟩) (by go_simp) (by simp)); have c1 : w1.cell? ⟨w.heap.size + 1, 0, none⟩ = some (.slice none 0 0) := (hgrow.cell (a := ⟨w.heap.size + 1, 0, none⟩) (by go_simp) (by simp)))
  have HBG : Hid (Below (w.heap.size + 2) ((w.alloc (.cells #[.slice (some ⟨b, off, none⟩) l.length cp] 27)).alloc (.cells #[.slice none 0 0] 27)) w1) := (Below.refl _ _).grown hgrow (by simp) (fun k hk => by cases hk)
  have f1 : w1.frozen? ⟨w.heap.size + 1, 0, none⟩ = false := (HBG.out.frozen (p := ⟨w.heap.size + 1, 0, none⟩) (by simp)).trans (by go_simp)
  have HB1 : Hid (Below w.heap.size w w1) := hb0.trans (HBG.out.mono (by simp))
  have hsz1 : w.heap.size + 3 ≤ w1.heap.size := by
    have h1 := (hown.lt (w.heap.size + 2) (by simp [Value.ownBlock])).2
    omega
  have HCL : Hid ((strs (turnL l)).length = l.length) := by show (strs (turnL l)).length = l.length; rw [strs_length]; exact List.length_map _
  have HZL : Hid (((madeCells (Value.string ⟨#[]⟩).cells (l.length * 1)).toList).length = (strs (turnL l)).length) := by
    have := hown.1
    have := HCL.out
    unfold Hid
    omega
  have HCA : Hid (∀ k (hk : k < l.length) (h : k < (strs (turnL l)).length), (strs (turnL l))[k] = .string (turnS l[k])) := by
    intro k hk h
    simp [strs, turnL]
  generalize (madeCells (Value.string ⟨#[]⟩).cells (l.length * 1)).toList = zs at hown HZL
  generalize hLL : strs (turnL l) = L at HZL HCL HCA
  have HLL := Lib.hid hLL
  clear hLL hgrow hb0
  go_loopw [15] (fun i wr => ∃ k : Nat, k ≤ l.length ∧ i = .int .i64 k ∧ wr.ownsRow (w.heap.size + 2) 9 1 (.slice (some ⟨w.heap.size + 2, 0, none⟩) l.length l.length) l.length (L.take k ++ zs.drop k) ∧ Below (w.heap.size + 2) w1 wr) (fun i _ => l.length - (intOf i).toNat)
  case atStart => exact ⟨0, by omega, rfl, by simpa using hown, Below.refl _ _⟩
  case round =>
    obtain ⟨k, hk, rfl, ho, hbk⟩ := hrel
    have HBK := Lib.hid hbk
    have HO := Lib.hid ho
    have hszr : w.heap.size + 3 ≤ wr.heap.size := by have := hbk.size; omega
    clear ho hbk
    by_cases hlt : k < l.length
    · have hkL : k < L.length := by rw [HCL.out]; exact hlt
      obtain ⟨u, hu⟩ := lay_get L zs k hkL HZL.out
      have g1 : wr.cell? ⟨b, off + k, none⟩ = some (.string l[k]) := (HBK.out.cell (p := ⟨b, off + k, none⟩) (by simp; omega)).trans ((HB1.out.cell (p := ⟨b, off + k, none⟩) hbw).trans (H1.out k hlt))
      obtain ⟨q1, q2, q3, q4⟩ := img_parts (HI.out k hlt)
      have HU := Lib.hid hu
      clear hu
      go_wp2_with fail
      refine (implTurned l[k] _ (by omega)).mono ?_
      rintro e w2 ⟨rfl, hb2⟩
      have ho2 := own_below HO.out hb2
      have g2 := (ho2.cellAt k (by omega)).trans HU.out
      have g3 := ho2.frozenAt k
      have HO2 := Lib.hid ho2
      have HB2 := Lib.hid hb2
      clear ho2 hb2
      go_wp2_with fail
      go_roundw
      case rel =>
        refine ⟨k + 1, by omega, by go_num, ?_, (HBK.out.trans (HB2.out.mono (by omega))).setCell (by simp) _⟩
        have := (HO2.out.stored k (.string (turnS l[k]))).1
        rw [← HCA.out k hlt hkL, lay_set L zs k hkL HZL.out] at this
        rw [HCA.out k hlt hkL] at this
        exact this
      case measure => simp [intOf]; omega
    · have hkl : k = l.length := by omega
      have e : L.take k ++ zs.drop k = L := by rw [hkl, ← HCL.out]; exact lay_end L zs HZL.out
      have HO2 := Lib.hid HO.out
      rw [e] at HO2
      have cr1 : wr.cell? ⟨w.heap.size + 1, 0, none⟩ = some (.slice none 0 0) := (HBK.out.cell (p := ⟨w.heap.size + 1, 0, none⟩) (by simp)).trans c1
      have fr1 : wr.frozen? ⟨w.heap.size + 1, 0, none⟩ = false := (HBK.out.frozen (p := ⟨w.heap.size + 1, 0, none⟩) (by simp)).trans f1
      have hbd := build_sub (some ⟨w.heap.size + 2, 0, none⟩) l.length l.length
      clear e hkl
      go_wp2_with fail
      refine bodyPost_ret (v := .agg #[.slice (some ⟨w.heap.size + 2, 0, none⟩) l.length l.length]) (by simp [results, Try.results49, go_sem, cr1]) rfl ⟨_, rfl, ?_, ?_⟩
      · rw [HLL.out]
        exact own_mono (own_setCell (B := w.heap.size + 2) HO2.out (by simp) _) (by omega)
      · exact (HB1.out.trans (HBK.out.mono (by omega))).setCell (by simp) _

set_option maxHeartbeats 400000 in
theorem implChangedWrite (l : List ByteArray) (v : Value) (m : List ByteArray) (g S cq : Nat) (w : World) (h : Lst w v (strs l)) (hl : substB l = true) (ht : ImgTab w S g m) (hm : substB m = true) (hlm : l.length = m.length) :
    Calls Try.prog 49 #[.agg #[v], .func (.func 47) #[.slice (some ⟨g, 0, none⟩) m.length cq] #[]] w fun e w' => ∃ v', e = .returned (.agg #[v']) ∧ w'.ownsRow w.heap.size 9 1 v' l.length (strs (compR l m)) ∧ Below w.heap.size w w' := by
  obtain ⟨i0, hi0, hz0, hz1, hz2⟩ := info_parts str_info
  obtain ⟨hl1, hl4, hl5⟩ := subst_parts hl
  obtain ⟨b, off, cp, rfl, hat⟩ := lst_at h (by omega)
  have H1 := Lib.hid hat
  have HI := Lib.hid hl5
  have hbw := World.block_lt_of_cell? w _ (hat 0 (by omega))
  have HT : Hid (ImgTab w S g m) := ht
  have HWR0 : Hid (∀ k (hk : k < l.length) (wr : World), Below w.heap.size w wr → Calls Try.prog 47 #[.slice (some ⟨g, 0, none⟩) m.length cq, .string l[k]] wr fun e w' => e = .returned (.string (stepS m l[k])) ∧ Below wr.heap.size wr w') := by
    intro k hk wr hb
    obtain ⟨q1, q2, q3, q4⟩ := img_parts (hl5 k hk)
    exact implWrite m g S cq l[k] wr (ImgTab.below HT.out hb) hm q3 (by rw [← hlm]; exact q4)
  clear ht hm hlm
  clear h hat hl5
  have hb0 : Below w.heap.size w ((w.alloc (.cells #[.slice (some ⟨b, off, none⟩) l.length cp] 27)).alloc (.cells #[.slice none 0 0] 27)) := ((Below.refl _ _).alloc (Nat.le_refl _) _).alloc (by simp) _
  go_enter Try.func49, Try.ntmps49
  go_wp2_with (at_make; refine wpList_make_full _ rfl _ _ 22 rfl (w.heap.size + 2) 9 i0 (.string ⟨#[]⟩) 1 Try.underlying22 hi0 hz0 hz1 .i64 .i64 _ _ l.length rfl rfl rfl rfl (by rw [hz2]; omega) (by unfold maxLen; omega) (by simp) ?_; intro w1 hown hgrow; have c0 : w1.cell? ⟨w.heap.size, 0, none⟩ = some (.slice (some ⟨b, off, none⟩) l.length cp) := (hgrow.cell (a := ⟨w.heap.size, 0, none⟩) (by go_simp) (by simp)); have c1 : w1.cell? ⟨w.heap.size + 1, 0, none⟩ = some (.slice none 0 0) := (hgrow.cell (a := ⟨w.heap.size + 1, 0, none⟩) (by go_simp) (by simp)))
  have HBG : Hid (Below (w.heap.size + 2) ((w.alloc (.cells #[.slice (some ⟨b, off, none⟩) l.length cp] 27)).alloc (.cells #[.slice none 0 0] 27)) w1) := (Below.refl _ _).grown hgrow (by simp) (fun k hk => by cases hk)
  have f1 : w1.frozen? ⟨w.heap.size + 1, 0, none⟩ = false := (HBG.out.frozen (p := ⟨w.heap.size + 1, 0, none⟩) (by simp)).trans (by go_simp)
  have HB1 : Hid (Below w.heap.size w w1) := hb0.trans (HBG.out.mono (by simp))
  have hsz1 : w.heap.size + 3 ≤ w1.heap.size := by
    have h1 := (hown.lt (w.heap.size + 2) (by simp [Value.ownBlock])).2
    omega
  have HCL : Hid ((strs (compR l m)).length = l.length) := by show (strs (compR l m)).length = l.length; rw [strs_length]; exact List.length_map _
  have HZL : Hid (((madeCells (Value.string ⟨#[]⟩).cells (l.length * 1)).toList).length = (strs (compR l m)).length) := by
    have := hown.1
    have := HCL.out
    unfold Hid
    omega
  have HCA : Hid (∀ k (hk : k < l.length) (h : k < (strs (compR l m)).length), (strs (compR l m))[k] = .string (stepS m l[k])) := by
    intro k hk h
    simp [strs, compR]
  generalize (madeCells (Value.string ⟨#[]⟩).cells (l.length * 1)).toList = zs at hown HZL
  generalize hLL : strs (compR l m) = L at HZL HCL HCA
  have HLL := Lib.hid hLL
  clear hLL hgrow hb0
  go_loopw [15] (fun i wr => ∃ k : Nat, k ≤ l.length ∧ i = .int .i64 k ∧ wr.ownsRow (w.heap.size + 2) 9 1 (.slice (some ⟨w.heap.size + 2, 0, none⟩) l.length l.length) l.length (L.take k ++ zs.drop k) ∧ Below (w.heap.size + 2) w1 wr) (fun i _ => l.length - (intOf i).toNat)
  case atStart => exact ⟨0, by omega, rfl, by simpa using hown, Below.refl _ _⟩
  case round =>
    obtain ⟨k, hk, rfl, ho, hbk⟩ := hrel
    have HBK := Lib.hid hbk
    have HO := Lib.hid ho
    have hszr : w.heap.size + 3 ≤ wr.heap.size := by have := hbk.size; omega
    clear ho hbk
    by_cases hlt : k < l.length
    · have hkL : k < L.length := by rw [HCL.out]; exact hlt
      obtain ⟨u, hu⟩ := lay_get L zs k hkL HZL.out
      have g1 : wr.cell? ⟨b, off + k, none⟩ = some (.string l[k]) := (HBK.out.cell (p := ⟨b, off + k, none⟩) (by simp; omega)).trans ((HB1.out.cell (p := ⟨b, off + k, none⟩) hbw).trans (H1.out k hlt))
      obtain ⟨q1, q2, q3, q4⟩ := img_parts (HI.out k hlt)
      have HU := Lib.hid hu
      clear hu
      go_wp2_with fail
      refine (HWR0.out k hlt wr (HB1.out.trans (HBK.out.mono (by omega)))).mono ?_
      rintro e w2 ⟨rfl, hb2⟩
      have ho2 := own_below HO.out hb2
      have g2 := (ho2.cellAt k (by omega)).trans HU.out
      have g3 := ho2.frozenAt k
      have HO2 := Lib.hid ho2
      have HB2 := Lib.hid hb2
      clear ho2 hb2
      go_wp2_with fail
      go_roundw
      case rel =>
        refine ⟨k + 1, by omega, by go_num, ?_, (HBK.out.trans (HB2.out.mono (by omega))).setCell (by simp) _⟩
        have := (HO2.out.stored k (.string (stepS m l[k]))).1
        rw [← HCA.out k hlt hkL, lay_set L zs k hkL HZL.out] at this
        rw [HCA.out k hlt hkL] at this
        exact this
      case measure => simp [intOf]; omega
    · have hkl : k = l.length := by omega
      have e : L.take k ++ zs.drop k = L := by rw [hkl, ← HCL.out]; exact lay_end L zs HZL.out
      have HO2 := Lib.hid HO.out
      rw [e] at HO2
      have cr1 : wr.cell? ⟨w.heap.size + 1, 0, none⟩ = some (.slice none 0 0) := (HBK.out.cell (p := ⟨w.heap.size + 1, 0, none⟩) (by simp)).trans c1
      have fr1 : wr.frozen? ⟨w.heap.size + 1, 0, none⟩ = false := (HBK.out.frozen (p := ⟨w.heap.size + 1, 0, none⟩) (by simp)).trans f1
      have hbd := build_sub (some ⟨w.heap.size + 2, 0, none⟩) l.length l.length
      clear e hkl
      go_wp2_with fail
      refine bodyPost_ret (v := .agg #[.slice (some ⟨w.heap.size + 2, 0, none⟩) l.length l.length]) (by simp [results, Try.results49, go_sem, cr1]) rfl ⟨_, rfl, ?_, ?_⟩
      · rw [HLL.out]
        exact own_mono (own_setCell (B := w.heap.size + 2) HO2.out (by simp) _) (by omega)
      · exact (HB1.out.trans (HBK.out.mono (by omega))).setCell (by simp) _
end Go.Proofs.Ytgekhijjeojhaaa
