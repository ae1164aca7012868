/- l04Matrix and MatrixOf of the model. Conditions: lengths of at most 2^20. -/
import Derived.Test.YtbbcdeknnfghkaaMatP
import Derived.Test.YtbbcdeknnfghkaaGrowMat
import Derived.Test.YtbbcdeknnfghkaaMatLaw
import Derived.Test.YtbbcdeknnfghkaaSubstOk
import Derived.Test.YtbbcdeknnfghkaaApply
import Derived.IntWalk
namespace Go.Proofs.Ytbbcdeknnfghkaa
open Go.RowKit

set_option maxHeartbeats 1000000 in
set_option maxRecDepth 100000 in
theorem specMatrix (l : List ByteArray) (v : Value) (w : World) (h : Lst w v (strs l)) (hl : substB l = true) :
    Calls Try.prog 60 #[.agg #[v]] w fun e w' => ∃ v', e = .returned v' ∧ OwnMat w' w.heap.size w'.heap.size v' (matL l) ∧ Below w.heap.size w w' := by
  obtain ⟨i0, hi0, hz0, hz1, hz2⟩ := info_parts int_info
  obtain ⟨i1, hj0, hy0, hy1, hy2⟩ := info_parts ints_info
  obtain ⟨hl1, hl4, hl5⟩ := subst_parts hl
  obtain ⟨b, off, cp, rfl, hat⟩ := lst_at h (by omega)
  have H1 := Lib.hid hat
  have HI := Lib.hid hl5
  have hbw := World.block_lt_of_cell? w _ (hat 0 (by omega))
  have hML := matL_length l
  have HML := Lib.hid hML
  clear h hat hl5 hl hML
  have HA0 : Hid (Below w.heap.size w (w.alloc (.cells #[.slice (some ⟨b, off, none⟩) l.length cp] 24))) := (Below.refl _ _).alloc (Nat.le_refl _) _
  go_enter Try.func60, Try.ntmps60
  go_wp2
  go_loopw [3, 12] (fun o i w' => ∃ (us : List Value), us.length ≤ l.length ∧ i = .int .i64 us.length ∧ GrowMat w' (w.heap.size + 1) o us (matL l) ∧ Below (w.heap.size + 1) (w.alloc (.cells #[.slice (some ⟨b, off, none⟩) l.length cp] 24)) w') (fun _ i _ => l.length - (intOf i).toNat)
  case atStart =>
    have hown0 := World.ownsRow_made (e := 32) (size := 1) (w.alloc (.cells #[.slice (some ⟨b, off, none⟩) l.length cp] 24)) #[] 0 (Nat.le_refl _) (by simp [maxLen]) (by simp)
    simp only [World.size_alloc] at hown0
    exact ⟨[], by simp, rfl, ⟨hown0, ⟨by simp, fun i h => absurd h (by simp), fun i j h => absurd h (by simp)⟩⟩, (Below.refl _ _).alloc (by simp) _⟩
  case round =>
    obtain ⟨us, hk, rfl, hgm, hbk⟩ := hrel
    obtain ⟨wo, rfl⟩ : ∃ x : World, x = wr := ⟨_, rfl⟩
    obtain ⟨A, cpo, rfl⟩ := own_slice hgm.1
    have HGM := Lib.hid hgm
    have HBK := Lib.hid hbk
    have hszr : w.heap.size + 1 ≤ wo.heap.size := by have := hbk.size; simpa using this
    have hltr : w.heap.size < wo.heap.size := by omega
    have g0 : wo.cell? ⟨w.heap.size, 0, none⟩ = some (.slice (some ⟨b, off, none⟩) l.length cp) := (hbk.cell (p := ⟨w.heap.size, 0, none⟩) (by simp)).trans (by go_simp)
    clear hgm hbk
    by_cases hlt : us.length < l.length
    · have hwr : IntKind.u8.wrap ((97 : Int) + (us.length : Int)) = ((letterN us.length).toNat : Int) := by
        rw [IntWalk.u8_in _ (by omega), letterN_toNat _ (by omega)]
        omega
      go_wp2
      go_loopw [5, 19] (fun r j w' => ∃ (k : Nat), k ≤ l.length ∧ j = .int .i64 k ∧ w'.ownsRow wo.heap.size 3 1 r k (ints (rowL (l.take k) us.length)) ∧ Below wo.heap.size wo w') (fun _ j _ => l.length - (intOf j).toNat)
      case atStart =>
        have hown0 := World.ownsRow_made (e := 3) (size := 1) wo #[] 0 (Nat.le_refl _) (by simp [maxLen]) (by simp)
        exact ⟨0, by omega, rfl, hown0, (Below.refl _ _).alloc (Nat.le_refl _) _⟩
      case round =>
        obtain ⟨k, hk2, rfl, ho, hb2⟩ := hrel
        obtain ⟨Ar, cpr, rfl⟩ := own_slice ho
        have HO := Lib.hid ho
        have HB2 := Lib.hid hb2
        have hszq := hb2.size
        clear ho hb2
        by_cases hlt2 : k < l.length
        · have g1 : wr.cell? ⟨b, off + k, none⟩ = some (.string l[k]) := (HB2.out.cell (p := ⟨b, off + k, none⟩) (by simp; omega)).trans ((HBK.out.cell (p := ⟨b, off + k, none⟩) (by simp; omega)).trans ((HA0.out.cell (p := ⟨b, off + k, none⟩) hbw).trans (H1.out k hlt2)))
          have hs8 := (img_parts (HI.out k hlt2)).2.1
          have HS := Lib.hid (rowL_succ l us.length k hlt2)
          have HC := Lib.hid (specCount l[k] (letterN us.length) wr (by omega))
          go_wp2_with (first
            | (go_at_call 88
               refine HC.out.mono ?_
               rintro e w' ⟨rfl, rfl⟩)
            | (at_builtin
               refine wpList_append1 _ rfl (.tmp 23) (.tmp 29) _ rfl wo.heap.size 3 i0 _ 8 Try.underlying32 hi0 hz0 hz1 hz2 rfl _ k _ rfl HO.out (.int .i64 (cnt l[k].data.toList (letterN us.length) : Int)) rfl rfl (by unfold maxLen; omega) (by omega) hszq ?_
               intro v' w1 hown1 hbel1
               have HOW := Lib.hid hown1
               have HBE := Lib.hid hbel1
               clear hown1 hbel1))
          go_roundw
          case rel =>
            refine ⟨k + 1, by omega, by go_num, ?_, HB2.out.trans HBE.out⟩
            rw [HS.out]
            exact HOW.out
          case measure => simp [intOf]; omega
        · have hkl : k = l.length := by omega
          have HO2 : Hid (wr.ownsRow wo.heap.size 3 1 (.slice Ar k cpr) l.length (ints (rowL l us.length))) := by
            have := HO.out
            rw [hkl, List.take_length] at this
            rw [hkl]
            exact this
          have HG1 := Lib.hid (GrowMat.below HGM.out HB2.out)
          have HGU := Lib.hid HG1.out.1
          clear hkl
          go_wp2_with (at_builtin
                       refine wpList_append1g _ rfl (.tmp 32) (.tmp 34) _ rfl (w.heap.size + 1) 32 i1 _ 24 Try.underlying69 hj0 hy0 hy1 hy2 rfl _ us.length us rfl HGU.out (.slice Ar k cpr) rfl rfl (by unfold maxLen; omega) (by omega) (by omega) ?_
                       intro v' w1 hown1 hgr1
                       have HOW := Lib.hid hown1
                       have HGR := Lib.hid hgr1
                       clear hown1 hgr1)
          go_roundw
          case rel =>
            have hm : us.length < (matL l).length := by rw [HML.out]; exact hlt
            have hrow : (matL l)[us.length] = rowL l us.length := matL_at l us.length hm
            refine ⟨us ++ [.slice Ar k cpr], by simp; omega, by simp, ?_, ?_⟩
            · refine GrowMat.snoc HGM.out HB2.out hszr hm ?_ HOW.out HGR.out
              rw [hrow, rowL_length]
              exact HO2.out
            · refine (HBK.out.trans (HB2.out.mono hszr)).grown HGR.out (by omega) (fun x hx => (HGU.out.lt x hx).1)
          case measure => simp [intOf]; omega
    · have hkl : us.length = (matL l).length := by have := HML.out; omega
      have HOM : Hid (OwnMat wo w.heap.size wo.heap.size (.slice A us.length cpo) (matL l)) := (HGM.out.own hkl).mono (by omega)
      clear hkl
      go_wp2_with fail
      go_ret
      exact ⟨_, rfl, HOM.out, HA0.out.trans (HBK.out.mono (by omega))⟩

theorem matR_sum (l : List ByteArray) : sumN ((matR l).map List.length) ≤ 16 := by
  have h1 := matR_le l
  have h2 := sum_rect (m := matR l) (c := 4) (fun x hx => by
    unfold matR at hx
    split at hx
    · rename_i h
      obtain ⟨i, hi, rfl⟩ := List.mem_iff_getElem.1 hx
      rw [matL_at, rowL_length]
      exact (subst_parts h).2.1
    · simp at hx)
  omega
end Go.Proofs.Ytbbcdeknnfghkaa
