/- A row of the program's squares cut; a square as a slice of slices. -/
import Derived.Test.YtgidfainoijcmaaSqC
import Derived.Test.YtgidfainoijcmaaMatOwn
import Derived.Test.YtgidfainoijcmaaGrowMat
import Derived.Test.YtgidfainoijcmaaMatLaw
import Derived.Test.YtgidfainoijcmaaShelf
import Derived.Deep.RegionWith
namespace Go.Proofs.Ytgidfainoijcmaa
open Go.RowKit

/-- x[:k] of a row of a square -/
theorem cut_upto (b o k : Nat) (hk : k ≤ 4) (w : World) : (Instr.sliceAt 64 (.pointer (some ⟨b, o, none⟩)) none (some (.int .i64 (k : Int))) none).run Try.prog w = .ok (.slice (some ⟨b, o, none⟩) k 4) w := by
  have h1 : (0 : Int) ≤ k ∧ (k : Int) ≤ (4 : Nat) := by omega
  simp [Instr.sliceAt, Instr.sliceBounds, Instr.sliceBound, asIntOf, run_underlying Try.underlying64, Instr.sureAddr, hk, Addr.add]
/-- x[k:] of a row of a square -/
theorem cut_from (b o k : Nat) (hk : k < 4) (w : World) : (Instr.sliceAt 64 (.pointer (some ⟨b, o, none⟩)) (some (.int .i64 (k : Int))) none none).run Try.prog w = .ok (.slice (some ⟨b, o + k, none⟩) (4 - k) (4 - k)) w := by
  have h1 : (0 : Int) ≤ k ∧ (k : Int) ≤ (4 : Nat) := by omega
  have h2 : ¬ 4 = k := by omega
  simp [Instr.sliceAt, Instr.sliceBounds, Instr.sliceBound, asIntOf, run_underlying Try.underlying64, Instr.sureAddr, h2, Nat.le_of_lt hk, Addr.add]
/-- the first n rows and columns -/
def matOf (n : Nat) (f : Nat → Nat → Int) : List (List Int) := (List.range n).map fun i => (List.range n).map (f i)
theorem matOf_length (n : Nat) (f : Nat → Nat → Int) : (matOf n f).length = n := by simp [matOf]
theorem matOf_at (n : Nat) (f : Nat → Nat → Int) (i : Nat) (h : i < (matOf n f).length) : (matOf n f)[i] = (List.range n).map (f i) := by simp [matOf]
theorem row_take (c : Nat → Int) (n : Nat) (hn : n ≤ 4) : ([c 0, c 1, c 2, c 3] : List Int).take n = (List.range n).map c := by
  rcases (by omega : n = 0 ∨ n = 1 ∨ n = 2 ∨ n = 3 ∨ n = 4) with rfl | rfl | rfl | rfl | rfl <;> rfl
/-- the cells of a row of a square, as they are asked for by the library's functions -/
theorem Arr.rowCells {w : World} {B : Nat} {T : TypeId} {b : Nat} {n : Int} {f : Nat → Nat → Int} (h : Arr w B T b (sqA n f)) (i : Nat) (hi : i < 4) : ∀ j, j < ([f i 0, f i 1, f i 2, f i 3] : List Int).length → w.cell? ⟨b, 1 + i * 4 + j, none⟩ = some (.int .i64 (([f i 0, f i 1, f i 2, f i 3] : List Int).getD j 0)) := by
  intro j hj
  have hj4 : j < 4 := by simpa using hj
  rw [h.cell _ _ (sqA_get n f i j hi hj4)]
  rcases four_cases hj4 with rfl | rfl | rfl | rfl <;> rfl

set_option maxHeartbeats 1000000 in
set_option maxRecDepth 100000 in
theorem implLists (n : Nat) (f : Nat → Nat → Int) (h1 : 1 ≤ n) (hn : n ≤ 4) (w : World) :
    Calls Try.prog 51 #[.agg (sqA n f)] w fun e w' => ∃ v', e = .returned v' ∧ OwnMat w' w.heap.size w'.heap.size v' (matOf n f) ∧ Below w.heap.size w w' := by
  obtain ⟨i0, hi0, hz0, hz1, hz2⟩ := info_parts ints_info
  have h0 := Arr.made w w.heap.size 67 (sqA n f) (Nat.le_refl _) (by simp [sqA_size, maxLen])
  have g0 : (w.alloc (.cells (sqA n f) 67)).cell? ⟨w.heap.size, 0, none⟩ = some (.int .i64 n) := h0.cell 0 _ rfl
  have H0 := Lib.hid h0
  have HB0 : Hid (Below w.heap.size w (w.alloc (.cells (sqA n f) 67))) := (Below.refl _ _).alloc (Nat.le_refl _) _
  have hsz0 : (w.alloc (.cells (sqA n f) 67)).heap.size = w.heap.size + 1 := by simp
  clear h0
  have hl := matOf_length n f
  have HL : Hid ((matOf n f).length = n) := hl
  go_enter Try.func51, Try.ntmps51
  go_wp2_with (at_make; refine wpList_make_full _ rfl _ _ 27 rfl (w.heap.size + 1) 30 i0 (.slice none 0 0) 1 Try.underlying27 hi0 hz0 hz1 .i64 .i64 _ _ n rfl rfl rfl rfl (by rw [hz2]; omega) (by unfold maxLen; omega) (by simp) ?_; intro w1 hown hgrow)
  have hb1 : Below (w.heap.size + 1) (w.alloc (.cells (sqA n f) 67)) w1 := by
    have := (Below.refl (w.alloc (.cells (sqA n f) 67)).heap.size (w.alloc (.cells (sqA n f) 67))).grown hgrow (Nat.le_refl _) (fun k hk => by cases hk)
    simpa using this
  have hbw : Below w.heap.size w w1 := HB0.out.trans (hb1.mono (by omega))
  have hsq : Arr w1 w.heap.size 67 w.heap.size (sqA n f) := H0.out.below (by simpa using hb1)
  simp only [World.size_alloc] at hown
  have HD : Hid (((madeCells (Value.slice none 0 0).cells (n * 1)).toList).length = n) := by
    have := hown.1
    unfold Hid
    omega
  generalize (madeCells (Value.slice none 0 0).cells (n * 1)).toList = zs at hown HD
  have hz1' : w.heap.size + 1 + 1 ≤ w1.heap.size := by have := (hown.lt (w.heap.size + 1) rfl).2; omega
  have HW0 := Lib.hid hbw
  clear hb1 hgrow hbw
  go_wp2_with fail
  go_loopw [10] (fun i w' => ∃ (us : List Value), us.length ≤ n ∧ i = .int .i64 us.length ∧ w'.ownsRow (w.heap.size + 1) 30 1 (.slice (some ⟨w.heap.size + 1, 0, none⟩) n n) n (us ++ zs.drop us.length) ∧ RowsTo w' (w.heap.size + 1 + 1) us (matOf n f) ∧ Arr w' w.heap.size 67 w.heap.size (sqA n f) ∧ Below w.heap.size w w' ∧ w.heap.size + 1 + 1 ≤ w'.heap.size) (fun i _ => n - (intOf i).toNat)
  case atStart => exact ⟨[], by simp, rfl, by simpa using hown, ⟨by simp, fun i h => absurd h (by simp), fun i j h => absurd h (by simp)⟩, hsq, HW0.out, hz1'⟩
  case round =>
    obtain ⟨us, hk, rfl, ho, hrw, hq, hbk, hzk⟩ := hrel
    obtain ⟨wo, rfl⟩ : ∃ x : World, x = wr := ⟨_, rfl⟩
    clear hown hsq
    by_cases hlt : us.length < n
    · have HO := Lib.hid ho
      have HW := Lib.hid hrw
      have HQ := Lib.hid hq
      have HB := Lib.hid hbk
      have hcell : ∃ u0, (us ++ zs.drop us.length)[us.length]? = some u0 := ⟨(us ++ zs.drop us.length)[us.length]'(by rw [List.length_append, List.length_drop, HD.out]; omega), List.getElem?_eq_getElem _⟩
      obtain ⟨u0, hu0⟩ := hcell
      have HC0 : Hid (wo.cell? ⟨w.heap.size + 1, us.length, none⟩ = some u0) := (ho.cellAt us.length (by omega)).trans hu0
      have HF0 : Hid (wo.frozen? ⟨w.heap.size + 1, us.length, none⟩ = false) := ho.frozenAt us.length
      have gq : wo.cell? ⟨w.heap.size, 0, none⟩ = some (.int .i64 n) := hq.cell 0 _ rfl
      have h4 : us.length < 4 := by omega
      have hcu := cut_upto w.heap.size (1 + us.length * 4) n hn
      clear ho hrw hq hbk hu0
      go_upto_region 5 with (fail)
      go_region_with (go_at_call 79
                      go_loud (refine (Try.slices_Clone_int w.heap.size (1 + us.length * 4) n 4 [f us.length 0, f us.length 1, f us.length 2, f us.length 3] wo.drew (by simpa using hn) (by omega) (fun j hj => (HQ.out.rowCells us.length (by omega) j hj))).mono ?_)
                      rintro e w2 ⟨v2, rfl, ho2, _, hb2⟩
                      have hrow : w2.ownsRow wo.heap.size 3 1 v2 ((matOf n f)[us.length]'(by rw [HL.out]; exact hlt)).length (ints ((matOf n f)[us.length]'(by rw [HL.out]; exact hlt))) := ?_
                      rotate_left
                      · simp only [matOf_at]
                        rw [← row_take _ n hn]
                        simpa [ints, Nat.min_eq_left hn] using ho2
                      have HO2 := Lib.hid hrow
                      have hb2' : Below wo.heap.size wo w2 := ?_
                      rotate_left
                      · exact (below_drewN (Below.refl _ _) 1).trans hb2
                      have HB2 := Lib.hid hb2'
                      obtain ⟨A2, cp2, rfl⟩ := own_slice ho2
                      have c2 : w2.cell? ⟨w.heap.size + 1, us.length, none⟩ = some u0 := ?_
                      rotate_left
                      · exact (hb2'.cell (p := ⟨w.heap.size + 1, us.length, none⟩) (by simp; omega)).trans HC0.out
                      have f2 : w2.frozen? ⟨w.heap.size + 1, us.length, none⟩ = false := ?_
                      rotate_left
                      · exact (hb2'.frozen (p := ⟨w.heap.size + 1, us.length, none⟩) (by simp; omega)).trans HF0.out
                      have hz2' := hb2'.size
                      clear ho2 hb2 hb2' hrow)
      all_goals
        go_wp2_with fail
        go_roundw
        case rel =>
          have hset : (us ++ zs.drop us.length).set us.length (.slice A2 n cp2) = (us ++ [.slice A2 n cp2]) ++ zs.drop (us.length + 1) := by
            have hd : zs.drop us.length = zs[us.length]'(by rw [HD.out]; exact hlt) :: zs.drop (us.length + 1) := List.drop_eq_getElem_cons _
            rw [hd, List.set_append_right _ _ (Nat.le_refl _), Nat.sub_self, List.set_cons_zero, List.append_assoc]
            rfl
          refine ⟨us ++ [.slice A2 n cp2], by simp; omega, by simp, ?_, ?_, ?_, ?_, ?_⟩
          · have := ((own_below HO.out HB2.out).stored us.length (.slice A2 n cp2)).1
            rw [hset] at this
            simpa using this
          · exact (HW.out.snoc HB2.out hzk (by rw [HL.out]; exact hlt) HO2.out).setCell (by simp) _
          · exact (HQ.out.below HB2.out).other (by simp) _
          · exact (HB.out.trans (HB2.out.mono (by omega))).setCell (by simp) _
          · simp; omega
        case measure => simp [intOf]; omega
    · have hkl : us.length = n := by omega
      have HO := Lib.hid ho
      have HW := Lib.hid hrw
      have HB := Lib.hid hbk
      have HKL := Lib.hid hkl
      clear ho hrw hbk hkl hq
      go_wp2_with fail
      go_ret
      refine ⟨_, rfl, ⟨30, us, HKL.out.trans HL.out.symm, ?_, fun i a b => ⟨3, own_mono (HW.out.2.1 i a b) (by omega)⟩, HW.out.2.2, fun i a k e => ⟨fun h => ?_, ((HW.out.2.1 i a (by rw [HL.out]; have := HKL.out; omega)).lt k e).2⟩, fun k e => (HO.out.lt k e).2⟩, HB.out⟩
      · have := HO.out
        rw [HKL.out, List.drop_of_length_le (by rw [HD.out]; exact Nat.le_refl _), List.append_nil] at this
        rw [HL.out]
        exact own_mono this (by omega)
      · have h1 := ((HW.out.2.1 i a (by rw [HL.out]; have := HKL.out; omega)).lt k e).1
        have h2 : w.heap.size + 1 = k := by simpa [Value.ownBlock] using h
        omega
end Go.Proofs.Ytgidfainoijcmaa
