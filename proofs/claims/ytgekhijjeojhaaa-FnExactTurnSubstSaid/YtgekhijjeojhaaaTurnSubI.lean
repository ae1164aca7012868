/- TurnSubst of the program. Conditions: lengths of at most 2^20. -/
import Derived.Test.YtgekhijjeojhaaaChangedI
namespace Go.Proofs.Ytgekhijjeojhaaa
open Go.RowKit

set_option maxHeartbeats 400000 in
theorem implTurnSubst (l : List ByteArray) (v : Value) (w : World) (h : Lst w v (strs l)) (hz : ∀ x ∈ l, x.size ≤ 1048576) (hn : l.length ≤ 1048576) :
    Calls Try.prog 31 #[.agg #[v]] w (SubSaid (turnSub l) (substB l) w) := by
  obtain ⟨A, cp, rfl⟩ := lst_slice h
  rw [strs_length] at h ⊢
  have hb0 : Below w.heap.size w ((w.alloc (.cells #[.slice A l.length cp] 27)).alloc (.cells #[.slice none 0 0] 27)) := ((Below.refl _ _).alloc (Nat.le_refl _) _).alloc (by simp) _
  have HL := Lib.hid (h.below hb0)
  have HZ := Lib.hid hz
  have HB0 := Lib.hid hb0
  clear h hz hb0
  by_cases h1 : substB l = true
  · have HR : Hid (turnSub l = turnL l) := if_pos h1
    have H1 := Lib.hid h1
    go_enter Try.func31, Try.ntmps31
    go_wp2_with fail
    refine (implSubstOk l _ _ HL.out HZ.out hn).mono ?_
    rintro e w1 ⟨rfl, hb1⟩
    have HB2 : Hid (Below w.heap.size w w1) := HB0.out.trans (hb1.mono (by simp; omega))
    have c0 : w1.cell? ⟨w.heap.size, 0, none⟩ = some (.slice A l.length cp) := (hb1.cell (p := ⟨w.heap.size, 0, none⟩) (by simp; omega)).trans (by go_simp)
    have c1 : w1.cell? ⟨w.heap.size + 1, 0, none⟩ = some (.slice none 0 0) := (hb1.cell (p := ⟨w.heap.size + 1, 0, none⟩) (by simp)).trans (by go_simp)
    have f1 : w1.frozen? ⟨w.heap.size + 1, 0, none⟩ = false := (hb1.frozen (p := ⟨w.heap.size + 1, 0, none⟩) (by simp)).trans (by go_simp)
    have hzw : w.heap.size + 2 ≤ w1.heap.size := by have := hb1.size; simpa using this
    have HLL := Lib.hid (HL.out.below hb1)
    clear hb1
    go_wp2_with fail
    refine (implChangedTurn l _ _ HLL.out H1.out).mono ?_
    rintro e w2 ⟨v', rfl, ho, hb2⟩
    obtain ⟨A3, cp3, rfl⟩ := own_slice ho
    have c2 : w2.cell? ⟨w.heap.size + 1, 0, none⟩ = some (.slice none 0 0) := (hb2.cell (p := ⟨w.heap.size + 1, 0, none⟩) (by simp; omega)).trans c1
    have f2 : w2.frozen? ⟨w.heap.size + 1, 0, none⟩ = false := (hb2.frozen (p := ⟨w.heap.size + 1, 0, none⟩) (by simp; omega)).trans f1
    have HO := Lib.hid ho
    have HB3 : Hid (Below w.heap.size w w2) := HB2.out.trans (hb2.mono (by omega))
    clear ho hb2 c0 c1 f1
    go_wp2_with fail
    refine bodyPost_ret (v := .tuple #[.agg #[.slice A3 l.length cp3], .bool true]) (by simp [results, Try.results31, go_sem, c2]) rfl ⟨.slice A3 l.length cp3, ?_, ?_, ?_⟩
    · rw [H1.out]
    · rw [HR.out, show (turnL l).length = l.length from by unfold turnL; rw [List.length_map]]
      exact own_mono (own_setCell (B := w1.heap.size) HO.out (by simp; omega) _) (by omega)
    · exact HB3.out.setCell (by simp) _
  · have h1' : substB l = false := by simpa using h1
    have HR : Hid (turnSub l = []) := if_neg h1
    clear h1
    go_enter Try.func31, Try.ntmps31
    go_wp2_with fail
    refine (implSubstOk l _ _ HL.out HZ.out hn).mono ?_
    rintro e w1 ⟨rfl, hb1⟩
    have HB2 : Hid (Below w.heap.size w w1) := HB0.out.trans (hb1.mono (by simp; omega))
    have c1 : w1.cell? ⟨w.heap.size + 1, 0, none⟩ = some (.slice none 0 0) := (hb1.cell (p := ⟨w.heap.size + 1, 0, none⟩) (by simp)).trans (by go_simp)
    have f1 : w1.frozen? ⟨w.heap.size + 1, 0, none⟩ = false := (hb1.frozen (p := ⟨w.heap.size + 1, 0, none⟩) (by simp)).trans (by go_simp)
    have hbz := build_zero
    clear hb1
    go_wp2_with fail
    refine bodyPost_ret (v := .tuple #[.agg #[.slice none 0 0], .bool false]) (by simp [results, Try.results31, go_sem, c1]) rfl ⟨.slice none 0 0, ?_, ?_, ?_⟩
    · rw [h1']
    · rw [HR.out]
      exact World.ownsRow_nil _ _ _ _
    · exact HB2.out.setCell (by simp) _
end Go.Proofs.Ytgekhijjeojhaaa
