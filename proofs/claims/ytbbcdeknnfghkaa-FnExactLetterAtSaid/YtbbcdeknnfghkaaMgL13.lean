/- Texts put together. -/
import Derived.Test.YtbbcdeknnfghkaaMgL6
import Derived.Test.YtbbcdeknnfghkaaMgL12
import Derived.IntWalk
import Derived.Test.YtbbcdeknnfghkaaMgL8
/- l04Letter and LengthAfter of the model. Conditions: lengths of at most 2^20. -/
namespace Go.Proofs.Ytbbcdeknnfghkaa
open Go.RowKit

set_option maxHeartbeats 400000 in
theorem specLetter (A : Option Addr) (l : List ByteArray) (cp : Nat) (t : ByteArray) (w : World) (_ : l.length ≤ 1048576) (_ : t.size ≤ 1048576) :
    Calls Try.prog 73 #[.agg #[.slice A l.length cp], .string t] w fun e w' => e = .returned (.int .i64 (letR l t)) ∧ Below w.heap.size w w' := by
  have hb0 : Below w.heap.size w (w.alloc (.cells #[.slice A l.length cp] 24)) := (Below.refl _ _).alloc (Nat.le_refl _) _
  have HB0 := Lib.hid hb0
  clear hb0
  by_cases h1 : t.size = 1
  · have b1 : ((t.size : Int) != 1) = false := by rw [h1]; rfl
    by_cases h2 : wordB t = true
    · obtain ⟨h3, h4⟩ := letN_at h1 h2
      have h97 : 97 ≤ (t[0]'(by omega)).toNat := by omega
      have q1 : ((t[0]'(by omega)).toNat : Int) - 97 = (letN t : Int) := by omega
      by_cases h5 : letN t < l.length
      · have HV : Hid (letR l t = (letN t : Int)) := by
          show letR l t = _
          unfold letR letOk
          rw [decide_eq_true h1, h2, decide_eq_true h5]
          rfl
        have d5 : decide ((l.length : Int) ≤ (letN t : Int)) = false := by simp; omega
        go_enter Try.func73, Try.ntmps73
        go_wp2_with fail
        refine (specWordOk t _).mono ?_
        rintro e w' ⟨rfl, rfl⟩
        go_wp2_with fail
        go_ret
        exact ⟨ret_int (by rw [HV.out]; omega), HB0.out⟩
      · have HV : Hid (letR l t = -1) := by
          show letR l t = _
          unfold letR letOk
          rw [decide_eq_false h5, Bool.and_false]
          rfl
        have d5 : decide ((l.length : Int) ≤ (letN t : Int)) = true := by simp; omega
        go_enter Try.func73, Try.ntmps73
        go_wp2_with fail
        refine (specWordOk t _).mono ?_
        rintro e w' ⟨rfl, rfl⟩
        go_wp2_with fail
        go_ret
        exact ⟨ret_int HV.out.symm, HB0.out⟩
    · have h2' : wordB t = false := by simpa using h2
      have HV : Hid (letR l t = -1) := by
        show letR l t = _
        unfold letR letOk
        rw [h2', Bool.and_false, Bool.false_and]
        rfl
      clear h2
      go_enter Try.func73, Try.ntmps73
      go_wp2_with fail
      refine (specWordOk t _).mono ?_
      rintro e w' ⟨rfl, rfl⟩
      go_wp2_with fail
      go_ret
      exact ⟨ret_int HV.out.symm, HB0.out⟩
  · have b1 : ((t.size : Int) != 1) = true := by rw [bne_iff_ne]; omega
    have HV : Hid (letR l t = -1) := by
      show letR l t = _
      unfold letR letOk
      rw [decide_eq_false h1, Bool.false_and, Bool.false_and]
      rfl
    clear h1
    go_enter Try.func73, Try.ntmps73
    go_wp2_with fail
    go_ret
    exact ⟨ret_int HV.out.symm, HB0.out⟩

end Go.Proofs.Ytbbcdeknnfghkaa

/- ReachedBy of the model. Conditions: lengths of at most 2^20. -/
namespace Go.Proofs.Ytbbcdeknnfghkaa
open Go.RowKit

def boolsV (s : List Bool) : List Value := s.map Value.bool
theorem bool_info : (Try.prog.info? 4).map (fun i => (i.zero, i.size, i.bytes)) = some (some (.bool false), 1, 1) := by kernel_rfl
theorem own_bool_at {w : World} {B g cp n : Nat} {s : List Bool} (h : w.ownsRow B 4 1 (.slice (some ⟨g, 0, none⟩) n cp) n (boolsV s)) (hl : s.length = n) (k : Nat) (hk : k < n) : w.cell? ⟨g, k, none⟩ = some (.bool (got s k)) := by
  rw [h.cellAt k (by omega)]
  simp [boolsV, got, List.getD, List.getElem?_eq_getElem (show k < s.length by omega)]
theorem boolsV_set (s : List Bool) (k : Nat) : (boolsV s).set k (.bool true) = boolsV (s.set k true) := by unfold boolsV; rw [List.map_set]
theorem letterN_slice (P : Program) {t : TypeId} (ht : P.underlying t = some .string) (k : Nat) (hk : k ≤ 3) (w : World) :
    (Instr.slice t (.string ⟨#[97, 98, 99, 100]⟩) (some (.int .i64 (k : Int))) (some (.int .i64 ((k : Int) + 1))) none).run P w = .ok (.string ⟨#[letterN k]⟩) w := by
  have h4 : ((⟨#[97, 98, 99, 100]⟩ : ByteArray).size : Int) = 4 := rfl
  rw [run_slice_string (P := P) w t ⟨#[97, 98, 99, 100]⟩ .i64 .i64 (k : Int) ((k : Int) + 1) ht (by omega) (by omega) (by omega)]
  rcases (show k = 0 ∨ k = 1 ∨ k = 2 ∨ k = 3 by omega) with e | e | e | e <;> subst e <;> rfl
def outS (s : Nat → Bool) (j : Nat) : ByteArray := ⟨(outTo s j).toArray⟩
theorem outS_yes {s : Nat → Bool} {j : Nat} (h : s j = true) : outS s j ++ ⟨#[letterN j]⟩ = outS s (j + 1) := by
  apply bytes_ext
  rw [ByteArray.toList_eq, ByteArray.toList_eq]
  show (outS s j ++ ⟨#[letterN j]⟩).data.toList = (outTo s j ++ if s j = true then [letterN j] else [])
  rw [if_pos h, ByteArray.data_append]
  simp [outS]
theorem outS_no {s : Nat → Bool} {j : Nat} (h : s j = false) : outS s (j + 1) = outS s j := by
  unfold outS
  show (ByteArray.mk (outTo s j ++ if s j = true then [letterN j] else []).toArray) = _
  rw [h]
  simp
theorem outTo_length (s : Nat → Bool) : ∀ j, (outTo s j).length ≤ j
  | 0 => Nat.le_refl _
  | j + 1 => by
    have := outTo_length s j
    show (outTo s j ++ if s j = true then [letterN j] else []).length ≤ j + 1
    rw [List.length_append]
    split
    · simp; omega
    · simp; omega
theorem outS_size (s : Nat → Bool) (j : Nat) : (outS s j).size ≤ j := by
  have := outTo_length s j
  show (outTo s j).toArray.size ≤ j
  simpa using this

end Go.Proofs.Ytbbcdeknnfghkaa

/- Growing letters of the model. Conditions: lengths of at most 2^20. -/
namespace Go.Proofs.Ytbbcdeknnfghkaa
open Go.RowKit

theorem growB_at {l : List ByteArray} {k : Nat} (hk : k < l.length) : growB l k = (decide (1 < l[k].size) && decide (firstN l k = k)) := by
  unfold growB; rw [getD_l hk]
set_option maxHeartbeats 400000 in
theorem specGrows (l : List ByteArray) (v : Value) (k : Nat) (w : World) (h : Lst w v (strs l)) (hl : substB l = true) (hk : k < l.length) :
    Calls Try.prog 70 #[.agg #[v], .int .i64 k] w fun e w' => e = .returned (.bool (growB l k)) ∧ Below w.heap.size w w' := by
  obtain ⟨hl1, hl4, hl5⟩ := subst_parts hl
  obtain ⟨b, off, cp, rfl, hat⟩ := lst_at h (by omega)
  obtain ⟨p1, p2, _, _⟩ := img_parts (hl5 k hk)
  obtain ⟨h0, f1, f2⟩ := first_at hl hk
  have hG := growB_at hk
  have hb0 : Below w.heap.size w (w.alloc (.cells #[.slice (some ⟨b, off, none⟩) l.length cp] 24)) := (Below.refl _ _).alloc (Nat.le_refl _) _
  have g1 : (w.alloc (.cells #[.slice (some ⟨b, off, none⟩) l.length cp] 24)).cell? ⟨b, off + k, none⟩ = some (.string l[k]) := by
    have hc := hat k hk
    rw [← hc]
    exact hb0.cell (p := ⟨b, off + k, none⟩) (World.block_lt_of_cell? w _ hc)
  have HB0 := Lib.hid hb0
  have q1 : IntKind.u8.wrap ((l[k][0].toNat : Int) - 97) = (firstN l k : Int) := by rw [IntWalk.u8_in _ (by omega)]; omega
  have HG := Lib.hid hG
  clear hG hb0 h hl hl5 hat
  by_cases h1 : 1 < l[k].size
  · have d1 : decide ((1 : Int) < l[k].size) = true := by simp; omega
    by_cases h2 : firstN l k = k
    · have b2 : ((firstN l k : Int) == (k : Int)) = true := by rw [h2]; simp
      have HV : Hid (growB l k = true) := by show growB l k = true; rw [HG.out, decide_eq_true h1, decide_eq_true h2]; rfl
      have q2 : ((97 : Int) + (firstN l k : Int) - 97 == (k : Int)) = true := by rw [h2, beq_iff_eq]; omega
      clear h2
      go_enter Try.func70, Try.ntmps70
      go_wp2_with fail
      go_ret
      exact ⟨ret_bool HV.out.symm, HB0.out⟩
    · have b2 : ((firstN l k : Int) == (k : Int)) = false := by rw [beq_eq_false_iff_ne]; omega
      have HV : Hid (growB l k = false) := by show growB l k = false; rw [HG.out, decide_eq_false h2, Bool.and_false]
      have q2 : ((97 : Int) + (firstN l k : Int) - 97 == (k : Int)) = false := by rw [beq_eq_false_iff_ne]; omega
      clear h2
      go_enter Try.func70, Try.ntmps70
      go_wp2_with fail
      go_ret
      exact ⟨ret_bool HV.out.symm, HB0.out⟩
  · have d1 : decide ((1 : Int) < l[k].size) = false := by simp; omega
    have HV : Hid (growB l k = false) := by show growB l k = false; rw [HG.out, decide_eq_false h1, Bool.false_and]
    go_enter Try.func70, Try.ntmps70
    go_wp2_with fail
    go_ret
    exact ⟨ret_bool HV.out.symm, HB0.out⟩

set_option maxHeartbeats 1000000 in
theorem specGrowingLetters (l : List ByteArray) (v : Value) (w : World) (h : Lst w v (strs l)) (hz : ∀ x ∈ l, x.size ≤ 1048576) (hn : l.length ≤ 1048576) :
    Calls Try.prog 27 #[.agg #[v]] w fun e w' => e = .returned (.string (growR l)) ∧ Below w.heap.size w w' := by
  obtain ⟨A, cp, rfl⟩ := lst_slice h
  rw [strs_length] at h ⊢
  have hb0 : Below w.heap.size w (w.alloc (.cells #[.slice A l.length cp] 24)) := (Below.refl _ _).alloc (Nat.le_refl _) _
  have HL := Lib.hid (h.below hb0)
  have HZ := Lib.hid hz
  have HB0 := Lib.hid hb0
  clear h hz hb0
  by_cases h1 : substB l = true
  · obtain ⟨hl1, hl4, _⟩ := subst_parts h1
    have HV : Hid (growR l = outS (growB l) l.length) := if_pos h1
    have HG := Lib.hid (fun k hk w h => specGrows l (.slice A l.length cp) k w h h1 hk)
    go_enter Try.func27, Try.ntmps27
    go_wp2_with fail
    refine (specSubstOk l _ _ HL.out HZ.out hn).mono ?_
    rintro e w1 ⟨rfl, hb1⟩
    have HB1 : Hid (Below w.heap.size w w1) := HB0.out.trans (hb1.mono (by simp))
    have c1 : w1.cell? ⟨w.heap.size, 0, none⟩ = some (.slice A l.length cp) := (hb1.cell (p := ⟨w.heap.size, 0, none⟩) (by simp)).trans (by go_simp)
    have hz1w : w.heap.size < w1.heap.size := by have := hb1.size; simp at this; omega
    have HL1 := Lib.hid (HL.out.below hb1)
    clear hb1
    go_wp2_with fail
    go_loopw [3, 11] (fun s i w' => ∃ q : Nat, q ≤ l.length ∧ i = .int .i64 q ∧ s = .string (outS (growB l) q) ∧ Below w1.heap.size w1 w') (fun _ i _ => l.length - (intOf i).toNat)
    case atStart => exact ⟨0, by omega, rfl, rfl, Below.refl _ _⟩
    case round =>
      obtain ⟨q, hq, rfl, rfl, hb⟩ := hrel
      obtain ⟨wo, rfl⟩ : ∃ x : World, x = wr := ⟨_, rfl⟩
      have c2 : wo.cell? ⟨w.heap.size, 0, none⟩ = some (.slice A l.length cp) := (hb.cell (p := ⟨w.heap.size, 0, none⟩) hz1w).trans c1
      have HL2 := Lib.hid (HL1.out.below hb)
      have HB := Lib.hid hb
      clear hb
      by_cases hlt : q < l.length
      · have hsl := letterN_slice Try.prog Try.underlying9 q (by omega)
        have hos := outS_size (growB l) q
        have q3 : IntKind.i64.wrap ((q : Int) + 1) = (q : Int) + 1 := IntWalk.i64_in _ (by omega)
        go_wp2_with fail
        refine (HG.out q hlt _ HL2.out).mono ?_
        rintro e w2 ⟨rfl, hb2⟩
        have HB2 := Lib.hid (HB.out.trans (hb2.mono HB.out.size))
        clear hb2
        by_cases hg : growB l q = true
        · have HY := Lib.hid (outS_yes hg)
          rw [hg]
          clear hg
          go_wp2_with fail
          go_roundw
          case rel => exact ⟨q + 1, by omega, by go_num, by rw [← HY.out], HB2.out⟩
          case measure => simp [intOf]; omega
        · have hg' : growB l q = false := by simpa using hg
          have HY := Lib.hid (outS_no hg')
          rw [hg']
          clear hg hg'
          go_wp2_with fail
          go_roundw
          case rel => exact ⟨q + 1, by omega, by go_num, by rw [HY.out], HB2.out⟩
          case measure => simp [intOf]; omega
      · have hql : q = l.length := by omega
        have HF : Hid (outS (growB l) q = growR l) := by rw [hql]; exact HV.out.symm
        clear hql
        go_wp2_with fail
        go_ret
        exact ⟨ret_str HF.out, HB1.out.trans (HB.out.mono HB1.out.size)⟩
  · have h1' : substB l = false := by simpa using h1
    have HV : Hid (growR l = ⟨#[]⟩) := if_neg h1
    clear h1
    go_enter Try.func27, Try.ntmps27
    go_wp2_with fail
    refine (specSubstOk l _ _ HL.out HZ.out hn).mono ?_
    rintro e w1 ⟨rfl, hb1⟩
    have HB1 : Hid (Below w.heap.size w w1) := HB0.out.trans (hb1.mono (by simp))
    clear hb1
    go_wp2_with fail
    go_ret
    exact ⟨ret_str HV.out.symm, HB1.out⟩

set_option maxHeartbeats 1000000 in
theorem specGrowLetter (l : List ByteArray) (v : Value) (t : ByteArray) (w : World) (h : Lst w v (strs l)) (hz : ∀ x ∈ l, x.size ≤ 1048576) (hn : l.length ≤ 1048576) (ht : t.size ≤ 1048576) :
    Calls Try.prog 48 #[.agg #[v], .string t] w fun e w' => e = .returned (.int .i64 (glR l t)) ∧ Below w.heap.size w w' := by
  obtain ⟨A, cp, rfl⟩ := lst_slice h
  rw [strs_length] at h ⊢
  have hb0 : Below w.heap.size w (w.alloc (.cells #[.slice A l.length cp] 24)) := (Below.refl _ _).alloc (Nat.le_refl _) _
  have HL := Lib.hid (h.below hb0)
  have HZ := Lib.hid hz
  have HB0 := Lib.hid hb0
  clear h hz hb0
  by_cases h0 : letOk l t = true
  · have hr : letR l t = (letN t : Int) := if_pos h0
    have hN : letN t < l.length := by
      unfold letOk at h0
      rw [Bool.and_eq_true] at h0
      simpa using h0.2
    have d0 : decide ((letN t : Int) < 0) = false := by simp
    by_cases h1 : substB l = true
    · have HG := Lib.hid (fun w h => specGrows l (.slice A l.length cp) (letN t) w h h1 hN)
      have HE : Hid (growOk l t = growB l (letN t)) := by show growOk l t = _; unfold growOk; rw [h0, h1]; rfl
      clear h0
      go_enter Try.func48, Try.ntmps48
      go_wp2_with fail
      refine (specLetter A l cp t _ hn ht).mono ?_
      rintro e w1 ⟨rfl, hb1⟩
      rw [hr]
      have HB1 : Hid (Below w.heap.size w w1) := HB0.out.trans (hb1.mono (by simp))
      have c1 : w1.cell? ⟨w.heap.size, 0, none⟩ = some (.slice A l.length cp) := (hb1.cell (p := ⟨w.heap.size, 0, none⟩) (by simp)).trans (by go_simp)
      have hz1w : w.heap.size < w1.heap.size := by have := hb1.size; simp at this; omega
      have HL1 := Lib.hid (HL.out.below hb1)
      clear hb1 hr
      go_wp2_with fail
      refine (specSubstOk l _ _ HL1.out HZ.out hn).mono ?_
      rintro e w2 ⟨rfl, hb2⟩
      have HB2 : Hid (Below w.heap.size w w2) := HB1.out.trans (hb2.mono HB1.out.size)
      have c2 : w2.cell? ⟨w.heap.size, 0, none⟩ = some (.slice A l.length cp) := (hb2.cell (p := ⟨w.heap.size, 0, none⟩) hz1w).trans c1
      have HL2 := Lib.hid (HL1.out.below hb2)
      clear hb2 c1
      go_wp2_with fail
      refine (HG.out _ HL2.out).mono ?_
      rintro e w3 ⟨rfl, hb3⟩
      have HB3 : Hid (Below w.heap.size w w3) := HB2.out.trans (hb3.mono HB2.out.size)
      clear hb3
      by_cases hg : growB l (letN t) = true
      · have HV : Hid (glR l t = (letN t : Int)) := by show glR l t = _; unfold glR; rw [HE.out, hg]; rfl
        rw [hg]
        clear hg
        go_wp2_with fail
        go_ret
        exact ⟨ret_int HV.out.symm, HB3.out⟩
      · have hg' : growB l (letN t) = false := by simpa using hg
        have HV : Hid (glR l t = -1) := by show glR l t = _; unfold glR; rw [HE.out, hg']; rfl
        rw [hg']
        clear hg hg'
        go_wp2_with fail
        go_ret
        exact ⟨ret_int HV.out.symm, HB3.out⟩
    · have h1' : substB l = false := by simpa using h1
      have HV : Hid (glR l t = -1) := by show glR l t = _; unfold glR growOk; rw [h1', Bool.and_false, Bool.false_and]; rfl
      clear h0 h1
      go_enter Try.func48, Try.ntmps48
      go_wp2_with fail
      refine (specLetter A l cp t _ hn ht).mono ?_
      rintro e w1 ⟨rfl, hb1⟩
      rw [hr]
      have HB1 : Hid (Below w.heap.size w w1) := HB0.out.trans (hb1.mono (by simp))
      have c1 : w1.cell? ⟨w.heap.size, 0, none⟩ = some (.slice A l.length cp) := (hb1.cell (p := ⟨w.heap.size, 0, none⟩) (by simp)).trans (by go_simp)
      have HL1 := Lib.hid (HL.out.below hb1)
      clear hb1 hr
      go_wp2_with fail
      refine (specSubstOk l _ _ HL1.out HZ.out hn).mono ?_
      rintro e w2 ⟨rfl, hb2⟩
      have HB2 : Hid (Below w.heap.size w w2) := HB1.out.trans (hb2.mono HB1.out.size)
      clear hb2 c1
      go_wp2_with fail
      go_ret
      exact ⟨ret_int HV.out.symm, HB2.out⟩
  · have hr : letR l t = -1 := if_neg h0
    have HV : Hid (glR l t = -1) := by show glR l t = _; unfold glR growOk; rw [show letOk l t = false by simpa using h0]; rfl
    clear h0
    go_enter Try.func48, Try.ntmps48
    go_wp2_with fail
    refine (specLetter A l cp t _ hn ht).mono ?_
    rintro e w1 ⟨rfl, hb1⟩
    rw [hr]
    have HB1 : Hid (Below w.heap.size w w1) := HB0.out.trans (hb1.mono (by simp))
    clear hb1 hr
    go_wp2_with fail
    go_ret
    exact ⟨ret_int HV.out.symm, HB1.out⟩
end Go.Proofs.Ytbbcdeknnfghkaa
