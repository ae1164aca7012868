/- Texts put together. -/
import Derived.Test.YtbbcdeknnfghkaaMgO17
import Derived.Test.YtbbcdeknnfghkaaMgO13
import Derived.Test.YtbbcdeknnfghkaaMgO20
import Derived.Test.YtbbcdeknnfghkaaMgO14
/- OrbitOfFirst and PowerNeeded of the program. Conditions: lengths of at most 2^20. -/
namespace Go.Proofs.Ytbbcdeknnfghkaa
open Go.RowKit

theorem back_of {l : List ByteArray} (hl : substB l = true) {k : Nat} (hk : k < l.length) (i j : Nat) (hij : i < j) (e : goN l k j = goN l k i) : backB l (j - i) = true :=
  backB_iff.2 ⟨goN l k i, goN_lt hl hk i, by rw [goN_add, show i + (j - i) = j from by omega, e]⟩
theorem back_len {l : List ByteArray} (hl : substB l = true) : ∃ n, 1 ≤ n ∧ n ≤ l.length ∧ backB l n = true := by
  obtain ⟨h1, h4, _⟩ := subst_parts hl
  have key : ∃ i j, i < j ∧ j ≤ l.length ∧ goN l 0 j = goN l 0 i := by
    have lt := fun n => goN_lt hl (show 0 < l.length by omega) n
    have l0 := lt 0; have l1 := lt 1; have l2 := lt 2; have l3 := lt 3; have l4 := lt 4
    by_cases a : goN l 0 1 = goN l 0 0
    · exact ⟨0, 1, by omega, by omega, a⟩
    by_cases a2 : goN l 0 2 = goN l 0 0
    · exact ⟨0, 2, by omega, by omega, a2⟩
    by_cases a3 : goN l 0 2 = goN l 0 1
    · exact ⟨1, 2, by omega, by omega, a3⟩
    by_cases b1 : goN l 0 3 = goN l 0 0
    · exact ⟨0, 3, by omega, by omega, b1⟩
    by_cases b2 : goN l 0 3 = goN l 0 1
    · exact ⟨1, 3, by omega, by omega, b2⟩
    by_cases b3 : goN l 0 3 = goN l 0 2
    · exact ⟨2, 3, by omega, by omega, b3⟩
    have e4 : l.length = 4 := by omega
    by_cases c1 : goN l 0 4 = goN l 0 0
    · exact ⟨0, 4, by omega, by omega, c1⟩
    by_cases c2 : goN l 0 4 = goN l 0 1
    · exact ⟨1, 4, by omega, by omega, c2⟩
    by_cases c3 : goN l 0 4 = goN l 0 2
    · exact ⟨2, 4, by omega, by omega, c3⟩
    exact ⟨3, 4, by omega, by omega, by omega⟩
  obtain ⟨i, j, a, b, e⟩ := key
  exact ⟨j - i, by omega, by omega, back_of hl (by omega) i j a e⟩
/-- the power as a number -/
def powN (l : List ByteArray) : Nat := if backB l 1 then 1 else if backB l 2 then 2 else if backB l 3 then 3 else 4
theorem powR_N {l : List ByteArray} (hl : substB l = true) : powR l = (powN l : Int) := by
  unfold powR powN
  rw [if_pos hl]
  split
  · rfl
  · split
    · rfl
    · split <;> rfl
theorem powN_le {l : List ByteArray} {n : Nat} (h1 : 1 ≤ n) (h : backB l n = true) : powN l ≤ n := by
  unfold powN
  split
  · omega
  · next a =>
    split
    · rcases (show n = 1 ∨ 2 ≤ n by omega) with e | e
      · subst e; exact absurd h a
      · exact e
    · next b =>
      split
      · rcases (show n = 1 ∨ n = 2 ∨ 3 ≤ n by omega) with e | e | e
        · subst e; exact absurd h a
        · subst e; exact absurd h b
        · exact e
      · next c =>
        rcases (show n = 1 ∨ n = 2 ∨ n = 3 ∨ 4 ≤ n by omega) with e | e | e | e
        · subst e; exact absurd h a
        · subst e; exact absurd h b
        · subst e; exact absurd h c
        · exact e
theorem powN_back {l : List ByteArray} (hl : substB l = true) : 1 ≤ powN l ∧ powN l ≤ 4 ∧ backB l (powN l) = true := by
  obtain ⟨n, h1, h4, h⟩ := back_some hl
  unfold powN
  split
  · next a => exact ⟨by omega, by omega, a⟩
  · next a =>
    split
    · next b => exact ⟨by omega, by omega, b⟩
    · next b =>
      split
      · next c => exact ⟨by omega, by omega, c⟩
      · next c =>
        have : n = 4 := by
          rcases (show n = 1 ∨ n = 2 ∨ n = 3 ∨ n = 4 by omega) with e | e | e | e
          · subst e; exact absurd h a
          · subst e; exact absurd h b
          · subst e; exact absurd h c
          · exact e
        subst this
        exact ⟨by omega, by omega, h⟩
theorem orbN_in {l : List ByteArray} (hl : substB l = true) {k : Nat} (hk : k < l.length) : 1 ≤ orbN l k ∧ orbN l k ≤ 4 ∧ goN l k (orbN l k) ∈ orbTo l k (orbN l k) := by
  unfold orbN
  split
  · next a => exact ⟨by omega, by omega, a⟩
  · next a =>
    split
    · next b => exact ⟨by omega, by omega, b⟩
    · next b =>
      split
      · next c => exact ⟨by omega, by omega, c⟩
      · next c => exact ⟨by omega, by omega, orb_some hl hk a b c⟩
theorem orbN_le {l : List ByteArray} {k n : Nat} (h1 : 1 ≤ n) (h : goN l k n ∈ orbTo l k n) : orbN l k ≤ n := by
  unfold orbN
  split
  · omega
  · next a =>
    split
    · rcases (show n = 1 ∨ 2 ≤ n by omega) with e | e
      · subst e; exact absurd h a
      · exact e
    · next b =>
      split
      · rcases (show n = 1 ∨ n = 2 ∨ 3 ≤ n by omega) with e | e | e
        · subst e; exact absurd h a
        · subst e; exact absurd h b
        · exact e
      · next c =>
        rcases (show n = 1 ∨ n = 2 ∨ n = 3 ∨ 4 ≤ n by omega) with e | e | e | e
        · subst e; exact absurd h a
        · subst e; exact absurd h b
        · subst e; exact absurd h c
        · exact e
/-- the least of the first i orbits' lengths -/
def minTo (l : List ByteArray) : Nat → Nat
  | 0 => l.length
  | i + 1 => min (minTo l i) (orbN l i)
theorem minTo_ge {l : List ByteArray} (hl : substB l = true) : ∀ i, i ≤ l.length → powN l ≤ minTo l i
  | 0, _ => by
    obtain ⟨n, h1, h2, h3⟩ := back_len hl
    have := powN_le h1 h3
    show powN l ≤ l.length
    omega
  | i + 1, hi => by
    have ih := minTo_ge hl i (by omega)
    obtain ⟨h1, h2, h3⟩ := orbN_in hl (show i < l.length by omega)
    obtain ⟨j, hj, e⟩ := (orbTo_mem l i _ _).1 h3
    have := powN_le (by omega) (back_of hl (show i < l.length by omega) j (orbN l i) hj e.symm)
    show powN l ≤ min (minTo l i) (orbN l i)
    omega
theorem minTo_le (l : List ByteArray) (k : Nat) : ∀ i, k < i → minTo l i ≤ orbN l k
  | 0, h => by omega
  | i + 1, h => by
    show min (minTo l i) (orbN l i) ≤ _
    by_cases e : k = i
    · subst e; omega
    · have := minTo_le l k i (by omega); omega
theorem minTo_end {l : List ByteArray} (hl : substB l = true) : minTo l l.length = powN l := by
  have h1 := minTo_ge hl l.length (Nat.le_refl _)
  obtain ⟨a, b, c⟩ := powN_back hl
  obtain ⟨k, hk, e⟩ := backB_iff.1 c
  have h2 := minTo_le l k l.length hk
  have h3 : orbN l k ≤ powN l := orbN_le a ((orbTo_mem l k _ _).2 ⟨0, by omega, by rw [e]; rfl⟩)
  omega
theorem minTo_small (l : List ByteArray) (h4 : l.length ≤ 4) : ∀ i, minTo l i ≤ 4
  | 0 => h4
  | i + 1 => by have := minTo_small l h4 i; show min _ _ ≤ 4; omega

set_option maxRecDepth 100000 in
set_option maxHeartbeats 1000000 in
theorem implPowerNeeded (l : List ByteArray) (v : Value) (w : World) (h : Lst w v (strs l)) (hz : ∀ x ∈ l, x.size ≤ 1048576) (hn : l.length ≤ 1048576) :
    Calls Try.prog 36 #[.agg #[v]] w fun e w' => e = .returned (.int .i64 (powR l)) ∧ Below w.heap.size w w' := by
  obtain ⟨A, cp, rfl⟩ := lst_slice h
  rw [strs_length] at h ⊢
  have hb0 : Below w.heap.size w (w.alloc (.cells #[.slice A l.length cp] 24)) := (Below.refl _ _).alloc (Nat.le_refl _) _
  have HL := Lib.hid (h.below hb0)
  have HZ := Lib.hid hz
  have HB0 := Lib.hid hb0
  clear h hz hb0
  by_cases h1 : substB l = true
  · have HV : Hid (powR l = (minTo l l.length : Int)) := by show _ = _; rw [powR_N h1, minTo_end h1]
    have HSB := Lib.hid h1
    obtain ⟨hl1, hl4, _⟩ := subst_parts h1
    have HM4 := Lib.hid (minTo_small l hl4)
    go_enter Try.func36, Try.ntmps36
    go_wp2_with fail
    refine (implSubstOkL l _ _ HL.out HZ.out (by omega)).mono ?_
    rintro e w1 ⟨rfl, hb1⟩
    rw [h1]
    have HBW1 : Hid (Below w.heap.size w w1) := HB0.out.trans (hb1.mono (by simp))
    have c1 : w1.cell? ⟨w.heap.size, 0, none⟩ = some (.slice A l.length cp) := (hb1.cell (p := ⟨w.heap.size, 0, none⟩) (by simp)).trans (by go_simp)
    have HL1 := Lib.hid (HL.out.below hb1)
    have hsz1 : w.heap.size < w1.heap.size := by have := hb1.size; simp at this; omega
    clear hb1 h1
    go_wp2_with fail
    go_loopw [3, 14] (fun m ix w' => ∃ i : Nat, i ≤ l.length ∧ ix = .int .i64 (i : Int) ∧ m = .int .i64 (minTo l i : Int) ∧ Below w1.heap.size w1 w') (fun _ ix _ => l.length - (intOf ix).toNat)
    case atStart => exact ⟨0, by omega, rfl, rfl, Below.refl _ _⟩
    case round =>
      obtain ⟨i, hi, rfl, rfl, hb⟩ := hrel
      have hm4 := HM4.out i
      by_cases hlt : i < l.length
      · have c3 : wr.cell? ⟨w.heap.size, 0, none⟩ = some (.slice A l.length cp) := (hb.cell (p := ⟨w.heap.size, 0, none⟩) hsz1).trans c1
        have q1 : IntKind.u8.wrap (97 + (i : Int)) = 97 + (i : Int) := IntWalk.u8_in _ (by omega)
        have HOC := Lib.hid (implOrbit l (.slice A l.length cp) i wr (HL1.out.below hb) HSB.out hlt)
        have HB := Lib.hid hb
        have ho4 := (orbN_in HSB.out hlt).2.1
        have HMS : Hid (minTo l (i + 1) = min (minTo l i) (orbN l i)) := rfl
        clear hb
        go_wp2_with fail
        refine HOC.out.mono ?_
        rintro e w2 ⟨v', rfl, ho2, hb2⟩
        obtain ⟨A2, cp2, rfl⟩ := own_slice ho2
        have HB2 : Hid (Below w1.heap.size w1 w2) := HB.out.trans (hb2.mono HB.out.size)
        clear ho2 hb2
        go_wp2_with fail
        go_roundw
        case rel => exact ⟨i + 1, by omega, by go_num, by rw [HMS.out]; congr 1; omega, HB2.out⟩
        case measure => simp [intOf]; omega
      · have hii : i = l.length := by omega
        have HE : Hid (minTo l i = minTo l l.length) := by show _ = _; rw [hii]
        have HB := Lib.hid hb
        clear hii hb
        go_wp2_with fail
        go_ret
        refine ⟨ret_int ?_, HBW1.out.trans (HB.out.mono HBW1.out.size)⟩
        rw [HV.out, HE.out]
  · have h1' : substB l = false := by simpa using h1
    have HV : Hid (powR l = 0) := if_neg h1
    clear h1
    go_enter Try.func36, Try.ntmps36
    go_wp2_with fail
    refine (implSubstOkL l _ _ HL.out HZ.out (by omega)).mono ?_
    rintro e w1 ⟨rfl, hb1⟩
    rw [h1']
    have HB1 : Hid (Below w.heap.size w w1) := HB0.out.trans (hb1.mono (by simp))
    clear hb1
    go_wp2_with fail
    go_ret
    exact ⟨ret_int HV.out.symm, HB1.out⟩
set_option maxRecDepth 100000 in
set_option maxHeartbeats 1000000 in
theorem implOrbitOfFirst (l : List ByteArray) (v : Value) (t : ByteArray) (w : World) (h : Lst w v (strs l)) (hz : ∀ x ∈ l, x.size ≤ 1048576) (hn : l.length ≤ 1048576) (ht : t.size ≤ 1048576) :
    Calls Try.prog 34 #[.agg #[v], .string t] w fun e w' => e = .returned (.string (orbR l t)) ∧ Below w.heap.size w w' := by
  obtain ⟨A, cp, rfl⟩ := lst_slice h
  rw [strs_length] at h ⊢
  have hb0 : Below w.heap.size w (w.alloc (.cells #[.slice A l.length cp] 24)) := (Below.refl _ _).alloc (Nat.le_refl _) _
  have HL := Lib.hid (h.below hb0)
  have HZ := Lib.hid hz
  have HB0 := Lib.hid hb0
  clear h hz hb0
  by_cases h0 : (letOk l t && substB l) = true
  · have HV : Hid (orbR l t = ⟨(orbB l (letN t) (orbN l (letN t))).toArray⟩) := by show _ = _; unfold orbR orbB; rw [if_pos h0]
    have H0 := Lib.hid h0
    have hp := h0
    unfold letOk at hp
    simp only [Bool.and_eq_true, decide_eq_true_eq] at hp
    obtain ⟨⟨⟨t1, t2⟩, hk⟩, hl⟩ := hp
    obtain ⟨c, hc, h3, h4⟩ := letter_list t1 t2
    have bt : (0 : Int) < (t.size : Int) := by omega
    have ht0 : Hid ((t[0].toNat : Int) = 97 + (letN t : Int)) := by
      have := (letN_at t1 t2).1
      show _ = _
      omega
    clear h0 hc h3
    go_enter Try.func34, Try.ntmps34
    go_wp2_with fail
    refine (implHasLetter A l cp t _ HL.out HZ.out hn ht).mono ?_
    rintro e w1 ⟨rfl, hb1⟩
    rw [H0.out]
    have HB1 : Hid (Below w.heap.size w w1) := HB0.out.trans (hb1.mono (by simp))
    have c1 : w1.cell? ⟨w.heap.size, 0, none⟩ = some (.slice A l.length cp) := (hb1.cell (p := ⟨w.heap.size, 0, none⟩) (by simp)).trans (by go_simp)
    have hLW := HL.out.below hb1
    have hcall := implOrbit l (.slice A l.length cp) (letN t) w1.drew (hLW.below (Below.refl _ w1).drew) hl hk
    rw [← ht0.out] at hcall
    have HOC := Lib.hid hcall
    clear hb1 hcall hLW
    go_wp2_with fail
    go_region_with (first
      | (refine HOC.out.mono ?_
         rintro e w2 ⟨v', rfl, ho2, hb2⟩
         obtain ⟨A2, cp2, rfl⟩ := own_slice ho2
         have hconv := conv_own_to Try.underlying9 ho2))
    all_goals
      go_wp2_with fail
      go_ret
      refine ⟨ret_str ?_, HB1.out.trans (((Below.refl _ w1).drew.trans hb2).mono HB1.out.size)⟩
      rw [HV.out]
  · have h0' : (letOk l t && substB l) = false := by simpa only [Bool.not_eq_true] using h0
    have HV : Hid (orbR l t = ⟨#[]⟩) := if_neg h0
    clear h0
    go_enter Try.func34, Try.ntmps34
    go_wp2_with fail
    refine (implHasLetter A l cp t _ HL.out HZ.out hn ht).mono ?_
    rintro e w1 ⟨rfl, hb1⟩
    rw [h0']
    have HB1 : Hid (Below w.heap.size w w1) := HB0.out.trans (hb1.mono (by simp))
    clear hb1
    go_wp2_with fail
    go_ret
    exact ⟨ret_str HV.out.symm, HB1.out⟩
end Go.Proofs.Ytbbcdeknnfghkaa
