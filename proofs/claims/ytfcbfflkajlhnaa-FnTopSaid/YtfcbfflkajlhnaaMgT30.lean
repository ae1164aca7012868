/- Texts put together. -/
import Derived.Test.YtfcbfflkajlhnaaMgT15
import Derived.Test.YtfcbfflkajlhnaaMgT29
import Derived.Test.YtfcbfflkajlhnaaMgT27
import Derived.Test.YtfcbfflkajlhnaaMgT18
import Derived.Shelf.Abstract
import Derived.Maps.AppendAt
import Derived.OwnWalkIn
/- Orbits and powers of the model. Conditions: lengths of at most 2^20. -/
namespace Go.Proofs.Ytfcbfflkajlhnaa
open Go.RowKit

theorem orb_go {l : List ByteArray} (hl : substB l = true) {k : Nat} (hk : k < l.length) {n : Nat} (hno : ∀ m, m < n → ¬ goN l k m ∈ orbTo l k m) : n ≤ 4 := by
  by_cases h : n ≤ 4
  · exact h
  · exact absurd (orb_some hl hk (hno 1 (by omega)) (hno 2 (by omega)) (hno 3 (by omega))) (hno 4 (by omega))
end Go.Proofs.Ytfcbfflkajlhnaa

/- OrbitOfFirst and PowerNeeded of the program. Conditions: lengths of at most 2^20. -/
namespace Go.Proofs.Ytfcbfflkajlhnaa
open Go.RowKit

theorem back_of {l : List ByteArray} (hl : substB l = true) {k : Nat} (hk : k < l.length) (i j : Nat) (hij : i < j) (e : goN l k j = goN l k i) : backB l (j - i) = true :=
  backB_iff.2 ⟨goN l k i, goN_lt hl hk i, by rw [goN_add, show i + (j - i) = j from by omega, e]⟩
theorem back_len {l : List ByteArray} (hl : substB l = true) : ∃ n, 1 ≤ n ∧ n ≤ l.length ∧ backB l n = true := by
  obtain ⟨h1, h4, _⟩ := subst_parts hl
  have key : ∃ i j, i < j ∧ j ≤ l.length ∧ goN l 0 j = goN l 0 i := by
    have lt := fun n => goN_lt hl (show 0 < l.length by omega) n
    have l0 := lt 0; have l1 := lt 1; have l2 := lt 2; have l3 := lt 3; have l4 := lt 4
    by_cases a : goN l 0 1 = goN l 0 0
    · exact ⟨0, 1, by omega, by omega, a⟩
    by_cases a2 : goN l 0 2 = goN l 0 0
    · exact ⟨0, 2, by omega, by omega, a2⟩
    by_cases a3 : goN l 0 2 = goN l 0 1
    · exact ⟨1, 2, by omega, by omega, a3⟩
    by_cases b1 : goN l 0 3 = goN l 0 0
    · exact ⟨0, 3, by omega, by omega, b1⟩
    by_cases b2 : goN l 0 3 = goN l 0 1
    · exact ⟨1, 3, by omega, by omega, b2⟩
    by_cases b3 : goN l 0 3 = goN l 0 2
    · exact ⟨2, 3, by omega, by omega, b3⟩
    have e4 : l.length = 4 := by omega
    by_cases c1 : goN l 0 4 = goN l 0 0
    · exact ⟨0, 4, by omega, by omega, c1⟩
    by_cases c2 : goN l 0 4 = goN l 0 1
    · exact ⟨1, 4, by omega, by omega, c2⟩
    by_cases c3 : goN l 0 4 = goN l 0 2
    · exact ⟨2, 4, by omega, by omega, c3⟩
    exact ⟨3, 4, by omega, by omega, by omega⟩
  obtain ⟨i, j, a, b, e⟩ := key
  exact ⟨j - i, by omega, by omega, back_of hl (by omega) i j a e⟩
/-- the power as a number -/
def powN (l : List ByteArray) : Nat := if backB l 1 then 1 else if backB l 2 then 2 else if backB l 3 then 3 else 4
theorem powR_N {l : List ByteArray} (hl : substB l = true) : powR l = (powN l : Int) := by
  unfold powR powN
  rw [if_pos hl]
  split
  · rfl
  · split
    · rfl
    · split <;> rfl
theorem powN_le {l : List ByteArray} {n : Nat} (h1 : 1 ≤ n) (h : backB l n = true) : powN l ≤ n := by
  unfold powN
  split
  · omega
  · next a =>
    split
    · rcases (show n = 1 ∨ 2 ≤ n by omega) with e | e
      · subst e; exact absurd h a
      · exact e
    · next b =>
      split
      · rcases (show n = 1 ∨ n = 2 ∨ 3 ≤ n by omega) with e | e | e
        · subst e; exact absurd h a
        · subst e; exact absurd h b
        · exact e
      · next c =>
        rcases (show n = 1 ∨ n = 2 ∨ n = 3 ∨ 4 ≤ n by omega) with e | e | e | e
        · subst e; exact absurd h a
        · subst e; exact absurd h b
        · subst e; exact absurd h c
        · exact e
theorem powN_back {l : List ByteArray} (hl : substB l = true) : 1 ≤ powN l ∧ powN l ≤ 4 ∧ backB l (powN l) = true := by
  obtain ⟨n, h1, h4, h⟩ := back_some hl
  unfold powN
  split
  · next a => exact ⟨by omega, by omega, a⟩
  · next a =>
    split
    · next b => exact ⟨by omega, by omega, b⟩
    · next b =>
      split
      · next c => exact ⟨by omega, by omega, c⟩
      · next c =>
        have : n = 4 := by
          rcases (show n = 1 ∨ n = 2 ∨ n = 3 ∨ n = 4 by omega) with e | e | e | e
          · subst e; exact absurd h a
          · subst e; exact absurd h b
          · subst e; exact absurd h c
          · exact e
        subst this
        exact ⟨by omega, by omega, h⟩
theorem orbN_in {l : List ByteArray} (hl : substB l = true) {k : Nat} (hk : k < l.length) : 1 ≤ orbN l k ∧ orbN l k ≤ 4 ∧ goN l k (orbN l k) ∈ orbTo l k (orbN l k) := by
  unfold orbN
  split
  · next a => exact ⟨by omega, by omega, a⟩
  · next a =>
    split
    · next b => exact ⟨by omega, by omega, b⟩
    · next b =>
      split
      · next c => exact ⟨by omega, by omega, c⟩
      · next c => exact ⟨by omega, by omega, orb_some hl hk a b c⟩
theorem orbN_le {l : List ByteArray} {k n : Nat} (h1 : 1 ≤ n) (h : goN l k n ∈ orbTo l k n) : orbN l k ≤ n := by
  unfold orbN
  split
  · omega
  · next a =>
    split
    · rcases (show n = 1 ∨ 2 ≤ n by omega) with e | e
      · subst e; exact absurd h a
      · exact e
    · next b =>
      split
      · rcases (show n = 1 ∨ n = 2 ∨ 3 ≤ n by omega) with e | e | e
        · subst e; exact absurd h a
        · subst e; exact absurd h b
        · exact e
      · next c =>
        rcases (show n = 1 ∨ n = 2 ∨ n = 3 ∨ 4 ≤ n by omega) with e | e | e | e
        · subst e; exact absurd h a
        · subst e; exact absurd h b
        · subst e; exact absurd h c
        · exact e
/-- the least of the first i orbits' lengths -/
def minTo (l : List ByteArray) : Nat → Nat
  | 0 => l.length
  | i + 1 => min (minTo l i) (orbN l i)
theorem minTo_ge {l : List ByteArray} (hl : substB l = true) : ∀ i, i ≤ l.length → powN l ≤ minTo l i
  | 0, _ => by
    obtain ⟨n, h1, h2, h3⟩ := back_len hl
    have := powN_le h1 h3
    show powN l ≤ l.length
    omega
  | i + 1, hi => by
    have ih := minTo_ge hl i (by omega)
    obtain ⟨h1, h2, h3⟩ := orbN_in hl (show i < l.length by omega)
    obtain ⟨j, hj, e⟩ := (orbTo_mem l i _ _).1 h3
    have := powN_le (by omega) (back_of hl (show i < l.length by omega) j (orbN l i) hj e.symm)
    show powN l ≤ min (minTo l i) (orbN l i)
    omega
theorem minTo_le (l : List ByteArray) (k : Nat) : ∀ i, k < i → minTo l i ≤ orbN l k
  | 0, h => by omega
  | i + 1, h => by
    show min (minTo l i) (orbN l i) ≤ _
    by_cases e : k = i
    · subst e; omega
    · have := minTo_le l k i (by omega); omega
theorem minTo_end {l : List ByteArray} (hl : substB l = true) : minTo l l.length = powN l := by
  have h1 := minTo_ge hl l.length (Nat.le_refl _)
  obtain ⟨a, b, c⟩ := powN_back hl
  obtain ⟨k, hk, e⟩ := backB_iff.1 c
  have h2 := minTo_le l k l.length hk
  have h3 : orbN l k ≤ powN l := orbN_le a ((orbTo_mem l k _ _).2 ⟨0, by omega, by rw [e]; rfl⟩)
  omega
theorem minTo_small (l : List ByteArray) (h4 : l.length ≤ 4) : ∀ i, minTo l i ≤ 4
  | 0 => h4
  | i + 1 => by have := minTo_small l h4 i; show min _ _ ≤ 4; omega

set_option maxRecDepth 100000 in
set_option maxHeartbeats 1000000 in
theorem implPowerNeeded (l : List ByteArray) (v : Value) (w : World) (h : Lst w v (strs l)) (hz : ∀ x ∈ l, x.size ≤ 1048576) (hn : l.length ≤ 1048576) :
    Calls Try.prog 29 #[.agg #[v]] w fun e w' => e = .returned (.int .i64 (powR l)) ∧ Below w.heap.size w w' := by
  obtain ⟨A, cp, rfl⟩ := lst_slice h
  rw [strs_length] at h ⊢
  have hb0 : Below w.heap.size w (w.alloc (.cells #[.slice A l.length cp] 25)) := (Below.refl _ _).alloc (Nat.le_refl _) _
  have HL := Lib.hid (h.below hb0)
  have HZ := Lib.hid hz
  have HB0 := Lib.hid hb0
  clear h hz hb0
  by_cases h1 : substB l = true
  · have HV : Hid (powR l = (minTo l l.length : Int)) := by show _ = _; rw [powR_N h1, minTo_end h1]
    have HSB := Lib.hid h1
    obtain ⟨hl1, hl4, _⟩ := subst_parts h1
    have HM4 := Lib.hid (minTo_small l hl4)
    go_enter Try.func29, Try.ntmps29
    go_wp2_with fail
    refine (implSubstOkL l _ _ HL.out HZ.out (by omega)).mono ?_
    rintro e w1 ⟨rfl, hb1⟩
    rw [h1]
    have HBW1 : Hid (Below w.heap.size w w1) := HB0.out.trans (hb1.mono (by simp))
    have c1 : w1.cell? ⟨w.heap.size, 0, none⟩ = some (.slice A l.length cp) := (hb1.cell (p := ⟨w.heap.size, 0, none⟩) (by simp)).trans (by go_simp)
    have HL1 := Lib.hid (HL.out.below hb1)
    have hsz1 : w.heap.size < w1.heap.size := by have := hb1.size; simp at this; omega
    clear hb1 h1
    go_wp2_with fail
    go_loopw [3, 14] (fun m ix w' => ∃ i : Nat, i ≤ l.length ∧ ix = .int .i64 (i : Int) ∧ m = .int .i64 (minTo l i : Int) ∧ Below w1.heap.size w1 w') (fun _ ix _ => l.length - (intOf ix).toNat)
    case atStart => exact ⟨0, by omega, rfl, rfl, Below.refl _ _⟩
    case round =>
      obtain ⟨i, hi, rfl, rfl, hb⟩ := hrel
      have hm4 := HM4.out i
      by_cases hlt : i < l.length
      · have c3 : wr.cell? ⟨w.heap.size, 0, none⟩ = some (.slice A l.length cp) := (hb.cell (p := ⟨w.heap.size, 0, none⟩) hsz1).trans c1
        have q1 : IntKind.u8.wrap (97 + (i : Int)) = 97 + (i : Int) := IntWalk.u8_in _ (by omega)
        have HOC := Lib.hid (implOrbit l (.slice A l.length cp) i wr (HL1.out.below hb) HSB.out hlt)
        have HB := Lib.hid hb
        have ho4 := (orbN_in HSB.out hlt).2.1
        have HMS : Hid (minTo l (i + 1) = min (minTo l i) (orbN l i)) := rfl
        clear hb
        go_wp2_with fail
        refine HOC.out.mono ?_
        rintro e w2 ⟨v', rfl, ho2, hb2⟩
        obtain ⟨A2, cp2, rfl⟩ := own_slice ho2
        have HB2 : Hid (Below w1.heap.size w1 w2) := HB.out.trans (hb2.mono HB.out.size)
        clear ho2 hb2
        go_wp2_with fail
        go_roundw
        case rel => exact ⟨i + 1, by omega, by go_num, by rw [HMS.out]; congr 1; omega, HB2.out⟩
        case measure => simp [intOf]; omega
      · have hii : i = l.length := by omega
        have HE : Hid (minTo l i = minTo l l.length) := by show _ = _; rw [hii]
        have HB := Lib.hid hb
        clear hii hb
        go_wp2_with fail
        go_ret
        refine ⟨ret_int ?_, HBW1.out.trans (HB.out.mono HBW1.out.size)⟩
        rw [HV.out, HE.out]
  · have h1' : substB l = false := by simpa using h1
    have HV : Hid (powR l = 0) := if_neg h1
    clear h1
    go_enter Try.func29, Try.ntmps29
    go_wp2_with fail
    refine (implSubstOkL l _ _ HL.out HZ.out (by omega)).mono ?_
    rintro e w1 ⟨rfl, hb1⟩
    rw [h1']
    have HB1 : Hid (Below w.heap.size w w1) := HB0.out.trans (hb1.mono (by simp))
    clear hb1
    go_wp2_with fail
    go_ret
    exact ⟨ret_int HV.out.symm, HB1.out⟩
set_option maxRecDepth 100000 in
set_option maxHeartbeats 1000000 in
theorem implOrbitOfFirst (l : List ByteArray) (v : Value) (t : ByteArray) (w : World) (h : Lst w v (strs l)) (hz : ∀ x ∈ l, x.size ≤ 1048576) (hn : l.length ≤ 1048576) (ht : t.size ≤ 1048576) :
    Calls Try.prog 30 #[.agg #[v], .string t] w fun e w' => e = .returned (.string (orbR l t)) ∧ Below w.heap.size w w' := by
  obtain ⟨A, cp, rfl⟩ := lst_slice h
  rw [strs_length] at h ⊢
  have hb0 : Below w.heap.size w (w.alloc (.cells #[.slice A l.length cp] 25)) := (Below.refl _ _).alloc (Nat.le_refl _) _
  have HL := Lib.hid (h.below hb0)
  have HZ := Lib.hid hz
  have HB0 := Lib.hid hb0
  clear h hz hb0
  by_cases h0 : (letOk l t && substB l) = true
  · have HV : Hid (orbR l t = ⟨(orbB l (letN t) (orbN l (letN t))).toArray⟩) := by show _ = _; unfold orbR orbB; rw [if_pos h0]
    have H0 := Lib.hid h0
    have hp := h0
    unfold letOk at hp
    simp only [Bool.and_eq_true, decide_eq_true_eq] at hp
    obtain ⟨⟨⟨t1, t2⟩, hk⟩, hl⟩ := hp
    obtain ⟨c, hc, h3, h4⟩ := letter_list t1 t2
    have bt : (0 : Int) < (t.size : Int) := by omega
    have ht0 : Hid ((t[0].toNat : Int) = 97 + (letN t : Int)) := by
      have := (letN_at t1 t2).1
      show _ = _
      omega
    clear h0 hc h3
    go_enter Try.func30, Try.ntmps30
    go_wp2_with fail
    refine (implHasLetter A l cp t _ HL.out HZ.out hn ht).mono ?_
    rintro e w1 ⟨rfl, hb1⟩
    rw [H0.out]
    have HB1 : Hid (Below w.heap.size w w1) := HB0.out.trans (hb1.mono (by simp))
    have c1 : w1.cell? ⟨w.heap.size, 0, none⟩ = some (.slice A l.length cp) := (hb1.cell (p := ⟨w.heap.size, 0, none⟩) (by simp)).trans (by go_simp)
    have hLW := HL.out.below hb1
    have hcall := implOrbit l (.slice A l.length cp) (letN t) w1.drew (hLW.below (Below.refl _ w1).drew) hl hk
    rw [← ht0.out] at hcall
    have HOC := Lib.hid hcall
    clear hb1 hcall hLW
    go_wp2_with fail
    go_region_with (first
      | (refine HOC.out.mono ?_
         rintro e w2 ⟨v', rfl, ho2, hb2⟩
         obtain ⟨A2, cp2, rfl⟩ := own_slice ho2
         have hconv := conv_own_to Try.underlying9 ho2))
    all_goals
      go_wp2_with fail
      go_ret
      refine ⟨ret_str ?_, HB1.out.trans (((Below.refl _ w1).drew.trans hb2).mono HB1.out.size)⟩
      rw [HV.out]
  · have h0' : (letOk l t && substB l) = false := by simpa only [Bool.not_eq_true] using h0
    have HV : Hid (orbR l t = ⟨#[]⟩) := if_neg h0
    clear h0
    go_enter Try.func30, Try.ntmps30
    go_wp2_with fail
    refine (implHasLetter A l cp t _ HL.out HZ.out hn ht).mono ?_
    rintro e w1 ⟨rfl, hb1⟩
    rw [h0']
    have HB1 : Hid (Below w.heap.size w w1) := HB0.out.trans (hb1.mono (by simp))
    clear hb1
    go_wp2_with fail
    go_ret
    exact ⟨ret_str HV.out.symm, HB1.out⟩
end Go.Proofs.Ytfcbfflkajlhnaa

/- fixedStart of the program: the first n letters of the fixed point. Conditions: the substitution is valid, the letter growing, n of at most 10,001. -/
namespace Go.Proofs.Ytfcbfflkajlhnaa
open Go.RowKit Go.Shelf
attribute [local go_sem] Oper.semAt_some

set_option maxRecDepth 100000 in
set_option maxHeartbeats 1000000 in
theorem implFixedStart (l : List ByteArray) (v : Value) (t : ByteArray) (n : Nat) (w : World) (h : Lst w v (strs l)) (hg : growOk l t = true) (hn : n ≤ 10001) :
    Calls Try.prog 66 #[.agg #[v], .string t, .int .i64 n] w fun e w' => ∃ v', e = .returned v' ∧ w'.ownsRow w.heap.size 5 1 v' n (byteCells (fixL l (letN t) n)) ∧ Below w.heap.size w w' := by
  obtain ⟨i0, hi0, hz0, hz1, hz2⟩ := info_parts u8_info
  obtain ⟨A, cp, rfl⟩ := lst_slice h
  rw [strs_length] at h ⊢
  refine (callsIn_wide (n := 9)).1 (callsIn_of_wp_marks Try.func66 rfl trivial ?_ rfl)
  simp only [Try.ntmps66, List.size_toArray, List.length_cons, List.length_nil, Nat.reduceAdd, Nat.reduceSub, Array.replicate_succ, Array.replicate_zero, List.push_toArray, List.append_toArray, List.nil_append, List.cons_append]
  refine wpIn_wide.2 ?_
  go_upto_region 2 with (at_make; refine wpList_make_own _ rfl _ _ 22 rfl w.heap.size 5 i0 (.int .u8 0) 1 Try.underlying22 hi0 hz0 hz1 .i64 .i64 n n rfl rfl rfl (by rw [hz2]; omega) (by unfold maxLen; omega) (by simp; omega) ?_; intro w1 hown1 hgrow1)
  obtain ⟨hN, hl, hgb⟩ := grow_parts hg
  obtain ⟨hm1, hm4, _⟩ := subst_parts hl
  have hlet : ∃ h0 : 0 < t.size, t[0].toNat = 97 + letN t := by
    unfold growOk letOk at hg
    simp only [Bool.and_eq_true, decide_eq_true_eq] at hg
    exact ⟨by omega, (letN_at hg.1.1.1.1 hg.1.1.1.2).1⟩
  have hs1 : w.heap.size + 3 ≤ w1.heap.size := by
    have := (hown1.lt (w.heap.size + 1 + 1) (by simp [Value.ownBlock])).2
    omega
  have hb1 : Below w.heap.size w w1 := (((Below.refl _ w).alloc (Nat.le_refl _) _).alloc (by simp) _).grown hgrow1 (by simp; omega) (fun k e => by cases e)
  obtain ⟨W2, hW2⟩ : ∃ W2, w1.alloc (.cells #[.slice (some ⟨w.heap.size + 1 + 1, 0, none⟩) 0 n] 22) = W2 := ⟨_, rfl⟩
  have hS2 : W2.heap.size = w1.heap.size + 1 := by rw [← hW2]; simp
  have HB2 : Hid (Below w.heap.size w W2) := by rw [← hW2]; exact hb1.alloc (by omega) _
  have HX2 : Hid (Boxed W2 w1.heap.size 22 (.slice (some ⟨w.heap.size + 1 + 1, 0, none⟩) 0 n)) := by rw [← hW2]; exact Boxed.new _ _ _
  have HR2 : Hid (W2.ownsRow w.heap.size 5 1 (.slice (some ⟨w.heap.size + 1 + 1, 0, none⟩) 0 n) 0 []) := by rw [← hW2]; have := hown1.alloc (.cells #[.slice (some ⟨w.heap.size + 1 + 1, 0, none⟩) 0 n] 22); simp only [World.size_alloc] at this; exact this
  have c0 : W2.cell? ⟨w.heap.size, 0, none⟩ = some (.slice A l.length cp) := by
    rw [← hW2]
    have hK1 := hgrow1.cell (a := ⟨w.heap.size, 0, none⟩) (v := .slice A l.length cp) (by go_simp) (by simp)
    exact ((Below.refl w1.heap.size w1).alloc (Nat.le_refl _) _).cell (World.block_lt_of_cell? w1 _ hK1) |>.trans hK1
  have c1 : W2.cell? ⟨w.heap.size + 1, 0, none⟩ = some (.int .i64 n) := by
    rw [← hW2]
    have hK1 := hgrow1.cell (a := ⟨w.heap.size + 1, 0, none⟩) (v := .int .i64 n) (by go_simp) (by simp)
    exact ((Below.refl w1.heap.size w1).alloc (Nat.le_refl _) _).cell (World.block_lt_of_cell? w1 _ hK1) |>.trans hK1
  have HL2 : Hid (Lst W2.drew (.slice A l.length cp) (strs l)) := h.below HB2.out.drew
  rw [hW2]
  clear hW2 hgrow1 hown1 hb1 h hz0 hz2
  obtain ⟨ht0, htl⟩ := hlet
  have HTL := Lib.hid htl
  have bt : (0 : Int) < (t.size : Int) := by omega
  clear htl
  go_cut [15] from 11 to 25 (fun f wx => ∃ g S pt pg, f = .func (.func 125) #[] #[.pointer (some ⟨pt, 0, none⟩), .pointer (some ⟨pg, 0, none⟩)] ∧ W2.heap.size ≤ g ∧ W2.heap.size ≤ S ∧ W2.heap.size ≤ pt ∧ wx.cell? ⟨pg, 0, none⟩ = some (.int .u8 (97 + (letN t : Int))) ∧ wx.cell? ⟨pt, 0, none⟩ = some (.slice (some ⟨g, 0, none⟩) l.length l.length) ∧ ImgTab wx S g l ∧ Below W2.heap.size W2 wx)
  case first =>
    refine wp_calm ?_
    go_region_with (first
      | (go_at_call 69; refine (implTableAt l _ _ HL2.out hm1 hm4).mono ?_; rintro e wt ⟨g, S, hgg, hSS, rfl, hT, hbt⟩)
      | (go_at_call 111; refine (implFixedLetters _ _ _ _ _).mono ?_; rintro e wf ⟨rfl, rfl⟩))
    all_goals
      go_wp2_with fail
      go_meet
      have hsz := hbt.size
      simp only [World.size_drew] at hgg hSS hsz hbt
      have hbb : Below W2.heap.size W2 wt := (Below.refl _ W2).drew.trans hbt
      refine ⟨g, S, wt.heap.size, wt.heap.size + 1, rfl, hgg, hSS, by omega, ?_, ?_, hT.below (((Below.refl _ _).alloc (Nat.le_refl _) _).alloc (by simp) _), (hbb.alloc hsz _).alloc (by simp; omega) _⟩
      · have e : ((t[0].toNat : Nat) : Int) = 97 + (letN t : Int) := by have := HTL.out; omega
        rw [← e]
        go_simp
      · go_simp
  case rest =>
    obtain ⟨g, S, pt, pg, rfl, hgg, hSS, hpt, c2, c3, hT, hbx⟩ := hcut
    obtain ⟨wx, rfl⟩ : ∃ x : World, x = wc := ⟨_, rfl⟩
    have hsx := hbx.size
    have HBX : Hid (Below w.heap.size w wx) := HB2.out.trans (hbx.mono HB2.out.size)
    have HXX : Hid (Boxed wx w1.heap.size 22 (.slice (some ⟨w.heap.size + 1 + 1, 0, none⟩) 0 n)) := (hbx.block _ (by omega)).trans HX2.out
    have kx : Kept (fun _ => False) W2 wx := ⟨hbx.os, hbx.tape, hbx.output, hbx.size, fun k hk _ => hbx.block k hk⟩
    have HRX : Hid (wx.ownsRow w.heap.size 5 1 (.slice (some ⟨w.heap.size + 1 + 1, 0, none⟩) 0 n) 0 (byteCells (fixL l (letN t) 0))) := kx.row HR2.out (fun _ _ h => h)
    have d1 : wx.cell? ⟨w.heap.size + 1, 0, none⟩ = some (.int .i64 n) := kx.cell c1 (fun h => h)
    go_wp2_with fail
    refine (wpIn_wide (n := 9)).1 ?_
    refine rangeOver (gf := 125) (lb := #[.pointer (some ⟨pt, 0, none⟩), .pointer (some ⟨pg, 0, none⟩)]) rfl (enters_of Try.func125 (by kernel_rfl) rfl) rfl
      (enc := encFix l (letN t)) (X := fun k => k = w.heap.size + 1 + 1 ∨ k = w1.heap.size) (Z := True) (N := n + 1) (w0 := wx)
      (fixStreams l (letN t) _ (n + 1) pt pg g l.length S wx hl hN hgb (by omega) c2 c3 hT (by omega) (by omega) (fun j hj => by omega) (fun q hq => by omega)) (Below.refl _ _) (by omega) (by omega)
      (fun i W => (i ≤ n ∧ W.cell? ⟨w.heap.size + 1, 0, none⟩ = some (.int .i64 n)) ∧ Boxed W w1.heap.size 22 (.slice (some ⟨w.heap.size + 1 + 1, 0, none⟩) i n) ∧ W.ownsRow w.heap.size 5 1 (.slice (some ⟨w.heap.size + 1 + 1, 0, none⟩) i n) i (byteCells (fixL l (letN t) i)) ∧ Below w.heap.size w W)
      (fun W => Boxed W w1.heap.size 22 (.slice (some ⟨w.heap.size + 1 + 1, 0, none⟩) n n) ∧ W.ownsRow w.heap.size 5 1 (.slice (some ⟨w.heap.size + 1 + 1, 0, none⟩) n n) n (byteCells (fixL l (letN t) n)) ∧ Below w.heap.size w W)
      0 ?keep ?keepx ⟨⟨Nat.zero_le _, d1⟩, HXX.out, HRX.out, HBX.out⟩ (fun i => { tmps := #[.agg #[.slice A l.length cp], .string t, .int .i64 n, .pointer (some ⟨w.heap.size, 0, none⟩), undef, .pointer (some ⟨w.heap.size + 1, 0, none⟩), .slice none 0 0, .pointer (some ⟨w1.heap.size, 0, none⟩), .int .u8 ((fixB l (letN t) i).toNat : Int), .int .i64 n, .slice (some ⟨w.heap.size + 1 + 1, 0, none⟩) 0 n, u11, u12, u13, u14, .func (.func 125) #[] #[.pointer (some ⟨pt, 0, none⟩), .pointer (some ⟨pg, 0, none⟩)], .int .u8 ((fixB l (letN t) i).toNat : Int), u17, u18, u19, u20, u21, u22, u23, u24, u25], defers := [] }) ?assign ?body ?stop
    case keep =>
      rintro i A1 C ⟨⟨h1, h2⟩, h3, h4, h5⟩ hk
      have nx : ∀ q, q < wx.heap.size → ¬ ((q = wx.heap.size ∨ q = wx.heap.size + 1) ∨ (True ∧ wx.heap.size + 2 ≤ q)) := fun q hq h => by omega
      refine ⟨⟨h1, hk.cell h2 (nx _ (by simp; omega))⟩, hk.boxed h3 (nx _ (by omega)), hk.row h4 (fun q e => nx _ ?_), h5.trans (hk.below (B := w.heap.size) (fun q h => by omega) h5.size)⟩
      simp [Value.ownBlock] at e
      omega
    case keepx =>
      rintro A1 C ⟨h3, h4, h5⟩ hk
      refine ⟨hk.boxed h3 (by omega), hk.row h4 (fun q e => ?_), h5.trans (hk.below (B := w.heap.size) (fun q h => by omega) h5.size)⟩
      simp [Value.ownBlock] at e
      omega
    case assign =>
      intro lp i A' K hK
      gi_wp2
      exact hK
    case body =>
      rintro lp i A1 _ ⟨⟨hin, hcn⟩, hbx1, hro, hbl⟩
      refine ⟨by omega, ?_⟩
      have hc1 := hbx1.cell
      have hf1 := hbx1.frozen
      by_cases e : i = n
      · have dE : ((i : Int) == (n : Int)) = true := by simp; omega
        have HE := Lib.hid e
        clear e
        gi_wp2
        refine ⟨rfl, Kept.refl _ _, ?_⟩
        rw [HE.out] at hbx1 hro
        exact ⟨hbx1, hro, hbl⟩
      · have dE : ((i : Int) == (n : Int)) = false := by simp; omega
        have HBX1 := Lib.hid hbx1
        have HRO := Lib.hid hro
        have HCN := Lib.hid hcn
        have HBL := Lib.hid hbl
        have HSN := Lib.hid (fixL_snoc hl hN hgb i)
        have hlt1 := hbx1.lt
        clear hbx1 hro hbl
        gi_wp2_with (gi_at_builtin; refine wpListIn_append_fits _ rfl (.tmp 21) (.tmp 23) 22 rfl w.heap.size 5 i0 1 Try.underlying22 hi0 hz1 (w.heap.size + 1 + 1) i n _ rfl (HRO.out.alloc _) ⟨A1.heap.size, 0, none⟩ 1 1 [.int .u8 ((fixB l (letN t) i).toNat : Int)] rfl rfl (cell_one_new _ _ _) (by simp [Value.oneCell']) (by omega) ?_; intro w5 hown5 hgrow5; have hc5 : w5.cell? ⟨w1.heap.size, 0, none⟩ = some (.slice (some ⟨w.heap.size + 1 + 1, 0, none⟩) i n) := (hgrow5.cell (a := ⟨w1.heap.size, 0, none⟩) (((Below.refl _ A1).alloc (Nat.le_refl _) _).cell hlt1 |>.trans hc1) (by simp; omega)); have hf5 : w5.frozen? ⟨w1.heap.size, 0, none⟩ = false := (World.frozen?_of_block (hgrow5.block w1.heap.size (by simp; omega) (by simp; omega))).trans ((((Below.refl _ A1).alloc (Nat.le_refl _) _).frozen hlt1).trans hf1))
        have ka : Kept (fun k => k = w.heap.size + 1 + 1 ∨ k = w1.heap.size) A1 (w5.setCell ⟨w1.heap.size, 0, none⟩ (.slice (some ⟨w.heap.size + 1 + 1, 0, none⟩) (i + 1) n)) :=
          ((((Kept.refl _ A1).alloc _).grown hgrow5 (fun k e => by cases e; exact .inl rfl)).setCell (.inr rfl) _)
        have hb5 : Boxed w5 w1.heap.size 22 (.slice (some ⟨w.heap.size + 1 + 1, 0, none⟩) i n) := (HBX1.out.alloc _).kept hgrow5 (by simp; omega)
        refine ⟨ka, ⟨by omega, ka.cell HCN.out (by simp; omega)⟩, hb5.set _, ?_, HBL.out.trans (ka.below (fun q h => by omega) HBL.out.size)⟩
        rw [HSN.out, byteCells_snoc]
        exact hown5.kept (grownBy_setCell' w5 w1.heap.size _) (.inr (by simp [Value.ownBlock]; omega))
    case stop =>
      rintro D C hD ⟨h3, h4, h5⟩ hK
      have hc1 := h3.cell
      gi_wp2
      go_wp2_with fail
      have kD : Kept (fun k => k = D) C (C.putObj D (.deferred none)) := (Kept.refl _ C).putObj _ rfl
      refine ⟨by simp, .inl ⟨_, _, rfl, run_takeDeferred hK, ?_⟩⟩
      refine ⟨_, results_tmp rfl _ _ _, .slice (some ⟨w.heap.size + 1 + 1, 0, none⟩) n n, rfl, kD.row h4 (fun q e => ?_), h5.trans (kD.below (fun q h => by omega) h5.size)⟩
      simp [Value.ownBlock] at e
      omega
end Go.Proofs.Ytfcbfflkajlhnaa
