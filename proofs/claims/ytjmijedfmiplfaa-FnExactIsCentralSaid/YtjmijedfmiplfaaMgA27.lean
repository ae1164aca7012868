/- Texts put together. -/
import Derived.Test.YtjmijedfmiplfaaMgA20
import Derived.Test.YtjmijedfmiplfaaMgA26
import Derived.Test.YtjmijedfmiplfaaMgA19
import Derived.Laws.Cover1
import Derived.BigQuiet
import Derived.Test.YtjmijedfmiplfaaMgA21
import Derived.Test.YtjmijedfmiplfaaMgA1
import Derived.Deep.OwnRows
import Derived.Lib.Hide
import Derived.Test.YtjmijedfmiplfaaMgA9
import Derived.Deep.LoopGhost
import Derived.LaidEqlPtr
/- The program's IsBinary, spread, SpreadOf, unbalancedLength, IsBalanced. Conditions: lengths of at most 2^20. -/
namespace Go.Proofs.Ytjmijedfmiplfaa
open Go.RowKit Go.Lib

theorem txt_upto {P : Program} {t : TypeId} (ht : P.underlying t = some .string) (s : ByteArray) (b : Int) (y : Nat) (w : World) (hb : b = y) (h : y ≤ s.size) :
    (Instr.slice t (.string s) none (some (.int .i64 b)) none).run P w = .ok (.string (s.extract 0 y)) w := by
  subst hb
  rw [run_slice_string_to_if (P := P) w t s .i64 (y : Int) ht, if_pos (by omega)]
  rfl

set_option maxHeartbeats 400000 in
theorem implIsBinary (s : ByteArray) (w : World) (hs : s.size ≤ 1048576) :
    Calls Try.prog 53 #[.string s] w fun e w' => e = .returned (.bool (binB s)) ∧ Below w.heap.size w w' := by
  have HH := Lib.hid (fun w => implHasFirst 2 s w (by decide) hs)
  have HV : Hid ((wordB s && withinB 2 s) = binB s) := rfl
  generalize (wordB s && withinB 2 s) = b at *
  go_enter Try.func53, Try.ntmps53
  go_wp2_with fail
  refine (HH.out _).mono ?_
  rintro e w' ⟨rfl, hb⟩
  have HB := Lib.hid hb
  clear hb
  go_wp2_with fail
  go_ret
  exact ⟨ret_bool HV.out, HB.out⟩

theorem letterAtQ (n j : Int) (w : World) (h : n = 97 + j) (h1 : 0 ≤ j) (h2 : j ≤ 3) :
    Calls Try.prog 89 #[.int .u8 n] w fun e w' => e = .returned (.int .i64 j) ∧ w' = w :=
  (letterAt n j w h h1 h2).mono fun _ _ h => ⟨h.1, h.2.symm⟩
theorem bin_at {s : ByteArray} (h : binB s = true) (k : Nat) (hk : k < s.size) : (s[k].toNat : Int) = 97 + ((bX s k).toNat : Int) := by
  unfold binB at h
  rw [Bool.and_eq_true] at h
  obtain ⟨h1, h2⟩ := word_at h.1 k hk
  have h3 : s[k].toNat < 99 := by
    have hm : s[k] ∈ s.data.toList := by
      have := at_list s k hk
      exact List.mem_of_getElem? this
    have := List.all_eq_true.1 h.2 _ hm
    simpa using this
  unfold bX
  rw [at_list s k hk]
  by_cases e : s[k] = 98
  · rw [e]; rfl
  · have h5 : s[k].toNat ≠ 98 := fun e2 => e (UInt8.toNat.inj e2)
    have h4 : (some s[k] == some (98 : UInt8)) = false := by rw [beq_eq_false_iff_ne]; exact fun h => e (Option.some.inj h)
    rw [h4]
    have : false.toNat = 0 := rfl
    omega
theorem cb_slide (x : Nat → Bool) (k n : Nat) : cbN x (k + 1) n + (x k).toNat = cbN x k n + (x (k + n)).toNat := by
  have h1 := cb_cons x k n
  have h2 : cbN x k (n + 1) = cbN x k n + (x (k + n)).toNat := rfl
  omega

set_option maxRecDepth 100000 in
set_option maxHeartbeats 1000000 in
theorem implSpread (s : ByteArray) (n : Nat) (w : World) (hb : binB s = true) (hn : 1 ≤ n ∧ n ≤ s.size) :
    Calls Try.prog 82 #[.string s, .int .i64 (n : Int)] w fun e w' => e = .returned (.tuple #[.int .i64 (lwN s n : Int), .int .i64 (hgN s n : Int)]) ∧ ∃ m, w' = w.drewN m := by
  obtain ⟨hn1, hn2⟩ := hn
  have hs4 : s.size ≤ 400 := word_size (bin_word hb)
  have HL : Hid (lwN s n = spLo s n (s.size - n + 1)) := by show _ = _; unfold lwN; congr 1; omega
  have HH : Hid (hgN s n = spHi s n (s.size - n + 1)) := by show _ = _; unfold hgN; congr 1; omega
  have HLE := Lib.hid (sp_le s n)
  have HLN : Hid (∀ k, spLo s n (k + 1) = min (spLo s n k) (cbN (bX s) k n)) := fun k => rfl
  have HHN : Hid (∀ k, spHi s n (k + 1) = max (spHi s n k) (cbN (bX s) k n)) := fun k => rfl
  have HL0 : Hid (spLo s n (0 + 1) = cbN (bX s) 0 n) := by
    have := cb_le (bX s) 0 n
    show min n (cbN (bX s) 0 n) = cbN (bX s) 0 n
    omega
  have HH0 : Hid (spHi s n (0 + 1) = cbN (bX s) 0 n) := by show max 0 (cbN (bX s) 0 n) = cbN (bX s) 0 n; omega
  have HCL : Hid (∀ k, cbN (bX s) k n ≤ n) := fun k => cb_le (bX s) k n
  have HSL := Lib.hid (fun k => cb_slide (bX s) k n)
  have HAT := Lib.hid (fun k h => bin_at hb k h)
  have hsl : ∀ w : World, (Instr.slice 60 (.string s) none (some (.int .i64 (n : Int))) none).run Try.prog w = .ok (.string (s.extract 0 n)) w := fun w => txt_upto Try.underlying60 s _ n w rfl (by omega)
  have HC := Lib.hid (fun w => (Try.strings_Count_one (s.extract 0 n) 98 w).mono (R' := fun e w' => e = .returned (.int .i64 (Lib.countByte (s.extract 0 n).data.toList 98)) ∧ w = w') (fun _ _ h => ⟨h.1, h.2.symm⟩))
  have hcc : Lib.countByte (s.extract 0 n).data.toList 98 = cbN (bX s) 0 n := by
    have := cnt_cb s 0 n (by omega)
    rw [Nat.zero_add] at this
    exact this
  rw [hcc] at HC
  clear hcc hb
  generalize s.extract 0 n = x0 at *
  generalize spLo s n = lo at *
  generalize spHi s n = hi at *
  generalize lwN s n = ra at *
  generalize hgN s n = rb at *
  generalize hX : bX s = X at *
  generalize hCf : (fun k => cbN X k n) = C at *
  have hCe : ∀ k, cbN X k n = C k := fun k => congrFun hCf k
  simp only [hCe] at HLN HHN HL0 HH0 HCL HSL HC
  clear hCe hCf hX
  go_enter Try.func82, Try.ntmps82
  go_wp2_with fail
  refine (HC.out _).mono ?_
  rintro e w' ⟨rfl, rfl⟩
  go_wp2_with fail
  go_loopw [6, 7, 8, 20] (fun nv lv hv iv w' => ∃ (k a b : Nat), k ≤ s.size - n ∧ a = lo (k + 1) ∧ b = hi (k + 1) ∧ nv = .int .i64 (C k : Int) ∧ lv = .int .i64 (a : Int) ∧ hv = .int .i64 (b : Int) ∧ iv = .int .i64 (k : Int) ∧ ∃ m, w' = w.drewN m) (fun _ _ _ iv _ => s.size - n - (RowKit.intOf iv).toNat)
  case atStart => exact ⟨0, C 0, C 0, Nat.zero_le _, HL0.out.symm, HH0.out.symm, rfl, rfl, rfl, rfl, 0, rfl⟩
  case round =>
    obtain ⟨k, a, b, hk, ha, hb, rfl, rfl, rfl, rfl, m, hm⟩ := hrel
    have HM := Lib.hid hm
    clear hm
    have hab : a ≤ n ∧ b ≤ n := by rw [ha, hb]; exact HLE.out (k + 1)
    have HA := Lib.hid ha
    have HB := Lib.hid hb
    clear ha hb
    by_cases hlt : k < s.size - n
    · have hlt' : (k : Int) < (s.size : Int) - (n : Int) := by omega
      have hs0 := HSL.out k
      have hc0 := HCL.out k
      have hc1 := HCL.out (k + 1)
      have hk1 : k < s.size := by omega
      have hk2 : k + n < s.size := by omega
      have ha0 := HAT.out k hk1
      have ha1 := HAT.out (k + n) hk2
      have HLX := Lib.hid (HLN.out (k + 1))
      have HHX := Lib.hid (HHN.out (k + 1))
      rw [← HA.out] at HLX
      rw [← HB.out] at HHX
      have t0 : (X k).toNat ≤ 1 := Bool.toNat_le _
      have t1 : (X (k + n)).toNat ≤ 1 := Bool.toNat_le _
      have hi0 : ∀ w : World, (Instr.index 60 (.string s) (.int .i64 (k : Int))).run Try.prog w = .ok (.int .u8 ((s[k]'hk1).toNat : Int)) w := fun w => index_at Try.underlying60 s k k w (by omega) rfl
      have hi1 : ∀ w : World, (Instr.index 60 (.string s) (.int .i64 ((k : Int) + (n : Int)))).run Try.prog w = .ok (.int .u8 ((s[k + n]'hk2).toNat : Int)) w := fun w => index_at Try.underlying60 s _ (k + n) w (by omega) (by omega)
      have HI0 := Lib.hid (fun w => letterAtQ ((s[k]'hk1).toNat : Int) ((X k).toNat : Int) w ha0 (by omega) (by omega))
      have HI1 := Lib.hid (fun w => letterAtQ ((s[k + n]'hk2).toNat : Int) ((X (k + n)).toNat : Int) w ha1 (by omega) (by omega))
      generalize ((s[k]'hk1).toNat : Int) = c0 at *
      generalize ((s[k + n]'hk2).toNat : Int) = c1 at *
      generalize (X k).toNat = d0 at *
      generalize (X (k + n)).toNat = d1 at *
      have e1 : IntKind.i64.wrap ((k : Int) + (n : Int)) = (k : Int) + (n : Int) := IntWalk.i64_in _ (by omega)
      have e2 : IntKind.i64.wrap ((d1 : Int) - (d0 : Int)) = (d1 : Int) - (d0 : Int) := IntWalk.i64_in _ (by omega)
      have e3 : IntKind.i64.wrap ((C k : Int) + ((d1 : Int) - (d0 : Int))) = (C (k + 1) : Int) := by rw [IntWalk.i64_in _ (by omega)]; omega
      clear ha0 ha1
      go_wp2_with fail
      go_quiet (first
        | exact Calls.quiet_of_same (HI0.out _)
        | exact Calls.quiet_of_same (HI1.out _))
      go_wp2_with fail
      go_roundw
      case rel => exact ⟨k + 1, min a (C (k + 1)), max b (C (k + 1)), by omega, HLX.out.symm, HHX.out.symm, by first | rfl | (congr 1; omega), congrArg (Value.int .i64) (by omega), congrArg (Value.int .i64) (by omega), by go_num, m + nq, by rw [HM.out]; exact World.drewN_drewN _ _ _⟩
      case measure => simp [RowKit.intOf]; omega
    · have hke : k = s.size - n := by omega
      have HRA : Hid (ra = a) := by show _ = _; rw [HL.out, HA.out, hke]
      have HRB : Hid (rb = b) := by show _ = _; rw [HH.out, HB.out, hke]
      have hlt' : ¬ (k : Int) < (s.size : Int) - (n : Int) := by omega
      clear hke
      go_wp2_with fail
      go_ret2
      exact ⟨by rw [HRA.out, HRB.out]; rfl, m, HM.out⟩

/-- the least of the lengths 1 to k that show that the word is not balanced, 0 if there is none -/
def ubTo (s : ByteArray) : Nat → Nat
  | 0 => 0
  | k + 1 => if ubTo s k = 0 then (if lwN s (k + 1) + 1 < hgN s (k + 1) then k + 1 else 0) else ubTo s k
def ubN (s : ByteArray) : Nat := ubTo s s.size
theorem ub_zero (s : ByteArray) : ∀ k, ubTo s k = 0 ↔ blTo s k = true
  | 0 => ⟨fun _ => rfl, fun _ => rfl⟩
  | k + 1 => by
    have ih := ub_zero s k
    show (if ubTo s k = 0 then (if lwN s (k + 1) + 1 < hgN s (k + 1) then k + 1 else 0) else ubTo s k) = 0 ↔ (blTo s k && decide (hgN s (k + 1) ≤ lwN s (k + 1) + 1)) = true
    rw [Bool.and_eq_true, decide_eq_true_eq, ← ih]
    by_cases h : ubTo s k = 0
    · rw [if_pos h]
      by_cases h2 : lwN s (k + 1) + 1 < hgN s (k + 1)
      · rw [if_pos h2]; exact ⟨fun e => by omega, fun e => by omega⟩
      · rw [if_neg h2]; exact ⟨fun _ => ⟨h, by omega⟩, fun _ => rfl⟩
    · rw [if_neg h]; exact ⟨fun e => absurd e h, fun e => absurd e.1 h⟩
theorem ub_stay {s : ByteArray} {k : Nat} (h : ubTo s k ≠ 0) : ∀ j, ubTo s (k + j) = ubTo s k
  | 0 => rfl
  | j + 1 => by
    have ih := ub_stay h j
    show (if ubTo s (k + j) = 0 then _ else ubTo s (k + j)) = _
    rw [if_neg (by rw [ih]; exact h), ih]
theorem ub_found {s : ByteArray} {k : Nat} (h0 : ubTo s k = 0) (hk : k < s.size) (h : lwN s (k + 1) + 1 < hgN s (k + 1)) : ubN s = k + 1 := by
  have h1 : ubTo s (k + 1) = k + 1 := by
    show (if ubTo s k = 0 then (if lwN s (k + 1) + 1 < hgN s (k + 1) then k + 1 else 0) else ubTo s k) = k + 1
    rw [if_pos h0, if_pos h]
  have h2 := ub_stay (s := s) (k := k + 1) (by rw [h1]; omega) (s.size - (k + 1))
  rw [show k + 1 + (s.size - (k + 1)) = s.size by omega, h1] at h2
  exact h2
theorem ub_next {s : ByteArray} {k : Nat} (h0 : ubTo s k = 0) (h : ¬ lwN s (k + 1) + 1 < hgN s (k + 1)) : ubTo s (k + 1) = 0 := by
  show (if ubTo s k = 0 then (if lwN s (k + 1) + 1 < hgN s (k + 1) then k + 1 else 0) else ubTo s k) = 0
  rw [if_pos h0, if_neg h]

set_option maxRecDepth 100000 in
set_option maxHeartbeats 1000000 in
theorem implUnbalanced (s : ByteArray) (w : World) (hb : binB s = true) :
    Calls Try.prog 63 #[.string s] w fun e w' => e = .returned (.int .i64 (ubN s : Int)) ∧ ∃ m, w' = w.drewN m := by
  have hs4 : s.size ≤ 400 := word_size (bin_word hb)
  have HS := Lib.hid (fun k w (h : 1 ≤ k ∧ k ≤ s.size) => implSpread s k w hb h)
  have HF := Lib.hid (fun k a b c => ub_found (s := s) (k := k) a b c)
  have HN := Lib.hid (fun k a b => ub_next (s := s) (k := k) a b)
  have H0 : Hid (ubTo s 0 = 0) := rfl
  have HE : Hid (ubN s = ubTo s s.size) := rfl
  have HLE : Hid (∀ k, lwN s k ≤ k ∧ hgN s k ≤ k) := fun k => sp_le s k _
  clear hb
  generalize ubN s = r at *
  generalize ubTo s = U at *
  generalize lwN s = lo at *
  generalize hgN s = hi at *
  go_enter Try.func63, Try.ntmps63
  go_wp2_with fail
  go_loopw [9] (fun iv w' => ∃ k : Nat, k ≤ s.size ∧ iv = .int .i64 (k : Int) ∧ U k = 0 ∧ ∃ m, w' = w.drewN m) (fun iv _ => s.size - (RowKit.intOf iv).toNat)
  case atStart => exact ⟨0, Nat.zero_le _, rfl, H0.out, 0, rfl⟩
  case round =>
    obtain ⟨k, hk, rfl, hu, m, hm⟩ := hrel
    have HU := Lib.hid hu
    have HM := Lib.hid hm
    clear hu hm
    by_cases hlt : k < s.size
    · have hlt' : (k : Int) < (s.size : Int) := by omega
      have HSK := Lib.hid (fun w => HS.out (k + 1) w ⟨by omega, by omega⟩)
      have ek : ((k + 1 : Nat) : Int) = (k : Int) + 1 := rfl
      rw [ek] at HSK
      have hle := HLE.out (k + 1)
      by_cases hc : lo (k + 1) + 1 < hi (k + 1)
      · have hr := HF.out k HU.out hlt hc
        have HR := Lib.hid hr
        clear hr
        generalize lo (k + 1) = x at *
        generalize hi (k + 1) = y at *
        have hd : (1 : Int) < (y : Int) - (x : Int) := by omega
        go_wp2_with fail
        refine (HSK.out _).mono ?_
        rintro e w2 ⟨rfl, m2, rfl⟩
        go_wp2_with fail
        go_ret
        exact ⟨ret_int (by rw [HR.out]; rfl), m + m2, by rw [HM.out]; exact World.drewN_drewN _ _ _⟩
      · have HR := Lib.hid (HN.out k HU.out hc)
        generalize lo (k + 1) = x at *
        generalize hi (k + 1) = y at *
        have hd : ¬ (1 : Int) < (y : Int) - (x : Int) := by omega
        go_wp2_with fail
        refine (HSK.out _).mono ?_
        rintro e w2 ⟨rfl, m2, rfl⟩
        go_wp2_with fail
        go_roundw
        case rel => exact ⟨k + 1, by omega, by go_num, HR.out, m + m2, by rw [HM.out]; exact World.drewN_drewN _ _ _⟩
        case measure => simp [RowKit.intOf]; omega
    · have hke : k = s.size := by omega
      have HR : Hid (r = 0) := by show _ = _; rw [HE.out, ← hke]; exact HU.out
      have hlt' : ¬ (k : Int) < (s.size : Int) := by omega
      clear hke
      go_wp2_with fail
      go_ret
      exact ⟨ret_int (by rw [HR.out]; rfl), m, HM.out⟩

set_option maxHeartbeats 1000000 in
theorem implIsBalanced (s : ByteArray) (w : World) (hs : s.size ≤ 1048576) :
    Calls Try.prog 38 #[.string s] w fun e w' => e = .returned (.bool (balR s)) ∧ Below w.heap.size w w' := by
  have HBI := Lib.hid (fun w => implIsBinary s w hs)
  cases hb : binB s
  · have HV : Hid (balR s = false) := by show _ = _; unfold balR; rw [hb]; rfl
    rw [hb] at HBI
    clear hb
    generalize balR s = r at *
    go_enter Try.func38, Try.ntmps38
    go_wp2_with fail
    refine (HBI.out _).mono ?_
    rintro e w' ⟨rfl, hb1⟩
    have HB1 := Lib.hid hb1
    clear hb1
    go_wp2_with fail
    go_ret
    exact ⟨ret_bool HV.out.symm, HB1.out⟩
  rw [hb] at HBI
  have HU := Lib.hid (fun w => implUnbalanced s w hb)
  have HV : Hid (balR s = decide (ubN s = 0)) := by
    show _ = _
    unfold balR
    rw [hb, Bool.true_and, Bool.eq_iff_iff, decide_eq_true_eq]
    exact (ub_zero s s.size).symm
  clear hb
  generalize balR s = r at *
  generalize ubN s = u at *
  have hd : ((u : Int) == 0) = decide (u = 0) := by rw [Bool.eq_iff_iff, beq_iff_eq, decide_eq_true_eq]; omega
  go_enter Try.func38, Try.ntmps38
  go_wp2_with fail
  refine (HBI.out _).mono ?_
  rintro e w1 ⟨rfl, hb1⟩
  have HB1 := Lib.hid hb1
  clear hb1
  go_wp2_with fail
  refine (HU.out _).mono ?_
  rintro e w2 ⟨rfl, m, hm⟩
  have HB2 : Hid (Below w.heap.size w w2) := by show Below _ _ _; rw [hm]; exact below_drewN HB1.out m
  clear hm
  go_wp2_with fail
  go_ret
  exact ⟨ret_bool (by rw [HV.out]), HB2.out⟩
end Go.Proofs.Ytjmijedfmiplfaa

/- The tree of palindromes: what it is, and what a letter does to it. No program in it. -/
namespace Go.Proofs.Ytjmijedfmiplfaa

/-! ### letters, parts, palindromes -/
def SameAt (c : Nat → Nat) (a b n : Nat) : Prop := ∀ i, i < n → c (a + i) = c (b + i)
def PalAt (c : Nat → Nat) (a n : Nat) : Prop := ∀ i, i < n → c (a + i) = c (a + (n - 1 - i))
theorem sa_refl (c : Nat → Nat) (a n : Nat) : SameAt c a a n := fun _ _ => rfl
theorem sa_symm {c : Nat → Nat} {a b n : Nat} (h : SameAt c a b n) : SameAt c b a n := fun i hi => (h i hi).symm
theorem sa_trans {c : Nat → Nat} {a b d n : Nat} (h : SameAt c a b n) (k : SameAt c b d n) : SameAt c a d n := fun i hi => (h i hi).trans (k i hi)
theorem sa_zero (c : Nat → Nat) (a b : Nat) : SameAt c a b 0 := fun _ hi => absurd hi (by omega)
theorem at_eq (c : Nat → Nat) {a b : Nat} (h : a = b) : c a = c b := congrArg c h
theorem sa_at {c : Nat → Nat} {a b n x y : Nat} (h : SameAt c a b n) (i : Nat) (hi : i < n) (hx : x = a + i) (hy : y = b + i) : c x = c y := by subst hx; subst hy; exact h i hi
/-- a part of two like parts -/
theorem sa_sub {c : Nat → Nat} {a b n x y k : Nat} (h : SameAt c a b n) (d : Nat) (hd : d + k ≤ n) (hx : x = a + d) (hy : y = b + d) : SameAt c x y k := fun i hi => sa_at h (d + i) (by omega) (by omega) (by omega)
theorem pa_zero (c : Nat → Nat) (a : Nat) : PalAt c a 0 := fun _ hi => absurd hi (by omega)
theorem pa_one (c : Nat → Nat) (a : Nat) : PalAt c a 1 := fun i hi => at_eq c (by omega)
theorem pa_at {c : Nat → Nat} {a n x y : Nat} (h : PalAt c a n) (i : Nat) (hi : i < n) (hx : x = a + i) (hy : y = a + (n - 1 - i)) : c x = c y := by subst hx; subst hy; exact h i hi
theorem pa_same {c : Nat → Nat} {a b n : Nat} (h : SameAt c a b n) (k : PalAt c a n) : PalAt c b n := fun i hi => by
  rw [← h i hi, ← h (n - 1 - i) (by omega)]
  exact k i hi
/-- a palindrome at the end of a palindrome stands at its beginning, too -/
theorem pa_border {c : Nat → Nat} {a b m n : Nat} (he : a + m = b + n) (hn : n ≤ m) (hm : PalAt c a m) (hb : PalAt c b n) : SameAt c a b n := fun i hi => by
  rw [hm i (by omega), hb i hi]
  exact at_eq c (by omega)
theorem pa_grow {c : Nat → Nat} {i p : Nat} (hp : p ≤ i) (he : c (i - p) = c i) (h : PalAt c (i + 1 - p) (p - 1)) : PalAt c (i - p) (p + 1) := fun j hj => by
  by_cases h0 : j = 0
  · subst h0
    rw [Nat.add_zero, he]
    exact at_eq c (by omega)
  · by_cases h1 : j = p
    · subst h1
      rw [at_eq c (show i - j + j = i by omega), ← he]
      exact at_eq c (by omega)
    · exact pa_at h (j - 1) (by omega) (by omega) (by omega)
theorem pa_inner {c : Nat → Nat} {i p : Nat} (hp : p ≤ i) (h : PalAt c (i - p) (p + 1)) : c (i - p) = c i ∧ PalAt c (i + 1 - p) (p - 1) :=
  ⟨pa_at h 0 (by omega) (by omega) (by omega), fun j hj => pa_at h (j + 1) (by omega) (by omega) (by omega)⟩

/-! ### the tree -/
/-- nodes 0 .. m (0 the center, 1 the empty one): the block of each, its start, its length and 1, the one that it is linked to as the shorter one, and those that it becomes -/
structure Eer where
  m : Nat
  bl : Nat → Nat
  st : Nat → Nat
  lp : Nat → Nat
  sh : Nat → Nat
  wd : Nat → Nat → Option Nat
structure EerOk (c : Nat → Nat) (i : Nat) (T : Eer) : Prop where
  m1 : 1 ≤ T.m
  lp0 : T.lp 0 = 0
  lp1 : T.lp 1 = 1
  st1 : T.st 1 = 0
  big : ∀ k, 2 ≤ k → k ≤ T.m → 2 ≤ T.lp k
  inn : ∀ k, 1 ≤ k → k ≤ T.m → T.st k + T.lp k ≤ i + 1
  asc : ∀ k k', 1 ≤ k → k < k' → k' ≤ T.m → T.st k + T.lp k < T.st k' + T.lp k'
  pal : ∀ k, 1 ≤ k → k ≤ T.m → PalAt c (T.st k) (T.lp k - 1)
  fst : ∀ k, 1 ≤ k → k ≤ T.m → ∀ a, SameAt c (T.st k) a (T.lp k - 1) → T.st k ≤ a
  shk : ∀ k, 1 ≤ k → k ≤ T.m → T.sh k < k ∧ T.lp (T.sh k) < T.lp k ∧ SameAt c (T.st (T.sh k)) (T.st k + T.lp k - T.lp (T.sh k)) (T.lp (T.sh k) - 1) ∧ ∀ p, T.lp (T.sh k) < p → p < T.lp k → ¬ PalAt c (T.st k + T.lp k - p) (p - 1)
  full : ∀ a n, a + n ≤ i → PalAt c a n → ∃ k, 1 ≤ k ∧ k ≤ T.m ∧ T.lp k = n + 1 ∧ SameAt c (T.st k) a n
  wid : ∀ k x, k ≤ T.m → ∀ j, T.wd k x = some j ↔ (2 ≤ j ∧ j ≤ T.m ∧ T.lp j = T.lp k + 2 ∧ c (T.st j) = x ∧ SameAt c (T.st j + 1) (T.st k) (T.lp k - 1))
/-- node k stands at the end of the first i letters -/
def EndAt (c : Nat → Nat) (i : Nat) (T : Eer) (k : Nat) : Prop := k ≤ T.m ∧ T.lp k ≤ i + 1 ∧ SameAt c (T.st k) (i + 1 - T.lp k) (T.lp k - 1)
/-- node k is the longest one there -/
def CurAt (c : Nat → Nat) (i : Nat) (T : Eer) (k : Nat) : Prop := 1 ≤ k ∧ EndAt c i T k ∧ ∀ p, T.lp k < p → p ≤ i + 1 → ¬ PalAt c (i + 1 - p) (p - 1)
/-- the letter before one of length p - 1 at the end is the next letter -/
def GoodP (c : Nat → Nat) (i p : Nat) : Prop := p ≤ i ∧ c (i - p) = c i
/-- node r stands at the end, and none that is longer, up to node k, has the next letter before it -/
def DownTo (c : Nat → Nat) (i : Nat) (T : Eer) (k r : Nat) : Prop := EndAt c i T r ∧ T.lp r ≤ T.lp k ∧ ∀ p, T.lp r < p → p ≤ T.lp k → PalAt c (i + 1 - p) (p - 1) → ¬ GoodP c i p
theorem good_zero (c : Nat → Nat) (i : Nat) : GoodP c i 0 := ⟨Nat.zero_le _, rfl⟩

theorem EerOk.pos {c i T} (h : EerOk c i T) {k : Nat} (h1 : 1 ≤ k) (h2 : k ≤ T.m) : 1 ≤ T.lp k := by
  by_cases e : k = 1
  · subst e; rw [h.lp1]; omega
  · have := h.big k (by omega) h2; omega
/-- nodes of like letters are one -/
theorem EerOk.inj {c i T} (h : EerOk c i T) {k k' : Nat} (h1 : 1 ≤ k) (h2 : k ≤ T.m) (h1' : 1 ≤ k') (h2' : k' ≤ T.m) (hl : T.lp k = T.lp k') (hs : SameAt c (T.st k) (T.st k') (T.lp k - 1)) : k = k' := by
  have a := h.fst k h1 h2 _ hs
  have b := h.fst k' h1' h2' _ (by rw [← hl]; exact sa_symm hs)
  rcases Nat.lt_trichotomy k k' with x | x | x
  · have := h.asc k k' h1 x h2'; omega
  · exact x
  · have := h.asc k' k h1' x h2; omega
theorem down_self {c i T k} (h : EndAt c i T k) : DownTo c i T k k := ⟨h, Nat.le_refl _, fun p a b => absurd a (by omega)⟩
theorem EndAt.pal {c i T k} (h : EerOk c i T) (e : EndAt c i T k) : PalAt c (i + 1 - T.lp k) (T.lp k - 1) := by
  by_cases h0 : k = 0
  · subst h0; rw [h.lp0]; exact pa_zero _ _
  · exact pa_same e.2.2 (h.pal k (by omega) e.1)
/-- the shorter one stands at the end, too -/
theorem EndAt.shorter {c i T k} (h : EerOk c i T) (e : EndAt c i T k) (h1 : 1 ≤ k) : EndAt c i T (T.sh k) := by
  obtain ⟨a1, a2, a3, _⟩ := h.shk k h1 e.1
  refine ⟨by have := e.1; omega, by have := e.2.1; omega, ?_⟩
  by_cases h0 : T.lp (T.sh k) = 0
  · rw [h0]; exact sa_zero _ _ _
  · refine sa_trans a3 (sa_sub e.2.2 (T.lp k - T.lp (T.sh k)) (by omega) (by omega) ?_)
    have := e.2.1
    omega
theorem down_step {c i T k q} (h : EerOk c i T) (d : DownTo c i T k q) (hg : ¬ GoodP c i (T.lp q)) : 1 ≤ q ∧ T.sh q < q ∧ DownTo c i T k (T.sh q) := by
  have hq : 1 ≤ q := by
    rcases Nat.eq_zero_or_pos q with e | e
    · subst e; rw [h.lp0] at hg; exact absurd (good_zero c i) hg
    · exact e
  obtain ⟨a1, a2, a3, a4⟩ := h.shk q hq d.1.1
  refine ⟨hq, a1, d.1.shorter h hq, by have := d.2.1; omega, fun p p1 p2 pp => ?_⟩
  rcases Nat.lt_trichotomy p (T.lp q) with x | x | x
  · exfalso
    refine a4 p p1 x (pa_same (sa_symm (sa_sub d.1.2.2 (T.lp q - p) (by omega) (by omega) ?_)) pp)
    have := d.1.2.1
    omega
  · rw [x]; exact hg
  · exact d.2.2 p x p2 pp

/-! ### what a letter does -/
/-- all that ends with the next letter is no longer than the one found and its two letters -/
theorem next_longest {c i T L r} (hL : CurAt c i T L) (d : DownTo c i T L r) (p : Nat) (h1 : T.lp r + 2 < p) (h2 : p ≤ i + 2) : ¬ PalAt c (i + 2 - p) (p - 1) := fun hp => by
  obtain ⟨q, rfl⟩ : ∃ q, p = q + 2 := ⟨p - 2, by omega⟩
  have hq : q ≤ i := by omega
  obtain ⟨b1, b2⟩ := pa_inner (c := c) hq (by rw [show i + 2 - (q + 2) = i - q from by omega] at hp; exact hp)
  by_cases hL2 : q ≤ T.lp L
  · exact d.2.2 q (by omega) hL2 b2 ⟨hq, b1⟩
  · exact hL.2.2 q (by omega) (by omega) b2
/-- all palindromes that end with the next letter are known, but for the longest one -/
theorem full_next {c i T} (h : EerOk c i T) {b n : Nat} (hn : b + n = i + 1) (hp : PalAt c b n) {a m : Nat} (ha : a + m = i + 1) (hm : m < n) (hq : PalAt c a m) : ∃ k, 1 ≤ k ∧ k ≤ T.m ∧ T.lp k = m + 1 ∧ SameAt c (T.st k) a m := by
  have e := pa_border (c := c) (a := b) (b := a) (m := n) (n := m) (by omega) (by omega) hp hq
  obtain ⟨k, k1, k2, k3, k4⟩ := h.full b m (by omega) (pa_same (sa_symm e) hq)
  exact ⟨k, k1, k2, k3, sa_trans k4 e⟩
/-- the node that one becomes with the next letter on both sides stands at the end -/
theorem wid_end {c i T r j} (h : EerOk c i T) (e : EndAt c i T r) (hg : GoodP c i (T.lp r)) (hj : T.wd r (c i) = some j) : 2 ≤ j ∧ j ≤ T.m ∧ T.lp j = T.lp r + 2 ∧ SameAt c (T.st j) (i - T.lp r) (T.lp r + 1) ∧ T.st j + T.lp r + 1 ≤ i := by
  obtain ⟨j1, j2, j3, j4, j5⟩ := (h.wid r (c i) e.1 j).1 hj
  have jp := h.pal j (by omega) j2
  rw [j3] at jp
  have j6 := h.inn j (by omega) j2
  rw [j3] at j6
  have g1 := hg.1
  refine ⟨j1, j2, j3, fun t ht => ?_, by omega⟩
  by_cases h0 : t = 0
  · subst h0
    rw [Nat.add_zero, Nat.add_zero, j4, hg.2]
  · by_cases h1 : t = T.lp r
    · rw [pa_at jp t (by omega) rfl rfl, at_eq c (show T.st j + (T.lp r + 2 - 1 - 1 - t) = T.st j by omega), j4]
      exact at_eq c (by omega)
    · rw [sa_at j5 (t - 1) (by omega) (show T.st j + t = _ by omega) rfl]
      exact sa_at e.2.2 (t - 1) (by omega) rfl (by omega)
theorem EerOk.mono {c i T} (h : EerOk c i T) (hf : ∀ a n, a + n ≤ i + 1 → PalAt c a n → ∃ k, 1 ≤ k ∧ k ≤ T.m ∧ T.lp k = n + 1 ∧ SameAt c (T.st k) a n) : EerOk c (i + 1) T :=
  { h with inn := fun k a b => by have := h.inn k a b; omega, full := hf }
/-- the longest one that ends with the next letter is known -/
theorem eer_old {c i T L r j} (h : EerOk c i T) (hL : CurAt c i T L) (d : DownTo c i T L r) (hg : GoodP c i (T.lp r)) (hj : T.wd r (c i) = some j) : EerOk c (i + 1) T ∧ CurAt c (i + 1) T j := by
  obtain ⟨j1, j2, j3, j4, j5⟩ := wid_end h d.1 hg hj
  have g1 := hg.1
  have hcur : CurAt c (i + 1) T j := by
    refine ⟨by omega, ⟨j2, by omega, ?_⟩, fun p p1 p2 => next_longest hL d p (by omega) p2⟩
    rw [j3]
    have e1 : i + 1 + 1 - (T.lp r + 2) = i - T.lp r := by omega
    rw [e1]
    exact j4
  refine ⟨h.mono fun a n hn hp => ?_, hcur⟩
  by_cases hi : a + n ≤ i
  · exact h.full a n hi hp
  · have hpal := pa_same j4 (by have := h.pal j (by omega) j2; rw [j3] at this; exact this)
    rcases Nat.lt_trichotomy n (T.lp r + 1) with x | x | x
    · exact full_next h (b := i - T.lp r) (n := T.lp r + 1) (by omega) hpal (by omega) x hp
    · subst x
      exact ⟨j, by omega, j2, by omega, by rw [show a = i - T.lp r by omega]; exact j4⟩
    · exfalso
      refine next_longest hL d (n + 1) (by omega) (by omega) ?_
      rw [show i + 2 - (n + 1) = a by omega]
      exact hp
/-- what the next letter makes is new -/
theorem new_first {c i T r} (h : EerOk c i T) (e : EndAt c i T r) (hg : GoodP c i (T.lp r)) (hn : T.wd r (c i) = none) (a : Nat) (ha : SameAt c (i - T.lp r) a (T.lp r + 1)) : i - T.lp r ≤ a := by
  by_cases hlt : i - T.lp r ≤ a
  · exact hlt
  · exfalso
    have g1 := hg.1
    have hp := pa_grow hg.1 hg.2 (e.pal h)
    obtain ⟨k, k1, k2, k3, k4⟩ := h.full a (T.lp r + 1) (by omega) (pa_same ha hp)
    have k5 := sa_trans k4 (sa_symm ha)
    have : T.wd r (c i) = some k := (h.wid r (c i) e.1 k).2 ⟨by
      by_cases hk : k = 1
      · subst hk; rw [h.lp1] at k3; omega
      · omega, k2, by omega, by rw [sa_at k5 0 (by omega) (by omega) rfl]; exact hg.2, fun t ht => by
      rw [sa_at k5 (t + 1) (by omega) (by omega) rfl]
      exact (sa_at e.2.2 t (by omega) rfl (by omega)).symm⟩
    rw [hn] at this
    cases this
/-- the one with which the new one ends is known -/
theorem new_shorter {c i T r r'} (h : EerOk c i T) (h1 : 1 ≤ r) (e : EndAt c i T r) (hg : GoodP c i (T.lp r)) (d : DownTo c i T (T.sh r) r') (hg' : GoodP c i (T.lp r')) : ∃ j, T.wd r' (c i) = some j := by
  obtain ⟨a1, a2, a3, a4⟩ := h.shk r h1 e.1
  have g1 := hg.1
  have d2 := d.2.1
  have hp := pa_grow hg.1 hg.2 (e.pal h)
  have hp' := pa_grow hg'.1 hg'.2 (d.1.pal h)
  have hb := pa_border (c := c) (a := i - T.lp r) (b := i - T.lp r') (m := T.lp r + 1) (n := T.lp r' + 1) (by omega) (by omega) hp hp'
  obtain ⟨k, k1, k2, k3, k4⟩ := h.full (i - T.lp r) (T.lp r' + 1) (by omega) (pa_same (sa_symm hb) hp')
  have k5 := sa_trans k4 hb
  refine ⟨k, (h.wid r' (c i) d.1.1 k).2 ⟨?_, k2, by omega, ?_, fun t ht => ?_⟩⟩
  · by_cases hk : k = 1
    · subst hk; rw [h.lp1] at k3; omega
    · omega
  · rw [sa_at k5 0 (by omega) (by omega) rfl]; exact hg'.2
  · rw [sa_at k5 (t + 1) (by omega) (by omega) rfl]
    exact (sa_at d.1.2.2 t (by omega) rfl (by omega)).symm
/-- the tree with a new node -/
def Eer.more (T : Eer) (b s l j r x : Nat) : Eer where
  m := T.m + 1
  bl k := if k = T.m + 1 then b else T.bl k
  st k := if k = T.m + 1 then s else T.st k
  lp k := if k = T.m + 1 then l else T.lp k
  sh k := if k = T.m + 1 then j else T.sh k
  wd k y := if k = T.m + 1 then none else if k = r ∧ y = x then some (T.m + 1) else T.wd k y
theorem more_st {T : Eer} {b s l j r x k : Nat} (h : k ≤ T.m) : (T.more b s l j r x).st k = T.st k := if_neg (by omega)
theorem more_lp {T : Eer} {b s l j r x k : Nat} (h : k ≤ T.m) : (T.more b s l j r x).lp k = T.lp k := if_neg (by omega)
theorem more_sh {T : Eer} {b s l j r x k : Nat} (h : k ≤ T.m) : (T.more b s l j r x).sh k = T.sh k := if_neg (by omega)
theorem more_bl {T : Eer} {b s l j r x k : Nat} (h : k ≤ T.m) : (T.more b s l j r x).bl k = T.bl k := if_neg (by omega)
theorem more_st1 {T : Eer} {b s l j r x : Nat} : (T.more b s l j r x).st (T.m + 1) = s := if_pos rfl
theorem more_lp1 {T : Eer} {b s l j r x : Nat} : (T.more b s l j r x).lp (T.m + 1) = l := if_pos rfl
theorem more_sh1 {T : Eer} {b s l j r x : Nat} : (T.more b s l j r x).sh (T.m + 1) = j := if_pos rfl
theorem more_bl1 {T : Eer} {b s l j r x : Nat} : (T.more b s l j r x).bl (T.m + 1) = b := if_pos rfl
theorem more_wd1 {T : Eer} {b s l j r x y : Nat} : (T.more b s l j r x).wd (T.m + 1) y = none := if_pos rfl
theorem more_wd {T : Eer} {b s l j r x k y : Nat} (h : k ≤ T.m) : (T.more b s l j r x).wd k y = if k = r ∧ y = x then some (T.m + 1) else T.wd k y := if_neg (by omega)

/-- what a new node is to be linked to -/
def LinkOk (c : Nat → Nat) (i : Nat) (T : Eer) (r j : Nat) : Prop := (r = 0 ∧ j = 1) ∨ (1 ≤ r ∧ ∃ r', DownTo c i T (T.sh r) r' ∧ GoodP c i (T.lp r') ∧ T.wd r' (c i) = some j)
theorem link_sh {c i T r j} (h : EerOk c i T) (e : EndAt c i T r) (hg : GoodP c i (T.lp r)) (hj : LinkOk c i T r j) : 1 ≤ j ∧ j ≤ T.m ∧ T.lp j < T.lp r + 2 ∧ SameAt c (T.st j) (i + 2 - T.lp j) (T.lp j - 1) ∧ ∀ p, T.lp j < p → p < T.lp r + 2 → ¬ PalAt c (i + 2 - p) (p - 1) := by
  rcases hj with ⟨rfl, rfl⟩ | ⟨h1, r', d, g', hw⟩
  · rw [h.lp0, h.lp1]
    exact ⟨Nat.le_refl _, h.m1, by omega, sa_zero _ _ _, fun p a b => by omega⟩
  · obtain ⟨j1, j2, j3, j4, j5⟩ := wid_end h d.1 g' hw
    obtain ⟨a1, a2, a3, a4⟩ := h.shk r h1 e.1
    have d2 := d.2.1
    have g1 := hg.1
    refine ⟨by omega, j2, by omega, ?_, fun p p1 p2 hp => ?_⟩
    · rw [j3]
      exact sa_sub j4 0 (by omega) (by omega) (by omega)
    · obtain ⟨q, rfl⟩ : ∃ q, p = q + 2 := ⟨p - 2, by omega⟩
      obtain ⟨b1, b2⟩ := pa_inner (c := c) (i := i) (p := q) (by omega) (by rw [show i + 2 - (q + 2) = i - q from by omega] at hp; exact hp)
      by_cases hq : q ≤ T.lp (T.sh r)
      · exact d.2.2 q (by omega) hq b2 ⟨by omega, b1⟩
      · refine a4 q (by omega) (by omega) (pa_same (sa_symm (sa_sub e.2.2 (T.lp r - q) (by omega) (by omega) ?_)) b2)
        have := e.2.1
        omega
/-- the longest one that ends with the next letter is new -/
theorem eer_new {c i T L r j} (b : Nat) (h : EerOk c i T) (hL : CurAt c i T L) (d : DownTo c i T L r) (hg : GoodP c i (T.lp r)) (hn : T.wd r (c i) = none) (hj : LinkOk c i T r j) :
    EerOk c (i + 1) (T.more b (i - T.lp r) (T.lp r + 2) j r (c i)) ∧ CurAt c (i + 1) (T.more b (i - T.lp r) (T.lp r + 2) j r (c i)) (T.m + 1) := by
  have hfirst := new_first h d.1 hg hn
  obtain ⟨l1, l2, l3, l4, l5⟩ := link_sh h d.1 hg hj
  have hpal := pa_grow hg.1 hg.2 (d.1.pal h)
  have g1 := hg.1
  have hr := d.1.1
  have hm := h.m1
  have hlong := next_longest hL d
  generalize hT' : T.more b (i - T.lp r) (T.lp r + 2) j r (c i) = T'
  have em : T'.m = T.m + 1 := by rw [← hT']; rfl
  have est : ∀ k, k ≤ T.m → T'.st k = T.st k := fun k hk => by rw [← hT']; exact more_st hk
  have elp : ∀ k, k ≤ T.m → T'.lp k = T.lp k := fun k hk => by rw [← hT']; exact more_lp hk
  have esh : ∀ k, k ≤ T.m → T'.sh k = T.sh k := fun k hk => by rw [← hT']; exact more_sh hk
  have ewd : ∀ k y, k ≤ T.m → T'.wd k y = if k = r ∧ y = c i then some (T.m + 1) else T.wd k y := fun k y hk => by rw [← hT']; exact more_wd hk
  have nst : T'.st (T.m + 1) = i - T.lp r := by rw [← hT']; exact more_st1
  have nlp : T'.lp (T.m + 1) = T.lp r + 2 := by rw [← hT']; exact more_lp1
  have nsh : T'.sh (T.m + 1) = j := by rw [← hT']; exact more_sh1
  have nwd : ∀ y, T'.wd (T.m + 1) y = none := fun y => by rw [← hT']; exact more_wd1
  clear hT'
  have two : ∀ {k}, k ≤ T'.m → k = T.m + 1 ∨ k ≤ T.m := fun {k} hk => by omega
  refine ⟨{ m1 := by omega, lp0 := by rw [elp 0 (by omega), h.lp0], lp1 := by rw [elp 1 hm, h.lp1], st1 := by rw [est 1 hm, h.st1], big := ?_, inn := ?_, asc := ?_, pal := ?_, fst := ?_, shk := ?_, full := ?_, wid := ?_ }, ⟨by omega, ⟨by omega, by omega, ?_⟩, ?_⟩⟩
  · intro k k1 k2
    rcases two k2 with rfl | k3
    · omega
    · rw [elp k k3]; exact h.big k k1 k3
  · intro k k1 k2
    rcases two k2 with rfl | k3
    · omega
    · rw [elp k k3, est k k3]; have := h.inn k k1 k3; omega
  · intro k k' k1 k2 k3
    rcases two k3 with rfl | k4
    · rw [nst, nlp, elp k (by omega), est k (by omega)]
      have := h.inn k k1 (by omega)
      omega
    · rw [elp k (by omega), est k (by omega), elp k' k4, est k' k4]
      exact h.asc k k' k1 k2 k4
  · intro k k1 k2
    rcases two k2 with rfl | k3
    · rw [nst, nlp]; exact hpal
    · rw [elp k k3, est k k3]; exact h.pal k k1 k3
  · intro k k1 k2 a ha
    rcases two k2 with rfl | k3
    · rw [nst, nlp] at ha; rw [nst]; exact hfirst a ha
    · rw [elp k k3, est k k3] at ha; rw [est k k3]; exact h.fst k k1 k3 a ha
  · intro k k1 k2
    rcases two k2 with rfl | k3
    · rw [nsh, nst, nlp, elp j l2, est j l2]
      refine ⟨by omega, by omega, ?_, fun p p1 p2 => ?_⟩
      · rw [show i - T.lp r + (T.lp r + 2) - T.lp j = i + 2 - T.lp j by omega]
        exact l4
      · rw [show i - T.lp r + (T.lp r + 2) - p = i + 2 - p by omega]
        exact l5 p p1 p2
    · obtain ⟨a1, a2⟩ := h.shk k k1 k3
      rw [esh k k3, elp k k3, est k k3, elp _ (by omega), est _ (by omega)]
      exact ⟨a1, a2⟩
  · intro a n han hp
    have old : (∃ k, 1 ≤ k ∧ k ≤ T.m ∧ T.lp k = n + 1 ∧ SameAt c (T.st k) a n) → ∃ k, 1 ≤ k ∧ k ≤ T'.m ∧ T'.lp k = n + 1 ∧ SameAt c (T'.st k) a n := fun ⟨k, k1, k2, k3, k4⟩ => ⟨k, k1, by omega, by rw [elp k k2]; exact k3, by rw [est k k2]; exact k4⟩
    by_cases hi : a + n ≤ i
    · exact old (h.full a n hi hp)
    · rcases Nat.lt_trichotomy n (T.lp r + 1) with x | x | x
      · exact old (full_next h (b := i - T.lp r) (n := T.lp r + 1) (by omega) hpal (by omega) x hp)
      · subst x
        exact ⟨T.m + 1, by omega, by omega, by omega, by rw [nst, show a = i - T.lp r by omega]; exact sa_refl _ _ _⟩
      · exfalso
        refine hlong (n + 1) (by omega) (by omega) ?_
        rw [show i + 2 - (n + 1) = a by omega]
        exact hp
  · intro k x k2 jj
    rcases two k2 with rfl | k3
    · rw [nwd, nlp, nst]
      constructor
      · intro e; cases e
      · rintro ⟨j1, j2, j3, j4, j5⟩
        exfalso
        rcases two j2 with rfl | j6
        · omega
        · rw [elp jj j6] at j3
          rw [est jj j6] at j5
          have i1 := h.inn jj (by omega) j6
          have := hfirst (T.st jj + 1) (sa_symm (sa_sub j5 0 (by omega) (by omega) (by omega)))
          omega
    · rw [ewd k x k3, elp k k3, est k k3]
      by_cases hkx : k = r ∧ x = c i
      · obtain ⟨rfl, rfl⟩ := hkx
        rw [if_pos ⟨rfl, rfl⟩]
        constructor
        · intro e
          injection e with e
          subst e
          refine ⟨by omega, by omega, nlp, by rw [nst]; exact hg.2, ?_⟩
          rw [nst]
          exact sa_symm (sa_sub d.1.2.2 0 (by omega) (by omega) (by omega))
        · rintro ⟨j1, j2, j3, j4, j5⟩
          rcases two j2 with rfl | j6
          · rfl
          · exfalso
            rw [elp jj j6] at j3
            rw [est jj j6] at j4 j5
            have := (h.wid k (c i) hr jj).2 ⟨j1, j6, j3, j4, j5⟩
            rw [hn] at this
            cases this
      · rw [if_neg hkx, h.wid k x k3 jj]
        constructor
        · rintro ⟨j1, j2, j3, j4, j5⟩
          exact ⟨j1, by omega, by rw [elp jj j2]; exact j3, by rw [est jj j2]; exact j4, by rw [est jj j2]; exact j5⟩
        · rintro ⟨j1, j2, j3, j4, j5⟩
          rcases two j2 with rfl | j6
          · exfalso
            rw [nlp] at j3
            rw [nst] at j4 j5
            refine hkx ⟨?_, by rw [← j4]; exact hg.2.symm ▸ rfl⟩
            by_cases hk0 : k = 0
            · subst hk0
              rw [h.lp0] at j3
              by_cases hr0 : r = 0
              · exact hr0.symm
              · have := h.pos (by omega) hr; omega
            · by_cases hr0 : r = 0
              · subst hr0
                rw [h.lp0] at j3
                have := h.pos (by omega) k3; omega
              · refine h.inj (by omega) k3 (by omega) hr (by omega) (sa_trans (sa_symm j5) (sa_symm ?_))
                have := sa_sub d.1.2.2 0 (k := T.lp k - 1) (x := T.st r) (y := i - T.lp r + 1) (by omega) (by omega) (by omega)
                exact this
          · rw [elp jj j6] at j3
            rw [est jj j6] at j4 j5
            exact ⟨j1, j6, j3, j4, j5⟩
  · rw [nst, nlp, show i + 1 + 1 - (T.lp r + 2) = i - T.lp r by omega]
    exact sa_refl _ _ _
  · intro p p1 p2
    rw [nlp] at p1
    exact hlong p p1 p2
/-- the tree of no letter -/
def eer0 (b : Nat) : Eer where
  m := 1
  bl k := b + k
  st _ := 0
  lp k := k
  sh _ := 0
  wd _ _ := none
theorem eer_start (c : Nat → Nat) (b : Nat) : EerOk c 0 (eer0 b) ∧ CurAt c 0 (eer0 b) 1 := by
  refine ⟨{ m1 := Nat.le_refl _, lp0 := rfl, lp1 := rfl, st1 := rfl, big := fun k a b => absurd b (by show ¬ k ≤ 1; omega), inn := fun k a b => ?_, asc := fun k k' a b d => absurd d (by show ¬ k' ≤ 1; omega), pal := fun k a b => ?_, fst := fun k a b p _ => Nat.zero_le _, shk := fun k a b => ?_, full := fun a n hn _ => ?_, wid := fun k x a j => ?_ }, Nat.le_refl _, ⟨Nat.le_refl _, Nat.le_refl _, sa_zero _ _ _⟩, fun p p1 p2 => ?_⟩
  · have : k ≤ 1 := b
    show 0 + k ≤ 1
    omega
  · have : k ≤ 1 := b
    have : k = 1 := by omega
    subst this
    exact pa_zero _ _
  · have : k ≤ 1 := b
    have : k = 1 := by omega
    subst this
    exact ⟨Nat.zero_lt_one, Nat.zero_lt_one, sa_zero _ _ _, fun p a b => absurd b (by have : 0 < p := a; show ¬ p < 1; omega)⟩
  · have : a = 0 ∧ n = 0 := by omega
    obtain ⟨rfl, rfl⟩ := this
    exact ⟨1, Nat.le_refl _, Nat.le_refl _, rfl, sa_zero _ _ _⟩
  · constructor
    · intro e; cases e
    · rintro ⟨j1, j2, _⟩
      have : j ≤ 1 := j2
      omega
  · have : 1 < p := p1
    omega
end Go.Proofs.Ytjmijedfmiplfaa

/- The tree of palindromes in memory: a block of seven cells a node. -/
namespace Go.Proofs.Ytjmijedfmiplfaa
open Go.RowKit
/-- the letters of a text as numbers -/
def bt (s : ByteArray) (i : Nat) : Nat := ((s.data.toList[i]?).getD 0).toNat
def Eer.opt (T : Eer) : Option Nat → Value
  | none => .pointer none
  | some j => .pointer (some ⟨T.bl j, 0, none⟩)
/-- what lies in cell o of node k -/
def Eer.cell (T : Eer) (k : Nat) : Nat → Value
  | 0 => .int .i64 (T.st k : Int)
  | 1 => .int .i64 ((T.lp k : Int) - 1)
  | 2 => if k = 0 then .pointer none else .pointer (some ⟨T.bl (T.sh k), 0, none⟩)
  | o + 3 => T.opt (T.wd k (97 + o))
end Go.Proofs.Ytjmijedfmiplfaa

/- The program's palindrome.inner. Conditions: lengths. -/
namespace Go.Proofs.Ytjmijedfmiplfaa
open Go.RowKit
theorem bt_at (s : ByteArray) (i : Nat) (h : i < s.size) : ((s[i]'h).toNat : Int) = (bt s i : Int) := by
  unfold bt
  rw [List.getElem?_eq_getElem (by simpa using h)]
  rfl

end Go.Proofs.Ytjmijedfmiplfaa
