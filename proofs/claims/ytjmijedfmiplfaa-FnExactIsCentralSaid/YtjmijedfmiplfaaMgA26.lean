/- Texts put together. -/
import Derived.Test.YtjmijedfmiplfaaMgA25
import Derived.Test.YtjmijedfmiplfaaMgA18
import Derived.Test.YtjmijedfmiplfaaMgA19
import Derived.Test.YtjmijedfmiplfaaMgA20
import Derived.Test.YtjmijedfmiplfaaMgA23
import Derived.Test.YtjmijedfmiplfaaMgA10
import Derived.BigQuiet
import Derived.BigRegion
import Derived.OwnWalk
/- BordersOf and PeriodsOf of the program. Condition: a text of at most 2^20 bytes. -/
namespace Go.Proofs.Ytjmijedfmiplfaa
open Go.RowKit
theorem per_of (s : ByteArray) (hw : wordB s = true) (h : 1 ≤ s.size) : peR s = ((boTo s (s.size - 1)).reverse.map fun x => (s.size : Int) - x) ++ [(s.size : Int)] := by
  have hv : peR s = peTo s s.size := if_pos hw
  rw [hv, per_last h, per_bor]

set_option maxRecDepth 100000 in
set_option maxHeartbeats 1000000 in
theorem implPeriodsOf (s : ByteArray) (w : World) (hs : s.size ≤ 1048576) :
    Calls Try.prog 55 #[.string s] w fun e w' => ∃ v, e = .returned v ∧ w'.ownsRow w.heap.size 3 1 v (peR s).length (ints (peR s)) ∧ Below w.heap.size w w' := by
  obtain ⟨i0, hi0, hz0, hz1, hz2⟩ := info_parts int_info
  have HC := Lib.hid (fun w => implWordOk s w hs)
  cases hw : wordB s
  · have hv : peR s = [] := if_neg (by rw [hw]; decide)
    rw [hw] at HC
    rw [hv]
    clear hw hv
    go_enter Try.func55, Try.ntmps55
    go_wp2_with fail
    refine (HC.out _).mono ?_
    rintro e w1 ⟨rfl, hb1⟩
    have HB := Lib.hid hb1
    clear hb1
    go_wp2_with fail
    go_ret
    exact ⟨_, rfl, World.ownsRow_nil _ _ _ _, HB.out⟩
  rw [hw] at HC
  have h4 := word_size hw
  by_cases h0 : s.size = 0
  · have hv : peR s = [] := by
      have : peR s = peTo s s.size := if_pos hw
      rw [this, h0]
      rfl
    have hem := empty_is h0
    rw [hv]
    clear hw hv h0
    go_enter Try.func55, Try.ntmps55
    go_wp2_with fail
    refine (HC.out _).mono ?_
    rintro e w1 ⟨rfl, hb1⟩
    have HB := Lib.hid hb1
    clear hb1
    go_wp2_with fail
    go_ret
    exact ⟨_, rfl, World.ownsRow_nil _ _ _ _, HB.out⟩
  have hem := empty_no (show 1 ≤ s.size by omega)
  have HV := Lib.hid (per_of s hw (by omega))
  have HBO := Lib.hid (fun w => implBorders s w (by omega))
  have HRL : Hid ((boTo s (s.size - 1)).reverse.length ≤ 400 ∧ ∀ x ∈ (boTo s (s.size - 1)).reverse, 1 ≤ x ∧ x < (s.size : Int)) := by
    refine ⟨by rw [List.length_reverse]; have := boTo_len s (s.size - 1); omega, fun x hx => ?_⟩
    rw [List.mem_reverse, boTo_mem] at hx
    obtain ⟨n, rfl, a, b, _⟩ := hx
    omega
  clear hw
  generalize (boTo s (s.size - 1)).reverse = R at HBO HRL HV
  generalize peR s = Z at HV ⊢
  have hrl := HRL.out.1
  go_enter Try.func55, Try.ntmps55
  go_wp2_with fail
  refine (HC.out _).mono ?_
  rintro e w1 ⟨rfl, hb1⟩
  have HB := Lib.hid hb1
  have hsz1 := hb1.size
  clear hb1
  go_wp2_with fail
  refine (HBO.out _).mono ?_
  rintro e w2 ⟨v, rfl, ho, hb2⟩
  have HB2 := Lib.hid (HB.out.trans (hb2.mono hsz1))
  have hsz2 := HB2.out.size
  have HO := Lib.hid ho
  obtain ⟨A, cp, rfl⟩ := own_slice ho
  clear ho hb2
  go_wp2_with fail
  go_loopw [3, 16] (fun lv iv w' => ∃ k : Nat, k ≤ R.length ∧ iv = .int .i64 (k : Int) ∧ (∃ A cp, lv = .slice A k cp) ∧ w'.ownsRow w2.heap.size 3 1 lv k (ints ((R.take k).map fun x => (s.size : Int) - x)) ∧ Below w2.heap.size w2 w') (fun _ iv _ => R.length - (RowKit.intOf iv).toNat)
  case atStart => exact ⟨0, Nat.zero_le _, rfl, ⟨_, _, rfl⟩, World.ownsRow_nil _ _ _ _, Below.refl _ _⟩
  case round =>
    obtain ⟨k, hk, rfl, ⟨A3, cp3, rfl⟩, ho3, hb3⟩ := hrel
    have HO3 := Lib.hid ho3
    have HB3 := Lib.hid hb3
    have hbz := hb3.size
    clear ho3 hb3
    by_cases hlt : k < R.length
    · obtain ⟨g, cp', he, _⟩ := own_some HO.out (by omega)
      injection he with he _ he2
      subst he; subst he2
      have hrk := HRL.out.2 R[k] (List.getElem_mem hlt)
      have ck : wr.cell? ⟨g, k, none⟩ = some (.int .i64 R[k]) := (HB3.out.cell (p := ⟨g, k, none⟩) (HO.out.lt g rfl).2).trans ((World.ownsRow.cellAt HO.out k (by omega)).trans (ints_get (List.getElem?_eq_getElem hlt)))
      have HT : Hid (((R.take (k + 1)).map fun x => (s.size : Int) - x) = ((R.take k).map fun x => (s.size : Int) - x) ++ [(s.size : Int) - R[k]]) := by
        show _ = _
        rw [List.take_succ_eq_append_getElem hlt, List.map_append]
        rfl
      have hlt' : (k : Int) < (R.length : Int) := by omega
      generalize R[k] = x at hrk ck HT
      go_wp2_with (at_builtin
                   refine wpList_append1 _ rfl (.tmp 20) (.tmp 25) _ rfl w2.heap.size 3 i0 _ 8 Try.underlying22 hi0 hz0 hz1 hz2 rfl (.slice A3 k cp3) k (ints ((R.take k).map fun x => (s.size : Int) - x)) rfl HO3.out (.int .i64 ((s.size : Int) - x)) rfl rfl (by unfold maxLen; omega) (by omega) hbz ?_
                   intro v' w4 hown4 hbel4)
      have ho4 : w4.ownsRow w2.heap.size 3 1 v' (k + 1) (ints ((R.take (k + 1)).map fun x => (s.size : Int) - x)) := by
        rw [HT.out, ints_snoc]
        exact hown4
      obtain ⟨A5, cp5, rfl⟩ := own_slice ho4
      go_roundw
      case rel => exact ⟨k + 1, by omega, by go_num, ⟨A5, cp5, rfl⟩, ho4, HB3.out.trans hbel4⟩
      case measure => simp [RowKit.intOf]; omega
    · have hkl : k = R.length := by omega
      subst hkl
      have HZ : Hid (Z = ((R.take R.length).map fun x => (s.size : Int) - x) ++ [(s.size : Int)]) := by
        show _ = _
        rw [List.take_length]
        exact HV.out
      go_wp2_with (at_builtin
                   refine wpList_append1 _ rfl (.tmp 28) (.tmp 31) _ rfl w2.heap.size 3 i0 _ 8 Try.underlying22 hi0 hz0 hz1 hz2 rfl (.slice A3 R.length cp3) R.length (ints ((R.take R.length).map fun x => (s.size : Int) - x)) rfl HO3.out (.int .i64 (s.size : Int)) rfl rfl (by unfold maxLen; omega) (by omega) hbz ?_
                   intro v' w4 hown4 hbel4)
      have ho4 : w4.ownsRow w2.heap.size 3 1 v' Z.length (ints Z) := by
        rw [HZ.out, ints_snoc, List.length_append, List.length_map, List.length_take, Nat.min_self]
        exact hown4
      have HO4 := Lib.hid (own_mono ho4 hsz2)
      have HB4 := Lib.hid (HB2.out.trans ((HB3.out.trans hbel4).mono hsz2))
      clear hown4 hbel4 ho4
      go_wp2_with fail
      go_ret
      exact ⟨_, rfl, HO4.out, HB4.out⟩
end Go.Proofs.Ytjmijedfmiplfaa

/- Chapter 11 of the model: MechanicalWord, ChristoffelWord. No condition. -/
namespace Go.Proofs.Ytjmijedfmiplfaa
open Go.RowKit Go.Lib

theorem bytes_mk (l : List UInt8) : (⟨l.toArray⟩ : ByteArray).data.toList = l := by simp

theorem mc_no {p q s n : Int} (h : mcOk p q s n = false) : mcR p q s n = ⟨#[]⟩ := if_neg (by rw [h]; decide)
theorem ch_no {p q : Int} (h : chOk p q = false) : chR p q = ⟨#[]⟩ := if_neg (by rw [h]; decide)
end Go.Proofs.Ytjmijedfmiplfaa

/- The program's MechanicalWord, ChristoffelWord. Condition: the numbers of ChristoffelWord are 64-bit ones. -/
namespace Go.Proofs.Ytjmijedfmiplfaa
open Go.RowKit Go.Lib

theorem mcOk_iff (p q s n : Int) : mcOk p q s n = true ↔ (1 ≤ q ∧ q ≤ 100) ∧ (0 ≤ p ∧ p ≤ q) ∧ (0 ≤ s ∧ s ≤ q - 1) ∧ (0 ≤ n ∧ n ≤ 400) := by
  unfold mcOk
  simp only [Bool.and_eq_true, decide_eq_true_eq]
theorem mcL_at (p q s n k : Nat) (h : k < n) (h' : k < (mcL p q s n).length) : (mcL p q s n)[k] = if mcX p q s k = true then 98 else 97 := by
  have e : (mcL p q s n)[k]? = some (if mcX p q s k = true then 98 else 97) := by
    unfold mcL
    rw [List.getElem?_map, List.getElem?_range h]
    rfl
  exact (List.getElem?_eq_some_iff.1 e).2

set_option maxRecDepth 100000 in
set_option maxHeartbeats 1000000 in
/-- commonDivisor of any two 64-bit numbers: the greatest common divisor, where neither is less than 0 -/
theorem implDivisorI (a b : Int) (w : World) (ha : (Lit.int .i64 a).wf = true) (hb : (Lit.int .i64 b).wf = true) :
    Calls Try.prog 56 #[.int .i64 a, .int .i64 b] w fun e w' => ∃ g, e = .returned (.int .i64 g) ∧ Hid (0 ≤ a → 0 ≤ b → g = (Nat.gcd a.toNat b.toNat : Int)) ∧ ∃ n, w' = w.drewN n := by
  have la := wf_bounds ha
  have lb := wf_bounds hb
  have HI0 : Hid (0 ≤ a → 0 ≤ b → 0 ≤ a ∧ 0 ≤ b ∧ Nat.gcd a.toNat b.toNat = Nat.gcd a.toNat b.toNat) := fun h1 h2 => ⟨h1, h2, rfl⟩
  obtain ⟨g, hg⟩ : ∃ g, g = Nat.gcd a.toNat b.toNat := ⟨_, rfl⟩
  have HI : Hid (0 ≤ a → 0 ≤ b → 0 ≤ a ∧ 0 ≤ b ∧ Nat.gcd a.toNat b.toNat = g) := fun h1 h2 => ⟨h1, h2, hg.symm⟩
  rw [← hg]
  have HP : Hid (∀ x : Int, (∃ g0, Ending.returned (.int .i64 x) = Ending.returned (.int .i64 g0) ∧ Hid (0 ≤ a → 0 ≤ b → g0 = (g : Int))) ↔ (0 ≤ a → 0 ≤ b → x = (g : Int))) := fun x =>
    ⟨fun ⟨g0, e, h⟩ => by injection e with e; injection e with _ e; rw [e]; exact h.out, fun h => ⟨x, rfl, h⟩⟩
  obtain ⟨A, hA⟩ : ∃ A : Prop, A ↔ 0 ≤ a := ⟨_, Iff.rfl⟩
  obtain ⟨B, hB⟩ : ∃ B : Prop, B ↔ 0 ≤ b := ⟨_, Iff.rfl⟩
  have HQ : Hid (∀ x : Int, (A → B → x = (g : Int)) → ∃ g0, Ending.returned (.int .i64 x) = Ending.returned (.int .i64 g0) ∧ Hid (0 ≤ a → 0 ≤ b → g0 = (g : Int))) := fun x h => (HP.out x).2 fun h1 h2 => h (hA.2 h1) (hB.2 h2)
  have HS : Hid (A → B → 0 ≤ a ∧ 0 ≤ b ∧ Nat.gcd a.toNat b.toNat = g) := fun h1 h2 => HI.out (hA.1 h1) (hB.1 h2)
  clear HI0 HI HP hA hB hg ha hb
  go_enter Try.func56, Try.ntmps56
  go_wp2_with fail
  go_loopw [0, 1] (fun xv yv w' => ∃ x y : Int, (-9223372036854775808 ≤ x ∧ x ≤ 9223372036854775807) ∧ (-9223372036854775808 ≤ y ∧ y ≤ 9223372036854775807) ∧ xv = .int .i64 x ∧ yv = .int .i64 y ∧ Hid (A → B → 0 ≤ x ∧ 0 ≤ y ∧ Nat.gcd x.toNat y.toNat = g) ∧ ∃ n, w' = w.drewN n) (fun _ y _ => (RowKit.intOf y).toNat)
  case atStart => exact ⟨a, b, la, lb, rfl, rfl, HS, 0, rfl⟩
  case round =>
    obtain ⟨x, y, lx, ly, rfl, rfl, HXY, n, hw⟩ := hrel
    have HW := Lib.hid hw
    clear hw
    by_cases h0 : 0 < y
    · have h1 : ¬ y = 0 := by omega
      have m1 : x.tmod y < y := Int.tmod_lt_of_pos x h0
      have m2 : -y < x.tmod y := by
        have := Int.lt_tmod_of_pos x h0
        omega
      have HM : Hid (A → B → 0 ≤ y ∧ 0 ≤ x.tmod y ∧ Nat.gcd y.toNat (x.tmod y).toNat = g) := fun hA hB => by
        obtain ⟨e1, e2, e3⟩ := HXY.out hA hB
        obtain ⟨x, rfl⟩ : ∃ m : Nat, x = m := ⟨x.toNat, by omega⟩
        obtain ⟨y, rfl⟩ : ∃ m : Nat, y = m := ⟨y.toNat, by omega⟩
        have e4 : (x : Int).tmod (y : Int) = ((x % y : Nat) : Int) := rfl
        rw [e4, Int.toNat_natCast, Int.toNat_natCast]
        rw [Int.toNat_natCast, Int.toNat_natCast] at e3
        refine ⟨e2, by omega, ?_⟩
        rw [Nat.gcd_comm, ← Nat.gcd_rec, Nat.gcd_comm]
        exact e3
      have htm : ∃ z, x.tmod y = z := ⟨_, rfl⟩
      obtain ⟨z, hz⟩ := htm
      rw [hz] at m1 m2 HM
      have e1 : IntKind.i64.wrap z = z := IntWalk.i64_in _ (by omega)
      go_wp2_with fail
      go_quiet (fail)
      go_wp2_with fail
      go_roundw
      case rel => exact ⟨y, z, ly, by omega, rfl, rfl, HM, n + nq, by rw [HW.out]; exact World.drewN_drewN _ _ _⟩
      case measure => simp only [RowKit.intOf]; omega
    · have HR := HQ.out x fun hA hB => by
        obtain ⟨e1, e2, e3⟩ := HXY.out hA hB
        have : y = 0 := by omega
        subst this
        rw [show (0 : Int).toNat = 0 from rfl, Nat.gcd_zero_right] at e3
        omega
      obtain ⟨g0, hg0, hg1⟩ := HR
      go_wp2_with fail
      go_ret
      exact ⟨g0, hg0, hg1, n, HW.out⟩

end Go.Proofs.Ytjmijedfmiplfaa

/- hasFirst, hasImages and SubstOk of the program. Conditions: lengths of at most 2^20. -/
namespace Go.Proofs.Ytjmijedfmiplfaa
open Go.RowKit

theorem letterAt (n j : Int) (w : World) (h : n = 97 + j) (h1 : 0 ≤ j) (h2 : j ≤ 3) :
    Calls Try.prog 89 #[.int .u8 n] w fun e w' => e = .returned (.int .i64 j) ∧ w = w' := by
  have h3 : 97 ≤ n := by omega
  have h4 : n ≤ 100 := by omega
  have HJ := Lib.hid (show n - 97 = j by omega)
  clear h h1 h2
  go_enter Try.func89, Try.ntmps89
  go_wp2
  go_ret
  exact ⟨ret_int HJ.out, rfl⟩

set_option maxHeartbeats 400000 in
theorem implHasFirst (n : Nat) (s : ByteArray) (w : World) (_ : n ≤ 1048576) (hs : s.size ≤ 1048576) :
    Calls Try.prog 74 #[.string s, .int .i64 n] w fun e w' => e = .returned (.bool (wordB s && withinB n s)) ∧ Below w.heap.size w w' := by
  by_cases h : wordB s = true
  · have h400 := word_size h
    have HW := Lib.hid (word_at h)
    have HR : Hid ((wordB s && withinB n s) = withinB n s) := by show (wordB s && withinB n s) = withinB n s; rw [h]; rfl
    go_enter Try.func74, Try.ntmps74
    go_wp2_with fail
    refine (implOk s _ hs).mono ?_
    rintro e w1 ⟨rfl, hb1⟩
    have HB1 := Lib.hid hb1
    clear hb1
    go_wp2_with fail
    go_loop [11] (fun i => ∃ k : Nat, k ≤ s.size ∧ i = .int .i64 k ∧ (s.data.toList.take k).all (fun c => decide (c.toNat < 97 + n)) = true) (fun i => s.size - (RowKit.intOf i).toNat)
    case atStart => exact ⟨0, Nat.zero_le _, rfl, rfl⟩
    case round =>
      obtain ⟨k, hk, rfl, ha⟩ := hrel
      have HA := Lib.hid ha
      clear ha
      by_cases hlt : k < s.size
      · obtain ⟨p1, p2⟩ := HW.out k hlt
        obtain ⟨j, hj, hj3⟩ : ∃ j : Nat, s[k].toNat = 97 + j ∧ j ≤ 3 := ⟨s[k].toNat - 97, by omega, by omega⟩
        have HLI := Lib.hid (fun w => letterAt (s[k].toNat : Int) (j : Int) w (by omega) (by omega) (by omega))
        by_cases hc : s[k].toNat < 97 + n
        · have hge : ¬ ((n : Int) ≤ (j : Int)) := by omega
          have d1 : decide ((n : Int) ≤ (j : Int)) = false := by simpa using hge
          have HC := Lib.hid hc
          clear hc p1 p2 hj
          go_wp2_with (go_at_call 89; refine (HLI.out _).mono ?_; rintro e w' ⟨rfl, rfl⟩)
          go_round
          case rel => exact ⟨k + 1, by omega, by go_num, all_snoc s k hlt HA.out (by simpa using HC.out)⟩
          case measure => simp [RowKit.intOf]; omega
        · have hge : (n : Int) ≤ (j : Int) := by omega
          have d1 : decide ((n : Int) ≤ (j : Int)) = true := by simpa using hge
          have HN : Hid (withinB n s = false) := by
            show withinB n s = false
            exact all_not s k hlt (by simpa using hc)
          clear hc p1 p2 hj
          go_wp2_with (go_at_call 89; refine (HLI.out _).mono ?_; rintro e w' ⟨rfl, rfl⟩)
          go_ret
          exact ⟨ret_bool (by first | rw [HR.out, HN.out] | exact HN.out.symm), HB1.out⟩
      · have hk' : k = s.size := by omega
        have HY : Hid (withinB n s = true) := by
          have := HA.out
          rw [hk', take_all s _ (Nat.le_refl _)] at this
          exact this
        clear hk'
        go_wp2_with fail
        go_ret
        exact ⟨ret_bool (by first | rw [HR.out, HY.out] | exact HY.out.symm), HB1.out⟩
  · have h' : wordB s = false := by simpa using h
    have HR : Hid ((wordB s && withinB n s) = false) := by show (wordB s && withinB n s) = false; rw [h']; rfl
    clear h
    go_enter Try.func74, Try.ntmps74
    go_wp2_with fail
    refine (implOk s _ hs).mono ?_
    rintro e w1 ⟨rfl, hb1⟩
    go_wp2_with fail
    go_ret
    exact ⟨ret_bool HR.out.symm, hb1⟩

theorem size_zero {s : ByteArray} (h : s.size = 0) : s = ⟨#[]⟩ := by
  apply bytes_ext
  rw [ByteArray.toList_eq, ByteArray.toList_eq]
  exact List.eq_nil_of_length_eq_zero (by simpa using h)

end Go.Proofs.Ytjmijedfmiplfaa
