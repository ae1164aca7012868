/- Texts put together. -/
import Derived.Test.YtfcbfflkajlhnaaMgC16
import Derived.Test.YtfcbfflkajlhnaaMgC23
import Derived.Test.YtfcbfflkajlhnaaMgC17
import Derived.Test.YtfcbfflkajlhnaaMgC2
import Derived.Test.YtfcbfflkajlhnaaMgC3
import Derived.Test.YtfcbfflkajlhnaaMgC8
import Derived.Laws.Cover1
/- Chapter 7 of the model: FactorsOf, ComplexityOf, AllFactors, FollowersOf, LeadersOf. Conditions: lengths of at most 2^20. -/
namespace Go.Proofs.Ytfcbfflkajlhnaa
open Go.RowKit

theorem fctL_length (s : ByteArray) (n : Nat) : (fctL s n).length ≤ s.size + 1 - n := facTo_length _ _ _
theorem fctR_le (s : ByteArray) (n : Int) : (fctR s n).length ≤ 400 := by
  unfold fctR
  split
  · rename_i h
    unfold fctOk at h
    simp only [Bool.and_eq_true, decide_eq_true_eq] at h
    have h1 := word_size h.1
    have h2 := fctL_length s n.toNat
    omega
  · simp

set_option maxHeartbeats 400000 in
theorem specFactorsOf (s : ByteArray) (n : Int) (w : World) (_ : s.size ≤ 1048576) :
    Calls Try.prog 47 #[.string s, .int .i64 n] w fun e w' => ∃ v, e = .returned v ∧ w'.ownsRow w.heap.size 9 1 v (fctR s n).length (strs (fctR s n)) ∧ Below w.heap.size w w' := by
  by_cases hw : wordB s = true
  · by_cases hn : 1 ≤ n ∧ n ≤ 400
    · obtain ⟨m, rfl⟩ : ∃ m : Nat, n = m := ⟨n.toNat, by omega⟩
      have hm1 : 1 ≤ m := by omega
      have hm2 : m ≤ 400 := by omega
      have h4 := word_size hw
      have d1 : decide ((1 : Int) ≤ (m : Int)) = true := by simp; omega
      have d2 : decide ((m : Int) ≤ (400 : Int)) = true := by simp; omega
      have HW := Lib.hid hw
      have HOK : Hid (fctOk s m = true) := by show fctOk s m = true; unfold fctOk; rw [hw, d1, d2]; rfl
      have HV : Hid (fctR s m = fctL s m) := if_pos HOK.out
      have HF := Lib.hid (fun w => specFactors s m w h4 hm1 (by omega))
      clear hw hn
      go_enter Try.func47, Try.ntmps47
      go_wp2_with fail
      refine (specWordOk s _).mono ?_
      rintro e w' ⟨rfl, rfl⟩
      rw [HW.out]
      go_wp2_with fail
      refine (specIn _ _ _ _).mono ?_
      rintro e w' ⟨rfl, rfl⟩
      go_wp2_with fail
      refine (HF.out _).mono ?_
      rintro e w2 ⟨v, rfl, ho, hb⟩
      obtain ⟨A, cp, rfl⟩ := own_slice ho
      have HO := Lib.hid ho
      have HB := Lib.hid hb
      clear ho hb
      go_wp2_with fail
      go_ret
      refine ⟨_, rfl, ?_, HB.out⟩
      rw [HV.out]
      exact HO.out
    · have d1 : (decide ((1 : Int) ≤ n) && decide (n ≤ (400 : Int))) = false := by simp; omega
      have HNO : Hid (fctOk s n = false) := by show fctOk s n = false; unfold fctOk; rw [d1, Bool.and_false]
      have HW := Lib.hid hw
      have HV : Hid (fctR s n = []) := by show fctR s n = []; unfold fctR; rw [HNO.out]; rfl
      clear hw hn
      go_enter Try.func47, Try.ntmps47
      go_wp2_with fail
      refine (specWordOk s _).mono ?_
      rintro e w' ⟨rfl, rfl⟩
      rw [HW.out]
      go_wp2_with fail
      refine (specIn _ _ _ _).mono ?_
      rintro e w' ⟨rfl, rfl⟩
      go_wp2_with fail
      go_ret
      refine ⟨_, rfl, ?_, Below.refl _ _⟩
      rw [HV.out]
      exact World.ownsRow_nil _ _ _ _
  · have hw' : wordB s = false := by simpa using hw
    have HW := Lib.hid hw'
    have HNO : Hid (fctOk s n = false) := by show fctOk s n = false; unfold fctOk; rw [hw']; rfl
    have HV : Hid (fctR s n = []) := by show fctR s n = []; unfold fctR; rw [HNO.out]; rfl
    clear hw hw'
    go_enter Try.func47, Try.ntmps47
    go_wp2_with fail
    refine (specWordOk s _).mono ?_
    rintro e w' ⟨rfl, rfl⟩
    rw [HW.out]
    go_wp2_with fail
    go_ret
    refine ⟨_, rfl, ?_, Below.refl _ _⟩
    rw [HV.out]
    exact World.ownsRow_nil _ _ _ _

set_option maxHeartbeats 400000 in
theorem specComplexityOf (s : ByteArray) (n : Int) (w : World) (_ : s.size ≤ 1048576) :
    Calls Try.prog 51 #[.string s, .int .i64 n] w fun e w' => e = .returned (.int .i64 (cpxR s n)) ∧ Below w.heap.size w w' := by
  by_cases hw : wordB s = true
  · by_cases hn : 1 ≤ n ∧ n ≤ 400
    · obtain ⟨m, rfl⟩ : ∃ m : Nat, n = m := ⟨n.toNat, by omega⟩
      have hm1 : 1 ≤ m := by omega
      have hm2 : m ≤ 400 := by omega
      have h4 := word_size hw
      have d1 : decide ((1 : Int) ≤ (m : Int)) = true := by simp; omega
      have d2 : decide ((m : Int) ≤ (400 : Int)) = true := by simp; omega
      have HW := Lib.hid hw
      have HOK : Hid (fctOk s m = true) := by show fctOk s m = true; unfold fctOk; rw [hw, d1, d2]; rfl
      have HV : Hid (cpxR s m = ((fctL s m).length : Int)) := if_pos HOK.out
      have HF := Lib.hid (fun w => specFactors s m w h4 hm1 (by omega))
      clear hw hn
      go_enter Try.func51, Try.ntmps51
      go_wp2_with fail
      refine (specWordOk s _).mono ?_
      rintro e w' ⟨rfl, rfl⟩
      rw [HW.out]
      go_wp2_with fail
      refine (specIn _ _ _ _).mono ?_
      rintro e w' ⟨rfl, rfl⟩
      go_wp2_with fail
      refine (HF.out _).mono ?_
      rintro e w2 ⟨v, rfl, ho, hb⟩
      obtain ⟨A, cp, rfl⟩ := own_slice ho
      have HB := Lib.hid hb
      clear ho hb
      go_wp2_with fail
      go_ret
      exact ⟨by rw [HV.out]; rfl, HB.out⟩
    · have d1 : (decide ((1 : Int) ≤ n) && decide (n ≤ (400 : Int))) = false := by simp; omega
      have HNO : Hid (fctOk s n = false) := by show fctOk s n = false; unfold fctOk; rw [d1, Bool.and_false]
      have HW := Lib.hid hw
      have HV : Hid (cpxR s n = -1) := by show cpxR s n = -1; unfold cpxR; rw [HNO.out]; rfl
      clear hw hn
      go_enter Try.func51, Try.ntmps51
      go_wp2_with fail
      refine (specWordOk s _).mono ?_
      rintro e w' ⟨rfl, rfl⟩
      rw [HW.out]
      go_wp2_with fail
      refine (specIn _ _ _ _).mono ?_
      rintro e w' ⟨rfl, rfl⟩
      go_wp2_with fail
      go_ret
      exact ⟨by rw [HV.out]; rfl, Below.refl _ _⟩
  · have hw' : wordB s = false := by simpa using hw
    have HW := Lib.hid hw'
    have HNO : Hid (fctOk s n = false) := by show fctOk s n = false; unfold fctOk; rw [hw']; rfl
    have HV : Hid (cpxR s n = -1) := by show cpxR s n = -1; unfold cpxR; rw [HNO.out]; rfl
    clear hw hw'
    go_enter Try.func51, Try.ntmps51
    go_wp2_with fail
    refine (specWordOk s _).mono ?_
    rintro e w' ⟨rfl, rfl⟩
    rw [HW.out]
    go_wp2_with fail
    go_ret
    exact ⟨by rw [HV.out]; rfl, Below.refl _ _⟩

theorem allTo_le (s : ByteArray) (h : s.size ≤ 60) : ∀ k, allTo s k ≤ 60 * k
  | 0 => Nat.le_refl _
  | k + 1 => by
    have := allTo_le s h k
    have := fctL_length s (k + 1)
    unfold allTo
    omega
set_option maxHeartbeats 400000 in
theorem specAllFactors (s : ByteArray) (w : World) (_ : s.size ≤ 1048576) :
    Calls Try.prog 52 #[.string s] w fun e w' => e = .returned (.int .i64 (allR s)) ∧ Below w.heap.size w w' := by
  by_cases hw : wordB s = true
  · have HW := Lib.hid hw
    by_cases h60 : s.size ≤ 60
    · have HOK : Hid (allOk s = true) := by show allOk s = true; unfold allOk; rw [hw, decide_eq_true h60]; rfl
      have HV : Hid (allR s = (allTo s s.size : Int)) := if_pos HOK.out
      have HF := Lib.hid (fun m h w => specFactors s m w (by omega) (show 1 ≤ m from h))
      have HLE := Lib.hid (allTo_le s h60)
      have HLF := Lib.hid (fun m => fctL_length s m)
      clear hw
      go_enter Try.func52, Try.ntmps52
      go_wp2_with fail
      refine (specWordOk s _).mono ?_
      rintro e w' ⟨rfl, rfl⟩
      rw [HW.out]
      go_wp2_with fail
      go_loopw [3, 4] (fun a i w' => ∃ k : Nat, k ≤ s.size ∧ i = .int .i64 ((k + 1 : Nat) : Int) ∧ a = .int .i64 (allTo s k : Int) ∧ Below w.heap.size w w') (fun _ i _ => s.size + 1 - (intOf i).toNat)
      case atStart => exact ⟨0, by omega, rfl, rfl, Below.refl _ _⟩
      case round =>
        obtain ⟨k, hk, rfl, rfl, hb⟩ := hrel
        have HB := Lib.hid hb
        have hlk := HLE.out k
        clear hb
        by_cases hlt : k < s.size
        · have hlf := HLF.out (k + 1)
          have HN : Hid (allTo s (k + 1) = allTo s k + (fctL s (k + 1)).length) := rfl
          have d1 : decide (((k + 1 : Nat) : Int) ≤ (s.size : Int)) = true := by simp; omega
          go_wp2_with fail
          refine (HF.out (k + 1) (by omega) _ (by omega)).mono ?_
          rintro e w2 ⟨v, rfl, ho, hb⟩
          obtain ⟨A, cp, rfl⟩ := own_slice ho
          have HB2 := Lib.hid (HB.out.trans (hb.mono HB.out.size))
          have e1 : (facTo s (k + 1) (s.size + 1 - (k + 1))).length = (fctL s (k + 1)).length := rfl
          rw [e1]
          clear ho hb e1
          generalize (fctL s (k + 1)).length = q at hlf HN ⊢
          go_wp2_with fail
          go_roundw
          case rel => exact ⟨k + 1, by omega, by go_num, by rw [HN.out]; go_num, HB2.out⟩
          case measure => simp [intOf]; omega
        · have hks : k = s.size := by omega
          have d1 : decide (((k + 1 : Nat) : Int) ≤ (s.size : Int)) = false := by simp; omega
          have HE : Hid (allTo s k = allTo s s.size) := by show allTo s k = _; rw [hks]
          clear hks
          go_wp2_with fail
          go_ret
          exact ⟨by rw [HV.out, ← HE.out]; rfl, HB.out⟩
    · have HV : Hid (allR s = -1) := by show allR s = -1; unfold allR allOk; rw [decide_eq_false h60, Bool.and_false]; rfl
      clear hw
      go_enter Try.func52, Try.ntmps52
      go_wp2_with fail
      refine (specWordOk s _).mono ?_
      rintro e w' ⟨rfl, rfl⟩
      rw [HW.out]
      go_wp2_with fail
      go_ret
      exact ⟨by rw [HV.out]; rfl, Below.refl _ _⟩
  · have hw' : wordB s = false := by simpa using hw
    have HW := Lib.hid hw'
    have HV : Hid (allR s = -1) := by show allR s = -1; unfold allR allOk; rw [hw']; rfl
    clear hw hw'
    go_enter Try.func52, Try.ntmps52
    go_wp2_with fail
    refine (specWordOk s _).mono ?_
    rintro e w' ⟨rfl, rfl⟩
    rw [HW.out]
    go_wp2_with fail
    go_ret
    exact ⟨by rw [HV.out]; rfl, Below.refl _ _⟩
end Go.Proofs.Ytfcbfflkajlhnaa

/- flip and in, of the laws. Conditions: lengths of at most 2^20. -/
namespace Go.Proofs.Ytfcbfflkajlhnaa
open Go.RowKit

def flipS (s : ByteArray) : ByteArray := ⟨s.data.toList.reverse.toArray⟩
/-- the last i letters, the last one first -/
theorem rev_snoc (l : List UInt8) (i : Nat) (h : i < l.length) : l.reverse.take (i + 1) = l.reverse.take i ++ [l[l.length - 1 - i]'(by omega)] := by
  rw [List.take_succ_eq_append_getElem (by simpa using h), List.getElem_reverse]

set_option maxRecDepth 100000 in
set_option maxHeartbeats 1000000 in
theorem flipC (s : ByteArray) (w : World) (hs : s.size ≤ 1048576) :
    Calls Try.prog 38 #[.string s] w fun e w' => e = .returned (.string (flipS s)) ∧ Below w.heap.size w w' := by
  obtain ⟨i0, hi0, hz0, hz1, hz2⟩ := info_parts u8_info
  go_enter Try.func38, Try.ntmps38
  go_wp2_with fail
  go_loopw [3, 4] (fun o ix w' => ∃ (j n : Nat), j ≤ s.size ∧ n = j ∧ ix = .int .i64 ((s.size : Int) - 1 - (j : Int)) ∧ w'.ownsRow w.heap.size 5 1 o n (byteCells (s.data.toList.reverse.take j)) ∧ Below w.heap.size w w') (fun _ ix _ => (intOf ix + 1).toNat)
  case atStart => exact ⟨0, 0, by omega, rfl, by simp, own_made0 _ _ _ (Nat.le_refl _), (Below.refl _ _).alloc (Nat.le_refl _) _⟩
  case round =>
    obtain ⟨j, n, hj, hnj, rfl, ho, hb⟩ := hrel
    have HO := Lib.hid ho
    have HB := Lib.hid hb
    have hsz := hb.size
    have HN := Lib.hid hnj
    have hn : n ≤ 1048576 := by omega
    clear ho hb hnj
    by_cases hlt : j < s.size
    · obtain ⟨q, hq⟩ : ∃ q : Nat, s.size = j + 1 + q := ⟨s.size - 1 - j, by omega⟩
      have hqs : q < s.size := by omega
      have e0 : (s.size : Int) - 1 - (j : Int) = (q : Int) := by omega
      have HQ := Lib.hid hq
      have HRV := Lib.hid (rev_snoc s.data.toList j (by simpa using hlt))
      rw [e0]
      clear hq e0
      go_wp2_with (at_builtin
                   refine wpList_append1 _ rfl (.tmp 13) (.tmp 17) _ rfl w.heap.size 5 i0 _ 1 Try.underlying22 hi0 hz0 hz1 hz2 rfl _ n _ rfl HO.out (.int .u8 (s[q].toNat : Int)) rfl rfl (by unfold maxLen; omega) (by omega) hsz ?_
                   intro v' w2 hown2 hbel2)
      go_roundw
      case rel =>
        have hq := HQ.out
        refine ⟨j + 1, n + 1, by omega, by rw [HN.out], by congr 1; omega, ?_, HB.out.trans hbel2⟩
        have e1 : s.data.toList[s.data.toList.length - 1 - j]'(by simp; omega) = s[q] := by
          have e2 : s.data.toList.length - 1 - j = q := by simp; omega
          simp only [e2]
          rfl
        rw [HRV.out, e1, byteCells_snoc]
        exact hown2
      case measure => have hq := HQ.out; simp only [intOf]; omega
    · have e0 : (s.size : Int) - 1 - (j : Int) = -1 := by omega
      have hconv := conv_own_to Try.underlying9 HO.out
      have HE : Hid (s.data.toList.reverse.take j = s.data.toList.reverse) := List.take_of_length_le (by simp; omega)
      rw [e0]
      clear e0
      go_wp2_with fail
      go_ret
      refine ⟨ret_str ?_, HB.out⟩
      rw [HE.out]
      rfl

def inB (l : List ByteArray) (x : ByteArray) : Bool := l.any fun y => x.toList == y.toList
theorem inB_iff (l : List ByteArray) (x : ByteArray) : inB l x = true ↔ x ∈ l := by
  unfold inB
  rw [List.any_eq_true]
  constructor
  · rintro ⟨y, hy, e⟩
    rw [bytes_ext (eq_of_beq e)]
    exact hy
  · exact fun h => ⟨x, h, by simp⟩
set_option maxRecDepth 100000 in
theorem inC (l : List ByteArray) (v : Value) (x : ByteArray) (w : World) (h : Lst w v (strs l)) (hn : l.length ≤ 1048576) :
    Calls Try.prog 44 #[v, .string x] w fun e w' => e = .returned (.bool (inB l x)) ∧ w = w' := by
  obtain ⟨A, c, rfl, hc1, hc2, h1⟩ := h
  rw [strs_length] at hc1 ⊢
  have H1 := Lib.hid h1
  clear h1
  go_enter Try.func44, Try.ntmps44
  go_wp2_with fail
  go_loop [9] (fun i => ∃ k : Nat, k ≤ l.length ∧ i = .int .i64 (k : Int) ∧ ∀ j (hj : j < l.length), j < k → (x.toList == l[j].toList) = false) (fun i => l.length - (intOf i).toNat)
  case atStart => exact ⟨0, by omega, rfl, fun j _ h => by omega⟩
  case round =>
    obtain ⟨k, hk, rfl, hno⟩ := hrel
    have HNO := Lib.hid hno
    clear hno
    by_cases hlt : k < l.length
    · have h2 := H1.out.resolve_left (by
        intro e
        have := congrArg List.length e
        rw [strs_length] at this
        simp only [List.length_nil] at this
        omega)
      obtain ⟨b, off, rfl, h2⟩ := h2
      have g1 := strs_at h2 k hlt
      rcases hq : (x.toList == l[k].toList) with _ | _
      · have HQ := Lib.hid hq
        clear h2
        go_wp2_with fail
        go_round
        case rel => exact ⟨k + 1, by omega, by go_num, fun j hj h => by
          by_cases e : j = k
          · subst e; exact HQ.out
          · exact HNO.out j hj (by omega)⟩
        case measure => simp [intOf]; omega
      · have HI : Hid (inB l x = true) := (inB_iff l x).2 (by rw [bytes_ext (eq_of_beq hq)]; exact List.getElem_mem _)
        clear h2
        go_wp2_with fail
        go_ret
        exact ⟨ret_bool HI.out.symm, rfl⟩
    · have HI : Hid (inB l x = false) := by
        rcases hi : inB l x with _ | _
        · rfl
        · obtain ⟨j, hj, e⟩ := List.mem_iff_getElem.1 ((inB_iff l x).1 hi)
          have := HNO.out j hj (by omega)
          rw [e] at this
          simp at this
      go_wp2_with fail
      go_ret
      exact ⟨ret_bool HI.out.symm, rfl⟩
end Go.Proofs.Ytfcbfflkajlhnaa
