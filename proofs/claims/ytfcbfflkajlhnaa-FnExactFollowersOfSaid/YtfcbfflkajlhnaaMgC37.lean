/- Texts put together. -/
import Derived.Test.YtfcbfflkajlhnaaMgC36
import Derived.Test.YtfcbfflkajlhnaaMgC24
import Derived.Test.YtfcbfflkajlhnaaMgC20
/- The program's AllFactors. Conditions: lengths of at most 2^20. -/
namespace Go.Proofs.Ytfcbfflkajlhnaa
open Go.RowKit

theorem allTo_lim (s : ByteArray) (h : s.size ≤ 60) : ∀ k, allTo s k ≤ 60 * k
  | 0 => by simp [allTo]
  | k + 1 => by
    have := allTo_lim s h k
    have h2 : (fctL s (k + 1)).length ≤ s.size + 1 - (k + 1) := facTo_lim _ _ _
    show allTo s k + (fctL s (k + 1)).length ≤ _
    omega
set_option maxHeartbeats 400000 in
theorem implAllFactors (s : ByteArray) (w : World) (hs : s.size ≤ 1048576) :
    Calls Try.prog 46 #[.string s] w fun e w' => e = .returned (.int .i64 (allR s)) ∧ Below w.heap.size w w' := by
  cases hw : wordB s
  · have HW := Lib.hid hw
    have HV : Hid (allR s = -1) := by show allR s = _; unfold allR allOk; rw [hw]; rfl
    clear hw
    go_enter Try.func46, Try.ntmps46
    go_wp2_with fail
    refine (implWordOk s _ hs).mono ?_
    rintro e w1 ⟨rfl, hb1⟩
    have HB := Lib.hid hb1
    rw [HW.out]
    clear hb1
    go_wp2_with fail
    go_ret
    exact ⟨ret_int HV.out.symm, HB.out⟩
  · have HW := Lib.hid hw
    by_cases h60 : 60 < s.size
    · have HV : Hid (allR s = -1) := by show allR s = _; unfold allR allOk; rw [hw, decide_eq_false (by omega)]; rfl
      have d1 : decide ((60 : Int) < (s.size : Int)) = true := by simp; omega
      clear hw
      go_enter Try.func46, Try.ntmps46
      go_wp2_with fail
      refine (implWordOk s _ hs).mono ?_
      rintro e w1 ⟨rfl, hb1⟩
      have HB := Lib.hid hb1
      rw [HW.out]
      clear hb1
      go_wp2_with fail
      go_ret
      exact ⟨ret_int HV.out.symm, HB.out⟩
    · have HV : Hid (allR s = (allTo s s.size : Int)) := if_pos (by unfold allOk; rw [hw, decide_eq_true (by omega)]; rfl)
      have d1 : decide ((60 : Int) < (s.size : Int)) = false := by simp; omega
      have HF := Lib.hid (fun m (hm : 1 ≤ m ∧ m ≤ 60) w => implFactors s m w (by omega) hm.1 (by omega))
      have HLE := Lib.hid (allTo_lim s (by omega))
      clear hw
      go_enter Try.func46, Try.ntmps46
      go_wp2_with fail
      refine (implWordOk s _ hs).mono ?_
      rintro e w1 ⟨rfl, hb1⟩
      have HB := Lib.hid hb1
      rw [HW.out]
      clear hb1
      go_wp2_with fail
      go_loopw [3, 15] (fun o ix w' => ∃ i : Nat, i ≤ s.size ∧ ix = .int .i64 (i : Int) ∧ o = .int .i64 (allTo s i : Int) ∧ Below w.heap.size w w') (fun _ ix _ => s.size - (intOf ix).toNat)
      case atStart => exact ⟨0, by omega, rfl, rfl, HB.out⟩
      case round =>
        obtain ⟨i, hi, rfl, rfl, hb⟩ := hrel
        have HBR := Lib.hid hb
        have hle := HLE.out i
        clear hb
        by_cases hlt : i < s.size
        · have HFI := Lib.hid (HF.out (i + 1) (by omega))
          have e1 : ((i + 1 : Nat) : Int) = (i : Int) + 1 := by omega
          rw [e1] at HFI
          go_wp2_with fail
          refine (HFI.out _).mono ?_
          rintro e w3 ⟨L, rfl, hF, hL, hl, hb⟩
          have HB3 : Hid (Below w.heap.size w w3) := HBR.out.trans (hb.mono HBR.out.size)
          have HLEN := Lib.hid (facS_len hL hF.nodup)
          have HFS := Lib.hid hF
          clear hF hL hb
          go_wp2_with (at_len; refine wp_mapLen _ rfl _ tSet rfl uSet wr.heap.size L _ rfl HFS.out ?_)
          go_roundw
          case rel =>
            refine ⟨i + 1, by omega, by go_num, ?_, HB3.out⟩
            show _ = Value.int .i64 ((allTo s i + (fctL s (i + 1)).length : Nat) : Int)
            rw [← HLEN.out]
            go_num
          case measure => simp [intOf]; omega
        · have hii : i = s.size := by omega
          have HE : Hid ((allTo s i : Int) = (allTo s s.size : Int)) := by show _ = _; rw [hii]
          clear hii
          go_wp2_with fail
          go_ret
          exact ⟨ret_int (by rw [HV.out, HE.out]), HBR.out⟩
end Go.Proofs.Ytfcbfflkajlhnaa

/- Chapter 7 of the model: FollowersOf, LeadersOf, RightSpecial, LeftSpecial. Conditions: lengths of at most 2^20. -/
namespace Go.Proofs.Ytfcbfflkajlhnaa
open Go.RowKit

theorem one_size (k : Nat) : (⟨#[letterN k]⟩ : ByteArray).size = 1 := rfl
theorem exL_size (f : ByteArray) (b : Bool) (k : Nat) : (exL f b k).size = f.size + 1 := by
  unfold exL
  split
  · rw [ByteArray.size_append, one_size]; omega
  · rw [ByteArray.size_append, one_size]
theorem nxtS_out (s f : ByteArray) (b : Bool) : nxtS s f b = outS (fun k => hasR s (exL f b k)) 4 := rfl
theorem nxtS_size (s f : ByteArray) (b : Bool) : (nxtS s f b).size ≤ 4 := outS_size _ _

set_option maxHeartbeats 400000 in
theorem specNext (s f : ByteArray) (b : Bool) (w : World) (hs : s.size ≤ 1048576) (hf : f.size ≤ 1000000) :
    Calls Try.prog 98 #[.string s, .string f, .bool b] w fun e w' => e = .returned (.string (nxtS s f b)) ∧ w = w' := by
  have HXS := Lib.hid (fun k => exL_size f b k)
  have HH := Lib.hid (fun k => specHas s (exL f b k) w hs (by rw [exL_size]; omega))
  have hls := fun (k : Nat) (hk : k ≤ 3) (w : World) => letterN_slice Try.prog Try.underlying9 k hk w
  have HLS := Lib.hid hls
  clear hls
  rw [nxtS_out]
  have HY := Lib.hid (fun k h => outS_yes (s := fun k => hasR s (exL f b k)) (j := k) h)
  have HNO := Lib.hid (fun k h => outS_no (s := fun k => hasR s (exL f b k)) (j := k) h)
  go_enter Try.func98, Try.ntmps98
  go_wp2_with fail
  go_loop [7, 8] (fun o i => ∃ k : Nat, k ≤ 4 ∧ i = .int .i64 k ∧ o = .string (outS (fun k => hasR s (exL f b k)) k)) (fun _ i => 4 - (intOf i).toNat)
  case atStart => exact ⟨0, by omega, rfl, rfl⟩
  case round =>
    obtain ⟨k, hk, rfl, rfl⟩ := hrel
    by_cases hlt : k < 4
    · have hsl := HLS.out k (by omega)
      have hos := outS_size (fun k => hasR s (exL f b k)) k
      have HC := Lib.hid (HH.out k)
      have HYk := Lib.hid (HY.out k)
      have HNk := Lib.hid (HNO.out k)
      cases b
      · have e1 : exL f false k = f ++ ⟨#[letterN k]⟩ := rfl
        rw [e1] at HC
        cases hh : hasR s (f ++ ⟨#[letterN k]⟩)
        · rw [hh] at HC
          have HN2 := Lib.hid (HNk.out (by rw [e1]; exact hh))
          clear e1 hh
          go_wp2_with fail
          refine HC.out.mono ?_
          rintro e w' ⟨rfl, rfl⟩
          go_wp2_with fail
          go_round
          case rel => exact ⟨k + 1, by omega, by go_num, by rw [HN2.out]⟩
          case measure => simp [intOf]; omega
        · rw [hh] at HC
          have HN2 := Lib.hid (HYk.out (by rw [e1]; exact hh))
          clear e1 hh
          go_wp2_with fail
          refine HC.out.mono ?_
          rintro e w' ⟨rfl, rfl⟩
          go_wp2_with fail
          go_round
          case rel => exact ⟨k + 1, by omega, by go_num, by rw [← HN2.out]⟩
          case measure => simp [intOf]; omega
      · have e1 : exL f true k = ⟨#[letterN k]⟩ ++ f := rfl
        rw [e1] at HC
        cases hh : hasR s (⟨#[letterN k]⟩ ++ f)
        · rw [hh] at HC
          have HN2 := Lib.hid (HNk.out (by rw [e1]; exact hh))
          clear e1 hh
          go_wp2_with fail
          refine HC.out.mono ?_
          rintro e w' ⟨rfl, rfl⟩
          go_wp2_with fail
          go_round
          case rel => exact ⟨k + 1, by omega, by go_num, by rw [HN2.out]⟩
          case measure => simp [intOf]; omega
        · rw [hh] at HC
          have HN2 := Lib.hid (HYk.out (by rw [e1]; exact hh))
          clear e1 hh
          go_wp2_with fail
          refine HC.out.mono ?_
          rintro e w' ⟨rfl, rfl⟩
          go_wp2_with fail
          go_round
          case rel => exact ⟨k + 1, by omega, by go_num, by rw [← HN2.out]⟩
          case measure => simp [intOf]; omega
    · have hk4 : k = 4 := by omega
      subst hk4
      go_wp2_with fail
      go_ret
      exact ⟨rfl, rfl⟩

set_option maxHeartbeats 400000 in
theorem specFollowersOf (s f : ByteArray) (w : World) (_ : s.size ≤ 1048576) (_ : f.size ≤ 1048576) :
    Calls Try.prog 53 #[.string s, .string f] w fun e w' => e = .returned (.string (nxtR s f false)) ∧ Below w.heap.size w w' := by
  cases hw : wordB s
  · have HW := Lib.hid hw
    have HV : Hid (nxtR s f false = ⟨#[]⟩) := by show nxtR s f false = _; unfold nxtR; rw [hw]; rfl
    clear hw
    go_enter Try.func53, Try.ntmps53
    go_wp2_with fail
    refine (specWordOk s _).mono ?_
    rintro e w' ⟨rfl, rfl⟩
    rw [HW.out]
    go_wp2_with fail
    go_ret
    exact ⟨by rw [HV.out]; rfl, Below.refl _ _⟩
  · have HW := Lib.hid hw
    cases hf : wordB f
    · have HWF := Lib.hid hf
      have HV : Hid (nxtR s f false = ⟨#[]⟩) := by show nxtR s f false = _; unfold nxtR; rw [hw, hf]; rfl
      clear hw hf
      go_enter Try.func53, Try.ntmps53
      go_wp2_with fail
      refine (specWordOk s _).mono ?_
      rintro e w' ⟨rfl, rfl⟩
      rw [HW.out]
      go_wp2_with fail
      refine (specWordOk f _).mono ?_
      rintro e w' ⟨rfl, rfl⟩
      rw [HWF.out]
      go_wp2_with fail
      go_ret
      exact ⟨by rw [HV.out]; rfl, Below.refl _ _⟩
    · have HWF := Lib.hid hf
      have HV : Hid (nxtR s f false = nxtS s f false) := by show nxtR s f false = _; unfold nxtR; rw [hw, hf]; rfl
      have HC := Lib.hid (fun w => specNext s f false w (by have := word_size hw; omega) (by have := word_size hf; omega))
      clear hw hf
      go_enter Try.func53, Try.ntmps53
      go_wp2_with fail
      refine (specWordOk s _).mono ?_
      rintro e w' ⟨rfl, rfl⟩
      rw [HW.out]
      go_wp2_with fail
      refine (specWordOk f _).mono ?_
      rintro e w' ⟨rfl, rfl⟩
      rw [HWF.out]
      go_wp2_with fail
      refine (HC.out _).mono ?_
      rintro e w' ⟨rfl, rfl⟩
      go_wp2_with fail
      go_ret
      exact ⟨by rw [HV.out]; rfl, Below.refl _ _⟩

set_option maxHeartbeats 400000 in
theorem specLeadersOf (s f : ByteArray) (w : World) (_ : s.size ≤ 1048576) (_ : f.size ≤ 1048576) :
    Calls Try.prog 54 #[.string s, .string f] w fun e w' => e = .returned (.string (nxtR s f true)) ∧ Below w.heap.size w w' := by
  cases hw : wordB s
  · have HW := Lib.hid hw
    have HV : Hid (nxtR s f true = ⟨#[]⟩) := by show nxtR s f true = _; unfold nxtR; rw [hw]; rfl
    clear hw
    go_enter Try.func54, Try.ntmps54
    go_wp2_with fail
    refine (specWordOk s _).mono ?_
    rintro e w' ⟨rfl, rfl⟩
    rw [HW.out]
    go_wp2_with fail
    go_ret
    exact ⟨by rw [HV.out]; rfl, Below.refl _ _⟩
  · have HW := Lib.hid hw
    cases hf : wordB f
    · have HWF := Lib.hid hf
      have HV : Hid (nxtR s f true = ⟨#[]⟩) := by show nxtR s f true = _; unfold nxtR; rw [hw, hf]; rfl
      clear hw hf
      go_enter Try.func54, Try.ntmps54
      go_wp2_with fail
      refine (specWordOk s _).mono ?_
      rintro e w' ⟨rfl, rfl⟩
      rw [HW.out]
      go_wp2_with fail
      refine (specWordOk f _).mono ?_
      rintro e w' ⟨rfl, rfl⟩
      rw [HWF.out]
      go_wp2_with fail
      go_ret
      exact ⟨by rw [HV.out]; rfl, Below.refl _ _⟩
    · have HWF := Lib.hid hf
      have HV : Hid (nxtR s f true = nxtS s f true) := by show nxtR s f true = _; unfold nxtR; rw [hw, hf]; rfl
      have HC := Lib.hid (fun w => specNext s f true w (by have := word_size hw; omega) (by have := word_size hf; omega))
      clear hw hf
      go_enter Try.func54, Try.ntmps54
      go_wp2_with fail
      refine (specWordOk s _).mono ?_
      rintro e w' ⟨rfl, rfl⟩
      rw [HW.out]
      go_wp2_with fail
      refine (specWordOk f _).mono ?_
      rintro e w' ⟨rfl, rfl⟩
      rw [HWF.out]
      go_wp2_with fail
      refine (HC.out _).mono ?_
      rintro e w' ⟨rfl, rfl⟩
      go_wp2_with fail
      go_ret
      exact ⟨by rw [HV.out]; rfl, Below.refl _ _⟩
end Go.Proofs.Ytfcbfflkajlhnaa
