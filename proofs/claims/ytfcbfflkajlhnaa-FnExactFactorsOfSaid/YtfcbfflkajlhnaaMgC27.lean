/- Texts put together. -/
import Derived.Test.YtfcbfflkajlhnaaMgC26
import Derived.Test.YtfcbfflkajlhnaaMgC16
import Derived.Test.YtfcbfflkajlhnaaMgC17
/- The program's sets of factors: canHaveFactors, factors, followed, led. Conditions: lengths. -/
namespace Go.Proofs.Ytfcbfflkajlhnaa
open Go.RowKit

theorem implCanHave (s : ByteArray) (n : Int) (w : World) (hs : s.size ≤ 1048576) :
    Calls Try.prog 82 #[.string s, .int .i64 n] w fun e w' => e = .returned (.bool (fctOk s n)) ∧ Below w.heap.size w w' := by
  cases hw : wordB s
  · have HV : Hid (fctOk s n = false) := by show fctOk s n = false; unfold fctOk; rw [hw]; rfl
    have HW := Lib.hid hw
    clear hw
    go_enter Try.func82, Try.ntmps82
    go_wp2_with fail
    refine (implOk s _ hs).mono ?_
    rintro e w1 ⟨rfl, hb⟩
    have HB := Lib.hid hb
    rw [HW.out]
    clear hb
    go_wp2_with fail
    go_ret
    exact ⟨ret_bool HV.out.symm, HB.out⟩
  · have HV : Hid (fctOk s n = (decide (1 ≤ n) && decide (n ≤ 400))) := by show fctOk s n = _; unfold fctOk; rw [hw]; rfl
    have HW := Lib.hid hw
    clear hw
    by_cases h1 : 1 ≤ n
    · have d1 : decide ((1 : Int) ≤ n) = true := by simpa using h1
      go_enter Try.func82, Try.ntmps82
      go_wp2_with fail
      refine (implOk s _ hs).mono ?_
      rintro e w1 ⟨rfl, hb⟩
      have HB := Lib.hid hb
      rw [HW.out]
      clear hb
      go_wp2_with fail
      go_ret
      exact ⟨ret_bool (by rw [HV.out, d1]; simp), HB.out⟩
    · have d1 : decide ((1 : Int) ≤ n) = false := by simpa using h1
      go_enter Try.func82, Try.ntmps82
      go_wp2_with fail
      refine (implOk s _ hs).mono ?_
      rintro e w1 ⟨rfl, hb⟩
      have HB := Lib.hid hb
      rw [HW.out]
      clear hb
      go_wp2_with fail
      go_ret
      exact ⟨ret_bool (by rw [HV.out, d1]; simp), HB.out⟩

abbrev tSet : TypeId := 89
theorem uSet : Try.prog.underlying tSet = some (.map fK 4) := Try.underlying89

theorem build_f (s : ByteArray) (w : World) : (Instr.build 124 #[(0, .string s)]).run Try.prog w = .ok (.agg #[.string s, .int .u8 0]) w := run_build w _ _ _ (by kernel_rfl)
theorem build_fb (s : ByteArray) (z : Int) (w : World) : (Instr.build 124 #[(0, .string s), (1, .int .u8 z)]).run Try.prog w = .ok (.agg #[.string s, .int .u8 z]) w := run_build w _ _ _ (by kernel_rfl)
theorem fok_part (s : ByteArray) (hs : s.size ≤ 1048576) (i n : Nat) (z : Int) (h : 0 ≤ z ∧ z ≤ 255) : FOk (s.extract i (i + n), z) :=
  ⟨by show (s.extract i (i + n)).size ≤ maxLen; rw [ByteArray.size_extract]; unfold maxLen; omega, h⟩

theorem index_at {P : Program} {t : TypeId} (ht : P.underlying t = some .string) (s : ByteArray) (z : Int) (k : Nat) (w : World) (hk : k < s.size) (hz : z = k) : (Instr.index t (.string s) (.int .i64 z)).run P w = .ok (.int .u8 (s[k].toNat : Int)) w := by
  subst hz
  rw [run_index_string _ _ _ _ _ ht]
  simp [hk]
/-- the keys of a set -/
def SetIs (L : List FK) (S : FK → Prop) : Prop := ∀ p, p ∈ L ↔ S p
def facS (s : ByteArray) (n i : Nat) (p : FK) : Prop := ∃ j, j < i ∧ p = (s.extract j (j + n), 0)
def folS (s : ByteArray) (n i : Nat) (p : FK) : Prop := ∃ j, j < i ∧ ∃ h : j + n < s.size, p = (s.extract j (j + n), (s[j + n].toNat : Int))
def ledS (s : ByteArray) (n i : Nat) (p : FK) : Prop := ∃ j, j < i ∧ ∃ h : j + n < s.size, p = (s.extract (j + 1) (j + 1 + n), ((s[j]'(by omega)).toNat : Int))
theorem set_empty {S : FK → Prop} (h : ∀ p, ¬ S p) : SetIs [] S := fun p => by simp [h p]
theorem set_next {L L' : List FK} {S S' : FK → Prop} {q : FK} (h : SetIs L S) (h' : ∀ p, p ∈ L' ↔ p = q ∨ p ∈ L) (hS : ∀ p, S' p ↔ p = q ∨ S p) : SetIs L' S' := fun p => by rw [h', h p, hS p]
theorem facS_zero (s : ByteArray) (n : Nat) (p : FK) : ¬ facS s n 0 p := by rintro ⟨j, h, _⟩; omega
theorem folS_zero (s : ByteArray) (n : Nat) (p : FK) : ¬ folS s n 0 p := by rintro ⟨j, h, _⟩; omega
theorem ledS_zero (s : ByteArray) (n : Nat) (p : FK) : ¬ ledS s n 0 p := by rintro ⟨j, h, _⟩; omega
theorem facS_next (s : ByteArray) (n i : Nat) (p : FK) : facS s n (i + 1) p ↔ p = (s.extract i (i + n), 0) ∨ facS s n i p := by
  constructor
  · rintro ⟨j, h, e⟩
    by_cases hj : j = i
    · subst hj; exact .inl e
    · exact .inr ⟨j, by omega, e⟩
  · rintro (e | ⟨j, h, e⟩)
    · exact ⟨i, by omega, e⟩
    · exact ⟨j, by omega, e⟩
theorem folS_next (s : ByteArray) (n i : Nat) (hin : i + n < s.size) (p : FK) : folS s n (i + 1) p ↔ p = (s.extract i (i + n), (s[i + n].toNat : Int)) ∨ folS s n i p := by
  constructor
  · rintro ⟨j, h, e⟩
    by_cases hj : j = i
    · subst hj; exact .inl e.2
    · exact .inr ⟨j, by omega, e⟩
  · rintro (e | ⟨j, h, e⟩)
    · exact ⟨i, by omega, hin, e⟩
    · exact ⟨j, by omega, e⟩
theorem ledS_next (s : ByteArray) (n i : Nat) (hin : i + n < s.size) (p : FK) : ledS s n (i + 1) p ↔ p = (s.extract (i + 1) (i + 1 + n), ((s[i]'(by omega)).toNat : Int)) ∨ ledS s n i p := by
  constructor
  · rintro ⟨j, h, e⟩
    by_cases hj : j = i
    · subst hj; exact .inl e.2
    · exact .inr ⟨j, by omega, e⟩
  · rintro (e | ⟨j, h, e⟩)
    · exact ⟨i, by omega, hin, e⟩
    · exact ⟨j, by omega, e⟩

set_option maxHeartbeats 400000 in
theorem implFactors (s : ByteArray) (n : Nat) (w : World) (hs : s.size ≤ 400) (h1 : 1 ≤ n) (h8 : n ≤ 1000) :
    Calls Try.prog 83 #[.string s, .int .i64 n] w fun e w' => ∃ L, e = .returned (.map (some w.heap.size)) ∧ FSet w' w.heap.size L ∧ SetIs L (facS s n (s.size + 1 - n)) ∧ L.length ≤ 400 ∧ Below w.heap.size w w' := by
  have hmm := @run_makeMap Try.prog
  have hbf := build_f
  go_enter Try.func83, Try.ntmps83
  go_wp2_with fail
  go_loopw [13] (fun ix w' => ∃ (i : Nat) (L : List FK), i ≤ s.size + 1 - n ∧ ix = .int .i64 (i : Int) ∧ FSet w' w.heap.size L ∧ SetIs L (facS s n i) ∧ L.length ≤ i ∧ Below w.heap.size w w') (fun ix _ => s.size + 1 - n - (intOf ix).toNat)
  case atStart => exact ⟨0, [], by omega, rfl, FMap.made w _, set_empty (facS_zero s n), Nat.le_refl _, (Below.refl _ _).alloc (Nat.le_refl _) _⟩
  case round =>
    obtain ⟨i, L, hi, rfl, hF, hL, hl, hb⟩ := hrel
    have HF := Lib.hid hF
    have HL := Lib.hid hL
    have HB := Lib.hid hb
    clear hF hL hb
    by_cases hlt : i < s.size + 1 - n
    · have dlt : (i : Int) < (s.size : Int) - (n : Int) + 1 := by omega
      have hsl : ∀ w : World, (Instr.slice 68 (.string s) (some (.int .i64 (i : Int))) (some (.int .i64 ((i : Int) + (n : Int)))) none).run Try.prog w = .ok (.string (s.extract i (i + n))) w := fun w => slice_at Try.underlying68 s i n w (by omega)
      go_wp2_with (at_mapUpdate; refine wp_put _ rfl _ _ _ tSet rfl fT fk_law uSet w.heap.size L (fun _ => .bool true) rfl HF.out (by unfold maxLen; omega) (s.extract i (i + n), 0) (.bool true) rfl rfl (fok_part s (by omega) i n 0 (by omega)) (fun _ => .bool true) (fun _ _ _ => rfl) (plainElem_bool Try.underlying4 true) ?_; intro w2 L2 hF2 hm2 hl2 hg2 hs2)
      go_roundw
      case rel =>
        exact ⟨i + 1, L2, by omega, by go_num, hF2, set_next HL.out hm2 (facS_next s n i), by omega, HB.out.grown hg2 HB.out.size (fun k hk => by injection hk with hk; omega)⟩
      case measure => simp [intOf]; omega
    · have hii : i = s.size + 1 - n := by omega
      have dlt : ¬ (i : Int) < (s.size : Int) - (n : Int) + 1 := by omega
      go_wp2_with fail
      go_ret
      exact ⟨rfl, L, HF.out, by rw [← hii]; exact HL.out, by omega, HB.out⟩

set_option maxHeartbeats 400000 in
theorem implFollowed (s : ByteArray) (n : Nat) (w : World) (hs : s.size ≤ 400) (h8 : n ≤ 1048576) :
    Calls Try.prog 88 #[.string s, .int .i64 n] w fun e w' => ∃ L, e = .returned (.map (some w.heap.size)) ∧ FSet w' w.heap.size L ∧ SetIs L (folS s n (s.size - n)) ∧ L.length ≤ 400 ∧ Below w.heap.size w w' := by
  have hmm := @run_makeMap Try.prog
  have hbf := build_fb
  go_enter Try.func88, Try.ntmps88
  go_wp2_with fail
  go_loopw [12] (fun ix w' => ∃ (i : Nat) (L : List FK), i ≤ s.size - n ∧ ix = .int .i64 (i : Int) ∧ FSet w' w.heap.size L ∧ SetIs L (folS s n i) ∧ L.length ≤ i ∧ Below w.heap.size w w') (fun ix _ => s.size - n - (intOf ix).toNat)
  case atStart => exact ⟨0, [], by omega, rfl, FMap.made w _, set_empty (folS_zero s n), Nat.le_refl _, (Below.refl _ _).alloc (Nat.le_refl _) _⟩
  case round =>
    obtain ⟨i, L, hi, rfl, hF, hL, hl, hb⟩ := hrel
    have HF := Lib.hid hF
    have HL := Lib.hid hL
    have HB := Lib.hid hb
    clear hF hL hb
    by_cases hlt : i < s.size - n
    · have hin : i + n < s.size := by omega
      have hi0 : i < s.size := by omega
      have dlt : (i : Int) < (s.size : Int) - (n : Int) := by omega
      have hq1 : IntKind.i64.wrap ((i : Int) + (n : Int)) = (i : Int) + (n : Int) := IntWalk.i64_in _ (by omega)
      have hsl : ∀ w : World, (Instr.slice 68 (.string s) (some (.int .i64 (i : Int))) (some (.int .i64 ((i : Int) + (n : Int)))) none).run Try.prog w = .ok (.string (s.extract i (i + n))) w := fun w => slice_at Try.underlying68 s i n w (by omega)
      have hix : ∀ w : World, (Instr.index 68 (.string s) (.int .i64 ((i : Int) + (n : Int)))).run Try.prog w = .ok (.int .u8 (s[i + n].toNat : Int)) w := fun w => index_at Try.underlying68 s _ (i + n) w hin (by omega)
      obtain ⟨w2, L2, hrun, hF2, hm2, hl2, hg2, hs2⟩ := HF.out.drew.put fT fk_law uSet (by unfold maxLen; omega) (s.extract i (i + n), (s[i + n].toNat : Int)) (.bool true) (fok_part s (by omega) i n _ (by have := s[i + n].toNat_lt; omega)) (fun _ => .bool true) (fun _ _ _ => rfl) (plainElem_bool Try.underlying4 true)
      have HF2 := Lib.hid hF2
      have HM2 := Lib.hid hm2
      have HG2 := Lib.hid hg2
      have HS : Hid (∀ p, folS s n (i + 1) p ↔ p = (s.extract i (i + n), (s[i + n].toNat : Int)) ∨ folS s n i p) := folS_next s n i hin
      clear hF2 hm2 hg2
      go_wp2_with fail
      go_region
      all_goals
        go_wp2_with fail
        go_roundw
        case rel => exact ⟨i + 1, L2, by omega, by go_num, HF2.out, set_next HL.out HM2.out HS.out, by omega, (below_drewN HB.out 1).grown HG2.out HB.out.size (fun k hk => by injection hk with hk; omega)⟩
        case measure => simp [intOf]; omega
    · have dlt : ¬ (i : Int) < (s.size : Int) - (n : Int) := by omega
      go_wp2_with fail
      go_ret
      exact ⟨rfl, L, HF.out, by rw [show s.size - n = i by omega]; exact HL.out, by omega, HB.out⟩

set_option maxHeartbeats 400000 in
theorem implLed (s : ByteArray) (n : Nat) (w : World) (hs : s.size ≤ 400) (h8 : n ≤ 1048576) :
    Calls Try.prog 90 #[.string s, .int .i64 n] w fun e w' => ∃ L, e = .returned (.map (some w.heap.size)) ∧ FSet w' w.heap.size L ∧ SetIs L (ledS s n (s.size - n)) ∧ L.length ≤ 400 ∧ Below w.heap.size w w' := by
  have hmm := @run_makeMap Try.prog
  have hbf := build_fb
  go_enter Try.func90, Try.ntmps90
  go_wp2_with fail
  go_loopw [12] (fun ix w' => ∃ (i : Nat) (L : List FK), i ≤ s.size - n ∧ ix = .int .i64 (i : Int) ∧ FSet w' w.heap.size L ∧ SetIs L (ledS s n i) ∧ L.length ≤ i ∧ Below w.heap.size w w') (fun ix _ => s.size - n - (intOf ix).toNat)
  case atStart => exact ⟨0, [], by omega, rfl, FMap.made w _, set_empty (ledS_zero s n), Nat.le_refl _, (Below.refl _ _).alloc (Nat.le_refl _) _⟩
  case round =>
    obtain ⟨i, L, hi, rfl, hF, hL, hl, hb⟩ := hrel
    have HF := Lib.hid hF
    have HL := Lib.hid hL
    have HB := Lib.hid hb
    clear hF hL hb
    by_cases hlt : i < s.size - n
    · have hin : i + n < s.size := by omega
      have hi0 : i < s.size := by omega
      have dlt : (i : Int) < (s.size : Int) - (n : Int) := by omega
      have hq1 : IntKind.i64.wrap ((i : Int) + 1) = (i : Int) + 1 := IntWalk.i64_in _ (by omega)
      have hq2 : IntKind.i64.wrap ((i : Int) + 1 + (n : Int)) = (i : Int) + 1 + (n : Int) := IntWalk.i64_in _ (by omega)
      have hsl : ∀ w : World, (Instr.slice 68 (.string s) (some (.int .i64 ((i : Int) + 1))) (some (.int .i64 ((i : Int) + 1 + (n : Int)))) none).run Try.prog w = .ok (.string (s.extract (i + 1) (i + 1 + n))) w := fun w => by
        have := slice_at (P := Try.prog) Try.underlying68 s (i + 1) n w (by omega)
        rwa [Int.natCast_add] at this
      have hix : ∀ w : World, (Instr.index 68 (.string s) (.int .i64 (i : Int))).run Try.prog w = .ok (.int .u8 ((s[i]'hi0).toNat : Int)) w := fun w => index_at Try.underlying68 s _ i w hi0 rfl
      obtain ⟨w2, L2, hrun, hF2, hm2, hl2, hg2, hs2⟩ := HF.out.drew.put fT fk_law uSet (by unfold maxLen; omega) (s.extract (i + 1) (i + 1 + n), ((s[i]'hi0).toNat : Int)) (.bool true) (fok_part s (by omega) (i + 1) n _ (by have := (s[i]'hi0).toNat_lt; omega)) (fun _ => .bool true) (fun _ _ _ => rfl) (plainElem_bool Try.underlying4 true)
      have HF2 := Lib.hid hF2
      have HM2 := Lib.hid hm2
      have HG2 := Lib.hid hg2
      have HS : Hid (∀ p, ledS s n (i + 1) p ↔ p = (s.extract (i + 1) (i + 1 + n), ((s[i]'hi0).toNat : Int)) ∨ ledS s n i p) := ledS_next s n i hin
      clear hF2 hm2 hg2
      go_wp2_with fail
      go_region
      all_goals
        go_wp2_with fail
        go_roundw
        case rel => exact ⟨i + 1, L2, by omega, by go_num, HF2.out, set_next HL.out HM2.out HS.out, by omega, (below_drewN HB.out 1).grown HG2.out HB.out.size (fun k hk => by injection hk with hk; omega)⟩
        case measure => simp [intOf]; omega
    · have dlt : ¬ (i : Int) < (s.size : Int) - (n : Int) := by omega
      go_wp2_with fail
      go_ret
      exact ⟨rfl, L, HF.out, by rw [show s.size - n = i by omega]; exact HL.out, by omega, HB.out⟩
end Go.Proofs.Ytfcbfflkajlhnaa

/- hasFirst, hasImages and SubstOk of the program. Conditions: lengths of at most 2^20. -/
namespace Go.Proofs.Ytfcbfflkajlhnaa
open Go.RowKit

theorem letterAt (n j : Int) (w : World) (h : n = 97 + j) (h1 : 0 ≤ j) (h2 : j ≤ 3) :
    Calls Try.prog 78 #[.int .u8 n] w fun e w' => e = .returned (.int .i64 j) ∧ w = w' := by
  have h3 : 97 ≤ n := by omega
  have h4 : n ≤ 100 := by omega
  have HJ := Lib.hid (show n - 97 = j by omega)
  clear h h1 h2
  go_enter Try.func78, Try.ntmps78
  go_wp2
  go_ret
  exact ⟨ret_int HJ.out, rfl⟩

set_option maxHeartbeats 400000 in
theorem implHasFirst (n : Nat) (s : ByteArray) (w : World) (_ : n ≤ 1048576) (hs : s.size ≤ 1048576) :
    Calls Try.prog 112 #[.string s, .int .i64 n] w fun e w' => e = .returned (.bool (wordB s && withinB n s)) ∧ Below w.heap.size w w' := by
  by_cases h : wordB s = true
  · have h400 := word_size h
    have HW := Lib.hid (word_at h)
    have HR : Hid ((wordB s && withinB n s) = withinB n s) := by show (wordB s && withinB n s) = withinB n s; rw [h]; rfl
    go_enter Try.func112, Try.ntmps112
    go_wp2_with fail
    refine (implOk s _ hs).mono ?_
    rintro e w1 ⟨rfl, hb1⟩
    have HB1 := Lib.hid hb1
    clear hb1
    go_wp2_with fail
    go_loop [11] (fun i => ∃ k : Nat, k ≤ s.size ∧ i = .int .i64 k ∧ (s.data.toList.take k).all (fun c => decide (c.toNat < 97 + n)) = true) (fun i => s.size - (intOf i).toNat)
    case atStart => exact ⟨0, Nat.zero_le _, rfl, rfl⟩
    case round =>
      obtain ⟨k, hk, rfl, ha⟩ := hrel
      have HA := Lib.hid ha
      clear ha
      by_cases hlt : k < s.size
      · obtain ⟨p1, p2⟩ := HW.out k hlt
        obtain ⟨j, hj, hj3⟩ : ∃ j : Nat, s[k].toNat = 97 + j ∧ j ≤ 3 := ⟨s[k].toNat - 97, by omega, by omega⟩
        have HLI := Lib.hid (fun w => letterAt (s[k].toNat : Int) (j : Int) w (by omega) (by omega) (by omega))
        by_cases hc : s[k].toNat < 97 + n
        · have hge : ¬ ((n : Int) ≤ (j : Int)) := by omega
          have d1 : decide ((n : Int) ≤ (j : Int)) = false := by simpa using hge
          have HC := Lib.hid hc
          clear hc p1 p2 hj
          go_wp2_with (go_at_call 78; refine (HLI.out _).mono ?_; rintro e w' ⟨rfl, rfl⟩)
          go_round
          case rel => exact ⟨k + 1, by omega, by go_num, all_snoc s k hlt HA.out (by simpa using HC.out)⟩
          case measure => simp [intOf]; omega
        · have hge : (n : Int) ≤ (j : Int) := by omega
          have d1 : decide ((n : Int) ≤ (j : Int)) = true := by simpa using hge
          have HN : Hid (withinB n s = false) := by
            show withinB n s = false
            exact all_not s k hlt (by simpa using hc)
          clear hc p1 p2 hj
          go_wp2_with (go_at_call 78; refine (HLI.out _).mono ?_; rintro e w' ⟨rfl, rfl⟩)
          go_ret
          exact ⟨ret_bool (by first | rw [HR.out, HN.out] | exact HN.out.symm), HB1.out⟩
      · have hk' : k = s.size := by omega
        have HY : Hid (withinB n s = true) := by
          have := HA.out
          rw [hk', take_all s _ (Nat.le_refl _)] at this
          exact this
        clear hk'
        go_wp2_with fail
        go_ret
        exact ⟨ret_bool (by first | rw [HR.out, HY.out] | exact HY.out.symm), HB1.out⟩
  · have h' : wordB s = false := by simpa using h
    have HR : Hid ((wordB s && withinB n s) = false) := by show (wordB s && withinB n s) = false; rw [h']; rfl
    clear h
    go_enter Try.func112, Try.ntmps112
    go_wp2_with fail
    refine (implOk s _ hs).mono ?_
    rintro e w1 ⟨rfl, hb1⟩
    go_wp2_with fail
    go_ret
    exact ⟨ret_bool HR.out.symm, hb1⟩

theorem implHasImages (A : Option Addr) (n cp : Nat) (s : ByteArray) (w : World) (hn : n ≤ 1048576) (hs : s.size ≤ 1048576) :
    Calls Try.prog 67 #[.agg #[.slice A n cp], .string s] w fun e w' => e = .returned (.bool (wordB s && withinB n s)) ∧ Below w.heap.size w w' := by
  go_enter Try.func67, Try.ntmps67
  go_wp2_with fail
  refine (implHasFirst n s _ hn hs).mono ?_
  rintro e w1 ⟨rfl, hb1⟩
  have hb0 : Below w.heap.size w (w.alloc (.cells #[.slice A n cp] 25)) := (Below.refl _ _).alloc (Nat.le_refl _) _
  have HB := Lib.hid (hb0.trans (hb1.mono (by simp)))
  clear hb0 hb1
  go_wp2_with fail
  go_ret
  exact ⟨rfl, HB.out⟩

theorem size_zero {s : ByteArray} (h : s.size = 0) : s = ⟨#[]⟩ := by
  apply bytes_ext
  rw [ByteArray.toList_eq, ByteArray.toList_eq]
  exact List.eq_nil_of_length_eq_zero (by simpa using h)

set_option maxHeartbeats 1000000 in
theorem implSubstOkL (l : List ByteArray) (v : Value) (w : World) (h : Lst w v (strs l)) (hz : ∀ x ∈ l, x.size ≤ 1048576) (hn : l.length ≤ 2097152) :
    Calls Try.prog 18 #[.agg #[v]] w fun e w' => e = .returned (.bool (substB l)) ∧ Below w.heap.size w w' := by
  obtain ⟨A, cp, rfl⟩ := lst_slice h
  rw [strs_length] at h ⊢
  by_cases hl : 1 ≤ l.length ∧ l.length ≤ 4
  · obtain ⟨hl1, hl4⟩ := hl
    have d1 : decide ((l.length : Int) < 1) = false := by simp; omega
    have d2 : decide ((4 : Int) < (l.length : Int)) = false := by simp; omega
    have hb0 : Below w.heap.size w (w.alloc (.cells #[.slice A l.length cp] 25)) := (Below.refl _ _).alloc (Nat.le_refl _) _
    obtain ⟨A', c', he, hc1, hc2, h1⟩ := h.below hb0
    rw [strs_length] at he hc1
    injection he with hA _ hc
    subst hA; subst hc
    replace h1 := h1.resolve_left (by
      intro e
      have := congrArg List.length e
      rw [strs_length] at this
      simp only [List.length_nil] at this
      omega)
    obtain ⟨b, off, rfl, h1⟩ := h1
    have H1 := Lib.hid (strs_at h1)
    have HZ := Lib.hid hz
    have HB := Lib.hid hb0
    clear h1 hz hc2 hc1 h hb0
    go_enter Try.func18, Try.ntmps18
    go_wp2_with fail
    go_loopw [18] (fun i w' => ∃ k : Nat, k ≤ l.length ∧ i = .int .i64 k ∧ (l.take k).all (imgB l.length) = true ∧ Below (w.heap.size + 1) (w.alloc (.cells #[.slice (some ⟨b, off, none⟩) l.length cp] 25)) w') (fun i _ => l.length - (intOf i).toNat)
    case atStart => exact ⟨0, Nat.zero_le _, rfl, rfl, Below.refl _ _⟩
    case round =>
      obtain ⟨k, hk, rfl, ha, hbk⟩ := hrel
      have HA := Lib.hid ha
      have HBK := Lib.hid hbk
      have hszw : w.heap.size + 1 ≤ wr.heap.size := by have := hbk.size; simpa using this
      have hcw : wr.cell? ⟨w.heap.size, 0, none⟩ = some (.slice (some ⟨b, off, none⟩) l.length cp) := (hbk.cell (p := ⟨w.heap.size, 0, none⟩) (by simp)).trans (by rw [World.cell?_alloc_at _ _ _ _ rfl]; rfl)
      clear ha hbk
      have HE : Hid (Below w.heap.size w wr) := HB.out.trans (HBK.out.mono (by omega))
      by_cases hlt : k < l.length
      · have g1 : wr.cell? ⟨b, off + k, none⟩ = some (.string l[k]) := by
          have hc := H1.out k hlt
          have hlt := World.block_lt_of_cell? _ _ hc
          exact (HBK.out.cell (p := ⟨b, off + k, none⟩) (by simpa using hlt)).trans hc
        have hsz := HZ.out _ (List.getElem_mem hlt)
        by_cases c1 : l[k].size = 0
        · have HN := Lib.hid (subst_no k hlt (img_no1 (by omega)))
          have e1 : (l[k].toList == []) = true := by rw [size_zero c1, ByteArray.toList_eq]; rfl
          clear c1
          go_wp2_with fail
          go_ret
          exact ⟨ret_bool HN.out.symm, HE.out⟩
        · have e1 : (l[k].toList == []) = false := by
            rw [beq_eq_false_iff_ne]
            intro h
            apply c1
            have e : l[k] = ⟨#[]⟩ := bytes_ext (by rw [h, ByteArray.toList_eq])
            rw [e]
            rfl
          by_cases c2 : 8 < l[k].size
          · have HN := Lib.hid (subst_no k hlt (img_no1 (by omega)))
            have e2 : decide ((8 : Int) < l[k].size) = true := by simp; omega
            clear c1
            go_wp2_with fail
            go_ret
            exact ⟨ret_bool HN.out.symm, HE.out⟩
          · have e2 : decide ((8 : Int) < l[k].size) = false := by simp; omega
            have HHI := Lib.hid (fun w => implHasImages (some ⟨b, off, none⟩) l.length cp l[k] w (by omega) hsz)
            by_cases c3 : (wordB l[k] && withinB l.length l[k]) = true
            · have HI : Hid (imgB l.length l[k] = true) := by
                show imgB l.length l[k] = true
                rw [Bool.and_eq_true] at c3
                exact img_yes (by omega) (by omega) c3.1 c3.2
              clear c1
              go_wp2_with fail
              refine (HHI.out _).mono ?_
              rintro e w2 ⟨rfl, hb2⟩
              have HB2 := Lib.hid hb2
              clear hb2
              go_wp2_with fail
              go_roundw
              case rel => exact ⟨k + 1, by omega, by go_num, lall_snoc l k hlt HA.out HI.out, HBK.out.trans (HB2.out.mono hszw)⟩
              case measure => simp [intOf]; omega
            · have HN : Hid (substB l = false) := by
                show substB l = false
                refine subst_no k hlt ?_
                by_cases q : wordB l[k] = true
                · exact img_no3 (by simpa [q] using c3)
                · exact img_no2 (by simpa using q)
              have c3' : (wordB l[k] && withinB l.length l[k]) = false := by simpa only [Bool.not_eq_true] using c3
              clear c1 c3
              go_wp2_with fail
              refine (HHI.out _).mono ?_
              rintro e w2 ⟨rfl, hb2⟩
              have HB2 := Lib.hid hb2
              clear hb2
              go_wp2_with fail
              go_ret
              exact ⟨ret_bool HN.out.symm, HE.out.trans (HB2.out.mono (by omega))⟩
      · have hk' : k = l.length := by omega
        have HY := Lib.hid (subst_yes hl1 hl4 (hk' ▸ HA.out))
        clear hk'
        go_wp2_with fail
        go_ret
        exact ⟨ret_bool HY.out.symm, HE.out⟩
  · have HN := Lib.hid (subst_len hl)
    have hb0 : Below w.heap.size w (w.alloc (.cells #[.slice A l.length cp] 25)) := (Below.refl _ _).alloc (Nat.le_refl _) _
    have HB := Lib.hid hb0
    by_cases hl1 : l.length < 1
    · have d1 : decide ((l.length : Int) < 1) = true := by simp; omega
      clear hl h hz hb0
      go_enter Try.func18, Try.ntmps18
      go_wp2_with fail
      go_ret
      exact ⟨ret_bool HN.out.symm, HB.out⟩
    · have d1 : decide ((l.length : Int) < 1) = false := by simp; omega
      have d2 : decide ((4 : Int) < (l.length : Int)) = true := by simp; omega
      clear h hz hb0
      go_enter Try.func18, Try.ntmps18
      go_wp2_with fail
      go_ret
      exact ⟨ret_bool HN.out.symm, HB.out⟩

theorem implSubstOk (l : List ByteArray) (v : Value) (w : World) (h : Lst w v (strs l)) (hz : ∀ x ∈ l, x.size ≤ 1048576) (hn : l.length ≤ 1048576) :
    Calls Try.prog 18 #[.agg #[v]] w fun e w' => e = .returned (.bool (substB l)) ∧ Below w.heap.size w w' := implSubstOkL l v w h hz (by omega)
end Go.Proofs.Ytfcbfflkajlhnaa
