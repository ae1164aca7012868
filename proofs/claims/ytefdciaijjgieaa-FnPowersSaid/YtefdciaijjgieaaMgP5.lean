/- Texts put together. -/
import Derived.Test.YtefdciaijjgieaaMgP1
import Derived.IntWalk
import Derived.Test.YtefdciaijjgieaaChecked
import Derived.Test.YtefdciaijjgieaaMgP4
import Derived.Deep.LoopGhost
import Derived.Deep.RegionHeld3
/- A letter of a text by its index. No program in it. -/
namespace Go.Proofs.Ytefdciaijjgieaa
open Go.RowKit

theorem index_at {P : Program} {t : TypeId} (ht : P.underlying t = some .string) (s : ByteArray) (z : Int) (k : Nat) (w : World) (hk : k < s.size) (hz : z = k) : (Instr.index t (.string s) (.int .i64 z)).run P w = .ok (.int .u8 (s[k].toNat : Int)) w := by
  subst hz
  rw [run_index_string _ _ _ _ _ ht]
  simp [hk]
theorem at_list (s : ByteArray) (k : Nat) (hk : k < s.size) : s.data.toList[k]? = some s[k] := by
  rw [Array.getElem?_toList]
  exact Array.getElem?_eq_getElem hk
theorem same_at (s : ByteArray) (i j : Nat) (hi : i < s.size) (hj : j < s.size) : (s.data.toList[i]? = s.data.toList[j]?) ↔ s[i] = s[j] := by
  rw [at_list s i hi, at_list s j hj]
  exact ⟨fun h => Option.some.inj h, fun h => by rw [h]⟩
theorem num_same (a b : UInt8) : (((a.toNat : Int) == (b.toNat : Int)) = true) ↔ a = b := by
  rw [beq_iff_eq]
  exact ⟨fun h => UInt8.toNat.inj (by omega), fun h => by rw [h]⟩
theorem num_other (a b : UInt8) : (((a.toNat : Int) == (b.toNat : Int)) = false) ↔ a ≠ b := by
  rw [← Bool.not_eq_true, num_same]
end Go.Proofs.Ytefdciaijjgieaa

/- WordOk of the model and its count of a letter. No condition but that a text has at most 2^63 bytes. -/
namespace Go.Proofs.Ytefdciaijjgieaa
open Go.RowKit

set_option maxHeartbeats 400000 in
theorem specWordOk (s : ByteArray) (w : World) :
    Calls Try.prog 59 #[.string s] w fun e w' => e = .returned (.bool (wordB s)) ∧ w = w' := by
  by_cases hl : 400 < s.size
  · have HE := Lib.hid (word_long hl)
    go_enter Try.func59, Try.ntmps59
    go_wp2
    go_ret
    exact ⟨ret_bool HE.out.symm, rfl⟩
  have hs : s.size ≤ 400 := by omega
  go_enter Try.func59, Try.ntmps59
  go_wp2
  go_loop [3] (fun i => ∃ k : Nat, k ≤ s.size ∧ i = .int .i64 k ∧ (s.data.toList.take k).all isAbcd = true) (fun i => s.size - (intOf i).toNat)
  case atStart => exact ⟨0, Nat.zero_le _, rfl, rfl⟩
  case round =>
    obtain ⟨k, hk, rfl, ha⟩ := hrel
    have HA := Lib.hid ha
    clear ha
    by_cases hlt : k < s.size
    · by_cases h1 : s[k].toNat < 97
      · have h1' : ((s[k].toNat : Int) < 97) := by omega
        have HN := Lib.hid (word_not (s := s) k hlt (by simp [isAbcd]; omega))
        go_wp2
        go_ret
        exact ⟨ret_bool HN.out.symm, rfl⟩
      · by_cases h2 : 100 < s[k].toNat
        · have h1' : ¬ ((s[k].toNat : Int) < 97) := by omega
          have h2' : ((100 : Int) < s[k].toNat) := by omega
          have HN := Lib.hid (word_not (s := s) k hlt (by simp [isAbcd]; omega))
          go_wp2
          go_ret
          exact ⟨ret_bool HN.out.symm, rfl⟩
        · have h1' : ¬ ((s[k].toNat : Int) < 97) := by omega
          have h2' : ¬ ((100 : Int) < s[k].toNat) := by omega
          go_wp2
          go_round
          case rel => exact ⟨k + 1, by omega, by go_num, all_snoc s k hlt HA.out (by simp [isAbcd]; omega)⟩
          case measure => simp [intOf]; omega
    · have hk' : k = s.size := by omega
      subst hk'
      have HY := Lib.hid (word_yes hs HA.out)
      go_wp2
      go_ret
      exact ⟨ret_bool HY.out.symm, rfl⟩

end Go.Proofs.Ytefdciaijjgieaa

/- Chapter 8 of the model: repetitions. Conditions: lengths of at most 2^20. -/
namespace Go.Proofs.Ytefdciaijjgieaa
open Go.RowKit

/-- the letters ahead of i that agree with those p further on, as far back as they do -/
def RunOk (s : ByteArray) (p run i : Nat) : Prop := run ≤ i ∧ (∀ j, i - run ≤ j → j < i → s.data.toList[j]? = s.data.toList[j + p]?) ∧ (run < i → s.data.toList[i - run - 1]? ≠ s.data.toList[i - run - 1 + p]?)
def NoRun (s : ByteArray) (m p i : Nat) : Prop := ∀ k, k + m ≤ i → ¬ RunAt s m p k
theorem run_start (s : ByteArray) (p : Nat) : RunOk s p 0 0 := ⟨Nat.le_refl _, fun j _ h => absurd h (by omega), fun h => absurd h (by omega)⟩
theorem norun_start (s : ByteArray) (m p : Nat) (hm : 1 ≤ m) : NoRun s m p 0 := fun k h => absurd h (by omega)
theorem run_yes {s : ByteArray} {p run i : Nat} (h : RunOk s p run i) (he : s.data.toList[i]? = s.data.toList[i + p]?) : RunOk s p (run + 1) (i + 1) := by
  obtain ⟨h1, h2, h3⟩ := h
  refine ⟨by omega, fun j a b => ?_, fun hl => ?_⟩
  · by_cases e : j = i
    · subst e; exact he
    · exact h2 j (by omega) (by omega)
  · rw [show i + 1 - (run + 1) - 1 = i - run - 1 by omega]
    exact h3 (by omega)
theorem run_no {s : ByteArray} {p i : Nat} (he : s.data.toList[i]? ≠ s.data.toList[i + p]?) : RunOk s p 0 (i + 1) :=
  ⟨by omega, fun j a b => absurd b (by omega), fun _ => by rw [show i + 1 - 0 - 1 = i by omega]; exact he⟩
theorem norun_yes {s : ByteArray} {m p run i : Nat} (h : RunOk s p run i) (hn : NoRun s m p i) (hr : run + 1 < m) : NoRun s m p (i + 1) := by
  intro k hk hrn
  by_cases e : k + m ≤ i
  · exact hn k e hrn
  · have hki : k = i + 1 - m := by omega
    have h3 := h.2.2 (by omega)
    have := hrn.2 (i - run - 1 - k) (by omega)
    rw [show k + (i - run - 1 - k) = i - run - 1 by omega, show k + p + (i - run - 1 - k) = i - run - 1 + p by omega] at this
    exact h3 this
theorem norun_no {s : ByteArray} {m p i : Nat} (hm : 1 ≤ m) (hn : NoRun s m p i) (he : s.data.toList[i]? ≠ s.data.toList[i + p]?) : NoRun s m p (i + 1) := by
  intro k hk hrn
  by_cases e : k + m ≤ i
  · exact hn k e hrn
  · have := hrn.2 (i - k) (by omega)
    rw [show k + (i - k) = i by omega, show k + p + (i - k) = i + p by omega] at this
    exact he this
theorem run_found {s : ByteArray} {p run i : Nat} (h : RunOk s p run i) (he : s.data.toList[i]? = s.data.toList[i + p]?) (hi : i + p < s.size) : RunAt s (run + 1) p (i - run) := by
  have h' := run_yes h he
  refine ⟨by have := h.1; omega, fun j hj => ?_⟩
  have := h'.2.1 (i - run + j) (by omega) (by have := h.1; omega)
  rw [this]
  congr 1
  omega

set_option maxHeartbeats 1000000 in
theorem specRepeats (s : ByteArray) (n e : Nat) (w : World) (hs : s.size ≤ 400) (hn : n = 1 ∨ n = 2) (he : e ≤ 1) :
    Calls Try.prog 62 #[.string s, .int .i64 n, .int .i64 e] w fun r w' => r = .returned (.bool (repB s n e)) ∧ Below w.heap.size w w' := by
  have HY : Hid (∀ p i, 1 ≤ p → RunAt s (n * p + e) p i → repB s n e = true) := fun p i h1 h2 => (repB_iff s n e).2 ⟨p, h1, i, h2⟩
  have HNO : Hid ((∀ q, 1 ≤ q → ∀ i, ¬ RunAt s (n * q + e) q i) → repB s n e = false) := fun h => by
    cases hb : repB s n e
    · rfl
    · obtain ⟨q, h1, i, h2⟩ := (repB_iff s n e).1 hb
      exact absurd h2 (h q h1 i)
  generalize repB s n e = rb at HY HNO
  go_enter Try.func62, Try.ntmps62
  go_wp2_with fail
  go_loopw [7] (fun pv w' => ∃ p : Nat, 1 ≤ p ∧ p ≤ s.size + 1 ∧ pv = .int .i64 (p : Int) ∧ (∀ q, 1 ≤ q → q < p → ∀ i, ¬ RunAt s (n * q + e) q i) ∧ Below w.heap.size w w') (fun pv _ => s.size + 2 - (intOf pv).toNat)
  case atStart => exact ⟨1, by omega, by omega, rfl, fun q a b => absurd b (by omega), Below.refl _ _⟩
  case round =>
    obtain ⟨p, hp1, hp2, rfl, hno, hb⟩ := hrel
    obtain ⟨wo, rfl⟩ : ∃ y : World, y = wr := ⟨_, rfl⟩
    have HN := Lib.hid hno
    have HB := Lib.hid hb
    clear hno hb
    have hmul : (p : Int) * (n : Int) = ((n * p : Nat) : Int) := by rw [Nat.mul_comm]; push_cast; rfl
    have hmul2 : (n : Int) * (p : Int) = ((n * p : Nat) : Int) := by push_cast; rfl
    have hnp : p ≤ n * p ∧ n * p ≤ 2 * p := by rcases hn with rfl | rfl <;> omega
    obtain ⟨np, hnpe⟩ : ∃ np, np = n * p := ⟨_, rfl⟩
    have HNE := Lib.hid hnpe
    rw [← hnpe] at hmul hmul2 hnp
    by_cases hlt : np + e ≤ s.size
    · have HM : Hid (∀ i, RunAt s (np + e) p i → rb = true) := fun i h => HY.out p i hp1 (by rw [← HNE.out]; exact h)
      clear hnpe
      have hm1 : 1 ≤ np + e := by omega
      have HS0 := Lib.hid (run_start s p)
      have HN0 := Lib.hid (norun_start s (np + e) p hm1)
      go_wp2_with fail
      go_loopw [8, 9] (fun rv iv w' => ∃ run i : Nat, rv = .int .i64 (run : Int) ∧ iv = .int .i64 (i : Int) ∧ i ≤ s.size ∧ run < np + e ∧ RunOk s p run i ∧ NoRun s (np + e) p i ∧ Below w.heap.size w w') (fun _ iv _ => s.size + 1 - (intOf iv).toNat)
      case atStart => exact ⟨0, 0, rfl, rfl, by omega, by omega, HS0.out, HN0.out, HB.out⟩
      case round =>
        obtain ⟨run, i, rfl, rfl, hi, hrm, hro, hnr, hb⟩ := hrel
        obtain ⟨wi, rfl⟩ : ∃ y : World, y = wr := ⟨_, rfl⟩
        have HRO := Lib.hid hro
        have HNR := Lib.hid hnr
        have HBI := Lib.hid hb
        have hri := hro.1
        clear hro hnr hb
        by_cases hip : i + p < s.size
        · have hi0 : i < s.size := by omega
          have hq1 : IntKind.i64.wrap ((i : Int) + (p : Int)) = (i : Int) + (p : Int) := IntWalk.i64_in _ (by omega)
          have hix : ∀ w : World, (Instr.index 9 (.string s) (.int .i64 (i : Int))).run Try.prog w = .ok (.int .u8 (s[i].toNat : Int)) w := fun w => index_at Try.underlying9 s _ i w hi0 rfl
          have hiy : ∀ w : World, (Instr.index 9 (.string s) (.int .i64 ((i : Int) + (p : Int)))).run Try.prog w = .ok (.int .u8 (s[i + p].toNat : Int)) w := fun w => index_at Try.underlying9 s _ (i + p) w hip (by omega)
          by_cases hc : s[i] = s[i + p]
          · have HC : Hid (s.data.toList[i]? = s.data.toList[i + p]?) := (same_at s i (i + p) hi0 hip).2 hc
            rw [← hc] at hiy
            have HF := Lib.hid (run_found HRO.out HC.out hip)
            clear hc
            generalize s[i] = x at hix hiy
            by_cases hlast : run + 1 = np + e
            · have HRB : Hid (rb = true) := HM.out _ (by rw [← hlast]; exact HF.out)
              have blast : ((run : Int) + 1 == (np : Int) + (e : Int)) = true := by rw [beq_iff_eq]; omega
              go_wp2_with fail
              go_region
              go_wp2_with fail
              go_ret
              exact ⟨ret_bool HRB.out.symm, below_drewN HBI.out 1⟩
            · have blast : ((run : Int) + 1 == (np : Int) + (e : Int)) = false := by rw [beq_eq_false_iff_ne]; omega
              have HN1 := Lib.hid (norun_yes HRO.out HNR.out (show run + 1 < np + e by omega))
              have HR1 := Lib.hid (run_yes HRO.out HC.out)
              go_wp2_with fail
              go_region
              go_wp2_with fail
              go_roundw
              case rel => exact ⟨run + 1, i + 1, by go_num, by go_num, by omega, by omega, HR1.out, HN1.out, below_drewN HBI.out 1⟩
              case measure => simp [intOf]; omega
          · have HC : Hid (s.data.toList[i]? ≠ s.data.toList[i + p]?) := fun h => hc ((same_at s i (i + p) hi0 hip).1 h)
            have bne : (((s[i]).toNat : Int) == ((s[i + p]).toNat : Int)) = false := (num_other _ _).2 hc
            have bne2 : ¬ (s[i]).toNat = (s[i + p]).toNat := fun h => hc (UInt8.toNat.inj h)
            have HN1 := Lib.hid (norun_no hm1 HNR.out HC.out)
            have HR1 := Lib.hid (run_no HC.out)
            have b0 : ((0 : Int) == (np : Int) + (e : Int)) = false := by rw [beq_eq_false_iff_ne]; omega
            clear hc
            generalize s[i] = x at hix bne bne2
            generalize s[i + p] = y at hiy bne bne2
            go_wp2_with fail
            go_region
            go_wp2_with fail
            go_roundw
            case rel => exact ⟨0, i + 1, rfl, by go_num, by omega, by omega, HR1.out, HN1.out, below_drewN HBI.out 1⟩
            case measure => simp [intOf]; omega
        · have HEND : Hid (∀ q, 1 ≤ q → q < p + 1 → ∀ k, ¬ RunAt s (n * q + e) q k) := fun q h1 h2 k hk => by
            by_cases hq : q = p
            · subst hq
              rw [← HNE.out] at hk
              have := hk.1
              exact HNR.out k (by omega) hk
            · exact HN.out q h1 (by omega) k hk
          go_wp2_with fail
          go_roundw
          case rel => exact ⟨p + 1, by omega, by omega, by go_num, HEND.out, HBI.out⟩
          case measure => simp [intOf]; omega
    · have HRB : Hid (rb = false) := HNO.out fun q h1 k hk => by
        by_cases hq : q < p
        · exact HN.out q h1 hq k hk
        · have := hk.1
          have h3 : np ≤ n * q := by rw [HNE.out]; exact Nat.mul_le_mul_left n (by omega)
          omega
      clear hnpe
      go_wp2_with fail
      go_ret
      exact ⟨ret_bool HRB.out.symm, HB.out⟩
end Go.Proofs.Ytefdciaijjgieaa

/- Chapter 8 of the model: IsSquareFree, IsCubeFree, IsOverlapFree, LeastPeriod, LongestRun. Conditions: lengths of at most 2^20. -/
namespace Go.Proofs.Ytefdciaijjgieaa
open Go.RowKit

set_option maxHeartbeats 400000 in
theorem specIsSquareFree (s : ByteArray) (w : World) (_ : s.size ≤ 1048576) :
    Calls Try.prog 34 #[.string s] w fun e w' => e = .returned (.bool (freeR s 1 0)) ∧ Below w.heap.size w w' := by
  cases hw : wordB s
  · have HW := Lib.hid hw
    have HV : Hid (freeR s 1 0 = false) := by show _ = _; unfold freeR; rw [hw]; rfl
    clear hw
    go_enter Try.func34, Try.ntmps34
    go_wp2_with fail
    refine (specWordOk s _).mono ?_
    rintro e w' ⟨rfl, rfl⟩
    rw [HW.out]
    go_wp2_with fail
    go_ret
    exact ⟨ret_bool HV.out.symm, Below.refl _ _⟩
  · have HW := Lib.hid hw
    have HV : Hid (freeR s 1 0 = !repB s 1 0) := by show _ = _; unfold freeR; rw [hw]; rfl
    have HR := Lib.hid (fun w => specRepeats s 1 0 w (word_size hw) (by omega) (by omega))
    clear hw
    generalize repB s 1 0 = b at HV HR
    go_enter Try.func34, Try.ntmps34
    go_wp2_with fail
    refine (specWordOk s _).mono ?_
    rintro e w' ⟨rfl, rfl⟩
    rw [HW.out]
    go_wp2_with fail
    refine (HR.out _).mono ?_
    rintro e w2 ⟨rfl, hb⟩
    have HB := Lib.hid hb
    clear hb
    go_wp2_with fail
    go_ret
    exact ⟨ret_bool (by rw [HV.out]), HB.out⟩

set_option maxHeartbeats 400000 in
theorem specIsCubeFree (s : ByteArray) (w : World) (_ : s.size ≤ 1048576) :
    Calls Try.prog 35 #[.string s] w fun e w' => e = .returned (.bool (freeR s 2 0)) ∧ Below w.heap.size w w' := by
  cases hw : wordB s
  · have HW := Lib.hid hw
    have HV : Hid (freeR s 2 0 = false) := by show _ = _; unfold freeR; rw [hw]; rfl
    clear hw
    go_enter Try.func35, Try.ntmps35
    go_wp2_with fail
    refine (specWordOk s _).mono ?_
    rintro e w' ⟨rfl, rfl⟩
    rw [HW.out]
    go_wp2_with fail
    go_ret
    exact ⟨ret_bool HV.out.symm, Below.refl _ _⟩
  · have HW := Lib.hid hw
    have HV : Hid (freeR s 2 0 = !repB s 2 0) := by show _ = _; unfold freeR; rw [hw]; rfl
    have HR := Lib.hid (fun w => specRepeats s 2 0 w (word_size hw) (by omega) (by omega))
    clear hw
    generalize repB s 2 0 = b at HV HR
    go_enter Try.func35, Try.ntmps35
    go_wp2_with fail
    refine (specWordOk s _).mono ?_
    rintro e w' ⟨rfl, rfl⟩
    rw [HW.out]
    go_wp2_with fail
    refine (HR.out _).mono ?_
    rintro e w2 ⟨rfl, hb⟩
    have HB := Lib.hid hb
    clear hb
    go_wp2_with fail
    go_ret
    exact ⟨ret_bool (by rw [HV.out]), HB.out⟩

set_option maxHeartbeats 400000 in
theorem specIsOverlapFree (s : ByteArray) (w : World) (_ : s.size ≤ 1048576) :
    Calls Try.prog 36 #[.string s] w fun e w' => e = .returned (.bool (freeR s 1 1)) ∧ Below w.heap.size w w' := by
  cases hw : wordB s
  · have HW := Lib.hid hw
    have HV : Hid (freeR s 1 1 = false) := by show _ = _; unfold freeR; rw [hw]; rfl
    clear hw
    go_enter Try.func36, Try.ntmps36
    go_wp2_with fail
    refine (specWordOk s _).mono ?_
    rintro e w' ⟨rfl, rfl⟩
    rw [HW.out]
    go_wp2_with fail
    go_ret
    exact ⟨ret_bool HV.out.symm, Below.refl _ _⟩
  · have HW := Lib.hid hw
    have HV : Hid (freeR s 1 1 = !repB s 1 1) := by show _ = _; unfold freeR; rw [hw]; rfl
    have HR := Lib.hid (fun w => specRepeats s 1 1 w (word_size hw) (by omega) (by omega))
    clear hw
    generalize repB s 1 1 = b at HV HR
    go_enter Try.func36, Try.ntmps36
    go_wp2_with fail
    refine (specWordOk s _).mono ?_
    rintro e w' ⟨rfl, rfl⟩
    rw [HW.out]
    go_wp2_with fail
    refine (HR.out _).mono ?_
    rintro e w2 ⟨rfl, hb⟩
    have HB := Lib.hid hb
    clear hb
    go_wp2_with fail
    go_ret
    exact ⟨ret_bool (by rw [HV.out]), HB.out⟩

theorem per_size (s : ByteArray) : PerAt s s.size := fun i h => absurd h (by omega)

set_option maxHeartbeats 1000000 in
theorem specPeriod (s : ByteArray) (w : World) (hs : s.size ≤ 400) (h1 : 1 ≤ s.size) :
    Calls Try.prog 63 #[.string s] w fun e w' => e = .returned (.int .i64 (perN s : Int)) ∧ Below w.heap.size w w' := by
  have HP : Hid (∀ q, 1 ≤ q → q ≤ s.size → PerAt s q → (∀ r, 1 ≤ r → r < q → ¬ PerAt s r) → perN s = q) := fun q a b c d => perN_spec a b c d
  generalize perN s = P at HP
  go_enter Try.func63, Try.ntmps63
  go_wp2_with fail
  go_loopg [3] s.size (fun gk pv w' => ∃ p : Nat, 1 ≤ p ∧ p ≤ s.size ∧ p + gk = s.size + 1 ∧ pv = .int .i64 (p : Int) ∧ (∀ q, 1 ≤ q → q < p → ¬ PerAt s q) ∧ Below w.heap.size w w')
  case atStart => exact ⟨1, by omega, by omega, by omega, rfl, fun q a b => absurd b (by omega), Below.refl _ _⟩
  case round =>
    obtain ⟨p, hp1, hp2, hgk, rfl, hno, hb⟩ := hrel
    obtain ⟨wo, rfl⟩ : ∃ y : World, y = wr := ⟨_, rfl⟩
    obtain ⟨g0, rfl⟩ : ∃ y : Nat, y = gk := ⟨_, rfl⟩
    have HGK := Lib.hid hgk
    have HNO := Lib.hid hno
    have HB := Lib.hid hb
    clear hno hb hgk
    go_wp2_with fail
    go_loopg [4, 5] (s.size + 1) (fun gj bv iv w' => ∃ (i : Nat) (b : Bool), bv = .bool b ∧ iv = .int .i64 (i : Int) ∧ i ≤ s.size ∧ i + gj = s.size + 1 ∧ (b = true ↔ ∀ j, j < i → j + p < s.size → s.data.toList[j]? = s.data.toList[j + p]?) ∧ Below w.heap.size w w')
    case atStart => exact ⟨0, true, rfl, rfl, by omega, by omega, ⟨fun _ j h => absurd h (by omega), fun _ => rfl⟩, HB.out⟩
    case round =>
      obtain ⟨i, b, rfl, rfl, hi, hgj, hbi, hb⟩ := hrel
      obtain ⟨wi, rfl⟩ : ∃ y : World, y = wr := ⟨_, rfl⟩
      have HGJ := Lib.hid hgj
      have HBI := Lib.hid hbi
      have HB2 := Lib.hid hb
      clear hgj hbi hb
      by_cases hip : i + p < s.size
      · have hi0 : i < s.size := by omega
        have hq1 : IntKind.i64.wrap ((i : Int) + (p : Int)) = (i : Int) + (p : Int) := IntWalk.i64_in _ (by omega)
        have hix : ∀ w : World, (Instr.index 9 (.string s) (.int .i64 (i : Int))).run Try.prog w = .ok (.int .u8 (s[i].toNat : Int)) w := fun w => index_at Try.underlying9 s _ i w hi0 rfl
        have hiy : ∀ w : World, (Instr.index 9 (.string s) (.int .i64 ((i : Int) + (p : Int)))).run Try.prog w = .ok (.int .u8 (s[i + p].toNat : Int)) w := fun w => index_at Try.underlying9 s _ (i + p) w hip (by omega)
        have HSA := Lib.hid (same_at s i (i + p) hi0 hip)
        have HST : Hid (∀ c : Bool, (c = true ↔ b = true ∧ s[i] = s[i + p]) → (c = true ↔ ∀ j, j < i + 1 → j + p < s.size → s.data.toList[j]? = s.data.toList[j + p]?)) := fun c hc => by
          rw [hc, HBI.out, ← HSA.out]
          constructor
          · rintro ⟨h1, h2⟩ j a b
            by_cases e : j = i
            · subst e; exact h2
            · exact h1 j (by omega) b
          · intro h
            exact ⟨fun j a b => h j (by omega) b, h i (by omega) (by omega)⟩
        cases b
        · have HST1 := Lib.hid (HST.out false (by simp))
          clear HST HSA
          generalize s[i] = x at hix
          generalize s[i + p] = y at hiy
          go_wp2_with fail
          go_region
          go_wp2_with fail
          go_roundg (gk - 1)
          case measure => have := HGJ.out; omega
          case rel => exact ⟨i + 1, false, rfl, by go_num, by omega, by have := HGJ.out; omega, by have := HST1.out; simpa using this, below_drewN HB2.out 1⟩
        · by_cases hc : s[i] = s[i + p]
          · have HST1 := Lib.hid (HST.out true (by simp [hc]))
            rw [← hc] at hiy
            clear HST HSA hc
            generalize s[i] = x at hix hiy
            go_wp2_with fail
            go_region
            go_wp2_with fail
            go_roundg (gk - 1)
            case measure => have := HGJ.out; omega
            case rel => exact ⟨i + 1, true, rfl, by go_num, by omega, by have := HGJ.out; omega, by have := HST1.out; simpa using this, below_drewN HB2.out 1⟩
          · have HST1 := Lib.hid (HST.out false (by simp [hc]))
            have bne : (((s[i]).toNat : Int) == ((s[i + p]).toNat : Int)) = false := (num_other _ _).2 hc
            have bne2 : ¬ (s[i]).toNat = (s[i + p]).toNat := fun h => hc (UInt8.toNat.inj h)
            clear HST HSA hc
            generalize s[i] = x at hix bne bne2
            generalize s[i + p] = y at hiy bne bne2
            go_wp2_with fail
            go_region
            go_wp2_with fail
            go_roundg (gk - 1)
            case measure => have := HGJ.out; omega
            case rel => exact ⟨i + 1, false, rfl, by go_num, by omega, by have := HGJ.out; omega, by have := HST1.out; simpa using this, below_drewN HB2.out 1⟩
      · have HPE : Hid (b = true ↔ PerAt s p) := by
          show b = true ↔ _
          rw [HBI.out]
          exact ⟨fun h j hj => h j (by omega) hj, fun h j _ hj => h j hj⟩
        cases b
        · have hnp : ¬ PerAt s p := fun h => by have := HPE.out.2 h; cases this
          have hps : p < s.size := by
            by_cases e : p = s.size
            · exact absurd (e ▸ per_size s) hnp
            · omega
          have HN2 : Hid (∀ q, 1 ≤ q → q < p + 1 → ¬ PerAt s q) := fun q a b => by
            by_cases e : q = p
            · subst e; exact hnp
            · exact HNO.out q a (by omega)
          go_wp2_with fail
          go_roundg (g0 - 1)
          case measure => have := HGK.out; omega
          case rel => exact ⟨p + 1, by omega, by omega, by have := HGK.out; omega, by go_num, HN2.out, HB2.out⟩
        · have HPP := Lib.hid (HP.out p hp1 hp2 (HPE.out.1 rfl) HNO.out)
          go_wp2_with fail
          go_ret
          exact ⟨ret_int (by rw [HPP.out]), HB2.out⟩
end Go.Proofs.Ytefdciaijjgieaa
