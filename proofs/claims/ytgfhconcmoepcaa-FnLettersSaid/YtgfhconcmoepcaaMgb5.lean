/- Texts put together. -/
import Derived.Test.YtgfhconcmoepcaaMgb1
import Derived.IntWalk
import Derived.Test.YtgfhconcmoepcaaChecked
import Derived.Test.YtgfhconcmoepcaaMgb4
import Derived.Deep.LoopGhost
import Derived.Deep.RegionHeld3
/- A letter of a text by its index. No program in it. -/
namespace Go.Proofs.Ytgfhconcmoepcaa
open Go.RowKit

theorem index_at {P : Program} {t : TypeId} (ht : P.underlying t = some .string) (s : ByteArray) (z : Int) (k : Nat) (w : World) (hk : k < s.size) (hz : z = k) : (Instr.index t (.string s) (.int .i64 z)).run P w = .ok (.int .u8 (s[k].toNat : Int)) w := by
  subst hz
  rw [run_index_string _ _ _ _ _ ht]
  simp [hk]
theorem at_list (s : ByteArray) (k : Nat) (hk : k < s.size) : s.data.toList[k]? = some s[k] := by
  rw [Array.getElem?_toList]
  exact Array.getElem?_eq_getElem hk
theorem same_at (s : ByteArray) (i j : Nat) (hi : i < s.size) (hj : j < s.size) : (s.data.toList[i]? = s.data.toList[j]?) ↔ s[i] = s[j] := by
  rw [at_list s i hi, at_list s j hj]
  exact ⟨fun h => Option.some.inj h, fun h => by rw [h]⟩
theorem num_same (a b : UInt8) : (((a.toNat : Int) == (b.toNat : Int)) = true) ↔ a = b := by
  rw [beq_iff_eq]
  exact ⟨fun h => UInt8.toNat.inj (by omega), fun h => by rw [h]⟩
theorem num_other (a b : UInt8) : (((a.toNat : Int) == (b.toNat : Int)) = false) ↔ a ≠ b := by
  rw [← Bool.not_eq_true, num_same]
end Go.Proofs.Ytgfhconcmoepcaa

/- WordOk of the model and its count of a letter. No condition but that a text has at most 2^63 bytes. -/
namespace Go.Proofs.Ytgfhconcmoepcaa
open Go.RowKit

set_option maxHeartbeats 400000 in
theorem specWordOk (s : ByteArray) (w : World) :
    Calls Try.prog 80 #[.string s] w fun e w' => e = .returned (.bool (wordB s)) ∧ w = w' := by
  by_cases hl : 400 < s.size
  · have HE := Lib.hid (word_long hl)
    go_enter Try.func80, Try.ntmps80
    go_wp2
    go_ret
    exact ⟨ret_bool HE.out.symm, rfl⟩
  have hs : s.size ≤ 400 := by omega
  go_enter Try.func80, Try.ntmps80
  go_wp2
  go_loop [3] (fun i => ∃ k : Nat, k ≤ s.size ∧ i = .int .i64 k ∧ (s.data.toList.take k).all isAbcd = true) (fun i => s.size - (intOf i).toNat)
  case atStart => exact ⟨0, Nat.zero_le _, rfl, rfl⟩
  case round =>
    obtain ⟨k, hk, rfl, ha⟩ := hrel
    have HA := Lib.hid ha
    clear ha
    by_cases hlt : k < s.size
    · by_cases h1 : s[k].toNat < 97
      · have h1' : ((s[k].toNat : Int) < 97) := by omega
        have HN := Lib.hid (word_not (s := s) k hlt (by simp [isAbcd]; omega))
        go_wp2
        go_ret
        exact ⟨ret_bool HN.out.symm, rfl⟩
      · by_cases h2 : 100 < s[k].toNat
        · have h1' : ¬ ((s[k].toNat : Int) < 97) := by omega
          have h2' : ((100 : Int) < s[k].toNat) := by omega
          have HN := Lib.hid (word_not (s := s) k hlt (by simp [isAbcd]; omega))
          go_wp2
          go_ret
          exact ⟨ret_bool HN.out.symm, rfl⟩
        · have h1' : ¬ ((s[k].toNat : Int) < 97) := by omega
          have h2' : ¬ ((100 : Int) < s[k].toNat) := by omega
          go_wp2
          go_round
          case rel => exact ⟨k + 1, by omega, by go_num, all_snoc s k hlt HA.out (by simp [isAbcd]; omega)⟩
          case measure => simp [intOf]; omega
    · have hk' : k = s.size := by omega
      subst hk'
      have HY := Lib.hid (word_yes hs HA.out)
      go_wp2
      go_ret
      exact ⟨ret_bool HY.out.symm, rfl⟩

end Go.Proofs.Ytgfhconcmoepcaa

/- Chapter 8 of the model: repetitions. Conditions: lengths of at most 2^20. -/
namespace Go.Proofs.Ytgfhconcmoepcaa
open Go.RowKit

/-- the letters ahead of i that agree with those p further on, as far back as they do -/
def RunOk (s : ByteArray) (p run i : Nat) : Prop := run ≤ i ∧ (∀ j, i - run ≤ j → j < i → s.data.toList[j]? = s.data.toList[j + p]?) ∧ (run < i → s.data.toList[i - run - 1]? ≠ s.data.toList[i - run - 1 + p]?)
def NoRun (s : ByteArray) (m p i : Nat) : Prop := ∀ k, k + m ≤ i → ¬ RunAt s m p k
theorem run_start (s : ByteArray) (p : Nat) : RunOk s p 0 0 := ⟨Nat.le_refl _, fun j _ h => absurd h (by omega), fun h => absurd h (by omega)⟩
theorem norun_start (s : ByteArray) (m p : Nat) (hm : 1 ≤ m) : NoRun s m p 0 := fun k h => absurd h (by omega)
theorem run_yes {s : ByteArray} {p run i : Nat} (h : RunOk s p run i) (he : s.data.toList[i]? = s.data.toList[i + p]?) : RunOk s p (run + 1) (i + 1) := by
  obtain ⟨h1, h2, h3⟩ := h
  refine ⟨by omega, fun j a b => ?_, fun hl => ?_⟩
  · by_cases e : j = i
    · subst e; exact he
    · exact h2 j (by omega) (by omega)
  · rw [show i + 1 - (run + 1) - 1 = i - run - 1 by omega]
    exact h3 (by omega)
theorem run_no {s : ByteArray} {p i : Nat} (he : s.data.toList[i]? ≠ s.data.toList[i + p]?) : RunOk s p 0 (i + 1) :=
  ⟨by omega, fun j a b => absurd b (by omega), fun _ => by rw [show i + 1 - 0 - 1 = i by omega]; exact he⟩
theorem norun_yes {s : ByteArray} {m p run i : Nat} (h : RunOk s p run i) (hn : NoRun s m p i) (hr : run + 1 < m) : NoRun s m p (i + 1) := by
  intro k hk hrn
  by_cases e : k + m ≤ i
  · exact hn k e hrn
  · have hki : k = i + 1 - m := by omega
    have h3 := h.2.2 (by omega)
    have := hrn.2 (i - run - 1 - k) (by omega)
    rw [show k + (i - run - 1 - k) = i - run - 1 by omega, show k + p + (i - run - 1 - k) = i - run - 1 + p by omega] at this
    exact h3 this
theorem norun_no {s : ByteArray} {m p i : Nat} (hm : 1 ≤ m) (hn : NoRun s m p i) (he : s.data.toList[i]? ≠ s.data.toList[i + p]?) : NoRun s m p (i + 1) := by
  intro k hk hrn
  by_cases e : k + m ≤ i
  · exact hn k e hrn
  · have := hrn.2 (i - k) (by omega)
    rw [show k + (i - k) = i by omega, show k + p + (i - k) = i + p by omega] at this
    exact he this
theorem run_found {s : ByteArray} {p run i : Nat} (h : RunOk s p run i) (he : s.data.toList[i]? = s.data.toList[i + p]?) (hi : i + p < s.size) : RunAt s (run + 1) p (i - run) := by
  have h' := run_yes h he
  refine ⟨by have := h.1; omega, fun j hj => ?_⟩
  have := h'.2.1 (i - run + j) (by omega) (by have := h.1; omega)
  rw [this]
  congr 1
  omega

end Go.Proofs.Ytgfhconcmoepcaa

/- Chapter 8 of the model: IsSquareFree, IsCubeFree, IsOverlapFree, LeastPeriod, LongestRun. Conditions: lengths of at most 2^20. -/
namespace Go.Proofs.Ytgfhconcmoepcaa
open Go.RowKit
theorem per_size (s : ByteArray) : PerAt s s.size := fun i h => absurd h (by omega)

end Go.Proofs.Ytgfhconcmoepcaa
