/- TurnWord of the program: the letters in reverse order. Condition: a text of at most 2^20 bytes. -/
import Derived.Test.YtgekhijjeojhaaaTurn
import Derived.Test.YtgekhijjeojhaaaWordOkI
import Derived.OwnWalk
namespace Go.Proofs.Ytgekhijjeojhaaa
open Go.RowKit

theorem turn_at (s : ByteArray) (k : Nat) (hk : k < s.size) (hk' : k < (turnS s).data.toList.length) : (turnS s).data.toList[k] = s[s.size - 1 - k]'(by omega) := by
  have : (turnS s).data.toList[k] = s.data.toList.reverse[k]'(by simpa using hk) := by simp [turnS]
  rw [this, List.getElem_reverse]
  simp
  rfl

set_option maxHeartbeats 400000 in
theorem implTurned (s : ByteArray) (w : World) (h : s.size ≤ 400) :
    Calls Try.prog 54 #[.string s] w fun e w' => e = .returned (.string (turnS s)) ∧ Below w.heap.size w w' := by
  obtain ⟨i0, hi0, hz0, hz1, hz2⟩ := info_parts u8_info
  go_enter Try.func54, Try.ntmps54
  go_wp2_with (at_make; refine wpList_make_full _ rfl _ _ 65 rfl w.heap.size 5 i0 (.int .u8 0) 1 Try.underlying65 hi0 hz0 hz1 .i64 .i64 _ _ s.size rfl rfl rfl rfl (by rw [hz2]; omega) (by unfold maxLen; omega) (Nat.le_refl _) ?_; intro w1 hown hgrow)
  have hb1 : Below w.heap.size w w1 := (Below.refl _ _).grown hgrow (Nat.le_refl _) (fun k hk => by cases hk)
  have HL : Hid ((turnS s).data.toList.length = s.size) := by unfold Hid; simp [turnS]
  have HD : Hid (((madeCells (Value.int .u8 0).cells (s.size * 1)).toList).length = (turnS s).data.toList.length) := by
    have := hown.1
    have := HL.out
    unfold Hid
    omega
  have HT := Lib.hid (turn_at s)
  generalize (madeCells (Value.int .u8 0).cells (s.size * 1)).toList = zs at hown HD
  have HTS : Hid ((⟨(turnS s).data.toList.toArray⟩ : ByteArray) = turnS s) := by unfold Hid; simp
  generalize hLL : (turnS s).data.toList = L at HL HD HT HTS
  clear hLL
  go_loopw [10] (fun i w' => ∃ (k : Nat), k ≤ s.size ∧ i = .int .i64 k ∧ w'.ownsRow w.heap.size 5 1 (.slice (some ⟨w.heap.size, 0, none⟩) s.size s.size) s.size (byteCells (L.take k) ++ zs.drop k) ∧ Below w.heap.size w w') (fun i _ => s.size - (intOf i).toNat)
  case atStart => exact ⟨0, by omega, rfl, by simpa [byteCells] using hown, hb1⟩
  case round =>
    obtain ⟨k, hk, rfl, ho, hbk⟩ := hrel
    by_cases hlt : k < s.size
    · have hkL : k < L.length := by rw [HL.out]; exact hlt
      obtain ⟨u, hu⟩ := byteCells_get L zs k hkL HD.out
      have g2 := (ho.cellAt k (by omega)).trans hu
      have g3 := ho.frozenAt k
      have hs' := byteCells_set L zs k hkL HD.out
      rw [HT.out k hlt hkL] at hs'
      have HS := Lib.hid hs'
      have j1 : (s.size : Int) - 1 - k = ((s.size - 1 - k : Nat) : Int) := by omega
      have j2 : s.size - 1 - k < s.size := by omega
      clear hu hkL hs'
      go_wp2_with fail
      go_roundw
      case rel =>
        refine ⟨k + 1, by omega, by go_num, ?_, hbk.setCell (Nat.le_refl _) _⟩
        have := (ho.stored k (.int .u8 (s[s.size - 1 - k].toNat : Int))).1
        rwa [HS.out] at this
      case measure => simp [intOf]; omega
    · have hkl : k = s.size := by omega
      subst hkl
      have ho' : wr.ownsRow w.heap.size 5 1 (.slice (some ⟨w.heap.size, 0, none⟩) s.size s.size) s.size (byteCells L) := by
        rw [← HL.out, byteCells_end L zs HD.out] at ho
        rw [HL.out] at ho
        exact ho
      have hconv := conv_own_to Try.underlying50 ho'
      rw [HTS.out] at hconv
      clear ho ho'
      go_wp2_with fail
      go_ret
      exact ⟨rfl, hbk⟩

end Go.Proofs.Ytgekhijjeojhaaa
