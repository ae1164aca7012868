/- TurnWord of the model: the letters in reverse order. Condition: a text of at most 2^20 bytes. -/
import Derived.Test.YtgekhijjeojhaaaWordOk
import Derived.Test.YtgekhijjeojhaaaBytesOwn
namespace Go.Proofs.Ytgekhijjeojhaaa
open Go.RowKit

def turnS (s : ByteArray) : ByteArray := ⟨s.data.toList.reverse.toArray⟩
theorem drop_prev (s : ByteArray) (k : Nat) (h : k < s.size) : s.data.toList.drop k = s[k] :: s.data.toList.drop (k + 1) := by
  rw [List.drop_eq_getElem_cons (by simpa using h)]
  rfl

set_option maxHeartbeats 400000 in
theorem specTurn (s : ByteArray) (w : World) (hs : s.size ≤ 1048576) :
    Calls Try.prog 53 #[.string s] w fun e w' => e = .returned (.string (turnS s)) ∧ Below w.heap.size w w' := by
  obtain ⟨i0, hi0, hz0, hz1, hz2⟩ := info_parts u8_info
  go_enter Try.func53, Try.ntmps53
  go_wp2
  go_loopw [3, 4] (fun b i w' => ∃ k : Nat, k ≤ s.size ∧ i = .int .i64 ((k : Int) - 1) ∧ w'.ownsRow w.heap.size 5 1 b (s.size - k) (byteCells (s.data.toList.drop k).reverse) ∧ Below w.heap.size w w') (fun _ i _ => (intOf i + 1).toNat)
  case atStart =>
    refine ⟨s.size, Nat.le_refl _, rfl, ?_, (Below.refl _ _).alloc (Nat.le_refl _) _⟩
    rw [Nat.sub_self, List.drop_of_length_le (by simp)]
    exact World.ownsRow_made w #[] 0 (Nat.le_refl _) (by simp [maxLen]) (by simp)
  case round =>
    obtain ⟨k, hk, rfl, ho, hb⟩ := hrel
    have HO := Lib.hid ho
    have hsz := hb.size
    clear ho
    by_cases hpos : 0 < k
    · obtain ⟨j, rfl⟩ : ∃ j, k = j + 1 := ⟨k - 1, by omega⟩
      have hj : j < s.size := by omega
      have ej : ((j + 1 : Nat) : Int) - 1 = (j : Int) := by omega
      rw [ej]
      have HD := Lib.hid (drop_prev s j hj)
      have ho := HO.out
      go_wp2_with (first
        | (at_builtin
           refine wpList_append1 _ rfl (.tmp 13) (.tmp 17) _ rfl w.heap.size 5 i0 _ 1 Try.underlying65 hi0 hz0 hz1 hz2 rfl _ (s.size - (j + 1)) _ rfl ho (.int .u8 (s[j].toNat : Int)) rfl rfl (by unfold maxLen; omega) (by omega) hsz ?_
           intro v' w1 hown1 hbel1))
      go_roundw
      case rel =>
        refine ⟨j, by omega, rfl, ?_, hb.trans hbel1⟩
        rw [HD.out, List.reverse_cons, byteCells_snoc, show s.size - j = s.size - (j + 1) + 1 from by omega]
        exact hown1
      case measure => simp [intOf]
    · have hk0 : k = 0 := by omega
      subst hk0
      have ho := HO.out
      rw [List.drop_zero] at ho
      have hconv := conv_own ho
      clear ho
      go_wp2_with fail
      go_ret
      exact ⟨rfl, hb⟩

/-- what TurnWord is to return -/
def turnR (s : ByteArray) : ByteArray := if wordB s = true then turnS s else ⟨#[]⟩
end Go.Proofs.Ytgekhijjeojhaaa
