/- Join of the model. Condition: the elements and their number together at most 2^20, the separator too. -/
import Derived.Test.YtgekhijjeojhaaaChecked
import Derived.Test.YtgekhijjeojhaaaJoinP
namespace Go.Proofs.Ytgekhijjeojhaaa
open Go.RowKit

set_option maxHeartbeats 400000 in
theorem specJoin_any (l : List ByteArray) (sep : ByteArray) (v : Value) (w : World) (h1 : Lst w v (strs l)) (hn : l.length + totalS l ≤ 1048576) (hsep : sep.size ≤ 1048576) :
    Calls Try.prog 55 #[v, .string sep] w fun e w' => e = .returned (.string (joinS l sep)) ∧ w = w' := by
  obtain ⟨A, c, rfl, hc1, hc2, h1⟩ := h1
  rw [strs_length] at hc1
  rw [strs_length]
  clear hc2
  by_cases hl : l = []
  · subst hl
    have HJ := Lib.hid (joinS_nil sep)
    go_enter Try.func55, Try.ntmps55
    go_wp2
    refine wp_loop_rounds 1 ?_
    rw [rounds_succ]
    go_wp2
    go_ret
    exact ⟨ret_str HJ.out.symm, rfl⟩
  replace h1 := h1.resolve_left (by simp [strs, hl])
  obtain ⟨b, off, rfl, h1⟩ := h1
  have hpos : 0 < l.length := List.length_pos_iff.2 hl
  have H1 := Lib.hid (strs_at h1)
  have HS := Lib.hid (joinS_small l sep hn hsep)
  have hn1 : l.length ≤ 1048576 := by omega
  have HZ : Hid (∀ k (h : k < l.length), l[k].size ≤ 1048576) := fun k h => by
    have a := totalS_succ l k h
    have b := totalS_take l (k + 1)
    omega
  clear h1 hl
  go_enter Try.func55, Try.ntmps55
  go_wp2
  go_loop [5, 10] (fun s i => ∃ (k : Nat), k ≤ l.length ∧ i = .int .i64 k ∧ s = .string (joinS (l.take k) sep)) (fun _ i => l.length - (intOf i).toNat)
  case atStart => exact ⟨0, by omega, rfl, rfl⟩
  case round =>
    obtain ⟨k, hk, rfl, rfl⟩ := hrel
    by_cases hlt : k < l.length
    · have g1 := H1.out k hlt
      have g2 := HS.out k
      have g3 := HZ.out k hlt
      by_cases hk0 : 0 < k
      · have HN := Lib.hid (joinS_next l sep k hk0 hlt)
        go_wp2
        go_round
        case rel => exact ⟨k + 1, by omega, by go_num, by rw [HN.out]⟩
        case measure => simp [intOf]; omega
      · have hkz : k = 0 := by omega
        have HN := Lib.hid (joinS_first l sep k hkz hlt)
        clear hkz
        go_wp2
        go_round
        case rel => exact ⟨k + 1, by omega, by go_num, by rw [HN.out]⟩
        case measure => simp [intOf]; omega
    · have hkl : k = l.length := by omega
      subst hkl
      go_wp2
      go_ret
      exact ⟨rfl, rfl⟩
end Go.Proofs.Ytgekhijjeojhaaa
