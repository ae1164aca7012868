/- SplitAny and SplitLines of the model and of the program return the same list of strings in a row of their own. Condition: texts of at most 2^20 bytes. -/
import Derived.Test.YtgekhijjeojhaaaStrInfo
import Derived.Test.YtgekhijjeojhaaaSplitP
import Derived.Deep.QuietTactic
import Derived.BigQuiet
namespace Go.Proofs.Ytgekhijjeojhaaa
open Go.RowKit

set_option maxHeartbeats 800000 in
theorem specSplitAny (s y : ByteArray) (w : World) (hs : s.size ≤ 1048576) (hy : y.size ≤ 1048576) :
    Calls Try.prog 57 #[.string s, .string y] w fun e w' => ∃ v, e = .returned v ∧ w'.ownsRow w.heap.size 9 1 v (splitL s y).length (strs (splitL s y)) ∧ Below w.heap.size w w' := by
  obtain ⟨i0, hi0, hz0, hz1, hz2⟩ := info_parts str_info
  go_enter Try.func57, Try.ntmps57
  go_wp2
  go_loopw [5, 6, 7] (fun o fr i w' => ∃ (k f : Nat) (ps : List ByteArray), k ≤ s.size ∧ splitTo s y k = (ps, f) ∧ i = .int .i64 k ∧ fr = .int .i64 f ∧ f ≤ k ∧ ps.length ≤ k ∧ w'.ownsRow w.heap.size 9 1 o ps.length (strs ps) ∧ Below w.heap.size w w') (fun _ _ i _ => s.size - (intOf i).toNat)
  case atStart =>
    exact ⟨0, 0, [], by omega, rfl, rfl, rfl, by omega, by simp, World.ownsRow_made w #[] 0 (Nat.le_refl _) (by simp [maxLen]) (by simp), (Below.refl _ _).alloc (Nat.le_refl _) _⟩
  case round =>
    obtain ⟨k, f, ps, hk, hsp, rfl, rfl, hfk, hpk, ho, hb⟩ := hrel
    have HSP := Lib.hid hsp
    clear hsp
    obtain ⟨wo, rfl⟩ : ∃ wo : World, wo = wr := ⟨_, rfl⟩
    obtain ⟨vo, hvo⟩ : ∃ vo : Value, vo = u5 := ⟨_, rfl⟩
    subst hvo
    have hsz := hb.size
    by_cases hlt : k < s.size
    · go_wp2
      go_loopw [5, 6, 8] (fun o fr j w' => ∃ (i n : Nat), i ≤ y.size ∧ o = vo ∧ fr = .int .i64 f ∧ j = .int .i64 i ∧ w' = wo.drewN n ∧ ∀ t (h : t < y.size), t < i → y[t] ≠ s[k]) (fun _ _ j _ => y.size - (intOf j).toNat)
      case atStart => exact ⟨0, 0, by omega, rfl, rfl, rfl, rfl, fun t _ h => absurd h (by omega)⟩
      case round =>
        obtain ⟨i, n, hi, rfl, rfl, rfl, rfl, hno⟩ := hrel
        have HNO := Lib.hid hno
        clear hno
        by_cases hlt2 : i < y.size
        · by_cases heq : y[i] = s[k]
          · have hbq : ((s[k].toNat : Int) == (y[i].toNat : Int)) = true := by rw [heq]; simp
            have HEQ := Lib.hid heq
            clear heq
            go_wp2
            go_quiet (fail)
            go_wp2_with (first
              | (at_builtin
                 refine wpList_append1 _ rfl (.tmp 29) (.tmp 34) _ rfl w.heap.size 9 i0 _ 16 Try.underlying22 hi0 hz0 hz1 hz2 rfl _ ps.length (strs ps) rfl ho (.string (s.extract f k)) rfl rfl (by unfold maxLen; omega) (by omega) hsz ?_
                 intro v' w1 hown1 hbel1))
            go_roundw
            case rel =>
              refine ⟨k + 1, k + 1, ps ++ [s.extract f k], by omega, ?_, by go_num, by go_num, by omega, by simp; omega, ?_, (below_drewN hb _).trans hbel1⟩
              · rw [splitTo_yes hlt ⟨i, hlt2, HEQ.out⟩, HSP.out]
              · rw [strs_snoc, List.length_append]
                exact hown1
            case measure => simp [intOf]; omega
          · have hbq : ((s[k].toNat : Int) == (y[i].toNat : Int)) = false := by
              rw [beq_eq_false_iff_ne]
              intro h
              exact heq (UInt8.toNat_inj.1 (by omega))
            have HEQ := Lib.hid heq
            clear heq
            go_wp2
            go_quiet (fail)
            go_wp2
            go_roundw
            case rel =>
              refine ⟨i + 1, _, by omega, rfl, rfl, by go_num, rfl, fun t h ht => ?_⟩
              by_cases e : t = i
              · subst e; exact HEQ.out
              · exact HNO.out t h (by omega)
            case measure => simp [intOf]; omega
        · go_wp2
          go_roundw
          case rel =>
            refine ⟨k + 1, f, ps, by omega, ?_, by go_num, rfl, by omega, by omega, ho, below_drewN hb _⟩
            rw [splitTo_no hlt (fun ⟨t, ht, hte⟩ => HNO.out t ht (by omega) hte)]
            exact HSP.out
          case measure => simp [intOf]; omega
    · have hks : k = s.size := by omega
      subst hks
      have hL : splitL s y = ps ++ [s.extract f s.size] := by unfold splitL; rw [HSP.out]
      have HL := Lib.hid hL
      clear hL
      go_wp2_with (first
        | (at_builtin
           refine wpList_append1 _ rfl (.tmp 38) (.tmp 42) _ rfl w.heap.size 9 i0 _ 16 Try.underlying22 hi0 hz0 hz1 hz2 rfl _ ps.length (strs ps) rfl ho _ rfl rfl (by unfold maxLen; omega) (by omega) hsz ?_
           intro v' w1 hown1 hbel1))
      go_ret
      refine ⟨_, rfl, ?_, hb.trans hbel1⟩
      rw [HL.out, strs_snoc, List.length_append]
      exact hown1
end Go.Proofs.Ytgekhijjeojhaaa
