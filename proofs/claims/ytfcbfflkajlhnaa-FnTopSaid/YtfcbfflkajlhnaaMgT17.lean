/- Texts put together. -/
import Derived.Test.YtfcbfflkajlhnaaChecked
import Derived.Test.YtfcbfflkajlhnaaMgT9
import Derived.Test.YtfcbfflkajlhnaaMgT2
import Derived.Test.YtfcbfflkajlhnaaMgT10
import Derived.Deep.QuietTactic
import Derived.BigQuiet
/- Join of the model. Condition: the elements and their number together at most 2^20, the separator too. -/
namespace Go.Proofs.Ytfcbfflkajlhnaa
open Go.RowKit

set_option maxHeartbeats 400000 in
theorem specJoin_any (l : List ByteArray) (sep : ByteArray) (v : Value) (w : World) (h1 : Lst w v (strs l)) (hn : l.length + totalS l ≤ 1048576) (hsep : sep.size ≤ 1048576) :
    Calls Try.prog 153 #[v, .string sep] w fun e w' => e = .returned (.string (joinS l sep)) ∧ w = w' := by
  obtain ⟨A, c, rfl, hc1, hc2, h1⟩ := h1
  rw [strs_length] at hc1
  rw [strs_length]
  clear hc2
  by_cases hl : l = []
  · subst hl
    have HJ := Lib.hid (joinS_nil sep)
    go_enter Try.func153, Try.ntmps153
    go_wp2
    refine wp_loop_rounds 1 ?_
    rw [rounds_succ]
    go_wp2
    go_ret
    exact ⟨ret_str HJ.out.symm, rfl⟩
  replace h1 := h1.resolve_left (by simp [strs, hl])
  obtain ⟨b, off, rfl, h1⟩ := h1
  have hpos : 0 < l.length := List.length_pos_iff.2 hl
  have H1 := Lib.hid (strs_at h1)
  have HS := Lib.hid (joinS_small l sep hn hsep)
  have hn1 : l.length ≤ 1048576 := by omega
  have HZ : Hid (∀ k (h : k < l.length), l[k].size ≤ 1048576) := fun k h => by
    have a := totalS_succ l k h
    have b := totalS_take l (k + 1)
    omega
  clear h1 hl
  go_enter Try.func153, Try.ntmps153
  go_wp2
  go_loop [5, 10] (fun s i => ∃ (k : Nat), k ≤ l.length ∧ i = .int .i64 k ∧ s = .string (joinS (l.take k) sep)) (fun _ i => l.length - (intOf i).toNat)
  case atStart => exact ⟨0, by omega, rfl, rfl⟩
  case round =>
    obtain ⟨k, hk, rfl, rfl⟩ := hrel
    by_cases hlt : k < l.length
    · have g1 := H1.out k hlt
      have g2 := HS.out k
      have g3 := HZ.out k hlt
      by_cases hk0 : 0 < k
      · have HN := Lib.hid (joinS_next l sep k hk0 hlt)
        go_wp2
        go_round
        case rel => exact ⟨k + 1, by omega, by go_num, by rw [HN.out]⟩
        case measure => simp [intOf]; omega
      · have hkz : k = 0 := by omega
        have HN := Lib.hid (joinS_first l sep k hkz hlt)
        clear hkz
        go_wp2
        go_round
        case rel => exact ⟨k + 1, by omega, by go_num, by rw [HN.out]⟩
        case measure => simp [intOf]; omega
    · have hkl : k = l.length := by omega
      subst hkl
      go_wp2
      go_ret
      exact ⟨rfl, rfl⟩
end Go.Proofs.Ytfcbfflkajlhnaa

/- What SplitAny is to give. No program in it. -/
namespace Go.Proofs.Ytfcbfflkajlhnaa
open Go.RowKit

def isSep (y : ByteArray) (c : UInt8) : Prop := ∃ i, ∃ h : i < y.size, y[i] = c
open Classical in
noncomputable def splitTo (s y : ByteArray) : Nat → List ByteArray × Nat
  | 0 => ([], 0)
  | k + 1 => if ∃ h : k < s.size, isSep y s[k] then ((splitTo s y k).1 ++ [s.extract (splitTo s y k).2 k], k + 1) else splitTo s y k
noncomputable def splitL (s y : ByteArray) : List ByteArray := (splitTo s y s.size).1 ++ [s.extract (splitTo s y s.size).2 s.size]
theorem splitTo_le (s y : ByteArray) : ∀ k, (splitTo s y k).1.length ≤ k ∧ (splitTo s y k).2 ≤ k
  | 0 => by simp [splitTo]
  | k + 1 => by
    have := splitTo_le s y k
    unfold splitTo
    split
    · simp; omega
    · omega
theorem splitTo_yes {s y : ByteArray} {k : Nat} (h : k < s.size) (hs : isSep y s[k]) : splitTo s y (k + 1) = ((splitTo s y k).1 ++ [s.extract (splitTo s y k).2 k], k + 1) := by
  rw [splitTo, if_pos ⟨h, hs⟩]
theorem splitTo_no {s y : ByteArray} {k : Nat} (h : k < s.size) (hs : ¬ isSep y s[k]) : splitTo s y (k + 1) = splitTo s y k := by
  rw [splitTo, if_neg (fun ⟨_, h2⟩ => hs h2)]
theorem splitTo_small (s y : ByteArray) : ∀ k, ∀ x ∈ (splitTo s y k).1, x.size ≤ s.size
  | 0 => by simp [splitTo]
  | k + 1 => by
    intro x hx
    unfold splitTo at hx
    split at hx
    · rcases List.mem_append.1 hx with hx | hx
      · exact splitTo_small s y k x hx
      · simp only [List.mem_singleton] at hx
        subst hx
        rw [ByteArray.size_extract]
        omega
    · exact splitTo_small s y k x hx
theorem splitL_small (s y : ByteArray) : ∀ x ∈ splitL s y, x.size ≤ s.size := by
  intro x hx
  unfold splitL at hx
  rcases List.mem_append.1 hx with hx | hx
  · exact splitTo_small s y _ x hx
  · simp only [List.mem_singleton] at hx
    subst hx
    rw [ByteArray.size_extract]
    omega
theorem splitL_length (s y : ByteArray) : (splitL s y).length ≤ s.size + 1 := by
  unfold splitL
  have := (splitTo_le s y s.size).1
  simp
  omega
theorem strs_one (l : List ByteArray) : ∀ u ∈ strs l, u.oneCell' = true := by
  intro u hu
  obtain ⟨_, _, rfl⟩ := List.mem_map.1 hu
  rfl
end Go.Proofs.Ytfcbfflkajlhnaa

/- SplitAny and SplitLines of the model and of the program return the same list of strings in a row of their own. Condition: texts of at most 2^20 bytes. -/
namespace Go.Proofs.Ytfcbfflkajlhnaa
open Go.RowKit

set_option maxHeartbeats 800000 in
theorem specSplitAny (s y : ByteArray) (w : World) (hs : s.size ≤ 1048576) (hy : y.size ≤ 1048576) :
    Calls Try.prog 140 #[.string s, .string y] w fun e w' => ∃ v, e = .returned v ∧ w'.ownsRow w.heap.size 9 1 v (splitL s y).length (strs (splitL s y)) ∧ Below w.heap.size w w' := by
  obtain ⟨i0, hi0, hz0, hz1, hz2⟩ := info_parts str_info
  go_enter Try.func140, Try.ntmps140
  go_wp2
  go_loopw [5, 6, 7] (fun o fr i w' => ∃ (k f : Nat) (ps : List ByteArray), k ≤ s.size ∧ splitTo s y k = (ps, f) ∧ i = .int .i64 k ∧ fr = .int .i64 f ∧ f ≤ k ∧ ps.length ≤ k ∧ w'.ownsRow w.heap.size 9 1 o ps.length (strs ps) ∧ Below w.heap.size w w') (fun _ _ i _ => s.size - (intOf i).toNat)
  case atStart =>
    exact ⟨0, 0, [], by omega, rfl, rfl, rfl, by omega, by simp, World.ownsRow_made w #[] 0 (Nat.le_refl _) (by simp [maxLen]) (by simp), (Below.refl _ _).alloc (Nat.le_refl _) _⟩
  case round =>
    obtain ⟨k, f, ps, hk, hsp, rfl, rfl, hfk, hpk, ho, hb⟩ := hrel
    have HSP := Lib.hid hsp
    clear hsp
    obtain ⟨wo, rfl⟩ : ∃ wo : World, wo = wr := ⟨_, rfl⟩
    obtain ⟨vo, hvo⟩ : ∃ vo : Value, vo = u5 := ⟨_, rfl⟩
    subst hvo
    have hsz := hb.size
    by_cases hlt : k < s.size
    · go_wp2
      go_loopw [5, 6, 8] (fun o fr j w' => ∃ (i n : Nat), i ≤ y.size ∧ o = vo ∧ fr = .int .i64 f ∧ j = .int .i64 i ∧ w' = wo.drewN n ∧ ∀ t (h : t < y.size), t < i → y[t] ≠ s[k]) (fun _ _ j _ => y.size - (intOf j).toNat)
      case atStart => exact ⟨0, 0, by omega, rfl, rfl, rfl, rfl, fun t _ h => absurd h (by omega)⟩
      case round =>
        obtain ⟨i, n, hi, rfl, rfl, rfl, rfl, hno⟩ := hrel
        have HNO := Lib.hid hno
        clear hno
        by_cases hlt2 : i < y.size
        · by_cases heq : y[i] = s[k]
          · have hbq : ((s[k].toNat : Int) == (y[i].toNat : Int)) = true := by rw [heq]; simp
            have HEQ := Lib.hid heq
            clear heq
            go_wp2
            go_quiet (fail)
            go_wp2_with (first
              | (at_builtin
                 refine wpList_append1 _ rfl (.tmp 29) (.tmp 34) _ rfl w.heap.size 9 i0 _ 16 Try.underlying23 hi0 hz0 hz1 hz2 rfl _ ps.length (strs ps) rfl ho (.string (s.extract f k)) rfl rfl (by unfold maxLen; omega) (by omega) hsz ?_
                 intro v' w1 hown1 hbel1))
            go_roundw
            case rel =>
              refine ⟨k + 1, k + 1, ps ++ [s.extract f k], by omega, ?_, by go_num, by go_num, by omega, by simp; omega, ?_, (below_drewN hb _).trans hbel1⟩
              · rw [splitTo_yes hlt ⟨i, hlt2, HEQ.out⟩, HSP.out]
              · rw [strs_snoc, List.length_append]
                exact hown1
            case measure => simp [intOf]; omega
          · have hbq : ((s[k].toNat : Int) == (y[i].toNat : Int)) = false := by
              rw [beq_eq_false_iff_ne]
              intro h
              exact heq (UInt8.toNat_inj.1 (by omega))
            have HEQ := Lib.hid heq
            clear heq
            go_wp2
            go_quiet (fail)
            go_wp2
            go_roundw
            case rel =>
              refine ⟨i + 1, _, by omega, rfl, rfl, by go_num, rfl, fun t h ht => ?_⟩
              by_cases e : t = i
              · subst e; exact HEQ.out
              · exact HNO.out t h (by omega)
            case measure => simp [intOf]; omega
        · go_wp2
          go_roundw
          case rel =>
            refine ⟨k + 1, f, ps, by omega, ?_, by go_num, rfl, by omega, by omega, ho, below_drewN hb _⟩
            rw [splitTo_no hlt (fun ⟨t, ht, hte⟩ => HNO.out t ht (by omega) hte)]
            exact HSP.out
          case measure => simp [intOf]; omega
    · have hks : k = s.size := by omega
      subst hks
      have hL : splitL s y = ps ++ [s.extract f s.size] := by unfold splitL; rw [HSP.out]
      have HL := Lib.hid hL
      clear hL
      go_wp2_with (first
        | (at_builtin
           refine wpList_append1 _ rfl (.tmp 38) (.tmp 42) _ rfl w.heap.size 9 i0 _ 16 Try.underlying23 hi0 hz0 hz1 hz2 rfl _ ps.length (strs ps) rfl ho _ rfl rfl (by unfold maxLen; omega) (by omega) hsz ?_
           intro v' w1 hown1 hbel1))
      go_ret
      refine ⟨_, rfl, ?_, hb.trans hbel1⟩
      rw [HL.out, strs_snoc, List.length_append]
      exact hown1
end Go.Proofs.Ytfcbfflkajlhnaa
