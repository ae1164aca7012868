/- Texts put together. -/
import Derived.Test.YtgfhconcmoepcaaMga1
import Derived.Test.YtgfhconcmoepcaaMga7
import Derived.Test.YtgfhconcmoepcaaMga12
import Derived.Test.YtgfhconcmoepcaaMga2
import Derived.Test.YtgfhconcmoepcaaMga4
import Derived.Laws.Cover1
import Derived.Deep.CutBlock
import Derived.Test.YtgfhconcmoepcaaMga9
import Derived.Test.YtgfhconcmoepcaaMga3
import Derived.BigQuiet
/- What SplitAny is to give. No program in it. -/
namespace Go.Proofs.Ytgfhconcmoepcaa
open Go.RowKit

def isSep (y : ByteArray) (c : UInt8) : Prop := ∃ i, ∃ h : i < y.size, y[i] = c
open Classical in
noncomputable def splitTo (s y : ByteArray) : Nat → List ByteArray × Nat
  | 0 => ([], 0)
  | k + 1 => if ∃ h : k < s.size, isSep y s[k] then ((splitTo s y k).1 ++ [s.extract (splitTo s y k).2 k], k + 1) else splitTo s y k
noncomputable def splitL (s y : ByteArray) : List ByteArray := (splitTo s y s.size).1 ++ [s.extract (splitTo s y s.size).2 s.size]
theorem splitTo_le (s y : ByteArray) : ∀ k, (splitTo s y k).1.length ≤ k ∧ (splitTo s y k).2 ≤ k
  | 0 => by simp [splitTo]
  | k + 1 => by
    have := splitTo_le s y k
    unfold splitTo
    split
    · simp; omega
    · omega
theorem splitTo_yes {s y : ByteArray} {k : Nat} (h : k < s.size) (hs : isSep y s[k]) : splitTo s y (k + 1) = ((splitTo s y k).1 ++ [s.extract (splitTo s y k).2 k], k + 1) := by
  rw [splitTo, if_pos ⟨h, hs⟩]
theorem splitTo_no {s y : ByteArray} {k : Nat} (h : k < s.size) (hs : ¬ isSep y s[k]) : splitTo s y (k + 1) = splitTo s y k := by
  rw [splitTo, if_neg (fun ⟨_, h2⟩ => hs h2)]
theorem splitTo_small (s y : ByteArray) : ∀ k, ∀ x ∈ (splitTo s y k).1, x.size ≤ s.size
  | 0 => by simp [splitTo]
  | k + 1 => by
    intro x hx
    unfold splitTo at hx
    split at hx
    · rcases List.mem_append.1 hx with hx | hx
      · exact splitTo_small s y k x hx
      · simp only [List.mem_singleton] at hx
        subst hx
        rw [ByteArray.size_extract]
        omega
    · exact splitTo_small s y k x hx
theorem splitL_small (s y : ByteArray) : ∀ x ∈ splitL s y, x.size ≤ s.size := by
  intro x hx
  unfold splitL at hx
  rcases List.mem_append.1 hx with hx | hx
  · exact splitTo_small s y _ x hx
  · simp only [List.mem_singleton] at hx
    subst hx
    rw [ByteArray.size_extract]
    omega
theorem splitL_length (s y : ByteArray) : (splitL s y).length ≤ s.size + 1 := by
  unfold splitL
  have := (splitTo_le s y s.size).1
  simp
  omega
theorem strs_one (l : List ByteArray) : ∀ u ∈ strs l, u.oneCell' = true := by
  intro u hu
  obtain ⟨_, _, rfl⟩ := List.mem_map.1 hu
  rfl
end Go.Proofs.Ytgfhconcmoepcaa

/- The factors of a fixed point, of the model. Conditions: lengths of at most 2^20. -/
namespace Go.Proofs.Ytgfhconcmoepcaa
open Go.RowKit

theorem own_str_at {w : World} {B g cp n : Nat} {m : List ByteArray} (h : w.ownsRow B 9 1 (.slice (some ⟨g, 0, none⟩) n cp) n (strs m)) (k : Nat) (hk : k < m.length) : w.cell? ⟨g, k, none⟩ = some (.string m[k]) := by
  have := h.cells (g := g) rfl k (.string m[k]) (by simp [strs, hk])
  rwa [Addr.add_lit, Nat.zero_add] at this
theorem sizeOf_strs (w : World) : (sizeOf (Try.prog.elem 31)).run Try.prog w = .ok 1 w := by kernel_rfl
end Go.Proofs.Ytgfhconcmoepcaa

/- Chapter 8 of the model: SquaresIn, FirstSquare, l07Ends. Conditions: lengths of at most 2^20. -/
namespace Go.Proofs.Ytgfhconcmoepcaa
open Go.RowKit Go.Lib

theorem slice_gen {P : Program} {t : TypeId} (ht : P.underlying t = some .string) (s : ByteArray) (a b : Int) (x y : Nat) (w : World) (ha : a = x) (hb : b = y) (h : x ≤ y) (h2 : y ≤ s.size) :
    (Instr.slice t (.string s) (some (.int .i64 a)) (some (.int .i64 b)) none).run P w = .ok (.string (s.extract x y)) w := by
  obtain ⟨n, rfl⟩ : ∃ n, y = x + n := ⟨y - x, by omega⟩
  have := slice_at (P := P) ht s x n w (by omega)
  rw [ha, hb, Int.natCast_add]
  exact this
theorem pwRow_yes {s : ByteArray} {i j : Nat} {l : List ByteArray} (hi : i + 2 * (j + 1) ≤ s.size) (h : s.extract i (i + (j + 1)) = s.extract (i + (j + 1)) (i + 2 * (j + 1))) : pwRow s i l (j + 1) = insL (pwRow s i l j) (s.extract i (i + 2 * (j + 1))) :=
  if_pos ((pwB_iff _ _ _).2 ⟨by omega, hi, h⟩)
theorem pwRow_no {s : ByteArray} {i j : Nat} {l : List ByteArray} (h : s.extract i (i + (j + 1)) ≠ s.extract (i + (j + 1)) (i + 2 * (j + 1))) : pwRow s i l (j + 1) = pwRow s i l j :=
  if_neg (fun hh => h ((pwB_iff _ _ _).1 hh).2.2)
theorem eq_bytes {x y : ByteArray} (h : x = y) : (x.toList == y.toList) = true := by rw [h]; simp
theorem ne_bytes {x y : ByteArray} (h : x ≠ y) : (x.toList == y.toList) = false := by
  rw [beq_eq_false_iff_ne]
  exact fun e => h (bytes_ext e)

end Go.Proofs.Ytgfhconcmoepcaa

/- Chapter 10 of the model: BordersOf, PeriodsOf, RootOf, IsPrimitiveWord. Conditions: lengths of at most 2^20. -/
namespace Go.Proofs.Ytgfhconcmoepcaa
open Go.RowKit

theorem cut_lo {P : Program} {t : TypeId} (ht : P.underlying t = some .string) (s : ByteArray) (b : Int) (y : Nat) (w : World) (hb : b = y) (h : y ≤ s.size) :
    (Instr.slice t (.string s) none (some (.int .i64 b)) none).run P w = .ok (.string (s.extract 0 y)) w := by
  subst hb
  rw [run_slice_string_to_if (P := P) w t s .i64 (y : Int) ht, if_pos (by omega)]
  rfl
theorem cut_hi {P : Program} {t : TypeId} (ht : P.underlying t = some .string) (s : ByteArray) (b : Int) (y : Nat) (w : World) (hb : b = y) (h : y ≤ s.size) :
    (Instr.slice t (.string s) (some (.int .i64 b)) none none).run P w = .ok (.string (s.extract y s.size)) w := by
  subst hb
  rw [run_slice_string_from_if (P := P) w t s .i64 (y : Int) ht, if_pos (by omega)]
  rfl

set_option maxRecDepth 100000 in
set_option maxHeartbeats 1000000 in
theorem specBordersOf (s : ByteArray) (w : World) (_ : s.size ≤ 1048576) :
    Calls Try.prog 43 #[.string s] w fun e w' => ∃ v, e = .returned v ∧ w'.ownsRow w.heap.size 3 1 v (boR s).length (ints (boR s)) ∧ Below w.heap.size w w' := by
  obtain ⟨i0, hi0, hz0, hz1, hz2⟩ := info_parts int_info
  cases hw : wordB s
  · have HW := Lib.hid hw
    have hv : boR s = [] := if_neg (by rw [hw]; decide)
    rw [hv]
    clear hw hv
    go_enter Try.func43, Try.ntmps43
    go_wp2_with fail
    refine (specWordOk s _).mono ?_
    rintro e w' ⟨rfl, rfl⟩
    rw [HW.out]
    go_wp2_with fail
    go_ret
    exact ⟨_, rfl, World.ownsRow_nil _ _ _ _, Below.refl _ _⟩
  have HW := Lib.hid hw
  have h4 := word_size hw
  have HV : Hid (boR s = boTo s (s.size - 1)) := if_pos hw
  clear hw
  go_enter Try.func43, Try.ntmps43
  go_wp2_with fail
  refine (specWordOk s _).mono ?_
  rintro e w' ⟨rfl, rfl⟩
  rw [HW.out]
  go_wp2_with fail
  go_loopw [3, 4] (fun o i w' => ∃ k : Nat, k ≤ s.size - 1 ∧ i = .int .i64 ((k : Int) + 1) ∧ (∃ A cp, o = .slice A (boTo s k).length cp) ∧ w'.ownsRow w.heap.size 3 1 o (boTo s k).length (ints (boTo s k)) ∧ Below w.heap.size w w') (fun _ i _ => s.size + 1 - (intOf i).toNat)
  case atStart => exact ⟨0, by omega, rfl, ⟨_, _, rfl⟩, World.ownsRow_made w #[] 0 (Nat.le_refl _) (by simp [maxLen]) (by simp), (Below.refl _ _).alloc (Nat.le_refl _) _⟩
  case round =>
    obtain ⟨k, hk, rfl, ⟨A, cp, rfl⟩, ho, hb⟩ := hrel
    have HO := Lib.hid ho
    have HB := Lib.hid hb
    have hbl := boTo_len s k
    clear ho hb
    by_cases hlt : k + 1 < s.size
    · have e1 : IntKind.i64.wrap ((s.size : Int) - ((k : Int) + 1)) = ((s.size - (k + 1) : Nat) : Int) := by rw [IntWalk.i64_in _ (by omega)]; omega
      have hlo : ∀ w : World, (Instr.slice 9 (.string s) none (some (.int .i64 ((k : Int) + 1))) none).run Try.prog w = .ok (.string (s.extract 0 (k + 1))) w := fun w => cut_lo Try.underlying9 s _ (k + 1) w (by omega) (by omega)
      have hhi : ∀ w : World, (Instr.slice 9 (.string s) (some (.int .i64 ((s.size - (k + 1) : Nat) : Int))) none none).run Try.prog w = .ok (.string (s.extract (s.size - (k + 1)) s.size)) w := fun w => cut_hi Try.underlying9 s _ (s.size - (k + 1)) w rfl (by omega)
      have hlt2 : (k : Int) + 1 < (s.size : Int) := by omega
      cases hbb : borB s (k + 1)
      · have HN := Lib.hid (boTo_no hbb)
        have bq := ne_bytes (show s.extract 0 (k + 1) ≠ s.extract (s.size - (k + 1)) s.size from fun e => by rw [(borB_iff s (k + 1)).2 e] at hbb; cases hbb)
        clear hbb
        generalize s.extract 0 (k + 1) = x1 at hlo bq
        generalize s.extract (s.size - (k + 1)) s.size = x2 at hhi bq
        go_wp2_with fail
        go_quiet (fail)
        go_wp2_with fail
        go_roundw
        case rel => exact ⟨k + 1, by omega, by go_num, ⟨A, cp, by rw [HN.out]⟩, by rw [HN.out]; exact HO.out, below_drewN HB.out _⟩
        case measure => simp [intOf]; omega
      · have HY := Lib.hid (boTo_yes hbb)
        have bq := eq_bytes ((borB_iff s (k + 1)).1 hbb)
        have hbz := HB.out.size
        clear hbb
        generalize s.extract 0 (k + 1) = x1 at hlo bq
        generalize s.extract (s.size - (k + 1)) s.size = x2 at hhi bq
        go_wp2_with fail
        go_quiet (fail)
        have HO2 := Lib.hid (show (wr.drewN nq).ownsRow w.heap.size 3 1 (.slice A (boTo s k).length cp) (boTo s k).length (ints (boTo s k)) from HO.out)
        go_wp2_with (at_builtin
                     refine wpList_append1 (wr.drewN nq) rfl (.tmp 25) (.tmp 27) _ rfl w.heap.size 3 i0 _ 8 Try.underlying24 hi0 hz0 hz1 hz2 rfl (.slice A (boTo s k).length cp) (boTo s k).length (ints (boTo s k)) rfl HO2.out (.int .i64 ((k : Int) + 1)) rfl rfl (by unfold maxLen; omega) (by omega) hbz ?_
                     intro v' w1 hown1 hbel1)
        have ho' : w1.ownsRow w.heap.size 3 1 v' (boTo s (k + 1)).length (ints (boTo s (k + 1))) := by
          rw [HY.out, List.length_append, ints_snoc]
          exact hown1
        obtain ⟨A5, cp5, rfl⟩ := own_slice ho'
        go_roundw
        case rel => exact ⟨k + 1, by omega, by go_num, ⟨A5, cp5, by rw [HY.out, List.length_append]⟩, ho', (below_drewN HB.out nq).trans hbel1⟩
        case measure => simp [intOf]; omega
    · have hlt2 : ¬ (k : Int) + 1 < (s.size : Int) := by omega
      have hk1 : k = s.size - 1 := by omega
      have HV2 : Hid (boR s = boTo s k) := by show _ = _; rw [HV.out, hk1]
      clear hk1
      go_wp2_with fail
      go_ret
      exact ⟨_, rfl, by rw [HV2.out]; exact HO.out, HB.out⟩
set_option maxRecDepth 100000 in
set_option maxHeartbeats 1000000 in
theorem specPeriodsOf (s : ByteArray) (w : World) (_ : s.size ≤ 1048576) :
    Calls Try.prog 47 #[.string s] w fun e w' => ∃ v, e = .returned v ∧ w'.ownsRow w.heap.size 3 1 v (peR s).length (ints (peR s)) ∧ Below w.heap.size w w' := by
  obtain ⟨i0, hi0, hz0, hz1, hz2⟩ := info_parts int_info
  cases hw : wordB s
  · have HW := Lib.hid hw
    have hv : peR s = [] := if_neg (by rw [hw]; decide)
    rw [hv]
    clear hw hv
    go_enter Try.func47, Try.ntmps47
    go_wp2_with fail
    refine (specWordOk s _).mono ?_
    rintro e w' ⟨rfl, rfl⟩
    rw [HW.out]
    go_wp2_with fail
    go_ret
    exact ⟨_, rfl, World.ownsRow_nil _ _ _ _, Below.refl _ _⟩
  have HW := Lib.hid hw
  have h4 := word_size hw
  have HV : Hid (peR s = peTo s s.size) := if_pos hw
  clear hw
  go_enter Try.func47, Try.ntmps47
  go_wp2_with fail
  refine (specWordOk s _).mono ?_
  rintro e w' ⟨rfl, rfl⟩
  rw [HW.out]
  go_wp2_with fail
  go_loopw [3, 4] (fun o i w' => ∃ k : Nat, k ≤ s.size ∧ i = .int .i64 ((k : Int) + 1) ∧ (∃ A cp, o = .slice A (peTo s k).length cp) ∧ w'.ownsRow w.heap.size 3 1 o (peTo s k).length (ints (peTo s k)) ∧ Below w.heap.size w w') (fun _ i _ => s.size + 1 - (intOf i).toNat)
  case atStart => exact ⟨0, by omega, rfl, ⟨_, _, rfl⟩, World.ownsRow_made w #[] 0 (Nat.le_refl _) (by simp [maxLen]) (by simp), (Below.refl _ _).alloc (Nat.le_refl _) _⟩
  case round =>
    obtain ⟨k, hk, rfl, ⟨A, cp, rfl⟩, ho, hb⟩ := hrel
    have HO := Lib.hid ho
    have HB := Lib.hid hb
    have hbl := peTo_len s k
    clear ho hb
    by_cases hlt : k + 1 ≤ s.size
    · have e1 : IntKind.i64.wrap ((s.size : Int) - ((k : Int) + 1)) = ((s.size - (k + 1) : Nat) : Int) := by rw [IntWalk.i64_in _ (by omega)]; omega
      have hlo : ∀ w : World, (Instr.slice 9 (.string s) none (some (.int .i64 ((s.size - (k + 1) : Nat) : Int))) none).run Try.prog w = .ok (.string (s.extract 0 (s.size - (k + 1)))) w := fun w => cut_lo Try.underlying9 s _ (s.size - (k + 1)) w rfl (by omega)
      have hhi : ∀ w : World, (Instr.slice 9 (.string s) (some (.int .i64 ((k : Int) + 1))) none none).run Try.prog w = .ok (.string (s.extract (k + 1) s.size)) w := fun w => cut_hi Try.underlying9 s _ (k + 1) w (by omega) (by omega)
      have hlt2 : (k : Int) + 1 ≤ (s.size : Int) := by omega
      cases hbb : perB s (k + 1)
      · have HN := Lib.hid (peTo_no hbb)
        have bq := ne_bytes (show s.extract 0 (s.size - (k + 1)) ≠ s.extract (k + 1) s.size from fun e => by rw [(perB_iff s (k + 1)).2 ((per_cut hlt).1 e)] at hbb; cases hbb)
        clear hbb
        generalize s.extract 0 (s.size - (k + 1)) = x1 at hlo bq
        generalize s.extract (k + 1) s.size = x2 at hhi bq
        go_wp2_with fail
        go_quiet (fail)
        go_wp2_with fail
        go_roundw
        case rel => exact ⟨k + 1, by omega, by go_num, ⟨A, cp, by rw [HN.out]⟩, by rw [HN.out]; exact HO.out, below_drewN HB.out _⟩
        case measure => simp [intOf]; omega
      · have HY := Lib.hid (peTo_yes hbb)
        have bq := eq_bytes ((per_cut hlt).2 ((perB_iff s (k + 1)).1 hbb))
        have hbz := HB.out.size
        clear hbb
        generalize s.extract 0 (s.size - (k + 1)) = x1 at hlo bq
        generalize s.extract (k + 1) s.size = x2 at hhi bq
        go_wp2_with fail
        go_quiet (fail)
        have HO2 := Lib.hid (show (wr.drewN nq).ownsRow w.heap.size 3 1 (.slice A (peTo s k).length cp) (peTo s k).length (ints (peTo s k)) from HO.out)
        go_wp2_with (at_builtin
                     refine wpList_append1 (wr.drewN nq) rfl (.tmp 25) (.tmp 27) _ rfl w.heap.size 3 i0 _ 8 Try.underlying24 hi0 hz0 hz1 hz2 rfl (.slice A (peTo s k).length cp) (peTo s k).length (ints (peTo s k)) rfl HO2.out (.int .i64 ((k : Int) + 1)) rfl rfl (by unfold maxLen; omega) (by omega) hbz ?_
                     intro v' w1 hown1 hbel1)
        have ho' : w1.ownsRow w.heap.size 3 1 v' (peTo s (k + 1)).length (ints (peTo s (k + 1))) := by
          rw [HY.out, List.length_append, ints_snoc]
          exact hown1
        obtain ⟨A5, cp5, rfl⟩ := own_slice ho'
        go_roundw
        case rel => exact ⟨k + 1, by omega, by go_num, ⟨A5, cp5, by rw [HY.out, List.length_append]⟩, ho', (below_drewN HB.out nq).trans hbel1⟩
        case measure => simp [intOf]; omega
    · have hlt2 : ¬ (k : Int) + 1 ≤ (s.size : Int) := by omega
      have hk1 : k = s.size := by omega
      have HV2 : Hid (peR s = peTo s k) := by show _ = _; rw [HV.out, hk1]
      clear hk1
      go_wp2_with fail
      go_ret
      exact ⟨_, rfl, by rw [HV2.out]; exact HO.out, HB.out⟩

theorem rt_yes {s : ByteArray} {p : Nat} (h1 : 1 ≤ p) (h2 : p < s.size) (h : RootAt s p) (hno : ∀ q, 1 ≤ q → q < p → ¬ RootAt s q) : rtN s = p :=
  firstP_eq _ _ _ h1 (by omega) (fun r hr1 hr2 => hno r hr1 hr2) h
theorem rt_self {s : ByteArray} (h1 : 1 ≤ s.size) (hno : ∀ q, 1 ≤ q → q < s.size → ¬ RootAt s q) : rtN s = s.size := by
  have hr : RootAt s s.size := ⟨Nat.mod_self _, fun i hi => absurd hi (by omega)⟩
  exact firstP_eq _ _ _ h1 (by omega) (fun r hr1 hr2 => hno r hr1 hr2) hr

set_option maxRecDepth 100000 in
set_option maxHeartbeats 1000000 in
theorem specRootOf (s : ByteArray) (w : World) (_ : s.size ≤ 1048576) :
    Calls Try.prog 48 #[.string s] w fun e w' => e = .returned (.tuple #[.string (rtR s), .int .i64 (rtK s)]) ∧ Below w.heap.size w w' := by
  cases hw : wordB s
  · have HW := Lib.hid hw
    have hk : rtOk s = false := by unfold rtOk; rw [hw]; rfl
    have h1 : rtR s = ⟨#[]⟩ := if_neg (by rw [hk]; decide)
    have h2 : rtK s = 0 := if_neg (by rw [hk]; decide)
    rw [h1, h2]
    clear hw h1 h2 hk
    go_enter Try.func48, Try.ntmps48
    go_wp2_with fail
    refine (specWordOk s _).mono ?_
    rintro e w' ⟨rfl, rfl⟩
    rw [HW.out]
    go_wp2_with fail
    go_ret2
    exact ⟨rfl, Below.refl _ _⟩
  have HW := Lib.hid hw
  have h4 := word_size hw
  by_cases h0 : s.size = 0
  · have hk : rtOk s = false := by unfold rtOk; rw [decide_eq_false (show ¬ 1 ≤ s.size by omega), Bool.and_false]
    have h1 : rtR s = ⟨#[]⟩ := if_neg (by rw [hk]; decide)
    have h2 : rtK s = 0 := if_neg (by rw [hk]; decide)
    have hem : s.toList.isEmpty = true := by
      rw [ByteArray.toList_eq]
      cases e : s.data.toList with
      | nil => rfl
      | cons a l => have hl : s.data.toList.length = s.size := by simp
                    rw [e, h0] at hl; cases hl
    rw [h1, h2]
    clear hw h1 h2 hk h0
    go_enter Try.func48, Try.ntmps48
    go_wp2_with fail
    refine (specWordOk s _).mono ?_
    rintro e w' ⟨rfl, rfl⟩
    rw [HW.out]
    go_wp2_with fail
    go_ret2
    exact ⟨rfl, Below.refl _ _⟩
  have hem : s.toList.isEmpty = false := by
    rw [ByteArray.toList_eq]
    cases e : s.data.toList with
    | nil => have hl : s.data.toList.length = s.size := by simp
             rw [e] at hl; exact absurd hl.symm h0
    | cons a l => rfl
  have hk : rtOk s = true := by unfold rtOk; rw [hw, decide_eq_true (show 1 ≤ s.size by omega)]; rfl
  have HV : Hid (∀ p, rtN s = p → rtR s = s.extract 0 p ∧ rtK s = ((s.size / p : Nat) : Int)) := fun p e => by subst e; exact ⟨if_pos hk, if_pos hk⟩
  have HWH : Hid (s.extract 0 s.size = s) := by
    show _ = _
    apply bytes_ext
    rw [ByteArray.toList_eq, ByteArray.toList_eq, ByteArray.data_extract, Array.toList_extract, List.extract_eq_take_drop, List.drop_zero, Nat.sub_zero, List.take_of_length_le (by simp)]
  clear hw hk
  generalize rtR s = r1 at HV ⊢
  generalize rtK s = r2 at HV ⊢
  go_enter Try.func48, Try.ntmps48
  go_wp2_with fail
  refine (specWordOk s _).mono ?_
  rintro e w' ⟨rfl, rfl⟩
  rw [HW.out]
  go_wp2_with fail
  go_loopw [4] (fun i w' => ∃ k : Nat, 1 ≤ k ∧ k ≤ s.size ∧ i = .int .i64 (k : Int) ∧ (∀ q, 1 ≤ q → q < k → ¬ RootAt s q) ∧ Below w.heap.size w w') (fun i _ => s.size + 1 - (intOf i).toNat)
  case atStart => exact ⟨1, Nat.le_refl _, by omega, rfl, fun q a b => by omega, Below.refl _ _⟩
  case round =>
    obtain ⟨k, hk1, hk, rfl, hno, hb⟩ := hrel
    have HNO := Lib.hid hno
    have HB := Lib.hid hb
    clear hno hb
    by_cases hlt : k < s.size
    · have e1 : IntKind.i64.wrap ((s.size : Int) - (k : Int)) = ((s.size - k : Nat) : Int) := by rw [IntWalk.i64_in _ (by omega)]; omega
      have HTM : Hid ((s.size : Int).tmod (k : Int) = ((s.size % k : Nat) : Int)) := by show _ = _; rw [Int.tmod_eq_emod_of_nonneg (by omega)]; omega
      have HTD : Hid ((s.size : Int).tdiv (k : Int) = ((s.size / k : Nat) : Int)) := by show _ = _; rw [Int.tdiv_eq_ediv_of_nonneg (by omega)]; omega
      have hlo : ∀ w : World, (Instr.slice 9 (.string s) none (some (.int .i64 ((s.size - k : Nat) : Int))) none).run Try.prog w = .ok (.string (s.extract 0 (s.size - k))) w := fun w => cut_lo Try.underlying9 s _ (s.size - k) w rfl (by omega)
      have hhi : ∀ w : World, (Instr.slice 9 (.string s) (some (.int .i64 (k : Int))) none none).run Try.prog w = .ok (.string (s.extract k s.size)) w := fun w => cut_hi Try.underlying9 s _ k w rfl (by omega)
      have hre : ∀ w : World, (Instr.slice 9 (.string s) none (some (.int .i64 (k : Int))) none).run Try.prog w = .ok (.string (s.extract 0 k)) w := fun w => cut_lo Try.underlying9 s _ k w rfl (by omega)
      have hk0 : ¬ k = 0 := by omega
      have hk0' : ¬ (k : Int) = 0 := by omega
      obtain ⟨D, hD⟩ : ∃ D, s.size / k = D := ⟨_, rfl⟩
      have hDl : D ≤ 400 := by have := Nat.div_le_self s.size k; omega
      have htd : (s.size : Int).tdiv (k : Int) = (D : Int) := by rw [HTD.out, hD]
      have HDD := Lib.hid hD
      have e2 : IntKind.i64.wrap (D : Int) = (D : Int) := IntWalk.i64_in _ (by omega)
      clear hD
      by_cases hmod : s.size % k = 0
      · have htm : (s.size : Int).tmod (k : Int) = 0 := by rw [HTM.out, hmod]; rfl
        have HMD := Lib.hid hmod
        clear hmod
        by_cases hper : PerAt s k
        · have bq := eq_bytes ((per_cut hk).2 hper)
          have HR := Lib.hid (HV.out k (rt_yes hk1 hlt ⟨HMD.out, hper⟩ HNO.out))
          clear hper
          go_wp2_with fail
          go_quiet (fail)
          go_wp2_with fail
          go_quiet (fail)
          go_wp2_with fail
          go_ret2
          exact ⟨by rw [HR.out.1, HR.out.2, HDD.out]; rfl, below_drewN (below_drewN HB.out _) _⟩
        · have bq := ne_bytes (fun e => hper ((per_cut hk).1 e))
          have HN : Hid (¬ RootAt s k) := fun h => hper h.2
          clear hper
          go_wp2_with fail
          go_quiet (fail)
          go_wp2_with fail
          go_roundw
          case rel => exact ⟨k + 1, by omega, by omega, by go_num, fun q a b => by
            by_cases e : q = k
            · subst e; exact HN.out
            · exact HNO.out q a (by omega), below_drewN HB.out _⟩
          case measure => simp [intOf]; omega
      · have htm : (s.size : Int).tmod (k : Int) = ((s.size % k : Nat) : Int) := HTM.out
        have hmz : decide (((s.size % k : Nat) : Int) = 0) = false := by simp; omega
        have hmz2 : (((s.size % k : Nat) : Int) == 0) = false := by simp; omega
        have HN : Hid (¬ RootAt s k) := fun h => hmod h.1
        clear hmod
        generalize s.size % k = R at htm hmz hmz2
        go_wp2_with fail
        go_quiet (fail)
        go_wp2_with fail
        go_roundw
        case rel => exact ⟨k + 1, by omega, by omega, by go_num, fun q a b => by
          by_cases e : q = k
          · subst e; exact HN.out
          · exact HNO.out q a (by omega), below_drewN HB.out _⟩
        case measure => simp [intOf]; omega
    · have hks : k = s.size := by omega
      subst hks
      have HR := Lib.hid (HV.out s.size (rt_self hk1 HNO.out))
      have HD1 : Hid (s.size / s.size = 1) := Nat.div_self (by omega)
      go_wp2_with fail
      go_ret2
      exact ⟨by rw [HR.out.1, HR.out.2, HD1.out, HWH.out]; rfl, HB.out⟩
end Go.Proofs.Ytgfhconcmoepcaa
