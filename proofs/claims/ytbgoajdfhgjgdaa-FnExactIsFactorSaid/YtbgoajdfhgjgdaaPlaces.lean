/- IsFactor and PlacesIn of the model. Condition: texts of at most 2^20 bytes. -/
import Derived.Test.YtbgoajdfhgjgdaaWordOk
import Derived.Test.YtbgoajdfhgjgdaaInts
namespace Go.Proofs.Ytbgoajdfhgjgdaa
open Go.RowKit

theorem slice_at {P : Program} {t : TypeId} (ht : P.underlying t = some .string) (s : ByteArray) (k n : Nat) (w : World) (h : k + n ≤ s.size) :
    (Instr.slice t (.string s) (some (.int .i64 (k : Int))) (some (.int .i64 ((k : Int) + (n : Int)))) none).run P w = .ok (.string (s.extract k (k + n))) w := by
  rw [run_slice_string (P := P) w t s .i64 .i64 (k : Int) ((k : Int) + (n : Int)) ht (by omega) (by omega) (by omega)]
  rw [show ((k : Int) + (n : Int)).toNat = k + n from by omega, Int.toNat_natCast]

/-- f begins at i in s -/
def At (s f : ByteArray) (i : Nat) : Prop := i + f.size ≤ s.size ∧ s.extract i (i + f.size) = f
noncomputable def hasR (s f : ByteArray) : Bool := @decide (∃ i, At s f i) (Classical.propDecidable _)
theorem hasR_yes {s f : ByteArray} {i : Nat} (h : At s f i) : hasR s f = true := by
  unfold hasR
  exact @decide_eq_true _ (Classical.propDecidable _) ⟨i, h⟩
theorem hasR_no {s f : ByteArray} {k : Nat} (h : ∀ i, i < k → ¬ At s f i) (hk : ¬ k + f.size ≤ s.size) : hasR s f = false := by
  unfold hasR
  rw [decide_eq_false_iff_not]
  rintro ⟨i, hi⟩
  rcases Nat.lt_or_ge i k with hlt | hge
  · exact h i hlt hi
  · exact hk (by have := hi.1; omega)

set_option maxHeartbeats 400000 in
theorem specHas (s f : ByteArray) (w : World) (hs : s.size ≤ 1048576) (hf : f.size ≤ 1048576) :
    Calls Try.prog 45 #[.string s, .string f] w fun e w' => e = .returned (.bool (hasR s f)) ∧ w = w' := by
  go_enter Try.func45, Try.ntmps45
  go_wp2
  go_loop [5] (fun i => ∃ k : Nat, k ≤ s.size + 1 ∧ i = .int .i64 k ∧ ∀ j, j < k → ¬ At s f j) (fun i => s.size + 1 - (intOf i).toNat)
  case atStart => exact ⟨0, by omega, rfl, fun j h => absurd h (by omega)⟩
  case round =>
    obtain ⟨k, hk, rfl, hno⟩ := hrel
    have HN := Lib.hid hno
    clear hno
    by_cases hlt : k + f.size ≤ s.size
    · have hsl : ∀ w : World, (Instr.slice 9 (.string s) (some (.int .i64 (k : Int))) (some (.int .i64 ((k : Int) + (f.size : Int)))) none).run Try.prog w = .ok (.string (s.extract k (k + f.size))) w := fun w => slice_at Try.underlying9 s k f.size w hlt
      by_cases he : s.extract k (k + f.size) = f
      · have HY := Lib.hid (hasR_yes (i := k) ⟨hlt, he⟩)
        have hb : ((s.extract k (k + f.size)).toList == f.toList) = true := by rw [he]; simp
        clear he
        go_wp2
        go_ret
        exact ⟨ret_bool HY.out.symm, rfl⟩
      · have hb : ((s.extract k (k + f.size)).toList == f.toList) = false := by
          rw [beq_eq_false_iff_ne]
          exact fun h => he (bytes_ext h)
        have HE := Lib.hid he
        clear he
        go_wp2
        go_round
        case rel =>
          refine ⟨k + 1, by omega, by go_num, fun j hj => ?_⟩
          by_cases e : j = k
          · subst e; exact fun h => HE.out h.2
          · exact HN.out j (by omega)
        case measure => simp [intOf]; omega
    · have HX := Lib.hid (hasR_no HN.out hlt)
      go_wp2
      go_ret
      exact ⟨ret_bool HX.out.symm, rfl⟩

/-- what IsFactor is to return -/
noncomputable def factR (s f : ByteArray) : Bool := wordB s && (wordB f && hasR s f)
theorem specIsFactor (s f : ByteArray) (w : World) (hs : s.size ≤ 1048576) (hf : f.size ≤ 1048576) :
    Calls Try.prog 28 #[.string s, .string f] w fun e w' => e = .returned (.bool (factR s f)) ∧ w = w' := by
  have HR : Hid (factR s f = (wordB s && (wordB f && hasR s f))) := rfl
  cases h1 : wordB s
  · go_enter Try.func28, Try.ntmps28
    go_wp2_with fail
    refine (specWordOk s _).mono ?_
    rintro e w' ⟨rfl, rfl⟩
    go_wp2_with fail
    go_ret
    exact ⟨ret_bool (by rw [HR.out, h1]; rfl), rfl⟩
  · cases h2 : wordB f
    · go_enter Try.func28, Try.ntmps28
      go_wp2_with fail
      refine (specWordOk s _).mono ?_
      rintro e w' ⟨rfl, rfl⟩
      go_wp2_with fail
      refine (specWordOk f _).mono ?_
      rintro e w' ⟨rfl, rfl⟩
      go_wp2_with fail
      go_ret
      exact ⟨ret_bool (by rw [HR.out, h1, h2]; rfl), rfl⟩
    · go_enter Try.func28, Try.ntmps28
      go_wp2_with fail
      refine (specWordOk s _).mono ?_
      rintro e w' ⟨rfl, rfl⟩
      go_wp2_with fail
      refine (specWordOk f _).mono ?_
      rintro e w' ⟨rfl, rfl⟩
      go_wp2_with fail
      refine (specHas s f _ hs hf).mono ?_
      rintro e w' ⟨rfl, rfl⟩
      go_wp2_with fail
      go_ret
      exact ⟨ret_bool (by rw [HR.out, h1, h2]; rfl), rfl⟩

open Classical in
/-- the places below k at which f begins -/
noncomputable def placesTo (s f : ByteArray) : Nat → List Int
  | 0 => []
  | k + 1 => if At s f k then placesTo s f k ++ [(k : Int)] else placesTo s f k
theorem placesTo_le (s f : ByteArray) : ∀ k, (placesTo s f k).length ≤ k
  | 0 => by simp [placesTo]
  | k + 1 => by
    have := placesTo_le s f k
    unfold placesTo
    split
    · simp; omega
    · omega
open Classical in
/-- what PlacesIn is to return -/
noncomputable def placesR (s f : ByteArray) : List Int := if wordB s = true ∧ wordB f = true ∧ f.size ≠ 0 then placesTo s f (s.size + 1) else []
theorem placesR_le (s f : ByteArray) : (placesR s f).length ≤ s.size + 1 := by
  unfold placesR; split
  · exact placesTo_le s f _
  · simp
theorem placesTo_more {s f : ByteArray} (k : Nat) (hk : ¬ k + f.size ≤ s.size) : ∀ n, placesTo s f (k + n) = placesTo s f k
  | 0 => rfl
  | n + 1 => by
    show placesTo s f ((k + n) + 1) = _
    rw [placesTo, if_neg (fun h => hk (by have := h.1; omega)), placesTo_more k hk n]

set_option maxHeartbeats 400000 in
theorem specPlacesIn (s f : ByteArray) (w : World) (_ : s.size ≤ 1048576) (_ : f.size ≤ 1048576) :
    Calls Try.prog 26 #[.string s, .string f] w fun e w' => ∃ v, e = .returned v ∧ w'.ownsRow w.heap.size 3 1 v (placesR s f).length (ints (placesR s f)) ∧ Below w.heap.size w w' := by
  obtain ⟨i0, hi0, hz0, hz1, hz2⟩ := info_parts int_info
  by_cases h1 : wordB s = true
  · by_cases h2 : wordB f = true
    · by_cases h3 : f.size = 0
      · have hr : placesR s f = [] := if_neg (fun h => h.2.2 h3)
        have HR := Lib.hid hr
        have hfl : f.toList = [] := by
          obtain ⟨⟨l⟩⟩ := f
          rw [ByteArray.toList_eq]
          cases l with
          | nil => rfl
          | cons c r => simp [ByteArray.size] at h3
        have hfe : f.toList.isEmpty = true := by rw [hfl]; rfl
        clear hr h3
        go_enter Try.func26, Try.ntmps26
        go_wp2_with fail
        refine (specWordOk s _).mono ?_
        rintro e w' ⟨rfl, rfl⟩
        go_wp2_with fail
        refine (specWordOk f _).mono ?_
        rintro e w' ⟨rfl, rfl⟩
        go_wp2_with fail
        go_ret
        refine ⟨_, rfl, ?_, Below.refl _ _⟩
        rw [HR.out]
        exact World.ownsRow_nil _ _ _ _
      · have hr : placesR s f = placesTo s f (s.size + 1) := if_pos ⟨h1, h2, h3⟩
        have HR := Lib.hid hr
        have h400 := word_size h1
        have h401 := word_size h2
        have hpos : 0 < f.size := by omega
        have hfe : f.toList.isEmpty = false := by
          obtain ⟨⟨l⟩⟩ := f
          rw [ByteArray.toList_eq]
          cases l with
          | nil => simp [ByteArray.size] at hpos
          | cons c r => rfl
        clear hr h3
        go_enter Try.func26, Try.ntmps26
        go_wp2_with fail
        refine (specWordOk s _).mono ?_
        rintro e w' ⟨rfl, rfl⟩
        go_wp2_with fail
        refine (specWordOk f _).mono ?_
        rintro e w' ⟨rfl, rfl⟩
        go_wp2_with fail
        go_loopw [5, 6] (fun o i w' => ∃ (k n : Nat), k ≤ s.size + 1 ∧ i = .int .i64 k ∧ n ≤ k ∧ n = (placesTo s f k).length ∧ w'.ownsRow w.heap.size 3 1 o n (ints (placesTo s f k)) ∧ Below w.heap.size w w') (fun _ i _ => s.size + 1 - (intOf i).toNat)
        case atStart => exact ⟨0, 0, by omega, rfl, by omega, rfl, World.ownsRow_made w #[] 0 (Nat.le_refl _) (by simp [maxLen]) (by simp), (Below.refl _ _).alloc (Nat.le_refl _) _⟩
        case round =>
          obtain ⟨k, n, hk, rfl, hn, hnl, ho, hb⟩ := hrel
          have HN := Lib.hid hnl
          have hsz := hb.size
          clear hnl
          by_cases hlt : k + f.size ≤ s.size
          · have hsl : ∀ w : World, (Instr.slice 9 (.string s) (some (.int .i64 (k : Int))) (some (.int .i64 ((k : Int) + (f.size : Int)))) none).run Try.prog w = .ok (.string (s.extract k (k + f.size))) w := fun w => slice_at Try.underlying9 s k f.size w hlt
            by_cases he : s.extract k (k + f.size) = f
            · have hp : placesTo s f (k + 1) = placesTo s f k ++ [(k : Int)] := by rw [placesTo, if_pos ⟨hlt, he⟩]
              have HP := Lib.hid hp
              have hbq : ((s.extract k (k + f.size)).toList == f.toList) = true := by rw [he]; simp
              clear he hp
              go_wp2_with (first
                | (at_builtin
                   refine wpList_append1 _ rfl (.tmp 38) (.tmp 40) _ rfl w.heap.size 3 i0 _ 8 Try.underlying25 hi0 hz0 hz1 hz2 rfl _ n _ rfl ho (.int .i64 (k : Int)) rfl rfl (by unfold maxLen; omega) (by omega) hsz ?_
                   intro v' w1 hown1 hbel1))
              go_roundw
              case rel =>
                refine ⟨k + 1, n + 1, by omega, by go_num, by omega, ?_, ?_, hb.trans hbel1⟩
                · rw [HP.out, List.length_append, ← HN.out]; rfl
                · rw [HP.out, ints_snoc]; exact hown1
              case measure => simp [intOf]; omega
            · have hp : placesTo s f (k + 1) = placesTo s f k := by rw [placesTo, if_neg (fun h => he h.2)]
              have HP := Lib.hid hp
              have hbq : ((s.extract k (k + f.size)).toList == f.toList) = false := by
                rw [beq_eq_false_iff_ne]
                exact fun h => he (bytes_ext h)
              clear he hp
              go_wp2_with fail
              go_roundw
              case rel => exact ⟨k + 1, n, by omega, by go_num, by omega, by rw [HP.out]; exact HN.out, by rw [HP.out]; exact ho, hb⟩
              case measure => simp [intOf]; omega
          · have hp : placesTo s f (s.size + 1) = placesTo s f k := by
              have := placesTo_more (s := s) (f := f) k hlt (s.size + 1 - k)
              rwa [show k + (s.size + 1 - k) = s.size + 1 from by omega] at this
            have HP := Lib.hid hp
            clear hp
            go_wp2_with fail
            go_ret
            refine ⟨_, rfl, ?_, hb⟩
            rw [HR.out, HP.out, ← HN.out]
            exact ho
    · have hr : placesR s f = [] := if_neg (fun h => h2 h.2.1)
      have HR := Lib.hid hr
      have h2' : wordB f = false := by simpa using h2
      clear hr h2
      go_enter Try.func26, Try.ntmps26
      go_wp2_with fail
      refine (specWordOk s _).mono ?_
      rintro e w' ⟨rfl, rfl⟩
      go_wp2_with fail
      refine (specWordOk f _).mono ?_
      rintro e w' ⟨rfl, rfl⟩
      go_wp2_with fail
      go_ret
      refine ⟨_, rfl, ?_, Below.refl _ _⟩
      rw [HR.out]
      exact World.ownsRow_nil _ _ _ _
  · have hr : placesR s f = [] := if_neg (fun h => h1 h.1)
    have HR := Lib.hid hr
    have h1' : wordB s = false := by simpa using h1
    clear hr h1
    go_enter Try.func26, Try.ntmps26
    go_wp2_with fail
    refine (specWordOk s _).mono ?_
    rintro e w' ⟨rfl, rfl⟩
    go_wp2_with fail
    go_ret
    refine ⟨_, rfl, ?_, Below.refl _ _⟩
    rw [HR.out]
    exact World.ownsRow_nil _ _ _ _
end Go.Proofs.Ytbgoajdfhgjgdaa
