/- PlacesIn of the program. Condition: texts of at most 2^20 bytes. -/
import Derived.Test.YtbgoajdfhgjgdaaPlaces
import Derived.Test.YtbgoajdfhgjgdaaWordOkI
namespace Go.Proofs.Ytbgoajdfhgjgdaa
open Go.RowKit

theorem ltoList_empty (f : ByteArray) : f.toList.isEmpty = decide (f.size = 0) := by
  obtain ⟨⟨l⟩⟩ := f
  rw [ByteArray.toList_eq]
  cases l with
  | nil => rfl
  | cons c r => simp [ByteArray.size]

set_option maxHeartbeats 400000 in
theorem implPlaces (s f : ByteArray) (w : World) (h400 : s.size ≤ 400) (h401 : f.size ≤ 400) (hpos : 0 < f.size) :
    Calls Try.prog 44 #[.string s, .string f] w fun e w' => ∃ v, e = .returned v ∧ w'.ownsRow w.heap.size 3 1 v (placesTo s f (s.size + 1)).length (ints (placesTo s f (s.size + 1))) ∧ Below w.heap.size w w' := by
  obtain ⟨i0, hi0, hz0, hz1, hz2⟩ := info_parts int_info
  go_enter Try.func44, Try.ntmps44
  go_wp2_with fail
  go_loopw [5, 13] (fun o i w' => ∃ (k n : Nat), k ≤ s.size + 1 ∧ i = .int .i64 k ∧ n ≤ k ∧ n = (placesTo s f k).length ∧ w'.ownsRow w.heap.size 3 1 o n (ints (placesTo s f k)) ∧ Below w.heap.size w w') (fun _ i _ => s.size + 1 - (intOf i).toNat)
  case atStart => exact ⟨0, 0, by omega, rfl, by omega, rfl, World.ownsRow_nil _ _ _ _, Below.refl _ _⟩
  case round =>
    obtain ⟨k, n, hk, rfl, hn, hnl, ho, hb⟩ := hrel
    have HN := Lib.hid hnl
    have hsz := hb.size
    clear hnl
    by_cases hlt : k + f.size ≤ s.size
    · have hsl : ∀ w : World, (Instr.slice 35 (.string s) (some (.int .i64 (k : Int))) (some (.int .i64 ((k : Int) + (f.size : Int)))) none).run Try.prog w = .ok (.string (s.extract k (k + f.size))) w := fun w => slice_at Try.underlying35 s k f.size w hlt
      by_cases he : s.extract k (k + f.size) = f
      · have hp : placesTo s f (k + 1) = placesTo s f k ++ [(k : Int)] := by rw [placesTo, if_pos ⟨hlt, he⟩]
        have HP := Lib.hid hp
        have hbq : ((s.extract k (k + f.size)).toList == f.toList) = true := by rw [he]; simp
        clear he hp
        go_wp2_with (first
          | (at_builtin
             refine wpList_append1 _ rfl (.tmp 25) (.tmp 27) _ rfl w.heap.size 3 i0 _ 8 Try.underlying25 hi0 hz0 hz1 hz2 rfl _ n _ rfl ho (.int .i64 (k : Int)) rfl rfl (by unfold maxLen; omega) (by omega) hsz ?_
             intro v' w1 hown1 hbel1))
        go_roundw
        case rel =>
          refine ⟨k + 1, n + 1, by omega, by go_num, by omega, ?_, ?_, hb.trans hbel1⟩
          · rw [HP.out, List.length_append, ← HN.out]; rfl
          · rw [HP.out, ints_snoc]; exact hown1
        case measure => simp [intOf]; omega
      · have hp : placesTo s f (k + 1) = placesTo s f k := by rw [placesTo, if_neg (fun h => he h.2)]
        have HP := Lib.hid hp
        have hbq : ((s.extract k (k + f.size)).toList == f.toList) = false := by
          rw [beq_eq_false_iff_ne]
          exact fun h => he (bytes_ext h)
        clear he hp
        go_wp2_with fail
        go_roundw
        case rel => exact ⟨k + 1, n, by omega, by go_num, by omega, by rw [HP.out]; exact HN.out, by rw [HP.out]; exact ho, hb⟩
        case measure => simp [intOf]; omega
    · have hp : placesTo s f (s.size + 1) = placesTo s f k := by
        have := placesTo_more (s := s) (f := f) k hlt (s.size + 1 - k)
        rwa [show k + (s.size + 1 - k) = s.size + 1 from by omega] at this
      have HP := Lib.hid hp
      clear hp
      go_wp2_with fail
      go_ret
      refine ⟨_, rfl, ?_, hb⟩
      rw [HP.out, ← HN.out]
      exact ho

theorem implPlacesIn (s f : ByteArray) (w : World) (hs : s.size ≤ 1048576) (hf : f.size ≤ 1048576) :
    Calls Try.prog 27 #[.string s, .string f] w fun e w' => ∃ v, e = .returned v ∧ w'.ownsRow w.heap.size 3 1 v (placesR s f).length (ints (placesR s f)) ∧ Below w.heap.size w w' := by
  by_cases h1 : wordB s = true
  · by_cases h2 : wordB f = true
    · by_cases h3 : f.size = 0
      · have hr : placesR s f = [] := if_neg (fun h => h.2.2 h3)
        have HR := Lib.hid hr
        have hfe : f.toList.isEmpty = true := by rw [ltoList_empty, decide_eq_true h3]
        clear hr h3
        go_enter Try.func27, Try.ntmps27
        go_wp2_with fail
        refine (implWordOk s _ hs).mono ?_
        rintro e w1 ⟨rfl, hb1⟩
        go_wp2_with fail
        refine (implWordOk f _ hf).mono ?_
        rintro e w2 ⟨rfl, hb2⟩
        go_wp2_with fail
        go_ret
        refine ⟨_, rfl, ?_, hb1.trans (hb2.mono hb1.size)⟩
        rw [HR.out]
        exact World.ownsRow_nil _ _ _ _
      · have hr : placesR s f = placesTo s f (s.size + 1) := if_pos ⟨h1, h2, h3⟩
        have HR := Lib.hid hr
        have h400 := word_size h1
        have h401 := word_size h2
        have hpos : 0 < f.size := by omega
        have hfe : f.toList.isEmpty = false := by rw [ltoList_empty, decide_eq_false h3]
        clear hr h3
        go_enter Try.func27, Try.ntmps27
        go_wp2_with fail
        refine (implWordOk s _ hs).mono ?_
        rintro e w1 ⟨rfl, hb1⟩
        go_wp2_with fail
        refine (implWordOk f _ hf).mono ?_
        rintro e w2 ⟨rfl, hb2⟩
        go_wp2_with fail
        refine (implPlaces s f _ h400 h401 hpos).mono ?_
        rintro e w3 ⟨v, rfl, ho, hb3⟩
        go_wp2_with fail
        go_ret
        have hb := hb1.trans (hb2.mono hb1.size)
        refine ⟨_, rfl, ?_, hb.trans (hb3.mono hb.size)⟩
        rw [HR.out]
        exact own_mono ho hb.size
    · have hr : placesR s f = [] := if_neg (fun h => h2 h.2.1)
      have HR := Lib.hid hr
      have h2' : wordB f = false := by simpa using h2
      clear hr h2
      go_enter Try.func27, Try.ntmps27
      go_wp2_with fail
      refine (implWordOk s _ hs).mono ?_
      rintro e w1 ⟨rfl, hb1⟩
      go_wp2_with fail
      refine (implWordOk f _ hf).mono ?_
      rintro e w2 ⟨rfl, hb2⟩
      go_wp2_with fail
      go_ret
      refine ⟨_, rfl, ?_, hb1.trans (hb2.mono hb1.size)⟩
      rw [HR.out]
      exact World.ownsRow_nil _ _ _ _
  · have hr : placesR s f = [] := if_neg (fun h => h1 h.1)
    have HR := Lib.hid hr
    have h1' : wordB s = false := by simpa using h1
    clear hr h1
    go_enter Try.func27, Try.ntmps27
    go_wp2_with fail
    refine (implWordOk s _ hs).mono ?_
    rintro e w1 ⟨rfl, hb1⟩
    go_wp2_with fail
    go_ret
    refine ⟨_, rfl, ?_, hb1⟩
    rw [HR.out]
    exact World.ownsRow_nil _ _ _ _
end Go.Proofs.Ytbgoajdfhgjgdaa
