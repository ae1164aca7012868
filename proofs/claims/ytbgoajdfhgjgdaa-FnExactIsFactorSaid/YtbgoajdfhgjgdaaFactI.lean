/- IsFactor of the program. Conditions: texts of at most 2^20 bytes; the library's own variable holds an integer. -/
import Derived.Test.YtbgoajdfhgjgdaaPlaces
import Derived.Test.YtbgoajdfhgjgdaaWordOkI
import Derived.Test.YtbgoajdfhgjgdaaShelf
namespace Go.Proofs.Ytbgoajdfhgjgdaa
open Go.RowKit

theorem ext_list (s : ByteArray) (i n : Nat) : (s.extract i (i + n)).data.toList = (s.data.toList.drop i).take n := by
  rw [Lib.extract_data]
  rw [Nat.add_sub_cancel_left]
theorem occ_at (s f : ByteArray) (i : Nat) (hi : i ≤ s.size) : Lib.occAt s.data.toList f.data.toList i = true ↔ At s f i := by
  unfold Lib.occAt At
  rw [List.isPrefixOf_iff_prefix, List.prefix_iff_eq_take]
  have hsl : s.data.toList.length = s.size := by simp
  have hfl : f.data.toList.length = f.size := by simp
  constructor
  · intro h
    have hl := congrArg List.length h
    rw [List.length_take, List.length_drop, hsl, hfl] at hl
    refine ⟨by omega, ?_⟩
    apply bytes_ext
    rw [ByteArray.toList_eq, ByteArray.toList_eq, ext_list, ← hfl]
    exact h.symm
  · rintro ⟨_, h⟩
    rw [hfl, ← ext_list, h]
theorem contains_has (s f : ByteArray) : Lib.contains s.data.toList f.data.toList = hasR s f := by
  have hsl : s.data.toList.length = s.size := by simp
  unfold Lib.contains hasR
  rcases Lib.index_spec s.data.toList f.data.toList with ⟨h1, h2⟩ | ⟨i, h1, h2, h3, _⟩
  · rw [h1, @decide_eq_false _ (Classical.propDecidable _)]
    · rfl
    · rintro ⟨i, hi⟩
      have := h2 i (by have := hi.1; omega)
      rw [(occ_at s f i (by have := hi.1; omega)).2 hi] at this
      cases this
  · rw [h1, @decide_eq_true _ (Classical.propDecidable _) ⟨i, (occ_at s f i (by omega)).1 h3⟩]
    simp

theorem implIsFactor (s f : ByteArray) (m : Int) (w : World) (hm : w.cell? ⟨0, 0, none⟩ = some (.int .i64 m)) (hs : s.size ≤ 1048576) (hf : f.size ≤ 1048576) :
    Calls Try.prog 29 #[.string s, .string f] w fun e w' => e = .returned (.bool (factR s f)) ∧ Below w.heap.size w w' := by
  have HR : Hid (factR s f = (wordB s && (wordB f && hasR s f))) := rfl
  have HM := Lib.hid hm
  clear hm
  cases h1 : wordB s
  · go_enter Try.func29, Try.ntmps29
    go_wp2_with fail
    refine (implWordOk s _ hs).mono ?_
    rintro e w1 ⟨rfl, hb1⟩
    go_wp2_with fail
    go_ret
    exact ⟨ret_bool (by rw [HR.out, h1]; rfl), hb1⟩
  · cases h2 : wordB f
    · go_enter Try.func29, Try.ntmps29
      go_wp2_with fail
      refine (implWordOk s _ hs).mono ?_
      rintro e w1 ⟨rfl, hb1⟩
      go_wp2_with fail
      refine (implWordOk f _ hf).mono ?_
      rintro e w2 ⟨rfl, hb2⟩
      go_wp2_with fail
      go_ret
      exact ⟨ret_bool (by rw [HR.out, h1, h2]; rfl), hb1.trans (hb2.mono hb1.size)⟩
    · go_enter Try.func29, Try.ntmps29
      go_wp2_with fail
      refine (implWordOk s _ hs).mono ?_
      rintro e w1 ⟨rfl, hb1⟩
      go_wp2_with fail
      refine (implWordOk f _ hf).mono ?_
      rintro e w2 ⟨rfl, hb2⟩
      go_wp2_with fail
      have hb := hb1.trans (hb2.mono hb1.size)
      refine (Try.strings_Contains s f m _ (by omega) ((hb.cell (World.block_lt_of_cell? w _ HM.out)).trans HM.out)).mono ?_
      rintro e w3 ⟨rfl, rfl⟩
      go_wp2_with fail
      go_ret
      exact ⟨ret_bool (by rw [HR.out, h1, h2, contains_has]; rfl), hb⟩
end Go.Proofs.Ytbgoajdfhgjgdaa
