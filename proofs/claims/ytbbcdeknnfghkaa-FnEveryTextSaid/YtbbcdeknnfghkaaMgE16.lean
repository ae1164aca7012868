/- Texts put together. -/
import Derived.Test.YtbbcdeknnfghkaaChecked
import Derived.Test.YtbbcdeknnfghkaaMgE9
import Derived.Test.YtbbcdeknnfghkaaMgE15
import Derived.Test.YtbbcdeknnfghkaaMgE10
import Derived.Test.YtbbcdeknnfghkaaMgE14
import Derived.Lib.IndexLaws
/- joinParts and Join of the program: the elements with the separator between them. Condition: the result has at most 2^47 bytes. -/
namespace Go.Proofs.Ytbbcdeknnfghkaa
open Go.RowKit
end Go.Proofs.Ytbbcdeknnfghkaa

/- The program's SplitAny gives the same list of strings as the model's. Condition: texts of at most 2^20 bytes. -/
namespace Go.Proofs.Ytbbcdeknnfghkaa
open Go.RowKit

theorem byte_back (c : UInt8) : ((c.toNat : Int)).toNat.toUInt8 = c := by simp
theorem sep_iff (y : ByteArray) (c : UInt8) : isSep y c ↔ 0 ≤ Lib.indexByte y.data.toList c := by
  have hge := Lib.indexByte_ge y.data.toList c
  constructor
  · rintro ⟨i, h, e⟩
    rcases Int.lt_or_le (Lib.indexByte y.data.toList c) 0 with hlt | hle
    · have := Lib.indexByte_none (show Lib.indexByte y.data.toList c = -1 by omega) i
      exact absurd (by rw [← e]; exact List.getElem?_eq_getElem (by simpa using h)) this
    · exact hle
  · intro h
    obtain ⟨o, ho⟩ := Int.eq_ofNat_of_zero_le h
    obtain ⟨h1, _⟩ := Lib.indexByte_some ho
    obtain ⟨hl, he⟩ := List.getElem?_eq_some_iff.1 h1
    exact ⟨o, by simpa using hl, he⟩

set_option maxHeartbeats 800000 in
theorem implSplitAny (s y : ByteArray) (w : World) (hs : s.size ≤ 1048576) :
    Calls Try.prog 43 #[.string s, .string y] w fun e w' => ∃ v, e = .returned v ∧ w'.ownsRow w.heap.size 9 1 v (splitL s y).length (strs (splitL s y)) ∧ Below w.heap.size w w' := by
  obtain ⟨i0, hi0, hz0, hz1, hz2⟩ := info_parts str_info
  go_enter Try.func43, Try.ntmps43
  go_wp2
  go_loopw [5, 6, 10] (fun o fr i w' => ∃ (k f : Nat) (ps : List ByteArray), k ≤ s.size ∧ splitTo s y k = (ps, f) ∧ i = .int .i64 k ∧ fr = .int .i64 f ∧ f ≤ k ∧ ps.length ≤ k ∧ w'.ownsRow w.heap.size 9 1 o ps.length (strs ps) ∧ Below w.heap.size w w') (fun _ _ i _ => s.size - (intOf i).toNat)
  case atStart =>
    exact ⟨0, 0, [], by omega, rfl, rfl, rfl, by omega, by simp, World.ownsRow_nil _ _ _ _, Below.refl _ _⟩
  case round =>
    obtain ⟨k, f, ps, hk, hsp, rfl, rfl, hfk, hpk, ho, hb⟩ := hrel
    have HSP := Lib.hid hsp
    clear hsp
    obtain ⟨wo, rfl⟩ : ∃ wo : World, wo = wr := ⟨_, rfl⟩
    obtain ⟨vo, hvo⟩ : ∃ vo : Value, vo = u5 := ⟨_, rfl⟩
    subst hvo
    have hsz := hb.size
    by_cases hlt : k < s.size
    · by_cases hsep : isSep y s[k]
      · have hdec : decide ((0 : Int) ≤ Lib.indexByte y.data.toList s[k]) = true := by simpa using (sep_iff _ _).1 hsep
        have HSEP := Lib.hid hsep
        clear hsep
        go_wp2_with (first
          | (go_at_call 80
             refine (Try.strings_IndexByte _ _ _).mono ?_
             rintro e w' ⟨rfl, rfl⟩
             rw [byte_back])
          | (at_builtin
             refine wpList_append1 _ rfl (.tmp 19) (.tmp 24) _ rfl w.heap.size 9 i0 _ 16 Try.underlying22 hi0 hz0 hz1 hz2 rfl _ ps.length (strs ps) rfl ho (.string (s.extract f k)) rfl rfl (by unfold maxLen; omega) (by omega) hsz ?_
             intro v' w1 hown1 hbel1))
        go_roundw
        case rel =>
          refine ⟨k + 1, k + 1, ps ++ [s.extract f k], by omega, ?_, by go_num, by go_num, by omega, by simp; omega, ?_, hb.trans hbel1⟩
          · rw [splitTo_yes hlt HSEP.out, HSP.out]
          · rw [strs_snoc, List.length_append]
            exact hown1
        case measure => simp [intOf]; omega
      · have hdec : decide ((0 : Int) ≤ Lib.indexByte y.data.toList s[k]) = false := by
          rw [decide_eq_false_iff_not]
          exact fun h => hsep ((sep_iff _ _).2 h)
        have HSEP := Lib.hid hsep
        clear hsep
        go_wp2_with (go_at_call 80; refine (Try.strings_IndexByte _ _ _).mono ?_; rintro e w' ⟨rfl, rfl⟩; rw [byte_back])
        go_roundw
        case rel =>
          refine ⟨k + 1, f, ps, by omega, ?_, by go_num, rfl, by omega, by omega, ho, hb⟩
          rw [splitTo_no hlt HSEP.out]
          exact HSP.out
        case measure => simp [intOf]; omega
    · have hks : k = s.size := by omega
      subst hks
      have hL : splitL s y = ps ++ [s.extract f s.size] := by unfold splitL; rw [HSP.out]
      have HL := Lib.hid hL
      clear hL
      go_wp2_with (first
        | (at_builtin
           refine wpList_append1 _ rfl (.tmp 29) (.tmp 33) _ rfl w.heap.size 9 i0 _ 16 Try.underlying22 hi0 hz0 hz1 hz2 rfl _ ps.length (strs ps) rfl ho _ rfl rfl (by unfold maxLen; omega) (by omega) hsz ?_
           intro v' w1 hown1 hbel1))
      go_ret
      refine ⟨_, rfl, ?_, hb.trans hbel1⟩
      rw [HL.out, strs_snoc, List.length_append]
      exact hown1
end Go.Proofs.Ytbbcdeknnfghkaa

/- What the lines of a text are. No program in it. -/
namespace Go.Proofs.Ytbbcdeknnfghkaa
open Go.RowKit

def nl : ByteArray := ⟨#[10]⟩
theorem splitL_pos (s y : ByteArray) : 0 < (splitL s y).length := by unfold splitL; simp
/-- the lines: without the last part if it is empty -/
noncomputable def linesL (s : ByteArray) : List ByteArray :=
  if (s.extract (splitTo s nl s.size).2 s.size).toList = [] then (splitTo s nl s.size).1 else splitL s nl
theorem linesL_le (s : ByteArray) : (linesL s).length ≤ s.size + 1 := by
  have := splitTo_le s nl s.size
  unfold linesL splitL
  split
  · omega
  · simp; omega
/-- what a slice's beginning owns -/
theorem own_init {w : World} {B : Nat} {e : TypeId} {g cap : Nat} {n : Nat} {xs ys : List Value} (h : w.ownsRow B e 1 (.slice (some ⟨g, 0, none⟩) n cap) n (xs ++ ys)) (m : Nat) (hm : xs.length = m) (hmn : m ≤ n) :
    w.ownsRow B e 1 (.slice (some ⟨g, 0, none⟩) m cap) m xs := by
  refine ⟨by omega, .inr ?_⟩
  rcases h.2 with ⟨h', _⟩ | ⟨g', cap', cur, h', hb, hg, hnc, hcm, hcs, htake⟩
  · simp at h'
  · simp only [Value.slice.injEq, Option.some.injEq, Addr.mk.injEq, and_true, true_and] at h'
    obtain ⟨rfl, rfl⟩ := h'
    refine ⟨g, cap, cur, rfl, hb, hg, by omega, hcm, hcs, ?_⟩
    have : (cur.toList.take (n * 1)).take (m * 1) = (xs ++ ys).take (m * 1) := by rw [htake]
    rw [List.take_take, Nat.min_eq_left (by omega), Nat.mul_one, List.take_left' hm] at this
    rw [Nat.mul_one]
    exact this
end Go.Proofs.Ytbbcdeknnfghkaa
