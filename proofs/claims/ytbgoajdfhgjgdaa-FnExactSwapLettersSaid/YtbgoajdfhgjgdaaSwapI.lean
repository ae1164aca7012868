/- SwapLetters of the program. Condition: texts of at most 2^20 bytes. -/
import Derived.Test.YtbgoajdfhgjgdaaSwap
import Derived.Test.YtbgoajdfhgjgdaaCountsI
import Derived.OwnWalk
namespace Go.Proofs.Ytbgoajdfhgjgdaa
open Go.RowKit

theorem cnt_sum : ∀ (l : List UInt8), l.all isAbcd = true → cnt l 97 + cnt l 98 + cnt l 99 + cnt l 100 = l.length
  | [], _ => rfl
  | c :: l, h => by
    rw [List.all_cons, Bool.and_eq_true] at h
    have ih := cnt_sum l h.2
    have hc : c = 97 ∨ c = 98 ∨ c = 99 ∨ c = 100 := by
      have := h.1
      simp [isAbcd] at this
      have e : ∀ x : UInt8, c.toNat = x.toNat → c = x := fun x hx => UInt8.toNat_inj.1 hx
      have h97 : (97 : UInt8).toNat = 97 := rfl
      have h98 : (98 : UInt8).toNat = 98 := rfl
      have h99 : (99 : UInt8).toNat = 99 := rfl
      have h100 : (100 : UInt8).toNat = 100 := rfl
      have hn : c.toNat = 97 ∨ c.toNat = 98 ∨ c.toNat = 99 ∨ c.toNat = 100 := by omega
      rcases hn with hn | hn | hn | hn
      · exact .inl (e _ (by omega))
      · exact .inr (.inl (e _ (by omega)))
      · exact .inr (.inr (.inl (e _ (by omega))))
      · exact .inr (.inr (.inr (e _ (by omega))))
    unfold cnt at ih ⊢
    rcases hc with rfl | rfl | rfl | rfl <;> simp <;> omega
theorem four_sum (t : ByteArray) (h : wordB t = true) : fourB t = (decide (cnt t.data.toList 97 = 1) && (decide (cnt t.data.toList 98 = 1) && (decide (cnt t.data.toList 99 = 1) && decide (cnt t.data.toList 100 = 1)))) := by
  have ha : t.data.toList.all isAbcd = true := by
    unfold wordB at h
    rw [Bool.and_eq_true] at h
    exact h.2
  have hs := cnt_sum _ ha
  have hl : t.data.toList.length = t.size := by simp
  unfold fourB
  rw [h, Bool.true_and]
  generalize cnt t.data.toList 97 = a at *
  generalize cnt t.data.toList 98 = b at *
  generalize cnt t.data.toList 99 = c at *
  generalize cnt t.data.toList 100 = d at *
  rw [Bool.eq_iff_iff]
  simp
  omega

theorem four_eq (a b c d x y z u : Int) (w : World) :
    (Op.equalIn 10000 38 (.agg #[.int .i64 a, .int .i64 b, .int .i64 c, .int .i64 d]) (.agg #[.int .i64 x, .int .i64 y, .int .i64 z, .int .i64 u])).run Try.prog w = .ok (a == x && (b == y && (c == z && d == u))) w := by
  have u3 := Try.underlying3
  have a3 := Try.isAgg3
  have z3 := Try.sizeOf3
  rw [show (10000 : Nat) = 9999 + 1 from rfl, Op.equalIn]
  simp only [Sem.run_bind, run_underlying Try.underlying38, Result.andThen_ok]
  simp only [Std.Legacy.Range.forIn_eq_forIn_range', Std.Legacy.Range.size, Nat.sub_zero, Nat.add_sub_cancel, Nat.div_one, List.range'_succ, List.range'_zero, List.forIn_cons, List.forIn_nil]
  go_simp
  by_cases h1 : a = x <;> by_cases h2 : b = y <;> by_cases h3 : c = z <;> by_cases h4 : d = u <;> simp [h1, h2, h3, h4]

set_option maxHeartbeats 400000 in
theorem implEach (t : ByteArray) (w : World) (h : wordB t = true) :
    Calls Try.prog 48 #[.string t] w fun e w' => e = .returned (.bool (fourB t)) ∧ Below w.heap.size w w' := by
  have HR := Lib.hid (four_sum t h)
  have HC := Lib.hid (fun w => implCounts t w h)
  generalize cnt t.data.toList 97 = a at HR HC
  generalize cnt t.data.toList 98 = b at HR HC
  generalize cnt t.data.toList 99 = c at HR HC
  generalize cnt t.data.toList 100 = d at HR HC
  have heq := fun w => four_eq a b c d 1 1 1 1 w
  go_enter Try.func48, Try.ntmps48
  go_wp2_with fail
  refine (HC.out _).mono ?_
  rintro e w1 ⟨rfl, hb1⟩
  go_wp2_with fail
  go_ret
  refine ⟨ret_bool ?_, hb1⟩
  rw [HR.out, Bool.eq_iff_iff]
  simp
  omega

theorem swapL_at (s t : ByteArray) (k j : Nat) (hk : k < s.size) (hj : s[k].toNat = 97 + j) (hj' : j < t.size) (hk' : k < (swapL t s.data.toList).length) : (swapL t s.data.toList)[k] = t[j] := by
  simp only [swapL, List.getElem_map]
  have e : s.data.toList[k]'(by simpa using hk) = s[k] := rfl
  rw [e, List.getD_eq_getElem?_getD, show s[k].toNat - 97 = j from by omega, List.getElem?_eq_getElem (by simpa using hj')]
  rfl

set_option maxHeartbeats 400000 in
theorem implSwapped (s t : ByteArray) (w : World) (h1 : wordB s = true) (h4 : t.size = 4) :
    Calls Try.prog 49 #[.string s, .string t] w fun e w' => e = .returned (.string ⟨(swapL t s.data.toList).toArray⟩) ∧ Below w.heap.size w w' := by
  obtain ⟨i0, hi0, hz0, hz1, hz2⟩ := info_parts u8_info
  have h400 := word_size h1
  have HW := Lib.hid (word_at h1)
  have ht4 : 4 ≤ t.size := by omega
  have ht5 : t.size ≤ 4 := by omega
  clear h1 h4
  go_enter Try.func49, Try.ntmps49
  go_wp2_with (at_make; refine wpList_make_full _ rfl _ _ 44 rfl w.heap.size 5 i0 (.int .u8 0) 1 Try.underlying44 hi0 hz0 hz1 .i64 .i64 _ _ s.size rfl rfl rfl rfl (by rw [hz2]; omega) (by unfold maxLen; omega) (Nat.le_refl _) ?_; intro w1 hown hgrow)
  have hb1 : Below w.heap.size w w1 := (Below.refl _ _).grown hgrow (Nat.le_refl _) (fun k hk => by cases hk)
  have HL : Hid ((swapL t s.data.toList).length = s.size) := by unfold Hid swapL; simp
  have HD : Hid (((madeCells (Value.int .u8 0).cells (s.size * 1)).toList).length = (swapL t s.data.toList).length) := by
    have := hown.1
    have := HL.out
    unfold Hid
    omega
  have HT := Lib.hid (swapL_at s t)
  generalize (madeCells (Value.int .u8 0).cells (s.size * 1)).toList = zs at hown HD
  generalize hLL : swapL t s.data.toList = L at HL HD HT
  have HLL := Lib.hid hLL
  clear hLL
  go_loopw [12] (fun i w' => ∃ (k : Nat), k ≤ s.size ∧ i = .int .i64 k ∧ w'.ownsRow w.heap.size 5 1 (.slice (some ⟨w.heap.size, 0, none⟩) s.size s.size) s.size (byteCells (L.take k) ++ zs.drop k) ∧ Below w.heap.size w w') (fun i _ => s.size - (intOf i).toNat)
  case atStart => exact ⟨0, by omega, rfl, by simpa [byteCells] using hown, hb1⟩
  case round =>
    obtain ⟨k, hk, rfl, ho, hbk⟩ := hrel
    by_cases hlt : k < s.size
    · have hkL : k < L.length := by rw [HL.out]; exact hlt
      obtain ⟨u, hu⟩ := byteCells_get L zs k hkL HD.out
      have g2 := (ho.cellAt k (by omega)).trans hu
      have g3 := ho.frozenAt k
      obtain ⟨p1, p2⟩ := HW.out k hlt
      obtain ⟨j, hj⟩ : ∃ j, s[k].toNat = 97 + j := ⟨s[k].toNat - 97, by omega⟩
      have hj3 : j ≤ 3 := by omega
      have hjt : j < t.size := by omega
      have hs' := byteCells_set L zs k hkL HD.out
      rw [HT.out k j hlt hj hjt hkL] at hs'
      have HS := Lib.hid hs'
      have HJ := Lib.hid hj
      clear hu hkL hs' hj p1 p2
      go_wp2_with (go_at_call 54; refine (letterIndex_at _ (j : Int) _ (by have := HJ.out; omega) (by omega) (by omega)).mono ?_; rintro e w' ⟨rfl, rfl⟩)
      go_roundw
      case rel =>
        refine ⟨k + 1, by omega, by go_num, ?_, hbk.setCell (Nat.le_refl _) _⟩
        have := (ho.stored k (.int .u8 (t[j].toNat : Int))).1
        rwa [HS.out] at this
      case measure => simp [intOf]; omega
    · have hkl : k = s.size := by omega
      subst hkl
      have ho' : wr.ownsRow w.heap.size 5 1 (.slice (some ⟨w.heap.size, 0, none⟩) s.size s.size) s.size (byteCells L) := by
        rw [← HL.out, byteCells_end L zs HD.out] at ho
        rw [HL.out] at ho
        exact ho
      have hconv := conv_own_to Try.underlying35 ho'
      clear ho ho'
      go_wp2_with fail
      go_ret
      exact ⟨ret_str (by rw [HLL.out]), hbk⟩

theorem implSwapLetters (s t : ByteArray) (w : World) (hs : s.size ≤ 1048576) (ht : t.size ≤ 1048576) :
    Calls Try.prog 33 #[.string s, .string t] w (SwapSaid s t w) := by
  by_cases h1 : wordB s = true
  · by_cases h3 : wordB t = true
    · have HE := Lib.hid (fun w => implEach t w h3)
      by_cases h4 : fourB t = true
      · have hz : t.size = 4 := by
          unfold fourB at h4
          rw [Bool.and_eq_true] at h4
          simpa using h4.1
        have HS := Lib.hid (fun w => implSwapped s t w h1 hz)
        have e1 : swapR s t = ⟨(swapL t s.data.toList).toArray⟩ := if_pos ⟨h1, h4⟩
        have e2 : swapOk s t = true := by unfold swapOk; rw [h1, h4]; rfl
        have HR1 := Lib.hid e1
        have HR2 := Lib.hid e2
        clear e1 e2 hz
        go_enter Try.func33, Try.ntmps33
        go_wp2_with fail
        refine (implWordOk s _ hs).mono ?_
        rintro e w1 ⟨rfl, hb1⟩
        go_wp2_with fail
        refine (implWordOk t _ ht).mono ?_
        rintro e w2 ⟨rfl, hb2⟩
        go_wp2_with fail
        refine (HE.out _).mono ?_
        rintro e w3 ⟨rfl, hb3⟩
        go_wp2_with fail
        refine (HS.out _).mono ?_
        rintro e w4 ⟨rfl, hb4⟩
        go_wp2_with fail
        go_ret2
        have hb12 := hb1.trans (hb2.mono hb1.size)
        have hb13 := hb12.trans (hb3.mono hb12.size)
        refine ⟨?_, hb13.trans (hb4.mono hb13.size)⟩
        rw [HR1.out, HR2.out]
        rfl
      · have h4' : fourB t = false := by simpa using h4
        have hno : swapOk s t = false := by unfold swapOk; rw [h4']; simp
        have HNO := Lib.hid hno
        clear hno h4
        go_enter Try.func33, Try.ntmps33
        go_wp2_with fail
        refine (implWordOk s _ hs).mono ?_
        rintro e w1 ⟨rfl, hb1⟩
        go_wp2_with fail
        refine (implWordOk t _ ht).mono ?_
        rintro e w2 ⟨rfl, hb2⟩
        go_wp2_with fail
        refine (HE.out _).mono ?_
        rintro e w3 ⟨rfl, hb3⟩
        go_wp2_with fail
        go_ret2
        have hb12 := hb1.trans (hb2.mono hb1.size)
        exact swap_no HNO.out (hb12.trans (hb3.mono hb12.size))
    · have hno : swapOk s t = false := by unfold swapOk fourB; rw [show wordB t = false by simpa using h3]; simp
      have h3' : wordB t = false := by simpa using h3
      have HNO := Lib.hid hno
      clear hno h3
      go_enter Try.func33, Try.ntmps33
      go_wp2_with fail
      refine (implWordOk s _ hs).mono ?_
      rintro e w1 ⟨rfl, hb1⟩
      go_wp2_with fail
      refine (implWordOk t _ ht).mono ?_
      rintro e w2 ⟨rfl, hb2⟩
      go_wp2_with fail
      go_ret2
      exact swap_no HNO.out (hb1.trans (hb2.mono hb1.size))
  · have h1' : wordB s = false := by simpa using h1
    have hno : swapOk s t = false := by unfold swapOk; rw [h1']; rfl
    have HNO := Lib.hid hno
    clear hno h1
    go_enter Try.func33, Try.ntmps33
    go_wp2_with fail
    refine (implWordOk s _ hs).mono ?_
    rintro e w1 ⟨rfl, hb1⟩
    go_wp2_with fail
    go_ret2
    exact swap_no HNO.out hb1
end Go.Proofs.Ytbgoajdfhgjgdaa
