/- Texts put together. -/
import Derived.Test.YtgfhconcmoepcaaMgb19
import Derived.Test.YtgfhconcmoepcaaMgb34
import Derived.OwnWalk
import Derived.Test.YtgfhconcmoepcaaMgb3
import Derived.Test.YtgfhconcmoepcaaMgb7
import Derived.Test.YtgfhconcmoepcaaMgb10
/- SwapLetters of the program. Condition: texts of at most 2^20 bytes. -/
namespace Go.Proofs.Ytgfhconcmoepcaa
open Go.RowKit

theorem cnt_sum : ∀ (l : List UInt8), l.all isAbcd = true → cnt l 97 + cnt l 98 + cnt l 99 + cnt l 100 = l.length
  | [], _ => rfl
  | c :: l, h => by
    rw [List.all_cons, Bool.and_eq_true] at h
    have ih := cnt_sum l h.2
    have hc : c = 97 ∨ c = 98 ∨ c = 99 ∨ c = 100 := by
      have := h.1
      simp [isAbcd] at this
      have e : ∀ x : UInt8, c.toNat = x.toNat → c = x := fun x hx => UInt8.toNat_inj.1 hx
      have h97 : (97 : UInt8).toNat = 97 := rfl
      have h98 : (98 : UInt8).toNat = 98 := rfl
      have h99 : (99 : UInt8).toNat = 99 := rfl
      have h100 : (100 : UInt8).toNat = 100 := rfl
      have hn : c.toNat = 97 ∨ c.toNat = 98 ∨ c.toNat = 99 ∨ c.toNat = 100 := by omega
      rcases hn with hn | hn | hn | hn
      · exact .inl (e _ (by omega))
      · exact .inr (.inl (e _ (by omega)))
      · exact .inr (.inr (.inl (e _ (by omega))))
      · exact .inr (.inr (.inr (e _ (by omega))))
    unfold cnt at ih ⊢
    rcases hc with rfl | rfl | rfl | rfl <;> simp <;> omega
theorem four_sum (t : ByteArray) (h : wordB t = true) : fourB t = (decide (cnt t.data.toList 97 = 1) && (decide (cnt t.data.toList 98 = 1) && (decide (cnt t.data.toList 99 = 1) && decide (cnt t.data.toList 100 = 1)))) := by
  have ha : t.data.toList.all isAbcd = true := by
    unfold wordB at h
    rw [Bool.and_eq_true] at h
    exact h.2
  have hs := cnt_sum _ ha
  have hl : t.data.toList.length = t.size := by simp
  unfold fourB
  rw [h, Bool.true_and]
  generalize cnt t.data.toList 97 = a at *
  generalize cnt t.data.toList 98 = b at *
  generalize cnt t.data.toList 99 = c at *
  generalize cnt t.data.toList 100 = d at *
  rw [Bool.eq_iff_iff]
  simp
  omega

theorem four_eq (a b c d x y z u : Int) (w : World) :
    (Op.equalIn 10000 60 (.agg #[.int .i64 a, .int .i64 b, .int .i64 c, .int .i64 d]) (.agg #[.int .i64 x, .int .i64 y, .int .i64 z, .int .i64 u])).run Try.prog w = .ok (a == x && (b == y && (c == z && d == u))) w := by
  have u3 := Try.underlying3
  have a3 := Try.isAgg3
  have z3 := Try.sizeOf3
  rw [show (10000 : Nat) = 9999 + 1 from rfl, Op.equalIn]
  simp only [Sem.run_bind, run_underlying Try.underlying60, Result.andThen_ok]
  simp only [Std.Legacy.Range.forIn_eq_forIn_range', Std.Legacy.Range.size, Nat.sub_zero, Nat.add_sub_cancel, Nat.div_one, List.range'_succ, List.range'_zero, List.forIn_cons, List.forIn_nil]
  go_simp
  by_cases h1 : a = x <;> by_cases h2 : b = y <;> by_cases h3 : c = z <;> by_cases h4 : d = u <;> simp [h1, h2, h3, h4]

set_option maxHeartbeats 400000 in
theorem implEach (t : ByteArray) (w : World) (h : wordB t = true) :
    Calls Try.prog 78 #[.string t] w fun e w' => e = .returned (.bool (fourB t)) ∧ Below w.heap.size w w' := by
  have HR := Lib.hid (four_sum t h)
  have HC := Lib.hid (fun w => implCounts t w h)
  generalize cnt t.data.toList 97 = a at HR HC
  generalize cnt t.data.toList 98 = b at HR HC
  generalize cnt t.data.toList 99 = c at HR HC
  generalize cnt t.data.toList 100 = d at HR HC
  have heq := fun w => four_eq a b c d 1 1 1 1 w
  go_enter Try.func78, Try.ntmps78
  go_wp2_with fail
  refine (HC.out _).mono ?_
  rintro e w1 ⟨rfl, hb1⟩
  go_wp2_with fail
  go_ret
  refine ⟨ret_bool ?_, hb1⟩
  rw [HR.out, Bool.eq_iff_iff]
  simp
  omega

theorem swapL_at (s t : ByteArray) (k j : Nat) (hk : k < s.size) (hj : s[k].toNat = 97 + j) (hj' : j < t.size) (hk' : k < (swapL t s.data.toList).length) : (swapL t s.data.toList)[k] = t[j] := by
  simp only [swapL, List.getElem_map]
  have e : s.data.toList[k]'(by simpa using hk) = s[k] := rfl
  rw [e, List.getD_eq_getElem?_getD, show s[k].toNat - 97 = j from by omega, List.getElem?_eq_getElem (by simpa using hj')]
  rfl

set_option maxHeartbeats 400000 in
theorem implSwapped (s t : ByteArray) (w : World) (h1 : wordB s = true) (h4 : t.size = 4) :
    Calls Try.prog 79 #[.string s, .string t] w fun e w' => e = .returned (.string ⟨(swapL t s.data.toList).toArray⟩) ∧ Below w.heap.size w w' := by
  obtain ⟨i0, hi0, hz0, hz1, hz2⟩ := info_parts u8_info
  have h400 := word_size h1
  have HW := Lib.hid (word_at h1)
  have ht4 : 4 ≤ t.size := by omega
  have ht5 : t.size ≤ 4 := by omega
  clear h1 h4
  go_enter Try.func79, Try.ntmps79
  go_wp2_with (at_make; refine wpList_make_full _ rfl _ _ 22 rfl w.heap.size 5 i0 (.int .u8 0) 1 Try.underlying22 hi0 hz0 hz1 .i64 .i64 _ _ s.size rfl rfl rfl rfl (by rw [hz2]; omega) (by unfold maxLen; omega) (Nat.le_refl _) ?_; intro w1 hown hgrow)
  have hb1 : Below w.heap.size w w1 := (Below.refl _ _).grown hgrow (Nat.le_refl _) (fun k hk => by cases hk)
  have HL : Hid ((swapL t s.data.toList).length = s.size) := by unfold Hid swapL; simp
  have HD : Hid (((madeCells (Value.int .u8 0).cells (s.size * 1)).toList).length = (swapL t s.data.toList).length) := by
    have := hown.1
    have := HL.out
    unfold Hid
    omega
  have HT := Lib.hid (swapL_at s t)
  generalize (madeCells (Value.int .u8 0).cells (s.size * 1)).toList = zs at hown HD
  generalize hLL : swapL t s.data.toList = L at HL HD HT
  have HLL := Lib.hid hLL
  clear hLL
  go_loopw [12] (fun i w' => ∃ (k : Nat), k ≤ s.size ∧ i = .int .i64 k ∧ w'.ownsRow w.heap.size 5 1 (.slice (some ⟨w.heap.size, 0, none⟩) s.size s.size) s.size (byteCells (L.take k) ++ zs.drop k) ∧ Below w.heap.size w w') (fun i _ => s.size - (intOf i).toNat)
  case atStart => exact ⟨0, by omega, rfl, by simpa [byteCells] using hown, hb1⟩
  case round =>
    obtain ⟨k, hk, rfl, ho, hbk⟩ := hrel
    by_cases hlt : k < s.size
    · have hkL : k < L.length := by rw [HL.out]; exact hlt
      obtain ⟨u, hu⟩ := byteCells_get L zs k hkL HD.out
      have g2 := (ho.cellAt k (by omega)).trans hu
      have g3 := ho.frozenAt k
      obtain ⟨p1, p2⟩ := HW.out k hlt
      obtain ⟨j, hj⟩ : ∃ j, s[k].toNat = 97 + j := ⟨s[k].toNat - 97, by omega⟩
      have hj3 : j ≤ 3 := by omega
      have hjt : j < t.size := by omega
      have hs' := byteCells_set L zs k hkL HD.out
      rw [HT.out k j hlt hj hjt hkL] at hs'
      have HS := Lib.hid hs'
      have HJ := Lib.hid hj
      clear hu hkL hs' hj p1 p2
      go_wp2_with (go_at_call 93; refine (letterIndex_at _ (j : Int) _ (by have := HJ.out; omega) (by omega) (by omega)).mono ?_; rintro e w' ⟨rfl, rfl⟩)
      go_roundw
      case rel =>
        refine ⟨k + 1, by omega, by go_num, ?_, hbk.setCell (Nat.le_refl _) _⟩
        have := (ho.stored k (.int .u8 (t[j].toNat : Int))).1
        rwa [HS.out] at this
      case measure => simp [intOf]; omega
    · have hkl : k = s.size := by omega
      subst hkl
      have ho' : wr.ownsRow w.heap.size 5 1 (.slice (some ⟨w.heap.size, 0, none⟩) s.size s.size) s.size (byteCells L) := by
        rw [← HL.out, byteCells_end L zs HD.out] at ho
        rw [HL.out] at ho
        exact ho
      have hconv := conv_own_to Try.underlying54 ho'
      clear ho ho'
      go_wp2_with fail
      go_ret
      exact ⟨ret_str (by rw [HLL.out]), hbk⟩

theorem implSwapLetters (s t : ByteArray) (w : World) (hs : s.size ≤ 1048576) (ht : t.size ≤ 1048576) :
    Calls Try.prog 41 #[.string s, .string t] w (SwapSaid s t w) := by
  by_cases h1 : wordB s = true
  · by_cases h3 : wordB t = true
    · have HE := Lib.hid (fun w => implEach t w h3)
      by_cases h4 : fourB t = true
      · have hz : t.size = 4 := by
          unfold fourB at h4
          rw [Bool.and_eq_true] at h4
          simpa using h4.1
        have HS := Lib.hid (fun w => implSwapped s t w h1 hz)
        have e1 : swapR s t = ⟨(swapL t s.data.toList).toArray⟩ := if_pos ⟨h1, h4⟩
        have e2 : swapOk s t = true := by unfold swapOk; rw [h1, h4]; rfl
        have HR1 := Lib.hid e1
        have HR2 := Lib.hid e2
        clear e1 e2 hz
        go_enter Try.func41, Try.ntmps41
        go_wp2_with fail
        refine (implWordOk s _ hs).mono ?_
        rintro e w1 ⟨rfl, hb1⟩
        go_wp2_with fail
        refine (implWordOk t _ ht).mono ?_
        rintro e w2 ⟨rfl, hb2⟩
        go_wp2_with fail
        refine (HE.out _).mono ?_
        rintro e w3 ⟨rfl, hb3⟩
        go_wp2_with fail
        refine (HS.out _).mono ?_
        rintro e w4 ⟨rfl, hb4⟩
        go_wp2_with fail
        go_ret2
        have hb12 := hb1.trans (hb2.mono hb1.size)
        have hb13 := hb12.trans (hb3.mono hb12.size)
        refine ⟨?_, hb13.trans (hb4.mono hb13.size)⟩
        rw [HR1.out, HR2.out]
        rfl
      · have h4' : fourB t = false := by simpa using h4
        have hno : swapOk s t = false := by unfold swapOk; rw [h4']; simp
        have HNO := Lib.hid hno
        clear hno h4
        go_enter Try.func41, Try.ntmps41
        go_wp2_with fail
        refine (implWordOk s _ hs).mono ?_
        rintro e w1 ⟨rfl, hb1⟩
        go_wp2_with fail
        refine (implWordOk t _ ht).mono ?_
        rintro e w2 ⟨rfl, hb2⟩
        go_wp2_with fail
        refine (HE.out _).mono ?_
        rintro e w3 ⟨rfl, hb3⟩
        go_wp2_with fail
        go_ret2
        have hb12 := hb1.trans (hb2.mono hb1.size)
        exact swap_no HNO.out (hb12.trans (hb3.mono hb12.size))
    · have hno : swapOk s t = false := by unfold swapOk fourB; rw [show wordB t = false by simpa using h3]; simp
      have h3' : wordB t = false := by simpa using h3
      have HNO := Lib.hid hno
      clear hno h3
      go_enter Try.func41, Try.ntmps41
      go_wp2_with fail
      refine (implWordOk s _ hs).mono ?_
      rintro e w1 ⟨rfl, hb1⟩
      go_wp2_with fail
      refine (implWordOk t _ ht).mono ?_
      rintro e w2 ⟨rfl, hb2⟩
      go_wp2_with fail
      go_ret2
      exact swap_no HNO.out (hb1.trans (hb2.mono hb1.size))
  · have h1' : wordB s = false := by simpa using h1
    have hno : swapOk s t = false := by unfold swapOk; rw [h1']; rfl
    have HNO := Lib.hid hno
    clear hno h1
    go_enter Try.func41, Try.ntmps41
    go_wp2_with fail
    refine (implWordOk s _ hs).mono ?_
    rintro e w1 ⟨rfl, hb1⟩
    go_wp2_with fail
    go_ret2
    exact swap_no HNO.out hb1
end Go.Proofs.Ytgfhconcmoepcaa

/- l04Square and TraceOf of the model. Conditions: lengths that an int holds. -/
namespace Go.Proofs.Ytgfhconcmoepcaa
open Go.RowKit
/-- a row of a square matrix, cell by cell -/
theorem sq_row {w : World} {v : Value} {m : List (List Int)} (h : Mat w v m) (hs : sqB m = true) : ∃ b off cap, v = .slice (some ⟨b, off, none⟩) m.length cap ∧ m.length ≤ cap ∧ ∀ k, k < m.length → ∃ b2 off2 cap2, w.cell? ⟨b, off + k, none⟩ = some (.slice (some ⟨b2, off2, none⟩) m.length cap2) ∧ m.length ≤ cap2 ∧ cap2 ≤ maxLen ∧ ∀ j, j < m.length → w.cell? ⟨b2, off2 + j, none⟩ = some (.int .i64 (at2 m k j)) := by
  obtain ⟨h1, h4, h5, _⟩ := sq_parts hs
  obtain ⟨b, off, cap, e, q1, q2, hr⟩ := mat_rows h (by omega)
  refine ⟨b, off, cap, e, q1, fun k hk => ?_⟩
  obtain ⟨u, g1, ⟨A, cap2, e2, c1, c2, h2⟩⟩ := hr k hk
  rw [ints_length, h5 k hk] at e2 c1
  replace h2 := h2.resolve_left (by
    intro e
    have := congrArg List.length e
    rw [ints_length, h5 k hk] at this
    simp only [List.length_nil] at this
    omega)
  obtain ⟨b2, off2, rfl, h2⟩ := h2
  refine ⟨b2, off2, cap2, by rw [g1, e2], c1, c2, fun j hj => ?_⟩
  have hj' : j < m[k].length := by rw [h5 k hk]; exact hj
  rw [at2_eq m k j hk hj']
  exact ints_at h2 j hj'

theorem at2_small {m : List (List Int)} (hs : sqB m = true) (i k : Nat) (hi : i < m.length) (hk : k < m.length) : -100 ≤ at2 m i k ∧ at2 m i k ≤ 100 := by
  obtain ⟨_, _, h5, h6⟩ := sq_parts hs
  have hk' : k < m[i].length := by rw [h5 i hi]; exact hk
  rw [at2_eq m i k hi hk']
  exact h6 i hi k hk'
theorem trTo_bound {m : List (List Int)} (hs : sqB m = true) : ∀ k, k ≤ m.length → -(100 * k : Int) ≤ trTo m k ∧ trTo m k ≤ 100 * k
  | 0, _ => by simp [trTo]
  | k + 1, h => by
    have ih := trTo_bound hs k (by omega)
    have := at2_small hs k k (by omega) (by omega)
    unfold trTo
    omega

end Go.Proofs.Ytgfhconcmoepcaa

/- Determinants by the first row. No program in it. -/
namespace Go.Proofs.Ytgfhconcmoepcaa
open Go.RowKit

def sgnN (k : Nat) : Int := if k % 2 = 0 then 1 else -1
theorem sgnN_succ (k : Nat) : sgnN (k + 1) = -sgnN k := by
  unfold sgnN
  rcases Nat.mod_two_eq_zero_or_one k with h | h
  · rw [if_pos h, if_neg (show ¬ (k + 1) % 2 = 0 by omega)]
  · rw [if_pos (show (k + 1) % 2 = 0 by omega), if_neg (show ¬ k % 2 = 0 by omega)]; rfl
theorem sgnN_two (k : Nat) : sgnN k = 1 ∨ sgnN k = -1 := by
  unfold sgnN
  split
  · exact .inl rfl
  · exact .inr rfl
/-- a row without its number k -/
def cutR (k : Nat) (r : List Int) : List Int := r.take k ++ r.drop (k + 1)
def minorM (m : List (List Int)) (k : Nat) : List (List Int) := (m.drop 1).map (cutR k)
def sumTo (f : Nat → Int) : Nat → Int
  | 0 => 0
  | k + 1 => sumTo f k + f k
/-- the determinant of a matrix of n rows, by its first row -/
def detS : Nat → List (List Int) → Int
  | 0, _ => 1
  | n + 1, m => sumTo (fun k => sgnN k * at2 m 0 k * detS n (minorM m k)) (n + 1)
def SqN (n : Nat) (m : List (List Int)) : Prop := m.length = n ∧ (∀ i (h : i < m.length), m[i].length = n) ∧ ∀ i k, i < n → k < n → -100 ≤ at2 m i k ∧ at2 m i k ≤ 100
theorem sqN_of {m : List (List Int)} (h : sqB m = true) : SqN m.length m := ⟨rfl, (sq_parts h).2.2.1, fun i k hi hk => at2_small h i k hi hk⟩
theorem minorM_length (m : List (List Int)) (k : Nat) : (minorM m k).length = m.length - 1 := by simp [minorM]
theorem minorM_at (m : List (List Int)) (k i : Nat) (h : i < (minorM m k).length) (h' : i + 1 < m.length) : (minorM m k)[i] = cutR k m[i + 1] := by simp [minorM]
theorem cutR_length (k : Nat) (r : List Int) (h : k < r.length) : (cutR k r).length = r.length - 1 := by
  unfold cutR
  rw [List.length_append, List.length_take, List.length_drop]
  omega
theorem cutR_getD (k : Nat) (r : List Int) (h : k < r.length) (q : Nat) : (cutR k r).getD q 0 = r.getD (if q < k then q else q + 1) 0 := by
  unfold cutR
  rw [List.getD_eq_getElem?_getD, List.getD_eq_getElem?_getD]
  have hl : (r.take k).length = k := by rw [List.length_take]; omega
  by_cases hq : q < k
  · rw [if_pos hq, List.getElem?_append_left (by omega), List.getElem?_take, if_pos hq]
  · rw [if_neg hq, List.getElem?_append_right (by omega), hl, List.getElem?_drop]
    congr 2
    omega
theorem minor_at2 {n : Nat} {m : List (List Int)} (h : SqN (n + 1) m) (k : Nat) (hk : k < n + 1) (i q : Nat) (hi : i < n) : at2 (minorM m k) i q = at2 m (i + 1) (if q < k then q else q + 1) := by
  obtain ⟨h1, h2, _⟩ := h
  have hl : i < (minorM m k).length := by rw [minorM_length]; omega
  have hi1 : i + 1 < m.length := by omega
  unfold at2
  rw [List.getD_eq_getElem?_getD (l := minorM m k), List.getD_eq_getElem?_getD (l := m), List.getElem?_eq_getElem hl, List.getElem?_eq_getElem hi1, Option.getD_some, Option.getD_some, minorM_at m k i hl hi1]
  exact cutR_getD k _ (by rw [h2 _ hi1]; exact hk) q
theorem minor_sq {n : Nat} {m : List (List Int)} (h : SqN (n + 1) m) (k : Nat) (hk : k < n + 1) : SqN n (minorM m k) := by
  obtain ⟨h1, h2, h3⟩ := id h
  refine ⟨by rw [minorM_length]; omega, fun i hi => ?_, fun i q hi hq => ?_⟩
  · have hi1 : i + 1 < m.length := by rw [minorM_length] at hi; omega
    rw [minorM_at m k i hi hi1, cutR_length k _ (by rw [h2 _ hi1]; exact hk), h2 _ hi1]
    rfl
  · rw [minor_at2 h k hk i q hi]
    split
    · exact h3 _ _ (by omega) (by omega)
    · exact h3 _ _ (by omega) (by omega)
/-- how large a determinant of n rows can be -/
def detMax : Nat → Int
  | 0 => 1
  | n + 1 => (n + 1 : Nat) * (100 * detMax n)
theorem term_bound {n : Nat} {m : List (List Int)} (h : SqN (n + 1) m) (k : Nat) (hk : k < n + 1) {d D : Int} (hd : -D ≤ d ∧ d ≤ D) : (-100 ≤ sgnN k * at2 m 0 k ∧ sgnN k * at2 m 0 k ≤ 100) ∧ -(100 * D) ≤ sgnN k * at2 m 0 k * d ∧ sgnN k * at2 m 0 k * d ≤ 100 * D := by
  have h3 := h.2.2 0 k (by omega) hk
  have h1 : -100 ≤ sgnN k * at2 m 0 k ∧ sgnN k * at2 m 0 k ≤ 100 := by
    rcases sgnN_two k with e | e <;> rw [e] <;> omega
  exact ⟨h1, mul_bound h1 hd⟩
theorem sumTo_bound {f : Nat → Int} {D : Int} (n : Nat) (h : ∀ k, k < n → -D ≤ f k ∧ f k ≤ D) : ∀ k, k ≤ n → -(k * D) ≤ sumTo f k ∧ sumTo f k ≤ k * D
  | 0, _ => by simp [sumTo]
  | k + 1, hk => by
    have ih := sumTo_bound n h k (by omega)
    have hb := h k (by omega)
    have e : ((k + 1 : Nat) : Int) * D = k * D + D := by rw [Int.natCast_add, Int.add_mul]; simp
    rw [e]
    unfold sumTo
    omega
theorem det_bound : ∀ (n : Nat) (m : List (List Int)), SqN n m → -detMax n ≤ detS n m ∧ detS n m ≤ detMax n
  | 0, _, _ => by simp [detS, detMax]
  | n + 1, m, h => by
    have hb := sumTo_bound (f := fun k => sgnN k * at2 m 0 k * detS n (minorM m k)) (D := 100 * detMax n) (n + 1) (fun k hk => (term_bound h k hk (det_bound n _ (minor_sq h k hk))).2) (n + 1) (Nat.le_refl _)
    exact hb
/-- what DeterminantOf is to return -/
def detR (m : List (List Int)) : Int := if sqB m = true then detS m.length m else 0
end Go.Proofs.Ytgfhconcmoepcaa

/- Signs of powers of a matrix. No program in it. -/
namespace Go.Proofs.Ytgfhconcmoepcaa
open Go.RowKit

/-- whether one of the first j products of a row and a column has both numbers above 0 -/
def sgB (a b : List (List Int)) (i k : Nat) : Nat → Bool
  | 0 => false
  | j + 1 => sgB a b i k j || (decide (0 < at2 a i j) && decide (0 < at2 b j k))
def sgI (a b : List (List Int)) (i k j : Nat) : Int := if sgB a b i k j = true then 1 else 0
def sgRow (a b : List (List Int)) (i : Nat) : List Int := (List.range b.length).map fun k => sgI a b i k b.length
def sgM (a b : List (List Int)) : List (List Int) := (List.range a.length).map (sgRow a b)
theorem sgM_length (a b : List (List Int)) : (sgM a b).length = a.length := by simp [sgM]
theorem sgRow_length (a b : List (List Int)) (i : Nat) : (sgRow a b i).length = b.length := by simp [sgRow]
theorem sgM_at (a b : List (List Int)) (i : Nat) (h : i < (sgM a b).length) : (sgM a b)[i] = sgRow a b i := by simp [sgM]
theorem sgRow_take (a b : List (List Int)) (i k : Nat) (h : k < b.length) : ints ((sgRow a b i).take (k + 1)) = ints ((sgRow a b i).take k) ++ [.int .i64 (sgI a b i k b.length)] := by
  have hk : k < (sgRow a b i).length := by rw [sgRow_length]; exact h
  rw [List.take_succ_eq_append_getElem hk, ints_snoc]
  congr 3
  simp [sgRow]
theorem sgI_yes {a b : List (List Int)} {i k j : Nat} (h1 : 0 < at2 a i j) (h2 : 0 < at2 b j k) : sgI a b i k (j + 1) = 1 := by
  unfold sgI
  rw [if_pos]
  show (sgB a b i k j || _) = true
  rw [decide_eq_true h1, decide_eq_true h2]
  simp
theorem sgI_no {a b : List (List Int)} {i k j : Nat} (h : (decide (0 < at2 a i j) && decide (0 < at2 b j k)) = false) : sgI a b i k (j + 1) = sgI a b i k j := by
  unfold sgI
  have : sgB a b i k (j + 1) = sgB a b i k j := by
    show (sgB a b i k j || _) = _
    rw [h, Bool.or_false]
  rw [this]
/-- all rows have n numbers, and there are n rows -/
def RectN (n : Nat) (m : List (List Int)) : Prop := m.length = n ∧ ∀ i (h : i < m.length), m[i].length = n
theorem sgM_rect {n : Nat} {a b : List (List Int)} (ha : RectN n a) (hb : RectN n b) : RectN n (sgM a b) :=
  ⟨by rw [sgM_length]; exact ha.1, fun i h => by rw [sgM_at, sgRow_length]; exact hb.1⟩
theorem matL_rect (l : List ByteArray) : RectN l.length (matL l) := ⟨matL_length l, matL_row l⟩
/-- the signs of a power -/
def powS (l : List ByteArray) : Nat → List (List Int)
  | 0 => matL l
  | i + 1 => sgM (powS l i) (matL l)
theorem powS_rect (l : List ByteArray) : ∀ i, RectN l.length (powS l i)
  | 0 => matL_rect l
  | i + 1 => sgM_rect (powS_rect l i) (matL_rect l)
def posRow (m : List (List Int)) (i : Nat) : Nat → Bool
  | 0 => true
  | k + 1 => posRow m i k && decide (0 < at2 m i k)
def posTo (m : List (List Int)) (n : Nat) : Nat → Bool
  | 0 => true
  | i + 1 => posTo m n i && posRow m i n
/-- whether one of the first powers has no number 0 -/
def primTo (l : List ByteArray) : Nat → Bool
  | 0 => false
  | i + 1 => primTo l i || posTo (powS l i) l.length l.length
theorem primTo_mono {l : List ByteArray} {i : Nat} (h : primTo l i = true) : ∀ n, primTo l (i + n) = true
  | 0 => h
  | n + 1 => by
    show (primTo l (i + n) || _) = true
    rw [primTo_mono h n, Bool.true_or]
/-- what IsPrimitiveSubst is to return -/
def primR (l : List ByteArray) : Bool := substB l && primTo l 16
end Go.Proofs.Ytgfhconcmoepcaa
