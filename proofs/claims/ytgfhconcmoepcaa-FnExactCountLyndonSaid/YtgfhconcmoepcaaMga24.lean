/- Texts put together. -/
import Derived.Test.YtgfhconcmoepcaaMga8
import Derived.Deep.QuietTactic
import Derived.BigQuiet
import Derived.Test.YtgfhconcmoepcaaMga21
import Derived.Test.YtgfhconcmoepcaaMga23
import Derived.Test.YtgfhconcmoepcaaMga9
import Derived.Test.YtgfhconcmoepcaaMga22
import Derived.Test.YtgfhconcmoepcaaMga6
/- CommonStart of the model. Condition: texts of at most 2^20 bytes. -/
namespace Go.Proofs.Ytgfhconcmoepcaa
open Go.RowKit

/-- how many bytes at their beginnings two texts share -/
def lcp : List UInt8 → List UInt8 → Nat
  | a :: l, b :: m => if a = b then lcp l m + 1 else 0
  | _, _ => 0
theorem lcp_eq : ∀ (n : Nat) (l m : List UInt8), l.take n = m.take n → n ≤ l.length → n ≤ m.length → (n = l.length ∨ n = m.length ∨ ∀ a b, l[n]? = some a → m[n]? = some b → a ≠ b) → lcp l m = n
  | 0, l, m, _, _, _, h => by
    match l, m, h with
    | [], _, _ => rfl
    | _ :: _, [], _ => rfl
    | a :: l, b :: m, h =>
      have hab : a ≠ b := by
        rcases h with h | h | h
        · simp at h
        · simp at h
        · exact h a b rfl rfl
      show (if a = b then lcp l m + 1 else 0) = 0
      rw [if_neg hab]
  | n + 1, l, m, ht, hl, hm, h => by
    match l, m, ht, hl, hm, h with
    | a :: l, b :: m, ht, hl, hm, h =>
      rw [List.take_succ_cons, List.take_succ_cons] at ht
      injection ht with h1 h2
      show (if a = b then lcp l m + 1 else 0) = n + 1
      rw [if_pos h1, lcp_eq n l m h2 (by simpa using hl) (by simpa using hm) (by simpa using h)]
/-- what CommonStart is to return -/
def commonR (s t : ByteArray) : Int := if wordB s = true ∧ wordB t = true then (lcp s.data.toList t.data.toList : Int) else -1

theorem at_some (s : ByteArray) (k : Nat) (h : k < s.size) : s.data.toList[k]? = some s[k] := List.getElem?_eq_getElem (by simpa using h)

end Go.Proofs.Ytgfhconcmoepcaa

/- The mathematics of FnLetters: counts, turned and shifted words, letters put in other places. No program in it. -/
namespace Go.Proofs.Ytgfhconcmoepcaa
open Go.RowKit

/-! ### counts -/
theorem lt_sum : ∀ l : List UInt8, l.all isAbcd = true → cnt l 97 + cnt l 98 + cnt l 99 + cnt l 100 = l.length
  | [], _ => rfl
  | a :: l, h => by
    rw [List.all_cons, Bool.and_eq_true] at h
    have ih := lt_sum l h.2
    have ha := h.1
    unfold isAbcd at ha
    rw [Bool.and_eq_true, decide_eq_true_eq, decide_eq_true_eq] at ha
    unfold cnt at ih ⊢
    have hc : a.toNat = 97 ∨ a.toNat = 98 ∨ a.toNat = 99 ∨ a.toNat = 100 := by omega
    simp only [List.count_cons, List.length_cons]
    rcases hc with e | e | e | e
    · obtain rfl : a = 97 := UInt8.toNat.inj e
      simp; omega
    · obtain rfl : a = 98 := UInt8.toNat.inj e
      simp; omega
    · obtain rfl : a = 99 := UInt8.toNat.inj e
      simp; omega
    · obtain rfl : a = 100 := UInt8.toNat.inj e
      simp; omega
theorem wordT {s : ByteArray} (hw : wordB s = true) : wordB (turnS s) = true := by
  unfold wordB at hw ⊢
  rw [Bool.and_eq_true, decide_eq_true_eq, List.all_eq_true] at hw ⊢
  refine ⟨by rw [turn_size]; exact hw.1, fun c hc => hw.2 c ?_⟩
  have hc : c ∈ s.data.toList.reverse := hc
  rwa [List.mem_reverse] at hc
theorem counts_sum {s : ByteArray} (hw : wordB s = true) : ∃ a b c d : Nat, countsR s = [(a : Int), (b : Int), (c : Int), (d : Int)] ∧ a + b + c + d = s.size ∧ countR s ⟨#[98]⟩ = b := by
  refine ⟨cnt s.data.toList 97, cnt s.data.toList 98, cnt s.data.toList 99, cnt s.data.toList 100, if_pos hw, ?_, ?_⟩
  · unfold wordB at hw
    rw [Bool.and_eq_true] at hw
    rw [lt_sum _ hw.2, pl_len]
  · unfold countR
    rw [dif_pos ⟨hw, rfl, rfl⟩]
    rfl
theorem counts_turn {s : ByteArray} (hw : wordB s = true) : turnR s = turnS s ∧ countsR (turnS s) = countsR s ∧ turnR (turnS s) = s := by
  refine ⟨if_pos hw, ?_, ?_⟩
  · unfold countsR
    rw [wordT hw, hw]
    have : (turnS s).data.toList = s.data.toList.reverse := rfl
    unfold cnt
    rw [this, List.count_reverse, List.count_reverse, List.count_reverse, List.count_reverse]
  · unfold turnR
    rw [if_pos (wordT hw), turn_turn]

/-! ### shifts -/
theorem shift_rot {s : ByteArray} (hw : wordB s = true) {k : Nat} (hk : k ≤ s.size) : shiftR s k = rotS s k := by
  unfold shiftR
  rw [if_pos ⟨hw, by omega, by omega⟩, Int.toNat_natCast]
  rfl
theorem rot_word {s : ByteArray} (hw : wordB s = true) {k : Nat} (hk : k ≤ s.size) : wordB (rotS s k) = true := by
  have hz := rot_size s hk
  unfold wordB at hw ⊢
  rw [Bool.and_eq_true, decide_eq_true_eq, List.all_eq_true] at hw ⊢
  refine ⟨by omega, fun c hc => hw.2 c ?_⟩
  rw [rot_list s k hk, List.mem_append] at hc
  rcases hc with hc | hc
  · exact List.mem_of_mem_drop hc
  · exact List.mem_of_mem_take hc
theorem rot_full (s : ByteArray) : rotS s s.size = s := by
  refine pl_ext (rot_size s (Nat.le_refl _)) fun i hi => ?_
  rw [rot_size s (Nat.le_refl _)] at hi
  rw [rot_get s (Nat.le_refl _) hi, Nat.add_mod_left, Nat.mod_eq_of_lt hi]
theorem shift_back {s : ByteArray} (hw : wordB s = true) {k : Nat} (hk : k ≤ s.size) : shiftR (rotS s k) ((s.size : Int) - (k : Int)) = s := by
  have hz := rot_size s hk
  rw [show (s.size : Int) - (k : Int) = ((s.size - k : Nat) : Int) by omega, shift_rot (rot_word hw hk) (by omega)]
  by_cases h0 : k = 0
  · subst h0
    rw [rot_zero, Nat.sub_zero, rot_full]
  · rw [rot_rot s hk (by omega), Nat.add_sub_cancel' hk, Nat.mod_self, rot_zero]
theorem cj_rot {s : ByteArray} (hw : wordB s = true) {k : Nat} (hk : k ≤ s.size) : cjR s (rotS s k) = true := by
  have hz := rot_size s hk
  have hh : hasR (s ++ s) (rotS s k) = true := hasR_yes (i := k) ⟨by rw [hz, ByteArray.size_append]; omega, by
    have ha : (s ++ s).size = s.size + s.size := ByteArray.size_append
    rw [hz]
    have hpz := pz_size (s ++ s) k s.size (by omega)
    refine pl_ext (by omega) fun i hi => ?_
    rw [hpz] at hi
    rw [pz_list _ k s.size i hi, rot_get s hk hi, ByteArray.data_append, Array.toList_append]
    by_cases h : k + i < s.size
    · rw [List.getElem?_append_left (by rw [pl_len]; exact h), Nat.mod_eq_of_lt h]
    · rw [List.getElem?_append_right (by rw [pl_len]; omega), pl_len, Nat.mod_eq_sub_mod (by omega), Nat.mod_eq_of_lt (by omega)]⟩
  unfold cjR
  rw [hw, rot_word hw hk, hz, decide_eq_true rfl, hh]
  rfl

/-! ### letters in other places -/
theorem swap_key : ∀ c : UInt8, isAbcd c = true → isAbcd ((⟨#[98, 99, 100, 97]⟩ : ByteArray).data.toList.getD (c.toNat - 97) 0) = true ∧ (⟨#[100, 97, 98, 99]⟩ : ByteArray).data.toList.getD (((⟨#[98, 99, 100, 97]⟩ : ByteArray).data.toList.getD (c.toNat - 97) 0).toNat - 97) 0 = c := by
  intro c hc
  unfold isAbcd at hc
  rw [Bool.and_eq_true, decide_eq_true_eq, decide_eq_true_eq] at hc
  have hc : c.toNat = 97 ∨ c.toNat = 98 ∨ c.toNat = 99 ∨ c.toNat = 100 := by omega
  rcases hc with e | e | e | e
  · obtain rfl : c = 97 := UInt8.toNat.inj e
    exact ⟨rfl, rfl⟩
  · obtain rfl : c = 98 := UInt8.toNat.inj e
    exact ⟨rfl, rfl⟩
  · obtain rfl : c = 99 := UInt8.toNat.inj e
    exact ⟨rfl, rfl⟩
  · obtain rfl : c = 100 := UInt8.toNat.inj e
    exact ⟨rfl, rfl⟩
theorem swapL_cons (t : ByteArray) (a : UInt8) (l : List UInt8) : swapL t (a :: l) = t.data.toList.getD (a.toNat - 97) 0 :: swapL t l := rfl
theorem swap_two : ∀ l : List UInt8, (∀ c ∈ l, isAbcd c = true) → swapL ⟨#[100, 97, 98, 99]⟩ (swapL ⟨#[98, 99, 100, 97]⟩ l) = l
  | [], _ => rfl
  | a :: l, h => by
    rw [swapL_cons, swapL_cons, swap_two l (fun c hc => h c (List.mem_cons_of_mem _ hc)), (swap_key a (h a List.mem_cons_self)).2]
theorem swap_back {s : ByteArray} (hw : wordB s = true) : swapOk s ⟨#[98, 99, 100, 97]⟩ = true ∧ ∃ x, swapR s ⟨#[98, 99, 100, 97]⟩ = x ∧ x.size = s.size ∧ swapOk x ⟨#[100, 97, 98, 99]⟩ = true ∧ swapR x ⟨#[100, 97, 98, 99]⟩ = s := by
  have f1 : fourB ⟨#[98, 99, 100, 97]⟩ = true := by decide
  have f2 : fourB ⟨#[100, 97, 98, 99]⟩ = true := by decide
  have hall := hw
  unfold wordB at hall
  rw [Bool.and_eq_true, decide_eq_true_eq, List.all_eq_true] at hall
  have hx : swapR s ⟨#[98, 99, 100, 97]⟩ = ⟨(swapL ⟨#[98, 99, 100, 97]⟩ s.data.toList).toArray⟩ := if_pos ⟨hw, f1⟩
  have hz : (⟨(swapL ⟨#[98, 99, 100, 97]⟩ s.data.toList).toArray⟩ : ByteArray).size = s.size := by
    show ((swapL ⟨#[98, 99, 100, 97]⟩ s.data.toList).toArray).size = _
    unfold swapL
    simp
  have hxw : wordB (⟨(swapL ⟨#[98, 99, 100, 97]⟩ s.data.toList).toArray⟩ : ByteArray) = true := by
    unfold wordB
    rw [Bool.and_eq_true, decide_eq_true_eq, List.all_eq_true]
    refine ⟨by omega, fun c hc => ?_⟩
    obtain ⟨a, ha, rfl⟩ := List.mem_map.1 (show c ∈ swapL ⟨#[98, 99, 100, 97]⟩ s.data.toList from hc)
    exact (swap_key a (hall.2 a ha)).1
  refine ⟨by unfold swapOk; rw [hw, f1]; rfl, _, hx, hz, by unfold swapOk; rw [hxw, f2]; rfl, ?_⟩
  rw [show swapR _ ⟨#[100, 97, 98, 99]⟩ = _ from if_pos ⟨hxw, f2⟩]
  apply bytes_ext
  rw [ByteArray.toList_eq, ByteArray.toList_eq]
  show swapL ⟨#[100, 97, 98, 99]⟩ (swapL ⟨#[98, 99, 100, 97]⟩ s.data.toList) = s.data.toList
  exact swap_two _ hall.2
end Go.Proofs.Ytgfhconcmoepcaa

/- LeastShift of the program. Condition: a text of at most 2^20 bytes. -/
namespace Go.Proofs.Ytgfhconcmoepcaa
open Go.RowKit

set_option maxRecDepth 100000 in
set_option maxHeartbeats 1000000 in
theorem implLeastShift (s : ByteArray) (w : World) (hs : s.size ≤ 1048576) :
    Calls Try.prog 24 #[.string s] w fun e w' => e = .returned (.int .i64 (lsR s)) ∧ Below w.heap.size w w' := by
  have HC := Lib.hid (fun w => implWordOk s w hs)
  cases hw : wordB s
  · have HV : Hid (lsR s = -1) := by show _ = _; unfold lsR; rw [hw]; rfl
    rw [hw] at HC
    clear hw
    go_enter Try.func24, Try.ntmps24
    go_wp2_with fail
    refine (HC.out _).mono ?_
    rintro e w1 ⟨rfl, hb1⟩
    have HB := Lib.hid hb1
    clear hb1
    go_wp2_with fail
    go_ret
    exact ⟨ret_int HV.out.symm, HB.out⟩
  rw [hw] at HC
  have h4 := word_size hw
  by_cases h0 : s.size = 0
  · have HV : Hid (lsR s = -1) := by show _ = _; unfold lsR; rw [decide_eq_false (show ¬ 1 ≤ s.size by omega), Bool.and_false]; rfl
    have hem := empty_is h0
    clear hw h0
    go_enter Try.func24, Try.ntmps24
    go_wp2_with fail
    refine (HC.out _).mono ?_
    rintro e w1 ⟨rfl, hb1⟩
    have HB := Lib.hid hb1
    clear hb1
    go_wp2_with fail
    go_ret
    exact ⟨ret_int HV.out.symm, HB.out⟩
  have HV : Hid (lsR s = (lsTo s s.size : Int)) := if_pos (by rw [hw, decide_eq_true (show 1 ≤ s.size by omega)]; rfl)
  have hem := empty_no (show 1 ≤ s.size by omega)
  have HST : Hid (∀ k, lsTo s (k + 1) = if lessB (rotS s k) (rotS s (lsTo s k)) = true then k else lsTo s k) := fun k => rfl
  have HLT := Lib.hid (lsTo_lt s)
  have HZ : Hid (lsTo s 0 = 0) := rfl
  have HSH : Hid (∀ k, k ≤ s.size → ∀ w, Calls Try.prog 25 #[.string s, .int .i64 (k : Int)] w fun e w' => e = .returned (.string (rotS s k)) ∧ Below w.heap.size w w') := fun k hk w => by
    have := implShiftWord s k w hs
    rwa [shift_rot hw hk] at this
  have HBF : Hid (∀ j k, j ≤ s.size → k ≤ s.size → ∀ w, Calls Try.prog 42 #[.string (rotS s j), .string (rotS s k)] w fun e w' => e = .returned (.bool (lessB (rotS s j) (rotS s k))) ∧ Below w.heap.size w w') := fun j k hj hk w => by
    have := implBeforeWord (rotS s j) (rotS s k) w (by rw [rot_size s hj]; omega) (by rw [rot_size s hk]; omega)
    unfold beforeR at this
    rwa [rot_word hw hj, rot_word hw hk, Bool.true_and, Bool.true_and] at this
  clear hw
  generalize lsR s = r at HV ⊢
  generalize lsTo s = B at HV HST HLT HZ
  generalize rotS s = R at HST HSH HBF
  go_enter Try.func24, Try.ntmps24
  go_wp2_with fail
  refine (HC.out _).mono ?_
  rintro e w1 ⟨rfl, hb1⟩
  have HB1 := Lib.hid hb1
  clear hb1
  go_wp2_with fail
  go_loopw [3, 14] (fun o iv w' => ∃ i b : Nat, i ≤ s.size ∧ b = B i ∧ o = .int .i64 (b : Int) ∧ iv = .int .i64 (i : Int) ∧ Below w.heap.size w w') (fun _ iv _ => s.size - (intOf iv).toNat)
  case atStart => exact ⟨0, 0, by omega, HZ.out.symm, rfl, rfl, HB1.out⟩
  case round =>
    obtain ⟨i, b, hi, hbB, rfl, rfl, hb⟩ := hrel
    have HBB := Lib.hid hbB
    have hbi : b ≤ i := by rw [hbB]; exact HLT.out i
    have HB := Lib.hid hb
    clear hbB hb
    by_cases hlt : i < s.size
    · have HN := Lib.hid (HST.out i)
      have H1 := Lib.hid (fun w => HSH.out i (by omega) w)
      have H2 := Lib.hid (fun w => HSH.out b (by omega) w)
      have H3 := Lib.hid (fun w => HBF.out i b (by omega) (by omega) w)
      rw [← HBB.out] at HN
      generalize R i = x1 at HN H1 H3
      generalize R b = x2 at HN H2 H3
      cases hc : lessB x1 x2
      · have HE : Hid (B (i + 1) = b) := by show _ = _; rw [HN.out, hc]; exact if_neg (by decide)
        rw [hc] at H3
        clear HN hc
        go_wp2_with fail
        refine (H1.out _).mono ?_
        rintro e w2 ⟨rfl, hb2⟩
        have HB2 := Lib.hid (HB.out.trans (hb2.mono HB.out.size))
        clear hb2
        go_wp2_with fail
        refine (H2.out _).mono ?_
        rintro e w3 ⟨rfl, hb3⟩
        have HB3 := Lib.hid (HB2.out.trans (hb3.mono HB2.out.size))
        clear hb3
        go_wp2_with fail
        refine (H3.out _).mono ?_
        rintro e w4 ⟨rfl, hb4⟩
        have HB4 := Lib.hid (HB3.out.trans (hb4.mono HB3.out.size))
        clear hb4
        go_wp2_with fail
        go_roundw
        case rel => exact ⟨i + 1, b, by omega, HE.out.symm, rfl, by go_num, HB4.out⟩
        case measure => simp [intOf]; omega
      · have HE : Hid (B (i + 1) = i) := by show _ = _; rw [HN.out, hc]; exact if_pos rfl
        rw [hc] at H3
        clear HN hc
        go_wp2_with fail
        refine (H1.out _).mono ?_
        rintro e w2 ⟨rfl, hb2⟩
        have HB2 := Lib.hid (HB.out.trans (hb2.mono HB.out.size))
        clear hb2
        go_wp2_with fail
        refine (H2.out _).mono ?_
        rintro e w3 ⟨rfl, hb3⟩
        have HB3 := Lib.hid (HB2.out.trans (hb3.mono HB2.out.size))
        clear hb3
        go_wp2_with fail
        refine (H3.out _).mono ?_
        rintro e w4 ⟨rfl, hb4⟩
        have HB4 := Lib.hid (HB3.out.trans (hb4.mono HB3.out.size))
        clear hb4
        go_wp2_with fail
        go_roundw
        case rel => exact ⟨i + 1, i, by omega, HE.out.symm, rfl, by go_num, HB4.out⟩
        case measure => simp [intOf]; omega
    · have hii : i = s.size := by omega
      have HR : Hid (r = (b : Int)) := by show _ = _; rw [HV.out, HBB.out, hii]
      clear hii
      go_wp2_with fail
      go_ret
      exact ⟨ret_int HR.out.symm, HB.out⟩
end Go.Proofs.Ytgfhconcmoepcaa

/- The mathematics of FnPeriods, fifth part: how many Lyndon words there are, reckoned for small numbers. No program in it. -/
namespace Go.Proofs.Ytgfhconcmoepcaa
open Go.RowKit

/-- the sum of those of l at the divisors of m among 1 .. k -/
def prSum (l : List Int) (m : Nat) : Nat → Int
  | 0 => 0
  | d + 1 => prSum l m d + if m % (d + 1) = 0 then l.getD (d + 1) 0 else 0
/-- how many words of 0 .. m letters are no powers -/
def prT (L : Nat) : Nat → List Int
  | 0 => [0]
  | m + 1 => prT L m ++ [(L : Int) ^ (m + 1) - prSum (prT L m) (m + 1) m]
def clyOk (a b : Int) : Bool := (decide (1 ≤ a) && decide (a ≤ 4)) && (decide (1 ≤ b) && decide (b ≤ 12))
/-- what CountLyndon is to return -/
def clyR (a b : Int) : Int := if clyOk a b = true then ((prT a.toNat b.toNat).getD b.toNat 0).tdiv b else -1
/-- a Lyndon word, reckoned -/
def lyC (w : List UInt8) : Bool := !w.isEmpty && (List.range w.length).all fun k => decide (k = 0) || Op.bytesLess w (w.drop k ++ w.take k)
theorem lyC_eq (s : ByteArray) : lyB s = lyC s.data.toList := by
  have hl := pl_len s
  rw [Bool.eq_iff_iff, lyB_iff]
  unfold lyC LynAt
  rw [Bool.and_eq_true, Bool.not_eq_true', List.isEmpty_eq_false_iff, List.all_eq_true, hl]
  constructor
  · rintro ⟨h1, h2⟩
    refine ⟨fun hh => by rw [hh] at hl; simp at hl; omega, fun k hk => ?_⟩
    rw [List.mem_range] at hk
    by_cases h0 : k = 0
    · rw [decide_eq_true h0, Bool.true_or]
    · have := h2 k (by omega) hk
      unfold lessB at this
      rw [ByteArray.toList_eq, ByteArray.toList_eq, rot_list s k (by omega)] at this
      rw [this, Bool.or_true]
  · rintro ⟨h1, h2⟩
    have := List.length_pos_iff.2 h1
    refine ⟨by omega, fun k h3 h4 => ?_⟩
    have := h2 k (List.mem_range.2 h4)
    rw [decide_eq_false (by omega), Bool.false_or] at this
    unfold lessB
    rw [ByteArray.toList_eq, ByteArray.toList_eq, rot_list s k (by omega)]
    exact this
/-- all words of m of the first L letters -/
def allW (L : Nat) : Nat → List (List UInt8)
  | 0 => [[]]
  | m + 1 => (allW L m).flatMap fun w => (List.range L).map fun j => w ++ [letterN j]
theorem cly_small : ∀ L ∈ [1, 2, 3], ∀ m ∈ [1, 2, 3, 4], clyR (L : Nat) (m : Nat) = (((allW L m).filter lyC).length : Int) := by decide +kernel
theorem cly_range : ∀ L ∈ [1, 2, 3, 4], ∀ m ∈ [1, 2, 3, 4, 5, 6, 7, 8, 9, 10, 11, 12], 0 ≤ clyR (L : Nat) (m : Nat) ∧ clyR (L : Nat) (m : Nat) ≤ 16777216 := by decide +kernel
end Go.Proofs.Ytgfhconcmoepcaa
