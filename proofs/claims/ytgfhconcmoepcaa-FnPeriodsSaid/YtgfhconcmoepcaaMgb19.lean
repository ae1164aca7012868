/- Texts put together. -/
import Derived.Test.YtgfhconcmoepcaaMgb18
import Derived.Test.YtgfhconcmoepcaaMgb10
import Derived.Test.YtgfhconcmoepcaaMgb5
import Derived.Deep.QuietTactic
import Derived.BigQuiet
import Derived.Test.YtgfhconcmoepcaaMgb17
import Derived.Test.YtgfhconcmoepcaaMgb6
import Derived.Test.YtgfhconcmoepcaaChecked
import Derived.Test.YtgfhconcmoepcaaMgb1
/- SwapLetters of the model. Condition: texts of at most 2^20 bytes. -/
namespace Go.Proofs.Ytgfhconcmoepcaa
open Go.RowKit

/-- names has each of the four letters once -/
def fourB (t : ByteArray) : Bool := decide (t.size = 4) && (wordB t && (decide (cnt t.data.toList 97 = 1) && (decide (cnt t.data.toList 98 = 1) && (decide (cnt t.data.toList 99 = 1) && decide (cnt t.data.toList 100 = 1)))))
def swapL (t : ByteArray) (l : List UInt8) : List UInt8 := l.map fun c => t.data.toList.getD (c.toNat - 97) 0
/-- what SwapLetters is to return -/
def swapR (s t : ByteArray) : ByteArray := if wordB s = true ∧ fourB t = true then ⟨(swapL t s.data.toList).toArray⟩ else ⟨#[]⟩
def swapOk (s t : ByteArray) : Bool := wordB s && fourB t
theorem swapL_succ (s t : ByteArray) (k : Nat) (h : k < s.size) (hi : s[k].toNat - 97 < t.size) : swapL t (s.data.toList.take (k + 1)) = swapL t (s.data.toList.take k) ++ [t[s[k].toNat - 97]] := by
  unfold swapL
  rw [take_snoc s k h, List.map_append, List.map_cons, List.map_nil]
  congr 2
  rw [List.getD_eq_getElem?_getD, List.getElem?_eq_getElem (by simpa using hi)]
  rfl
theorem counts_four (t : ByteArray) (h : wordB t = true) : (countsR t).length = 4 ∧ ((∀ k (hk : k < (countsR t).length), (countsR t)[k] = 1) → t.size = 4 → fourB t = true) ∧ (fourB t = true → ∀ k (hk : k < (countsR t).length), (countsR t)[k] = 1) := by
  have e : countsR t = [(cnt t.data.toList 97 : Int), (cnt t.data.toList 98 : Int), (cnt t.data.toList 99 : Int), (cnt t.data.toList 100 : Int)] := if_pos h
  rw [e]
  refine ⟨rfl, fun ha h4 => ?_, fun hf k hk => ?_⟩
  · have a0 := ha 0 (by simp)
    have a1 := ha 1 (by simp)
    have a2 := ha 2 (by simp)
    have a3 := ha 3 (by simp)
    simp only [List.getElem_cons_zero, List.getElem_cons_succ] at a0 a1 a2 a3
    unfold fourB
    rw [decide_eq_true h4, h, decide_eq_true (show cnt t.data.toList 97 = 1 by omega), decide_eq_true (show cnt t.data.toList 98 = 1 by omega), decide_eq_true (show cnt t.data.toList 99 = 1 by omega), decide_eq_true (show cnt t.data.toList 100 = 1 by omega)]
    rfl
  · unfold fourB at hf
    simp only [Bool.and_eq_true, decide_eq_true_eq] at hf
    have hk' : k < 4 := hk
    rcases k with _ | _ | _ | _ | k
    · simp only [List.getElem_cons_zero]; omega
    · simp only [List.getElem_cons_zero, List.getElem_cons_succ]; omega
    · simp only [List.getElem_cons_zero, List.getElem_cons_succ]; omega
    · simp only [List.getElem_cons_zero, List.getElem_cons_succ]; omega
    · omega

def SwapSaid (s t : ByteArray) (w : World) (e : Ending) (w' : World) : Prop := e = .returned (.tuple #[.string (swapR s t), .bool (swapOk s t)]) ∧ Below w.heap.size w w'
theorem swap_no {s t : ByteArray} (h : swapOk s t = false) {w w' : World} (hb : Below w.heap.size w w') : SwapSaid s t w (.returned (.tuple #[.string ⟨#[]⟩, .bool false])) w' := by
  refine ⟨?_, hb⟩
  have e : swapR s t = ⟨#[]⟩ := if_neg (fun ⟨a, b⟩ => by unfold swapOk at h; rw [a, b] at h; cases h)
  rw [h, e]

end Go.Proofs.Ytgfhconcmoepcaa

/- CommonStart of the model. Condition: texts of at most 2^20 bytes. -/
namespace Go.Proofs.Ytgfhconcmoepcaa
open Go.RowKit

/-- how many bytes at their beginnings two texts share -/
def lcp : List UInt8 → List UInt8 → Nat
  | a :: l, b :: m => if a = b then lcp l m + 1 else 0
  | _, _ => 0
theorem lcp_eq : ∀ (n : Nat) (l m : List UInt8), l.take n = m.take n → n ≤ l.length → n ≤ m.length → (n = l.length ∨ n = m.length ∨ ∀ a b, l[n]? = some a → m[n]? = some b → a ≠ b) → lcp l m = n
  | 0, l, m, _, _, _, h => by
    match l, m, h with
    | [], _, _ => rfl
    | _ :: _, [], _ => rfl
    | a :: l, b :: m, h =>
      have hab : a ≠ b := by
        rcases h with h | h | h
        · simp at h
        · simp at h
        · exact h a b rfl rfl
      show (if a = b then lcp l m + 1 else 0) = 0
      rw [if_neg hab]
  | n + 1, l, m, ht, hl, hm, h => by
    match l, m, ht, hl, hm, h with
    | a :: l, b :: m, ht, hl, hm, h =>
      rw [List.take_succ_cons, List.take_succ_cons] at ht
      injection ht with h1 h2
      show (if a = b then lcp l m + 1 else 0) = n + 1
      rw [if_pos h1, lcp_eq n l m h2 (by simpa using hl) (by simpa using hm) (by simpa using h)]
/-- what CommonStart is to return -/
def commonR (s t : ByteArray) : Int := if wordB s = true ∧ wordB t = true then (lcp s.data.toList t.data.toList : Int) else -1

theorem at_some (s : ByteArray) (k : Nat) (h : k < s.size) : s.data.toList[k]? = some s[k] := List.getElem?_eq_getElem (by simpa using h)

end Go.Proofs.Ytgfhconcmoepcaa

/- The mathematics of FnLetters: counts, turned and shifted words, letters put in other places. No program in it. -/
namespace Go.Proofs.Ytgfhconcmoepcaa
open Go.RowKit

/-! ### counts -/
theorem lt_sum : ∀ l : List UInt8, l.all isAbcd = true → cnt l 97 + cnt l 98 + cnt l 99 + cnt l 100 = l.length
  | [], _ => rfl
  | a :: l, h => by
    rw [List.all_cons, Bool.and_eq_true] at h
    have ih := lt_sum l h.2
    have ha := h.1
    unfold isAbcd at ha
    rw [Bool.and_eq_true, decide_eq_true_eq, decide_eq_true_eq] at ha
    unfold cnt at ih ⊢
    have hc : a.toNat = 97 ∨ a.toNat = 98 ∨ a.toNat = 99 ∨ a.toNat = 100 := by omega
    simp only [List.count_cons, List.length_cons]
    rcases hc with e | e | e | e
    · obtain rfl : a = 97 := UInt8.toNat.inj e
      simp; omega
    · obtain rfl : a = 98 := UInt8.toNat.inj e
      simp; omega
    · obtain rfl : a = 99 := UInt8.toNat.inj e
      simp; omega
    · obtain rfl : a = 100 := UInt8.toNat.inj e
      simp; omega
theorem wordT {s : ByteArray} (hw : wordB s = true) : wordB (turnS s) = true := by
  unfold wordB at hw ⊢
  rw [Bool.and_eq_true, decide_eq_true_eq, List.all_eq_true] at hw ⊢
  refine ⟨by rw [turn_size]; exact hw.1, fun c hc => hw.2 c ?_⟩
  have hc : c ∈ s.data.toList.reverse := hc
  rwa [List.mem_reverse] at hc
theorem counts_sum {s : ByteArray} (hw : wordB s = true) : ∃ a b c d : Nat, countsR s = [(a : Int), (b : Int), (c : Int), (d : Int)] ∧ a + b + c + d = s.size ∧ countR s ⟨#[98]⟩ = b := by
  refine ⟨cnt s.data.toList 97, cnt s.data.toList 98, cnt s.data.toList 99, cnt s.data.toList 100, if_pos hw, ?_, ?_⟩
  · unfold wordB at hw
    rw [Bool.and_eq_true] at hw
    rw [lt_sum _ hw.2, pl_len]
  · unfold countR
    rw [dif_pos ⟨hw, rfl, rfl⟩]
    rfl
theorem counts_turn {s : ByteArray} (hw : wordB s = true) : turnR s = turnS s ∧ countsR (turnS s) = countsR s ∧ turnR (turnS s) = s := by
  refine ⟨if_pos hw, ?_, ?_⟩
  · unfold countsR
    rw [wordT hw, hw]
    have : (turnS s).data.toList = s.data.toList.reverse := rfl
    unfold cnt
    rw [this, List.count_reverse, List.count_reverse, List.count_reverse, List.count_reverse]
  · unfold turnR
    rw [if_pos (wordT hw), turn_turn]

/-! ### shifts -/
theorem shift_rot {s : ByteArray} (hw : wordB s = true) {k : Nat} (hk : k ≤ s.size) : shiftR s k = rotS s k := by
  unfold shiftR
  rw [if_pos ⟨hw, by omega, by omega⟩, Int.toNat_natCast]
  rfl
theorem rot_word {s : ByteArray} (hw : wordB s = true) {k : Nat} (hk : k ≤ s.size) : wordB (rotS s k) = true := by
  have hz := rot_size s hk
  unfold wordB at hw ⊢
  rw [Bool.and_eq_true, decide_eq_true_eq, List.all_eq_true] at hw ⊢
  refine ⟨by omega, fun c hc => hw.2 c ?_⟩
  rw [rot_list s k hk, List.mem_append] at hc
  rcases hc with hc | hc
  · exact List.mem_of_mem_drop hc
  · exact List.mem_of_mem_take hc
theorem rot_full (s : ByteArray) : rotS s s.size = s := by
  refine pl_ext (rot_size s (Nat.le_refl _)) fun i hi => ?_
  rw [rot_size s (Nat.le_refl _)] at hi
  rw [rot_get s (Nat.le_refl _) hi, Nat.add_mod_left, Nat.mod_eq_of_lt hi]
theorem shift_back {s : ByteArray} (hw : wordB s = true) {k : Nat} (hk : k ≤ s.size) : shiftR (rotS s k) ((s.size : Int) - (k : Int)) = s := by
  have hz := rot_size s hk
  rw [show (s.size : Int) - (k : Int) = ((s.size - k : Nat) : Int) by omega, shift_rot (rot_word hw hk) (by omega)]
  by_cases h0 : k = 0
  · subst h0
    rw [rot_zero, Nat.sub_zero, rot_full]
  · rw [rot_rot s hk (by omega), Nat.add_sub_cancel' hk, Nat.mod_self, rot_zero]
theorem cj_rot {s : ByteArray} (hw : wordB s = true) {k : Nat} (hk : k ≤ s.size) : cjR s (rotS s k) = true := by
  have hz := rot_size s hk
  have hh : hasR (s ++ s) (rotS s k) = true := hasR_yes (i := k) ⟨by rw [hz, ByteArray.size_append]; omega, by
    have ha : (s ++ s).size = s.size + s.size := ByteArray.size_append
    rw [hz]
    have hpz := pz_size (s ++ s) k s.size (by omega)
    refine pl_ext (by omega) fun i hi => ?_
    rw [hpz] at hi
    rw [pz_list _ k s.size i hi, rot_get s hk hi, ByteArray.data_append, Array.toList_append]
    by_cases h : k + i < s.size
    · rw [List.getElem?_append_left (by rw [pl_len]; exact h), Nat.mod_eq_of_lt h]
    · rw [List.getElem?_append_right (by rw [pl_len]; omega), pl_len, Nat.mod_eq_sub_mod (by omega), Nat.mod_eq_of_lt (by omega)]⟩
  unfold cjR
  rw [hw, rot_word hw hk, hz, decide_eq_true rfl, hh]
  rfl

/-! ### letters in other places -/
theorem swap_key : ∀ c : UInt8, isAbcd c = true → isAbcd ((⟨#[98, 99, 100, 97]⟩ : ByteArray).data.toList.getD (c.toNat - 97) 0) = true ∧ (⟨#[100, 97, 98, 99]⟩ : ByteArray).data.toList.getD (((⟨#[98, 99, 100, 97]⟩ : ByteArray).data.toList.getD (c.toNat - 97) 0).toNat - 97) 0 = c := by
  intro c hc
  unfold isAbcd at hc
  rw [Bool.and_eq_true, decide_eq_true_eq, decide_eq_true_eq] at hc
  have hc : c.toNat = 97 ∨ c.toNat = 98 ∨ c.toNat = 99 ∨ c.toNat = 100 := by omega
  rcases hc with e | e | e | e
  · obtain rfl : c = 97 := UInt8.toNat.inj e
    exact ⟨rfl, rfl⟩
  · obtain rfl : c = 98 := UInt8.toNat.inj e
    exact ⟨rfl, rfl⟩
  · obtain rfl : c = 99 := UInt8.toNat.inj e
    exact ⟨rfl, rfl⟩
  · obtain rfl : c = 100 := UInt8.toNat.inj e
    exact ⟨rfl, rfl⟩
theorem swapL_cons (t : ByteArray) (a : UInt8) (l : List UInt8) : swapL t (a :: l) = t.data.toList.getD (a.toNat - 97) 0 :: swapL t l := rfl
theorem swap_two : ∀ l : List UInt8, (∀ c ∈ l, isAbcd c = true) → swapL ⟨#[100, 97, 98, 99]⟩ (swapL ⟨#[98, 99, 100, 97]⟩ l) = l
  | [], _ => rfl
  | a :: l, h => by
    rw [swapL_cons, swapL_cons, swap_two l (fun c hc => h c (List.mem_cons_of_mem _ hc)), (swap_key a (h a List.mem_cons_self)).2]
theorem swap_back {s : ByteArray} (hw : wordB s = true) : swapOk s ⟨#[98, 99, 100, 97]⟩ = true ∧ ∃ x, swapR s ⟨#[98, 99, 100, 97]⟩ = x ∧ x.size = s.size ∧ swapOk x ⟨#[100, 97, 98, 99]⟩ = true ∧ swapR x ⟨#[100, 97, 98, 99]⟩ = s := by
  have f1 : fourB ⟨#[98, 99, 100, 97]⟩ = true := by decide
  have f2 : fourB ⟨#[100, 97, 98, 99]⟩ = true := by decide
  have hall := hw
  unfold wordB at hall
  rw [Bool.and_eq_true, decide_eq_true_eq, List.all_eq_true] at hall
  have hx : swapR s ⟨#[98, 99, 100, 97]⟩ = ⟨(swapL ⟨#[98, 99, 100, 97]⟩ s.data.toList).toArray⟩ := if_pos ⟨hw, f1⟩
  have hz : (⟨(swapL ⟨#[98, 99, 100, 97]⟩ s.data.toList).toArray⟩ : ByteArray).size = s.size := by
    show ((swapL ⟨#[98, 99, 100, 97]⟩ s.data.toList).toArray).size = _
    unfold swapL
    simp
  have hxw : wordB (⟨(swapL ⟨#[98, 99, 100, 97]⟩ s.data.toList).toArray⟩ : ByteArray) = true := by
    unfold wordB
    rw [Bool.and_eq_true, decide_eq_true_eq, List.all_eq_true]
    refine ⟨by omega, fun c hc => ?_⟩
    obtain ⟨a, ha, rfl⟩ := List.mem_map.1 (show c ∈ swapL ⟨#[98, 99, 100, 97]⟩ s.data.toList from hc)
    exact (swap_key a (hall.2 a ha)).1
  refine ⟨by unfold swapOk; rw [hw, f1]; rfl, _, hx, hz, by unfold swapOk; rw [hxw, f2]; rfl, ?_⟩
  rw [show swapR _ ⟨#[100, 97, 98, 99]⟩ = _ from if_pos ⟨hxw, f2⟩]
  apply bytes_ext
  rw [ByteArray.toList_eq, ByteArray.toList_eq]
  show swapL ⟨#[100, 97, 98, 99]⟩ (swapL ⟨#[98, 99, 100, 97]⟩ s.data.toList) = s.data.toList
  exact swap_two _ hall.2
end Go.Proofs.Ytgfhconcmoepcaa

/- The program's WordOk: isLetter, ok and WordOk. No condition but that a text has at most 2^63 bytes. -/
namespace Go.Proofs.Ytgfhconcmoepcaa
open Go.RowKit

theorem isLetter_any (n : Int) (w : World) :
    Calls Try.prog 94 #[.int .i32 n] w fun e w' => e = .returned (.bool (decide (97 ≤ n) && decide (n < 101))) ∧ w = w' := by
  by_cases h1 : 97 ≤ n
  · have hd1 : decide ((97 : Int) ≤ n) = true := by simpa using h1
    go_enter Try.func94, Try.ntmps94
    go_wp2
    go_ret
    exact ⟨ret_bool (by simp [h1]), rfl⟩
  · have hd1 : decide ((97 : Int) ≤ n) = false := by simpa using h1
    go_enter Try.func94, Try.ntmps94
    go_wp2
    go_ret
    exact ⟨ret_bool (by simp), rfl⟩

set_option maxHeartbeats 400000 in
theorem implOk (s : ByteArray) (w : World) (_ : s.size ≤ 1048576) :
    Calls Try.prog 73 #[.string s] w fun e w' => e = .returned (.bool (wordB s)) ∧ Below w.heap.size w w' := by
  by_cases hl : 400 < s.size
  · have HE := Lib.hid (word_long hl)
    go_enter Try.func73, Try.ntmps73
    go_wp2
    go_ret
    exact ⟨ret_bool HE.out.symm, Below.refl _ _⟩
  have hs : s.size ≤ 400 := by omega
  go_enter Try.func73, Try.ntmps73
  go_wp2
  go_loopw [4] (fun _ w' => ∃ k : Nat, k ≤ s.size ∧ w' = w.iter s k ∧ (s.data.toList.take k).all isAbcd = true) (fun _ w' => s.size - w'.iterPos w.heap.size)
  case atStart => exact ⟨0, Nat.zero_le _, rfl, rfl⟩
  case round =>
    obtain ⟨k, hk, rfl, ha⟩ := hrel
    have HA := Lib.hid ha
    clear ha
    by_cases hlt : k < s.size
    · by_cases hc : isAbcd s[k] = true
      · have hasc : s[k].toNat < 128 := by simp [isAbcd] at hc; omega
        have hnx : ∀ ty, (Instr.next (.pointer (some ⟨w.heap.size, 0, none⟩)) true ty).run Try.prog (w.iter s k) = _ := fun ty => run_next_ascii w s k ty hlt hasc
        have hd1 : (decide ((97 : Int) ≤ s[k].toNat) && decide ((s[k].toNat : Int) < 101)) = true := by simp [isAbcd] at hc; simp; omega
        have HC := Lib.hid hc
        clear hc
        go_wp2_with (go_at_call 94; refine (isLetter_any _ _).mono ?_; rintro e w' ⟨rfl, rfl⟩)
        go_roundw
        case rel => exact ⟨k + 1, by omega, rfl, all_snoc s k hlt HA.out HC.out⟩
        case measure => simp; omega
      · have hf : isAbcd s[k] = false := by simpa using hc
        have hn : ∃ n : Nat, ∃ m : Nat, (∀ ty, (Instr.next (.pointer (some ⟨w.heap.size, 0, none⟩)) true ty).run Try.prog (w.iter s k) = .ok (.tuple #[.bool true, .int .i64 k, .int .i32 n]) (w.iter s m)) ∧ (n < 97 ∨ 100 < n) := by
          by_cases hasc : s[k].toNat < 128
          · exact ⟨_, _, fun ty => run_next_ascii w s k ty hlt hasc, by simp [isAbcd] at hf; omega⟩
          · have hd := decode_high s k hlt (by omega)
            exact ⟨_, _, fun ty => run_next_any w s k ty hlt, by omega⟩
        obtain ⟨n, m, hnx, hor⟩ := hn
        have HF := Lib.hid hf
        clear hf hc
        have hd1 : (decide ((97 : Int) ≤ n) && decide ((n : Int) < 101)) = false := by simp; omega
        go_wp2_with (go_at_call 94; refine (isLetter_any _ _).mono ?_; rintro e w' ⟨rfl, rfl⟩)
        go_ret
        exact ⟨ret_bool (word_not k hlt HF.out).symm, below_iter _ _ _⟩
    · have hnx : ∀ ty, (Instr.next (.pointer (some ⟨w.heap.size, 0, none⟩)) true ty).run Try.prog (w.iter s k) = _ := fun ty => run_next_end w s k ty hlt
      have hk' : k = s.size := by omega
      have HY := Lib.hid (word_yes hs (hk' ▸ HA.out))
      clear hk'
      go_wp2
      go_ret
      exact ⟨ret_bool HY.out.symm, below_iter _ _ _⟩

theorem implWordOk (s : ByteArray) (w : World) (hs : s.size ≤ 1048576) :
    Calls Try.prog 35 #[.string s] w fun e w' => e = .returned (.bool (wordB s)) ∧ Below w.heap.size w w' := by
  go_enter Try.func35, Try.ntmps35
  go_wp2_with fail
  refine (implOk s _ hs).mono ?_
  rintro e w' ⟨rfl, hb⟩
  go_wp2_with fail
  go_ret
  exact ⟨rfl, hb⟩

theorem implIsLetterWord (s : ByteArray) (w : World) (hs : s.size ≤ 1048576) :
    Calls Try.prog 74 #[.string s] w fun e w' => e = .returned (.bool (decide (s.size = 1) && wordB s)) ∧ Below w.heap.size w w' := by
  by_cases h1 : s.size = 1
  · have b1 : ((s.size : Int) == 1) = true := by rw [h1]; rfl
    have HD := Lib.hid (decide_eq_true h1)
    clear h1
    go_enter Try.func74, Try.ntmps74
    go_wp2_with fail
    refine (implOk s _ hs).mono ?_
    rintro e w' ⟨rfl, hb⟩
    go_wp2_with fail
    go_ret
    exact ⟨ret_bool (by rw [HD.out, Bool.true_and]), hb⟩
  · have b1 : ((s.size : Int) == 1) = false := by rw [beq_eq_false_iff_ne]; omega
    have HD := Lib.hid (decide_eq_false h1)
    clear h1
    go_enter Try.func74, Try.ntmps74
    go_wp2_with fail
    go_ret
    exact ⟨ret_bool (by rw [HD.out, Bool.false_and]), Below.refl _ _⟩
end Go.Proofs.Ytgfhconcmoepcaa
