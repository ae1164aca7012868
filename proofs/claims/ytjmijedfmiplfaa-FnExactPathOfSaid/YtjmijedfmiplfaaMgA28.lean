/- Texts put together. -/
import Derived.Test.YtjmijedfmiplfaaMgA8
import Derived.Test.YtjmijedfmiplfaaMgA3
import Derived.Test.YtjmijedfmiplfaaMgA19
import Derived.Test.YtjmijedfmiplfaaMgA27
import Derived.Test.YtjmijedfmiplfaaMgA22
/- The model's CountLetter, CountsOf, ShiftWord, BeforeWord and IsFactor. Condition: texts of at most 2^20 bytes. -/
namespace Go.Proofs.Ytjmijedfmiplfaa
open Go.RowKit

/-- what CountLetter is to return -/
def countR (s t : ByteArray) : Int := if h : wordB s = true ∧ t.size = 1 ∧ wordB t = true then (cnt s.data.toList (t[0]'(by omega)) : Int) else -1

/-- what CountsOf is to return -/
def countsR (s : ByteArray) : List Int := if wordB s = true then [(cnt s.data.toList 97 : Int), (cnt s.data.toList 98 : Int), (cnt s.data.toList 99 : Int), (cnt s.data.toList 100 : Int)] else []

theorem countsR_le (s : ByteArray) : (countsR s).length ≤ 4 := by
  unfold countsR; split <;> simp

/-- what BeforeWord is to return -/
def beforeR (s t : ByteArray) : Bool := wordB s && (wordB t && Op.bytesLess s.toList t.toList)
/-- what ShiftWord is to return -/
def shiftR (s : ByteArray) (k : Int) : ByteArray := if wordB s = true ∧ 0 ≤ k ∧ k ≤ s.size then s.extract k.toNat s.size ++ s.extract 0 k.toNat else ⟨#[]⟩
end Go.Proofs.Ytjmijedfmiplfaa

/- The program's counts of the four letters, CountLetter and CountsOf. Condition: texts of at most 2^20 bytes. -/
namespace Go.Proofs.Ytjmijedfmiplfaa
open Go.RowKit

theorem letterIndex_at (n j : Int) (w : World) (h : n = 97 + j) (h1 : 0 ≤ j) (h2 : j ≤ 3) :
    Calls Try.prog 89 #[.int .u8 n] w fun e w' => e = .returned (.int .i64 j) ∧ w = w' := by
  have h3 : 97 ≤ n := by omega
  have h4 : n ≤ 100 := by omega
  have HJ := Lib.hid (show n - 97 = j by omega)
  clear h h1 h2
  go_enter Try.func89, Try.ntmps89
  go_wp2
  go_ret
  exact ⟨ret_int HJ.out, rfl⟩

/-- the four counts as the cells of an array -/
def cnts (l : List UInt8) : Array Value := #[.int .i64 (cnt l 97), .int .i64 (cnt l 98), .int .i64 (cnt l 99), .int .i64 (cnt l 100)]
theorem cnts_succ (s : ByteArray) (k : Nat) (h : k < s.size) (a b c d : Nat) (ha : cnt (s.data.toList.take k) 97 = a) (hb : cnt (s.data.toList.take k) 98 = b) (hc : cnt (s.data.toList.take k) 99 = c) (hd : cnt (s.data.toList.take k) 100 = d)
    (j : Nat) (hj : s[k].toNat = 97 + j) (_ : j ≤ 3) :
    cnt (s.data.toList.take (k + 1)) 97 = a + (if j = 0 then 1 else 0) ∧ cnt (s.data.toList.take (k + 1)) 98 = b + (if j = 1 then 1 else 0) ∧ cnt (s.data.toList.take (k + 1)) 99 = c + (if j = 2 then 1 else 0) ∧ cnt (s.data.toList.take (k + 1)) 100 = d + (if j = 3 then 1 else 0) := by
  have e : ∀ (x : UInt8) (i : Nat), x.toNat = 97 + i → ((s[k] = x) ↔ j = i) := by
    intro x i hx
    constructor
    · intro h; rw [h] at hj; omega
    · intro h; exact UInt8.toNat_inj.1 (by omega)
  rw [cnt_succ s k h 97, cnt_succ s k h 98, cnt_succ s k h 99, cnt_succ s k h 100, ha, hb, hc, hd]
  simp only [e 97 0 rfl, e 98 1 rfl, e 99 2 rfl, e 100 3 rfl, and_self]

theorem letter_one {t : ByteArray} (h : t.size = 1) : t = ⟨#[t[0]'(by omega)]⟩ := by
  obtain ⟨⟨l⟩⟩ := t
  match l, h with
  | [c], _ => rfl

theorem implCountLetter (s t : ByteArray) (w : World) (hs : s.size ≤ 1048576) (ht : t.size ≤ 1048576) :
    Calls Try.prog 37 #[.string s, .string t] w fun e w' => e = .returned (.int .i64 (countR s t)) ∧ Below w.heap.size w w' := by
  by_cases h1 : wordB s = true
  · by_cases h2 : (decide (t.size = 1) && wordB t) = true
    · obtain ⟨g1, g2⟩ : t.size = 1 ∧ wordB t = true := by simpa using h2
      have hr : countR s t = cnt s.data.toList (t[0]'(by omega)) := dif_pos ⟨h1, g1, g2⟩
      have HR := Lib.hid hr
      have hone := letter_one g1
      generalize t[0]'(by omega) = c at hr HR hone
      subst hone
      clear hr g1 h2
      go_enter Try.func37, Try.ntmps37
      go_wp2_with fail
      refine (implWordOk s _ hs).mono ?_
      rintro e w1 ⟨rfl, hb1⟩
      go_wp2_with fail
      refine (implIsLetterWord _ _ ht).mono ?_
      rintro e w2 ⟨rfl, hb2⟩
      go_wp2_with fail
      refine (Try.strings_Count_one s c _).mono ?_
      rintro e w3 ⟨rfl, rfl⟩
      go_wp2_with fail
      go_ret
      exact ⟨ret_int HR.out.symm, hb1.trans (hb2.mono hb1.size)⟩
    · have hr : countR s t = -1 := dif_neg (fun h => h2 (by rw [decide_eq_true h.2.1, h.2.2]; rfl))
      have HR := Lib.hid hr
      have h2' : (decide (t.size = 1) && wordB t) = false := by simpa using h2
      clear hr h2
      go_enter Try.func37, Try.ntmps37
      go_wp2_with fail
      refine (implWordOk s _ hs).mono ?_
      rintro e w1 ⟨rfl, hb1⟩
      go_wp2_with fail
      refine (implIsLetterWord _ _ ht).mono ?_
      rintro e w2 ⟨rfl, hb2⟩
      go_wp2_with fail
      go_ret
      exact ⟨ret_int HR.out.symm, hb1.trans (hb2.mono hb1.size)⟩
  · have hr : countR s t = -1 := dif_neg (fun h => h1 h.1)
    have HR := Lib.hid hr
    have h1' : wordB s = false := by simpa using h1
    clear hr h1
    go_enter Try.func37, Try.ntmps37
    go_wp2_with fail
    refine (implWordOk s _ hs).mono ?_
    rintro e w1 ⟨rfl, hb1⟩
    go_wp2_with fail
    go_ret
    exact ⟨ret_int HR.out.symm, hb1⟩

end Go.Proofs.Ytjmijedfmiplfaa

/- The program's palindromes of a word. Condition: a word. -/
namespace Go.Proofs.Ytjmijedfmiplfaa
open Go.RowKit
/-- the pointers to the nodes but the center -/
def Eer.ptrs (T : Eer) : List Value := (List.range T.m).map fun k => .pointer (some ⟨T.bl (k + 1), 0, none⟩)
theorem ptrs_len (T : Eer) : T.ptrs.length = T.m := by simp [Eer.ptrs]
theorem ptrs_more (T : Eer) (b s l j r x : Nat) : (T.more b s l j r x).ptrs = T.ptrs ++ [.pointer (some ⟨b, 0, none⟩)] := by
  unfold Eer.ptrs
  rw [show (T.more b s l j r x).m = T.m + 1 from rfl, List.range_succ, List.map_append]
  congr 1
  · refine List.map_congr_left fun k hk => ?_
    rw [more_bl (by have := List.mem_range.1 hk; omega)]
  · show [Value.pointer (some ⟨(T.more b s l j r x).bl (T.m + 1), 0, none⟩)] = _
    rw [more_bl1]

/-- the cells of a node that nothing is linked to -/
def newCells (x y : Int) (u : Value) : Nat → Value
  | 0 => .int .i64 x
  | 1 => .int .i64 y
  | 2 => u
  | _ => .pointer none
theorem mid_wd {T : Eer} {b x l j r o : Nat} (hr : r ≤ T.m) : (T.more b x l j r (97 + o)).opt ((T.more b x l j r (97 + o)).wd r (97 + o)) = .pointer (some ⟨b, 0, none⟩) := by
  rw [more_wd hr, if_pos ⟨rfl, rfl⟩]
  show Value.pointer (some ⟨(T.more b x l j r (97 + o)).bl (T.m + 1), 0, none⟩) = _
  rw [more_bl1]

end Go.Proofs.Ytjmijedfmiplfaa

/- What the tree of palindromes says of the word: all palindromes, each once; the longest one; the one at the end. No program in it. -/
namespace Go.Proofs.Ytjmijedfmiplfaa
open Go.RowKit

theorem bt_iff (s : ByteArray) {i j : Nat} (hi : i < s.size) (hj : j < s.size) : bt s i = bt s j ↔ s.data.toList[i]? = s.data.toList[j]? := by
  unfold bt
  rw [List.getElem?_eq_getElem (by rw [pl_len]; exact hi), List.getElem?_eq_getElem (by rw [pl_len]; exact hj), Option.getD_some, Option.getD_some]
  constructor
  · intro h; rw [UInt8.toNat_inj.1 h]
  · intro h; injection h with h; rw [h]
theorem sa_ext (s : ByteArray) {a b n : Nat} (ha : a + n ≤ s.size) (hb : b + n ≤ s.size) : SameAt (bt s) a b n ↔ s.extract a (a + n) = s.extract b (b + n) := by
  rw [pl_ext2 ha hb]
  constructor
  · intro h j hj; exact (bt_iff s (by omega) (by omega)).1 (h j hj)
  · intro h j hj; exact (bt_iff s (by omega) (by omega)).2 (h j hj)
theorem pa_ext (s : ByteArray) {a n : Nat} (ha : a + n ≤ s.size) : PalAt (bt s) a n ↔ PalS (s.extract a (a + n)) := by
  rw [pl_at ha]
  constructor
  · intro h j hj; exact (bt_iff s (by omega) (by omega)).1 (h j hj)
  · intro h j hj; exact (bt_iff s (by omega) (by omega)).2 (h j hj)

/-- the letters of node k -/
def Eer.str (T : Eer) (s : ByteArray) (k : Nat) : ByteArray := s.extract (T.st k) (T.st k + (T.lp k - 1))
def Eer.strs (T : Eer) (s : ByteArray) (n : Nat) : List ByteArray := (List.range n).map fun k => T.str s (k + 1)
theorem strs_more (T : Eer) (s : ByteArray) (n : Nat) : T.strs s (n + 1) = T.strs s n ++ [T.str s (n + 1)] := by
  unfold Eer.strs
  rw [List.range_succ, List.map_append]
  rfl
theorem strs_len (T : Eer) (s : ByteArray) (n : Nat) : (T.strs s n).length = n := by simp [Eer.strs]
theorem node_in {s : ByteArray} {T : Eer} (h : EerOk (bt s) s.size T) {k : Nat} (h1 : 1 ≤ k) (h2 : k ≤ T.m) : T.st k + (T.lp k - 1) ≤ s.size ∧ 1 ≤ T.lp k ∧ T.st k + T.lp k ≤ s.size + 1 := by
  have := h.inn k h1 h2
  have := h.pos h1 h2
  omega
theorem str_size {s : ByteArray} {T : Eer} (h : EerOk (bt s) s.size T) {k : Nat} (h1 : 1 ≤ k) (h2 : k ≤ T.m) : (T.str s k).size = T.lp k - 1 := pz_size s _ _ (node_in h h1 h2).1
theorem str_inj {s : ByteArray} {T : Eer} (h : EerOk (bt s) s.size T) {k k' : Nat} (h1 : 1 ≤ k) (h2 : k ≤ T.m) (h1' : 1 ≤ k') (h2' : k' ≤ T.m) (e : T.str s k = T.str s k') : k = k' := by
  have z := str_size h h1 h2
  have z' := str_size h h1' h2'
  rw [e, z'] at z
  have n1 := node_in h h1 h2
  have n2 := node_in h h1' h2'
  refine h.inj h1 h2 h1' h2' (by omega) ((sa_ext s n1.1 (by omega)).2 ?_)
  unfold Eer.str at e
  rw [z] at e
  exact e
theorem strs_nodup {s : ByteArray} {T : Eer} (h : EerOk (bt s) s.size T) : (T.strs s T.m).Nodup := by
  unfold Eer.strs
  refine List.pairwise_map.2 (List.Pairwise.imp_of_mem ?_ List.nodup_range)
  intro a b ha hb hab e
  have ha := List.mem_range.1 ha
  have hb := List.mem_range.1 hb
  have := str_inj h (by omega) (by omega) (by omega) (by omega) e
  omega
theorem strs_mem {s : ByteArray} {T : Eer} (h : EerOk (bt s) s.size T) (x : ByteArray) : x ∈ T.strs s T.m ↔ x ∈ ppL s := by
  rw [ppL_mem]
  unfold Eer.strs
  rw [List.mem_map]
  have hm := h.m1
  constructor
  · rintro ⟨k, hk, rfl⟩
    have hk := List.mem_range.1 hk
    have n1 := node_in h (k := k + 1) (by omega) (by omega)
    by_cases h0 : k = 0
    · subst h0
      refine .inl (pl_zero ?_)
      rw [str_size h (by omega) (by omega), h.lp1]
    · have hb := h.big (k + 1) (by omega) (by omega)
      exact .inr ⟨T.st (k + 1), T.lp (k + 1) - 1, by omega, n1.1, (pa_ext s n1.1).1 (h.pal (k + 1) (by omega) (by omega)), rfl⟩
  · rintro (rfl | ⟨j, n, h1, h2, h3, rfl⟩)
    · exact ⟨0, List.mem_range.2 (by omega), pl_zero (by rw [str_size h (by omega) (by omega), h.lp1])⟩
    · obtain ⟨k, k1, k2, k3, k4⟩ := h.full j n h2 ((pa_ext s h2).2 h3)
      have n1 := node_in h k1 k2
      refine ⟨k - 1, List.mem_range.2 (by omega), ?_⟩
      rw [show k - 1 + 1 = k by omega]
      unfold Eer.str
      rw [k3, show n + 1 - 1 = n by omega]
      exact (sa_ext s (by omega) h2).1 k4
theorem eer_count {s : ByteArray} {T : Eer} (h : EerOk (bt s) s.size T) : T.m = (ppL s).length := by
  have := ((List.perm_ext_iff_of_nodup (strs_nodup h) (asc_nodup (ppTo_asc s s.size))).2 (strs_mem h)).length_eq
  rw [strs_len] at this
  exact this
/-- the longest palindrome at the end is what closing keeps -/
theorem eer_close {s : ByteArray} {T : Eer} {L : Nat} (h : EerOk (bt s) s.size T) (hc : CurAt (bt s) s.size T L) : clK s = s.size + 1 - T.lp L ∧ 1 ≤ T.lp L ∧ T.lp L ≤ s.size + 1 := by
  have h1 := h.pos hc.1 hc.2.1.1
  have h2 := hc.2.1.2.1
  refine ⟨clK_eq (by omega) ?_ fun j hj hp => ?_, h1, h2⟩
  · have := hc.2.1.pal h
    have := (pa_ext s (by omega)).1 this
    rwa [show s.size + 1 - T.lp L + (T.lp L - 1) = s.size by omega] at this
  · refine hc.2.2 (s.size + 1 - j) (by omega) (by omega) ((pa_ext s (by omega)).2 ?_)
    rwa [show s.size + 1 - (s.size + 1 - j) + (s.size + 1 - j - 1) = s.size by omega, show s.size + 1 - (s.size + 1 - j) = j by omega]
/-- the first of the longest ones among the first q nodes -/
def BestAt (T : Eer) (q a n : Nat) : Prop := ((n = 0 ∧ a = 0) ∨ ∃ k, 1 ≤ k ∧ k ≤ q ∧ a = T.st k ∧ T.lp k = n + 1 ∧ ∀ k', 1 ≤ k' → k' < k → T.lp k' < n + 1) ∧ ∀ k, 1 ≤ k → k ≤ q → T.lp k ≤ n + 1
theorem best_start (T : Eer) : BestAt T 0 0 0 := ⟨.inl ⟨rfl, rfl⟩, fun k a b => by omega⟩
theorem best_yes {T : Eer} {q a n : Nat} (h : BestAt T q a n) (hl : n + 1 < T.lp (q + 1)) : BestAt T (q + 1) (T.st (q + 1)) (T.lp (q + 1) - 1) := by
  refine ⟨.inr ⟨q + 1, by omega, Nat.le_refl _, rfl, by omega, fun k' a b => ?_⟩, fun k a b => ?_⟩
  · have := h.2 k' a (by omega); omega
  · by_cases e : k = q + 1
    · subst e; omega
    · have := h.2 k a (by omega); omega
theorem best_no {T : Eer} {q a n : Nat} (h : BestAt T q a n) (hl : ¬ n + 1 < T.lp (q + 1)) : BestAt T (q + 1) a n := by
  refine ⟨h.1.imp id fun ⟨k, k1, k2, k3⟩ => ⟨k, k1, by omega, k3⟩, fun k a b => ?_⟩
  by_cases e : k = q + 1
  · subst e; omega
  · exact h.2 k a (by omega)
theorem best_end {s : ByteArray} {T : Eer} {a n : Nat} (hw : wordB s = true) (h : EerOk (bt s) s.size T) (hb : BestAt T T.m a n) : lpR1 s = (a : Int) ∧ lpR2 s = (n : Int) := by
  have htop : ∀ j m, j + m ≤ s.size → PalS (s.extract j (j + m)) → m ≤ n := fun j m hj hp => by
    obtain ⟨k, k1, k2, k3, _⟩ := h.full j m hj ((pa_ext s hj).2 hp)
    have := hb.2 k k1 k2
    omega
  have hm := h.m1
  rcases hb.1 with ⟨rfl, rfl⟩ | ⟨k, k1, k2, rfl, k4, k5⟩
  · have h0 : s.size = 0 := by
      by_cases e : s.size = 0
      · exact e
      · have := htop 0 1 (by omega) (pal_small (by rw [ByteArray.size_extract]; omega))
        omega
    unfold lpR1 lpR2
    rw [if_pos hw, if_pos hw, if_pos h0, h0, Nat.zero_sub]
    exact ⟨rfl, rfl⟩
  · have n1 := node_in h k1 k2
    have hn : n ≤ s.size := by omega
    have ed : s.size - (s.size - n) = n := by omega
    obtain ⟨e1, e2⟩ := lp_found (s := s) (d := s.size - n) (i := T.st k) ⟨by omega, by omega, by
      rw [ed]
      have := (pa_ext s n1.1).1 (h.pal k k1 k2)
      rwa [k4, show n + 1 - 1 = n by omega] at this⟩ (fun d' hd i' hh => by
      have := htop i' (s.size - d') (by have := hh.1; have := hh.2.1; omega) hh.2.2
      omega) (fun i' hi' hh => by
      have hp := hh.2.2
      rw [ed] at hp
      have hj : i' + n ≤ s.size := by have := hh.1; omega
      obtain ⟨q, q1, q2, q3, q4⟩ := h.full i' n hj ((pa_ext s hj).2 hp)
      have f := h.fst q q1 q2 i' (by rw [q3, show n + 1 - 1 = n by omega]; exact q4)
      rcases Nat.lt_trichotomy q k with x | x | x
      · have := k5 q q1 x; omega
      · subst x; omega
      · have := h.asc k q k1 x q2; omega)
    unfold lpR1 lpR2
    rw [if_pos hw, if_pos hw, e1, e2, ed]
    by_cases h0 : s.size = 0
    · rw [if_pos h0]
      constructor
      · have : T.st k = 0 := by omega
        rw [this]; rfl
      · rfl
    · rw [if_neg h0]
      exact ⟨rfl, rfl⟩
end Go.Proofs.Ytjmijedfmiplfaa
