/- Texts put together. -/
import Derived.Test.YtgfhconcmoepcaaMga19
import Derived.Test.YtgfhconcmoepcaaMga22
import Derived.Test.YtgfhconcmoepcaaMga8
import Derived.Test.YtgfhconcmoepcaaMga3
import Derived.Deep.QuietTactic
import Derived.BigQuiet
import Derived.Test.YtgfhconcmoepcaaMga10
/- BordersOf and PeriodsOf of the program. Condition: a text of at most 2^20 bytes. -/
namespace Go.Proofs.Ytgfhconcmoepcaa
open Go.RowKit

set_option maxRecDepth 100000 in
set_option maxHeartbeats 1000000 in
theorem implBordersOf (s : ByteArray) (w : World) (hs : s.size ≤ 1048576) :
    Calls Try.prog 16 #[.string s] w fun e w' => ∃ v, e = .returned v ∧ w'.ownsRow w.heap.size 3 1 v (boR s).length (ints (boR s)) ∧ Below w.heap.size w w' := by
  have HC := Lib.hid (fun w => implWordOk s w hs)
  cases hw : wordB s
  · have hv : boR s = [] := if_neg (by rw [hw]; decide)
    rw [hw] at HC
    rw [hv]
    clear hw hv
    go_enter Try.func16, Try.ntmps16
    go_wp2_with fail
    refine (HC.out _).mono ?_
    rintro e w1 ⟨rfl, hb1⟩
    have HB := Lib.hid hb1
    clear hb1
    go_wp2_with fail
    go_ret
    exact ⟨_, rfl, World.ownsRow_nil _ _ _ _, HB.out⟩
  rw [hw] at HC
  have h4 := word_size hw
  have hv : boR s = boTo s (s.size - 1) := if_pos hw
  have hbl := boTo_len s (s.size - 1)
  have HBO := Lib.hid (fun w => implBorders s w (by omega))
  rw [hv]
  clear hw hv
  generalize boTo s (s.size - 1) = R at HBO hbl ⊢
  go_enter Try.func16, Try.ntmps16
  go_wp2_with fail
  refine (HC.out _).mono ?_
  rintro e w1 ⟨rfl, hb1⟩
  have HB := Lib.hid hb1
  have hsz1 := hb1.size
  clear hb1
  go_wp2_with fail
  refine (HBO.out _).mono ?_
  rintro e w2 ⟨v, rfl, ho, hb2⟩
  have HB2 := Lib.hid (HB.out.trans (hb2.mono hsz1))
  have HRV := Lib.hid (implReverse w1.heap.size v R.reverse w2 ho (by rw [List.length_reverse]; omega))
  rw [List.length_reverse] at ho HRV
  rw [List.reverse_reverse] at HRV
  obtain ⟨A, cp, rfl⟩ := own_slice ho
  clear ho hb2
  go_wp2_with fail
  refine HRV.out.mono ?_
  rintro e w3 ⟨rfl, ho3, hb3⟩
  have HO3 := Lib.hid ho3
  have HB3 := Lib.hid (HB2.out.trans (hb3.mono hsz1))
  clear ho3 hb3
  go_wp2_with fail
  go_ret
  exact ⟨_, rfl, own_mono HO3.out hsz1, HB3.out⟩

theorem per_of (s : ByteArray) (hw : wordB s = true) (h : 1 ≤ s.size) : peR s = ((boTo s (s.size - 1)).reverse.map fun x => (s.size : Int) - x) ++ [(s.size : Int)] := by
  have hv : peR s = peTo s s.size := if_pos hw
  rw [hv, per_last h, per_bor]

set_option maxRecDepth 100000 in
set_option maxHeartbeats 1000000 in
theorem implPeriodsOf (s : ByteArray) (w : World) (hs : s.size ≤ 1048576) :
    Calls Try.prog 17 #[.string s] w fun e w' => ∃ v, e = .returned v ∧ w'.ownsRow w.heap.size 3 1 v (peR s).length (ints (peR s)) ∧ Below w.heap.size w w' := by
  obtain ⟨i0, hi0, hz0, hz1, hz2⟩ := info_parts int_info
  have HC := Lib.hid (fun w => implWordOk s w hs)
  cases hw : wordB s
  · have hv : peR s = [] := if_neg (by rw [hw]; decide)
    rw [hw] at HC
    rw [hv]
    clear hw hv
    go_enter Try.func17, Try.ntmps17
    go_wp2_with fail
    refine (HC.out _).mono ?_
    rintro e w1 ⟨rfl, hb1⟩
    have HB := Lib.hid hb1
    clear hb1
    go_wp2_with fail
    go_ret
    exact ⟨_, rfl, World.ownsRow_nil _ _ _ _, HB.out⟩
  rw [hw] at HC
  have h4 := word_size hw
  by_cases h0 : s.size = 0
  · have hv : peR s = [] := by
      have : peR s = peTo s s.size := if_pos hw
      rw [this, h0]
      rfl
    have hem := empty_is h0
    rw [hv]
    clear hw hv h0
    go_enter Try.func17, Try.ntmps17
    go_wp2_with fail
    refine (HC.out _).mono ?_
    rintro e w1 ⟨rfl, hb1⟩
    have HB := Lib.hid hb1
    clear hb1
    go_wp2_with fail
    go_ret
    exact ⟨_, rfl, World.ownsRow_nil _ _ _ _, HB.out⟩
  have hem := empty_no (show 1 ≤ s.size by omega)
  have HV := Lib.hid (per_of s hw (by omega))
  have HBO := Lib.hid (fun w => implBorders s w (by omega))
  have HRL : Hid ((boTo s (s.size - 1)).reverse.length ≤ 400 ∧ ∀ x ∈ (boTo s (s.size - 1)).reverse, 1 ≤ x ∧ x < (s.size : Int)) := by
    refine ⟨by rw [List.length_reverse]; have := boTo_len s (s.size - 1); omega, fun x hx => ?_⟩
    rw [List.mem_reverse, boTo_mem] at hx
    obtain ⟨n, rfl, a, b, _⟩ := hx
    omega
  clear hw
  generalize (boTo s (s.size - 1)).reverse = R at HBO HRL HV
  generalize peR s = Z at HV ⊢
  have hrl := HRL.out.1
  go_enter Try.func17, Try.ntmps17
  go_wp2_with fail
  refine (HC.out _).mono ?_
  rintro e w1 ⟨rfl, hb1⟩
  have HB := Lib.hid hb1
  have hsz1 := hb1.size
  clear hb1
  go_wp2_with fail
  refine (HBO.out _).mono ?_
  rintro e w2 ⟨v, rfl, ho, hb2⟩
  have HB2 := Lib.hid (HB.out.trans (hb2.mono hsz1))
  have hsz2 := HB2.out.size
  have HO := Lib.hid ho
  obtain ⟨A, cp, rfl⟩ := own_slice ho
  clear ho hb2
  go_wp2_with fail
  go_loopw [3, 16] (fun lv iv w' => ∃ k : Nat, k ≤ R.length ∧ iv = .int .i64 (k : Int) ∧ (∃ A cp, lv = .slice A k cp) ∧ w'.ownsRow w2.heap.size 3 1 lv k (ints ((R.take k).map fun x => (s.size : Int) - x)) ∧ Below w2.heap.size w2 w') (fun _ iv _ => R.length - (intOf iv).toNat)
  case atStart => exact ⟨0, Nat.zero_le _, rfl, ⟨_, _, rfl⟩, World.ownsRow_nil _ _ _ _, Below.refl _ _⟩
  case round =>
    obtain ⟨k, hk, rfl, ⟨A3, cp3, rfl⟩, ho3, hb3⟩ := hrel
    have HO3 := Lib.hid ho3
    have HB3 := Lib.hid hb3
    have hbz := hb3.size
    clear ho3 hb3
    by_cases hlt : k < R.length
    · obtain ⟨g, cp', he, _⟩ := own_some HO.out (by omega)
      injection he with he _ he2
      subst he; subst he2
      have hrk := HRL.out.2 R[k] (List.getElem_mem hlt)
      have ck : wr.cell? ⟨g, k, none⟩ = some (.int .i64 R[k]) := (HB3.out.cell (p := ⟨g, k, none⟩) (HO.out.lt g rfl).2).trans ((World.ownsRow.cellAt HO.out k (by omega)).trans (ints_get (List.getElem?_eq_getElem hlt)))
      have HT : Hid (((R.take (k + 1)).map fun x => (s.size : Int) - x) = ((R.take k).map fun x => (s.size : Int) - x) ++ [(s.size : Int) - R[k]]) := by
        show _ = _
        rw [List.take_succ_eq_append_getElem hlt, List.map_append]
        rfl
      have hlt' : (k : Int) < (R.length : Int) := by omega
      generalize R[k] = x at hrk ck HT
      go_wp2_with (at_builtin
                   refine wpList_append1 _ rfl (.tmp 20) (.tmp 25) _ rfl w2.heap.size 3 i0 _ 8 Try.underlying24 hi0 hz0 hz1 hz2 rfl (.slice A3 k cp3) k (ints ((R.take k).map fun x => (s.size : Int) - x)) rfl HO3.out (.int .i64 ((s.size : Int) - x)) rfl rfl (by unfold maxLen; omega) (by omega) hbz ?_
                   intro v' w4 hown4 hbel4)
      have ho4 : w4.ownsRow w2.heap.size 3 1 v' (k + 1) (ints ((R.take (k + 1)).map fun x => (s.size : Int) - x)) := by
        rw [HT.out, ints_snoc]
        exact hown4
      obtain ⟨A5, cp5, rfl⟩ := own_slice ho4
      go_roundw
      case rel => exact ⟨k + 1, by omega, by go_num, ⟨A5, cp5, rfl⟩, ho4, HB3.out.trans hbel4⟩
      case measure => simp [intOf]; omega
    · have hkl : k = R.length := by omega
      subst hkl
      have HZ : Hid (Z = ((R.take R.length).map fun x => (s.size : Int) - x) ++ [(s.size : Int)]) := by
        show _ = _
        rw [List.take_length]
        exact HV.out
      go_wp2_with (at_builtin
                   refine wpList_append1 _ rfl (.tmp 28) (.tmp 31) _ rfl w2.heap.size 3 i0 _ 8 Try.underlying24 hi0 hz0 hz1 hz2 rfl (.slice A3 R.length cp3) R.length (ints ((R.take R.length).map fun x => (s.size : Int) - x)) rfl HO3.out (.int .i64 (s.size : Int)) rfl rfl (by unfold maxLen; omega) (by omega) hbz ?_
                   intro v' w4 hown4 hbel4)
      have ho4 : w4.ownsRow w2.heap.size 3 1 v' Z.length (ints Z) := by
        rw [HZ.out, ints_snoc, List.length_append, List.length_map, List.length_take, Nat.min_self]
        exact hown4
      have HO4 := Lib.hid (own_mono ho4 hsz2)
      have HB4 := Lib.hid (HB2.out.trans ((HB3.out.trans hbel4).mono hsz2))
      clear hown4 hbel4 ho4
      go_wp2_with fail
      go_ret
      exact ⟨_, rfl, HO4.out, HB4.out⟩
end Go.Proofs.Ytgfhconcmoepcaa

/- The model's CountLetter, CountsOf, ShiftWord, BeforeWord and IsFactor. Condition: texts of at most 2^20 bytes. -/
namespace Go.Proofs.Ytgfhconcmoepcaa
open Go.RowKit

/-- what CountLetter is to return -/
def countR (s t : ByteArray) : Int := if h : wordB s = true ∧ t.size = 1 ∧ wordB t = true then (cnt s.data.toList (t[0]'(by omega)) : Int) else -1

/-- what CountsOf is to return -/
def countsR (s : ByteArray) : List Int := if wordB s = true then [(cnt s.data.toList 97 : Int), (cnt s.data.toList 98 : Int), (cnt s.data.toList 99 : Int), (cnt s.data.toList 100 : Int)] else []

theorem countsR_le (s : ByteArray) : (countsR s).length ≤ 4 := by
  unfold countsR; split <;> simp

/-- what BeforeWord is to return -/
def beforeR (s t : ByteArray) : Bool := wordB s && (wordB t && Op.bytesLess s.toList t.toList)
/-- what ShiftWord is to return -/
def shiftR (s : ByteArray) (k : Int) : ByteArray := if wordB s = true ∧ 0 ≤ k ∧ k ≤ s.size then s.extract k.toNat s.size ++ s.extract 0 k.toNat else ⟨#[]⟩
end Go.Proofs.Ytgfhconcmoepcaa

/- ShiftWord and BeforeWord of the program. Condition: texts of at most 2^20 bytes. -/
namespace Go.Proofs.Ytgfhconcmoepcaa
open Go.RowKit

theorem implBeforeWord (s t : ByteArray) (w : World) (hs : s.size ≤ 1048576) (ht : t.size ≤ 1048576) :
    Calls Try.prog 42 #[.string s, .string t] w fun e w' => e = .returned (.bool (beforeR s t)) ∧ Below w.heap.size w w' := by
  have HR : Hid (beforeR s t = (wordB s && (wordB t && Op.bytesLess s.toList t.toList))) := rfl
  cases h1 : wordB s
  · go_enter Try.func42, Try.ntmps42
    go_wp2_with fail
    refine (implWordOk s _ hs).mono ?_
    rintro e w1 ⟨rfl, hb1⟩
    go_wp2_with fail
    go_ret
    exact ⟨ret_bool (by rw [HR.out, h1]; rfl), hb1⟩
  · cases h2 : wordB t
    · go_enter Try.func42, Try.ntmps42
      go_wp2_with fail
      refine (implWordOk s _ hs).mono ?_
      rintro e w1 ⟨rfl, hb1⟩
      go_wp2_with fail
      refine (implWordOk t _ ht).mono ?_
      rintro e w2 ⟨rfl, hb2⟩
      go_wp2_with fail
      go_ret
      exact ⟨ret_bool (by rw [HR.out, h1, h2]; rfl), hb1.trans (hb2.mono hb1.size)⟩
    · go_enter Try.func42, Try.ntmps42
      go_wp2_with fail
      refine (implWordOk s _ hs).mono ?_
      rintro e w1 ⟨rfl, hb1⟩
      go_wp2_with fail
      refine (implWordOk t _ ht).mono ?_
      rintro e w2 ⟨rfl, hb2⟩
      go_wp2_with fail
      go_ret
      exact ⟨ret_bool (by rw [HR.out, h1, h2]; rfl), hb1.trans (hb2.mono hb1.size)⟩

theorem implShiftWord (s : ByteArray) (k : Int) (w : World) (hs : s.size ≤ 1048576) :
    Calls Try.prog 25 #[.string s, .int .i64 k] w fun e w' => e = .returned (.string (shiftR s k)) ∧ Below w.heap.size w w' := by
  by_cases h1 : wordB s = true
  · have h400 := word_size h1
    by_cases h2 : 0 ≤ k
    · have d1 : decide (k < (0 : Int)) = false := by simpa using h2
      by_cases h3 : k ≤ s.size
      · have hr : shiftR s k = s.extract k.toNat s.size ++ s.extract 0 k.toNat := if_pos ⟨h1, h2, h3⟩
        obtain ⟨j, rfl⟩ := Int.eq_ofNat_of_zero_le h2
        rw [Int.toNat_natCast] at hr
        have HR := Lib.hid hr
        have hj : j ≤ s.size := by omega
        have d2 : decide ((s.size : Int) < (j : Int)) = false := by simp; omega
        clear hr h2 h3
        go_enter Try.func25, Try.ntmps25
        go_wp2_with fail
        refine (implWordOk s _ hs).mono ?_
        rintro e w1 ⟨rfl, hb1⟩
        go_wp2_with fail
        have hz1 : (s.extract j s.size).size ≤ 400 := by rw [ByteArray.size_extract]; omega
        have hz2 : (s.extract 0 j).size ≤ 400 := by rw [ByteArray.size_extract]; omega
        go_quiet (fail)
        go_wp2_with fail
        go_ret
        exact ⟨ret_str HR.out.symm, below_drewN hb1 _⟩
      · have hr : shiftR s k = ⟨#[]⟩ := if_neg (fun h => h3 h.2.2)
        have HR := Lib.hid hr
        have d2 : decide ((s.size : Int) < k) = true := by simp; omega
        clear hr h2 h3
        go_enter Try.func25, Try.ntmps25
        go_wp2_with fail
        refine (implWordOk s _ hs).mono ?_
        rintro e w1 ⟨rfl, hb1⟩
        go_wp2_with fail
        go_ret
        exact ⟨ret_str HR.out.symm, hb1⟩
    · have hr : shiftR s k = ⟨#[]⟩ := if_neg (fun h => h2 h.2.1)
      have HR := Lib.hid hr
      have d1 : decide (k < (0 : Int)) = true := by simpa using h2
      clear hr h2
      go_enter Try.func25, Try.ntmps25
      go_wp2_with fail
      refine (implWordOk s _ hs).mono ?_
      rintro e w1 ⟨rfl, hb1⟩
      go_wp2_with fail
      go_ret
      exact ⟨ret_str HR.out.symm, hb1⟩
  · have hr : shiftR s k = ⟨#[]⟩ := if_neg (fun h => h1 h.1)
    have HR := Lib.hid hr
    have h1' : wordB s = false := by simpa using h1
    clear hr h1
    go_enter Try.func25, Try.ntmps25
    go_wp2_with fail
    refine (implWordOk s _ hs).mono ?_
    rintro e w1 ⟨rfl, hb1⟩
    go_wp2_with fail
    go_ret
    exact ⟨ret_str HR.out.symm, hb1⟩
end Go.Proofs.Ytgfhconcmoepcaa

/- SwapLetters of the model. Condition: texts of at most 2^20 bytes. -/
namespace Go.Proofs.Ytgfhconcmoepcaa
open Go.RowKit

/-- names has each of the four letters once -/
def fourB (t : ByteArray) : Bool := decide (t.size = 4) && (wordB t && (decide (cnt t.data.toList 97 = 1) && (decide (cnt t.data.toList 98 = 1) && (decide (cnt t.data.toList 99 = 1) && decide (cnt t.data.toList 100 = 1)))))
def swapL (t : ByteArray) (l : List UInt8) : List UInt8 := l.map fun c => t.data.toList.getD (c.toNat - 97) 0
/-- what SwapLetters is to return -/
def swapR (s t : ByteArray) : ByteArray := if wordB s = true ∧ fourB t = true then ⟨(swapL t s.data.toList).toArray⟩ else ⟨#[]⟩
def swapOk (s t : ByteArray) : Bool := wordB s && fourB t
theorem swapL_succ (s t : ByteArray) (k : Nat) (h : k < s.size) (hi : s[k].toNat - 97 < t.size) : swapL t (s.data.toList.take (k + 1)) = swapL t (s.data.toList.take k) ++ [t[s[k].toNat - 97]] := by
  unfold swapL
  rw [take_snoc s k h, List.map_append, List.map_cons, List.map_nil]
  congr 2
  rw [List.getD_eq_getElem?_getD, List.getElem?_eq_getElem (by simpa using hi)]
  rfl
theorem counts_four (t : ByteArray) (h : wordB t = true) : (countsR t).length = 4 ∧ ((∀ k (hk : k < (countsR t).length), (countsR t)[k] = 1) → t.size = 4 → fourB t = true) ∧ (fourB t = true → ∀ k (hk : k < (countsR t).length), (countsR t)[k] = 1) := by
  have e : countsR t = [(cnt t.data.toList 97 : Int), (cnt t.data.toList 98 : Int), (cnt t.data.toList 99 : Int), (cnt t.data.toList 100 : Int)] := if_pos h
  rw [e]
  refine ⟨rfl, fun ha h4 => ?_, fun hf k hk => ?_⟩
  · have a0 := ha 0 (by simp)
    have a1 := ha 1 (by simp)
    have a2 := ha 2 (by simp)
    have a3 := ha 3 (by simp)
    simp only [List.getElem_cons_zero, List.getElem_cons_succ] at a0 a1 a2 a3
    unfold fourB
    rw [decide_eq_true h4, h, decide_eq_true (show cnt t.data.toList 97 = 1 by omega), decide_eq_true (show cnt t.data.toList 98 = 1 by omega), decide_eq_true (show cnt t.data.toList 99 = 1 by omega), decide_eq_true (show cnt t.data.toList 100 = 1 by omega)]
    rfl
  · unfold fourB at hf
    simp only [Bool.and_eq_true, decide_eq_true_eq] at hf
    have hk' : k < 4 := hk
    rcases k with _ | _ | _ | _ | k
    · simp only [List.getElem_cons_zero]; omega
    · simp only [List.getElem_cons_zero, List.getElem_cons_succ]; omega
    · simp only [List.getElem_cons_zero, List.getElem_cons_succ]; omega
    · simp only [List.getElem_cons_zero, List.getElem_cons_succ]; omega
    · omega

def SwapSaid (s t : ByteArray) (w : World) (e : Ending) (w' : World) : Prop := e = .returned (.tuple #[.string (swapR s t), .bool (swapOk s t)]) ∧ Below w.heap.size w w'
theorem swap_no {s t : ByteArray} (h : swapOk s t = false) {w w' : World} (hb : Below w.heap.size w w') : SwapSaid s t w (.returned (.tuple #[.string ⟨#[]⟩, .bool false])) w' := by
  refine ⟨?_, hb⟩
  have e : swapR s t = ⟨#[]⟩ := if_neg (fun ⟨a, b⟩ => by unfold swapOk at h; rw [a, b] at h; cases h)
  rw [h, e]

end Go.Proofs.Ytgfhconcmoepcaa
