/- Texts put together. -/
import Derived.Test.YtgfhconcmoepcaaMgb19
import Derived.Test.YtgfhconcmoepcaaMgb18
import Derived.Test.YtgfhconcmoepcaaMgb28
import Derived.Test.YtgfhconcmoepcaaMgb15
import Derived.OwnWalk
import Derived.Test.YtgfhconcmoepcaaMgb6
/- The program's counts of the four letters, CountLetter and CountsOf. Condition: texts of at most 2^20 bytes. -/
namespace Go.Proofs.Ytgfhconcmoepcaa
open Go.RowKit

theorem letterIndex_at (n j : Int) (w : World) (h : n = 97 + j) (h1 : 0 ≤ j) (h2 : j ≤ 3) :
    Calls Try.prog 93 #[.int .u8 n] w fun e w' => e = .returned (.int .i64 j) ∧ w = w' := by
  have h3 : 97 ≤ n := by omega
  have h4 : n ≤ 100 := by omega
  have HJ := Lib.hid (show n - 97 = j by omega)
  clear h h1 h2
  go_enter Try.func93, Try.ntmps93
  go_wp2
  go_ret
  exact ⟨ret_int HJ.out, rfl⟩

/-- the four counts as the cells of an array -/
def cnts (l : List UInt8) : Array Value := #[.int .i64 (cnt l 97), .int .i64 (cnt l 98), .int .i64 (cnt l 99), .int .i64 (cnt l 100)]
theorem cnts_succ (s : ByteArray) (k : Nat) (h : k < s.size) (a b c d : Nat) (ha : cnt (s.data.toList.take k) 97 = a) (hb : cnt (s.data.toList.take k) 98 = b) (hc : cnt (s.data.toList.take k) 99 = c) (hd : cnt (s.data.toList.take k) 100 = d)
    (j : Nat) (hj : s[k].toNat = 97 + j) (_ : j ≤ 3) :
    cnt (s.data.toList.take (k + 1)) 97 = a + (if j = 0 then 1 else 0) ∧ cnt (s.data.toList.take (k + 1)) 98 = b + (if j = 1 then 1 else 0) ∧ cnt (s.data.toList.take (k + 1)) 99 = c + (if j = 2 then 1 else 0) ∧ cnt (s.data.toList.take (k + 1)) 100 = d + (if j = 3 then 1 else 0) := by
  have e : ∀ (x : UInt8) (i : Nat), x.toNat = 97 + i → ((s[k] = x) ↔ j = i) := by
    intro x i hx
    constructor
    · intro h; rw [h] at hj; omega
    · intro h; exact UInt8.toNat_inj.1 (by omega)
  rw [cnt_succ s k h 97, cnt_succ s k h 98, cnt_succ s k h 99, cnt_succ s k h 100, ha, hb, hc, hd]
  simp only [e 97 0 rfl, e 98 1 rfl, e 99 2 rfl, e 100 3 rfl, and_self]

def CntRel (s : ByteArray) (w : World) (i : Value) (w' : World) : Prop :=
  ∃ k a b c d : Nat, k ≤ s.size ∧ i = .int .i64 k ∧ a ≤ k ∧ b ≤ k ∧ c ≤ k ∧ d ≤ k ∧
    w' = (w.alloc (.cells #[.int .i64 0, .int .i64 0, .int .i64 0, .int .i64 0] 60)).alloc (.cells #[.int .i64 a, .int .i64 b, .int .i64 c, .int .i64 d] 60) ∧
    cnt (s.data.toList.take k) 97 = a ∧ cnt (s.data.toList.take k) 98 = b ∧ cnt (s.data.toList.take k) 99 = c ∧ cnt (s.data.toList.take k) 100 = d

set_option maxHeartbeats 400000 in
theorem implCounts (s : ByteArray) (w : World) (h : wordB s = true) :
    Calls Try.prog 71 #[.string s] w fun e w' => e = .returned (.agg #[.int .i64 (cnt s.data.toList 97), .int .i64 (cnt s.data.toList 98), .int .i64 (cnt s.data.toList 99), .int .i64 (cnt s.data.toList 100)]) ∧ Below w.heap.size w w' := by
  have hs := word_size h
  have HW := Lib.hid (word_at h)
  clear h
  go_enter Try.func71, Try.ntmps71
  go_wp2_with fail
  go_loopw [7] (fun i w' => CntRel s w i w') (fun i _ => s.size - (intOf i).toNat)
  case atStart => exact ⟨0, 0, 0, 0, 0, by omega, rfl, by omega, by omega, by omega, by omega, rfl, rfl, rfl, rfl, rfl⟩
  case round =>
    obtain ⟨k, a, b, c, d, hk, rfl, ha, hb, hc, hd, rfl, ea, eb, ec, ed⟩ := hrel
    by_cases hlt : k < s.size
    · have HS := Lib.hid (cnts_succ s k hlt a b c d ea eb ec ed)
      clear ea eb ec ed
      obtain ⟨p1, p2⟩ := HW.out k hlt
      have hj : s[k].toNat = 97 ∨ s[k].toNat = 98 ∨ s[k].toNat = 99 ∨ s[k].toNat = 100 := by omega
      clear p1 p2
      rcases hj with hj | hj | hj | hj
      · have HJ := Lib.hid hj
        have hc' := HS.out 0 hj (by omega)
        have HC := Lib.hid hc'
        clear hj hc'
        go_wp2_with (go_at_call 93; refine (letterIndex_at _ 0 _ (by have := HJ.out; omega) (by omega) (by omega)).mono ?_; rintro e w' ⟨rfl, rfl⟩)
        go_roundw
        case rel => exact ⟨k + 1, a + 1, b, c, d, by omega, by go_num, by omega, by omega, by omega, by omega, rfl, HC.out⟩
        case measure => simp [intOf]; omega
      · have HJ := Lib.hid hj
        have hc' := HS.out 1 hj (by omega)
        have HC := Lib.hid hc'
        clear hj hc'
        go_wp2_with (go_at_call 93; refine (letterIndex_at _ 1 _ (by have := HJ.out; omega) (by omega) (by omega)).mono ?_; rintro e w' ⟨rfl, rfl⟩)
        go_roundw
        case rel => exact ⟨k + 1, a, b + 1, c, d, by omega, by go_num, by omega, by omega, by omega, by omega, rfl, HC.out⟩
        case measure => simp [intOf]; omega
      · have HJ := Lib.hid hj
        have hc' := HS.out 2 hj (by omega)
        have HC := Lib.hid hc'
        clear hj hc'
        go_wp2_with (go_at_call 93; refine (letterIndex_at _ 2 _ (by have := HJ.out; omega) (by omega) (by omega)).mono ?_; rintro e w' ⟨rfl, rfl⟩)
        go_roundw
        case rel => exact ⟨k + 1, a, b, c + 1, d, by omega, by go_num, by omega, by omega, by omega, by omega, rfl, HC.out⟩
        case measure => simp [intOf]; omega
      · have HJ := Lib.hid hj
        have hc' := HS.out 3 hj (by omega)
        have HC := Lib.hid hc'
        clear hj hc'
        go_wp2_with (go_at_call 93; refine (letterIndex_at _ 3 _ (by have := HJ.out; omega) (by omega) (by omega)).mono ?_; rintro e w' ⟨rfl, rfl⟩)
        go_roundw
        case rel => exact ⟨k + 1, a, b, c, d + 1, by omega, by go_num, by omega, by omega, by omega, by omega, rfl, HC.out⟩
        case measure => simp [intOf]; omega
    · have hk' : k = s.size := by omega
      subst hk'
      rw [take_all s _ (Nat.le_refl _)] at ea eb ec ed
      have HA := Lib.hid ea
      have HB := Lib.hid eb
      have HC := Lib.hid ec
      have HD := Lib.hid ed
      clear ea eb ec ed
      go_wp2_with fail
      refine bodyPost_ret (v := .agg #[.int .i64 a, .int .i64 b, .int .i64 c, .int .i64 d]) (by simp [results, Try.results71, go_sem]) rfl ⟨?_, ?_⟩
      · rw [HA.out, HB.out, HC.out, HD.out]
      · exact ((Below.refl _ _).alloc (Nat.le_refl _) _).alloc (by simp) _

theorem letter_one {t : ByteArray} (h : t.size = 1) : t = ⟨#[t[0]'(by omega)]⟩ := by
  obtain ⟨⟨l⟩⟩ := t
  match l, h with
  | [c], _ => rfl

theorem implCountLetter (s t : ByteArray) (w : World) (hs : s.size ≤ 1048576) (ht : t.size ≤ 1048576) :
    Calls Try.prog 36 #[.string s, .string t] w fun e w' => e = .returned (.int .i64 (countR s t)) ∧ Below w.heap.size w w' := by
  by_cases h1 : wordB s = true
  · by_cases h2 : (decide (t.size = 1) && wordB t) = true
    · obtain ⟨g1, g2⟩ : t.size = 1 ∧ wordB t = true := by simpa using h2
      have hr : countR s t = cnt s.data.toList (t[0]'(by omega)) := dif_pos ⟨h1, g1, g2⟩
      have HR := Lib.hid hr
      have hone := letter_one g1
      generalize t[0]'(by omega) = c at hr HR hone
      subst hone
      clear hr g1 h2
      go_enter Try.func36, Try.ntmps36
      go_wp2_with fail
      refine (implWordOk s _ hs).mono ?_
      rintro e w1 ⟨rfl, hb1⟩
      go_wp2_with fail
      refine (implIsLetterWord _ _ ht).mono ?_
      rintro e w2 ⟨rfl, hb2⟩
      go_wp2_with fail
      refine (Try.strings_Count_one s c _).mono ?_
      rintro e w3 ⟨rfl, rfl⟩
      go_wp2_with fail
      go_ret
      exact ⟨ret_int HR.out.symm, hb1.trans (hb2.mono hb1.size)⟩
    · have hr : countR s t = -1 := dif_neg (fun h => h2 (by rw [decide_eq_true h.2.1, h.2.2]; rfl))
      have HR := Lib.hid hr
      have h2' : (decide (t.size = 1) && wordB t) = false := by simpa using h2
      clear hr h2
      go_enter Try.func36, Try.ntmps36
      go_wp2_with fail
      refine (implWordOk s _ hs).mono ?_
      rintro e w1 ⟨rfl, hb1⟩
      go_wp2_with fail
      refine (implIsLetterWord _ _ ht).mono ?_
      rintro e w2 ⟨rfl, hb2⟩
      go_wp2_with fail
      go_ret
      exact ⟨ret_int HR.out.symm, hb1.trans (hb2.mono hb1.size)⟩
  · have hr : countR s t = -1 := dif_neg (fun h => h1 h.1)
    have HR := Lib.hid hr
    have h1' : wordB s = false := by simpa using h1
    clear hr h1
    go_enter Try.func36, Try.ntmps36
    go_wp2_with fail
    refine (implWordOk s _ hs).mono ?_
    rintro e w1 ⟨rfl, hb1⟩
    go_wp2_with fail
    go_ret
    exact ⟨ret_int HR.out.symm, hb1⟩

theorem implCountsOf (s : ByteArray) (w : World) (hs : s.size ≤ 1048576) :
    Calls Try.prog 30 #[.string s] w fun e w' => ∃ v, e = .returned v ∧ w'.ownsRow w.heap.size 60 1 v (countsR s).length (ints (countsR s)) ∧ Below w.heap.size w w' := by
  by_cases h1 : wordB s = true
  · have hr : countsR s = [(cnt s.data.toList 97 : Int), (cnt s.data.toList 98 : Int), (cnt s.data.toList 99 : Int), (cnt s.data.toList 100 : Int)] := if_pos h1
    have HR := Lib.hid hr
    have HC := Lib.hid (fun w => implCounts s w h1)
    clear hr
    go_enter Try.func30, Try.ntmps30
    go_wp2_with fail
    refine (implWordOk s _ hs).mono ?_
    rintro e w1 ⟨rfl, hb1⟩
    go_wp2_with fail
    refine (HC.out _).mono ?_
    rintro e w2 ⟨rfl, hb2⟩
    go_wp2_with fail
    go_ret
    have hb : Below w.heap.size w w2 := hb1.trans (hb2.mono hb1.size)
    refine ⟨_, rfl, ?_, hb.alloc hb.size _⟩
    rw [HR.out]
    exact World.ownsRow_lit w2 _ 4 hb.size (by unfold maxLen; omega) rfl
  · have hr : countsR s = [] := if_neg h1
    have HR := Lib.hid hr
    have h1' : wordB s = false := by simpa using h1
    clear hr h1
    go_enter Try.func30, Try.ntmps30
    go_wp2_with fail
    refine (implWordOk s _ hs).mono ?_
    rintro e w1 ⟨rfl, hb1⟩
    go_wp2_with fail
    go_ret
    refine ⟨_, rfl, ?_, hb1⟩
    rw [HR.out]
    exact World.ownsRow_nil _ _ _ _
end Go.Proofs.Ytgfhconcmoepcaa

/- TurnWord of the program: the letters in reverse order. Condition: a text of at most 2^20 bytes. -/
namespace Go.Proofs.Ytgfhconcmoepcaa
open Go.RowKit

theorem turn_at (s : ByteArray) (k : Nat) (hk : k < s.size) (hk' : k < (turnS s).data.toList.length) : (turnS s).data.toList[k] = s[s.size - 1 - k]'(by omega) := by
  have : (turnS s).data.toList[k] = s.data.toList.reverse[k]'(by simpa using hk) := by simp [turnS]
  rw [this, List.getElem_reverse]
  simp
  rfl

set_option maxHeartbeats 400000 in
theorem implTurned (s : ByteArray) (w : World) (h : s.size ≤ 400) :
    Calls Try.prog 72 #[.string s] w fun e w' => e = .returned (.string (turnS s)) ∧ Below w.heap.size w w' := by
  obtain ⟨i0, hi0, hz0, hz1, hz2⟩ := info_parts u8_info
  go_enter Try.func72, Try.ntmps72
  go_wp2_with (at_make; refine wpList_make_full _ rfl _ _ 22 rfl w.heap.size 5 i0 (.int .u8 0) 1 Try.underlying22 hi0 hz0 hz1 .i64 .i64 _ _ s.size rfl rfl rfl rfl (by rw [hz2]; omega) (by unfold maxLen; omega) (Nat.le_refl _) ?_; intro w1 hown hgrow)
  have hb1 : Below w.heap.size w w1 := (Below.refl _ _).grown hgrow (Nat.le_refl _) (fun k hk => by cases hk)
  have HL : Hid ((turnS s).data.toList.length = s.size) := by unfold Hid; simp [turnS]
  have HD : Hid (((madeCells (Value.int .u8 0).cells (s.size * 1)).toList).length = (turnS s).data.toList.length) := by
    have := hown.1
    have := HL.out
    unfold Hid
    omega
  have HT := Lib.hid (turn_at s)
  generalize (madeCells (Value.int .u8 0).cells (s.size * 1)).toList = zs at hown HD
  have HTS : Hid ((⟨(turnS s).data.toList.toArray⟩ : ByteArray) = turnS s) := by unfold Hid; simp
  generalize hLL : (turnS s).data.toList = L at HL HD HT HTS
  clear hLL
  go_loopw [10] (fun i w' => ∃ (k : Nat), k ≤ s.size ∧ i = .int .i64 k ∧ w'.ownsRow w.heap.size 5 1 (.slice (some ⟨w.heap.size, 0, none⟩) s.size s.size) s.size (byteCells (L.take k) ++ zs.drop k) ∧ Below w.heap.size w w') (fun i _ => s.size - (intOf i).toNat)
  case atStart => exact ⟨0, by omega, rfl, by simpa [byteCells] using hown, hb1⟩
  case round =>
    obtain ⟨k, hk, rfl, ho, hbk⟩ := hrel
    by_cases hlt : k < s.size
    · have hkL : k < L.length := by rw [HL.out]; exact hlt
      obtain ⟨u, hu⟩ := byteCells_get L zs k hkL HD.out
      have g2 := (ho.cellAt k (by omega)).trans hu
      have g3 := ho.frozenAt k
      have hs' := byteCells_set L zs k hkL HD.out
      rw [HT.out k hlt hkL] at hs'
      have HS := Lib.hid hs'
      have j1 : (s.size : Int) - 1 - k = ((s.size - 1 - k : Nat) : Int) := by omega
      have j2 : s.size - 1 - k < s.size := by omega
      clear hu hkL hs'
      go_wp2_with fail
      go_roundw
      case rel =>
        refine ⟨k + 1, by omega, by go_num, ?_, hbk.setCell (Nat.le_refl _) _⟩
        have := (ho.stored k (.int .u8 (s[s.size - 1 - k].toNat : Int))).1
        rwa [HS.out] at this
      case measure => simp [intOf]; omega
    · have hkl : k = s.size := by omega
      subst hkl
      have ho' : wr.ownsRow w.heap.size 5 1 (.slice (some ⟨w.heap.size, 0, none⟩) s.size s.size) s.size (byteCells L) := by
        rw [← HL.out, byteCells_end L zs HD.out] at ho
        rw [HL.out] at ho
        exact ho
      have hconv := conv_own_to Try.underlying54 ho'
      rw [HTS.out] at hconv
      clear ho ho'
      go_wp2_with fail
      go_ret
      exact ⟨rfl, hbk⟩

theorem implTurnWord (s : ByteArray) (w : World) (hs : s.size ≤ 1048576) :
    Calls Try.prog 31 #[.string s] w fun e w' => e = .returned (.string (turnR s)) ∧ Below w.heap.size w w' := by
  by_cases h1 : wordB s = true
  · have hr : turnR s = turnS s := if_pos h1
    have HR := Lib.hid hr
    have h400 := word_size h1
    clear hr
    go_enter Try.func31, Try.ntmps31
    go_wp2_with fail
    refine (implWordOk s _ hs).mono ?_
    rintro e w1 ⟨rfl, hb1⟩
    go_wp2_with fail
    refine (implTurned s _ h400).mono ?_
    rintro e w2 ⟨rfl, hb2⟩
    go_wp2_with fail
    go_ret
    exact ⟨ret_str HR.out.symm, hb1.trans (hb2.mono hb1.size)⟩
  · have hr : turnR s = ⟨#[]⟩ := if_neg h1
    have HR := Lib.hid hr
    have h1' : wordB s = false := by simpa using h1
    clear hr h1
    go_enter Try.func31, Try.ntmps31
    go_wp2_with fail
    refine (implWordOk s _ hs).mono ?_
    rintro e w1 ⟨rfl, hb1⟩
    go_wp2_with fail
    go_ret
    exact ⟨ret_str HR.out.symm, hb1⟩
end Go.Proofs.Ytgfhconcmoepcaa

/- PlacesIn of the program. Condition: texts of at most 2^20 bytes. -/
namespace Go.Proofs.Ytgfhconcmoepcaa
open Go.RowKit

theorem ltoList_empty (f : ByteArray) : f.toList.isEmpty = decide (f.size = 0) := by
  obtain ⟨⟨l⟩⟩ := f
  rw [ByteArray.toList_eq]
  cases l with
  | nil => rfl
  | cons c r => simp [ByteArray.size]

set_option maxHeartbeats 400000 in
theorem implPlaces (s f : ByteArray) (w : World) (h400 : s.size ≤ 400) (h401 : f.size ≤ 400) (hpos : 0 < f.size) :
    Calls Try.prog 76 #[.string s, .string f] w fun e w' => ∃ v, e = .returned v ∧ w'.ownsRow w.heap.size 3 1 v (placesTo s f (s.size + 1)).length (ints (placesTo s f (s.size + 1))) ∧ Below w.heap.size w w' := by
  obtain ⟨i0, hi0, hz0, hz1, hz2⟩ := info_parts int_info
  go_enter Try.func76, Try.ntmps76
  go_wp2_with fail
  go_loopw [5, 13] (fun o i w' => ∃ (k n : Nat), k ≤ s.size + 1 ∧ i = .int .i64 k ∧ n ≤ k ∧ n = (placesTo s f k).length ∧ w'.ownsRow w.heap.size 3 1 o n (ints (placesTo s f k)) ∧ Below w.heap.size w w') (fun _ i _ => s.size + 1 - (intOf i).toNat)
  case atStart => exact ⟨0, 0, by omega, rfl, by omega, rfl, World.ownsRow_nil _ _ _ _, Below.refl _ _⟩
  case round =>
    obtain ⟨k, n, hk, rfl, hn, hnl, ho, hb⟩ := hrel
    have HN := Lib.hid hnl
    have hsz := hb.size
    clear hnl
    by_cases hlt : k + f.size ≤ s.size
    · have hsl : ∀ w : World, (Instr.slice 54 (.string s) (some (.int .i64 (k : Int))) (some (.int .i64 ((k : Int) + (f.size : Int)))) none).run Try.prog w = .ok (.string (s.extract k (k + f.size))) w := fun w => slice_at Try.underlying54 s k f.size w hlt
      by_cases he : s.extract k (k + f.size) = f
      · have hp : placesTo s f (k + 1) = placesTo s f k ++ [(k : Int)] := by rw [placesTo, if_pos ⟨hlt, he⟩]
        have HP := Lib.hid hp
        have hbq : ((s.extract k (k + f.size)).toList == f.toList) = true := by rw [he]; simp
        clear he hp
        go_wp2_with (first
          | (at_builtin
             refine wpList_append1 _ rfl (.tmp 25) (.tmp 27) _ rfl w.heap.size 3 i0 _ 8 Try.underlying24 hi0 hz0 hz1 hz2 rfl _ n _ rfl ho (.int .i64 (k : Int)) rfl rfl (by unfold maxLen; omega) (by omega) hsz ?_
             intro v' w1 hown1 hbel1))
        go_roundw
        case rel =>
          refine ⟨k + 1, n + 1, by omega, by go_num, by omega, ?_, ?_, hb.trans hbel1⟩
          · rw [HP.out, List.length_append, ← HN.out]; rfl
          · rw [HP.out, ints_snoc]; exact hown1
        case measure => simp [intOf]; omega
      · have hp : placesTo s f (k + 1) = placesTo s f k := by rw [placesTo, if_neg (fun h => he h.2)]
        have HP := Lib.hid hp
        have hbq : ((s.extract k (k + f.size)).toList == f.toList) = false := by
          rw [beq_eq_false_iff_ne]
          exact fun h => he (bytes_ext h)
        clear he hp
        go_wp2_with fail
        go_roundw
        case rel => exact ⟨k + 1, n, by omega, by go_num, by omega, by rw [HP.out]; exact HN.out, by rw [HP.out]; exact ho, hb⟩
        case measure => simp [intOf]; omega
    · have hp : placesTo s f (s.size + 1) = placesTo s f k := by
        have := placesTo_more (s := s) (f := f) k hlt (s.size + 1 - k)
        rwa [show k + (s.size + 1 - k) = s.size + 1 from by omega] at this
      have HP := Lib.hid hp
      clear hp
      go_wp2_with fail
      go_ret
      refine ⟨_, rfl, ?_, hb⟩
      rw [HP.out, ← HN.out]
      exact ho

theorem implPlacesIn (s f : ByteArray) (w : World) (hs : s.size ≤ 1048576) (hf : f.size ≤ 1048576) :
    Calls Try.prog 37 #[.string s, .string f] w fun e w' => ∃ v, e = .returned v ∧ w'.ownsRow w.heap.size 3 1 v (placesR s f).length (ints (placesR s f)) ∧ Below w.heap.size w w' := by
  by_cases h1 : wordB s = true
  · by_cases h2 : wordB f = true
    · by_cases h3 : f.size = 0
      · have hr : placesR s f = [] := if_neg (fun h => h.2.2 h3)
        have HR := Lib.hid hr
        have hfe : f.toList.isEmpty = true := by rw [ltoList_empty, decide_eq_true h3]
        clear hr h3
        go_enter Try.func37, Try.ntmps37
        go_wp2_with fail
        refine (implWordOk s _ hs).mono ?_
        rintro e w1 ⟨rfl, hb1⟩
        go_wp2_with fail
        refine (implWordOk f _ hf).mono ?_
        rintro e w2 ⟨rfl, hb2⟩
        go_wp2_with fail
        go_ret
        refine ⟨_, rfl, ?_, hb1.trans (hb2.mono hb1.size)⟩
        rw [HR.out]
        exact World.ownsRow_nil _ _ _ _
      · have hr : placesR s f = placesTo s f (s.size + 1) := if_pos ⟨h1, h2, h3⟩
        have HR := Lib.hid hr
        have h400 := word_size h1
        have h401 := word_size h2
        have hpos : 0 < f.size := by omega
        have hfe : f.toList.isEmpty = false := by rw [ltoList_empty, decide_eq_false h3]
        clear hr h3
        go_enter Try.func37, Try.ntmps37
        go_wp2_with fail
        refine (implWordOk s _ hs).mono ?_
        rintro e w1 ⟨rfl, hb1⟩
        go_wp2_with fail
        refine (implWordOk f _ hf).mono ?_
        rintro e w2 ⟨rfl, hb2⟩
        go_wp2_with fail
        refine (implPlaces s f _ h400 h401 hpos).mono ?_
        rintro e w3 ⟨v, rfl, ho, hb3⟩
        go_wp2_with fail
        go_ret
        have hb := hb1.trans (hb2.mono hb1.size)
        refine ⟨_, rfl, ?_, hb.trans (hb3.mono hb.size)⟩
        rw [HR.out]
        exact own_mono ho hb.size
    · have hr : placesR s f = [] := if_neg (fun h => h2 h.2.1)
      have HR := Lib.hid hr
      have h2' : wordB f = false := by simpa using h2
      clear hr h2
      go_enter Try.func37, Try.ntmps37
      go_wp2_with fail
      refine (implWordOk s _ hs).mono ?_
      rintro e w1 ⟨rfl, hb1⟩
      go_wp2_with fail
      refine (implWordOk f _ hf).mono ?_
      rintro e w2 ⟨rfl, hb2⟩
      go_wp2_with fail
      go_ret
      refine ⟨_, rfl, ?_, hb1.trans (hb2.mono hb1.size)⟩
      rw [HR.out]
      exact World.ownsRow_nil _ _ _ _
  · have hr : placesR s f = [] := if_neg (fun h => h1 h.1)
    have HR := Lib.hid hr
    have h1' : wordB s = false := by simpa using h1
    clear hr h1
    go_enter Try.func37, Try.ntmps37
    go_wp2_with fail
    refine (implWordOk s _ hs).mono ?_
    rintro e w1 ⟨rfl, hb1⟩
    go_wp2_with fail
    go_ret
    refine ⟨_, rfl, ?_, hb1⟩
    rw [HR.out]
    exact World.ownsRow_nil _ _ _ _
end Go.Proofs.Ytgfhconcmoepcaa

/- CommonStart of the program. Condition: texts of at most 2^20 bytes. -/
namespace Go.Proofs.Ytgfhconcmoepcaa
open Go.RowKit

set_option maxHeartbeats 400000 in
theorem implCommon (s t : ByteArray) (w : World) (l1 : s.size ≤ 400) (l2 : t.size ≤ 400) :
    Calls Try.prog 77 #[.string s, .string t] w fun e w' => e = .returned (.int .i64 (lcp s.data.toList t.data.toList : Int)) ∧ ∃ n, w' = w.drewN n := by
  have HL : Hid (s.data.toList.length = s.size ∧ t.data.toList.length = t.size) := ⟨by simp, by simp⟩
  go_enter Try.func77, Try.ntmps77
  go_wp2_with fail
  go_loopw [5] (fun i w' => ∃ (k n : Nat), k ≤ s.size ∧ k ≤ t.size ∧ i = .int .i64 k ∧ s.data.toList.take k = t.data.toList.take k ∧ w' = w.drewN n) (fun i _ => s.size - (intOf i).toNat)
  case atStart => exact ⟨0, 0, by omega, by omega, rfl, rfl, rfl⟩
  case round =>
    obtain ⟨k, n, hk1, hk2, rfl, ht, rfl⟩ := hrel
    have HT := Lib.hid ht
    clear ht
    by_cases c1 : k < s.size
    · have d1 : decide ((k : Int) < s.size) = true := by simp; omega
      by_cases c2 : k < t.size
      · have d2 : decide ((k : Int) < t.size) = true := by simp; omega
        by_cases he : s[k] = t[k]
        · have hb : ((s[k].toNat : Int) == (t[k].toNat : Int)) = true := by rw [he]; simp
          have HN : Hid (s.data.toList.take (k + 1) = t.data.toList.take (k + 1)) := by
            show s.data.toList.take (k + 1) = t.data.toList.take (k + 1)
            rw [take_snoc s k c1, take_snoc t k c2, HT.out, he]
          clear he
          go_wp2_with fail
          go_quiet (fail)
          go_wp2_with fail
          go_roundw
          case rel => exact ⟨k + 1, _, by omega, by omega, by go_num, HN.out, rfl⟩
          case measure => simp [intOf]; omega
        · have hb : ((s[k].toNat : Int) == (t[k].toNat : Int)) = false := by
            rw [beq_eq_false_iff_ne]
            intro h
            exact he (UInt8.toNat_inj.1 (by omega))
          have hv : lcp s.data.toList t.data.toList = k := lcp_eq k _ _ HT.out (by rw [HL.out.1]; omega) (by rw [HL.out.2]; omega) (.inr (.inr (fun a b ha hb => by
            rw [at_some s k c1] at ha
            rw [at_some t k c2] at hb
            injection ha with ha
            injection hb with hb
            subst ha; subst hb
            exact he)))
          have HV := Lib.hid hv
          clear hv he
          go_wp2_with fail
          go_quiet (fail)
          go_wp2_with fail
          go_ret
          exact ⟨ret_int (by rw [HV.out]), _, World.drewN_drewN ..⟩
      · have d2 : decide ((k : Int) < t.size) = false := by simp; omega
        have hv : lcp s.data.toList t.data.toList = k := lcp_eq k _ _ HT.out (by rw [HL.out.1]; omega) (by rw [HL.out.2]; omega) (.inr (.inl (by rw [HL.out.2]; omega)))
        have HV := Lib.hid hv
        clear hv
        go_wp2_with fail
        go_quiet (fail)
        go_wp2_with fail
        go_ret
        exact ⟨ret_int (by rw [HV.out]), _, World.drewN_drewN ..⟩
    · have d1 : decide ((k : Int) < s.size) = false := by simp; omega
      have hv : lcp s.data.toList t.data.toList = k := lcp_eq k _ _ HT.out (by rw [HL.out.1]; omega) (by rw [HL.out.2]; omega) (.inl (by rw [HL.out.1]; omega))
      have HV := Lib.hid hv
      clear hv
      go_wp2_with fail
      go_quiet (fail)
      go_wp2_with fail
      go_ret
      exact ⟨ret_int (by rw [HV.out]), _, World.drewN_drewN ..⟩

theorem implCommonStart (s t : ByteArray) (w : World) (hs : s.size ≤ 1048576) (ht : t.size ≤ 1048576) :
    Calls Try.prog 40 #[.string s, .string t] w fun e w' => e = .returned (.int .i64 (commonR s t)) ∧ Below w.heap.size w w' := by
  by_cases h1 : wordB s = true
  · by_cases h2 : wordB t = true
    · have hr : commonR s t = lcp s.data.toList t.data.toList := if_pos ⟨h1, h2⟩
      have HR := Lib.hid hr
      have l1 := word_size h1
      have l2 := word_size h2
      clear hr
      go_enter Try.func40, Try.ntmps40
      go_wp2_with fail
      refine (implWordOk s _ hs).mono ?_
      rintro e w1 ⟨rfl, hb1⟩
      go_wp2_with fail
      refine (implWordOk t _ ht).mono ?_
      rintro e w2 ⟨rfl, hb2⟩
      go_wp2_with fail
      refine (implCommon s t _ l1 l2).mono ?_
      rintro e w3 ⟨rfl, n3, rfl⟩
      go_wp2_with fail
      go_ret
      exact ⟨ret_int HR.out.symm, below_drewN (hb1.trans (hb2.mono hb1.size)) n3⟩
    · have hr : commonR s t = -1 := if_neg (fun h => h2 h.2)
      have HR := Lib.hid hr
      have h2' : wordB t = false := by simpa using h2
      clear hr h2
      go_enter Try.func40, Try.ntmps40
      go_wp2_with fail
      refine (implWordOk s _ hs).mono ?_
      rintro e w1 ⟨rfl, hb1⟩
      go_wp2_with fail
      refine (implWordOk t _ ht).mono ?_
      rintro e w2 ⟨rfl, hb2⟩
      go_wp2_with fail
      go_ret
      exact ⟨ret_int HR.out.symm, hb1.trans (hb2.mono hb1.size)⟩
  · have hr : commonR s t = -1 := if_neg (fun h => h1 h.1)
    have HR := Lib.hid hr
    have h1' : wordB s = false := by simpa using h1
    clear hr h1
    go_enter Try.func40, Try.ntmps40
    go_wp2_with fail
    refine (implWordOk s _ hs).mono ?_
    rintro e w1 ⟨rfl, hb1⟩
    go_wp2_with fail
    go_ret
    exact ⟨ret_int HR.out.symm, hb1⟩
end Go.Proofs.Ytgfhconcmoepcaa
