/- Texts put together. -/
import Derived.Test.YtfcbfflkajlhnaaMgU6
import Derived.Test.YtfcbfflkajlhnaaMgU3
import Derived.Test.YtfcbfflkajlhnaaMgU11
import Derived.Test.YtfcbfflkajlhnaaMgU17
import Derived.Test.YtfcbfflkajlhnaaMgU18
import Derived.Test.YtfcbfflkajlhnaaMgU16
import Derived.Test.YtfcbfflkajlhnaaMgU14
/- The model's CountLetter, CountsOf, ShiftWord, BeforeWord and IsFactor. Condition: texts of at most 2^20 bytes. -/
namespace Go.Proofs.Ytfcbfflkajlhnaa
open Go.RowKit

/-- what CountLetter is to return -/
def countR (s t : ByteArray) : Int := if h : wordB s = true ∧ t.size = 1 ∧ wordB t = true then (cnt s.data.toList (t[0]'(by omega)) : Int) else -1

/-- what CountsOf is to return -/
def countsR (s : ByteArray) : List Int := if wordB s = true then [(cnt s.data.toList 97 : Int), (cnt s.data.toList 98 : Int), (cnt s.data.toList 99 : Int), (cnt s.data.toList 100 : Int)] else []

theorem countsR_le (s : ByteArray) : (countsR s).length ≤ 4 := by
  unfold countsR; split <;> simp

/-- what BeforeWord is to return -/
def beforeR (s t : ByteArray) : Bool := wordB s && (wordB t && Op.bytesLess s.toList t.toList)
/-- what ShiftWord is to return -/
def shiftR (s : ByteArray) (k : Int) : ByteArray := if wordB s = true ∧ 0 ≤ k ∧ k ≤ s.size then s.extract k.toNat s.size ++ s.extract 0 k.toNat else ⟨#[]⟩
end Go.Proofs.Ytfcbfflkajlhnaa

/- The program's counts of the four letters, CountLetter and CountsOf. Condition: texts of at most 2^20 bytes. -/
namespace Go.Proofs.Ytfcbfflkajlhnaa
open Go.RowKit

theorem letterIndex_at (n j : Int) (w : World) (h : n = 97 + j) (h1 : 0 ≤ j) (h2 : j ≤ 3) :
    Calls Try.prog 78 #[.int .u8 n] w fun e w' => e = .returned (.int .i64 j) ∧ w = w' := by
  have h3 : 97 ≤ n := by omega
  have h4 : n ≤ 100 := by omega
  have HJ := Lib.hid (show n - 97 = j by omega)
  clear h h1 h2
  go_enter Try.func78, Try.ntmps78
  go_wp2
  go_ret
  exact ⟨ret_int HJ.out, rfl⟩

/-- the four counts as the cells of an array -/
def cnts (l : List UInt8) : Array Value := #[.int .i64 (cnt l 97), .int .i64 (cnt l 98), .int .i64 (cnt l 99), .int .i64 (cnt l 100)]
theorem cnts_succ (s : ByteArray) (k : Nat) (h : k < s.size) (a b c d : Nat) (ha : cnt (s.data.toList.take k) 97 = a) (hb : cnt (s.data.toList.take k) 98 = b) (hc : cnt (s.data.toList.take k) 99 = c) (hd : cnt (s.data.toList.take k) 100 = d)
    (j : Nat) (hj : s[k].toNat = 97 + j) (_ : j ≤ 3) :
    cnt (s.data.toList.take (k + 1)) 97 = a + (if j = 0 then 1 else 0) ∧ cnt (s.data.toList.take (k + 1)) 98 = b + (if j = 1 then 1 else 0) ∧ cnt (s.data.toList.take (k + 1)) 99 = c + (if j = 2 then 1 else 0) ∧ cnt (s.data.toList.take (k + 1)) 100 = d + (if j = 3 then 1 else 0) := by
  have e : ∀ (x : UInt8) (i : Nat), x.toNat = 97 + i → ((s[k] = x) ↔ j = i) := by
    intro x i hx
    constructor
    · intro h; rw [h] at hj; omega
    · intro h; exact UInt8.toNat_inj.1 (by omega)
  rw [cnt_succ s k h 97, cnt_succ s k h 98, cnt_succ s k h 99, cnt_succ s k h 100, ha, hb, hc, hd]
  simp only [e 97 0 rfl, e 98 1 rfl, e 99 2 rfl, e 100 3 rfl, and_self]

def CntRel (s : ByteArray) (w : World) (i : Value) (w' : World) : Prop :=
  ∃ k a b c d : Nat, k ≤ s.size ∧ i = .int .i64 k ∧ a ≤ k ∧ b ≤ k ∧ c ≤ k ∧ d ≤ k ∧
    w' = (w.alloc (.cells #[.int .i64 0, .int .i64 0, .int .i64 0, .int .i64 0] 74)).alloc (.cells #[.int .i64 a, .int .i64 b, .int .i64 c, .int .i64 d] 74) ∧
    cnt (s.data.toList.take k) 97 = a ∧ cnt (s.data.toList.take k) 98 = b ∧ cnt (s.data.toList.take k) 99 = c ∧ cnt (s.data.toList.take k) 100 = d

set_option maxHeartbeats 400000 in
theorem implCounts (s : ByteArray) (w : World) (h : wordB s = true) :
    Calls Try.prog 77 #[.string s] w fun e w' => e = .returned (.agg #[.int .i64 (cnt s.data.toList 97), .int .i64 (cnt s.data.toList 98), .int .i64 (cnt s.data.toList 99), .int .i64 (cnt s.data.toList 100)]) ∧ Below w.heap.size w w' := by
  have hs := word_size h
  have HW := Lib.hid (word_at h)
  clear h
  go_enter Try.func77, Try.ntmps77
  go_wp2_with fail
  go_loopw [7] (fun i w' => CntRel s w i w') (fun i _ => s.size - (intOf i).toNat)
  case atStart => exact ⟨0, 0, 0, 0, 0, by omega, rfl, by omega, by omega, by omega, by omega, rfl, rfl, rfl, rfl, rfl⟩
  case round =>
    obtain ⟨k, a, b, c, d, hk, rfl, ha, hb, hc, hd, rfl, ea, eb, ec, ed⟩ := hrel
    by_cases hlt : k < s.size
    · have HS := Lib.hid (cnts_succ s k hlt a b c d ea eb ec ed)
      clear ea eb ec ed
      obtain ⟨p1, p2⟩ := HW.out k hlt
      have hj : s[k].toNat = 97 ∨ s[k].toNat = 98 ∨ s[k].toNat = 99 ∨ s[k].toNat = 100 := by omega
      clear p1 p2
      rcases hj with hj | hj | hj | hj
      · have HJ := Lib.hid hj
        have hc' := HS.out 0 hj (by omega)
        have HC := Lib.hid hc'
        clear hj hc'
        go_wp2_with (go_at_call 78; refine (letterIndex_at _ 0 _ (by have := HJ.out; omega) (by omega) (by omega)).mono ?_; rintro e w' ⟨rfl, rfl⟩)
        go_roundw
        case rel => exact ⟨k + 1, a + 1, b, c, d, by omega, by go_num, by omega, by omega, by omega, by omega, rfl, HC.out⟩
        case measure => simp [intOf]; omega
      · have HJ := Lib.hid hj
        have hc' := HS.out 1 hj (by omega)
        have HC := Lib.hid hc'
        clear hj hc'
        go_wp2_with (go_at_call 78; refine (letterIndex_at _ 1 _ (by have := HJ.out; omega) (by omega) (by omega)).mono ?_; rintro e w' ⟨rfl, rfl⟩)
        go_roundw
        case rel => exact ⟨k + 1, a, b + 1, c, d, by omega, by go_num, by omega, by omega, by omega, by omega, rfl, HC.out⟩
        case measure => simp [intOf]; omega
      · have HJ := Lib.hid hj
        have hc' := HS.out 2 hj (by omega)
        have HC := Lib.hid hc'
        clear hj hc'
        go_wp2_with (go_at_call 78; refine (letterIndex_at _ 2 _ (by have := HJ.out; omega) (by omega) (by omega)).mono ?_; rintro e w' ⟨rfl, rfl⟩)
        go_roundw
        case rel => exact ⟨k + 1, a, b, c + 1, d, by omega, by go_num, by omega, by omega, by omega, by omega, rfl, HC.out⟩
        case measure => simp [intOf]; omega
      · have HJ := Lib.hid hj
        have hc' := HS.out 3 hj (by omega)
        have HC := Lib.hid hc'
        clear hj hc'
        go_wp2_with (go_at_call 78; refine (letterIndex_at _ 3 _ (by have := HJ.out; omega) (by omega) (by omega)).mono ?_; rintro e w' ⟨rfl, rfl⟩)
        go_roundw
        case rel => exact ⟨k + 1, a, b, c, d + 1, by omega, by go_num, by omega, by omega, by omega, by omega, rfl, HC.out⟩
        case measure => simp [intOf]; omega
    · have hk' : k = s.size := by omega
      subst hk'
      rw [take_all s _ (Nat.le_refl _)] at ea eb ec ed
      have HA := Lib.hid ea
      have HB := Lib.hid eb
      have HC := Lib.hid ec
      have HD := Lib.hid ed
      clear ea eb ec ed
      go_wp2_with fail
      refine bodyPost_ret (v := .agg #[.int .i64 a, .int .i64 b, .int .i64 c, .int .i64 d]) (by simp [results, Try.results77, go_sem]) rfl ⟨?_, ?_⟩
      · rw [HA.out, HB.out, HC.out, HD.out]
      · exact ((Below.refl _ _).alloc (Nat.le_refl _) _).alloc (by simp) _

theorem letter_one {t : ByteArray} (h : t.size = 1) : t = ⟨#[t[0]'(by omega)]⟩ := by
  obtain ⟨⟨l⟩⟩ := t
  match l, h with
  | [c], _ => rfl

theorem implCountsOf (s : ByteArray) (w : World) (hs : s.size ≤ 1048576) :
    Calls Try.prog 27 #[.string s] w fun e w' => ∃ v, e = .returned v ∧ w'.ownsRow w.heap.size 74 1 v (countsR s).length (ints (countsR s)) ∧ Below w.heap.size w w' := by
  by_cases h1 : wordB s = true
  · have hr : countsR s = [(cnt s.data.toList 97 : Int), (cnt s.data.toList 98 : Int), (cnt s.data.toList 99 : Int), (cnt s.data.toList 100 : Int)] := if_pos h1
    have HR := Lib.hid hr
    have HC := Lib.hid (fun w => implCounts s w h1)
    clear hr
    go_enter Try.func27, Try.ntmps27
    go_wp2_with fail
    refine (implWordOk s _ hs).mono ?_
    rintro e w1 ⟨rfl, hb1⟩
    go_wp2_with fail
    refine (HC.out _).mono ?_
    rintro e w2 ⟨rfl, hb2⟩
    go_wp2_with fail
    go_ret
    have hb : Below w.heap.size w w2 := hb1.trans (hb2.mono hb1.size)
    refine ⟨_, rfl, ?_, hb.alloc hb.size _⟩
    rw [HR.out]
    exact World.ownsRow_lit w2 _ 4 hb.size (by unfold maxLen; omega) rfl
  · have hr : countsR s = [] := if_neg h1
    have HR := Lib.hid hr
    have h1' : wordB s = false := by simpa using h1
    clear hr h1
    go_enter Try.func27, Try.ntmps27
    go_wp2_with fail
    refine (implWordOk s _ hs).mono ?_
    rintro e w1 ⟨rfl, hb1⟩
    go_wp2_with fail
    go_ret
    refine ⟨_, rfl, ?_, hb1⟩
    rw [HR.out]
    exact World.ownsRow_nil _ _ _ _
end Go.Proofs.Ytfcbfflkajlhnaa

/- The matrix of a substitution as a square of the program; MatrixOf. Conditions: lengths of at most 2^20. -/
namespace Go.Proofs.Ytfcbfflkajlhnaa
open Go.RowKit

/-- how often the letter with the index i stands in that image -/
def cntF (l : List ByteArray) : Nat → Nat → Int := fun a c => (cnt (l.getD c ⟨#[]⟩).data.toList (letterN a) : Int)
theorem cnt_out {n : Nat} {s : ByteArray} (h : withinB n s = true) (a : Nat) (ha : n ≤ a) (h4 : a ≤ 4) : cnt s.data.toList (letterN a) = 0 := by
  unfold cnt
  rw [List.count_eq_zero]
  intro hm
  have h1 := List.all_eq_true.1 h _ hm
  rw [letterN_toNat a h4] at h1
  simp at h1
  omega
theorem matL_cells {l : List ByteArray} (hl : substB l = true) : sqA l.length (fun a c => if c < l.length then cntF l a c else 0) = sqA l.length (at2 (matL l)) := by
  obtain ⟨h1, h4, h5⟩ := subst_parts hl
  refine sqA_congr fun a c ha hc => ?_
  by_cases hcl : c < l.length
  · rw [if_pos hcl]
    have e : l.getD c ⟨#[]⟩ = l[c] := by rw [List.getD_eq_getElem?_getD, List.getElem?_eq_getElem hcl]; rfl
    unfold cntF
    rw [e]
    by_cases hal : a < l.length
    · rw [at2_eq (matL l) a c (by rw [matL_length]; exact hal) (by rw [matL_at, rowL_length]; exact hcl)]
      simp only [matL_at]
      rw [rowL_at l a c hcl]
    · rw [at2_out _ _ _ (by rw [matL_length]; omega), cnt_out (img_parts (h5 c hcl)).2.2.2 a (by omega) (by omega)]
      rfl
  · rw [if_neg hcl]
    by_cases hal : a < l.length
    · rw [at2_outc (matL l) l.length a c (by rw [matL_length]; exact hal) (by rw [matL_at, rowL_length]) (by omega)]
    · rw [at2_out _ _ _ (by rw [matL_length]; omega)]
theorem implCountsRow (s : ByteArray) (w : World) (h : wordB s = true) :
    Calls Try.prog 77 #[.string s] w fun e w' => e = .returned (.agg (rowA fun i => (cnt s.data.toList (letterN i) : Int))) ∧ Below w.heap.size w w' := implCounts s w h

set_option maxHeartbeats 1000000 in
set_option maxRecDepth 100000 in
theorem implMatrix (l : List ByteArray) (v : Value) (w : World) (h : Lst w v (strs l)) (hl : substB l = true) :
    Calls Try.prog 73 #[.agg #[v]] w fun e w' => e = .returned (.agg (sqA l.length (at2 (matL l)))) ∧ Below w.heap.size w w' := by
  obtain ⟨hl1, hl4, hl5⟩ := subst_parts hl
  have HI := Lib.hid hl5
  have HMC := Lib.hid (matL_cells hl)
  obtain ⟨b, off, cp, rfl, hat⟩ := lst_at h (by omega)
  have HAT : Hid (∀ W : World, Below w.heap.size w W → ∀ k (hk : k < l.length), W.cell? ⟨b, off + k, none⟩ = some (.string l[k])) := by
    intro W hW k hk
    exact (hW.cell (p := ⟨b, off + k, none⟩) (World.block_lt_of_cell? w _ (hat k hk))).trans (hat k hk)
  have hbld := build_sq l.length
  clear h hat hl hl5
  go_enter Try.func73, Try.ntmps73
  go_wp2_with (with_reducible refine store_new rfl 78 (.tmp 3) (.tmp 11) rfl (w.heap.size + 1 + 1) _ (sqA l.length fun _ _ => 0) (by simp) rfl rfl 17 sq_ty rfl rfl (sqA_one _ _) ?_)
  go_loopw [15] (fun i w' => ∃ k : Nat, k ≤ l.length ∧ i = .int .i64 k ∧ Arr w' w.heap.size 78 (w.heap.size + 1) (sqA 0 fun _ _ => 0) ∧ Arr w' w.heap.size 78 (w.heap.size + 1 + 1) (sqA l.length (colsTo (cntF l) k 0)) ∧ Below w.heap.size w w') (fun i _ => l.length - (intOf i).toNat)
  case atStart =>
    refine ⟨0, by omega, rfl, ?_, ?_, (((Below.refl _ _).alloc (Nat.le_refl _) _).alloc (by simp) _).alloc (by simp; omega) _⟩
    · have := (Arr.made (w.alloc (.cells #[.slice (some ⟨b, off, none⟩) l.length cp] 25)) w.heap.size 78 (sqA 0 fun _ _ => 0) (by simp) (by simp [sqA_size, maxLen])).alloc (.cells (sqA l.length fun _ _ => 0) 78)
      simp only [World.size_alloc] at this
      exact this
    · rw [colsTo_zero]
      have := Arr.made ((w.alloc (.cells #[.slice (some ⟨b, off, none⟩) l.length cp] 25)).alloc (.cells (sqA 0 fun _ _ => 0) 78)) w.heap.size 78 (sqA l.length fun _ _ => 0) (by simp; omega) (by simp [sqA_size, maxLen])
      simp only [World.size_alloc] at this
      exact this
  case round =>
    obtain ⟨k, hk, rfl, hres, hm, hb⟩ := hrel
    obtain ⟨wo, rfl⟩ : ∃ x : World, x = wr := ⟨_, rfl⟩
    have HR := Lib.hid hres
    have HM := Lib.hid hm
    have HB := Lib.hid hb
    by_cases hlt : k < l.length
    · have g1 := HAT.out _ hb k hlt
      obtain ⟨_, _, q3, _⟩ := img_parts (HI.out k hlt)
      have HQ := Lib.hid q3
      have hk4 : k < 4 := by omega
      have HCE : Hid ((fun i => (cnt l[k].data.toList (letterN i) : Int)) = fun i => cntF l i k) := by
        show (fun i => (cnt l[k].data.toList (letterN i) : Int)) = fun i => cntF l i k
        funext i
        unfold cntF
        rw [List.getD_eq_getElem?_getD, List.getElem?_eq_getElem hlt]
        rfl
      clear hres hm hb q3
      go_wp2_with fail
      refine (implCountsRow l[k] _ HQ.out).mono ?_
      rintro e w1 ⟨rfl, hb1⟩
      rw [HCE.out]
      have HR2 := Lib.hid (HR.out.below hb1)
      have HM2 := Lib.hid (HM.out.below hb1)
      have HB2 := Lib.hid (HB.out.trans (hb1.mono HB.out.size))
      clear hb1
      go_wp2_with fail
      go_loopw [22] (fun i w' => ∃ j : Nat, j ≤ 4 ∧ i = .int .i64 j ∧ Arr w' w.heap.size 78 (w.heap.size + 1) (sqA 0 fun _ _ => 0) ∧ Arr w' w.heap.size 78 (w.heap.size + 1 + 1) (sqA l.length (colsTo (cntF l) k j)) ∧ Below w.heap.size w w') (fun i _ => 4 - (intOf i).toNat)
      case atStart => exact ⟨0, by omega, rfl, HR2.out, HM2.out, HB2.out⟩
      case round =>
        obtain ⟨j, hj, rfl, hres, hm, hb⟩ := hrel
        obtain ⟨wi, rfl⟩ : ∃ x : World, x = wr := ⟨_, rfl⟩
        have HR := Lib.hid hres
        have HM := Lib.hid hm
        have HB := Lib.hid hb
        by_cases hlt2 : j < 4
        · have g3 := hm.frozen (1 + j * 4 + k)
          have g2 := hm.cell _ _ (sqA_get l.length _ j k hlt2 hk4)
          clear hres hm hb
          go_wp2_with (with_reducible refine index_row rfl 74 Try.underlying74 (.tmp 21) (.tmp 22) rfl (fun i => cntF l i k) j rfl rfl hlt2 ?_)
          go_roundw
          case rel =>
            refine ⟨j + 1, by omega, by go_num, HR.out.other (by simp <;> omega) _, HM.out.set (1 + j * 4 + k) _ ?_, HB.out.setCell (by simp <;> omega) _⟩
            rw [sqA_set _ _ _ _ _ hlt2 hk4, ← colsTo_succ]
          case measure => simp [intOf]; omega
        · have hj4 : j = 4 := by omega
          subst hj4
          clear hres hm hb
          go_wp2_with fail
          go_roundw
          case rel => exact ⟨k + 1, by omega, by go_num, HR.out, by rw [← colsTo_next]; exact HM.out, HB.out⟩
          case measure => simp [intOf]; omega
    · have hkn : Hid (k = l.length) := by show k = l.length; omega
      clear hres hm hb
      go_wp2_with (first
        | (with_reducible refine load_arr rfl 78 (.tmp 3) rfl (w.heap.size + 1 + 1) _ _ _ rfl HM.out 17 sq_ty rfl ?_)
        | (with_reducible refine store_arr rfl 78 (.tmp 2) (.tmp 34) rfl (w.heap.size + 1) _ _ (sqA l.length (colsTo (cntF l) k 0)) rfl rfl HR.out 17 sq_ty rfl rfl (sqA_one _ _) ?_))
      exact post_arr 78 rfl rfl (HR.out.row (c' := sqA l.length (colsTo (cntF l) k 0)) rfl) sq_ty rfl rfl ⟨by rw [hkn.out, colsTo_end, HMC.out], below_row HB.out (by omega) _⟩
theorem matOf_same {m : List (List Int)} {n : Nat} (h1 : m.length = n) (h2 : ∀ i (h : i < m.length), m[i].length = n) : matOf n (at2 m) = m := by
  refine List.ext_getElem (by rw [matOf_length, h1]) fun i hi hi2 => ?_
  rw [matOf_at]
  refine List.ext_getElem (by simp [h2 i hi2]) fun k hk hk2 => ?_
  simp only [List.getElem_map, List.getElem_range]
  exact at2_eq m i k hi2 hk2

end Go.Proofs.Ytfcbfflkajlhnaa
