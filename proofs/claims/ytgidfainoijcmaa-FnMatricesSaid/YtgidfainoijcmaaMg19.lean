/- Texts put together. -/
import Derived.Test.YtgidfainoijcmaaMg12
import Derived.Test.YtgidfainoijcmaaMg18
import Derived.Test.YtgidfainoijcmaaMg17
import Derived.Test.YtgidfainoijcmaaMg15
import Derived.Test.YtgidfainoijcmaaMg11
import Derived.Deep.RegionLaw
import Derived.Test.YtgidfainoijcmaaMg5
import Derived.Test.YtgidfainoijcmaaMg8
import Derived.Test.YtgidfainoijcmaaMg13
import Derived.IntWalk
/- The program's counts of the four letters, CountLetter and CountsOf. Condition: texts of at most 2^20 bytes. -/
namespace Go.Proofs.Ytgidfainoijcmaa
open Go.RowKit

theorem letterIndex_at (n j : Int) (w : World) (h : n = 97 + j) (h1 : 0 ≤ j) (h2 : j ≤ 3) :
    Calls Try.prog 66 #[.int .u8 n] w fun e w' => e = .returned (.int .i64 j) ∧ w = w' := by
  have h3 : 97 ≤ n := by omega
  have h4 : n ≤ 100 := by omega
  have HJ := Lib.hid (show n - 97 = j by omega)
  clear h h1 h2
  go_enter Try.func66, Try.ntmps66
  go_wp2
  go_ret
  exact ⟨ret_int HJ.out, rfl⟩

/-- the four counts as the cells of an array -/
def cnts (l : List UInt8) : Array Value := #[.int .i64 (cnt l 97), .int .i64 (cnt l 98), .int .i64 (cnt l 99), .int .i64 (cnt l 100)]
theorem cnts_succ (s : ByteArray) (k : Nat) (h : k < s.size) (a b c d : Nat) (ha : cnt (s.data.toList.take k) 97 = a) (hb : cnt (s.data.toList.take k) 98 = b) (hc : cnt (s.data.toList.take k) 99 = c) (hd : cnt (s.data.toList.take k) 100 = d)
    (j : Nat) (hj : s[k].toNat = 97 + j) (_ : j ≤ 3) :
    cnt (s.data.toList.take (k + 1)) 97 = a + (if j = 0 then 1 else 0) ∧ cnt (s.data.toList.take (k + 1)) 98 = b + (if j = 1 then 1 else 0) ∧ cnt (s.data.toList.take (k + 1)) 99 = c + (if j = 2 then 1 else 0) ∧ cnt (s.data.toList.take (k + 1)) 100 = d + (if j = 3 then 1 else 0) := by
  have e : ∀ (x : UInt8) (i : Nat), x.toNat = 97 + i → ((s[k] = x) ↔ j = i) := by
    intro x i hx
    constructor
    · intro h; rw [h] at hj; omega
    · intro h; exact UInt8.toNat_inj.1 (by omega)
  rw [cnt_succ s k h 97, cnt_succ s k h 98, cnt_succ s k h 99, cnt_succ s k h 100, ha, hb, hc, hd]
  simp only [e 97 0 rfl, e 98 1 rfl, e 99 2 rfl, e 100 3 rfl, and_self]

def CntRel (s : ByteArray) (w : World) (i : Value) (w' : World) : Prop :=
  ∃ k a b c d : Nat, k ≤ s.size ∧ i = .int .i64 k ∧ a ≤ k ∧ b ≤ k ∧ c ≤ k ∧ d ≤ k ∧
    w' = (w.alloc (.cells #[.int .i64 0, .int .i64 0, .int .i64 0, .int .i64 0] 63)).alloc (.cells #[.int .i64 a, .int .i64 b, .int .i64 c, .int .i64 d] 63) ∧
    cnt (s.data.toList.take k) 97 = a ∧ cnt (s.data.toList.take k) 98 = b ∧ cnt (s.data.toList.take k) 99 = c ∧ cnt (s.data.toList.take k) 100 = d

set_option maxHeartbeats 400000 in
theorem implCounts (s : ByteArray) (w : World) (h : wordB s = true) :
    Calls Try.prog 92 #[.string s] w fun e w' => e = .returned (.agg #[.int .i64 (cnt s.data.toList 97), .int .i64 (cnt s.data.toList 98), .int .i64 (cnt s.data.toList 99), .int .i64 (cnt s.data.toList 100)]) ∧ Below w.heap.size w w' := by
  have hs := word_size h
  have HW := Lib.hid (word_at h)
  clear h
  go_enter Try.func92, Try.ntmps92
  go_wp2_with fail
  go_loopw [7] (fun i w' => CntRel s w i w') (fun i _ => s.size - (intOf i).toNat)
  case atStart => exact ⟨0, 0, 0, 0, 0, by omega, rfl, by omega, by omega, by omega, by omega, rfl, rfl, rfl, rfl, rfl⟩
  case round =>
    obtain ⟨k, a, b, c, d, hk, rfl, ha, hb, hc, hd, rfl, ea, eb, ec, ed⟩ := hrel
    by_cases hlt : k < s.size
    · have HS := Lib.hid (cnts_succ s k hlt a b c d ea eb ec ed)
      clear ea eb ec ed
      obtain ⟨p1, p2⟩ := HW.out k hlt
      have hj : s[k].toNat = 97 ∨ s[k].toNat = 98 ∨ s[k].toNat = 99 ∨ s[k].toNat = 100 := by omega
      clear p1 p2
      rcases hj with hj | hj | hj | hj
      · have HJ := Lib.hid hj
        have hc' := HS.out 0 hj (by omega)
        have HC := Lib.hid hc'
        clear hj hc'
        go_wp2_with (go_at_call 66; refine (letterIndex_at _ 0 _ (by have := HJ.out; omega) (by omega) (by omega)).mono ?_; rintro e w' ⟨rfl, rfl⟩)
        go_roundw
        case rel => exact ⟨k + 1, a + 1, b, c, d, by omega, by go_num, by omega, by omega, by omega, by omega, rfl, HC.out⟩
        case measure => simp [intOf]; omega
      · have HJ := Lib.hid hj
        have hc' := HS.out 1 hj (by omega)
        have HC := Lib.hid hc'
        clear hj hc'
        go_wp2_with (go_at_call 66; refine (letterIndex_at _ 1 _ (by have := HJ.out; omega) (by omega) (by omega)).mono ?_; rintro e w' ⟨rfl, rfl⟩)
        go_roundw
        case rel => exact ⟨k + 1, a, b + 1, c, d, by omega, by go_num, by omega, by omega, by omega, by omega, rfl, HC.out⟩
        case measure => simp [intOf]; omega
      · have HJ := Lib.hid hj
        have hc' := HS.out 2 hj (by omega)
        have HC := Lib.hid hc'
        clear hj hc'
        go_wp2_with (go_at_call 66; refine (letterIndex_at _ 2 _ (by have := HJ.out; omega) (by omega) (by omega)).mono ?_; rintro e w' ⟨rfl, rfl⟩)
        go_roundw
        case rel => exact ⟨k + 1, a, b, c + 1, d, by omega, by go_num, by omega, by omega, by omega, by omega, rfl, HC.out⟩
        case measure => simp [intOf]; omega
      · have HJ := Lib.hid hj
        have hc' := HS.out 3 hj (by omega)
        have HC := Lib.hid hc'
        clear hj hc'
        go_wp2_with (go_at_call 66; refine (letterIndex_at _ 3 _ (by have := HJ.out; omega) (by omega) (by omega)).mono ?_; rintro e w' ⟨rfl, rfl⟩)
        go_roundw
        case rel => exact ⟨k + 1, a, b, c, d + 1, by omega, by go_num, by omega, by omega, by omega, by omega, rfl, HC.out⟩
        case measure => simp [intOf]; omega
    · have hk' : k = s.size := by omega
      subst hk'
      rw [take_all s _ (Nat.le_refl _)] at ea eb ec ed
      have HA := Lib.hid ea
      have HB := Lib.hid eb
      have HC := Lib.hid ec
      have HD := Lib.hid ed
      clear ea eb ec ed
      go_wp2_with fail
      refine bodyPost_ret (v := .agg #[.int .i64 a, .int .i64 b, .int .i64 c, .int .i64 d]) (by simp [results, Try.results92, go_sem]) rfl ⟨?_, ?_⟩
      · rw [HA.out, HB.out, HC.out, HD.out]
      · exact ((Below.refl _ _).alloc (Nat.le_refl _) _).alloc (by simp) _

theorem letter_one {t : ByteArray} (h : t.size = 1) : t = ⟨#[t[0]'(by omega)]⟩ := by
  obtain ⟨⟨l⟩⟩ := t
  match l, h with
  | [c], _ => rfl

theorem implCountsOf (s : ByteArray) (w : World) (hs : s.size ≤ 1048576) :
    Calls Try.prog 81 #[.string s] w fun e w' => ∃ v, e = .returned v ∧ w'.ownsRow w.heap.size 63 1 v (countsR s).length (ints (countsR s)) ∧ Below w.heap.size w w' := by
  by_cases h1 : wordB s = true
  · have hr : countsR s = [(cnt s.data.toList 97 : Int), (cnt s.data.toList 98 : Int), (cnt s.data.toList 99 : Int), (cnt s.data.toList 100 : Int)] := if_pos h1
    have HR := Lib.hid hr
    have HC := Lib.hid (fun w => implCounts s w h1)
    clear hr
    go_enter Try.func81, Try.ntmps81
    go_wp2_with fail
    refine (implWordOk s _ hs).mono ?_
    rintro e w1 ⟨rfl, hb1⟩
    go_wp2_with fail
    refine (HC.out _).mono ?_
    rintro e w2 ⟨rfl, hb2⟩
    go_wp2_with fail
    go_ret
    have hb : Below w.heap.size w w2 := hb1.trans (hb2.mono hb1.size)
    refine ⟨_, rfl, ?_, hb.alloc hb.size _⟩
    rw [HR.out]
    exact World.ownsRow_lit w2 _ 4 hb.size (by unfold maxLen; omega) rfl
  · have hr : countsR s = [] := if_neg h1
    have HR := Lib.hid hr
    have h1' : wordB s = false := by simpa using h1
    clear hr h1
    go_enter Try.func81, Try.ntmps81
    go_wp2_with fail
    refine (implWordOk s _ hs).mono ?_
    rintro e w1 ⟨rfl, hb1⟩
    go_wp2_with fail
    go_ret
    refine ⟨_, rfl, ?_, hb1⟩
    rw [HR.out]
    exact World.ownsRow_nil _ _ _ _
end Go.Proofs.Ytgidfainoijcmaa

/- The matrix of a substitution as a square of the program; MatrixOf. Conditions: lengths of at most 2^20. -/
namespace Go.Proofs.Ytgidfainoijcmaa
open Go.RowKit

/-- how often the letter with the index i stands in that image -/
def cntF (l : List ByteArray) : Nat → Nat → Int := fun a c => (cnt (l.getD c ⟨#[]⟩).data.toList (letterN a) : Int)
theorem cnt_out {n : Nat} {s : ByteArray} (h : withinB n s = true) (a : Nat) (ha : n ≤ a) (h4 : a ≤ 4) : cnt s.data.toList (letterN a) = 0 := by
  unfold cnt
  rw [List.count_eq_zero]
  intro hm
  have h1 := List.all_eq_true.1 h _ hm
  rw [letterN_toNat a h4] at h1
  simp at h1
  omega
theorem matL_cells {l : List ByteArray} (hl : substB l = true) : sqA l.length (fun a c => if c < l.length then cntF l a c else 0) = sqA l.length (at2 (matL l)) := by
  obtain ⟨h1, h4, h5⟩ := subst_parts hl
  refine sqA_congr fun a c ha hc => ?_
  by_cases hcl : c < l.length
  · rw [if_pos hcl]
    have e : l.getD c ⟨#[]⟩ = l[c] := by rw [List.getD_eq_getElem?_getD, List.getElem?_eq_getElem hcl]; rfl
    unfold cntF
    rw [e]
    by_cases hal : a < l.length
    · rw [at2_eq (matL l) a c (by rw [matL_length]; exact hal) (by rw [matL_at, rowL_length]; exact hcl)]
      simp only [matL_at]
      rw [rowL_at l a c hcl]
    · rw [at2_out _ _ _ (by rw [matL_length]; omega), cnt_out (img_parts (h5 c hcl)).2.2.2 a (by omega) (by omega)]
      rfl
  · rw [if_neg hcl]
    by_cases hal : a < l.length
    · rw [at2_outc (matL l) l.length a c (by rw [matL_length]; exact hal) (by rw [matL_at, rowL_length]) (by omega)]
    · rw [at2_out _ _ _ (by rw [matL_length]; omega)]
theorem implCountsRow (s : ByteArray) (w : World) (h : wordB s = true) :
    Calls Try.prog 92 #[.string s] w fun e w' => e = .returned (.agg (rowA fun i => (cnt s.data.toList (letterN i) : Int))) ∧ Below w.heap.size w w' := implCounts s w h

set_option maxHeartbeats 1000000 in
set_option maxRecDepth 100000 in
theorem implMatrix (l : List ByteArray) (v : Value) (w : World) (h : Lst w v (strs l)) (hl : substB l = true) :
    Calls Try.prog 50 #[.agg #[v]] w fun e w' => e = .returned (.agg (sqA l.length (at2 (matL l)))) ∧ Below w.heap.size w w' := by
  obtain ⟨hl1, hl4, hl5⟩ := subst_parts hl
  have HI := Lib.hid hl5
  have HMC := Lib.hid (matL_cells hl)
  obtain ⟨b, off, cp, rfl, hat⟩ := lst_at h (by omega)
  have HAT : Hid (∀ W : World, Below w.heap.size w W → ∀ k (hk : k < l.length), W.cell? ⟨b, off + k, none⟩ = some (.string l[k])) := by
    intro W hW k hk
    exact (hW.cell (p := ⟨b, off + k, none⟩) (World.block_lt_of_cell? w _ (hat k hk))).trans (hat k hk)
  have hbld := build_sq l.length
  clear h hat hl hl5
  go_enter Try.func50, Try.ntmps50
  go_wp2_with (with_reducible refine store_new rfl 67 (.tmp 3) (.tmp 11) rfl (w.heap.size + 1 + 1) _ (sqA l.length fun _ _ => 0) (by simp) rfl rfl 17 sq_ty rfl rfl (sqA_one _ _) ?_)
  go_loopw [15] (fun i w' => ∃ k : Nat, k ≤ l.length ∧ i = .int .i64 k ∧ Arr w' w.heap.size 67 (w.heap.size + 1) (sqA 0 fun _ _ => 0) ∧ Arr w' w.heap.size 67 (w.heap.size + 1 + 1) (sqA l.length (colsTo (cntF l) k 0)) ∧ Below w.heap.size w w') (fun i _ => l.length - (intOf i).toNat)
  case atStart =>
    refine ⟨0, by omega, rfl, ?_, ?_, (((Below.refl _ _).alloc (Nat.le_refl _) _).alloc (by simp) _).alloc (by simp; omega) _⟩
    · have := (Arr.made (w.alloc (.cells #[.slice (some ⟨b, off, none⟩) l.length cp] 25)) w.heap.size 67 (sqA 0 fun _ _ => 0) (by simp) (by simp [sqA_size, maxLen])).alloc (.cells (sqA l.length fun _ _ => 0) 67)
      simp only [World.size_alloc] at this
      exact this
    · rw [colsTo_zero]
      have := Arr.made ((w.alloc (.cells #[.slice (some ⟨b, off, none⟩) l.length cp] 25)).alloc (.cells (sqA 0 fun _ _ => 0) 67)) w.heap.size 67 (sqA l.length fun _ _ => 0) (by simp; omega) (by simp [sqA_size, maxLen])
      simp only [World.size_alloc] at this
      exact this
  case round =>
    obtain ⟨k, hk, rfl, hres, hm, hb⟩ := hrel
    obtain ⟨wo, rfl⟩ : ∃ x : World, x = wr := ⟨_, rfl⟩
    have HR := Lib.hid hres
    have HM := Lib.hid hm
    have HB := Lib.hid hb
    by_cases hlt : k < l.length
    · have g1 := HAT.out _ hb k hlt
      obtain ⟨_, _, q3, _⟩ := img_parts (HI.out k hlt)
      have HQ := Lib.hid q3
      have hk4 : k < 4 := by omega
      have HCE : Hid ((fun i => (cnt l[k].data.toList (letterN i) : Int)) = fun i => cntF l i k) := by
        show (fun i => (cnt l[k].data.toList (letterN i) : Int)) = fun i => cntF l i k
        funext i
        unfold cntF
        rw [List.getD_eq_getElem?_getD, List.getElem?_eq_getElem hlt]
        rfl
      clear hres hm hb q3
      go_wp2_with fail
      refine (implCountsRow l[k] _ HQ.out).mono ?_
      rintro e w1 ⟨rfl, hb1⟩
      rw [HCE.out]
      have HR2 := Lib.hid (HR.out.below hb1)
      have HM2 := Lib.hid (HM.out.below hb1)
      have HB2 := Lib.hid (HB.out.trans (hb1.mono HB.out.size))
      clear hb1
      go_wp2_with fail
      go_loopw [22] (fun i w' => ∃ j : Nat, j ≤ 4 ∧ i = .int .i64 j ∧ Arr w' w.heap.size 67 (w.heap.size + 1) (sqA 0 fun _ _ => 0) ∧ Arr w' w.heap.size 67 (w.heap.size + 1 + 1) (sqA l.length (colsTo (cntF l) k j)) ∧ Below w.heap.size w w') (fun i _ => 4 - (intOf i).toNat)
      case atStart => exact ⟨0, by omega, rfl, HR2.out, HM2.out, HB2.out⟩
      case round =>
        obtain ⟨j, hj, rfl, hres, hm, hb⟩ := hrel
        obtain ⟨wi, rfl⟩ : ∃ x : World, x = wr := ⟨_, rfl⟩
        have HR := Lib.hid hres
        have HM := Lib.hid hm
        have HB := Lib.hid hb
        by_cases hlt2 : j < 4
        · have g3 := hm.frozen (1 + j * 4 + k)
          have g2 := hm.cell _ _ (sqA_get l.length _ j k hlt2 hk4)
          clear hres hm hb
          go_wp2_with (with_reducible refine index_row rfl 63 Try.underlying63 (.tmp 21) (.tmp 22) rfl (fun i => cntF l i k) j rfl rfl hlt2 ?_)
          go_roundw
          case rel =>
            refine ⟨j + 1, by omega, by go_num, HR.out.other (by simp <;> omega) _, HM.out.set (1 + j * 4 + k) _ ?_, HB.out.setCell (by simp <;> omega) _⟩
            rw [sqA_set _ _ _ _ _ hlt2 hk4, ← colsTo_succ]
          case measure => simp [intOf]; omega
        · have hj4 : j = 4 := by omega
          subst hj4
          clear hres hm hb
          go_wp2_with fail
          go_roundw
          case rel => exact ⟨k + 1, by omega, by go_num, HR.out, by rw [← colsTo_next]; exact HM.out, HB.out⟩
          case measure => simp [intOf]; omega
    · have hkn : Hid (k = l.length) := by show k = l.length; omega
      clear hres hm hb
      go_wp2_with (first
        | (with_reducible refine load_arr rfl 67 (.tmp 3) rfl (w.heap.size + 1 + 1) _ _ _ rfl HM.out 17 sq_ty rfl ?_)
        | (with_reducible refine store_arr rfl 67 (.tmp 2) (.tmp 34) rfl (w.heap.size + 1) _ _ (sqA l.length (colsTo (cntF l) k 0)) rfl rfl HR.out 17 sq_ty rfl rfl (sqA_one _ _) ?_))
      exact post_arr 67 rfl rfl (HR.out.row (c' := sqA l.length (colsTo (cntF l) k 0)) rfl) sq_ty rfl rfl ⟨by rw [hkn.out, colsTo_end, HMC.out], below_row HB.out (by omega) _⟩
theorem matOf_same {m : List (List Int)} {n : Nat} (h1 : m.length = n) (h2 : ∀ i (h : i < m.length), m[i].length = n) : matOf n (at2 m) = m := by
  refine List.ext_getElem (by rw [matOf_length, h1]) fun i hi hi2 => ?_
  rw [matOf_at]
  refine List.ext_getElem (by simp [h2 i hi2]) fun k hk hk2 => ?_
  simp only [List.getElem_map, List.getElem_range]
  exact at2_eq m i k hi2 hk2

set_option maxHeartbeats 1000000 in
theorem implMatrixOf (l : List ByteArray) (v : Value) (w : World) (h : Lst w v (strs l)) (hz : ∀ x ∈ l, x.size ≤ 1048576) (hn : l.length ≤ 1048576) :
    Calls Try.prog 13 #[.agg #[v]] w fun e w' => ∃ v', e = .returned v' ∧ OwnMat w' w.heap.size w'.heap.size v' (matR l) ∧ Below w.heap.size w w' := by
  obtain ⟨A, cp, rfl⟩ := lst_slice h
  rw [strs_length] at h ⊢
  have hb0 : Below w.heap.size w (w.alloc (.cells #[.slice A l.length cp] 25)) := (Below.refl _ _).alloc (Nat.le_refl _) _
  have HL := Lib.hid (h.below hb0)
  have HZ := Lib.hid hz
  have HB0 := Lib.hid hb0
  clear h hz hb0
  by_cases h1 : substB l = true
  · obtain ⟨hl1, hl4, _⟩ := subst_parts h1
    have HS := Lib.hid h1
    have HE : Hid (matOf l.length (at2 (matL l)) = matR l) := by
      show matOf l.length (at2 (matL l)) = matR l
      rw [matOf_same (matL_length l) (fun i hi => by rw [matL_at, rowL_length])]
      exact (if_pos h1).symm
    clear h1
    go_enter Try.func13, Try.ntmps13
    go_wp2_with fail
    refine (implSubstOk l _ _ HL.out HZ.out hn).mono ?_
    rintro e w1 ⟨rfl, hb1⟩
    rw [HS.out]
    obtain ⟨hc, hf⟩ := below_reads hb1
    have c0 : w1.cell? ⟨w.heap.size, 0, none⟩ = some (.slice A l.length cp) := by rw [hc _ _ (by simp)]; go_simp
    have HB1 : Hid (Below w.heap.size w w1) := HB0.out.trans (hb1.mono (by simp))
    have HL1 := Lib.hid (HL.out.below hb1)
    clear hb1 hc hf
    go_wp2_with fail
    refine (implMatrix l _ _ HL1.out HS.out).mono ?_
    rintro e w2 ⟨rfl, hb2⟩
    have HB2 := Lib.hid (HB1.out.trans (hb2.mono HB1.out.size))
    clear hb2
    go_wp2_with fail
    refine (implLists l.length (at2 (matL l)) hl1 hl4 _).mono ?_
    rintro e w3 ⟨v', rfl, ho, hb3⟩
    rw [HE.out] at ho
    obtain ⟨A3, cp3, rfl⟩ := mat_slice ho.mat
    have HO := Lib.hid (ho.mono HB2.out.size)
    have HB3 := Lib.hid (HB2.out.trans (hb3.mono HB2.out.size))
    clear ho hb3
    go_wp2_with fail
    go_ret
    exact ⟨_, rfl, HO.out, HB3.out⟩
  · have hs' : substB l = false := by simpa using h1
    have HS := Lib.hid hs'
    have HE : Hid (matR l = []) := if_neg h1
    clear h1 hs'
    go_enter Try.func13, Try.ntmps13
    go_wp2_with fail
    refine (implSubstOk l _ _ HL.out HZ.out hn).mono ?_
    rintro e w1 ⟨rfl, hb1⟩
    rw [HS.out]
    have HB1 : Hid (Below w.heap.size w w1) := HB0.out.trans (hb1.mono (by simp))
    clear hb1
    go_wp2_with fail
    go_ret
    exact ⟨_, rfl, by rw [HE.out]; exact OwnMat.nil _ _ _, HB1.out⟩
end Go.Proofs.Ytgidfainoijcmaa

/- A square of the program without its first row and one column. -/
namespace Go.Proofs.Ytgidfainoijcmaa
open Go.RowKit

/-- x[k:] of a row of a square -/
theorem cut_rest (b o k : Nat) (hk : k ≤ 4) (w : World) : (Instr.sliceAt 64 (.pointer (some ⟨b, o, none⟩)) (some (.int .i64 (k : Int))) none none).run Try.prog w = .ok (.slice (some ⟨b, if k < 4 then o + k else o, none⟩) (4 - k) (4 - k)) w := by
  by_cases h : k < 4
  · rw [if_pos h]
    exact cut_from b o k h w
  · have e : k = 4 := by omega
    subst e
    simp [Instr.sliceAt, Instr.sliceBounds, Instr.sliceBound, asIntOf, run_underlying Try.underlying64, Instr.sureAddr]
theorem cut_behind (b k : Nat) (hk : k ≤ 3) : ∃ X : Addr, (∀ w, (Instr.sliceAt 64 (.pointer (some ⟨b, 0, none⟩)) (some (.int .i64 ((k : Int) + 1))) none none).run Try.prog w = .ok (.slice (some X) (3 - k) (3 - k)) w) ∧ (k < 3 → X = ⟨b, k + 1, none⟩) := by
  refine ⟨⟨b, if k + 1 < 4 then 0 + (k + 1) else 0, none⟩, fun w => ?_, fun h => ?_⟩
  · have := cut_rest b 0 (k + 1) (by omega) w
    have e : 4 - (k + 1) = 3 - k := by omega
    rw [e] at this
    exact this
  · rw [if_pos (by omega), Nat.zero_add]
theorem step_copy_arr {P : Program} {ops : Array Oper} {o : Oper} {a : Act} {w : World} {K : Act → World → Prop} {Q : Exit → Act → World → Prop} {E : Prop} (hgd : o.guard = none) (d s : Operand) (dT sT : TypeId)
    (ho : o.op = .call { callee := .builtin .copy, args := #[d, s], argTypes := #[dT, sT] }) (elem : TypeId) (hu : P.underlying dT = some (.slice elem)) (hsz : (P.info? elem).map (·.size) = some 1)
    (B b off dLen dCap : Nat) (T : TypeId) (ad : Addr) (sLen sCap : Nat) (hd : a.eval d = .slice (some ⟨b, off, none⟩) dLen dCap) (hs : a.eval s = .slice (some ad) sLen sCap)
    (c c' : Array Value) (hc : Arr w B T b c) (g : Nat → Int) (n : Nat) (hn : n = Nat.min sLen dLen) (hsrc : ∀ j, j < n → w.cell? (ad.add j) = some (.int .i64 (g j))) (hfit : off + n ≤ c.size)
    (he : c.toList.take off ++ (numsTo g n ++ c.toList.drop (off + n)) = c'.toList)
    (h : K (a.put o.dst (goInt n)) (w.setRow b c')) : if Region.wanted o (yielded ops a.tmps) = true then Oper.wp P o a w K Q else E := by
  have hw : Region.wanted o (yielded ops a.tmps) = true := by simp [Region.wanted, hgd]
  rw [if_pos hw]
  have hrun := run_copy_row (P := P) w dT sT o.type elem b off dLen dCap ad sLen sCap c T (numsTo g n) hu hsz hc.heap (by rw [numsTo_length, hn]) (fun j u hj => by
    obtain ⟨h1, rfl⟩ := numsTo_at g n j u hj
    exact hsrc j h1) (by rw [numsTo_length]; exact hfit) (fun u hu => by
    obtain ⟨j, hj, rfl⟩ := List.mem_map.1 hu
    rfl)
  rw [List.append_assoc, numsTo_length, he] at hrun
  unfold Oper.wp
  simp only [execOp, ho, resolve, invoke, builtin]
  simp [hd, hs, hrun, Result.andThen]
  exact h
/-- a row without its number k -/
def minRow (k : Nat) (g : Nat → Int) : Nat → Int := fun c => if c < k then g c else if c < 3 then g (c + 1) else 0
/-- the first i rows of the smaller square -/
def minTo (f : Nat → Nat → Int) (k i : Nat) : Nat → Nat → Int := fun a c => if a < i then minRow k (f (a + 1)) c else 0
theorem minTo_zero (f : Nat → Nat → Int) (k : Nat) : minTo f k 0 = fun _ _ => 0 := by
  funext a c
  simp [minTo]
theorem minTo_succ (n : Int) (f : Nat → Nat → Int) (k i : Nat) (hk : k ≤ 3) : sqA n (putSeg (putSeg (minTo f k i) i 0 k (f (i + 1))) i k (3 - k) (fun c => f (i + 1) (k + 1 + c))) = sqA n (minTo f k (i + 1)) := by
  refine sqA_congr fun a c ha hc => ?_
  unfold putSeg minTo minRow
  by_cases h : a = i
  · subst h
    by_cases h1 : c < k
    · rw [if_neg (by omega), if_pos (by omega), if_pos (by omega), if_pos h1]
      rfl
    · by_cases h2 : c < 3
      · rw [if_pos (by omega), if_pos (by omega), if_neg h1, if_pos h2]
        show f (a + 1) (k + 1 + (c - k)) = f (a + 1) (c + 1)
        rw [show k + 1 + (c - k) = c + 1 from by omega]
      · rw [if_neg (by omega), if_neg (by omega), if_neg (by omega), if_pos (by omega), if_neg h1, if_neg h2]
  · rw [if_neg (by omega), if_neg (by omega)]
    have e : (a < i) ↔ (a < i + 1) := by omega
    simp only [e]
theorem rowPart2 (n : Int) (f : Nat → Nat → Int) (i : Nat) (hi : i < 4) (j : Nat) (v : Value) (h : (rowA (f i))[j]? = some v) : (sqA n f)[1 + i * 4 + j]? = some v := by
  obtain ⟨h1, h2⟩ := Array.getElem?_eq_some_iff.1 h
  have hj : j < 4 := h1
  rw [sqA_get n f i j hi hj, ← h, rowA_get (f i) j hj]

set_option maxHeartbeats 1000000 in
set_option maxRecDepth 100000 in
theorem implMinor (p : Nat) (hp : p ≤ 3) (f : Nat → Nat → Int) (k : Nat) (hk : k ≤ p) (w : World) :
    Calls Try.prog 95 #[.agg (sqA ((p : Int) + 1) f), .int .i64 k] w fun e w' => e = .returned (.agg (sqA p (minTo f k p))) ∧ Below w.heap.size w w' := by
  have hbld := build_sq p
  obtain ⟨i0, hi0, hz0, hz1, hz2⟩ := info_parts int_info
  have hsz : (Try.prog.info? 3).map (·.size) = some 1 := by rw [hi0, Option.map_some, hz1]
  have HSZ := Lib.hid hsz
  have hza := sqA_zero ((p : Int) + 1) f
  have hzb := sqA_zero p fun _ _ => 0
  have hwk : IntKind.i64.wrap ((k : Int) + 1) = (k : Int) + 1 := IntWalk.i64_in _ (by omega)
  clear hsz hz0 hz2
  go_enter Try.func95, Try.ntmps95
  go_wp2_with (with_reducible refine store_new rfl 67 (.tmp 5) (.tmp 11) rfl (w.heap.size + 1 + 1) _ (sqA p fun _ _ => 0) (by simp) rfl rfl 17 sq_ty rfl rfl (sqA_one _ _) ?_)
  go_loopw [14] (fun i w' => ∃ j : Nat, j ≤ p ∧ i = .int .i64 j ∧ Arr w' w.heap.size 67 w.heap.size (sqA ((p : Int) + 1) f) ∧ Arr w' w.heap.size 67 (w.heap.size + 1) (sqA 0 fun _ _ => 0) ∧ Arr w' w.heap.size 67 (w.heap.size + 1 + 1) (sqA p (minTo f k j)) ∧ Below w.heap.size w w') (fun i _ => p - (intOf i).toNat)
  case atStart =>
    refine ⟨0, by omega, rfl, ?_, ?_, ?_, (((Below.refl _ _).alloc (Nat.le_refl _) _).alloc (by simp) _).alloc (by simp; omega) _⟩
    · exact ((Arr.made _ _ _ _ (Nat.le_refl _) (by simp [sqA_size, maxLen])).alloc _).alloc _
    · have := (Arr.made (w.alloc (.cells (sqA ((p : Int) + 1) f) 67)) w.heap.size 67 (sqA 0 fun _ _ => 0) (by simp) (by simp [sqA_size, maxLen])).alloc (.cells (sqA p fun _ _ => 0) 67)
      simp only [World.size_alloc] at this
      exact this
    · rw [minTo_zero]
      have := Arr.made ((w.alloc (.cells (sqA ((p : Int) + 1) f) 67)).alloc (.cells (sqA 0 fun _ _ => 0) 67)) w.heap.size 67 (sqA p fun _ _ => 0) (by simp; omega) (by simp [sqA_size, maxLen])
      simp only [World.size_alloc] at this
      exact this
  case round =>
    obtain ⟨j, hj, rfl, hm, hres, hs, hb⟩ := hrel
    obtain ⟨wo, rfl⟩ : ∃ x : World, x = wr := ⟨_, rfl⟩
    have HM := Lib.hid hm
    have HR := Lib.hid hres
    have HS := Lib.hid hs
    have HB := Lib.hid hb
    clear hm hres hs hb
    by_cases hlt : j < p
    · have hj4 : j < 4 := by omega
      have hj5 : j + 1 < 4 := by omega
      go_upto_region 6 with (first
        | (with_reducible refine load_part rfl 64 (.tmp 20) rfl w.heap.size (1 + (j + 1) * 4) _ _ (sqA ((p : Int) + 1) f) (rowA (f (j + 1))) rfl HM.out 4 row_ty rfl (rowPart2 _ f (j + 1) hj5) ?_)
        | (with_reducible refine store_new rfl 64 (.tmp 7) (.tmp 21) rfl wo.heap.size _ (rowA (f (j + 1))) rfl rfl rfl 4 row_ty rfl rfl (rowA_one _) ?_))
      have HN1 := Lib.hid (Arr.made wo wo.heap.size 64 (rowA (f (j + 1))) (Nat.le_refl _) (by simp [rowA_size, maxLen]))
      have HS1 := Lib.hid (HS.out.alloc (.cells (rowA (f (j + 1))) 64))
      have hlo : w.heap.size + 1 + 1 < wo.heap.size := HS.out.lt.2
      have hne : wo.heap.size ≠ w.heap.size + 1 + 1 := by omega
      have HE1 := Lib.hid (sqA_seg p (minTo f k j) j 0 k (f (j + 1)) hj4 (by omega))
      have HE2 := Lib.hid (sqA_seg p (putSeg (minTo f k j) j 0 k (f (j + 1))) j k (3 - k) (fun c => f (j + 1) (k + 1 + c)) hj4 (by omega))
      have hc1 := cut_upto (w.heap.size + 1 + 1) (1 + j * 4) k (by omega)
      have hc2 := cut_upto wo.heap.size 0 k (by omega)
      have hc3 := cut_from (w.heap.size + 1 + 1) (1 + j * 4) k (by omega)
      obtain ⟨X, hc4, hX⟩ := cut_behind wo.heap.size k (by omega)
      have HX := Lib.hid hX
      clear hX
      have hji : (j : Int) < 4 := by omega
      go_region_law (refine step_copy_arr rfl (.tmp 26) (.tmp 28) 30 30 rfl 3 Try.underlying30 HSZ.out w.heap.size (w.heap.size + 1 + 1) (1 + j * 4) k 4 67 ⟨wo.heap.size, 0, none⟩ k 4 (by simp [Act.eval, Act.put]) (by simp [Act.eval, Act.put]) (sqA p (minTo f k j)) (sqA p (putSeg (minTo f k j) j 0 k (f (j + 1)))) HS1.out (f (j + 1)) k (Nat.min_self k).symm (fun q hq => by rw [Addr.add_lit, Nat.zero_add]; exact HN1.out.cell q _ (rowA_get _ q (by omega))) (by rw [sqA_size]; omega) HE1.out ?_)
      have hm2 : Arr ((wo.alloc (.cells (rowA (f (j + 1))) 64)).drew.setRow (w.heap.size + 1 + 1) (sqA p (putSeg (minTo f k j) j 0 k (f (j + 1))))) w.heap.size 67 w.heap.size (sqA ((p : Int) + 1) f) := Arr.otherRow (w := (wo.alloc (.cells (rowA (f (j + 1))) 64)).drew) (HM.out.alloc _) (by omega) _
      have hr2 : Arr ((wo.alloc (.cells (rowA (f (j + 1))) 64)).drew.setRow (w.heap.size + 1 + 1) (sqA p (putSeg (minTo f k j) j 0 k (f (j + 1))))) w.heap.size 67 (w.heap.size + 1) (sqA 0 fun _ _ => 0) := Arr.otherRow (w := (wo.alloc (.cells (rowA (f (j + 1))) 64)).drew) (HR.out.alloc _) (by omega) _
      have hs2 : Arr ((wo.alloc (.cells (rowA (f (j + 1))) 64)).drew.setRow (w.heap.size + 1 + 1) (sqA p (putSeg (minTo f k j) j 0 k (f (j + 1))))) w.heap.size 67 (w.heap.size + 1 + 1) (sqA p (putSeg (minTo f k j) j 0 k (f (j + 1)))) := Arr.row (w := (wo.alloc (.cells (rowA (f (j + 1))) 64)).drew) HS1.out rfl
      have hn2 : Arr ((wo.alloc (.cells (rowA (f (j + 1))) 64)).drew.setRow (w.heap.size + 1 + 1) (sqA p (putSeg (minTo f k j) j 0 k (f (j + 1))))) wo.heap.size 64 wo.heap.size (rowA (f (j + 1))) := Arr.otherRow (w := (wo.alloc (.cells (rowA (f (j + 1))) 64)).drew) HN1.out (by omega) _
      have hb2 : Below w.heap.size w ((wo.alloc (.cells (rowA (f (j + 1))) 64)).drew.setRow (w.heap.size + 1 + 1) (sqA p (putSeg (minTo f k j) j 0 k (f (j + 1))))) := below_row (below_drew (HB.out.alloc HB.out.size _)) (by omega) _
      generalize ((wo.alloc (.cells (rowA (f (j + 1))) 64)).drew.setRow (w.heap.size + 1 + 1) (sqA p (putSeg (minTo f k j) j 0 k (f (j + 1))))) = w2 at hm2 hr2 hs2 hn2 hb2 ⊢
      have HM2 := Lib.hid hm2
      have HR2 := Lib.hid hr2
      have HS2 := Lib.hid hs2
      have HN2 := Lib.hid hn2
      have HB2 := Lib.hid hb2
      clear hm2 hr2 hs2 hn2 hb2 hc1 hc2
      go_upto_region 7 with (fail)
      go_region_law (refine step_copy_arr rfl (.tmp 34) (.tmp 37) 30 30 rfl 3 Try.underlying30 HSZ.out w.heap.size (w.heap.size + 1 + 1) (1 + j * 4 + k) (4 - k) (4 - k) 67 X (3 - k) (3 - k) (by simp [Act.eval, Act.put]) (by simp [Act.eval, Act.put]) (sqA p (putSeg (minTo f k j) j 0 k (f (j + 1)))) (sqA p (putSeg (putSeg (minTo f k j) j 0 k (f (j + 1))) j k (3 - k) (fun c => f (j + 1) (k + 1 + c)))) HS2.out (fun c => f (j + 1) (k + 1 + c)) (3 - k) (Nat.min_eq_left (by omega)).symm (fun q hq => by rw [HX.out (by omega), Addr.add_lit]; exact HN2.out.cell (k + 1 + q) _ (rowA_get _ (k + 1 + q) (by omega))) (by rw [sqA_size]; omega) HE2.out ?_)
      go_wp2_with fail
      go_roundw
      case rel =>
        refine ⟨j + 1, by omega, by go_num, ?_, ?_, ?_, ?_⟩
        · exact Arr.otherRow (w := w2.drew) HM2.out (by omega) _
        · exact Arr.otherRow (w := w2.drew) HR2.out (by omega) _
        · rw [← minTo_succ p f k j (by omega)]
          exact Arr.row (w := w2.drew) HS2.out rfl
        · exact below_row (below_drew HB2.out) (by omega) _
      case measure => simp [intOf]; omega
    · have hjp : j = p := by omega
      subst hjp
      go_wp2_with (first
        | (with_reducible refine load_arr rfl 67 (.tmp 5) rfl (w.heap.size + 1 + 1) _ _ _ rfl HS.out 17 sq_ty rfl ?_)
        | (with_reducible refine store_arr rfl 67 (.tmp 4) (.tmp 40) rfl (w.heap.size + 1) _ _ (sqA j (minTo f k j)) rfl rfl HR.out 17 sq_ty rfl rfl (sqA_one _ _) ?_))
      exact post_arr 67 rfl rfl (HR.out.row (c' := sqA j (minTo f k j)) rfl) sq_ty rfl rfl ⟨rfl, below_row HB.out (by omega) _⟩
end Go.Proofs.Ytgidfainoijcmaa

/- DeterminantOf of the model. Conditions: lengths of at most 2^20. -/
namespace Go.Proofs.Ytgidfainoijcmaa
open Go.RowKit

/-- a row of a matrix, cell by cell -/
theorem sqn_row {w : World} {v : Value} {n : Nat} {m : List (List Int)} (h : Mat w v m) (hs : SqN n m) (h0 : 0 < n) : ∃ b off cap, v = .slice (some ⟨b, off, none⟩) n cap ∧ n ≤ cap ∧ ∀ k (hk : k < m.length), ∃ b2 off2 cap2, w.cell? ⟨b, off + k, none⟩ = some (.slice (some ⟨b2, off2, none⟩) n cap2) ∧ n ≤ cap2 ∧ ∀ (j : Nat) u, (ints m[k])[j]? = some u → w.cell? ⟨b2, off2 + j, none⟩ = some u := by
  obtain ⟨h1, h5, _⟩ := hs
  obtain ⟨b, off, cap, e, q1, q2, hr⟩ := mat_rows h (by omega)
  rw [h1] at e q1
  refine ⟨b, off, cap, e, q1, fun k hk => ?_⟩
  obtain ⟨u, g1, ⟨A, cap2, e2, c1, c2, h2⟩⟩ := hr k hk
  rw [ints_length, h5 k hk] at e2 c1
  replace h2 := h2.resolve_left (by
    intro e
    have := congrArg List.length e
    rw [ints_length, h5 k hk] at this
    simp only [List.length_nil] at this
    omega)
  obtain ⟨b2, off2, rfl, h2⟩ := h2
  exact ⟨b2, off2, cap2, by rw [g1, e2], c1, fun j u hu => h2 j u hu⟩

theorem ints_one (l : List Int) : ∀ u ∈ ints l, u.oneCell' = true := by
  intro u hu
  simp only [ints, List.mem_map] at hu
  obtain ⟨x, _, rfl⟩ := hu
  rfl
theorem ints_take_get (l : List Int) (k j : Nat) (u : Value) (h : (ints (l.take k))[j]? = some u) : (ints l)[j]? = some u := by
  simp only [ints, List.getElem?_map, List.getElem?_take] at h ⊢
  split at h
  · exact h
  · simp at h
theorem ints_drop_get (l : List Int) (k j : Nat) (u : Value) (h : (ints (l.drop k))[j]? = some u) : (ints l)[k + j]? = some u := by
  simpa only [ints, List.getElem?_map, List.getElem?_drop] using h

set_option maxHeartbeats 4000000 in
set_option maxRecDepth 100000 in
theorem specDet : ∀ (n : Nat) (m : List (List Int)) (v : Value) (w : World), n ≤ 4 → SqN n m → Mat w v m →
    Calls Try.prog 85 #[v] w fun e w' => e = .returned (.int .i64 (detS n m)) ∧ Below w.heap.size w w' := by
  intro n
  induction n with
  | zero =>
    intro m v w _ hs h
    have hm : m.length = 0 := hs.1
    obtain ⟨A, cap, rfl⟩ := mat_slice h
    rw [hm]
    go_enter Try.func85, Try.ntmps85
    go_wp2
    go_ret
    exact ⟨rfl, Below.refl _ _⟩
  | succ n ih =>
    intro m v w h4 hs h
    have IH : Hid (∀ (m : List (List Int)) (v : Value) (w : World), n ≤ 4 → SqN n m → Mat w v m → Calls Try.prog 85 #[v] w fun e w' => e = .returned (.int .i64 (detS n m)) ∧ Below w.heap.size w w') := ih
    clear ih
    obtain ⟨i0, hi0, hz0, hz1, hz2⟩ := info_parts int_info
    obtain ⟨i1, hj0, hy0, hy1, hy2⟩ := info_parts ints_info
    obtain ⟨b, off, cp, rfl, hcp, hrow⟩ := sqn_row h hs (by omega)
    have HS := Lib.hid hs
    have hml : m.length = n + 1 := hs.1
    have HML := Lib.hid hml
    have hm0 : 0 < m.length := by omega
    have HROW := Lib.hid hrow
    obtain ⟨b0, o0, c0, g0, hc0, hcell0⟩ := hrow 0 hm0
    rw [Nat.add_zero] at g0
    have HC0 := Lib.hid hcell0
    have H20 : Hid (∀ k, k < n + 1 → (ints (m[0]'hm0))[k]? = some (.int .i64 (at2 m 0 k))) := by
      intro k hk
      have hk' : k < (m[0]'hm0).length := by rw [hs.2.1 0 hm0]; exact hk
      rw [at2_eq m 0 k hm0 hk']
      simp [ints, hk']
    obtain ⟨X0, hsl0, hX0⟩ := slice_from Try.underlying27 sizeOf_ints b off (n + 1) cp 1 (by omega) hcp
    have HX0 := Lib.hid hX0
    have b1 : (((n + 1 : Nat) : Int) == 0) = false := by rw [beq_eq_false_iff_ne]; omega
    have hD : detMax n ≤ 24000000 := by
      rcases (show n = 0 ∨ n = 1 ∨ n = 2 ∨ n = 3 by omega) with e | e | e | e <;> subst e <;> decide
    have HTB : Hid (∀ k, k < n + 1 → (-100 ≤ sgnN k * at2 m 0 k ∧ sgnN k * at2 m 0 k ≤ 100) ∧ -2400000000 ≤ sgnN k * at2 m 0 k * detS n (minorM m k) ∧ sgnN k * at2 m 0 k * detS n (minorM m k) ≤ 2400000000) := by
      intro k hk
      obtain ⟨t1, t2, t3⟩ := term_bound hs k hk (det_bound n _ (minor_sq hs k hk))
      exact ⟨t1, by omega, by omega⟩
    have HSB := Lib.hid (sumTo_bound (f := fun k => sgnN k * at2 m 0 k * detS n (minorM m k)) (D := 2400000000) (n + 1) (fun k hk => (HTB.out k hk).2))
    clear h hs hrow hcell0 hX0 hml hD
    simp only [Int.natCast_add, Int.cast_ofNat_Int, Nat.add_sub_cancel] at b1 hsl0
    go_enter Try.func85, Try.ntmps85
    go_wp2_with fail
    go_loopw [3, 4, 17] (fun s sg q w' => ∃ (k : Nat), k ≤ n + 1 ∧ q = .int .i64 k ∧ s = .int .i64 (sumTo (fun k => sgnN k * at2 m 0 k * detS n (minorM m k)) k) ∧ sg = .int .i64 (sgnN k) ∧ Below w.heap.size w w') (fun _ _ q _ => n + 1 - (intOf q).toNat)
    case atStart => exact ⟨0, by omega, rfl, rfl, rfl, Below.refl _ _⟩
    case round =>
      obtain ⟨k, hk, rfl, rfl, rfl, hbk⟩ := hrel
      obtain ⟨wo, rfl⟩ : ∃ x : World, x = wr := ⟨_, rfl⟩
      have HBK := Lib.hid hbk
      have hszo : w.heap.size ≤ wo.heap.size := hbk.size
      clear hbk
      by_cases hlt : k < n + 1
      · have d1 : decide ((k : Int) < (n : Int) + 1) = true := by simp; omega
        have p0 := HC0.out k _ (H20.out k hlt)
        have g1 : wo.cell? ⟨b0, o0 + k, none⟩ = some (.int .i64 (at2 m 0 k)) := (HBK.out.cell (p := ⟨b0, o0 + k, none⟩) (World.block_lt_of_cell? w _ p0)).trans p0
        have HSQ := Lib.hid (minor_sq HS.out k hlt)
        have HMN : Hid ((minorM m k).length = n) := by show (minorM m k).length = n; rw [minorM_length, HML.out]; omega
        clear p0
        go_wp2_with fail
        go_loopw [7, 26] (fun o i w' => ∃ (us : List Value), us.length ≤ n ∧ i = .int .i64 us.length ∧ GrowMat w' wo.heap.size o us (minorM m k) ∧ Below wo.heap.size wo w') (fun _ i _ => n - (intOf i).toNat)
        case atStart =>
          exact ⟨[], by simp, rfl, ⟨own_made0 _ _ _ (Nat.le_refl _), ⟨by simp, fun i h => absurd h (by simp), fun i j h => absurd h (by simp)⟩⟩, (Below.refl _ _).alloc (Nat.le_refl _) _⟩
        case round =>
          obtain ⟨us, hk2, rfl, hgm, hb2⟩ := hrel
          obtain ⟨wi, rfl⟩ : ∃ x : World, x = wr := ⟨_, rfl⟩
          obtain ⟨A, cpo, rfl⟩ := own_slice hgm.1
          have HGM := Lib.hid hgm
          have HB2 := Lib.hid hb2
          have hszi : wo.heap.size ≤ wi.heap.size := hb2.size
          have HBW : Hid (Below w.heap.size w wi) := HBK.out.trans (hb2.mono hszo)
          clear hgm hb2
          by_cases hlt2 : us.length < n
          · have hX := HX0.out (by omega)
            subst hX
            have hrm : us.length + 1 < m.length := by rw [HML.out]; omega
            obtain ⟨b2, o2, c2, q1, hc2, hcell⟩ := HROW.out (us.length + 1) hrm
            have q1' : wi.cell? ⟨b, off + 1 + us.length, none⟩ = some (.slice (some ⟨b2, o2, none⟩) (n + 1) c2) := by
              rw [show off + 1 + us.length = off + (us.length + 1) from by omega]
              exact (HBW.out.cell (p := ⟨b, off + (us.length + 1), none⟩) (World.block_lt_of_cell? w _ q1)).trans q1
            have HROWL : Hid (m[us.length + 1].length = n + 1) := HS.out.2.1 _ hrm
            have HCELL : Hid (∀ (w' : World), Below wi.heap.size wi w' → ∀ (j : Nat) u, (ints m[us.length + 1])[j]? = some u → w'.cell? ⟨b2, o2 + j, none⟩ = some u) := by
              intro w' hb' j u hu
              have hc := hcell j u hu
              have hc' := (HBW.out.cell (p := ⟨b2, o2 + j, none⟩) (World.block_lt_of_cell? w _ hc)).trans hc
              exact (hb'.cell (World.block_lt_of_cell? wi _ hc')).trans hc'
            obtain ⟨X1, hsl1, hX1⟩ := slice_upto Try.underlying30 sizeOf_int b2 o2 (n + 1) c2 k (by omega) hc2
            obtain ⟨X2, hsl2, hX2⟩ := slice_from Try.underlying30 sizeOf_int b2 o2 (n + 1) c2 (k + 1) (by omega) hc2
            simp only [Int.natCast_add, Int.cast_ofNat_Int] at hsl2
            have HN1 : Hid ((ints (m[us.length + 1].take k)).length = k) := by show (ints (m[us.length + 1].take k)).length = k; rw [ints_length, List.length_take, HROWL.out]; omega
            have HN2 : Hid ((ints (m[us.length + 1].drop (k + 1))).length = n + 1 - (k + 1)) := by show (ints (m[us.length + 1].drop (k + 1))).length = n + 1 - (k + 1); rw [ints_length, List.length_drop, HROWL.out]
            have HC1 : Hid (∀ (w' : World), Below wi.heap.size wi w' → ∀ (j : Nat) u, (ints (m[us.length + 1].take k))[j]? = some u → w'.cell? (X1.add j) = some u) := by
              intro w' hb' j u hu
              rw [hX1, Addr.add_lit]
              exact HCELL.out w' hb' j u (ints_take_get _ _ _ _ hu)
            have HC2 : Hid (∀ (w' : World), Below wi.heap.size wi w' → ∀ (j : Nat) u, (ints (m[us.length + 1].drop (k + 1)))[j]? = some u → w'.cell? (X2.add j) = some u) := by
              intro w' hb' j u hu
              have hj := (List.getElem?_eq_some_iff.1 hu).1
              rw [HN2.out] at hj
              rw [hX2 (by omega), Addr.add_lit, Nat.add_assoc]
              exact HCELL.out w' hb' _ u (ints_drop_get _ _ _ _ hu)
            have hwk : IntKind.i64.wrap ((k : Int) + 1) = (k : Int) + 1 := IntWalk.i64_in _ (by omega)
            have HGU := Lib.hid HGM.out.1
            clear q1 hcell hX1 hX2
            go_wp2_with fail
            go_region_law (first
              | (refine step_own_g rfl (.tmp 31) (.tmp 34) 30 rfl wi.heap.size 3 i0 _ 8 Try.underlying30 hi0 hz0 hz1 hz2 rfl _ 0 [] (by simp [Act.eval]) (own_made0 _ _ _ (by simp)) X1 k c2 (ints (m[us.length + 1].take k)) (by simp [Act.eval]) HN1.out (HC1.out _ ((below_drewN (Below.refl _ _) 1).alloc (by simp) _)) (ints_one _) (by unfold maxLen; omega) (by omega) (by simp) ?_
                 intro v1 w1 hown1 hgr1
                 rw [Nat.zero_add, List.nil_append] at hown1
                 have HBa : Hid (Below wi.heap.size wi w1) := ((below_drewN (Below.refl _ _) 1).alloc (by simp) _).grown hgr1 (by simp) (fun x hx => by simp [Value.ownBlock] at hx; omega)
                 obtain ⟨A1, cp1, rfl⟩ := own_slice hown1
                 have HOa : Hid (w1.ownsRow wi.heap.size 3 1 (.slice A1 k cp1) k (ints (m[us.length + 1].take k))) := hown1
                 have hsza := HBa.out.size
                 clear hown1 hgr1)
              | (refine step_own_g rfl (.tmp 35) (.tmp 39) 30 rfl wi.heap.size 3 i0 _ 8 Try.underlying30 hi0 hz0 hz1 hz2 rfl _ k _ (by simp [Act.eval]) HOa.out X2 (n + 1 - (k + 1)) (c2 - (k + 1)) (ints (m[us.length + 1].drop (k + 1))) (by simp [Act.eval]) HN2.out (HC2.out _ HBa.out) (ints_one _) (by unfold maxLen; omega) (by omega) hsza ?_
                 intro v2 w2 hown2 hgr2
                 have HBb : Hid (Below wi.heap.size wi w2) := HBa.out.grown hgr2 hsza (fun x hx => (HOa.out.lt x hx).1)
                 obtain ⟨A2, cp2, rfl⟩ := own_slice hown2
                 have HOb : Hid (w2.ownsRow wi.heap.size 3 1 (.slice A2 (k + (n - k)) cp2) (k + (n - k)) (ints (cutR k m[us.length + 1]))) := by
                   have e : n + 1 - (k + 1) = n - k := by omega
                   rw [e] at hown2
                   unfold cutR ints
                   rw [List.map_append]
                   exact hown2
                 have hszb := HBb.out.size
                 clear hown2 hgr2)
              | (refine step_own_g rfl (.tmp 30) (.tmp 41) 27 rfl wo.heap.size 30 i1 _ 24 Try.underlying27 hj0 hy0 hy1 hy2 rfl _ us.length us (by simp [Act.eval]) ((own_below HGU.out HBb.out).alloc _) ⟨w2.heap.size, 0, none⟩ 1 1 [.slice A2 (k + (n - k)) cp2] (by simp [Act.eval]) rfl (fun j u hu => cell_one _ _ _ j u hu) (fun u hu => by simp at hu; subst hu; rfl) (by unfold maxLen; omega) (by omega) (by simp; omega) ?_
                 intro v3 w3 hown3 hgr3
                 obtain ⟨A3, cp3, rfl⟩ := own_slice hown3
                 have HOc := Lib.hid hown3
                 have HGc := Lib.hid hgr3
                 clear hown3 hgr3))
            all_goals
              go_wp2_with fail
              go_roundw
              case rel =>
                have hmm : us.length < (minorM m k).length := by rw [HMN.out]; exact hlt2
                have hrow : (minorM m k)[us.length] = cutR k m[us.length + 1] := minorM_at m k us.length hmm hrm
                have hlen : (cutR k m[us.length + 1]).length = k + (n - k) := by rw [cutR_length _ _ (by rw [HROWL.out]; exact hlt), HROWL.out]; omega
                refine ⟨us ++ [.slice A2 (k + (n - k)) cp2], by simp; omega, by simp, ?_, ?_⟩
                · refine GrowMat.snoc HGM.out HBb.out hszi hmm ?_ HOc.out (grown_trans (World.grownBy_alloc _ _ _) HGc.out)
                  rw [hrow, hlen]
                  exact HOb.out
                · exact ((HB2.out.trans (HBb.out.mono hszi)).alloc (by omega) _).grown HGc.out (by simp; omega) (fun x hx => (HGU.out.lt x hx).1)
              case measure => simp [intOf]; omega
          · have hkl : us.length = (minorM m k).length := by have := HMN.out; omega
            have HMAT : Hid (Mat wi (.slice A us.length cpo) (minorM m k)) := (HGM.out.own hkl).mat
            obtain ⟨⟨s1, s2⟩, s3, s4⟩ := HTB.out k hlt
            obtain ⟨s5, s6⟩ := HSB.out k hk
            have s7 : -1 ≤ sgnN k ∧ sgnN k ≤ 1 := by rcases sgnN_two k with e | e <;> rw [e] <;> decide
            obtain ⟨s7, s8⟩ := s7
            clear hkl
            go_wp2_with fail
            refine (IH.out (minorM m k) _ _ (by omega) HSQ.out HMAT.out).mono ?_
            rintro e w4 ⟨rfl, hb4⟩
            have HB4 : Hid (Below w.heap.size w w4) := HBW.out.trans (hb4.mono (by omega))
            clear hb4
            go_wp2_with fail
            go_roundw
            case rel => exact ⟨k + 1, by omega, by go_num, rfl, by rw [sgnN_succ], HB4.out⟩
            case measure => simp [intOf]; omega
      · have hkn : k = n + 1 := by omega
        have HV : Hid (sumTo (fun k => sgnN k * at2 m 0 k * detS n (minorM m k)) k = detS (n + 1) m) := by rw [hkn]; exact rfl
        clear hkn
        go_wp2_with fail
        go_ret
        exact ⟨ret_int HV.out, HBK.out⟩

theorem specDeterminantOf (m : List (List Int)) (v : Value) (w : World) (h : Mat w v m) (hm : m.length ≤ 1048576) (hr : ∀ r ∈ m, r.length ≤ 1048576) :
    Calls Try.prog 44 #[v] w fun e w' => e = .returned (.int .i64 (detR m)) ∧ Below w.heap.size w w' := by
  have HSQ := Lib.hid (specSquare m v w h hm hr)
  by_cases hs : sqB m = true
  · have HV : Hid (detR m = detS m.length m) := if_pos hs
    have HD := Lib.hid (specDet m.length m v w (sq_parts hs).2.1 (sqN_of hs) h)
    obtain ⟨A, cap, rfl⟩ := mat_slice h
    clear h hr
    go_enter Try.func44, Try.ntmps44
    go_wp2_with fail
    refine HSQ.out.mono ?_
    rintro e w' ⟨rfl, rfl⟩
    go_wp2_with fail
    refine HD.out.mono ?_
    rintro e w2 ⟨rfl, hb2⟩
    go_wp2_with fail
    go_ret
    exact ⟨ret_int HV.out.symm, hb2⟩
  · have hs' : sqB m = false := by simpa using hs
    have HV : Hid (detR m = 0) := if_neg hs
    obtain ⟨A, cap, rfl⟩ := mat_slice h
    clear h hs hr
    go_enter Try.func44, Try.ntmps44
    go_wp2_with fail
    refine HSQ.out.mono ?_
    rintro e w' ⟨rfl, rfl⟩
    go_wp2_with fail
    go_ret
    exact ⟨ret_int HV.out.symm, Below.refl _ _⟩
end Go.Proofs.Ytgidfainoijcmaa
