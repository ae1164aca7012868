/- Texts put together. -/
import Derived.Test.YthckpgfhldocdaaMgp19
import Derived.Test.YthckpgfhldocdaaMgp15
import Derived.Test.YthckpgfhldocdaaMgp29
import Derived.Test.YthckpgfhldocdaaMgp25
import Derived.Test.YthckpgfhldocdaaMgp10
import Derived.Test.YthckpgfhldocdaaMgp3
import Derived.Test.YthckpgfhldocdaaMgp11
import Derived.Lib.IndexAny
/- The program's counts of the four letters, CountLetter and CountsOf. Condition: texts of at most 2^20 bytes. -/
namespace Go.Proofs.Ythckpgfhldocdaa
open Go.RowKit

theorem letterIndex_at (n j : Int) (w : World) (h : n = 97 + j) (h1 : 0 ≤ j) (h2 : j ≤ 3) :
    Calls Try.prog 67 #[.int .u8 n] w fun e w' => e = .returned (.int .i64 j) ∧ w = w' := by
  have h3 : 97 ≤ n := by omega
  have h4 : n ≤ 100 := by omega
  have HJ := Lib.hid (show n - 97 = j by omega)
  clear h h1 h2
  go_enter Try.func67, Try.ntmps67
  go_wp2
  go_ret
  exact ⟨ret_int HJ.out, rfl⟩

/-- the four counts as the cells of an array -/
def cnts (l : List UInt8) : Array Value := #[.int .i64 (cnt l 97), .int .i64 (cnt l 98), .int .i64 (cnt l 99), .int .i64 (cnt l 100)]
theorem cnts_succ (s : ByteArray) (k : Nat) (h : k < s.size) (a b c d : Nat) (ha : cnt (s.data.toList.take k) 97 = a) (hb : cnt (s.data.toList.take k) 98 = b) (hc : cnt (s.data.toList.take k) 99 = c) (hd : cnt (s.data.toList.take k) 100 = d)
    (j : Nat) (hj : s[k].toNat = 97 + j) (_ : j ≤ 3) :
    cnt (s.data.toList.take (k + 1)) 97 = a + (if j = 0 then 1 else 0) ∧ cnt (s.data.toList.take (k + 1)) 98 = b + (if j = 1 then 1 else 0) ∧ cnt (s.data.toList.take (k + 1)) 99 = c + (if j = 2 then 1 else 0) ∧ cnt (s.data.toList.take (k + 1)) 100 = d + (if j = 3 then 1 else 0) := by
  have e : ∀ (x : UInt8) (i : Nat), x.toNat = 97 + i → ((s[k] = x) ↔ j = i) := by
    intro x i hx
    constructor
    · intro h; rw [h] at hj; omega
    · intro h; exact UInt8.toNat_inj.1 (by omega)
  rw [cnt_succ s k h 97, cnt_succ s k h 98, cnt_succ s k h 99, cnt_succ s k h 100, ha, hb, hc, hd]
  simp only [e 97 0 rfl, e 98 1 rfl, e 99 2 rfl, e 100 3 rfl, and_self]

theorem letter_one {t : ByteArray} (h : t.size = 1) : t = ⟨#[t[0]'(by omega)]⟩ := by
  obtain ⟨⟨l⟩⟩ := t
  match l, h with
  | [c], _ => rfl

end Go.Proofs.Ythckpgfhldocdaa

/- The matrix of a substitution as a square of the program; MatrixOf. Conditions: lengths of at most 2^20. -/
namespace Go.Proofs.Ythckpgfhldocdaa
open Go.RowKit

/-- how often the letter with the index i stands in that image -/
def cntF (l : List ByteArray) : Nat → Nat → Int := fun a c => (cnt (l.getD c ⟨#[]⟩).data.toList (letterN a) : Int)
theorem cnt_out {n : Nat} {s : ByteArray} (h : withinB n s = true) (a : Nat) (ha : n ≤ a) (h4 : a ≤ 4) : cnt s.data.toList (letterN a) = 0 := by
  unfold cnt
  rw [List.count_eq_zero]
  intro hm
  have h1 := List.all_eq_true.1 h _ hm
  rw [letterN_toNat a h4] at h1
  simp at h1
  omega
theorem matL_cells {l : List ByteArray} (hl : substB l = true) : sqA l.length (fun a c => if c < l.length then cntF l a c else 0) = sqA l.length (at2 (matL l)) := by
  obtain ⟨h1, h4, h5⟩ := subst_parts hl
  refine sqA_congr fun a c ha hc => ?_
  by_cases hcl : c < l.length
  · rw [if_pos hcl]
    have e : l.getD c ⟨#[]⟩ = l[c] := by rw [List.getD_eq_getElem?_getD, List.getElem?_eq_getElem hcl]; rfl
    unfold cntF
    rw [e]
    by_cases hal : a < l.length
    · rw [at2_eq (matL l) a c (by rw [matL_length]; exact hal) (by rw [matL_at, rowL_length]; exact hcl)]
      simp only [matL_at]
      rw [rowL_at l a c hcl]
    · rw [at2_out _ _ _ (by rw [matL_length]; omega), cnt_out (img_parts (h5 c hcl)).2.2.2 a (by omega) (by omega)]
      rfl
  · rw [if_neg hcl]
    by_cases hal : a < l.length
    · rw [at2_outc (matL l) l.length a c (by rw [matL_length]; exact hal) (by rw [matL_at, rowL_length]) (by omega)]
    · rw [at2_out _ _ _ (by rw [matL_length]; omega)]
theorem matOf_same {m : List (List Int)} {n : Nat} (h1 : m.length = n) (h2 : ∀ i (h : i < m.length), m[i].length = n) : matOf n (at2 m) = m := by
  refine List.ext_getElem (by rw [matOf_length, h1]) fun i hi hi2 => ?_
  rw [matOf_at]
  refine List.ext_getElem (by simp [h2 i hi2]) fun k hk hk2 => ?_
  simp only [List.getElem_map, List.getElem_range]
  exact at2_eq m i k hi2 hk2

end Go.Proofs.Ythckpgfhldocdaa

/- hasLetter of the program. Conditions: lengths of at most 2^20. -/
namespace Go.Proofs.Ythckpgfhldocdaa
open Go.RowKit

theorem letter_list {t : ByteArray} (h1 : t.size = 1) (h2 : wordB t = true) : ∃ c : UInt8, t.data.toList = [c] ∧ c.toNat = 97 + letN t ∧ letN t ≤ 3 := by
  obtain ⟨a, b⟩ := letN_at h1 h2
  have hl : t.data.toList.length = 1 := by simpa using h1
  obtain ⟨c, hc⟩ := List.length_eq_one_iff.1 hl
  refine ⟨c, hc, ?_, b⟩
  have e : letN t = c.toNat - 97 := by
    unfold letN
    rw [hc]
    rfl
  have e2 : t[0]'(by omega) = c := by
    have : t.data.toList[0]'(by omega) = c := by simp [hc]
    rw [Array.getElem_toList] at this
    exact this
  rw [e2] at a
  exact a
theorem within_letter {t : ByteArray} (h1 : t.size = 1) (h2 : wordB t = true) (n : Nat) : withinB n t = decide (letN t < n) := by
  obtain ⟨c, hc, h3, h4⟩ := letter_list h1 h2
  unfold withinB
  rw [hc]
  simp only [List.all_cons, List.all_nil, Bool.and_true]
  rw [h3]
  by_cases h : letN t < n
  · rw [decide_eq_true h, decide_eq_true (by omega)]
  · rw [decide_eq_false h, decide_eq_false (by omega)]
theorem letter_counts {t : ByteArray} (h1 : t.size = 1) (h2 : wordB t = true) (n : Nat) (hn : n ≤ 4) (hl : letN t < n) : (countsR t).take n = unitC n (letN t) := by
  obtain ⟨c, hc, h3, h4⟩ := letter_list h1 h2
  have hcr : countsR t = [(cnt t.data.toList 97 : Int), (cnt t.data.toList 98 : Int), (cnt t.data.toList 99 : Int), (cnt t.data.toList 100 : Int)] := if_pos h2
  have hcc : c = 97 ∨ c = 98 ∨ c = 99 ∨ c = 100 := by
    rcases four_cases (show letN t < 4 by omega) with e | e | e | e <;> rw [e] at h3
    · exact .inl (UInt8.toNat_inj.1 h3)
    · exact .inr (.inl (UInt8.toNat_inj.1 h3))
    · exact .inr (.inr (.inl (UInt8.toNat_inj.1 h3)))
    · exact .inr (.inr (.inr (UInt8.toNat_inj.1 h3)))
  rw [hcr, hc]
  unfold cnt unitC
  rcases hcc with rfl | rfl | rfl | rfl
  · have : letN t = 0 := by have : (97 : UInt8).toNat = 97 := rfl; omega
    rw [this]
    rcases (by omega : n = 1 ∨ n = 2 ∨ n = 3 ∨ n = 4) with rfl | rfl | rfl | rfl <;> rfl
  · have : letN t = 1 := by have : (98 : UInt8).toNat = 98 := rfl; omega
    rw [this] at hl ⊢
    rcases (by omega : n = 2 ∨ n = 3 ∨ n = 4) with rfl | rfl | rfl <;> rfl
  · have : letN t = 2 := by have : (99 : UInt8).toNat = 99 := rfl; omega
    rw [this] at hl ⊢
    rcases (by omega : n = 3 ∨ n = 4) with rfl | rfl <;> rfl
  · have : letN t = 3 := by have : (100 : UInt8).toNat = 100 := rfl; omega
    rw [this] at hl ⊢
    rcases (by omega : n = 4) with rfl <;> rfl
theorem lst_take {w : World} {A : Option Addr} {n c : Nat} {xs : List Value} (h : Lst w (.slice A n c) xs) (k : Nat) (hk : k ≤ xs.length) : Lst w (.slice A k c) (xs.take k) := by
  obtain ⟨A', c', he, h1, h2, h3⟩ := h
  injection he with hA hn hc
  subst hA
  subst hc
  refine ⟨A, c, by rw [List.length_take, Nat.min_eq_left hk], by rw [List.length_take]; omega, h2, ?_⟩
  rcases h3 with h3 | ⟨b, off, hb, h3⟩
  · left
    rw [h3, List.take_nil]
  · right
    refine ⟨b, off, hb, fun i u hu => h3 i u ?_⟩
    rw [List.getElem?_take] at hu
    split at hu
    · exact hu
    · cases hu
end Go.Proofs.Ythckpgfhldocdaa

/- GrowingLetters and isGrowing of the program. Conditions: lengths of at most 2^20. -/
namespace Go.Proofs.Ythckpgfhldocdaa
open Go.RowKit

theorem outTo_snoc {s : Nat → Bool} {i : Nat} (h : s i = true) : outTo s (i + 1) = outTo s i ++ [letterN i] := by
  show outTo s i ++ (if s i = true then [letterN i] else []) = _
  rw [if_pos h]
theorem outTo_same {s : Nat → Bool} {i : Nat} (h : s i = false) : outTo s (i + 1) = outTo s i := by
  show outTo s i ++ (if s i = true then [letterN i] else []) = _
  rw [h]
  exact List.append_nil _
theorem outTo_le (s : Nat → Bool) : ∀ n, (outTo s n).length ≤ n
  | 0 => Nat.le_refl _
  | n + 1 => by
    have := outTo_le s n
    by_cases h : s n = true
    · rw [outTo_snoc h, List.length_append]; simp; exact this
    · rw [outTo_same (by simpa using h)]; omega

set_option maxRecDepth 100000 in
set_option maxHeartbeats 1000000 in
theorem implGrowingLetters (l : List ByteArray) (v : Value) (w : World) (h : Lst w v (strs l)) (hz : ∀ x ∈ l, x.size ≤ 1048576) (hn : l.length ≤ 1048576) :
    Calls Try.prog 48 #[.agg #[v]] w fun e w' => e = .returned (.string (growR l)) ∧ Below w.heap.size w w' := by
  obtain ⟨i0, hi0, hz0, hz1, hz2⟩ := info_parts u8_info
  obtain ⟨A, cp, rfl⟩ := lst_slice h
  rw [strs_length] at h ⊢
  have hb0 : Below w.heap.size w (w.alloc (.cells #[.slice A l.length cp] 34)) := (Below.refl _ _).alloc (Nat.le_refl _) _
  have HL := Lib.hid (h.below hb0)
  have HZ := Lib.hid hz
  have HB0 := Lib.hid hb0
  clear h hz hb0
  by_cases h1 : substB l = true
  · have HV : Hid (growR l = ⟨(outTo (growB l) l.length).toArray⟩) := if_pos h1
    have HSB := Lib.hid h1
    obtain ⟨hl1, hl4, _⟩ := subst_parts h1
    go_enter Try.func48, Try.ntmps48
    go_wp2_with fail
    refine (implSubstOkL l _ _ HL.out HZ.out (by omega)).mono ?_
    rintro e w1 ⟨rfl, hb1⟩
    rw [h1]
    have hbw1 : Below w.heap.size w w1 := HB0.out.trans (hb1.mono (by simp))
    have c1 : w1.cell? ⟨w.heap.size, 0, none⟩ = some (.slice A l.length cp) := (hb1.cell (p := ⟨w.heap.size, 0, none⟩) (by simp)).trans (by go_simp)
    obtain ⟨b, off, cp', he, hat⟩ := lst_at (HL.out.below hb1) (by omega)
    injection he with hA _ hc
    subst hA; subst hc
    have HAT := Lib.hid hat
    have HBW1 := Lib.hid hbw1
    have hsz1 : w.heap.size < w1.heap.size := by have := hb1.size; simp at this; omega
    clear hb1 hat hbw1 h1
    go_wp2_with fail
    go_loopw [3, 12] (fun o ix w' => ∃ i n, i ≤ l.length ∧ ix = .int .i64 (i : Int) ∧ n = (outTo (growB l) i).length ∧ w'.ownsRow w1.heap.size 5 1 o n (byteCells (outTo (growB l) i)) ∧ Below w1.heap.size w1 w') (fun _ ix _ => l.length - (intOf ix).toNat)
    case atStart => exact ⟨0, 0, by omega, rfl, rfl, World.ownsRow_nil _ _ _ _, Below.refl _ _⟩
    case round =>
      obtain ⟨i, n, hi, rfl, hnl, ho, hb⟩ := hrel
      have HN := Lib.hid hnl
      have hsz := hb.size
      have hn4 : n ≤ 4 := by have := outTo_le (growB l) i; omega
      clear hnl
      by_cases hlt : i < l.length
      · obtain ⟨h0, f1, f2⟩ := first_at HSB.out hlt
        have HG := Lib.hid (growB_at hlt)
        have g1 : wr.cell? ⟨b, off + i, none⟩ = some (.string l[i]) := (hb.cell (p := ⟨b, off + i, none⟩) (World.block_lt_of_cell? w1 _ (HAT.out i hlt))).trans (HAT.out i hlt)
        have c3 : wr.cell? ⟨w.heap.size, 0, none⟩ = some (.slice (some ⟨b, off, none⟩) l.length cp) := (hb.cell (p := ⟨w.heap.size, 0, none⟩) hsz1).trans c1
        have HLI := Lib.hid (fun w => letterAt (l[i][0].toNat : Int) (firstN l i : Int) w (by omega) (by omega) (by omega))
        have HF := Lib.hid f1
        have HO := Lib.hid ho
        have HB := Lib.hid hb
        have HAB := Lib.hid (fun h => outTo_snoc (s := growB l) (i := i) h)
        have HAS := Lib.hid (fun h => outTo_same (s := growB l) (i := i) h)
        clear f1 ho hb
        by_cases h2 : 1 < l[i].size
        · have dG : decide (1 < l[i].size) = true := by simpa using h2
          by_cases h3 : firstN l i = i
          · have HGT : Hid (growB l i = true) := by show _ = _; rw [HG.out, dG, decide_eq_true h3]; rfl
            have d3 : ((firstN l i : Int) == (i : Int)) = true := by simp; omega
            have HLE : Hid (letterN i = l[i][0]) := by
              show _ = _
              apply UInt8.toNat.inj
              rw [letterN_toNat i (by omega), HF.out, h3]
            clear h3
            go_wp2_with (first
              | (go_at_call 67; refine (HLI.out _).mono ?_; rintro e w' ⟨rfl, rfl⟩)
              | (at_builtin
                 refine wpList_append1 _ rfl (.tmp 27) (.tmp 30) _ rfl w1.heap.size 5 i0 _ 1 Try.underlying22 hi0 hz0 hz1 hz2 rfl _ n _ rfl HO.out (.int .u8 (l[i][0].toNat : Int)) rfl rfl (by unfold maxLen; omega) (by omega) hsz ?_
                 intro v' w2 hown2 hbel2))
            go_roundw
            case rel =>
              refine ⟨i + 1, n + 1, by omega, by go_num, ?_, ?_, HB.out.trans hbel2⟩
              · rw [HAB.out HGT.out, List.length_append, ← HN.out]; rfl
              · rw [HAB.out HGT.out, byteCells_snoc, HLE.out]; exact hown2
            case measure => simp [intOf]; omega
          · have HGF : Hid (growB l i = false) := by show _ = _; rw [HG.out, dG, decide_eq_false h3]; rfl
            have d3 : ((firstN l i : Int) == (i : Int)) = false := by simp; omega
            clear h3
            go_wp2_with (go_at_call 67; refine (HLI.out _).mono ?_; rintro e w' ⟨rfl, rfl⟩)
            go_roundw
            case rel => exact ⟨i + 1, n, by omega, by go_num, by rw [HAS.out HGF.out]; exact HN.out, by rw [HAS.out HGF.out]; exact HO.out, HB.out⟩
            case measure => simp [intOf]; omega
        · have dG : decide (1 < l[i].size) = false := by simpa using h2
          have HGF : Hid (growB l i = false) := by show _ = _; rw [HG.out, dG]; rfl
          go_wp2_with fail
          go_roundw
          case rel => exact ⟨i + 1, n, by omega, by go_num, by rw [HAS.out HGF.out]; exact HN.out, by rw [HAS.out HGF.out]; exact HO.out, HB.out⟩
          case measure => simp [intOf]; omega
      · have hii : i = l.length := by omega
        have hconv := conv_own_to Try.underlying9 ho
        have HE : Hid (outTo (growB l) i = outTo (growB l) l.length) := by show _ = _; rw [hii]
        have HB := Lib.hid hb
        clear hii ho hb
        go_wp2_with fail
        go_ret
        refine ⟨ret_str ?_, HBW1.out.trans (HB.out.mono HBW1.out.size)⟩
        rw [HV.out, HE.out]
  · have h1' : substB l = false := by simpa using h1
    have HV : Hid (growR l = ⟨#[]⟩) := if_neg h1
    clear h1
    go_enter Try.func48, Try.ntmps48
    go_wp2_with fail
    refine (implSubstOkL l _ _ HL.out HZ.out (by omega)).mono ?_
    rintro e w1 ⟨rfl, hb1⟩
    rw [h1']
    have HB1 : Hid (Below w.heap.size w w1) := HB0.out.trans (hb1.mono (by simp))
    clear hb1
    go_wp2_with fail
    go_ret
    exact ⟨ret_str HV.out.symm, HB1.out⟩
theorem mem_outTo (s : Nat → Bool) (k : Nat) (hk : k ≤ 3) : ∀ n, n ≤ 4 → (letterN k ∈ outTo s n ↔ k < n ∧ s k = true)
  | 0, _ => by constructor
               · intro h; cases h
               · rintro ⟨h, _⟩; omega
  | n + 1, hn => by
    have ih := mem_outTo s k hk n (by omega)
    have hne : letterN k = letterN n ↔ k = n := by
      constructor
      · intro h
        have := congrArg UInt8.toNat h
        rw [letterN_toNat k (by omega), letterN_toNat n (by omega)] at this
        omega
      · rintro rfl; rfl
    by_cases h : s n = true
    · rw [outTo_snoc h, List.mem_append, ih, List.mem_singleton, hne]
      constructor
      · rintro (⟨a, b⟩ | rfl)
        · exact ⟨by omega, b⟩
        · exact ⟨by omega, h⟩
      · rintro ⟨a, b⟩
        by_cases e : k = n
        · exact .inr e
        · exact .inl ⟨by omega, b⟩
    · rw [outTo_same (by simpa using h), ih]
      constructor
      · rintro ⟨a, b⟩; exact ⟨by omega, b⟩
      · rintro ⟨a, b⟩
        refine ⟨?_, b⟩
        rcases Nat.lt_or_ge k n with e | e
        · exact e
        · have : k = n := by omega
          subst this
          exact absurd b h
theorem grow_has {l : List ByteArray} {t : ByteArray} {c : UInt8} (hw : (decide (t.size = 1) && wordB t) = true) (h3 : c.toNat = 97 + letN t) (h4 : letN t ≤ 3) : decide (0 ≤ Lib.indexByte (growR l).data.toList c) = growOk l t := by
  rw [← Lib.contains_iff_indexByte]
  have hcl : c = letterN (letN t) := by
    apply UInt8.toNat.inj
    rw [letterN_toNat _ (by omega), h3]
  unfold growOk letOk
  rw [hw]
  by_cases h : substB l = true
  · have hl4 := (subst_parts h).2.1
    have hV : growR l = ⟨(outTo (growB l) l.length).toArray⟩ := if_pos h
    rw [hV, h]
    show (outTo (growB l) l.length).contains c = _
    have hm := mem_outTo (growB l) (letN t) h4 l.length hl4
    rw [Bool.eq_iff_iff, List.contains_iff_mem, hcl, hm]
    simp
  · have hV : growR l = ⟨#[]⟩ := if_neg h
    rw [hV]
    have h' : substB l = false := by simpa using h
    rw [h']
    simp

set_option maxRecDepth 100000 in
theorem implIsGrowing (l : List ByteArray) (v : Value) (t : ByteArray) (w : World) (h : Lst w v (strs l)) (hz : ∀ x ∈ l, x.size ≤ 1048576) (hn : l.length ≤ 1048576) (ht : t.size ≤ 1048576) :
    Calls Try.prog 31 #[.agg #[v], .string t] w fun e w' => e = .returned (.bool (growOk l t)) ∧ Below w.heap.size w w' := by
  obtain ⟨A, cp, rfl⟩ := lst_slice h
  rw [strs_length] at h ⊢
  have hb0 : Below w.heap.size w (w.alloc (.cells #[.slice A l.length cp] 34)) := (Below.refl _ _).alloc (Nat.le_refl _) _
  have HL := Lib.hid (h.below hb0)
  have HZ := Lib.hid hz
  have HB0 := Lib.hid hb0
  clear h hz hb0
  by_cases h2 : (decide (t.size = 1) && wordB t) = true
  · have H2 := Lib.hid h2
    have h2' := h2
    rw [Bool.and_eq_true, decide_eq_true_eq] at h2'
    obtain ⟨c, hc, h3, h4⟩ := letter_list h2'.1 h2'.2
    have HG := Lib.hid (grow_has (l := l) h2 h3 h4)
    have htc : t = ⟨#[c]⟩ := bytes_ext (by rw [ByteArray.toList_eq, ByteArray.toList_eq]; exact hc)
    have HC : Hid (∀ s w, Calls Try.prog 28 #[.string s, .string t] w fun e w' => e = .returned (.bool (decide (0 ≤ Lib.indexByte s.data.toList c))) ∧ w' = w) := by
      intro s w
      rw [htc]
      exact Try.strings_Contains_one s c w
    clear h2 h2' hc h3 h4 htc
    go_enter Try.func31, Try.ntmps31
    go_wp2_with fail
    refine (implIsLetterWord t _ ht).mono ?_
    rintro e w1 ⟨rfl, hb1⟩
    rw [H2.out]
    have HB1 : Hid (Below w.heap.size w w1) := HB0.out.trans (hb1.mono (by simp))
    have c1 : w1.cell? ⟨w.heap.size, 0, none⟩ = some (.slice A l.length cp) := (hb1.cell (p := ⟨w.heap.size, 0, none⟩) (by simp)).trans (by go_simp)
    have HL1 := Lib.hid (HL.out.below hb1)
    clear hb1
    go_wp2_with fail
    refine (implGrowingLetters l _ _ HL1.out HZ.out hn).mono ?_
    rintro e w2 ⟨rfl, hb2⟩
    have HB2 : Hid (Below w.heap.size w w2) := HB1.out.trans (hb2.mono HB1.out.size)
    clear hb2
    go_wp2_with fail
    refine (HC.out _ _).mono ?_
    rintro e w3 ⟨rfl, rfl⟩
    rw [HG.out]
    go_wp2_with fail
    go_ret
    exact ⟨rfl, HB2.out⟩
  · have h2' : (decide (t.size = 1) && wordB t) = false := by simpa only [Bool.not_eq_true] using h2
    have H2 := Lib.hid h2'
    clear h2 h2'
    go_enter Try.func31, Try.ntmps31
    go_wp2_with fail
    refine (implIsLetterWord t _ ht).mono ?_
    rintro e w1 ⟨rfl, hb1⟩
    rw [H2.out]
    have HB1 : Hid (Below w.heap.size w w1) := HB0.out.trans (hb1.mono (by simp))
    clear hb1
    go_wp2_with fail
    go_ret
    refine ⟨ret_bool ?_, HB1.out⟩
    unfold growOk letOk
    rw [H2.out]
    rfl
end Go.Proofs.Ythckpgfhldocdaa
