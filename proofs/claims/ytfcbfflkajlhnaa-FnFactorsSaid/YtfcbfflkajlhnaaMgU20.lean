/- Texts put together. -/
import Derived.Test.YtfcbfflkajlhnaaMgU19
import Derived.Test.YtfcbfflkajlhnaaMgU11
import Derived.Test.YtfcbfflkajlhnaaMgU4
import Derived.Test.YtfcbfflkajlhnaaMgU16
import Derived.Test.YtfcbfflkajlhnaaMgU7
import Derived.Test.YtfcbfflkajlhnaaMgU17
import Derived.Lib.IndexAny
import Derived.Test.YtfcbfflkajlhnaaMgU12
import Derived.Test.YtfcbfflkajlhnaaMgU15
import Derived.IntWalk
/- hasLetter of the program. Conditions: lengths of at most 2^20. -/
namespace Go.Proofs.Ytfcbfflkajlhnaa
open Go.RowKit

theorem letter_list {t : ByteArray} (h1 : t.size = 1) (h2 : wordB t = true) : ∃ c : UInt8, t.data.toList = [c] ∧ c.toNat = 97 + letN t ∧ letN t ≤ 3 := by
  obtain ⟨a, b⟩ := letN_at h1 h2
  have hl : t.data.toList.length = 1 := by simpa using h1
  obtain ⟨c, hc⟩ := List.length_eq_one_iff.1 hl
  refine ⟨c, hc, ?_, b⟩
  have e : letN t = c.toNat - 97 := by
    unfold letN
    rw [hc]
    rfl
  have e2 : t[0]'(by omega) = c := by
    have : t.data.toList[0]'(by omega) = c := by simp [hc]
    rw [Array.getElem_toList] at this
    exact this
  rw [e2] at a
  exact a
theorem within_letter {t : ByteArray} (h1 : t.size = 1) (h2 : wordB t = true) (n : Nat) : withinB n t = decide (letN t < n) := by
  obtain ⟨c, hc, h3, h4⟩ := letter_list h1 h2
  unfold withinB
  rw [hc]
  simp only [List.all_cons, List.all_nil, Bool.and_true]
  rw [h3]
  by_cases h : letN t < n
  · rw [decide_eq_true h, decide_eq_true (by omega)]
  · rw [decide_eq_false h, decide_eq_false (by omega)]
theorem letter_counts {t : ByteArray} (h1 : t.size = 1) (h2 : wordB t = true) (n : Nat) (hn : n ≤ 4) (hl : letN t < n) : (countsR t).take n = unitC n (letN t) := by
  obtain ⟨c, hc, h3, h4⟩ := letter_list h1 h2
  have hcr : countsR t = [(cnt t.data.toList 97 : Int), (cnt t.data.toList 98 : Int), (cnt t.data.toList 99 : Int), (cnt t.data.toList 100 : Int)] := if_pos h2
  have hcc : c = 97 ∨ c = 98 ∨ c = 99 ∨ c = 100 := by
    rcases four_cases (show letN t < 4 by omega) with e | e | e | e <;> rw [e] at h3
    · exact .inl (UInt8.toNat_inj.1 h3)
    · exact .inr (.inl (UInt8.toNat_inj.1 h3))
    · exact .inr (.inr (.inl (UInt8.toNat_inj.1 h3)))
    · exact .inr (.inr (.inr (UInt8.toNat_inj.1 h3)))
  rw [hcr, hc]
  unfold cnt unitC
  rcases hcc with rfl | rfl | rfl | rfl
  · have : letN t = 0 := by have : (97 : UInt8).toNat = 97 := rfl; omega
    rw [this]
    rcases (by omega : n = 1 ∨ n = 2 ∨ n = 3 ∨ n = 4) with rfl | rfl | rfl | rfl <;> rfl
  · have : letN t = 1 := by have : (98 : UInt8).toNat = 98 := rfl; omega
    rw [this] at hl ⊢
    rcases (by omega : n = 2 ∨ n = 3 ∨ n = 4) with rfl | rfl | rfl <;> rfl
  · have : letN t = 2 := by have : (99 : UInt8).toNat = 99 := rfl; omega
    rw [this] at hl ⊢
    rcases (by omega : n = 3 ∨ n = 4) with rfl | rfl <;> rfl
  · have : letN t = 3 := by have : (100 : UInt8).toNat = 100 := rfl; omega
    rw [this] at hl ⊢
    rcases (by omega : n = 4) with rfl <;> rfl
theorem lst_take {w : World} {A : Option Addr} {n c : Nat} {xs : List Value} (h : Lst w (.slice A n c) xs) (k : Nat) (hk : k ≤ xs.length) : Lst w (.slice A k c) (xs.take k) := by
  obtain ⟨A', c', he, h1, h2, h3⟩ := h
  injection he with hA hn hc
  subst hA
  subst hc
  refine ⟨A, c, by rw [List.length_take, Nat.min_eq_left hk], by rw [List.length_take]; omega, h2, ?_⟩
  rcases h3 with h3 | ⟨b, off, hb, h3⟩
  · left
    rw [h3, List.take_nil]
  · right
    refine ⟨b, off, hb, fun i u hu => h3 i u ?_⟩
    rw [List.getElem?_take] at hu
    split at hu
    · exact hu
    · cases hu
theorem cut_slice (a : Addr) (n c k : Nat) (hk : k ≤ c) (w : World) : (Instr.sliceAt 35 (.slice (some a) n c) none (some (.int .i64 (k : Int))) none).run Try.prog w = .ok (.slice (some a) k c) w := by
  have h1 : (0 : Int) ≤ k ∧ (k : Int) ≤ (c : Nat) := by omega
  simp [Instr.sliceAt, Instr.slice, Instr.sliceBounds, Instr.sliceBound, asIntOf, run_underlying Try.underlying35, Instr.sureAddr, hk, Addr.add]

theorem implHasLetter (A : Option Addr) (l : List ByteArray) (cp : Nat) (t : ByteArray) (w : World) (h : Lst w (.slice A l.length cp) (strs l)) (hz : ∀ x ∈ l, x.size ≤ 1048576) (hn : l.length ≤ 1048576) (ht : t.size ≤ 1048576) :
    Calls Try.prog 76 #[.agg #[.slice A l.length cp], .string t] w fun e w' => e = .returned (.bool (letOk l t && substB l)) ∧ Below w.heap.size w w' := by
  have hb0 : Below w.heap.size w (w.alloc (.cells #[.slice A l.length cp] 25)) := (Below.refl _ _).alloc (Nat.le_refl _) _
  have HL := Lib.hid (h.below hb0)
  have HZ := Lib.hid hz
  have HB0 := Lib.hid hb0
  clear h hz hb0
  by_cases h1 : substB l = true
  · have HSB := Lib.hid h1
    by_cases h2 : (decide (t.size = 1) && wordB t) = true
    · have H2 := Lib.hid h2
      rw [Bool.and_eq_true, decide_eq_true_eq] at h2
      have HW := Lib.hid (within_letter h2.1 h2.2 l.length)
      have HWB := Lib.hid h2.2
      clear h1 h2
      go_enter Try.func76, Try.ntmps76
      go_wp2_with fail
      refine (implSubstOk l _ _ HL.out HZ.out hn).mono ?_
      rintro e w1 ⟨rfl, hb1⟩
      rw [HSB.out]
      have HB1 : Hid (Below w.heap.size w w1) := HB0.out.trans (hb1.mono (by simp))
      have c0 : w1.cell? ⟨w.heap.size, 0, none⟩ = some (.slice A l.length cp) := (hb1.cell (p := ⟨w.heap.size, 0, none⟩) (by simp)).trans (by go_simp)
      have hlt1 : w.heap.size < w1.heap.size := by have := hb1.size; simp at this; omega
      clear hb1
      go_wp2_with fail
      refine (implIsLetterWord t _ ht).mono ?_
      rintro e w2 ⟨rfl, hb2⟩
      rw [H2.out]
      have HB2 : Hid (Below w.heap.size w w2) := HB1.out.trans (hb2.mono HB1.out.size)
      have c2 : w2.cell? ⟨w.heap.size, 0, none⟩ = some (.slice A l.length cp) := (hb2.cell (p := ⟨w.heap.size, 0, none⟩) hlt1).trans c0
      clear hb2 c0
      go_wp2_with fail
      refine (implHasImages A l.length cp t _ hn ht).mono ?_
      rintro e w3 ⟨rfl, hb3⟩
      have HB3 : Hid (Below w.heap.size w w3) := HB2.out.trans (hb3.mono HB2.out.size)
      clear hb3
      go_wp2_with fail
      go_ret
      refine ⟨ret_bool ?_, HB3.out⟩
      unfold letOk
      rw [HW.out, H2.out, HSB.out, HWB.out, Bool.and_true, Bool.true_and]
    · have h2' : (decide (t.size = 1) && wordB t) = false := by simpa only [Bool.not_eq_true] using h2
      have H2 := Lib.hid h2'
      clear h1 h2 h2'
      go_enter Try.func76, Try.ntmps76
      go_wp2_with fail
      refine (implSubstOk l _ _ HL.out HZ.out hn).mono ?_
      rintro e w1 ⟨rfl, hb1⟩
      rw [HSB.out]
      have HB1 : Hid (Below w.heap.size w w1) := HB0.out.trans (hb1.mono (by simp))
      clear hb1
      go_wp2_with fail
      refine (implIsLetterWord t _ ht).mono ?_
      rintro e w2 ⟨rfl, hb2⟩
      rw [H2.out]
      have HB2 : Hid (Below w.heap.size w w2) := HB1.out.trans (hb2.mono HB1.out.size)
      clear hb2
      go_wp2_with fail
      go_ret
      refine ⟨ret_bool ?_, HB2.out⟩
      unfold letOk
      rw [H2.out]
      rfl
  · have h1' : substB l = false := by simpa using h1
    have HSB := Lib.hid h1'
    clear h1 h1'
    go_enter Try.func76, Try.ntmps76
    go_wp2_with fail
    refine (implSubstOk l _ _ HL.out HZ.out hn).mono ?_
    rintro e w1 ⟨rfl, hb1⟩
    rw [HSB.out]
    have HB1 : Hid (Below w.heap.size w w1) := HB0.out.trans (hb1.mono (by simp))
    clear hb1
    go_wp2_with fail
    go_ret
    exact ⟨ret_bool (by rw [HSB.out, Bool.and_false]), HB1.out⟩
end Go.Proofs.Ytfcbfflkajlhnaa

/- GrowingLetters and isGrowing of the program. Conditions: lengths of at most 2^20. -/
namespace Go.Proofs.Ytfcbfflkajlhnaa
open Go.RowKit

theorem outTo_snoc {s : Nat → Bool} {i : Nat} (h : s i = true) : outTo s (i + 1) = outTo s i ++ [letterN i] := by
  show outTo s i ++ (if s i = true then [letterN i] else []) = _
  rw [if_pos h]
theorem outTo_same {s : Nat → Bool} {i : Nat} (h : s i = false) : outTo s (i + 1) = outTo s i := by
  show outTo s i ++ (if s i = true then [letterN i] else []) = _
  rw [h]
  exact List.append_nil _
theorem outTo_le (s : Nat → Bool) : ∀ n, (outTo s n).length ≤ n
  | 0 => Nat.le_refl _
  | n + 1 => by
    have := outTo_le s n
    by_cases h : s n = true
    · rw [outTo_snoc h, List.length_append]; simp; exact this
    · rw [outTo_same (by simpa using h)]; omega

set_option maxRecDepth 100000 in
set_option maxHeartbeats 1000000 in
theorem implGrowingLetters (l : List ByteArray) (v : Value) (w : World) (h : Lst w v (strs l)) (hz : ∀ x ∈ l, x.size ≤ 1048576) (hn : l.length ≤ 1048576) :
    Calls Try.prog 28 #[.agg #[v]] w fun e w' => e = .returned (.string (growR l)) ∧ Below w.heap.size w w' := by
  obtain ⟨i0, hi0, hz0, hz1, hz2⟩ := info_parts u8_info
  obtain ⟨A, cp, rfl⟩ := lst_slice h
  rw [strs_length] at h ⊢
  have hb0 : Below w.heap.size w (w.alloc (.cells #[.slice A l.length cp] 25)) := (Below.refl _ _).alloc (Nat.le_refl _) _
  have HL := Lib.hid (h.below hb0)
  have HZ := Lib.hid hz
  have HB0 := Lib.hid hb0
  clear h hz hb0
  by_cases h1 : substB l = true
  · have HV : Hid (growR l = ⟨(outTo (growB l) l.length).toArray⟩) := if_pos h1
    have HSB := Lib.hid h1
    obtain ⟨hl1, hl4, _⟩ := subst_parts h1
    go_enter Try.func28, Try.ntmps28
    go_wp2_with fail
    refine (implSubstOkL l _ _ HL.out HZ.out (by omega)).mono ?_
    rintro e w1 ⟨rfl, hb1⟩
    rw [h1]
    have hbw1 : Below w.heap.size w w1 := HB0.out.trans (hb1.mono (by simp))
    have c1 : w1.cell? ⟨w.heap.size, 0, none⟩ = some (.slice A l.length cp) := (hb1.cell (p := ⟨w.heap.size, 0, none⟩) (by simp)).trans (by go_simp)
    obtain ⟨b, off, cp', he, hat⟩ := lst_at (HL.out.below hb1) (by omega)
    injection he with hA _ hc
    subst hA; subst hc
    have HAT := Lib.hid hat
    have HBW1 := Lib.hid hbw1
    have hsz1 : w.heap.size < w1.heap.size := by have := hb1.size; simp at this; omega
    clear hb1 hat hbw1 h1
    go_wp2_with fail
    go_loopw [3, 12] (fun o ix w' => ∃ i n, i ≤ l.length ∧ ix = .int .i64 (i : Int) ∧ n = (outTo (growB l) i).length ∧ w'.ownsRow w1.heap.size 5 1 o n (byteCells (outTo (growB l) i)) ∧ Below w1.heap.size w1 w') (fun _ ix _ => l.length - (intOf ix).toNat)
    case atStart => exact ⟨0, 0, by omega, rfl, rfl, World.ownsRow_nil _ _ _ _, Below.refl _ _⟩
    case round =>
      obtain ⟨i, n, hi, rfl, hnl, ho, hb⟩ := hrel
      have HN := Lib.hid hnl
      have hsz := hb.size
      have hn4 : n ≤ 4 := by have := outTo_le (growB l) i; omega
      clear hnl
      by_cases hlt : i < l.length
      · obtain ⟨h0, f1, f2⟩ := first_at HSB.out hlt
        have HG := Lib.hid (growB_at hlt)
        have g1 : wr.cell? ⟨b, off + i, none⟩ = some (.string l[i]) := (hb.cell (p := ⟨b, off + i, none⟩) (World.block_lt_of_cell? w1 _ (HAT.out i hlt))).trans (HAT.out i hlt)
        have c3 : wr.cell? ⟨w.heap.size, 0, none⟩ = some (.slice (some ⟨b, off, none⟩) l.length cp) := (hb.cell (p := ⟨w.heap.size, 0, none⟩) hsz1).trans c1
        have HLI := Lib.hid (fun w => letterAt (l[i][0].toNat : Int) (firstN l i : Int) w (by omega) (by omega) (by omega))
        have HF := Lib.hid f1
        have HO := Lib.hid ho
        have HB := Lib.hid hb
        have HAB := Lib.hid (fun h => outTo_snoc (s := growB l) (i := i) h)
        have HAS := Lib.hid (fun h => outTo_same (s := growB l) (i := i) h)
        clear f1 ho hb
        by_cases h2 : 1 < l[i].size
        · have dG : decide (1 < l[i].size) = true := by simpa using h2
          by_cases h3 : firstN l i = i
          · have HGT : Hid (growB l i = true) := by show _ = _; rw [HG.out, dG, decide_eq_true h3]; rfl
            have d3 : ((firstN l i : Int) == (i : Int)) = true := by simp; omega
            have HLE : Hid (letterN i = l[i][0]) := by
              show _ = _
              apply UInt8.toNat.inj
              rw [letterN_toNat i (by omega), HF.out, h3]
            clear h3
            go_wp2_with (first
              | (go_at_call 78; refine (HLI.out _).mono ?_; rintro e w' ⟨rfl, rfl⟩)
              | (at_builtin
                 refine wpList_append1 _ rfl (.tmp 27) (.tmp 30) _ rfl w1.heap.size 5 i0 _ 1 Try.underlying22 hi0 hz0 hz1 hz2 rfl _ n _ rfl HO.out (.int .u8 (l[i][0].toNat : Int)) rfl rfl (by unfold maxLen; omega) (by omega) hsz ?_
                 intro v' w2 hown2 hbel2))
            go_roundw
            case rel =>
              refine ⟨i + 1, n + 1, by omega, by go_num, ?_, ?_, HB.out.trans hbel2⟩
              · rw [HAB.out HGT.out, List.length_append, ← HN.out]; rfl
              · rw [HAB.out HGT.out, byteCells_snoc, HLE.out]; exact hown2
            case measure => simp [intOf]; omega
          · have HGF : Hid (growB l i = false) := by show _ = _; rw [HG.out, dG, decide_eq_false h3]; rfl
            have d3 : ((firstN l i : Int) == (i : Int)) = false := by simp; omega
            clear h3
            go_wp2_with (go_at_call 78; refine (HLI.out _).mono ?_; rintro e w' ⟨rfl, rfl⟩)
            go_roundw
            case rel => exact ⟨i + 1, n, by omega, by go_num, by rw [HAS.out HGF.out]; exact HN.out, by rw [HAS.out HGF.out]; exact HO.out, HB.out⟩
            case measure => simp [intOf]; omega
        · have dG : decide (1 < l[i].size) = false := by simpa using h2
          have HGF : Hid (growB l i = false) := by show _ = _; rw [HG.out, dG]; rfl
          go_wp2_with fail
          go_roundw
          case rel => exact ⟨i + 1, n, by omega, by go_num, by rw [HAS.out HGF.out]; exact HN.out, by rw [HAS.out HGF.out]; exact HO.out, HB.out⟩
          case measure => simp [intOf]; omega
      · have hii : i = l.length := by omega
        have hconv := conv_own_to Try.underlying9 ho
        have HE : Hid (outTo (growB l) i = outTo (growB l) l.length) := by show _ = _; rw [hii]
        have HB := Lib.hid hb
        clear hii ho hb
        go_wp2_with fail
        go_ret
        refine ⟨ret_str ?_, HBW1.out.trans (HB.out.mono HBW1.out.size)⟩
        rw [HV.out, HE.out]
  · have h1' : substB l = false := by simpa using h1
    have HV : Hid (growR l = ⟨#[]⟩) := if_neg h1
    clear h1
    go_enter Try.func28, Try.ntmps28
    go_wp2_with fail
    refine (implSubstOkL l _ _ HL.out HZ.out (by omega)).mono ?_
    rintro e w1 ⟨rfl, hb1⟩
    rw [h1']
    have HB1 : Hid (Below w.heap.size w w1) := HB0.out.trans (hb1.mono (by simp))
    clear hb1
    go_wp2_with fail
    go_ret
    exact ⟨ret_str HV.out.symm, HB1.out⟩
theorem mem_outTo (s : Nat → Bool) (k : Nat) (hk : k ≤ 3) : ∀ n, n ≤ 4 → (letterN k ∈ outTo s n ↔ k < n ∧ s k = true)
  | 0, _ => by constructor
               · intro h; cases h
               · rintro ⟨h, _⟩; omega
  | n + 1, hn => by
    have ih := mem_outTo s k hk n (by omega)
    have hne : letterN k = letterN n ↔ k = n := by
      constructor
      · intro h
        have := congrArg UInt8.toNat h
        rw [letterN_toNat k (by omega), letterN_toNat n (by omega)] at this
        omega
      · rintro rfl; rfl
    by_cases h : s n = true
    · rw [outTo_snoc h, List.mem_append, ih, List.mem_singleton, hne]
      constructor
      · rintro (⟨a, b⟩ | rfl)
        · exact ⟨by omega, b⟩
        · exact ⟨by omega, h⟩
      · rintro ⟨a, b⟩
        by_cases e : k = n
        · exact .inr e
        · exact .inl ⟨by omega, b⟩
    · rw [outTo_same (by simpa using h), ih]
      constructor
      · rintro ⟨a, b⟩; exact ⟨by omega, b⟩
      · rintro ⟨a, b⟩
        refine ⟨?_, b⟩
        rcases Nat.lt_or_ge k n with e | e
        · exact e
        · have : k = n := by omega
          subst this
          exact absurd b h
theorem grow_has {l : List ByteArray} {t : ByteArray} {c : UInt8} (hw : (decide (t.size = 1) && wordB t) = true) (h3 : c.toNat = 97 + letN t) (h4 : letN t ≤ 3) : decide (0 ≤ Lib.indexByte (growR l).data.toList c) = growOk l t := by
  rw [← Lib.contains_iff_indexByte]
  have hcl : c = letterN (letN t) := by
    apply UInt8.toNat.inj
    rw [letterN_toNat _ (by omega), h3]
  unfold growOk letOk
  rw [hw]
  by_cases h : substB l = true
  · have hl4 := (subst_parts h).2.1
    have hV : growR l = ⟨(outTo (growB l) l.length).toArray⟩ := if_pos h
    rw [hV, h]
    show (outTo (growB l) l.length).contains c = _
    have hm := mem_outTo (growB l) (letN t) h4 l.length hl4
    rw [Bool.eq_iff_iff, List.contains_iff_mem, hcl, hm]
    simp
  · have hV : growR l = ⟨#[]⟩ := if_neg h
    rw [hV]
    have h' : substB l = false := by simpa using h
    rw [h']
    simp

set_option maxRecDepth 100000 in
theorem implIsGrowing (l : List ByteArray) (v : Value) (t : ByteArray) (w : World) (h : Lst w v (strs l)) (hz : ∀ x ∈ l, x.size ≤ 1048576) (hn : l.length ≤ 1048576) (ht : t.size ≤ 1048576) :
    Calls Try.prog 65 #[.agg #[v], .string t] w fun e w' => e = .returned (.bool (growOk l t)) ∧ Below w.heap.size w w' := by
  obtain ⟨A, cp, rfl⟩ := lst_slice h
  rw [strs_length] at h ⊢
  have hb0 : Below w.heap.size w (w.alloc (.cells #[.slice A l.length cp] 25)) := (Below.refl _ _).alloc (Nat.le_refl _) _
  have HL := Lib.hid (h.below hb0)
  have HZ := Lib.hid hz
  have HB0 := Lib.hid hb0
  clear h hz hb0
  by_cases h2 : (decide (t.size = 1) && wordB t) = true
  · have H2 := Lib.hid h2
    have h2' := h2
    rw [Bool.and_eq_true, decide_eq_true_eq] at h2'
    obtain ⟨c, hc, h3, h4⟩ := letter_list h2'.1 h2'.2
    have HG := Lib.hid (grow_has (l := l) h2 h3 h4)
    have htc : t = ⟨#[c]⟩ := bytes_ext (by rw [ByteArray.toList_eq, ByteArray.toList_eq]; exact hc)
    have HC : Hid (∀ s w, Calls Try.prog 92 #[.string s, .string t] w fun e w' => e = .returned (.bool (decide (0 ≤ Lib.indexByte s.data.toList c))) ∧ w' = w) := by
      intro s w
      rw [htc]
      exact Try.strings_Contains_one s c w
    clear h2 h2' hc h3 h4 htc
    go_enter Try.func65, Try.ntmps65
    go_wp2_with fail
    refine (implIsLetterWord t _ ht).mono ?_
    rintro e w1 ⟨rfl, hb1⟩
    rw [H2.out]
    have HB1 : Hid (Below w.heap.size w w1) := HB0.out.trans (hb1.mono (by simp))
    have c1 : w1.cell? ⟨w.heap.size, 0, none⟩ = some (.slice A l.length cp) := (hb1.cell (p := ⟨w.heap.size, 0, none⟩) (by simp)).trans (by go_simp)
    have HL1 := Lib.hid (HL.out.below hb1)
    clear hb1
    go_wp2_with fail
    refine (implGrowingLetters l _ _ HL1.out HZ.out hn).mono ?_
    rintro e w2 ⟨rfl, hb2⟩
    have HB2 : Hid (Below w.heap.size w w2) := HB1.out.trans (hb2.mono HB1.out.size)
    clear hb2
    go_wp2_with fail
    refine (HC.out _ _).mono ?_
    rintro e w3 ⟨rfl, rfl⟩
    rw [HG.out]
    go_wp2_with fail
    go_ret
    exact ⟨rfl, HB2.out⟩
  · have h2' : (decide (t.size = 1) && wordB t) = false := by simpa only [Bool.not_eq_true] using h2
    have H2 := Lib.hid h2'
    clear h2 h2'
    go_enter Try.func65, Try.ntmps65
    go_wp2_with fail
    refine (implIsLetterWord t _ ht).mono ?_
    rintro e w1 ⟨rfl, hb1⟩
    rw [H2.out]
    have HB1 : Hid (Below w.heap.size w w1) := HB0.out.trans (hb1.mono (by simp))
    clear hb1
    go_wp2_with fail
    go_ret
    refine ⟨ret_bool ?_, HB1.out⟩
    unfold growOk letOk
    rw [H2.out]
    rfl
end Go.Proofs.Ytfcbfflkajlhnaa

/- The letters that stand beside a factor in a set. Condition: a length. -/
namespace Go.Proofs.Ytfcbfflkajlhnaa
open Go.RowKit

/-- the k-th letter stands beside f -/
noncomputable def besB (L : List FK) (f : ByteArray) (k : Nat) : Bool := @decide ((f, ((97 : Int) + (k : Int))) ∈ L) (Classical.propDecidable _)
theorem besB_iff (L : List FK) (f : ByteArray) (k : Nat) : besB L f k = true ↔ (f, ((97 : Int) + (k : Int))) ∈ L := by unfold besB; simp

set_option maxRecDepth 100000 in
set_option maxHeartbeats 400000 in
theorem implBeside (L : List FK) (b : Nat) (f : ByteArray) (w : World) (h : FSet w b L) (hf : f.size ≤ 1048576) :
    Calls Try.prog 91 #[.map (some b), .string f] w fun e w' => e = .returned (.string (outS (besB L f) 4)) ∧ Below w.heap.size w w' := by
  obtain ⟨i0, hi0, hz0, hz1, hz2⟩ := info_parts u8_info
  have hbf := build_fb
  have HF := Lib.hid h
  have HBI := Lib.hid (besB_iff L f)
  have HAB := Lib.hid (fun i h => outTo_snoc (s := besB L f) (i := i) h)
  have HAS := Lib.hid (fun i h => outTo_same (s := besB L f) (i := i) h)
  clear h
  go_enter Try.func91, Try.ntmps91
  go_wp2_with fail
  go_loopw [5, 7] (fun o ix w' => ∃ (i n : Nat), i ≤ 4 ∧ ix = .int .u8 (i : Int) ∧ n = (outTo (besB L f) i).length ∧ w'.ownsRow w.heap.size 5 1 o n (byteCells (outTo (besB L f) i)) ∧ Below w.heap.size w w') (fun _ ix _ => 4 - (intOf ix).toNat)
  case atStart => exact ⟨0, 0, by omega, rfl, rfl, World.ownsRow_nil _ _ _ _, Below.refl _ _⟩
  case round =>
    obtain ⟨i, n, hi, rfl, hnl, ho, hb⟩ := hrel
    have HN := Lib.hid hnl
    have hsz := hb.size
    have hn4 : n ≤ 4 := by have := outTo_le (besB L f) i; omega
    have HFB := Lib.hid (HF.out.below hb)
    have HO := Lib.hid ho
    have HB := Lib.hid hb
    clear hnl ho hb
    by_cases hlt : i < 4
    · have hq : IntKind.u8.wrap (97 + (i : Int)) = 97 + (i : Int) := IntWalk.u8_in _ (by omega)
      cases hc : besB L f i
      · have HV := Lib.hid hc
        have HCC : Hid (false = true ↔ (f, (97 : Int) + (i : Int)) ∈ L) := by show _ ↔ _; rw [← HBI.out i, hc]
        clear hc
        go_wp2_with (at_lookup; refine wp_lookB _ rfl _ _ tSet rfl fT fk_law uSet Try.underlying4 (zeroB _) b L rfl HFB.out (f, 97 + (i : Int)) rfl ⟨by show f.size ≤ maxLen; unfold maxLen; omega, by show (0 : Int) ≤ 97 + (i : Int); omega, by show 97 + (i : Int) ≤ 255; omega⟩ false HCC.out ?_)
        go_roundw
        case rel => exact ⟨i + 1, n, by omega, by go_num, by rw [HAS.out i HV.out]; exact HN.out, by rw [HAS.out i HV.out]; exact HO.out, HB.out⟩
        case measure => simp [intOf]; omega
      · have HV := Lib.hid hc
        have HCC : Hid (true = true ↔ (f, (97 : Int) + (i : Int)) ∈ L) := by show _ ↔ _; rw [← HBI.out i, hc]
        clear hc
        have HLN : Hid ((97 + (i : Int)) = ((letterN i).toNat : Int)) := by show _ = _; rw [letterN_toNat i (by omega)]; omega
        go_wp2_with (first
          | (at_lookup; refine wp_lookB _ rfl _ _ tSet rfl fT fk_law uSet Try.underlying4 (zeroB _) b L rfl HFB.out (f, 97 + (i : Int)) rfl ⟨by show f.size ≤ maxLen; unfold maxLen; omega, by show (0 : Int) ≤ 97 + (i : Int); omega, by show 97 + (i : Int) ≤ 255; omega⟩ true HCC.out ?_)
          | (at_builtin
             refine wpList_append1 _ rfl (.tmp 16) (.tmp 19) _ rfl w.heap.size 5 i0 _ 1 Try.underlying22 hi0 hz0 hz1 hz2 rfl _ n _ rfl HO.out (.int .u8 (97 + (i : Int))) rfl rfl (by unfold maxLen; omega) (by omega) hsz ?_
             intro v' w2 hown2 hbel2))
        go_roundw
        case rel =>
          refine ⟨i + 1, n + 1, by omega, by go_num, ?_, ?_, HB.out.trans hbel2⟩
          · rw [HAB.out i HV.out, List.length_append, ← HN.out]; rfl
          · rw [HAB.out i HV.out, byteCells_snoc, ← HLN.out]; exact hown2
        case measure => simp [intOf]; omega
    · have hii : i = 4 := by omega
      have hconv := conv_own_to Try.underlying9 HO.out
      have HE : Hid (outTo (besB L f) i = outTo (besB L f) 4) := by show _ = _; rw [hii]
      clear hii
      go_wp2_with fail
      go_ret
      refine ⟨ret_str ?_, HB.out⟩
      rw [HE.out]
      rfl
end Go.Proofs.Ytfcbfflkajlhnaa
