/- Texts put together. -/
import Derived.Test.YtbbcdeknnfghkaaMgI13
import Derived.Test.YtbbcdeknnfghkaaMgI15
import Derived.Test.YtbbcdeknnfghkaaMgI11
import Derived.Test.YtbbcdeknnfghkaaMgI20
import Derived.Test.YtbbcdeknnfghkaaMgI18
import Derived.Lib.IndexAny
import Derived.Test.YtbbcdeknnfghkaaMgI17
import Derived.Test.YtbbcdeknnfghkaaMgI14
import Derived.Test.YtbbcdeknnfghkaaMgI6
/- GrowingLetters and isGrowing of the program. Conditions: lengths of at most 2^20. -/
namespace Go.Proofs.Ytbbcdeknnfghkaa
open Go.RowKit

theorem outTo_snoc {s : Nat → Bool} {i : Nat} (h : s i = true) : outTo s (i + 1) = outTo s i ++ [letterN i] := by
  show outTo s i ++ (if s i = true then [letterN i] else []) = _
  rw [if_pos h]
theorem outTo_same {s : Nat → Bool} {i : Nat} (h : s i = false) : outTo s (i + 1) = outTo s i := by
  show outTo s i ++ (if s i = true then [letterN i] else []) = _
  rw [h]
  exact List.append_nil _
theorem outTo_le (s : Nat → Bool) : ∀ n, (outTo s n).length ≤ n
  | 0 => Nat.le_refl _
  | n + 1 => by
    have := outTo_le s n
    by_cases h : s n = true
    · rw [outTo_snoc h, List.length_append]; simp; exact this
    · rw [outTo_same (by simpa using h)]; omega

set_option maxRecDepth 100000 in
set_option maxHeartbeats 1000000 in
theorem implGrowingLetters (l : List ByteArray) (v : Value) (w : World) (h : Lst w v (strs l)) (hz : ∀ x ∈ l, x.size ≤ 1048576) (hn : l.length ≤ 1048576) :
    Calls Try.prog 29 #[.agg #[v]] w fun e w' => e = .returned (.string (growR l)) ∧ Below w.heap.size w w' := by
  obtain ⟨i0, hi0, hz0, hz1, hz2⟩ := info_parts u8_info
  obtain ⟨A, cp, rfl⟩ := lst_slice h
  rw [strs_length] at h ⊢
  have hb0 : Below w.heap.size w (w.alloc (.cells #[.slice A l.length cp] 24)) := (Below.refl _ _).alloc (Nat.le_refl _) _
  have HL := Lib.hid (h.below hb0)
  have HZ := Lib.hid hz
  have HB0 := Lib.hid hb0
  clear h hz hb0
  by_cases h1 : substB l = true
  · have HV : Hid (growR l = ⟨(outTo (growB l) l.length).toArray⟩) := if_pos h1
    have HSB := Lib.hid h1
    obtain ⟨hl1, hl4, _⟩ := subst_parts h1
    go_enter Try.func29, Try.ntmps29
    go_wp2_with fail
    refine (implSubstOkL l _ _ HL.out HZ.out (by omega)).mono ?_
    rintro e w1 ⟨rfl, hb1⟩
    rw [h1]
    have hbw1 : Below w.heap.size w w1 := HB0.out.trans (hb1.mono (by simp))
    have c1 : w1.cell? ⟨w.heap.size, 0, none⟩ = some (.slice A l.length cp) := (hb1.cell (p := ⟨w.heap.size, 0, none⟩) (by simp)).trans (by go_simp)
    obtain ⟨b, off, cp', he, hat⟩ := lst_at (HL.out.below hb1) (by omega)
    injection he with hA _ hc
    subst hA; subst hc
    have HAT := Lib.hid hat
    have HBW1 := Lib.hid hbw1
    have hsz1 : w.heap.size < w1.heap.size := by have := hb1.size; simp at this; omega
    clear hb1 hat hbw1 h1
    go_wp2_with fail
    go_loopw [3, 12] (fun o ix w' => ∃ i n, i ≤ l.length ∧ ix = .int .i64 (i : Int) ∧ n = (outTo (growB l) i).length ∧ w'.ownsRow w1.heap.size 5 1 o n (byteCells (outTo (growB l) i)) ∧ Below w1.heap.size w1 w') (fun _ ix _ => l.length - (intOf ix).toNat)
    case atStart => exact ⟨0, 0, by omega, rfl, rfl, World.ownsRow_nil _ _ _ _, Below.refl _ _⟩
    case round =>
      obtain ⟨i, n, hi, rfl, hnl, ho, hb⟩ := hrel
      have HN := Lib.hid hnl
      have hsz := hb.size
      have hn4 : n ≤ 4 := by have := outTo_le (growB l) i; omega
      clear hnl
      by_cases hlt : i < l.length
      · obtain ⟨h0, f1, f2⟩ := first_at HSB.out hlt
        have HG := Lib.hid (growB_at hlt)
        have g1 : wr.cell? ⟨b, off + i, none⟩ = some (.string l[i]) := (hb.cell (p := ⟨b, off + i, none⟩) (World.block_lt_of_cell? w1 _ (HAT.out i hlt))).trans (HAT.out i hlt)
        have c3 : wr.cell? ⟨w.heap.size, 0, none⟩ = some (.slice (some ⟨b, off, none⟩) l.length cp) := (hb.cell (p := ⟨w.heap.size, 0, none⟩) hsz1).trans c1
        have HLI := Lib.hid (fun w => letterAt (l[i][0].toNat : Int) (firstN l i : Int) w (by omega) (by omega) (by omega))
        have HF := Lib.hid f1
        have HO := Lib.hid ho
        have HB := Lib.hid hb
        have HAB := Lib.hid (fun h => outTo_snoc (s := growB l) (i := i) h)
        have HAS := Lib.hid (fun h => outTo_same (s := growB l) (i := i) h)
        clear f1 ho hb
        by_cases h2 : 1 < l[i].size
        · have dG : decide (1 < l[i].size) = true := by simpa using h2
          by_cases h3 : firstN l i = i
          · have HGT : Hid (growB l i = true) := by show _ = _; rw [HG.out, dG, decide_eq_true h3]; rfl
            have d3 : ((firstN l i : Int) == (i : Int)) = true := by simp; omega
            have HLE : Hid (letterN i = l[i][0]) := by
              show _ = _
              apply UInt8.toNat.inj
              rw [letterN_toNat i (by omega), HF.out, h3]
            clear h3
            go_wp2_with (first
              | (go_at_call 72; refine (HLI.out _).mono ?_; rintro e w' ⟨rfl, rfl⟩)
              | (at_builtin
                 refine wpList_append1 _ rfl (.tmp 27) (.tmp 30) _ rfl w1.heap.size 5 i0 _ 1 Try.underlying59 hi0 hz0 hz1 hz2 rfl _ n _ rfl HO.out (.int .u8 (l[i][0].toNat : Int)) rfl rfl (by unfold maxLen; omega) (by omega) hsz ?_
                 intro v' w2 hown2 hbel2))
            go_roundw
            case rel =>
              refine ⟨i + 1, n + 1, by omega, by go_num, ?_, ?_, HB.out.trans hbel2⟩
              · rw [HAB.out HGT.out, List.length_append, ← HN.out]; rfl
              · rw [HAB.out HGT.out, byteCells_snoc, HLE.out]; exact hown2
            case measure => simp [intOf]; omega
          · have HGF : Hid (growB l i = false) := by show _ = _; rw [HG.out, dG, decide_eq_false h3]; rfl
            have d3 : ((firstN l i : Int) == (i : Int)) = false := by simp; omega
            clear h3
            go_wp2_with (go_at_call 72; refine (HLI.out _).mono ?_; rintro e w' ⟨rfl, rfl⟩)
            go_roundw
            case rel => exact ⟨i + 1, n, by omega, by go_num, by rw [HAS.out HGF.out]; exact HN.out, by rw [HAS.out HGF.out]; exact HO.out, HB.out⟩
            case measure => simp [intOf]; omega
        · have dG : decide (1 < l[i].size) = false := by simpa using h2
          have HGF : Hid (growB l i = false) := by show _ = _; rw [HG.out, dG]; rfl
          go_wp2_with fail
          go_roundw
          case rel => exact ⟨i + 1, n, by omega, by go_num, by rw [HAS.out HGF.out]; exact HN.out, by rw [HAS.out HGF.out]; exact HO.out, HB.out⟩
          case measure => simp [intOf]; omega
      · have hii : i = l.length := by omega
        have hconv := conv_own_to Try.underlying9 ho
        have HE : Hid (outTo (growB l) i = outTo (growB l) l.length) := by show _ = _; rw [hii]
        have HB := Lib.hid hb
        clear hii ho hb
        go_wp2_with fail
        go_ret
        refine ⟨ret_str ?_, HBW1.out.trans (HB.out.mono HBW1.out.size)⟩
        rw [HV.out, HE.out]
  · have h1' : substB l = false := by simpa using h1
    have HV : Hid (growR l = ⟨#[]⟩) := if_neg h1
    clear h1
    go_enter Try.func29, Try.ntmps29
    go_wp2_with fail
    refine (implSubstOkL l _ _ HL.out HZ.out (by omega)).mono ?_
    rintro e w1 ⟨rfl, hb1⟩
    rw [h1']
    have HB1 : Hid (Below w.heap.size w w1) := HB0.out.trans (hb1.mono (by simp))
    clear hb1
    go_wp2_with fail
    go_ret
    exact ⟨ret_str HV.out.symm, HB1.out⟩
theorem mem_outTo (s : Nat → Bool) (k : Nat) (hk : k ≤ 3) : ∀ n, n ≤ 4 → (letterN k ∈ outTo s n ↔ k < n ∧ s k = true)
  | 0, _ => by constructor
               · intro h; cases h
               · rintro ⟨h, _⟩; omega
  | n + 1, hn => by
    have ih := mem_outTo s k hk n (by omega)
    have hne : letterN k = letterN n ↔ k = n := by
      constructor
      · intro h
        have := congrArg UInt8.toNat h
        rw [letterN_toNat k (by omega), letterN_toNat n (by omega)] at this
        omega
      · rintro rfl; rfl
    by_cases h : s n = true
    · rw [outTo_snoc h, List.mem_append, ih, List.mem_singleton, hne]
      constructor
      · rintro (⟨a, b⟩ | rfl)
        · exact ⟨by omega, b⟩
        · exact ⟨by omega, h⟩
      · rintro ⟨a, b⟩
        by_cases e : k = n
        · exact .inr e
        · exact .inl ⟨by omega, b⟩
    · rw [outTo_same (by simpa using h), ih]
      constructor
      · rintro ⟨a, b⟩; exact ⟨by omega, b⟩
      · rintro ⟨a, b⟩
        refine ⟨?_, b⟩
        rcases Nat.lt_or_ge k n with e | e
        · exact e
        · have : k = n := by omega
          subst this
          exact absurd b h
theorem grow_has {l : List ByteArray} {t : ByteArray} {c : UInt8} (hw : (decide (t.size = 1) && wordB t) = true) (h3 : c.toNat = 97 + letN t) (h4 : letN t ≤ 3) : decide (0 ≤ Lib.indexByte (growR l).data.toList c) = growOk l t := by
  rw [← Lib.contains_iff_indexByte]
  have hcl : c = letterN (letN t) := by
    apply UInt8.toNat.inj
    rw [letterN_toNat _ (by omega), h3]
  unfold growOk letOk
  rw [hw]
  by_cases h : substB l = true
  · have hl4 := (subst_parts h).2.1
    have hV : growR l = ⟨(outTo (growB l) l.length).toArray⟩ := if_pos h
    rw [hV, h]
    show (outTo (growB l) l.length).contains c = _
    have hm := mem_outTo (growB l) (letN t) h4 l.length hl4
    rw [Bool.eq_iff_iff, List.contains_iff_mem, hcl, hm]
    simp
  · have hV : growR l = ⟨#[]⟩ := if_neg h
    rw [hV]
    have h' : substB l = false := by simpa using h
    rw [h']
    simp

set_option maxRecDepth 100000 in
theorem implIsGrowing (l : List ByteArray) (v : Value) (t : ByteArray) (w : World) (h : Lst w v (strs l)) (hz : ∀ x ∈ l, x.size ≤ 1048576) (hn : l.length ≤ 1048576) (ht : t.size ≤ 1048576) :
    Calls Try.prog 51 #[.agg #[v], .string t] w fun e w' => e = .returned (.bool (growOk l t)) ∧ Below w.heap.size w w' := by
  obtain ⟨A, cp, rfl⟩ := lst_slice h
  rw [strs_length] at h ⊢
  have hb0 : Below w.heap.size w (w.alloc (.cells #[.slice A l.length cp] 24)) := (Below.refl _ _).alloc (Nat.le_refl _) _
  have HL := Lib.hid (h.below hb0)
  have HZ := Lib.hid hz
  have HB0 := Lib.hid hb0
  clear h hz hb0
  by_cases h2 : (decide (t.size = 1) && wordB t) = true
  · have H2 := Lib.hid h2
    have h2' := h2
    rw [Bool.and_eq_true, decide_eq_true_eq] at h2'
    obtain ⟨c, hc, h3, h4⟩ := letter_list h2'.1 h2'.2
    have HG := Lib.hid (grow_has (l := l) h2 h3 h4)
    have htc : t = ⟨#[c]⟩ := bytes_ext (by rw [ByteArray.toList_eq, ByteArray.toList_eq]; exact hc)
    have HC : Hid (∀ s w, Calls Try.prog 83 #[.string s, .string t] w fun e w' => e = .returned (.bool (decide (0 ≤ Lib.indexByte s.data.toList c))) ∧ w' = w) := by
      intro s w
      rw [htc]
      exact Try.strings_Contains_one s c w
    clear h2 h2' hc h3 h4 htc
    go_enter Try.func51, Try.ntmps51
    go_wp2_with fail
    refine (implIsLetterWord t _ ht).mono ?_
    rintro e w1 ⟨rfl, hb1⟩
    rw [H2.out]
    have HB1 : Hid (Below w.heap.size w w1) := HB0.out.trans (hb1.mono (by simp))
    have c1 : w1.cell? ⟨w.heap.size, 0, none⟩ = some (.slice A l.length cp) := (hb1.cell (p := ⟨w.heap.size, 0, none⟩) (by simp)).trans (by go_simp)
    have HL1 := Lib.hid (HL.out.below hb1)
    clear hb1
    go_wp2_with fail
    refine (implGrowingLetters l _ _ HL1.out HZ.out hn).mono ?_
    rintro e w2 ⟨rfl, hb2⟩
    have HB2 : Hid (Below w.heap.size w w2) := HB1.out.trans (hb2.mono HB1.out.size)
    clear hb2
    go_wp2_with fail
    refine (HC.out _ _).mono ?_
    rintro e w3 ⟨rfl, rfl⟩
    rw [HG.out]
    go_wp2_with fail
    go_ret
    exact ⟨rfl, HB2.out⟩
  · have h2' : (decide (t.size = 1) && wordB t) = false := by simpa only [Bool.not_eq_true] using h2
    have H2 := Lib.hid h2'
    clear h2 h2'
    go_enter Try.func51, Try.ntmps51
    go_wp2_with fail
    refine (implIsLetterWord t _ ht).mono ?_
    rintro e w1 ⟨rfl, hb1⟩
    rw [H2.out]
    have HB1 : Hid (Below w.heap.size w w1) := HB0.out.trans (hb1.mono (by simp))
    clear hb1
    go_wp2_with fail
    go_ret
    refine ⟨ret_bool ?_, HB1.out⟩
    unfold growOk letOk
    rw [H2.out]
    rfl
end Go.Proofs.Ytbbcdeknnfghkaa

/- FixedPoint, IsFixedStart and LetterAt of the program. Conditions: lengths of at most 2^20. -/
namespace Go.Proofs.Ytbbcdeknnfghkaa
open Go.RowKit

set_option maxRecDepth 100000 in
set_option maxHeartbeats 1000000 in
theorem implFixedPoint (l : List ByteArray) (v : Value) (t : ByteArray) (n : Int) (w : World) (h : Lst w v (strs l)) (hz : ∀ x ∈ l, x.size ≤ 1048576) (hn : l.length ≤ 1048576) (ht : t.size ≤ 1048576) :
    Calls Try.prog 14 #[.agg #[v], .string t, .int .i64 n] w (PairSaid (fixR l t n) (fixOk l t n) w) := by
  obtain ⟨A, cp, rfl⟩ := lst_slice h
  rw [strs_length] at h ⊢
  have hb0 : Below w.heap.size w (w.alloc (.cells #[.slice A l.length cp] 24)) := (Below.refl _ _).alloc (Nat.le_refl _) _
  have HL := Lib.hid (h.below hb0)
  have HZ := Lib.hid hz
  have HB0 := Lib.hid hb0
  clear h hz hb0
  by_cases h0 : growOk l t = true
  · have H0 := Lib.hid h0
    by_cases hin : 0 ≤ n ∧ n ≤ 400
    · obtain ⟨m, rfl⟩ : ∃ m : Nat, n = m := ⟨n.toNat, by omega⟩
      have hm : m ≤ 400 := by omega
      have d1 : decide ((0 : Int) ≤ (m : Int)) = true := by simp
      have d2 : decide ((m : Int) ≤ (400 : Int)) = true := by simp; omega
      have HOK : Hid (fixOk l t m = true) := by show fixOk l t m = true; unfold fixOk; rw [h0, d1, d2]; rfl
      have HV : Hid (fixR l t m = ⟨(fixL l (letN t) m).toArray⟩) := if_pos HOK.out
      have e1 : decide ((m : Int) < 0) = false := by simp
      have e2 : decide ((400 : Int) < (m : Int)) = false := by simp; omega
      have e3 : ¬ (400 < m) := by omega
      have e4 : decide (400 < m) = false := by simp; omega
      clear h0 hin d1 d2
      go_enter Try.func14, Try.ntmps14
      go_wp2_with fail
      refine (implIsGrowing l _ t _ HL.out HZ.out hn ht).mono ?_
      rintro e w1 ⟨rfl, hb1⟩
      rw [H0.out]
      have HB1 : Hid (Below w.heap.size w w1) := HB0.out.trans (hb1.mono (by simp))
      have c1 : w1.cell? ⟨w.heap.size, 0, none⟩ = some (.slice A l.length cp) := (hb1.cell (p := ⟨w.heap.size, 0, none⟩) (by simp)).trans (by go_simp)
      have HL1 := Lib.hid (HL.out.below hb1)
      clear hb1
      go_wp2_with fail
      refine (implFixedStart l _ t m _ HL1.out H0.out (by omega)).mono ?_
      rintro e w2 ⟨v', rfl, ho2, hb2⟩
      obtain ⟨A2, cp2, rfl⟩ := own_slice ho2
      have hconv := conv_own_to Try.underlying9 ho2
      have HB2 : Hid (Below w.heap.size w w2) := HB1.out.trans (hb2.mono HB1.out.size)
      clear hb2 c1 ho2
      go_wp2_with fail
      go_ret2
      refine ⟨?_, HB2.out⟩
      rw [HOK.out, HV.out]
      rfl
    · have d1 : (decide ((0 : Int) ≤ n) && decide (n ≤ (400 : Int))) = false := by simp; omega
      have HNO : Hid (fixOk l t n = false) := by show fixOk l t n = false; unfold fixOk; rw [d1, Bool.and_false]
      clear h0 d1
      by_cases hneg : n < 0
      · have e1 : decide (n < 0) = true := by simpa using hneg
        clear hin
        go_enter Try.func14, Try.ntmps14
        go_wp2_with fail
        refine (implIsGrowing l _ t _ HL.out HZ.out hn ht).mono ?_
        rintro e w1 ⟨rfl, hb1⟩
        rw [H0.out]
        have HB1 : Hid (Below w.heap.size w w1) := HB0.out.trans (hb1.mono (by simp))
        clear hb1
        go_wp2_with fail
        go_ret2
        exact fixR_no HNO.out HB1.out
      · have hbig : 400 < n := by omega
        have e1 : decide (n < 0) = false := by simpa using hneg
        have e2 : decide (400 < n) = true := by simpa using hbig
        clear hin
        go_enter Try.func14, Try.ntmps14
        go_wp2_with fail
        refine (implIsGrowing l _ t _ HL.out HZ.out hn ht).mono ?_
        rintro e w1 ⟨rfl, hb1⟩
        rw [H0.out]
        have HB1 : Hid (Below w.heap.size w w1) := HB0.out.trans (hb1.mono (by simp))
        clear hb1
        go_wp2_with fail
        go_ret2
        exact fixR_no HNO.out HB1.out
  · have h0' : growOk l t = false := by simpa using h0
    have HNO : Hid (fixOk l t n = false) := by show fixOk l t n = false; unfold fixOk; rw [h0']; rfl
    clear h0
    go_enter Try.func14, Try.ntmps14
    go_wp2_with fail
    refine (implIsGrowing l _ t _ HL.out HZ.out hn ht).mono ?_
    rintro e w1 ⟨rfl, hb1⟩
    rw [h0']
    have HB1 : Hid (Below w.heap.size w w1) := HB0.out.trans (hb1.mono (by simp))
    clear hb1
    go_wp2_with fail
    go_ret2
    exact fixR_no HNO.out HB1.out
set_option maxHeartbeats 1000000 in
theorem implIsFixedStart (l : List ByteArray) (v : Value) (s : ByteArray) (w : World) (h : Lst w v (strs l)) (hz : ∀ x ∈ l, x.size ≤ 1048576) (hn : l.length ≤ 1048576) (hs : s.size ≤ 1048576) :
    Calls Try.prog 16 #[.agg #[v], .string s] w fun e w' => e = .returned (.bool (fixStart l s)) ∧ Below w.heap.size w w' := by
  obtain ⟨A, cp, rfl⟩ := lst_slice h
  rw [strs_length] at h ⊢
  have hb0 : Below w.heap.size w (w.alloc (.cells #[.slice A l.length cp] 24)) := (Below.refl _ _).alloc (Nat.le_refl _) _
  have HL := Lib.hid (h.below hb0)
  have HZ := Lib.hid hz
  have HB0 := Lib.hid hb0
  clear h hz hb0
  by_cases h0 : s.size = 0
  · have HV : Hid (fixStart l s = true) := by show fixStart l s = true; unfold fixStart; rw [decide_eq_true h0]; rfl
    have es : s = ⟨#[]⟩ := bytes_ext (by rw [ByteArray.toList_eq, ByteArray.toList_eq]; exact List.eq_nil_of_length_eq_zero (by simpa using h0))
    subst es
    go_enter Try.func16, Try.ntmps16
    go_wp2_with fail
    go_ret
    exact ⟨ret_bool HV.out.symm, HB0.out⟩
  · have h1 : 1 ≤ s.size := by omega
    have HV := Lib.hid (fixStart_eq (l := l) (s := s) h1)
    have b0 : (s.toList == (⟨#[]⟩ : ByteArray).toList) = false := by
      rw [beq_eq_false_iff_ne]
      intro e
      apply h0
      have h6 := congrArg List.length e
      rw [ByteArray.toList_eq, ByteArray.toList_eq, Array.length_toList, Array.length_toList] at h6
      exact h6
    have b0' : (s.toList == []) = false := by
      rw [show (⟨#[]⟩ : ByteArray).toList = [] from by rw [ByteArray.toList_eq]] at b0
      exact b0
    have hsl : ∀ w : World, (Instr.slice 9 (.string s) none (some (.int .i64 (1 : Int))) none).run Try.prog w = .ok (.string (oneOf s)) w := fun w => by
      rw [run_slice_string_to_if (P := Try.prog) w 9 s .i64 1 Try.underlying9, if_pos ⟨by omega, by omega⟩]
      rfl
    have ho1 : (oneOf s).size ≤ 1048576 := by unfold oneOf; rw [ByteArray.size_extract]; omega
    go_enter Try.func16, Try.ntmps16
    go_wp2_with fail
    go_region_with (go_at_call 14
                    refine (implFixedPoint l _ (oneOf s) s.size _ (HL.out.drewN 1) HZ.out hn ho1).mono ?_
                    rintro e w1 ⟨rfl, hb1⟩
                    have HB1 : Hid (Below w.heap.size w w1) := (below_drewN HB0.out 1).trans (hb1.mono (by simp))
                    clear hb1)
    cases hok : fixOk l (oneOf s) s.size
    · have HF : Hid (fixStart l s = false) := by show fixStart l s = false; rw [HV.out, hok]; rfl
      clear hok
      go_wp2_with fail
      go_ret
      exact ⟨ret_bool HF.out.symm, HB1.out⟩
    · have HF : Hid (fixStart l s = ((fixR l (oneOf s) s.size).toList == s.toList)) := by
        show fixStart l s = _
        rw [HV.out, hok, Bool.true_and]
        rw [Bool.eq_iff_iff]
        simp
      clear hok
      go_wp2_with fail
      go_ret
      exact ⟨ret_bool HF.out.symm, HB1.out⟩
theorem sizeOf_u8 (w : World) : (sizeOf (Try.prog.elem 59)).run Try.prog w = .ok 1 w := by
  rw [show Try.prog.elem 59 = 5 by simp [Program.elem, Try.underlying59]]
  exact Try.sizeOf5 w
/-- one byte of a row turned into a text -/
theorem conv_one (w : World) (g o c : Nat) (b : UInt8) (hc : w.cell? ⟨g, o, none⟩ = some (.int .u8 (b.toNat : Int))) :
    (convert 59 9 (.slice (some ⟨g, o, none⟩) 1 c)).run Try.prog w = .ok (.string ⟨#[b]⟩) w := by
  rw [run_convert_bytes_string _ 59 9 5 _ _ _ Try.underlying59 Try.underlying5 Try.underlying9, run_bytesToString _ _ _ _ [(b.toNat : Int)] ?_]
  · simp only [List.foldl_cons, List.foldl_nil, Int.toNat_natCast, UInt8.ofNat_toNat]
    rfl
  · simp [loadCells, go_sem, hc]
theorem latR_no {l : List ByteArray} {t : ByteArray} {n : Int} (h : latOk l t n = false) {w w' : World} (hb : Below w.heap.size w w') : PairSaid (latR l t n) (latOk l t n) w (.returned (.tuple #[.string ⟨#[]⟩, .bool false])) w' := by
  refine ⟨?_, hb⟩
  have e : latR l t n = ⟨#[]⟩ := if_neg (by rw [h]; decide)
  rw [h, e]

set_option maxRecDepth 100000 in
set_option maxHeartbeats 1000000 in
theorem implLetterAt (l : List ByteArray) (v : Value) (t : ByteArray) (n : Int) (w : World) (h : Lst w v (strs l)) (hz : ∀ x ∈ l, x.size ≤ 1048576) (hn : l.length ≤ 1048576) (ht : t.size ≤ 1048576) :
    Calls Try.prog 18 #[.agg #[v], .string t, .int .i64 n] w (PairSaid (latR l t n) (latOk l t n) w) := by
  obtain ⟨A, cp, rfl⟩ := lst_slice h
  rw [strs_length] at h ⊢
  have hb0 : Below w.heap.size w (w.alloc (.cells #[.slice A l.length cp] 24)) := (Below.refl _ _).alloc (Nat.le_refl _) _
  have HL := Lib.hid (h.below hb0)
  have HZ := Lib.hid hz
  have HB0 := Lib.hid hb0
  clear h hz hb0
  by_cases h0 : growOk l t = true
  · have H0 := Lib.hid h0
    by_cases hin : 0 ≤ n ∧ n ≤ 10000
    · obtain ⟨m, rfl⟩ : ∃ m : Nat, n = m := ⟨n.toNat, by omega⟩
      have hm : m ≤ 10000 := by omega
      obtain ⟨hN, h1, hg⟩ := grow_parts h0
      have d1 : decide ((0 : Int) ≤ (m : Int)) = true := by simp
      have d2 : decide ((m : Int) ≤ (10000 : Int)) = true := by simp; omega
      have HOK : Hid (latOk l t m = true) := by show latOk l t m = true; unfold latOk; rw [h0, d1, d2]; rfl
      have HV : Hid (latR l t m = ⟨#[fixB l (letN t) m]⟩) := if_pos HOK.out
      have HLEN := Lib.hid (fixL_length h1 hN hg (m + 1))
      have e1 : decide ((m : Int) < 0) = false := by simp
      have e2 : decide ((10000 : Int) < (m : Int)) = false := by simp; omega
      have e3 : ¬ (10000 < m) := by omega
      have e4 : decide (10000 < m) = false := by simp; omega
      have HFS := Lib.hid (fun w h => implFixedStart l (.slice A l.length cp) t (m + 1) w h h0 (by omega))
      clear h0 hin d1 d2 hg
      go_enter Try.func18, Try.ntmps18
      go_wp2_with fail
      refine (implIsGrowing l _ t _ HL.out HZ.out hn ht).mono ?_
      rintro e w1 ⟨rfl, hb1⟩
      rw [H0.out]
      have HB1 : Hid (Below w.heap.size w w1) := HB0.out.trans (hb1.mono (by simp))
      have c1 : w1.cell? ⟨w.heap.size, 0, none⟩ = some (.slice A l.length cp) := (hb1.cell (p := ⟨w.heap.size, 0, none⟩) (by simp)).trans (by go_simp)
      have HL1 := Lib.hid (HL.out.below hb1)
      clear hb1
      go_wp2_with fail
      refine (HFS.out _ HL1.out).mono ?_
      rintro e w2 ⟨v', rfl, ho2, hb2⟩
      obtain ⟨g, cp2, rfl, hcp2⟩ := own_some ho2 (by omega)
      obtain ⟨X, hsl, hX⟩ := slice_from Try.underlying59 sizeOf_u8 g 0 (m + 1) cp2 m (by omega) hcp2
      obtain rfl := hX (by omega)
      have hlen := HLEN.out
      have hcell := ho2.cells (g := g) rfl m (.int .u8 ((fixB l (letN t) m).toNat : Int)) (by
        unfold fixB byteCells
        rw [List.getElem?_map, List.getD_eq_getElem?_getD, List.getElem?_eq_getElem (by omega)]
        rfl)
      rw [Addr.add_lit] at hcell
      have hconv := conv_one w2 g (0 + m) (cp2 - m) (fixB l (letN t) m) hcell
      rw [show m + 1 - m = 1 by omega] at hsl
      have HB2 : Hid (Below w.heap.size w w2) := HB1.out.trans (hb2.mono HB1.out.size)
      simp only [Nat.zero_add] at hsl hconv
      clear hb2 c1 ho2 hlen hcell
      go_wp2_with fail
      go_ret2
      refine ⟨?_, HB2.out⟩
      rw [HOK.out, HV.out]
      rfl
    · have d1 : (decide ((0 : Int) ≤ n) && decide (n ≤ (10000 : Int))) = false := by simp; omega
      have HNO : Hid (latOk l t n = false) := by show latOk l t n = false; unfold latOk; rw [d1, Bool.and_false]
      clear h0 d1
      by_cases hneg : n < 0
      · have e1 : decide (n < 0) = true := by simpa using hneg
        clear hin
        go_enter Try.func18, Try.ntmps18
        go_wp2_with fail
        refine (implIsGrowing l _ t _ HL.out HZ.out hn ht).mono ?_
        rintro e w1 ⟨rfl, hb1⟩
        rw [H0.out]
        have HB1 : Hid (Below w.heap.size w w1) := HB0.out.trans (hb1.mono (by simp))
        clear hb1
        go_wp2_with fail
        go_ret2
        exact latR_no HNO.out HB1.out
      · have hbig : 10000 < n := by omega
        have e1 : decide (n < 0) = false := by simpa using hneg
        have e2 : decide (10000 < n) = true := by simpa using hbig
        clear hin
        go_enter Try.func18, Try.ntmps18
        go_wp2_with fail
        refine (implIsGrowing l _ t _ HL.out HZ.out hn ht).mono ?_
        rintro e w1 ⟨rfl, hb1⟩
        rw [H0.out]
        have HB1 : Hid (Below w.heap.size w w1) := HB0.out.trans (hb1.mono (by simp))
        clear hb1
        go_wp2_with fail
        go_ret2
        exact latR_no HNO.out HB1.out
  · have h0' : growOk l t = false := by simpa using h0
    have HNO : Hid (latOk l t n = false) := by show latOk l t n = false; unfold latOk; rw [h0']; rfl
    clear h0
    go_enter Try.func18, Try.ntmps18
    go_wp2_with fail
    refine (implIsGrowing l _ t _ HL.out HZ.out hn ht).mono ?_
    rintro e w1 ⟨rfl, hb1⟩
    rw [h0']
    have HB1 : Hid (Below w.heap.size w w1) := HB0.out.trans (hb1.mono (by simp))
    clear hb1
    go_wp2_with fail
    go_ret2
    exact latR_no HNO.out HB1.out
end Go.Proofs.Ytbbcdeknnfghkaa
