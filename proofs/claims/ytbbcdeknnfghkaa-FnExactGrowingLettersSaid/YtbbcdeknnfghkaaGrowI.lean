/- GrowingLetters and isGrowing of the program. Conditions: lengths of at most 2^20. -/
import Derived.Test.YtbbcdeknnfghkaaFixM
import Derived.Test.YtbbcdeknnfghkaaSubI
import Derived.Test.YtbbcdeknnfghkaaBytesOwn
import Derived.Test.YtbbcdeknnfghkaaWordOkI
import Derived.Test.YtbbcdeknnfghkaaSqHas
import Derived.Test.YtbbcdeknnfghkaaShelf
import Derived.Lib.IndexAny
namespace Go.Proofs.Ytbbcdeknnfghkaa
open Go.RowKit

theorem outTo_snoc {s : Nat → Bool} {i : Nat} (h : s i = true) : outTo s (i + 1) = outTo s i ++ [letterN i] := by
  show outTo s i ++ (if s i = true then [letterN i] else []) = _
  rw [if_pos h]
theorem outTo_same {s : Nat → Bool} {i : Nat} (h : s i = false) : outTo s (i + 1) = outTo s i := by
  show outTo s i ++ (if s i = true then [letterN i] else []) = _
  rw [h]
  exact List.append_nil _
theorem outTo_le (s : Nat → Bool) : ∀ n, (outTo s n).length ≤ n
  | 0 => Nat.le_refl _
  | n + 1 => by
    have := outTo_le s n
    by_cases h : s n = true
    · rw [outTo_snoc h, List.length_append]; simp; exact this
    · rw [outTo_same (by simpa using h)]; omega

set_option maxRecDepth 100000 in
set_option maxHeartbeats 1000000 in
theorem implGrowingLetters (l : List ByteArray) (v : Value) (w : World) (h : Lst w v (strs l)) (hz : ∀ x ∈ l, x.size ≤ 1048576) (hn : l.length ≤ 1048576) :
    Calls Try.prog 29 #[.agg #[v]] w fun e w' => e = .returned (.string (growR l)) ∧ Below w.heap.size w w' := by
  obtain ⟨i0, hi0, hz0, hz1, hz2⟩ := info_parts u8_info
  obtain ⟨A, cp, rfl⟩ := lst_slice h
  rw [strs_length] at h ⊢
  have hb0 : Below w.heap.size w (w.alloc (.cells #[.slice A l.length cp] 24)) := (Below.refl _ _).alloc (Nat.le_refl _) _
  have HL := Lib.hid (h.below hb0)
  have HZ := Lib.hid hz
  have HB0 := Lib.hid hb0
  clear h hz hb0
  by_cases h1 : substB l = true
  · have HV : Hid (growR l = ⟨(outTo (growB l) l.length).toArray⟩) := if_pos h1
    have HSB := Lib.hid h1
    obtain ⟨hl1, hl4, _⟩ := subst_parts h1
    go_enter Try.func29, Try.ntmps29
    go_wp2_with fail
    refine (implSubstOkL l _ _ HL.out HZ.out (by omega)).mono ?_
    rintro e w1 ⟨rfl, hb1⟩
    rw [h1]
    have hbw1 : Below w.heap.size w w1 := HB0.out.trans (hb1.mono (by simp))
    have c1 : w1.cell? ⟨w.heap.size, 0, none⟩ = some (.slice A l.length cp) := (hb1.cell (p := ⟨w.heap.size, 0, none⟩) (by simp)).trans (by go_simp)
    obtain ⟨b, off, cp', he, hat⟩ := lst_at (HL.out.below hb1) (by omega)
    injection he with hA _ hc
    subst hA; subst hc
    have HAT := Lib.hid hat
    have HBW1 := Lib.hid hbw1
    have hsz1 : w.heap.size < w1.heap.size := by have := hb1.size; simp at this; omega
    clear hb1 hat hbw1 h1
    go_wp2_with fail
    go_loopw [3, 12] (fun o ix w' => ∃ i n, i ≤ l.length ∧ ix = .int .i64 (i : Int) ∧ n = (outTo (growB l) i).length ∧ w'.ownsRow w1.heap.size 5 1 o n (byteCells (outTo (growB l) i)) ∧ Below w1.heap.size w1 w') (fun _ ix _ => l.length - (intOf ix).toNat)
    case atStart => exact ⟨0, 0, by omega, rfl, rfl, World.ownsRow_nil _ _ _ _, Below.refl _ _⟩
    case round =>
      obtain ⟨i, n, hi, rfl, hnl, ho, hb⟩ := hrel
      have HN := Lib.hid hnl
      have hsz := hb.size
      have hn4 : n ≤ 4 := by have := outTo_le (growB l) i; omega
      clear hnl
      by_cases hlt : i < l.length
      · obtain ⟨h0, f1, f2⟩ := first_at HSB.out hlt
        have HG := Lib.hid (growB_at hlt)
        have g1 : wr.cell? ⟨b, off + i, none⟩ = some (.string l[i]) := (hb.cell (p := ⟨b, off + i, none⟩) (World.block_lt_of_cell? w1 _ (HAT.out i hlt))).trans (HAT.out i hlt)
        have c3 : wr.cell? ⟨w.heap.size, 0, none⟩ = some (.slice (some ⟨b, off, none⟩) l.length cp) := (hb.cell (p := ⟨w.heap.size, 0, none⟩) hsz1).trans c1
        have HLI := Lib.hid (fun w => letterAt (l[i][0].toNat : Int) (firstN l i : Int) w (by omega) (by omega) (by omega))
        have HF := Lib.hid f1
        have HO := Lib.hid ho
        have HB := Lib.hid hb
        have HAB := Lib.hid (fun h => outTo_snoc (s := growB l) (i := i) h)
        have HAS := Lib.hid (fun h => outTo_same (s := growB l) (i := i) h)
        clear f1 ho hb
        by_cases h2 : 1 < l[i].size
        · have dG : decide (1 < l[i].size) = true := by simpa using h2
          by_cases h3 : firstN l i = i
          · have HGT : Hid (growB l i = true) := by show _ = _; rw [HG.out, dG, decide_eq_true h3]; rfl
            have d3 : ((firstN l i : Int) == (i : Int)) = true := by simp; omega
            have HLE : Hid (letterN i = l[i][0]) := by
              show _ = _
              apply UInt8.toNat.inj
              rw [letterN_toNat i (by omega), HF.out, h3]
            clear h3
            go_wp2_with (first
              | (go_at_call 72; refine (HLI.out _).mono ?_; rintro e w' ⟨rfl, rfl⟩)
              | (at_builtin
                 refine wpList_append1 _ rfl (.tmp 27) (.tmp 30) _ rfl w1.heap.size 5 i0 _ 1 Try.underlying59 hi0 hz0 hz1 hz2 rfl _ n _ rfl HO.out (.int .u8 (l[i][0].toNat : Int)) rfl rfl (by unfold maxLen; omega) (by omega) hsz ?_
                 intro v' w2 hown2 hbel2))
            go_roundw
            case rel =>
              refine ⟨i + 1, n + 1, by omega, by go_num, ?_, ?_, HB.out.trans hbel2⟩
              · rw [HAB.out HGT.out, List.length_append, ← HN.out]; rfl
              · rw [HAB.out HGT.out, byteCells_snoc, HLE.out]; exact hown2
            case measure => simp [intOf]; omega
          · have HGF : Hid (growB l i = false) := by show _ = _; rw [HG.out, dG, decide_eq_false h3]; rfl
            have d3 : ((firstN l i : Int) == (i : Int)) = false := by simp; omega
            clear h3
            go_wp2_with (go_at_call 72; refine (HLI.out _).mono ?_; rintro e w' ⟨rfl, rfl⟩)
            go_roundw
            case rel => exact ⟨i + 1, n, by omega, by go_num, by rw [HAS.out HGF.out]; exact HN.out, by rw [HAS.out HGF.out]; exact HO.out, HB.out⟩
            case measure => simp [intOf]; omega
        · have dG : decide (1 < l[i].size) = false := by simpa using h2
          have HGF : Hid (growB l i = false) := by show _ = _; rw [HG.out, dG]; rfl
          go_wp2_with fail
          go_roundw
          case rel => exact ⟨i + 1, n, by omega, by go_num, by rw [HAS.out HGF.out]; exact HN.out, by rw [HAS.out HGF.out]; exact HO.out, HB.out⟩
          case measure => simp [intOf]; omega
      · have hii : i = l.length := by omega
        have hconv := conv_own_to Try.underlying9 ho
        have HE : Hid (outTo (growB l) i = outTo (growB l) l.length) := by show _ = _; rw [hii]
        have HB := Lib.hid hb
        clear hii ho hb
        go_wp2_with fail
        go_ret
        refine ⟨ret_str ?_, HBW1.out.trans (HB.out.mono HBW1.out.size)⟩
        rw [HV.out, HE.out]
  · have h1' : substB l = false := by simpa using h1
    have HV : Hid (growR l = ⟨#[]⟩) := if_neg h1
    clear h1
    go_enter Try.func29, Try.ntmps29
    go_wp2_with fail
    refine (implSubstOkL l _ _ HL.out HZ.out (by omega)).mono ?_
    rintro e w1 ⟨rfl, hb1⟩
    rw [h1']
    have HB1 : Hid (Below w.heap.size w w1) := HB0.out.trans (hb1.mono (by simp))
    clear hb1
    go_wp2_with fail
    go_ret
    exact ⟨ret_str HV.out.symm, HB1.out⟩
theorem mem_outTo (s : Nat → Bool) (k : Nat) (hk : k ≤ 3) : ∀ n, n ≤ 4 → (letterN k ∈ outTo s n ↔ k < n ∧ s k = true)
  | 0, _ => by constructor
               · intro h; cases h
               · rintro ⟨h, _⟩; omega
  | n + 1, hn => by
    have ih := mem_outTo s k hk n (by omega)
    have hne : letterN k = letterN n ↔ k = n := by
      constructor
      · intro h
        have := congrArg UInt8.toNat h
        rw [letterN_toNat k (by omega), letterN_toNat n (by omega)] at this
        omega
      · rintro rfl; rfl
    by_cases h : s n = true
    · rw [outTo_snoc h, List.mem_append, ih, List.mem_singleton, hne]
      constructor
      · rintro (⟨a, b⟩ | rfl)
        · exact ⟨by omega, b⟩
        · exact ⟨by omega, h⟩
      · rintro ⟨a, b⟩
        by_cases e : k = n
        · exact .inr e
        · exact .inl ⟨by omega, b⟩
    · rw [outTo_same (by simpa using h), ih]
      constructor
      · rintro ⟨a, b⟩; exact ⟨by omega, b⟩
      · rintro ⟨a, b⟩
        refine ⟨?_, b⟩
        rcases Nat.lt_or_ge k n with e | e
        · exact e
        · have : k = n := by omega
          subst this
          exact absurd b h
theorem grow_has {l : List ByteArray} {t : ByteArray} {c : UInt8} (hw : (decide (t.size = 1) && wordB t) = true) (h3 : c.toNat = 97 + letN t) (h4 : letN t ≤ 3) : decide (0 ≤ Lib.indexByte (growR l).data.toList c) = growOk l t := by
  rw [← Lib.contains_iff_indexByte]
  have hcl : c = letterN (letN t) := by
    apply UInt8.toNat.inj
    rw [letterN_toNat _ (by omega), h3]
  unfold growOk letOk
  rw [hw]
  by_cases h : substB l = true
  · have hl4 := (subst_parts h).2.1
    have hV : growR l = ⟨(outTo (growB l) l.length).toArray⟩ := if_pos h
    rw [hV, h]
    show (outTo (growB l) l.length).contains c = _
    have hm := mem_outTo (growB l) (letN t) h4 l.length hl4
    rw [Bool.eq_iff_iff, List.contains_iff_mem, hcl, hm]
    simp
  · have hV : growR l = ⟨#[]⟩ := if_neg h
    rw [hV]
    have h' : substB l = false := by simpa using h
    rw [h']
    simp

set_option maxRecDepth 100000 in
theorem implIsGrowing (l : List ByteArray) (v : Value) (t : ByteArray) (w : World) (h : Lst w v (strs l)) (hz : ∀ x ∈ l, x.size ≤ 1048576) (hn : l.length ≤ 1048576) (ht : t.size ≤ 1048576) :
    Calls Try.prog 51 #[.agg #[v], .string t] w fun e w' => e = .returned (.bool (growOk l t)) ∧ Below w.heap.size w w' := by
  obtain ⟨A, cp, rfl⟩ := lst_slice h
  rw [strs_length] at h ⊢
  have hb0 : Below w.heap.size w (w.alloc (.cells #[.slice A l.length cp] 24)) := (Below.refl _ _).alloc (Nat.le_refl _) _
  have HL := Lib.hid (h.below hb0)
  have HZ := Lib.hid hz
  have HB0 := Lib.hid hb0
  clear h hz hb0
  by_cases h2 : (decide (t.size = 1) && wordB t) = true
  · have H2 := Lib.hid h2
    have h2' := h2
    rw [Bool.and_eq_true, decide_eq_true_eq] at h2'
    obtain ⟨c, hc, h3, h4⟩ := letter_list h2'.1 h2'.2
    have HG := Lib.hid (grow_has (l := l) h2 h3 h4)
    have htc : t = ⟨#[c]⟩ := bytes_ext (by rw [ByteArray.toList_eq, ByteArray.toList_eq]; exact hc)
    have HC : Hid (∀ s w, Calls Try.prog 83 #[.string s, .string t] w fun e w' => e = .returned (.bool (decide (0 ≤ Lib.indexByte s.data.toList c))) ∧ w' = w) := by
      intro s w
      rw [htc]
      exact Try.strings_Contains_one s c w
    clear h2 h2' hc h3 h4 htc
    go_enter Try.func51, Try.ntmps51
    go_wp2_with fail
    refine (implIsLetterWord t _ ht).mono ?_
    rintro e w1 ⟨rfl, hb1⟩
    rw [H2.out]
    have HB1 : Hid (Below w.heap.size w w1) := HB0.out.trans (hb1.mono (by simp))
    have c1 : w1.cell? ⟨w.heap.size, 0, none⟩ = some (.slice A l.length cp) := (hb1.cell (p := ⟨w.heap.size, 0, none⟩) (by simp)).trans (by go_simp)
    have HL1 := Lib.hid (HL.out.below hb1)
    clear hb1
    go_wp2_with fail
    refine (implGrowingLetters l _ _ HL1.out HZ.out hn).mono ?_
    rintro e w2 ⟨rfl, hb2⟩
    have HB2 : Hid (Below w.heap.size w w2) := HB1.out.trans (hb2.mono HB1.out.size)
    clear hb2
    go_wp2_with fail
    refine (HC.out _ _).mono ?_
    rintro e w3 ⟨rfl, rfl⟩
    rw [HG.out]
    go_wp2_with fail
    go_ret
    exact ⟨rfl, HB2.out⟩
  · have h2' : (decide (t.size = 1) && wordB t) = false := by simpa only [Bool.not_eq_true] using h2
    have H2 := Lib.hid h2'
    clear h2 h2'
    go_enter Try.func51, Try.ntmps51
    go_wp2_with fail
    refine (implIsLetterWord t _ ht).mono ?_
    rintro e w1 ⟨rfl, hb1⟩
    rw [H2.out]
    have HB1 : Hid (Below w.heap.size w w1) := HB0.out.trans (hb1.mono (by simp))
    clear hb1
    go_wp2_with fail
    go_ret
    refine ⟨ret_bool ?_, HB1.out⟩
    unfold growOk letOk
    rw [H2.out]
    rfl
end Go.Proofs.Ytbbcdeknnfghkaa
