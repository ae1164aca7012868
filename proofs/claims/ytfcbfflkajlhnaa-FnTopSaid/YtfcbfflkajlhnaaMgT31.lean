/- Texts put together. -/
import Derived.Test.YtfcbfflkajlhnaaMgT30
import Derived.Test.YtfcbfflkajlhnaaMgT28
import Derived.Test.YtfcbfflkajlhnaaMgT27
import Derived.Test.YtfcbfflkajlhnaaMgT8
import Derived.Test.YtfcbfflkajlhnaaMgT14
import Derived.Test.YtfcbfflkajlhnaaMgT2
import Derived.Test.YtfcbfflkajlhnaaMgT19
/- FixedPoint, IsFixedStart and LetterAt of the program. Conditions: lengths of at most 2^20. -/
namespace Go.Proofs.Ytfcbfflkajlhnaa
open Go.RowKit

set_option maxRecDepth 100000 in
set_option maxHeartbeats 1000000 in
theorem implFixedPoint (l : List ByteArray) (v : Value) (t : ByteArray) (n : Int) (w : World) (h : Lst w v (strs l)) (hz : ∀ x ∈ l, x.size ≤ 1048576) (hn : l.length ≤ 1048576) (ht : t.size ≤ 1048576) :
    Calls Try.prog 16 #[.agg #[v], .string t, .int .i64 n] w (PairSaid (fixR l t n) (fixOk l t n) w) := by
  obtain ⟨A, cp, rfl⟩ := lst_slice h
  rw [strs_length] at h ⊢
  have hb0 : Below w.heap.size w (w.alloc (.cells #[.slice A l.length cp] 25)) := (Below.refl _ _).alloc (Nat.le_refl _) _
  have HL := Lib.hid (h.below hb0)
  have HZ := Lib.hid hz
  have HB0 := Lib.hid hb0
  clear h hz hb0
  by_cases h0 : growOk l t = true
  · have H0 := Lib.hid h0
    by_cases hin : 0 ≤ n ∧ n ≤ 400
    · obtain ⟨m, rfl⟩ : ∃ m : Nat, n = m := ⟨n.toNat, by omega⟩
      have hm : m ≤ 400 := by omega
      have d1 : decide ((0 : Int) ≤ (m : Int)) = true := by simp
      have d2 : decide ((m : Int) ≤ (400 : Int)) = true := by simp; omega
      have HOK : Hid (fixOk l t m = true) := by show fixOk l t m = true; unfold fixOk; rw [h0, d1, d2]; rfl
      have HV : Hid (fixR l t m = ⟨(fixL l (letN t) m).toArray⟩) := if_pos HOK.out
      have e1 : decide ((m : Int) < 0) = false := by simp
      have e2 : decide ((400 : Int) < (m : Int)) = false := by simp; omega
      have e3 : ¬ (400 < m) := by omega
      have e4 : decide (400 < m) = false := by simp; omega
      clear h0 hin d1 d2
      go_enter Try.func16, Try.ntmps16
      go_wp2_with fail
      refine (implIsGrowing l _ t _ HL.out HZ.out hn ht).mono ?_
      rintro e w1 ⟨rfl, hb1⟩
      rw [H0.out]
      have HB1 : Hid (Below w.heap.size w w1) := HB0.out.trans (hb1.mono (by simp))
      have c1 : w1.cell? ⟨w.heap.size, 0, none⟩ = some (.slice A l.length cp) := (hb1.cell (p := ⟨w.heap.size, 0, none⟩) (by simp)).trans (by go_simp)
      have HL1 := Lib.hid (HL.out.below hb1)
      clear hb1
      go_wp2_with fail
      refine (implFixedStart l _ t m _ HL1.out H0.out (by omega)).mono ?_
      rintro e w2 ⟨v', rfl, ho2, hb2⟩
      obtain ⟨A2, cp2, rfl⟩ := own_slice ho2
      have hconv := conv_own_to Try.underlying9 ho2
      have HB2 : Hid (Below w.heap.size w w2) := HB1.out.trans (hb2.mono HB1.out.size)
      clear hb2 c1 ho2
      go_wp2_with fail
      go_ret2
      refine ⟨?_, HB2.out⟩
      rw [HOK.out, HV.out]
      rfl
    · have d1 : (decide ((0 : Int) ≤ n) && decide (n ≤ (400 : Int))) = false := by simp; omega
      have HNO : Hid (fixOk l t n = false) := by show fixOk l t n = false; unfold fixOk; rw [d1, Bool.and_false]
      clear h0 d1
      by_cases hneg : n < 0
      · have e1 : decide (n < 0) = true := by simpa using hneg
        clear hin
        go_enter Try.func16, Try.ntmps16
        go_wp2_with fail
        refine (implIsGrowing l _ t _ HL.out HZ.out hn ht).mono ?_
        rintro e w1 ⟨rfl, hb1⟩
        rw [H0.out]
        have HB1 : Hid (Below w.heap.size w w1) := HB0.out.trans (hb1.mono (by simp))
        clear hb1
        go_wp2_with fail
        go_ret2
        exact fixR_no HNO.out HB1.out
      · have hbig : 400 < n := by omega
        have e1 : decide (n < 0) = false := by simpa using hneg
        have e2 : decide (400 < n) = true := by simpa using hbig
        clear hin
        go_enter Try.func16, Try.ntmps16
        go_wp2_with fail
        refine (implIsGrowing l _ t _ HL.out HZ.out hn ht).mono ?_
        rintro e w1 ⟨rfl, hb1⟩
        rw [H0.out]
        have HB1 : Hid (Below w.heap.size w w1) := HB0.out.trans (hb1.mono (by simp))
        clear hb1
        go_wp2_with fail
        go_ret2
        exact fixR_no HNO.out HB1.out
  · have h0' : growOk l t = false := by simpa using h0
    have HNO : Hid (fixOk l t n = false) := by show fixOk l t n = false; unfold fixOk; rw [h0']; rfl
    clear h0
    go_enter Try.func16, Try.ntmps16
    go_wp2_with fail
    refine (implIsGrowing l _ t _ HL.out HZ.out hn ht).mono ?_
    rintro e w1 ⟨rfl, hb1⟩
    rw [h0']
    have HB1 : Hid (Below w.heap.size w w1) := HB0.out.trans (hb1.mono (by simp))
    clear hb1
    go_wp2_with fail
    go_ret2
    exact fixR_no HNO.out HB1.out
set_option maxHeartbeats 1000000 in
theorem implIsFixedStart (l : List ByteArray) (v : Value) (s : ByteArray) (w : World) (h : Lst w v (strs l)) (hz : ∀ x ∈ l, x.size ≤ 1048576) (hn : l.length ≤ 1048576) (hs : s.size ≤ 1048576) :
    Calls Try.prog 17 #[.agg #[v], .string s] w fun e w' => e = .returned (.bool (fixStart l s)) ∧ Below w.heap.size w w' := by
  obtain ⟨A, cp, rfl⟩ := lst_slice h
  rw [strs_length] at h ⊢
  have hb0 : Below w.heap.size w (w.alloc (.cells #[.slice A l.length cp] 25)) := (Below.refl _ _).alloc (Nat.le_refl _) _
  have HL := Lib.hid (h.below hb0)
  have HZ := Lib.hid hz
  have HB0 := Lib.hid hb0
  clear h hz hb0
  by_cases h0 : s.size = 0
  · have HV : Hid (fixStart l s = true) := by show fixStart l s = true; unfold fixStart; rw [decide_eq_true h0]; rfl
    have es : s = ⟨#[]⟩ := bytes_ext (by rw [ByteArray.toList_eq, ByteArray.toList_eq]; exact List.eq_nil_of_length_eq_zero (by simpa using h0))
    subst es
    go_enter Try.func17, Try.ntmps17
    go_wp2_with fail
    go_ret
    exact ⟨ret_bool HV.out.symm, HB0.out⟩
  · have h1 : 1 ≤ s.size := by omega
    have HV := Lib.hid (fixStart_eq (l := l) (s := s) h1)
    have b0 : (s.toList == (⟨#[]⟩ : ByteArray).toList) = false := by
      rw [beq_eq_false_iff_ne]
      intro e
      apply h0
      have h6 := congrArg List.length e
      rw [ByteArray.toList_eq, ByteArray.toList_eq, Array.length_toList, Array.length_toList] at h6
      exact h6
    have b0' : (s.toList == []) = false := by
      rw [show (⟨#[]⟩ : ByteArray).toList = [] from by rw [ByteArray.toList_eq]] at b0
      exact b0
    have hsl : ∀ w : World, (Instr.slice 9 (.string s) none (some (.int .i64 (1 : Int))) none).run Try.prog w = .ok (.string (oneOf s)) w := fun w => by
      rw [run_slice_string_to_if (P := Try.prog) w 9 s .i64 1 Try.underlying9, if_pos ⟨by omega, by omega⟩]
      rfl
    have ho1 : (oneOf s).size ≤ 1048576 := by unfold oneOf; rw [ByteArray.size_extract]; omega
    go_enter Try.func17, Try.ntmps17
    go_wp2_with fail
    go_region_with (go_at_call 16
                    refine (implFixedPoint l _ (oneOf s) s.size _ (HL.out.drewN 1) HZ.out hn ho1).mono ?_
                    rintro e w1 ⟨rfl, hb1⟩
                    have HB1 : Hid (Below w.heap.size w w1) := (below_drewN HB0.out 1).trans (hb1.mono (by simp))
                    clear hb1)
    cases hok : fixOk l (oneOf s) s.size
    · have HF : Hid (fixStart l s = false) := by show fixStart l s = false; rw [HV.out, hok]; rfl
      clear hok
      go_wp2_with fail
      go_ret
      exact ⟨ret_bool HF.out.symm, HB1.out⟩
    · have HF : Hid (fixStart l s = ((fixR l (oneOf s) s.size).toList == s.toList)) := by
        show fixStart l s = _
        rw [HV.out, hok, Bool.true_and]
        rw [Bool.eq_iff_iff]
        simp
      clear hok
      go_wp2_with fail
      go_ret
      exact ⟨ret_bool HF.out.symm, HB1.out⟩
theorem sizeOf_u8 (w : World) : (sizeOf (Try.prog.elem 22)).run Try.prog w = .ok 1 w := by
  rw [show Try.prog.elem 22 = 5 by simp [Program.elem, Try.underlying22]]
  exact Try.sizeOf5 w
/-- one byte of a row turned into a text -/
theorem conv_one (w : World) (g o c : Nat) (b : UInt8) (hc : w.cell? ⟨g, o, none⟩ = some (.int .u8 (b.toNat : Int))) :
    (convert 22 9 (.slice (some ⟨g, o, none⟩) 1 c)).run Try.prog w = .ok (.string ⟨#[b]⟩) w := by
  rw [run_convert_bytes_string _ 22 9 5 _ _ _ Try.underlying22 Try.underlying5 Try.underlying9, run_bytesToString _ _ _ _ [(b.toNat : Int)] ?_]
  · simp only [List.foldl_cons, List.foldl_nil, Int.toNat_natCast, UInt8.ofNat_toNat]
    rfl
  · simp [loadCells, go_sem, hc]
theorem latR_noI {l : List ByteArray} {t : ByteArray} {n : Int} (h : latOk l t n = false) {w w' : World} (hb : Below w.heap.size w w') : PairSaid (latR l t n) (latOk l t n) w (.returned (.tuple #[.string ⟨#[]⟩, .bool false])) w' := by
  refine ⟨?_, hb⟩
  have e : latR l t n = ⟨#[]⟩ := if_neg (by rw [h]; decide)
  rw [h, e]

set_option maxRecDepth 100000 in
set_option maxHeartbeats 1000000 in
theorem implLetterAt (l : List ByteArray) (v : Value) (t : ByteArray) (n : Int) (w : World) (h : Lst w v (strs l)) (hz : ∀ x ∈ l, x.size ≤ 1048576) (hn : l.length ≤ 1048576) (ht : t.size ≤ 1048576) :
    Calls Try.prog 22 #[.agg #[v], .string t, .int .i64 n] w (PairSaid (latR l t n) (latOk l t n) w) := by
  obtain ⟨A, cp, rfl⟩ := lst_slice h
  rw [strs_length] at h ⊢
  have hb0 : Below w.heap.size w (w.alloc (.cells #[.slice A l.length cp] 25)) := (Below.refl _ _).alloc (Nat.le_refl _) _
  have HL := Lib.hid (h.below hb0)
  have HZ := Lib.hid hz
  have HB0 := Lib.hid hb0
  clear h hz hb0
  by_cases h0 : growOk l t = true
  · have H0 := Lib.hid h0
    by_cases hin : 0 ≤ n ∧ n ≤ 10000
    · obtain ⟨m, rfl⟩ : ∃ m : Nat, n = m := ⟨n.toNat, by omega⟩
      have hm : m ≤ 10000 := by omega
      obtain ⟨hN, h1, hg⟩ := grow_parts h0
      have d1 : decide ((0 : Int) ≤ (m : Int)) = true := by simp
      have d2 : decide ((m : Int) ≤ (10000 : Int)) = true := by simp; omega
      have HOK : Hid (latOk l t m = true) := by show latOk l t m = true; unfold latOk; rw [h0, d1, d2]; rfl
      have HV : Hid (latR l t m = ⟨#[fixB l (letN t) m]⟩) := if_pos HOK.out
      have HLEN := Lib.hid (fixL_length h1 hN hg (m + 1))
      have e1 : decide ((m : Int) < 0) = false := by simp
      have e2 : decide ((10000 : Int) < (m : Int)) = false := by simp; omega
      have e3 : ¬ (10000 < m) := by omega
      have e4 : decide (10000 < m) = false := by simp; omega
      have HFS := Lib.hid (fun w h => implFixedStart l (.slice A l.length cp) t (m + 1) w h h0 (by omega))
      clear h0 hin d1 d2 hg
      go_enter Try.func22, Try.ntmps22
      go_wp2_with fail
      refine (implIsGrowing l _ t _ HL.out HZ.out hn ht).mono ?_
      rintro e w1 ⟨rfl, hb1⟩
      rw [H0.out]
      have HB1 : Hid (Below w.heap.size w w1) := HB0.out.trans (hb1.mono (by simp))
      have c1 : w1.cell? ⟨w.heap.size, 0, none⟩ = some (.slice A l.length cp) := (hb1.cell (p := ⟨w.heap.size, 0, none⟩) (by simp)).trans (by go_simp)
      have HL1 := Lib.hid (HL.out.below hb1)
      clear hb1
      go_wp2_with fail
      refine (HFS.out _ HL1.out).mono ?_
      rintro e w2 ⟨v', rfl, ho2, hb2⟩
      obtain ⟨g, cp2, rfl, hcp2⟩ := own_some ho2 (by omega)
      obtain ⟨X, hsl, hX⟩ := slice_from Try.underlying22 sizeOf_u8 g 0 (m + 1) cp2 m (by omega) hcp2
      obtain rfl := hX (by omega)
      have hlen := HLEN.out
      have hcell := ho2.cells (g := g) rfl m (.int .u8 ((fixB l (letN t) m).toNat : Int)) (by
        unfold fixB byteCells
        rw [List.getElem?_map, List.getD_eq_getElem?_getD, List.getElem?_eq_getElem (by omega)]
        rfl)
      rw [Addr.add_lit] at hcell
      have hconv := conv_one w2 g (0 + m) (cp2 - m) (fixB l (letN t) m) hcell
      rw [show m + 1 - m = 1 by omega] at hsl
      have HB2 : Hid (Below w.heap.size w w2) := HB1.out.trans (hb2.mono HB1.out.size)
      simp only [Nat.zero_add] at hsl hconv
      clear hb2 c1 ho2 hlen hcell
      go_wp2_with fail
      go_ret2
      refine ⟨?_, HB2.out⟩
      rw [HOK.out, HV.out]
      rfl
    · have d1 : (decide ((0 : Int) ≤ n) && decide (n ≤ (10000 : Int))) = false := by simp; omega
      have HNO : Hid (latOk l t n = false) := by show latOk l t n = false; unfold latOk; rw [d1, Bool.and_false]
      clear h0 d1
      by_cases hneg : n < 0
      · have e1 : decide (n < 0) = true := by simpa using hneg
        clear hin
        go_enter Try.func22, Try.ntmps22
        go_wp2_with fail
        refine (implIsGrowing l _ t _ HL.out HZ.out hn ht).mono ?_
        rintro e w1 ⟨rfl, hb1⟩
        rw [H0.out]
        have HB1 : Hid (Below w.heap.size w w1) := HB0.out.trans (hb1.mono (by simp))
        clear hb1
        go_wp2_with fail
        go_ret2
        exact latR_noI HNO.out HB1.out
      · have hbig : 10000 < n := by omega
        have e1 : decide (n < 0) = false := by simpa using hneg
        have e2 : decide (10000 < n) = true := by simpa using hbig
        clear hin
        go_enter Try.func22, Try.ntmps22
        go_wp2_with fail
        refine (implIsGrowing l _ t _ HL.out HZ.out hn ht).mono ?_
        rintro e w1 ⟨rfl, hb1⟩
        rw [H0.out]
        have HB1 : Hid (Below w.heap.size w w1) := HB0.out.trans (hb1.mono (by simp))
        clear hb1
        go_wp2_with fail
        go_ret2
        exact latR_noI HNO.out HB1.out
  · have h0' : growOk l t = false := by simpa using h0
    have HNO : Hid (latOk l t n = false) := by show latOk l t n = false; unfold latOk; rw [h0']; rfl
    clear h0
    go_enter Try.func22, Try.ntmps22
    go_wp2_with fail
    refine (implIsGrowing l _ t _ HL.out HZ.out hn ht).mono ?_
    rintro e w1 ⟨rfl, hb1⟩
    rw [h0']
    have HB1 : Hid (Below w.heap.size w w1) := HB0.out.trans (hb1.mono (by simp))
    clear hb1
    go_wp2_with fail
    go_ret2
    exact latR_noI HNO.out HB1.out
end Go.Proofs.Ytfcbfflkajlhnaa

/- The program's contracts of stage 5 but FixedFactors. -/

/- A list of texts, sorted and with neighbors that are equal struck out, is the ascending list of its texts, each once; a row of texts turned by the library's two. -/
namespace Go.Proofs.Ytfcbfflkajlhnaa
open Go.RowKit

abbrev toBA (l : List UInt8) : ByteArray := ⟨l.toArray⟩
theorem less_lt (a b : ByteArray) : lessB a b = true ↔ a.data.toList < b.data.toList := by
  unfold lessB
  rw [bytesLess_eq, ByteArray.toList_eq, ByteArray.toList_eq, decide_eq_true_eq]
theorem lt_ne {a b : List UInt8} (h : a ≤ b) (hne : a ≠ b) : a < b := by
  rcases bl_tri a b with k | k | k
  · rwa [bytesLess_eq, decide_eq_true_eq] at k
  · exact absurd k hne
  · rw [bytesLess_eq, decide_eq_true_eq] at k
    exact absurd k (List.not_lt.2 h)
theorem cells_map (ys : List (List UInt8)) : ys.map encStr = strs (ys.map toBA) := by
  unfold strs
  rw [List.map_map]
  rfl

/-! ### the library's Compact of an ascending list -/
section
variable {d : Array (List UInt8)}
theorem cp_mem (d : Array (List UInt8)) (x : List UInt8) : ∀ m, x ∈ Lib.compactUpTo d m ↔ ∃ j, j < m ∧ d[j]! = x
  | 0 => by simp [Lib.compactUpTo]
  | m + 1 => by
    rw [Lib.compactUpTo_succ, List.mem_append, cp_mem d x m]
    by_cases hk : Lib.keeps d m = true
    · rw [if_pos hk, List.mem_singleton]
      constructor
      · rintro (⟨j, a, b⟩ | rfl)
        · exact ⟨j, by omega, b⟩
        · exact ⟨m, by omega, rfl⟩
      · rintro ⟨j, a, b⟩
        by_cases e : j = m
        · subst e; exact .inr b.symm
        · exact .inl ⟨j, by omega, b⟩
    · rw [if_neg hk]
      constructor
      · rintro (⟨j, a, b⟩ | h)
        · exact ⟨j, by omega, b⟩
        · cases h
      · rintro ⟨j, a, b⟩
        left
        by_cases e : j = m
        · subst e
          have hk' : ¬ (j = 0 ∨ d[j]! ≠ d[j - 1]!) := by simpa [Lib.keeps] using hk
          rw [not_or, Classical.not_not] at hk'
          exact ⟨j - 1, by omega, by rw [← hk'.2]; exact b⟩
        · exact ⟨j, by omega, b⟩
theorem cp_asc (hs : ∀ i j, i < j → j < d.size → d[i]! ≤ d[j]!) : ∀ m, m ≤ d.size → (Lib.compactUpTo d m).Pairwise (· < ·)
  | 0, _ => by simp [Lib.compactUpTo]
  | m + 1, hm => by
    rw [Lib.compactUpTo_succ]
    have ih := cp_asc hs m (by omega)
    by_cases hk : Lib.keeps d m = true
    · rw [if_pos hk]
      refine List.pairwise_append.2 ⟨ih, List.pairwise_singleton _ _, fun a ha b hb => ?_⟩
      rw [List.mem_singleton] at hb
      subst hb
      obtain ⟨j, hj, rfl⟩ := (cp_mem d a m).1 ha
      have hk' : m = 0 ∨ d[m]! ≠ d[m - 1]! := by simpa [Lib.keeps] using hk
      have hne := hk'.resolve_left (by omega)
      have h1 : d[m - 1]! ≤ d[m]! := hs (m - 1) m (by omega) (by omega)
      have h2 : d[m - 1]! < d[m]! := lt_ne h1 (Ne.symm hne)
      by_cases e : j = m - 1
      · rw [e]; exact h2
      · exact List.lt_of_le_of_lt (hs j (m - 1) (by omega) (by omega)) h2
    · rw [if_neg hk, List.append_nil]
      exact ih
end
theorem sort_le (ss : List (List UInt8)) : (ss.mergeSort fun x y => decide (x ≤ y)).Pairwise (· ≤ ·) := by
  have := List.pairwise_mergeSort (le := fun x y : List UInt8 => decide (x ≤ y)) (fun a b c h k => by simp only [decide_eq_true_eq] at h k ⊢; exact List.le_trans h k) (fun a b => by simp only [Bool.or_eq_true, decide_eq_true_eq]; exact List.le_total a b) ss
  simpa using this
theorem sort_mem (ss : List (List UInt8)) (x : List UInt8) : x ∈ (ss.mergeSort fun x y => decide (x ≤ y)) ↔ x ∈ ss := (List.mergeSort_perm ss _).mem_iff
/-- sorted and compacted -/
theorem sorted_eq {l m : List ByteArray} (hm : Asc m) (h : ∀ x, x ∈ l ↔ x ∈ m) : (Lib.compact ((l.map (·.data.toList)).mergeSort fun x y => decide (x ≤ y))).map toBA = m := by
  have hp := sort_le (l.map (·.data.toList))
  have hmem := sort_mem (l.map (·.data.toList))
  generalize (l.map (·.data.toList)).mergeSort (fun x y => decide (x ≤ y)) = zs at hp hmem
  have hs : ∀ i j, i < j → j < zs.toArray.size → zs.toArray[i]! ≤ zs.toArray[j]! := by
    intro i j hij hj
    have hj' : j < zs.length := by simpa using hj
    have := List.pairwise_iff_getElem.1 hp i j (by omega) hj' hij
    rw [getElem!_pos _ i (by simp; omega), getElem!_pos _ j (by simp; omega)]
    simpa using this
  have ha := cp_asc hs zs.length (by simp)
  refine asc_ext ?_ hm fun x => ?_
  · refine List.pairwise_map.2 (ha.imp fun {a b} h => ?_)
    exact (less_lt _ _).2 (by simpa using h)
  · rw [← h x, List.mem_map]
    have key : ∀ y : List UInt8, y ∈ Lib.compact zs ↔ y ∈ zs := by
      intro y
      unfold Lib.compact
      rw [cp_mem]
      constructor
      · rintro ⟨j, hj, rfl⟩
        rw [getElem!_pos _ j (by simpa using hj)]
        simp
      · intro hy
        obtain ⟨j, hj, rfl⟩ := List.mem_iff_getElem.1 hy
        exact ⟨j, hj, by rw [getElem!_pos _ j (by simpa using hj)]; simp⟩
    constructor
    · rintro ⟨y, hy, rfl⟩
      rw [key, hmem, List.mem_map] at hy
      obtain ⟨z, hz, rfl⟩ := hy
      exact hz
    · intro hx
      exact ⟨x.data.toList, by rw [key, hmem, List.mem_map]; exact ⟨x, hx, rfl⟩, rfl⟩

/-! ### a row of one's own under the library's words -/
section
variable {w : World} {B g n cap : Nat} {T : TypeId} {l : List ByteArray}
theorem own_holds (h : w.ownsRow B T 1 (.slice (some ⟨g, 0, none⟩) n cap) n (strs l)) : Sort.Holds encStr w g 0 (l.map (·.data.toList)).toArray := by
  have hl := h.1
  rw [strs_length, Nat.mul_one] at hl
  intro j hj
  have hj' : j < l.length := by simpa using hj
  refine ⟨?_, h.frozenAt _⟩
  rw [Nat.zero_add, h.cellAt j (by omega)]
  simp [strs, hj', encStr]
theorem own_lt (h : w.ownsRow B T 1 (.slice (some ⟨g, 0, none⟩) n cap) n (strs l)) : B ≤ g ∧ g < w.heap.size := h.lt g rfl
theorem own_put (h : w.ownsRow B T 1 (.slice (some ⟨g, 0, none⟩) n cap) n (strs l)) (ys : List (List UInt8)) (hy : ys.length = n) (q : Nat) (os : Array Obj) :
    (Sort.grow (Sort.putRow encStr (Sort.ahead w q) g 0 ys.toArray) os).ownsRow B T 1 (.slice (some ⟨g, 0, none⟩) n cap) n (strs (ys.map toBA)) ∧ Below B w (Sort.grow (Sort.putRow encStr (Sort.ahead w q) g 0 ys.toArray) os) := by
  have hl := own_lt h
  have hsz : (Sort.putRow encStr (Sort.ahead w q) g 0 ys.toArray).heap.size = w.heap.size := by rw [Sort.size_putRow]; rfl
  have hold : ∀ k, k < w.heap.size → (Sort.grow (Sort.putRow encStr (Sort.ahead w q) g 0 ys.toArray) os).heap[k]? = (w.heap.modify g (Sort.onCells (Sort.putCells encStr 0 ys.toArray)))[k]? := by
    intro k hk
    show (_ ++ os)[k]? = _
    rw [Array.getElem?_append_left (by rw [hsz]; exact hk)]
    rfl
  refine ⟨⟨by rw [strs_length, List.length_map]; omega, ?_⟩, ⟨rfl, rfl, rfl, ?_, fun k hk => ?_⟩⟩
  · rcases h.2 with ⟨h', _⟩ | ⟨g', cap', cur, h', hb, hg, h1, h2, h3, h4⟩
    · simp at h'
    · injection h' with ha hn hc
      injection ha with ha
      injection ha with ha
      subst ha; subst hc
      refine .inr ⟨g, cap, Sort.putCells encStr 0 ys.toArray cur, rfl, hb, ?_, h1, h2, ?_, ?_⟩
      · rw [hold g hl.2, Array.getElem?_modify, if_pos rfl, hg]
        rfl
      · simp [Sort.putCells, h3]
      · apply List.ext_getElem?
        intro i
        rw [← cells_map, List.getElem?_take]
        split
        · next hi =>
          have hi' : i < ys.length := by omega
          have hic : i < cur.size := by omega
          simp [Sort.putCells, hi', hic]
        · next hi =>
          rw [List.getElem?_eq_none (by simp; omega)]
  · show w.heap.size ≤ (_ ++ os).size
    rw [Array.size_append, hsz]; omega
  · rw [hold k (by omega), Array.getElem?_modify, if_neg (by omega)]
theorem own_less {m : Nat} {xs : List Value} (h : w.ownsRow B T 1 (.slice (some ⟨g, 0, none⟩) n cap) n xs) (hm : m ≤ n) : w.ownsRow B T 1 (.slice (some ⟨g, 0, none⟩) m cap) m (xs.take m) := by
  have hl := h.1
  rcases h.2 with ⟨h', _⟩ | ⟨g', cap', cur, h', hb, hg, h1, h2, h3, h4⟩
  · simp at h'
  · injection h' with ha hn hc
    injection ha with ha
    injection ha with ha
    subst ha; subst hc
    refine ⟨by rw [List.length_take]; omega, .inr ⟨g, cap, cur, rfl, hb, hg, by omega, h2, h3, ?_⟩⟩
    rw [← h4, List.take_take]
    congr 1
    omega
end
end Go.Proofs.Ytfcbfflkajlhnaa
