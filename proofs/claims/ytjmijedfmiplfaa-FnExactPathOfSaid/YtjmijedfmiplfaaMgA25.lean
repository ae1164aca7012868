/- Texts put together. -/
import Derived.Test.YtjmijedfmiplfaaMgA24
import Derived.OwnWalk
import Derived.Test.YtjmijedfmiplfaaMgA22
import Derived.Test.YtjmijedfmiplfaaMgA20
import Derived.Laws.Cover1
import Derived.Lib.OthersKept
/- The program's longestBorder: what its closures capture. No condition. -/
namespace Go.Proofs.Ytjmijedfmiplfaa
open Go.RowKit

/-- a row that has just been laid, by its block's number -/
theorem own_lit_at {w : World} {B g n : Nat} {e : TypeId} {cs : Array Value} (hg : w.heap.size = g) (hB : B ≤ g) (hm : n ≤ maxLen) (hs : cs.size = n) : (w.alloc (.cells cs e)).ownsRow B e 1 (.slice (some ⟨g, 0, none⟩) n n) n cs.toList := by
  subst hg
  exact World.ownsRow_lit w cs n hB hm (by rw [hs, Nat.mul_one])

set_option maxRecDepth 100000 in
set_option maxHeartbeats 1000000 in
theorem implLongestBorder (s : ByteArray) (w : World) :
    Calls Try.prog 91 #[.string s] w fun e w' => ∃ p1 p3 p4 p5 B A cp, e = .returned (.func (.func 95) #[] #[.pointer (some ⟨p5, 0, none⟩), .pointer (some ⟨p4, 0, none⟩), .pointer (some ⟨p1, 0, none⟩)]) ∧ KmpOwn s p1 p3 p4 p5 B 2 A cp w' ∧ w.heap.size ≤ B ∧ B ≤ w'.heap.size ∧ Below w.heap.size w w' := by
  have hmf : ∀ (fn : Fn) (first cap : Array Value) (w : World), (Instr.makeFunc fn first cap).run Try.prog w = .ok (.func fn first cap) w := fun _ _ _ _ => rfl
  go_enter Try.func91, Try.ntmps91
  go_wp2_with fail
  go_ret
  refine ⟨w.heap.size, w.heap.size + 1, w.heap.size + 2, w.heap.size + 4, w.heap.size + 3, some ⟨w.heap.size + 3, 0, none⟩, 2, rfl, ?_, by omega, by simp, ?_⟩
  · refine ⟨by omega, by omega, by omega, by go_simp, by go_simp, by go_simp, ?_, ?_⟩
    · rw [knL_two]
      exact (own_lit_at (by simp) (by omega) (by unfold maxLen; decide) rfl).alloc _
    · exact own_lit_at (by simp) (by omega) (by unfold maxLen; decide) rfl
  · exact (((((Below.refl _ _).alloc (Nat.le_refl _) _).alloc (by simp) _).alloc (by simp; omega) _).alloc (by simp; omega) _).alloc (by simp; omega) _
end Go.Proofs.Ytjmijedfmiplfaa

/- The program's borders: their lengths, the greatest one first. Condition: a text of at most 2^20 - 1 letters. -/
namespace Go.Proofs.Ytjmijedfmiplfaa
open Go.RowKit

theorem desc_any (s : ByteArray) : DescTo s (brN (ltO s) s.size) [] := by
  by_cases h : 1 ≤ s.size
  · exact desc_start h
  · have h0 : s.size = 0 := by omega
    rw [h0, brN_zero]
    unfold DescTo
    rw [h0]
    rfl

set_option maxRecDepth 100000 in
set_option maxHeartbeats 1000000 in
theorem implBorders (s : ByteArray) (w : World) (hs : s.size ≤ 1048575) :
    Calls Try.prog 76 #[.string s] w fun e w' => ∃ v, e = .returned v ∧ w'.ownsRow w.heap.size 3 1 v (boTo s (s.size - 1)).reverse.length (ints (boTo s (s.size - 1)).reverse) ∧ Below w.heap.size w w' := by
  obtain ⟨i0, hi0, hz0, hz1, hz2⟩ := info_parts int_info
  have HE : Hid (∀ L, DescTo s 0 L → L = (boTo s (s.size - 1)).reverse) := fun L h => desc_end h
  have HD0 := Lib.hid (desc_any s)
  have HNX : Hid (∀ n L, 1 ≤ n → BrAt (ltO s) s.size n → DescTo s n L → DescTo s (brN (ltO s) n) (L ++ [(n : Int)])) := fun n L a b d => desc_next a b d
  have HBR : Hid (∀ n, 1 ≤ n → BrAt (ltO s) s.size n → brN (ltO s) n < n ∧ (brN (ltO s) n = 0 ∨ BrAt (ltO s) s.size (brN (ltO s) n))) := fun n a b =>
    ⟨brN_lt a, .inr ((br_of b (brN_lt a)).2 (brN_ok a))⟩
  have HB0 : Hid (brN (ltO s) s.size ≤ s.size ∧ (brN (ltO s) s.size = 0 ∨ BrAt (ltO s) s.size (brN (ltO s) s.size))) := by
    refine ⟨brN_le _ _, ?_⟩
    by_cases h : 1 ≤ s.size
    · exact .inr (brN_ok h)
    · left
      rw [show s.size = 0 by omega]
      rfl
  generalize (boTo s (s.size - 1)).reverse = R at HE ⊢
  go_enter Try.func76, Try.ntmps76
  go_wp2_with fail
  refine (implLongestBorder s _).mono ?_
  rintro e w1 ⟨p1, p3, p4, p5, B, A, cp, rfl, hk, hB1, hB2, hb1⟩
  have HB1 := Lib.hid hb1
  have HC := Lib.hid (implLongestAll s p1 p3 p4 p5 B 2 cp s.size A w1 hk (Nat.le_refl _) (by omega) (Nat.le_refl _) hs hB2)
  clear hk hb1
  go_wp2_with fail
  refine HC.out.mono ?_
  rintro e w2 ⟨rfl, ⟨k, A2, cp2, hk1, hk2, hko⟩, hb2⟩
  have HKO := Lib.hid hko
  have HB2 : Hid (Below w.heap.size w w2) := HB1.out.trans (hb2.mono hB1)
  have hsz2 := HB2.out.size
  clear hko hb2 HC HB1
  generalize hn0 : brN (ltO s) s.size = n0 at HD0 HB0
  clear hn0
  go_wp2_with fail
  go_loopw [3, 5] (fun lv nv w' => ∃ (n : Nat) (L : List Int), nv = .int .i64 (n : Int) ∧ L.length + n ≤ s.size ∧ (n = 0 ∨ BrAt (ltO s) s.size n) ∧ DescTo s n L ∧ (∃ A cp, lv = .slice A L.length cp) ∧ w'.ownsRow w2.heap.size 3 1 lv L.length (ints L) ∧ Below w2.heap.size w2 w') (fun _ nv _ => (RowKit.intOf nv).toNat)
  case atStart => exact ⟨n0, [], rfl, by simpa using HB0.out.1, HB0.out.2, HD0.out, ⟨_, _, rfl⟩, World.ownsRow_nil _ _ _ _, Below.refl _ _⟩
  case round =>
    obtain ⟨n, L, rfl, hln, hbr, hd, ⟨A3, cp3, rfl⟩, ho, hb⟩ := hrel
    have HD := Lib.hid hd
    have HO := Lib.hid ho
    have HB := Lib.hid hb
    have hbz := hb.size
    clear hd ho hb
    by_cases hn : 1 ≤ n
    · have hbrn : BrAt (ltO s) s.size n := by
        rcases hbr with h | h
        · omega
        · exact h
      have HD2 := Lib.hid (HNX.out n L hn hbrn HD.out)
      obtain ⟨hlt, hbr2⟩ := HBR.out n hn hbrn
      have HBR2 := Lib.hid hbr2
      have hn' : (0 : Int) < (n : Int) := by omega
      clear hbr hbr2 hbrn HNX HBR
      go_wp2_with (at_builtin
                   refine wpList_append1 _ rfl (.tmp 17) (.tmp 19) _ rfl w2.heap.size 3 i0 _ 8 Try.underlying22 hi0 hz0 hz1 hz2 rfl (.slice A3 L.length cp3) L.length (ints L) rfl HO.out (.int .i64 (n : Int)) rfl rfl (by unfold maxLen; omega) (by omega) hbz ?_
                   intro v' w4 hown4 hbel4)
      have ho4 : w4.ownsRow w2.heap.size 3 1 v' (L ++ [(n : Int)]).length (ints (L ++ [(n : Int)])) := by
        rw [List.length_append, ints_snoc]
        exact hown4
      have HO4 := Lib.hid ho4
      obtain ⟨A5, cp5, rfl⟩ := own_slice ho4
      have HB4 : Hid (Below w2.heap.size w2 w4) := HB.out.trans hbel4
      obtain ⟨g, _, hat⟩ := (HKO.out.below HB4.out).at (by omega)
      have HL := Lib.hid (implLongestAt s p1 p3 p4 p5 g k cp2 n w4 hat (by omega) hk2)
      clear hown4 hbel4 ho4 hat
      generalize brN (ltO s) n = n2 at HD2 HBR2 hlt HL
      refine HL.out.mono ?_
      rintro e w5 ⟨rfl, rfl⟩
      go_wp2_with fail
      go_roundw
      case rel => exact ⟨n2, L ++ [(n : Int)], rfl, by rw [List.length_append, List.length_singleton]; omega, HBR2.out, HD2.out, ⟨A5, cp5, by rw [List.length_append, List.length_singleton]⟩, by have h := HO4.out; rw [List.length_append, List.length_singleton] at h ⊢; exact h, HB4.out⟩
      case measure => simp only [RowKit.intOf]; omega
    · have hn0 : n = 0 := by omega
      subst hn0
      have HR := Lib.hid (HE.out L HD.out)
      clear hbr
      go_wp2_with fail
      go_ret
      exact ⟨_, rfl, by rw [← HR.out]; exact own_mono HO.out hsz2, HB2.out.trans (HB.out.mono hsz2)⟩
end Go.Proofs.Ytjmijedfmiplfaa

/- What FnPeriods' calls return, in the form that the walk wants: borders and periods, the root. No program in it. -/
namespace Go.Proofs.Ytjmijedfmiplfaa
open Go.RowKit

theorem py_list {s : ByteArray} (hw : wordB s = true) (h : 1 ≤ s.size) : peR s = ((boR s).reverse.map fun x => (s.size : Int) - x) ++ [(s.size : Int)] := by
  have e1 : peR s = peTo s s.size := if_pos hw
  have e2 : boR s = boTo s (s.size - 1) := if_pos hw
  rw [e1, e2, per_last h, per_bor]
theorem py_len {s : ByteArray} (hw : wordB s = true) : (1 ≤ s.size → (peR s).length = (boR s).length + 1) ∧ (s.size = 0 → (peR s).length = 0) := by
  constructor
  · intro h
    rw [py_list hw h, List.length_append, List.length_map, List.length_reverse]
    rfl
  · intro h
    have e1 : peR s = peTo s s.size := if_pos hw
    rw [e1, h]
    rfl
/-- each period is what its border leaves -/
theorem py_at {s : ByteArray} (hw : wordB s = true) (h : 1 ≤ s.size) {i : Nat} (hi : i < (peR s).length) : (∀ hb : i < (boR s).length, (peR s)[i] + (boR s)[(boR s).length - 1 - i] = (s.size : Int)) ∧ (i = (boR s).length → (peR s)[i] = (s.size : Int)) := by
  have hl := py_list hw h
  simp only [hl] at hi ⊢
  constructor
  · intro hb
    rw [List.getElem_append_left (by rw [List.length_map, List.length_reverse]; exact hb), List.getElem_map, List.getElem_reverse]
    omega
  · intro hb
    rw [List.getElem_append_right (by rw [List.length_map, List.length_reverse]; omega)]
    simp
theorem py_up {s : ByteArray} (hw : wordB s = true) {i j : Nat} (hij : i < j) (hj : j < (peR s).length) : (peR s)[i] < (peR s)[j] := by
  have e1 : peR s = peTo s s.size := if_pos hw
  have := peTo_asc s s.size
  rw [← e1] at this
  exact List.pairwise_iff_getElem.1 this i j (by omega) hj hij
theorem py_is {s : ByteArray} (hw : wordB s = true) {i : Nat} (hi : i < (peR s).length) : ∃ p : Nat, (peR s)[i] = p ∧ 1 ≤ p ∧ p ≤ s.size ∧ PerAt s p := by
  have e1 : peR s = peTo s s.size := if_pos hw
  have hm := List.getElem_mem hi
  exact peTo_mem.1 (e1 ▸ hm)
theorem py_fine {s : ByteArray} (hw : wordB s = true) {i j : Nat} (hi : i < (peR s).length) (hj : j < (peR s).length) : afR s (peR s)[i] (peR s)[j] = true := by
  obtain ⟨p, e1, a1, a2, a3⟩ := py_is hw hi
  obtain ⟨q, e2, b1, b2, b3⟩ := py_is hw hj
  rw [e1, e2]
  exact af_yes hw a1 a2 b1 b2 a3 b3
theorem py_least {s : ByteArray} (hw : wordB s = true) (h : 1 ≤ s.size) : ∃ hp : 0 < (peR s).length, perR s = (peR s)[0] := by
  have hp : 0 < (peR s).length := by rw [(py_len hw).1 h]; omega
  refine ⟨hp, ?_⟩
  obtain ⟨p, e, a1, a2, a3⟩ := py_is hw hp
  obtain ⟨q1, q2⟩ := pz_per h
  have hl := perN_le s
  have hps := q2 s.size h (per_size s)
  have h1 : perR s = (perN s : Int) := by unfold perR; rw [if_pos hw, if_neg (by omega)]
  have hm : ((perN s : Nat) : Int) ∈ peR s := by
    have e1 : peR s = peTo s s.size := if_pos hw
    rw [e1]
    exact peTo_mem.2 ⟨perN s, rfl, hl.1, hps, q1⟩
  obtain ⟨j, hj, hje⟩ := List.mem_iff_getElem.1 hm
  have h2 := q2 p a1 a3
  rw [h1, e]
  by_cases h0 : j = 0
  · subst h0
    rw [e] at hje
    omega
  · have := py_up hw (show 0 < j by omega) hj
    rw [e, hje] at this
    omega
/-- the root written so many times; it is no power -/
theorem py_root {s : ByteArray} (hw : wordB s = true) (h : 1 ≤ s.size) : ∃ k : Nat, rtK s = k ∧ 1 ≤ k ∧ k ≤ s.size ∧ timesB (rtR s) k = s ∧ prmR (rtR s) = true ∧ (rtN s = s.size ↔ k = 1) := by
  obtain ⟨⟨a1, a2⟩, b, c, d⟩ := rt_spec h
  have hok : rtOk s = true := by unfold rtOk; rw [hw, decide_eq_true h]; rfl
  have e1 : rtR s = s.extract 0 (rtN s) := if_pos hok
  have e2 : rtK s = ((s.size / rtN s : Nat) : Int) := if_pos hok
  have hd : s.size / rtN s * rtN s = s.size := Nat.div_mul_cancel (Nat.dvd_of_mod_eq_zero a1)
  have hz : (s.extract 0 (rtN s)).size = rtN s := by rw [ByteArray.size_extract]; omega
  have hk1 : 1 ≤ s.size / rtN s := by
    rcases Nat.eq_zero_or_pos (s.size / rtN s) with e | e
    · rw [e, Nat.zero_mul] at hd; omega
    · exact e
  refine ⟨s.size / rtN s, e2, hk1, Nat.div_le_self _ _, by rw [e1]; exact rt_whole h, ?_, ?_⟩
  · have hrw : wordB (s.extract 0 (rtN s)) = true := by
      unfold wordB at hw ⊢
      rw [Bool.and_eq_true, decide_eq_true_eq, List.all_eq_true] at hw ⊢
      refine ⟨by omega, fun c hc => hw.2 c ?_⟩
      rw [ByteArray.data_extract, Array.toList_extract, List.extract_eq_take_drop] at hc
      exact List.mem_of_mem_drop (List.mem_of_mem_take hc)
    have hok2 : rtOk (s.extract 0 (rtN s)) = true := by unfold rtOk; rw [hrw, decide_eq_true (show 1 ≤ (s.extract 0 (rtN s)).size by omega)]; rfl
    have e3 : rtK (s.extract 0 (rtN s)) = (((s.extract 0 (rtN s)).size / rtN (s.extract 0 (rtN s)) : Nat) : Int) := if_pos hok2
    unfold prmR
    rw [e1, e3, rt_root h, hz, Nat.div_self (by omega)]
    rfl
  · constructor
    · intro e
      rw [e, Nat.div_self (by omega)]
    · intro e
      rw [e, Nat.one_mul] at hd
      exact hd
/-- the least shift: a Lyndon word exactly if the word is no power; it is not behind the word, and one of its shifts -/
theorem py_shift {s : ByteArray} (hw : wordB s = true) (h : 1 ≤ s.size) : ∃ k : Nat, lsR s = k ∧ k < s.size ∧ (LynAt (rotS s k) ↔ rtN s = s.size) ∧ ¬ lessB s (rotS s k) = true := by
  refine ⟨lsTo s s.size, if_pos (by rw [hw, decide_eq_true h]; rfl), ls_lt h, ls_lyn h, ?_⟩
  have := ls_least s s.size 0 (by omega)
  rwa [rot_zero] at this
theorem py_part {s : ByteArray} (hw : wordB s = true) (i j : Nat) : wordB (s.extract i j) = true := by
  unfold wordB at hw ⊢
  rw [Bool.and_eq_true, decide_eq_true_eq, List.all_eq_true] at hw
  rw [Bool.and_eq_true, decide_eq_true_eq, List.all_eq_true]
  refine ⟨by rw [ByteArray.size_extract]; omega, fun c hc => hw.2 c ?_⟩
  rw [ByteArray.data_extract, Array.toList_extract, List.extract_eq_take_drop] at hc
  exact List.mem_of_mem_drop (List.mem_of_mem_take hc)
theorem lyTo_word {s : ByteArray} (hw : wordB s = true) : ∀ f i, ∀ x ∈ lyTo s i f, wordB x = true
  | 0, i, x, h => by cases h
  | f + 1, i, x, h => by
    by_cases hi : i < s.size
    · have e : lyTo s i (f + 1) = s.extract i (i + lyLen s i (s.size - i)) :: lyTo s (i + lyLen s i (s.size - i)) f := if_pos hi
      rw [e] at h
      rcases List.mem_cons.1 h with rfl | h
      · exact py_part hw _ _
      · exact lyTo_word hw f _ x h
    · have e : lyTo s i (f + 1) = [] := if_neg hi
      rw [e] at h
      cases h
theorem lyTo_few (s : ByteArray) : ∀ f i, (lyTo s i f).length ≤ f
  | 0, _ => Nat.le_refl _
  | f + 1, i => by
    by_cases hi : i < s.size
    · have e : lyTo s i (f + 1) = s.extract i (i + lyLen s i (s.size - i)) :: lyTo s (i + lyLen s i (s.size - i)) f := if_pos hi
      have := lyTo_few s f (i + lyLen s i (s.size - i))
      rw [e, List.length_cons]
      omega
    · have e : lyTo s i (f + 1) = [] := if_neg hi
      rw [e]
      exact Nat.zero_le _
/-- the parts: Lyndon words that make the word, none behind the one before it -/
theorem py_parts {s : ByteArray} (hw : wordB s = true) : flatB (lyP s) = s ∧ (∀ x ∈ lyP s, lyR x = true ∧ wordB x = true) ∧ (∀ q (h : q + 1 < (lyP s).length), ¬ lessB (lyP s)[q] (lyP s)[q + 1] = true) ∧ (lyP s).length ≤ s.size ∧ lyR s = decide ((lyP s).length = 1) := by
  have e : lyP s = lyTo s 0 s.size := if_pos hw
  obtain ⟨a, b⟩ := lyTo_spec s s.size 0 (Nat.zero_le _) (by omega)
  have c := lyTo_down s s.size 0 (Nat.zero_le _) (by omega)
  have hwhole : s.extract 0 s.size = s := by
    refine pl_ext (by rw [ByteArray.size_extract]; omega) fun i hi => ?_
    rw [ByteArray.size_extract] at hi
    have := pz_list s 0 s.size i (by omega)
    rwa [Nat.zero_add, Nat.zero_add] at this
  have hw2 := lyTo_word hw s.size 0
  have hf := lyTo_few s s.size 0
  have ho := fun h => lyTo_one (s := s) h
  refine ⟨by rw [e, a, hwhole], fun x hx => ?_, fun q h => ?_, by rw [e]; exact hf, ?_⟩
  · rw [e] at hx
    have h1 := hw2 x hx
    unfold lyR
    rw [h1, (lyB_iff x).2 (b x hx)]
    exact ⟨rfl, rfl⟩
  · simp only [e] at h ⊢
    exact c q h
  · rw [e]
    unfold lyR
    rw [hw, Bool.true_and, Bool.eq_iff_iff, lyB_iff, decide_eq_true_eq]
    by_cases h : 1 ≤ s.size
    · exact (ho h).symm
    · constructor
      · intro hh
        exact absurd hh.1 h
      · intro hh
        omega
end Go.Proofs.Ytjmijedfmiplfaa

/- Chapter 10 of the model: IsPrimitiveWord, LeastShift, IsLyndon, LyndonParts, AreConjugate. Conditions: lengths of at most 2^20. -/
namespace Go.Proofs.Ytjmijedfmiplfaa
open Go.RowKit Go.Lib

theorem prm_eq (s : ByteArray) : prmR s = (rtK s == 1) := rfl
theorem empty_is {s : ByteArray} (h : s.size = 0) : s.toList.isEmpty = true := by
  rw [ByteArray.toList_eq]
  cases e : s.data.toList with
  | nil => rfl
  | cons a l => have hl : s.data.toList.length = s.size := by simp
                rw [e, h] at hl; cases hl
theorem empty_no {s : ByteArray} (h : 1 ≤ s.size) : s.toList.isEmpty = false := by
  rw [ByteArray.toList_eq]
  cases e : s.data.toList with
  | nil => have hl : s.data.toList.length = s.size := by simp
           rw [e] at hl; simp at hl; omega
  | cons a l => rfl

/-- the three ways of two texts: before; behind; the same -/
theorem bl_three (a b : List UInt8) : (Op.bytesLess a b = true ∧ Op.bytesLess b a = false ∧ (b == a) = false) ∨ (Op.bytesLess a b = false ∧ Op.bytesLess b a = true ∧ (b == a) = false) ∨ (Op.bytesLess a b = false ∧ Op.bytesLess b a = false ∧ (b == a) = true) := by
  by_cases e : b = a
  · subst e
    exact .inr (.inr ⟨bl_self b, bl_self b, by simp⟩)
  · have e2 : (b == a) = false := by rw [beq_eq_false_iff_ne]; exact e
    cases h : Op.bytesLess a b
    · refine .inr (.inl ⟨rfl, ?_, e2⟩)
      cases h2 : Op.bytesLess b a
      · rcases bl_tri a b with x | x | x
        · rw [h] at x; cases x
        · exact absurd x.symm e
        · rw [h2] at x; cases x
      · rfl
    · refine .inl ⟨rfl, ?_, e2⟩
      cases h2 : Op.bytesLess b a
      · rfl
      · exact (bl_asym h h2).elim
theorem lyn_no {s : ByteArray} {k : Nat} (h1 : 1 ≤ k) (h2 : k < s.size) (h : lessB s (rotS s k) = false) : lyB s = false := by
  cases hx : lyB s
  · rfl
  · have := ((lyB_iff s).1 hx).2 k h1 h2
    rw [h] at this
    cases this

theorem lyP_le (s : ByteArray) : (lyP s).length ≤ 400 := by
  unfold lyP
  split
  · rename_i h
    have := lyTo_few s s.size 0
    have := word_size h
    omega
  · simp
theorem lyTo_step {s : ByteArray} {i f : Nat} (h : i < s.size) : lyTo s i (f + 1) = s.extract i (i + lyLen s i (s.size - i)) :: lyTo s (i + lyLen s i (s.size - i)) f := if_pos h
/-- what is found so far, then the rest -/
def PartsTo (s : ByteArray) (i : Nat) (l : List ByteArray) : Prop := ∀ f, s.size ≤ i + f → l ++ lyTo s i f = lyTo s 0 s.size
theorem lyTo_more (s : ByteArray) : ∀ f i, s.size ≤ i + f → lyTo s i (f + 1) = lyTo s i f
  | 0, i, h => by
    show (if i < s.size then _ else _) = _
    rw [if_neg (by omega)]
    rfl
  | f + 1, i, h => by
    by_cases hi : i < s.size
    · rw [lyTo_step hi, lyTo_step hi]
      have := lyLen_pos hi
      rw [lyTo_more s f _ (by omega)]
    · show (if i < s.size then _ else _) = if i < s.size then _ else _
      rw [if_neg hi, if_neg hi]
theorem lyTo_any (s : ByteArray) {f i : Nat} (h : s.size ≤ i + f) : ∀ k, lyTo s i (f + k) = lyTo s i f
  | 0 => rfl
  | k + 1 => by rw [← lyTo_any s h k, ← Nat.add_assoc]; exact lyTo_more s (f + k) i (by omega)
theorem parts_start (s : ByteArray) : PartsTo s 0 [] := fun f hf => by
  rw [List.nil_append]
  have := lyTo_any s (f := s.size) (i := 0) (by omega) (f - s.size)
  rwa [show s.size + (f - s.size) = f by omega] at this
theorem parts_next {s : ByteArray} {i : Nat} {l : List ByteArray} (h : PartsTo s i l) (hi : i < s.size) : PartsTo s (i + lyLen s i (s.size - i)) (l ++ [s.extract i (i + lyLen s i (s.size - i))]) := fun f hf => by
  rw [← lyTo_any s hf s.size, List.append_assoc, List.singleton_append, ← lyTo_step hi]
  exact h (f + s.size + 1) (by omega)
theorem parts_end {s : ByteArray} {i : Nat} {l : List ByteArray} (h : PartsTo s i l) (hi : s.size ≤ i) : l = lyTo s 0 s.size := by
  have := h 0 (by omega)
  rwa [show lyTo s i 0 = [] from rfl, List.append_nil] at this
theorem lyLen_yes {s : ByteArray} {i n : Nat} (hn : lyB (s.extract i (i + (n + 1))) = true) : lyLen s i (n + 1) = n + 1 := if_pos hn
theorem lyLen_no {s : ByteArray} {i n : Nat} (hn : lyB (s.extract i (i + (n + 1))) = false) : lyLen s i (n + 1) = lyLen s i n := if_neg (by rw [hn]; decide)

theorem cj_no (s t : ByteArray) (h : wordB s = false ∨ wordB t = false ∨ s.size ≠ t.size) : cjR s t = false := by
  unfold cjR
  rcases h with h | h | h
  · rw [h]; rfl
  · rw [h, Bool.false_and, Bool.and_false]
  · rw [decide_eq_false h, Bool.false_and, Bool.and_false, Bool.and_false]

end Go.Proofs.Ytjmijedfmiplfaa
