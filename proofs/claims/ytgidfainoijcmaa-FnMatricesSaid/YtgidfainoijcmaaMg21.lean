/- Texts put together. -/
import Derived.Test.YtgidfainoijcmaaMg19
import Derived.Test.YtgidfainoijcmaaMg12
import Derived.Test.YtgidfainoijcmaaMg6
import Derived.Test.YtgidfainoijcmaaMg20
import Derived.Test.YtgidfainoijcmaaMg11
import Derived.Deep.LoopGhost
/- hasLetter of the program. Conditions: lengths of at most 2^20. -/
namespace Go.Proofs.Ytgidfainoijcmaa
open Go.RowKit

theorem letter_list {t : ByteArray} (h1 : t.size = 1) (h2 : wordB t = true) : ∃ c : UInt8, t.data.toList = [c] ∧ c.toNat = 97 + letN t ∧ letN t ≤ 3 := by
  obtain ⟨a, b⟩ := letN_at h1 h2
  have hl : t.data.toList.length = 1 := by simpa using h1
  obtain ⟨c, hc⟩ := List.length_eq_one_iff.1 hl
  refine ⟨c, hc, ?_, b⟩
  have e : letN t = c.toNat - 97 := by
    unfold letN
    rw [hc]
    rfl
  have e2 : t[0]'(by omega) = c := by
    have : t.data.toList[0]'(by omega) = c := by simp [hc]
    rw [Array.getElem_toList] at this
    exact this
  rw [e2] at a
  exact a
theorem within_letter {t : ByteArray} (h1 : t.size = 1) (h2 : wordB t = true) (n : Nat) : withinB n t = decide (letN t < n) := by
  obtain ⟨c, hc, h3, h4⟩ := letter_list h1 h2
  unfold withinB
  rw [hc]
  simp only [List.all_cons, List.all_nil, Bool.and_true]
  rw [h3]
  by_cases h : letN t < n
  · rw [decide_eq_true h, decide_eq_true (by omega)]
  · rw [decide_eq_false h, decide_eq_false (by omega)]
theorem letter_counts {t : ByteArray} (h1 : t.size = 1) (h2 : wordB t = true) (n : Nat) (hn : n ≤ 4) (hl : letN t < n) : (countsR t).take n = unitC n (letN t) := by
  obtain ⟨c, hc, h3, h4⟩ := letter_list h1 h2
  have hcr : countsR t = [(cnt t.data.toList 97 : Int), (cnt t.data.toList 98 : Int), (cnt t.data.toList 99 : Int), (cnt t.data.toList 100 : Int)] := if_pos h2
  have hcc : c = 97 ∨ c = 98 ∨ c = 99 ∨ c = 100 := by
    rcases four_cases (show letN t < 4 by omega) with e | e | e | e <;> rw [e] at h3
    · exact .inl (UInt8.toNat_inj.1 h3)
    · exact .inr (.inl (UInt8.toNat_inj.1 h3))
    · exact .inr (.inr (.inl (UInt8.toNat_inj.1 h3)))
    · exact .inr (.inr (.inr (UInt8.toNat_inj.1 h3)))
  rw [hcr, hc]
  unfold cnt unitC
  rcases hcc with rfl | rfl | rfl | rfl
  · have : letN t = 0 := by have : (97 : UInt8).toNat = 97 := rfl; omega
    rw [this]
    rcases (by omega : n = 1 ∨ n = 2 ∨ n = 3 ∨ n = 4) with rfl | rfl | rfl | rfl <;> rfl
  · have : letN t = 1 := by have : (98 : UInt8).toNat = 98 := rfl; omega
    rw [this] at hl ⊢
    rcases (by omega : n = 2 ∨ n = 3 ∨ n = 4) with rfl | rfl | rfl <;> rfl
  · have : letN t = 2 := by have : (99 : UInt8).toNat = 99 := rfl; omega
    rw [this] at hl ⊢
    rcases (by omega : n = 3 ∨ n = 4) with rfl | rfl <;> rfl
  · have : letN t = 3 := by have : (100 : UInt8).toNat = 100 := rfl; omega
    rw [this] at hl ⊢
    rcases (by omega : n = 4) with rfl <;> rfl
theorem lst_take {w : World} {A : Option Addr} {n c : Nat} {xs : List Value} (h : Lst w (.slice A n c) xs) (k : Nat) (hk : k ≤ xs.length) : Lst w (.slice A k c) (xs.take k) := by
  obtain ⟨A', c', he, h1, h2, h3⟩ := h
  injection he with hA hn hc
  subst hA
  subst hc
  refine ⟨A, c, by rw [List.length_take, Nat.min_eq_left hk], by rw [List.length_take]; omega, h2, ?_⟩
  rcases h3 with h3 | ⟨b, off, hb, h3⟩
  · left
    rw [h3, List.take_nil]
  · right
    refine ⟨b, off, hb, fun i u hu => h3 i u ?_⟩
    rw [List.getElem?_take] at hu
    split at hu
    · exact hu
    · cases hu
theorem cut_slice (a : Addr) (n c k : Nat) (hk : k ≤ c) (w : World) : (Instr.sliceAt 30 (.slice (some a) n c) none (some (.int .i64 (k : Int))) none).run Try.prog w = .ok (.slice (some a) k c) w := by
  have h1 : (0 : Int) ≤ k ∧ (k : Int) ≤ (c : Nat) := by omega
  simp [Instr.sliceAt, Instr.slice, Instr.sliceBounds, Instr.sliceBound, asIntOf, run_underlying Try.underlying30, Instr.sureAddr, hk, Addr.add]

theorem implHasLetter (A : Option Addr) (l : List ByteArray) (cp : Nat) (t : ByteArray) (w : World) (h : Lst w (.slice A l.length cp) (strs l)) (hz : ∀ x ∈ l, x.size ≤ 1048576) (hn : l.length ≤ 1048576) (ht : t.size ≤ 1048576) :
    Calls Try.prog 63 #[.agg #[.slice A l.length cp], .string t] w fun e w' => e = .returned (.bool (letOk l t && substB l)) ∧ Below w.heap.size w w' := by
  have hb0 : Below w.heap.size w (w.alloc (.cells #[.slice A l.length cp] 25)) := (Below.refl _ _).alloc (Nat.le_refl _) _
  have HL := Lib.hid (h.below hb0)
  have HZ := Lib.hid hz
  have HB0 := Lib.hid hb0
  clear h hz hb0
  by_cases h1 : substB l = true
  · have HSB := Lib.hid h1
    by_cases h2 : (decide (t.size = 1) && wordB t) = true
    · have H2 := Lib.hid h2
      rw [Bool.and_eq_true, decide_eq_true_eq] at h2
      have HW := Lib.hid (within_letter h2.1 h2.2 l.length)
      have HWB := Lib.hid h2.2
      clear h1 h2
      go_enter Try.func63, Try.ntmps63
      go_wp2_with fail
      refine (implSubstOk l _ _ HL.out HZ.out hn).mono ?_
      rintro e w1 ⟨rfl, hb1⟩
      rw [HSB.out]
      have HB1 : Hid (Below w.heap.size w w1) := HB0.out.trans (hb1.mono (by simp))
      have c0 : w1.cell? ⟨w.heap.size, 0, none⟩ = some (.slice A l.length cp) := (hb1.cell (p := ⟨w.heap.size, 0, none⟩) (by simp)).trans (by go_simp)
      have hlt1 : w.heap.size < w1.heap.size := by have := hb1.size; simp at this; omega
      clear hb1
      go_wp2_with fail
      refine (implIsLetterWord t _ ht).mono ?_
      rintro e w2 ⟨rfl, hb2⟩
      rw [H2.out]
      have HB2 : Hid (Below w.heap.size w w2) := HB1.out.trans (hb2.mono HB1.out.size)
      have c2 : w2.cell? ⟨w.heap.size, 0, none⟩ = some (.slice A l.length cp) := (hb2.cell (p := ⟨w.heap.size, 0, none⟩) hlt1).trans c0
      clear hb2 c0
      go_wp2_with fail
      refine (implHasImages A l.length cp t _ hn ht).mono ?_
      rintro e w3 ⟨rfl, hb3⟩
      have HB3 : Hid (Below w.heap.size w w3) := HB2.out.trans (hb3.mono HB2.out.size)
      clear hb3
      go_wp2_with fail
      go_ret
      refine ⟨ret_bool ?_, HB3.out⟩
      unfold letOk
      rw [HW.out, H2.out, HSB.out, HWB.out, Bool.and_true, Bool.true_and]
    · have h2' : (decide (t.size = 1) && wordB t) = false := by simpa only [Bool.not_eq_true] using h2
      have H2 := Lib.hid h2'
      clear h1 h2 h2'
      go_enter Try.func63, Try.ntmps63
      go_wp2_with fail
      refine (implSubstOk l _ _ HL.out HZ.out hn).mono ?_
      rintro e w1 ⟨rfl, hb1⟩
      rw [HSB.out]
      have HB1 : Hid (Below w.heap.size w w1) := HB0.out.trans (hb1.mono (by simp))
      clear hb1
      go_wp2_with fail
      refine (implIsLetterWord t _ ht).mono ?_
      rintro e w2 ⟨rfl, hb2⟩
      rw [H2.out]
      have HB2 : Hid (Below w.heap.size w w2) := HB1.out.trans (hb2.mono HB1.out.size)
      clear hb2
      go_wp2_with fail
      go_ret
      refine ⟨ret_bool ?_, HB2.out⟩
      unfold letOk
      rw [H2.out]
      rfl
  · have h1' : substB l = false := by simpa using h1
    have HSB := Lib.hid h1'
    clear h1 h1'
    go_enter Try.func63, Try.ntmps63
    go_wp2_with fail
    refine (implSubstOk l _ _ HL.out HZ.out hn).mono ?_
    rintro e w1 ⟨rfl, hb1⟩
    rw [HSB.out]
    have HB1 : Hid (Below w.heap.size w w1) := HB0.out.trans (hb1.mono (by simp))
    clear hb1
    go_wp2_with fail
    go_ret
    exact ⟨ret_bool (by rw [HSB.out, Bool.and_false]), HB1.out⟩
end Go.Proofs.Ytgidfainoijcmaa

/- reach and ReachedBy of the program. Conditions: lengths of at most 2^20. -/
namespace Go.Proofs.Ytgidfainoijcmaa
open Go.RowKit

theorem occ_mat {l : List ByteArray} (hl : substB l = true) {i k : Nat} (h : Occ l k i) : i < l.length ∧ k < l.length ∧ 0 < at2 (matL l) i k := by
  have hk : k < l.length := h.1
  obtain ⟨c, hc, e⟩ := (occ_iff hl hk i).1 h
  have h1 := img_letters hl hk c hc
  have hi : i < l.length := by omega
  have hn := (subst_parts hl).2.1
  refine ⟨hi, hk, ?_⟩
  have hi2 : i < (matL l).length := by rw [matL_length]; exact hi
  have hk2 : k < (matL l)[i].length := by rw [matL_at, rowL_length]; exact hk
  rw [at2_eq _ _ _ hi2 hk2]
  have e2 : (matL l)[i][k] = (cnt l[k].data.toList (letterN i) : Int) := by simp [matL, rowL]
  rw [e2]
  have e3 : c = letterN i := by
    apply UInt8.toNat_inj.1
    rw [letterN_toNat i (by omega)]
    omega
  have : 0 < cnt l[k].data.toList (letterN i) := by
    unfold cnt
    exact List.count_pos_iff.2 (e3 ▸ hc)
  omega
theorem mat_occ {l : List ByteArray} (hl : substB l = true) {i k : Nat} (h : 0 < at2 (matL l) i k) : i < l.length ∧ k < l.length ∧ Occ l k i := by
  by_cases hi : i < l.length
  · have hi2 : i < (matL l).length := by rw [matL_length]; exact hi
    by_cases hk : k < l.length
    · refine ⟨hi, hk, ?_⟩
      have hk2 : k < (matL l)[i].length := by rw [matL_at, rowL_length]; exact hk
      rw [at2_eq _ _ _ hi2 hk2] at h
      have e2 : (matL l)[i][k] = (cnt l[k].data.toList (letterN i) : Int) := by simp [matL, rowL]
      rw [e2] at h
      have hc : 0 < cnt l[k].data.toList (letterN i) := by omega
      unfold cnt at hc
      have hn := (subst_parts hl).2.1
      exact (occ_iff hl hk i).2 ⟨_, List.count_pos_iff.1 hc, by rw [letterN_toNat i (by omega)]; omega⟩
    · rw [at2_outc (matL l) l.length i k hi2 (by rw [matL_at, rowL_length]) (by omega)] at h
      exact absurd h (by decide)
  · rw [at2_out _ i k (by rw [matL_length]; omega)] at h
    exact absurd h (by decide)
theorem reached_step2 {l : List ByteArray} {a b c : Nat} (h1 : Reached l a b) (h2 : Reached l b c) : Reached l a c := by
  induction h2 with
  | refl => exact h1
  | step _ ho ih => exact .step ih ho
/-- the square on its way to all that is reached -/
def OnWay (l : List ByteArray) (R : Nat → Nat → Int) : Prop :=
  (∀ a c, R a c = 0 ∨ R a c = 1) ∧ (∀ a c, R a c = 1 → c < l.length ∧ Reached l c a) ∧ (∀ c, c < l.length → R c c = 1) ∧ ∀ a c, 0 < at2 (matL l) a c → R a c = 1
/-- the diagonal's first i numbers set to 1 -/
def dgF (f : Nat → Nat → Int) (i : Nat) : Nat → Nat → Int := fun a c => if a = c ∧ a < i then 1 else f a c
theorem dgF_zero (f : Nat → Nat → Int) : dgF f 0 = f := by
  funext a c
  unfold dgF
  rw [if_neg (by omega)]
theorem dgF_succ (f : Nat → Nat → Int) (i : Nat) : upd2 (dgF f i) i i 1 = dgF f (i + 1) := by
  funext a c
  unfold upd2 dgF
  by_cases h : a = i ∧ c = i
  · obtain ⟨rfl, rfl⟩ := h
    simp
  · rw [if_neg h]
    have e : (a = c ∧ a < i) ↔ (a = c ∧ a < i + 1) := by omega
    simp only [e]
theorem way_start {l : List ByteArray} (hl : substB l = true) : OnWay l (markF (dgF (at2 (matL l)) l.length)) := by
  have hnn : ∀ i q, 0 ≤ dgF (at2 (matL l)) l.length i q := by
    intro i q
    unfold dgF
    split
    · decide
    · exact (at2_nn hl i q).1
  refine ⟨fun a c => (mk_iff hnn a c).1, fun a c h => ?_, fun c hc => ?_, fun a c h => ?_⟩
  · have h1 := (mk_iff hnn a c).2.1 h
    unfold dgF at h1
    by_cases hd : a = c ∧ a < l.length
    · obtain ⟨rfl, hd⟩ := hd
      exact ⟨hd, .refl⟩
    · rw [if_neg hd] at h1
      obtain ⟨_, h3, h4⟩ := mat_occ hl h1
      exact ⟨h3, .step .refl h4⟩
  · refine (mk_iff hnn c c).2.2 ?_
    unfold dgF
    rw [if_pos ⟨rfl, hc⟩]
    decide
  · refine (mk_iff hnn a c).2.2 ?_
    unfold dgF
    split
    · decide
    · exact h
theorem way_nn {l : List ByteArray} {R : Nat → Nat → Int} (h : OnWay l R) (i q : Nat) : 0 ≤ R i q ∧ R i q ≤ 8 := by
  rcases h.1 i q with e | e <;> rw [e] <;> decide
theorem way_pos {l : List ByteArray} {R : Nat → Nat → Int} (h : OnWay l R) (i q : Nat) : 0 < R i q ↔ R i q = 1 := by
  rcases h.1 i q with e | e <;> rw [e] <;> decide
theorem way_iff {l : List ByteArray} {R : Nat → Nat → Int} (h : OnWay l R) (a c : Nat) : markF (timesF l.length R R) a c = 1 ↔ c < l.length ∧ ∃ q, q < 4 ∧ R a q = 1 ∧ R q c = 1 := by
  rw [(mt_iff (fun i q => (way_nn h i q).1) (fun i q => (way_nn h i q).1) l.length a c).2]
  simp only [way_pos h]
theorem way_next {l : List ByteArray} (hl : substB l = true) {R : Nat → Nat → Int} (h : OnWay l R) : OnWay l (markF (timesF l.length R R)) := by
  have h4 := (subst_parts hl).2.1
  refine ⟨fun a c => (mt_iff (fun i q => (way_nn h i q).1) (fun i q => (way_nn h i q).1) l.length a c).1, fun a c e => ?_, fun c hc => ?_, fun a c e => ?_⟩
  · obtain ⟨hc, q, _, p1, p2⟩ := (way_iff h a c).1 e
    exact ⟨hc, reached_step2 (h.2.1 q c p2).2 (h.2.1 a q p1).2⟩
  · exact (way_iff h c c).2 ⟨hc, c, by omega, h.2.2.1 c hc, h.2.2.1 c hc⟩
  · obtain ⟨_, hc, _⟩ := mat_occ hl e
    exact (way_iff h a c).2 ⟨hc, c, by omega, h.2.2.2 a c e, h.2.2.1 c hc⟩
theorem way_more {l : List ByteArray} (hl : substB l = true) {R : Nat → Nat → Int} (h : OnWay l R) (a c : Nat) : R a c ≤ markF (timesF l.length R R) a c := by
  have h4 := (subst_parts hl).2.1
  rcases h.1 a c with e | e
  · rw [e]
    rcases (way_next hl h).1 a c with e2 | e2 <;> rw [e2] <;> decide
  · obtain ⟨hc, _⟩ := h.2.1 a c e
    rw [e, (way_iff h a c).2 ⟨hc, c, by omega, e, h.2.2.1 c hc⟩]
    decide
/-- where the square of the square is the square, all that is reached is marked -/
theorem way_end {l : List ByteArray} (hl : substB l = true) {R : Nat → Nat → Int} (h : OnWay l R) (he : eqF (markF (timesF l.length R R)) R = true) {c : Nat} (hc : c < l.length) (a : Nat) : R a c = 1 ↔ Reached l c a := by
  have h4 := (subst_parts hl).2.1
  rw [eqF_iff] at he
  constructor
  · exact fun e => (h.2.1 a c e).2
  · intro hr
    induction hr with
    | refl => exact h.2.2.1 c hc
    | @step j i _ ho ih =>
      obtain ⟨hi, hj, hp⟩ := occ_mat hl ho
      rw [← he i c (by omega) (by omega)]
      exact (way_iff h i c).2 ⟨hc, j, by omega, h.2.2.2 i j hp, ih⟩
def sum16 (R : Nat → Nat → Int) : Int := R 0 0 + R 0 1 + R 0 2 + R 0 3 + R 1 0 + R 1 1 + R 1 2 + R 1 3 + R 2 0 + R 2 1 + R 2 2 + R 2 3 + R 3 0 + R 3 1 + R 3 2 + R 3 3
theorem sum16_nn {l : List ByteArray} {R : Nat → Nat → Int} (h : OnWay l R) : 0 ≤ sum16 R ∧ sum16 R ≤ 16 := by
  have q : ∀ i k, 0 ≤ R i k ∧ R i k ≤ 1 := fun i k => by rcases h.1 i k with e | e <;> rw [e] <;> decide
  unfold sum16
  have := q 0 0
  have := q 0 1
  have := q 0 2
  have := q 0 3
  have := q 1 0
  have := q 1 1
  have := q 1 2
  have := q 1 3
  have := q 2 0
  have := q 2 1
  have := q 2 2
  have := q 2 3
  have := q 3 0
  have := q 3 1
  have := q 3 2
  have := q 3 3
  omega
theorem sum16_more {R S : Nat → Nat → Int} (h : ∀ i k, R i k ≤ S i k) (he : eqF S R = false) : sum16 R + 1 ≤ sum16 S := by
  by_cases hlt : sum16 R + 1 ≤ sum16 S
  · exact hlt
  · exfalso
    have hne : ¬ eqF S R = true := by rw [he]; decide
    apply hne
    unfold eqF eqR
    unfold sum16 at hlt
    have := h 0 0
    have := h 0 1
    have := h 0 2
    have := h 0 3
    have := h 1 0
    have := h 1 1
    have := h 1 2
    have := h 1 3
    have := h 2 0
    have := h 2 1
    have := h 2 2
    have := h 2 3
    have := h 3 0
    have := h 3 1
    have := h 3 2
    have := h 3 3
    simp only [Bool.and_eq_true, beq_iff_eq]
    omega

set_option maxHeartbeats 2000000 in
set_option maxRecDepth 100000 in
theorem implReach (l : List ByteArray) (hl : substB l = true) (w : World) :
    Calls Try.prog 64 #[.agg (sqA l.length (at2 (matL l)))] w fun e w' => ∃ R, e = .returned (.agg (sqA l.length R)) ∧ (∀ c, c < l.length → ∀ a, R a c = 1 ↔ Reached l c a) ∧ Below w.heap.size w w' := by
  have hl4 := (subst_parts hl).2.1
  have HSB := Lib.hid hl
  have hz := sqA_zero l.length (at2 (matL l))
  clear hl
  go_enter Try.func64, Try.ntmps64
  go_wp2_with fail
  go_loopw [8] (fun i w' => ∃ k : Nat, k ≤ l.length ∧ i = .int .i64 k ∧ Arr w' w.heap.size 67 w.heap.size (sqA l.length (dgF (at2 (matL l)) k)) ∧ Arr w' w.heap.size 67 (w.heap.size + 1) (sqA 0 fun _ _ => 0) ∧ Below w.heap.size w w') (fun i _ => l.length - (intOf i).toNat)
  case atStart =>
    refine ⟨0, by omega, rfl, ?_, ?_, ((Below.refl _ _).alloc (Nat.le_refl _) _).alloc (by simp) _⟩
    · rw [dgF_zero]
      exact (Arr.made _ _ _ _ (Nat.le_refl _) (by simp [sqA_size, maxLen])).alloc _
    · have := Arr.made (w.alloc (.cells (sqA l.length (at2 (matL l))) 67)) w.heap.size 67 (sqA 0 fun _ _ => 0) (by simp) (by simp [sqA_size, maxLen])
      simp only [World.size_alloc] at this
      exact this
  case round =>
    obtain ⟨k, hk, rfl, hm, hres, hb⟩ := hrel
    obtain ⟨wo, rfl⟩ : ∃ x : World, x = wr := ⟨_, rfl⟩
    have HM := Lib.hid hm
    have HR := Lib.hid hres
    have HB := Lib.hid hb
    by_cases hlt : k < l.length
    · have hk4 : k < 4 := by omega
      have g3 := hm.frozen (1 + k * 4 + k)
      have g2 := hm.cell _ _ (sqA_get l.length _ k k hk4 hk4)
      clear hm hres hb
      go_wp2_with fail
      go_roundw
      case rel =>
        refine ⟨k + 1, by omega, by go_num, HM.out.set (1 + k * 4 + k) _ ?_, HR.out.other (by simp <;> omega) _, HB.out.setCell (by simp <;> omega) _⟩
        rw [sqA_set _ _ _ _ _ hk4 hk4, dgF_succ]
      case measure => simp [intOf]; omega
    · have hkn : k = l.length := by omega
      subst hkn
      clear hm hres hb
      go_wp2_with (with_reducible refine load_arr rfl 67 (.tmp 1) rfl w.heap.size _ _ _ rfl HM.out 17 sq_ty rfl ?_)
      refine (implMarked _ _ _).mono ?_
      rintro e w3 ⟨rfl, hb3⟩
      have HW := Lib.hid (way_start HSB.out)
      have HR3 := Lib.hid (HR.out.below hb3)
      have HB3 := Lib.hid (HB.out.trans (hb3.mono HB.out.size))
      have hlt3 := (HR3.out.lt).2
      clear hb3
      generalize markF (dgF (at2 (matL l)) l.length) = R0 at HW ⊢
      go_wp2_with (with_reducible refine store_new rfl 67 (.tmp 4) (.tmp 18) rfl w3.heap.size _ (sqA l.length R0) rfl rfl rfl 17 sq_ty rfl rfl (sqA_one _ _) ?_)
      rw [show ∀ (a : Act) (v : Value), a.put none v = a from fun _ _ => rfl]
      go_loopg [19] 16 (fun gk _ w' => ∃ R, OnWay l R ∧ 16 ≤ sum16 R + gk ∧ Arr w' w.heap.size 67 (w.heap.size + 1) (sqA 0 fun _ _ => 0) ∧ Arr w' w.heap.size 67 w3.heap.size (sqA l.length R) ∧ Below w.heap.size w w')
      case atStart => exact ⟨R0, HW.out, by have := (sum16_nn HW.out).1; omega, HR3.out.alloc _, Arr.made _ _ _ _ HB3.out.size (by simp [sqA_size, maxLen]), HB3.out.alloc HB3.out.size _⟩
      case round =>
        obtain ⟨R, hw, hsum, hres, hp, hb⟩ := hrel
        obtain ⟨wo2, rfl⟩ : ∃ x : World, x = wr := ⟨_, rfl⟩
        have HW := Lib.hid hw
        have HS := Lib.hid hsum
        have HR := Lib.hid hres
        have HP := Lib.hid hp
        have HB := Lib.hid hb
        clear hw hsum hres hp hb
        go_wp2_with (with_reducible refine load_arr rfl 67 (.tmp 4) rfl w3.heap.size _ _ _ rfl HP.out 17 sq_ty rfl ?_)
        refine (implTimes l.length l.length R R hl4 (fun c _ => small_01 HW.out.1 (fun q c => way_nn HW.out q c) c) _).mono ?_
        rintro e w5 ⟨rfl, hb5⟩
        have HP5 := Lib.hid (HP.out.below hb5)
        have HR5 := Lib.hid (HR.out.below hb5)
        have HB5 := Lib.hid (HB.out.trans (hb5.mono HB.out.size))
        clear hb5
        go_wp2_with fail
        refine (implMarked _ _ _).mono ?_
        rintro e w6 ⟨rfl, hb6⟩
        have HP6 := Lib.hid ((HP5.out.below hb6).alloc (.cells (sqA l.length (markF (timesF l.length R R))) 67))
        have HR6 := Lib.hid ((HR5.out.below hb6).alloc (.cells (sqA l.length (markF (timesF l.length R R))) 67))
        have HB6' := Lib.hid (HB5.out.trans (hb6.mono HB5.out.size))
        have HB6 := Lib.hid (HB6'.out.alloc HB6'.out.size (.cells (sqA l.length (markF (timesF l.length R R))) 67))
        have HQ6 : Hid (Arr (w6.alloc (.cells (sqA l.length (markF (timesF l.length R R))) 67)) w.heap.size 67 w6.heap.size (sqA l.length (markF (timesF l.length R R)))) := Arr.made _ _ _ _ HB6'.out.size (by simp [sqA_size, maxLen])
        have HNX := Lib.hid (way_next HSB.out HW.out)
        have HMO := Lib.hid (way_more HSB.out HW.out)
        have HEN : Hid (eqF (markF (timesF l.length R R)) R = true → ∀ c, c < l.length → ∀ a, R a c = 1 ↔ Reached l c a) := fun he c hc a => way_end HSB.out HW.out he hc a
        have heq : ∀ w, (Op.equalIn 10000 67 (.agg (sqA l.length (markF (timesF l.length R R)))) (.agg (sqA l.length R))).run Try.prog w = .ok (eqF (markF (timesF l.length R R)) R) w := fun w => by
          have := sq_eq l.length l.length (markF (timesF l.length R R)) R w
          rwa [beq_self_eq_true, Bool.true_and] at this
        clear hb6
        generalize markF (timesF l.length R R) = S at HP6 HR6 HB6 HQ6 HNX HMO HEN heq ⊢
        cases hE : eqF S R
        · have HE := Lib.hid hE
          rw [hE] at heq
          clear hE
          go_wp2_with (first
            | (with_reducible refine store_new rfl 67 (.tmp 5) (.tmp 22) rfl w6.heap.size _ (sqA l.length S) rfl rfl rfl 17 sq_ty rfl rfl (sqA_one _ _) ?_)
            | (with_reducible refine load_arr rfl 67 (.tmp 5) rfl w6.heap.size _ _ _ rfl HQ6.out 17 sq_ty rfl ?_)
            | (with_reducible refine load_arr rfl 67 (.tmp 4) rfl w3.heap.size _ _ _ rfl HP6.out 17 sq_ty rfl ?_)
            | (with_reducible refine store_arr rfl 67 (.tmp 4) (.tmp 27) rfl w3.heap.size _ _ (sqA l.length S) rfl rfl HP6.out 17 sq_ty rfl rfl (sqA_one _ _) ?_))
          have hmore := sum16_more HMO.out HE.out
          have hmax := (sum16_nn HNX.out).2
          have hs0 := HS.out
          go_roundg (gk - 1)
          case measure => omega
          case rel => exact ⟨S, HNX.out, by omega, HR6.out.otherRow (by omega) _, HP6.out.row (c' := sqA l.length S) rfl, below_row HB6.out HB3.out.size _⟩
        · have HE := Lib.hid (HEN.out hE)
          rw [hE] at heq
          clear hE
          go_wp2_with (first
            | (with_reducible refine store_new rfl 67 (.tmp 5) (.tmp 22) rfl w6.heap.size _ (sqA l.length S) rfl rfl rfl 17 sq_ty rfl rfl (sqA_one _ _) ?_)
            | (with_reducible refine load_arr rfl 67 (.tmp 5) rfl w6.heap.size _ _ _ rfl HQ6.out 17 sq_ty rfl ?_)
            | (with_reducible refine load_arr rfl 67 (.tmp 4) rfl w3.heap.size _ _ _ rfl HP6.out 17 sq_ty rfl ?_)
            | (with_reducible refine store_arr rfl 67 (.tmp 2) (.tmp 26) rfl (w.heap.size + 1) _ _ (sqA l.length R) rfl rfl HR6.out 17 sq_ty rfl rfl (sqA_one _ _) ?_))
          exact post_arr 67 rfl rfl (HR6.out.row (c' := sqA l.length R) rfl) sq_ty rfl rfl ⟨R, rfl, HE.out, below_row HB6.out (by omega) _⟩
theorem outTo_stop (s : Nat → Bool) (n : Nat) (h : ∀ i, n ≤ i → s i = false) : ∀ m, n ≤ m → outTo s m = outTo s n
  | 0, hm => by rw [show n = 0 by omega]
  | m + 1, hm => by
    by_cases e : n = m + 1
    · rw [e]
    · unfold outTo
      rw [outTo_stop s n h m (by omega), h m (by omega)]
      cases n <;> simp [outTo]
theorem outTo_snoc (s : Nat → Bool) (j : Nat) (h : s j = true) : outTo s (j + 1) = outTo s j ++ [letterN j] := by
  show outTo s j ++ (if s j = true then [letterN j] else []) = _
  rw [if_pos h]
theorem outTo_same (s : Nat → Bool) (j : Nat) (h : s j = false) : outTo s (j + 1) = outTo s j := by
  show outTo s j ++ (if s j = true then [letterN j] else []) = _
  rw [h]
  simp

set_option maxHeartbeats 2000000 in
set_option maxRecDepth 100000 in
theorem implReachedBy (l : List ByteArray) (v : Value) (t : ByteArray) (w : World) (h : Lst w v (strs l)) (hz : ∀ x ∈ l, x.size ≤ 1048576) (hn : l.length ≤ 1048576) (ht : t.size ≤ 1048576) :
    Calls Try.prog 23 #[.agg #[v], .string t] w fun e w' => e = .returned (.string (reachR l t)) ∧ Below w.heap.size w w' := by
  obtain ⟨i0, hi0, hz0, hz1, hz2⟩ := info_parts u8_info
  obtain ⟨A, cp, rfl⟩ := lst_slice h
  rw [strs_length] at h ⊢
  have hb0 : Below w.heap.size w (w.alloc (.cells #[.slice A l.length cp] 25)) := (Below.refl _ _).alloc (Nat.le_refl _) _
  have HL := Lib.hid (h.below hb0)
  have HZ := Lib.hid hz
  have HB0 := Lib.hid hb0
  clear h hz hb0
  by_cases h0 : (letOk l t && substB l) = true
  · have HS := Lib.hid h0
    rw [Bool.and_eq_true] at h0
    obtain ⟨hle, hsb⟩ := h0
    obtain ⟨hl1, hl4, _⟩ := subst_parts hsb
    have HSB := Lib.hid hsb
    unfold letOk at hle
    rw [Bool.and_eq_true, Bool.and_eq_true, decide_eq_true_eq, decide_eq_true_eq] at hle
    obtain ⟨⟨ht1, htw⟩, hlt⟩ := hle
    obtain ⟨hla, hl3⟩ := letN_at ht1 htw
    have HLA := Lib.hid (fun w => letterAt ((t[0]'(by omega)).toNat : Int) (letN t : Int) w (by omega) (by omega) (by omega))
    have HLT := Lib.hid hlt
    obtain ⟨s, HV, HSI⟩ : ∃ s : Nat → Bool, Hid (reachR l t = ⟨(outTo s 4).toArray⟩) ∧ Hid (∀ i, s i = true ↔ Reached l (letN t) i) := by
      refine ⟨fun i => @decide (Reached l (letN t) i) (Classical.propDecidable _), ?_, fun i => ⟨fun e => @of_decide_eq_true _ (Classical.propDecidable _) e, fun e => @decide_eq_true _ (Classical.propDecidable _) e⟩⟩
      show reachR l t = _
      unfold reachR
      rw [HS.out, if_pos rfl]
      congr 2
      refine (outTo_stop _ l.length (fun i hi => ?_) 4 hl4).symm
      refine @decide_eq_false _ (Classical.propDecidable _) (fun hr => ?_)
      have hr2 : ∀ a, Reached l (letN t) a → a < l.length := by
        intro a ha
        induction ha with
        | refl => exact hlt
        | step _ ho _ => exact (occ_mat hsb ho).1
      have := hr2 i hr
      omega
    clear hsb hlt hla htw
    go_enter Try.func23, Try.ntmps23
    go_wp2_with fail
    refine (implHasLetter A l cp t _ HL.out HZ.out hn ht).mono ?_
    rintro e w1 ⟨rfl, hb1⟩
    rw [HS.out]
    have HB1 : Hid (Below w.heap.size w w1) := HB0.out.trans (hb1.mono (by simp))
    have ccp0 : w1.cell? ⟨w.heap.size, 0, none⟩ = some (.slice A l.length cp) := (hb1.cell (p := ⟨w.heap.size, 0, none⟩) (by simp)).trans (by go_simp)
    have zzp0 : w.heap.size < w1.heap.size := by have := hb1.size; simp at this; omega
    have HL1 := Lib.hid (HL.out.below hb1)
    clear hb1
    go_upto_region 4 with (fail)
    go_cut [5, 18, 19] (fun b u i wx => b = .slice none 0 0 ∧ i = .int .i64 0 ∧ (∃ R : Nat → Nat → Int, u = .agg (rowA fun i => R i (letN t)) ∧ ∀ a, R a (letN t) = 1 ↔ s a = true) ∧ Below w1.heap.size w1 wx)
    case first =>
      have HBc : Hid (Below w1.heap.size w1 w1.drew) := below_drewN (Below.refl _ _) 1
      go_region_held3 (fun w' => w'.cell? ⟨w.heap.size, 0, none⟩ = some (.slice A l.length cp))
        (first | exact ccp0 | assumption | (go_simp; done))
        (first
          | (go_at_call 50
             refine (implMatrix l _ _ (HL1.out.below HBc.out) HSB.out).mono ?_
             rintro e wc ⟨rfl, hb⟩
             replace ccp0 : wc.cell? ⟨w.heap.size, 0, none⟩ = some (.slice A l.length cp) := (hb.cell (p := ⟨w.heap.size, 0, none⟩) (by first | assumption | (simp; omega) | simp)).trans (by first | assumption | go_simp)
             have hstwt := hb.size
             try simp at hstwt
             replace zzp0 : w.heap.size < wc.heap.size := by omega
             replace HBc : Hid (Below w1.heap.size w1 wc) := HBc.out.trans (hb.mono HBc.out.size)
             clear hb)
          | (go_at_call 64
             refine (implReach l HSB.out _).mono ?_
             rintro e wd ⟨R, rfl, hR, hb⟩
             have HRR := Lib.hid hR
             replace ccp0 : wd.cell? ⟨w.heap.size, 0, none⟩ = some (.slice A l.length cp) := (hb.cell (p := ⟨w.heap.size, 0, none⟩) (by first | assumption | (simp; omega) | simp)).trans (by first | assumption | go_simp)
             have hstwt := hb.size
             try simp at hstwt
             replace zzp0 : w.heap.size < wd.heap.size := by omega
             replace HBc : Hid (Below w1.heap.size w1 wd) := HBc.out.trans (hb.mono HBc.out.size)
             clear hb hR)
          | (go_at_call 66
             refine (HLA.out _).mono ?_
             rintro e wf ⟨rfl, rfl⟩)
          | (go_at_call 65
             refine (implColumn l.length R (letN t) (by omega) _).mono ?_
             rintro e wg ⟨rfl, hb⟩
             replace ccp0 : wg.cell? ⟨w.heap.size, 0, none⟩ = some (.slice A l.length cp) := (hb.cell (p := ⟨w.heap.size, 0, none⟩) (by first | assumption | (simp; omega) | simp)).trans (by first | assumption | go_simp)
             replace HBc : Hid (Below w1.heap.size w1 wg) := HBc.out.trans (hb.mono HBc.out.size)
             clear hb))
      all_goals
        go_wp2_with fail
        go_meet
        exact ⟨rfl, rfl, ⟨R, rfl, fun a => (HRR.out _ HLT.out a).trans (HSI.out a).symm⟩, HBc.out⟩
    case rest =>
      obtain ⟨rfl, rfl, ⟨R, rfl, hR⟩, hbx⟩ := hcut
      have HRS := Lib.hid hR
      have HBX := Lib.hid (HB1.out.trans (hbx.mono HB1.out.size))
      clear hbx ccp0 hR
      go_wp2_with fail
      go_loopw [5, 19] (fun b i w' => ∃ j : Nat, j ≤ 4 ∧ i = .int .i64 j ∧ w'.ownsRow w.heap.size 5 1 b (outTo s j).length (byteCells (outTo s j)) ∧ Below w.heap.size w w') (fun _ i _ => 4 - (intOf i).toNat)
      case atStart => exact ⟨0, by omega, rfl, World.ownsRow_nil _ _ _ _, HBX.out⟩
      case round =>
        obtain ⟨j, hj, rfl, ho, hb⟩ := hrel
        obtain ⟨wo, rfl⟩ : ∃ x : World, x = wr := ⟨_, rfl⟩
        obtain ⟨A5, cp5, rfl⟩ := own_slice ho
        have HO := Lib.hid ho
        have HB := Lib.hid hb
        have hszw := hb.size
        have hol := outTo_length s j
        clear ho hb
        by_cases hlt2 : j < 4
        · have q1 : IntKind.u8.wrap ((97 : Int) + (j : Int)) = ((letterN j).toNat : Int) := by rw [IntWalk.u8_in _ (by omega), letterN_toNat _ (by omega)]; omega
          by_cases hr : R j (letN t) = 1
          · have d1 : (R j (letN t) == 1) = true := by simpa using hr
            have HSN := Lib.hid (outTo_snoc s j ((HRS.out j).1 hr))
            go_wp2_with (first
              | (with_reducible refine index_row rfl 64 Try.underlying64 (.tmp 18) (.tmp 19) rfl (fun i => R i (letN t)) j rfl rfl hlt2 ?_)
              | (at_builtin
                 refine wpList_append1 _ rfl (.tmp 25) (.tmp 29) _ rfl w.heap.size 5 i0 _ 1 Try.underlying22 hi0 hz0 hz1 hz2 rfl _ (outTo s j).length _ rfl HO.out (.int .u8 ((letterN j).toNat : Int)) rfl rfl (by unfold maxLen; omega) (by omega) (by omega) ?_
                 intro v' w3 hown3 hbl3
                 have HOW := Lib.hid hown3
                 have HBW := Lib.hid hbl3
                 clear hown3 hbl3))
            go_roundw
            case rel =>
              refine ⟨j + 1, by omega, by go_num, ?_, HB.out.trans HBW.out⟩
              rw [HSN.out, byteCells_snoc, List.length_append]
              exact HOW.out
            case measure => simp [intOf]; omega
          · have d1 : (R j (letN t) == 1) = false := by simpa using hr
            have HSN := Lib.hid (outTo_same s j (by by_cases e : s j = true; exact absurd ((HRS.out j).2 e) hr; simpa using e))
            go_wp2_with (with_reducible refine index_row rfl 64 Try.underlying64 (.tmp 18) (.tmp 19) rfl (fun i => R i (letN t)) j rfl rfl hlt2 ?_)
            go_roundw
            case rel => exact ⟨j + 1, by omega, by go_num, by rw [HSN.out]; exact HO.out, HB.out⟩
            case measure => simp [intOf]; omega
        · have hj4 : j = 4 := by omega
          subst hj4
          have hconv := conv_own HO.out
          go_wp2_with fail
          go_ret
          exact ⟨by rw [HV.out]; rfl, HB.out⟩
  · have h0' : (letOk l t && substB l) = false := by simpa only [Bool.not_eq_true] using h0
    have HS := Lib.hid h0'
    have HV : Hid (reachR l t = ⟨#[]⟩) := by show reachR l t = _; unfold reachR; rw [if_neg h0]
    clear h0 h0'
    go_enter Try.func23, Try.ntmps23
    go_wp2_with fail
    refine (implHasLetter A l cp t _ HL.out HZ.out hn ht).mono ?_
    rintro e w1 ⟨rfl, hb1⟩
    rw [HS.out]
    have HB1 : Hid (Below w.heap.size w w1) := HB0.out.trans (hb1.mono (by simp))
    clear hb1
    go_wp2_with fail
    go_ret
    exact ⟨by rw [HV.out]; rfl, HB1.out⟩
end Go.Proofs.Ytgidfainoijcmaa
