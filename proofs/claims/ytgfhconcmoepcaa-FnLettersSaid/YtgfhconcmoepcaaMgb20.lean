/- Texts put together. -/
import Derived.Test.YtgfhconcmoepcaaMgb18
import Derived.Test.YtgfhconcmoepcaaMgb19
import Derived.Deep.QuietTactic
import Derived.BigQuiet
import Derived.Test.YtgfhconcmoepcaaMgb15
import Derived.Test.YtgfhconcmoepcaaMgb5
import Derived.Deep.LoopGhost
/- ShiftWord and BeforeWord of the program. Condition: texts of at most 2^20 bytes. -/
namespace Go.Proofs.Ytgfhconcmoepcaa
open Go.RowKit

theorem implBeforeWord (s t : ByteArray) (w : World) (hs : s.size ≤ 1048576) (ht : t.size ≤ 1048576) :
    Calls Try.prog 42 #[.string s, .string t] w fun e w' => e = .returned (.bool (beforeR s t)) ∧ Below w.heap.size w w' := by
  have HR : Hid (beforeR s t = (wordB s && (wordB t && Op.bytesLess s.toList t.toList))) := rfl
  cases h1 : wordB s
  · go_enter Try.func42, Try.ntmps42
    go_wp2_with fail
    refine (implWordOk s _ hs).mono ?_
    rintro e w1 ⟨rfl, hb1⟩
    go_wp2_with fail
    go_ret
    exact ⟨ret_bool (by rw [HR.out, h1]; rfl), hb1⟩
  · cases h2 : wordB t
    · go_enter Try.func42, Try.ntmps42
      go_wp2_with fail
      refine (implWordOk s _ hs).mono ?_
      rintro e w1 ⟨rfl, hb1⟩
      go_wp2_with fail
      refine (implWordOk t _ ht).mono ?_
      rintro e w2 ⟨rfl, hb2⟩
      go_wp2_with fail
      go_ret
      exact ⟨ret_bool (by rw [HR.out, h1, h2]; rfl), hb1.trans (hb2.mono hb1.size)⟩
    · go_enter Try.func42, Try.ntmps42
      go_wp2_with fail
      refine (implWordOk s _ hs).mono ?_
      rintro e w1 ⟨rfl, hb1⟩
      go_wp2_with fail
      refine (implWordOk t _ ht).mono ?_
      rintro e w2 ⟨rfl, hb2⟩
      go_wp2_with fail
      go_ret
      exact ⟨ret_bool (by rw [HR.out, h1, h2]; rfl), hb1.trans (hb2.mono hb1.size)⟩

theorem implShiftWord (s : ByteArray) (k : Int) (w : World) (hs : s.size ≤ 1048576) :
    Calls Try.prog 25 #[.string s, .int .i64 k] w fun e w' => e = .returned (.string (shiftR s k)) ∧ Below w.heap.size w w' := by
  by_cases h1 : wordB s = true
  · have h400 := word_size h1
    by_cases h2 : 0 ≤ k
    · have d1 : decide (k < (0 : Int)) = false := by simpa using h2
      by_cases h3 : k ≤ s.size
      · have hr : shiftR s k = s.extract k.toNat s.size ++ s.extract 0 k.toNat := if_pos ⟨h1, h2, h3⟩
        obtain ⟨j, rfl⟩ := Int.eq_ofNat_of_zero_le h2
        rw [Int.toNat_natCast] at hr
        have HR := Lib.hid hr
        have hj : j ≤ s.size := by omega
        have d2 : decide ((s.size : Int) < (j : Int)) = false := by simp; omega
        clear hr h2 h3
        go_enter Try.func25, Try.ntmps25
        go_wp2_with fail
        refine (implWordOk s _ hs).mono ?_
        rintro e w1 ⟨rfl, hb1⟩
        go_wp2_with fail
        have hz1 : (s.extract j s.size).size ≤ 400 := by rw [ByteArray.size_extract]; omega
        have hz2 : (s.extract 0 j).size ≤ 400 := by rw [ByteArray.size_extract]; omega
        go_quiet (fail)
        go_wp2_with fail
        go_ret
        exact ⟨ret_str HR.out.symm, below_drewN hb1 _⟩
      · have hr : shiftR s k = ⟨#[]⟩ := if_neg (fun h => h3 h.2.2)
        have HR := Lib.hid hr
        have d2 : decide ((s.size : Int) < k) = true := by simp; omega
        clear hr h2 h3
        go_enter Try.func25, Try.ntmps25
        go_wp2_with fail
        refine (implWordOk s _ hs).mono ?_
        rintro e w1 ⟨rfl, hb1⟩
        go_wp2_with fail
        go_ret
        exact ⟨ret_str HR.out.symm, hb1⟩
    · have hr : shiftR s k = ⟨#[]⟩ := if_neg (fun h => h2 h.2.1)
      have HR := Lib.hid hr
      have d1 : decide (k < (0 : Int)) = true := by simpa using h2
      clear hr h2
      go_enter Try.func25, Try.ntmps25
      go_wp2_with fail
      refine (implWordOk s _ hs).mono ?_
      rintro e w1 ⟨rfl, hb1⟩
      go_wp2_with fail
      go_ret
      exact ⟨ret_str HR.out.symm, hb1⟩
  · have hr : shiftR s k = ⟨#[]⟩ := if_neg (fun h => h1 h.1)
    have HR := Lib.hid hr
    have h1' : wordB s = false := by simpa using h1
    clear hr h1
    go_enter Try.func25, Try.ntmps25
    go_wp2_with fail
    refine (implWordOk s _ hs).mono ?_
    rintro e w1 ⟨rfl, hb1⟩
    go_wp2_with fail
    go_ret
    exact ⟨ret_str HR.out.symm, hb1⟩
end Go.Proofs.Ytgfhconcmoepcaa

/- The mathematics of FnPowers, second part: runs, extension, beginnings, words that are reckoned. No program in it. -/
namespace Go.Proofs.Ytgfhconcmoepcaa
open Go.RowKit

/-! ### runs of one letter -/
theorem lr_spec (s : ByteArray) : ∀ k, k ≤ s.size → (1 ≤ k → 1 ≤ (lrTo s k).1 ∧ 1 ≤ (lrTo s k).2) ∧ (lrTo s k).2 ≤ k ∧ (∀ j, k - (lrTo s k).2 ≤ j → j + 1 < k → s.data.toList[j]? = s.data.toList[j + 1]?) ∧ ∃ i, i + (lrTo s k).1 ≤ k ∧ ∀ j, j + 1 < (lrTo s k).1 → s.data.toList[i + j]? = s.data.toList[i + j + 1]?
  | 0, _ => ⟨fun h => absurd h (by omega), Nat.le_refl _, fun j _ h => absurd h (by omega), 0, Nat.le_refl _, fun j h => absurd (show j + 1 < 0 from h) (by omega)⟩
  | k + 1, hk => by
    obtain ⟨a, b, c, i, d, e⟩ := lr_spec s k (by omega)
    by_cases h : 0 < k ∧ s.data.toList[k]? = s.data.toList[k - 1]?
    · rw [lr_yes h.1 h.2]
      have hrun : ∀ j, k + 1 - ((lrTo s k).2 + 1) ≤ j → j + 1 < k + 1 → s.data.toList[j]? = s.data.toList[j + 1]? := fun j h1 h2 => by
        by_cases hj : j + 1 = k
        · rw [hj, h.2]
          congr 1
          omega
        · exact c j (by omega) (by omega)
      refine ⟨fun _ => ⟨by show 1 ≤ max _ _; omega, by show 1 ≤ _ + 1; omega⟩, by show _ + 1 ≤ _; omega, hrun, ?_⟩
      by_cases hm : (lrTo s k).1 < (lrTo s k).2 + 1
      · refine ⟨k - (lrTo s k).2, by show _ + max _ _ ≤ _; omega, fun j hj => ?_⟩
        have hj' : j + 1 < max (lrTo s k).1 ((lrTo s k).2 + 1) := hj
        exact hrun _ (by omega) (by omega)
      · refine ⟨i, by show _ + max _ _ ≤ _; omega, fun j hj => ?_⟩
        have hj' : j + 1 < max (lrTo s k).1 ((lrTo s k).2 + 1) := hj
        exact e j (by omega)
    · rw [lr_no h]
      refine ⟨fun _ => ⟨by show 1 ≤ max _ _; omega, Nat.le_refl _⟩, by show 1 ≤ _; omega, fun j h1 h2 => ?_, ?_⟩
      · have h1' : k + 1 - 1 ≤ j := h1
        omega
      · by_cases hm : (lrTo s k).1 < 1
        · refine ⟨k, by show _ + max _ _ ≤ _; omega, fun j hj => ?_⟩
          have hj' : j + 1 < max (lrTo s k).1 1 := hj
          omega
        · refine ⟨i, by show _ + max _ _ ≤ _; omega, fun j hj => ?_⟩
          have hj' : j + 1 < max (lrTo s k).1 1 := hj
          exact e j (by omega)
theorem lr_run {s : ByteArray} (h : 1 < (lrTo s s.size).1) : ∃ i, RunAt s ((lrTo s s.size).1 - 1) 1 i := by
  obtain ⟨_, _, _, i, d, e⟩ := lr_spec s s.size (Nat.le_refl _)
  refine ⟨i, by omega, fun j hj => ?_⟩
  rw [e j (by omega)]
  congr 1
  omega
theorem lr_sq {s : ByteArray} (h : 1 < (lrTo s s.size).1) : repB s 1 0 = true := by
  obtain ⟨i, hi⟩ := lr_run h
  exact (repB_iff s 1 0).2 ⟨1, Nat.le_refl _, i, pz_less hi (by omega)⟩
theorem lr_cube {s : ByteArray} (h : 2 < (lrTo s s.size).1) : repB s 2 0 = true := by
  obtain ⟨i, hi⟩ := lr_run (show 1 < (lrTo s s.size).1 by omega)
  exact (repB_iff s 2 0).2 ⟨1, Nat.le_refl _, i, pz_less hi (by omega)⟩
theorem lr_zero (s : ByteArray) : (lrTo s s.size).1 = 0 ↔ s.size = 0 := by
  constructor
  · intro h
    by_cases h0 : s.size = 0
    · exact h0
    · have := ((lr_spec s s.size (Nat.le_refl _)).1 (by omega)).1
      omega
  · intro h
    rw [h]
    rfl

/-! ### beginnings -/
theorem run_pre {s x : ByteArray} (h : s.data.toList <+: x.data.toList) {m p i : Nat} (hi : i + p + m ≤ s.size) : RunAt s m p i ↔ RunAt x m p i := by
  obtain ⟨t, ht⟩ := h
  have hl : s.data.toList.length = s.size := by simp
  have hx : x.data.toList.length = x.size := by simp
  have hsx : s.size ≤ x.size := by
    rw [← hl, ← hx, ← ht, List.length_append]
    omega
  have hat : ∀ j, j < s.size → x.data.toList[j]? = s.data.toList[j]? := fun j hj => by
    rw [← ht, List.getElem?_append_left (by omega)]
  unfold RunAt
  constructor
  · rintro ⟨a, b⟩
    exact ⟨by omega, fun j hj => by rw [hat _ (by omega), hat _ (by omega)]; exact b j hj⟩
  · rintro ⟨a, b⟩
    refine ⟨hi, fun j hj => ?_⟩
    have := b j hj
    rwa [hat _ (by omega), hat _ (by omega)] at this
theorem rep_pre {s x : ByteArray} (h : s.data.toList <+: x.data.toList) {n e : Nat} (hr : repB s n e = true) : repB x n e = true := by
  obtain ⟨p, h1, i, h2⟩ := (repB_iff s n e).1 hr
  exact (repB_iff x n e).2 ⟨p, h1, i, (run_pre h h2.1).1 h2⟩
theorem free_pre {s x : ByteArray} (h : s.data.toList <+: x.data.toList) (hw : wordB s = true) {n e : Nat} (hr : freeR x n e = true) : freeR s n e = true := by
  unfold freeR at hr ⊢
  rw [Bool.and_eq_true] at hr
  rw [hw]
  cases hb : repB s n e
  · rfl
  · rw [rep_pre h hb] at hr
    cases hr.2
theorem more_pre (s : ByteArray) (c : UInt8) : s.data.toList <+: (s ++ (⟨#[c]⟩ : ByteArray)).data.toList := by
  rw [ByteArray.data_append, Array.toList_append]
  exact List.prefix_append _ _
theorem ext_free {s : ByteArray} {j : Nat} (hs : freeR s 1 0 = true) (h : extB s j = true) : freeR (s ++ ⟨#[letterN j]⟩) 1 0 = true := by
  unfold extB at h
  rw [Bool.and_eq_true, Bool.not_eq_true'] at h
  unfold freeR at hs ⊢
  rw [Bool.and_eq_true, Bool.not_eq_true'] at hs
  rw [h.1]
  cases hb : repB (s ++ ⟨#[letterN j]⟩) 1 0
  · rfl
  · exfalso
    obtain ⟨p, h1, i, h2⟩ := (repB_iff _ 1 0).1 hb
    rw [Nat.one_mul, Nat.add_zero] at h2
    have hz := more_size s j
    by_cases he : i + p + p ≤ s.size
    · have := (run_pre (more_pre s (letterN j)) he).2 h2
      rw [(repB_iff s 1 0).2 ⟨p, h1, i, by rw [Nat.one_mul, Nat.add_zero]; exact this⟩] at hs
      cases hs.2
    · have hsq := (pz_sq _ i p).2 ⟨h1, h2⟩
      have h21 := h2.1
      have := (endsB_iff (s ++ ⟨#[letterN j]⟩)).2 ⟨p, (pz_end _ _ p).2 ⟨by omega, Nat.le_refl _, by rw [show (s ++ ⟨#[letterN j]⟩ : ByteArray).size - 2 * p = i by omega]; exact hsq⟩⟩
      rw [this] at h
      cases h.2
theorem extF_some {s : ByteArray} : ∀ k j, extF s j k = ⟨#[]⟩ ∨ ∃ i, extB s i = true ∧ extF s j k = s ++ ⟨#[letterN i]⟩
  | 0, _ => .inl rfl
  | k + 1, j => by
    cases hb : extB s j
    · rw [extF_no hb]
      exact extF_some k (j + 1)
    · exact .inr ⟨j, hb, extF_yes hb⟩
theorem extR_some {s : ByteArray} (h : extR s ≠ ⟨#[]⟩) : freeR s 1 0 = true ∧ ∃ i, extR s = s ++ ⟨#[letterN i]⟩ ∧ freeR (extR s) 1 0 = true := by
  unfold extR at h ⊢
  cases hf : freeR s 1 0
  · rw [hf] at h
    exact absurd rfl h
  · rw [hf, if_pos rfl] at h
    rw [if_pos rfl]
    rcases extF_some (s := s) 3 0 with e | ⟨i, h1, e⟩
    · exact absurd e h
    · exact ⟨rfl, i, e, by rw [e]; exact ext_free hf h1⟩

/-! ### reckoned -/
def repC (l : List UInt8) (n e : Nat) : Bool :=
  (List.range l.length).any fun q => (List.range l.length).any fun i => decide (i + (q + 1) + (n * (q + 1) + e) ≤ l.length) && (List.range (n * (q + 1) + e)).all fun j => l[i + j]? == l[i + (q + 1) + j]?
theorem repC_eq (s : ByteArray) (n e : Nat) (hne : 1 ≤ n + e) : repB s n e = repC s.data.toList n e := by
  have hl : s.data.toList.length = s.size := by simp
  rw [Bool.eq_iff_iff, repB_iff]
  unfold repC
  simp only [List.any_eq_true, List.mem_range, Bool.and_eq_true, decide_eq_true_eq, List.all_eq_true, beq_iff_eq]
  constructor
  · rintro ⟨p, h1, i, h2, h3⟩
    have hpos : 1 ≤ n * p + e := by
      rcases Nat.eq_zero_or_pos e with he | he
      · have := Nat.mul_le_mul (show 1 ≤ n by omega) h1; omega
      · omega
    refine ⟨p - 1, by omega, i, by omega, ?_⟩
    rw [show p - 1 + 1 = p by omega]
    exact ⟨by omega, fun j hj => h3 j hj⟩
  · rintro ⟨q, _, i, _, h2, h3⟩
    exact ⟨q + 1, by omega, i, by omega, fun j hj => h3 j hj⟩
def endsC (l : List UInt8) : Bool := (List.range l.length).any fun q => decide (2 * (q + 1) ≤ l.length) && (List.range (q + 1)).all fun j => l[l.length - 2 * (q + 1) + j]? == l[l.length - (q + 1) + j]?
theorem endsC_eq (s : ByteArray) : endsB s = endsC s.data.toList := by
  have hl : s.data.toList.length = s.size := by simp
  rw [Bool.eq_iff_iff, endsB_iff]
  unfold endsC
  simp only [List.any_eq_true, List.mem_range, Bool.and_eq_true, decide_eq_true_eq, List.all_eq_true, beq_iff_eq]
  constructor
  · rintro ⟨h, hh⟩
    obtain ⟨a, _, b⟩ := (pz_end s s.size h).1 hh
    obtain ⟨c, d⟩ := (pz_sq s _ h).1 b
    refine ⟨h - 1, by omega, by omega, fun j hj => ?_⟩
    have := d.2 j (by omega)
    rw [show h - 1 + 1 = h by omega, hl, this]
    congr 1
    omega
  · rintro ⟨q, h1, h2, h3⟩
    refine ⟨q + 1, (pz_end s s.size (q + 1)).2 ⟨by omega, Nat.le_refl _, (pz_sq s _ (q + 1)).2 ⟨by omega, by omega, fun j hj => ?_⟩⟩⟩
    have := h3 j hj
    rw [hl] at this
    rw [this]
    congr 1
    omega
def cntC (L : Nat) : Nat → List UInt8 → Nat
  | 0, _ => 1
  | k + 1, l => sumJ (fun j => if endsC (l ++ [letterN j]) = true then 0 else cntC L k (l ++ [letterN j])) L
theorem sumJ_congr {f g : Nat → Nat} : ∀ j, (∀ i, f i = g i) → sumJ f j = sumJ g j
  | 0, _ => rfl
  | j + 1, h => by
    show sumJ f j + f j = sumJ g j + g j
    rw [sumJ_congr j h, h j]
theorem cntC_eq (L : Nat) : ∀ k s, cntW L k s = cntC L k s.data.toList
  | 0, _ => rfl
  | k + 1, s => by
    show sumJ _ L = sumJ _ L
    refine sumJ_congr L fun j => ?_
    show (if endsB (s ++ ⟨#[letterN j]⟩) = true then 0 else cntW L k (s ++ ⟨#[letterN j]⟩)) = if endsC (s.data.toList ++ [letterN j]) = true then 0 else cntC L k (s.data.toList ++ [letterN j])
    have e : (s ++ (⟨#[letterN j]⟩ : ByteArray)).data.toList = s.data.toList ++ [letterN j] := by rw [ByteArray.data_append, Array.toList_append]
    rw [endsC_eq, cntC_eq L k, e]
theorem cnt_24 : cntW 2 4 ⟨#[]⟩ = 0 := by rw [cntC_eq]; decide +kernel
theorem cnt_35 : cntW 3 5 ⟨#[]⟩ = 30 := by rw [cntC_eq]; decide +kernel
theorem cnt_34 : cntW 3 4 ⟨#[]⟩ = 18 := by rw [cntC_eq]; decide +kernel
end Go.Proofs.Ytgfhconcmoepcaa

/- The longest part with a period, and what is read off from it. No program in it. -/
namespace Go.Proofs.Ytgfhconcmoepcaa
open Go.RowKit

/-! ### the longest part with a period -/
/-- behind i places: the longest row of letters that agree with those p further on, and the row there -/
def lpTo (s : ByteArray) (p : Nat) : Nat → Nat × Nat
  | 0 => (0, 0)
  | i + 1 =>
    let y := lpTo s p i
    let r := if s.data.toList[i]? = s.data.toList[i + p]? then y.2 + 1 else 0
    (max y.1 r, r)
def lpN (s : ByteArray) (p : Nat) : Nat := (lpTo s p (s.size - p)).1
theorem lp_yes {s : ByteArray} {p i : Nat} (h : s.data.toList[i]? = s.data.toList[i + p]?) : lpTo s p (i + 1) = (max (lpTo s p i).1 ((lpTo s p i).2 + 1), (lpTo s p i).2 + 1) := by
  show (max (lpTo s p i).1 (if s.data.toList[i]? = s.data.toList[i + p]? then (lpTo s p i).2 + 1 else 0), if s.data.toList[i]? = s.data.toList[i + p]? then (lpTo s p i).2 + 1 else 0) = _
  rw [if_pos h]
theorem lp_no {s : ByteArray} {p i : Nat} (h : ¬ s.data.toList[i]? = s.data.toList[i + p]?) : lpTo s p (i + 1) = ((lpTo s p i).1, 0) := by
  show (max (lpTo s p i).1 (if s.data.toList[i]? = s.data.toList[i + p]? then (lpTo s p i).2 + 1 else 0), if s.data.toList[i]? = s.data.toList[i + p]? then (lpTo s p i).2 + 1 else 0) = _
  rw [if_neg h, Nat.max_eq_left (Nat.zero_le _)]
theorem lp_le (s : ByteArray) (p : Nat) : ∀ i, (lpTo s p i).1 ≤ i ∧ (lpTo s p i).2 ≤ i
  | 0 => ⟨Nat.le_refl _, Nat.le_refl _⟩
  | i + 1 => by
    have := lp_le s p i
    by_cases h : s.data.toList[i]? = s.data.toList[i + p]?
    · rw [lp_yes h]
      exact ⟨by show max _ _ ≤ _; omega, by show _ + 1 ≤ _; omega⟩
    · rw [lp_no h]
      exact ⟨by show (lpTo s p i).1 ≤ _; omega, Nat.zero_le _⟩
theorem lpN_le (s : ByteArray) (p : Nat) : lpN s p ≤ s.size - p := (lp_le s p _).1
theorem lp_spec (s : ByteArray) (p : Nat) : ∀ i,
    ((∀ j, i - (lpTo s p i).2 ≤ j → j < i → s.data.toList[j]? = s.data.toList[j + p]?) ∧ ((lpTo s p i).2 < i → ¬ s.data.toList[i - (lpTo s p i).2 - 1]? = s.data.toList[i - (lpTo s p i).2 - 1 + p]?)) ∧
    ((∃ k, k + (lpTo s p i).1 ≤ i ∧ ∀ j, j < (lpTo s p i).1 → s.data.toList[k + j]? = s.data.toList[k + j + p]?) ∧ ∀ k m, k + m ≤ i → (∀ j, j < m → s.data.toList[k + j]? = s.data.toList[k + j + p]?) → m ≤ (lpTo s p i).1)
  | 0 => ⟨⟨fun j _ h => absurd h (by omega), fun h => absurd h (by omega)⟩, ⟨0, Nat.le_refl _, fun j h => absurd (show j < 0 from h) (by omega)⟩, fun k m h _ => by show m ≤ 0; omega⟩
  | i + 1 => by
    obtain ⟨⟨a, b⟩, ⟨k0, c, d⟩, e⟩ := lp_spec s p i
    obtain ⟨l1, l2⟩ := lp_le s p i
    by_cases h : s.data.toList[i]? = s.data.toList[i + p]?
    · rw [lp_yes h]
      generalize lpTo s p i = y at a b c d e l1 l2
      have hrun : ∀ j, i + 1 - (y.2 + 1) ≤ j → j < i + 1 → s.data.toList[j]? = s.data.toList[j + p]? := fun j h1 h2 => by
        by_cases hj : j = i
        · subst hj; exact h
        · exact a j (by omega) (by omega)
      have hmax : ∀ k m, k + m ≤ i + 1 → (∀ j, j < m → s.data.toList[k + j]? = s.data.toList[k + j + p]?) → m ≤ max y.1 (y.2 + 1) := fun k m hk hm => by
        by_cases hki : k + m ≤ i
        · have := e k m hki hm
          omega
        · by_cases hr : m ≤ y.2 + 1
          · omega
          · exfalso
            refine b (by omega) ?_
            have := hm (i - y.2 - 1 - k) (by omega)
            rwa [show k + (i - y.2 - 1 - k) = i - y.2 - 1 by omega] at this
      refine ⟨⟨hrun, fun hl => ?_⟩, ?_, hmax⟩
      · show ¬ s.data.toList[i + 1 - (y.2 + 1) - 1]? = _
        have hl' : y.2 + 1 < i + 1 := hl
        rw [show i + 1 - (y.2 + 1) - 1 = i - y.2 - 1 by omega]
        exact b (by omega)
      · by_cases hm : y.1 < y.2 + 1
        · refine ⟨i - y.2, by show _ + max _ _ ≤ _; omega, fun j hj => ?_⟩
          have hj' : j < max y.1 (y.2 + 1) := hj
          exact hrun _ (by omega) (by omega)
        · refine ⟨k0, by show _ + max _ _ ≤ _; omega, fun j hj => ?_⟩
          have hj' : j < max y.1 (y.2 + 1) := hj
          exact d j (by omega)
    · rw [lp_no h]
      generalize lpTo s p i = y at a b c d e l1 l2
      refine ⟨⟨fun j h1 h2 => ?_, fun _ => ?_⟩, ⟨k0, by show k0 + y.1 ≤ _; omega, d⟩, fun k m hk hm => ?_⟩
      · have h1' : i + 1 - 0 ≤ j := h1
        omega
      · show ¬ s.data.toList[i + 1 - 0 - 1]? = s.data.toList[i + 1 - 0 - 1 + p]?
        rw [show i + 1 - 0 - 1 = i by omega]
        exact h
      · by_cases hki : k + m ≤ i ∨ m = 0
        · by_cases hm0 : m = 0
          · rw [hm0]; exact Nat.zero_le _
          · exact e k m (by omega) hm
        · exfalso
          refine h ?_
          have := hm (i - k) (by omega)
          rwa [show k + (i - k) = i by omega] at this
theorem run_swap {s : ByteArray} {m p i : Nat} : RunAt s m p i ↔ i + p + m ≤ s.size ∧ ∀ j, j < m → s.data.toList[i + j]? = s.data.toList[i + j + p]? := by
  unfold RunAt
  constructor
  · rintro ⟨h1, h2⟩
    exact ⟨h1, fun j hj => by rw [h2 j hj]; congr 1; omega⟩
  · rintro ⟨h1, h2⟩
    exact ⟨h1, fun j hj => by rw [h2 j hj]; congr 1; omega⟩
theorem lp_run {s : ByteArray} {p : Nat} (hp : p ≤ s.size) : (∃ i, RunAt s (lpN s p) p i) ∧ ∀ m i, RunAt s m p i → m ≤ lpN s p := by
  obtain ⟨_, ⟨k, c, d⟩, e⟩ := lp_spec s p (s.size - p)
  refine ⟨⟨k, run_swap.2 ⟨?_, d⟩⟩, fun m i h => ?_⟩
  · have c' : k + lpN s p ≤ s.size - p := c
    omega
  · obtain ⟨h1, h2⟩ := run_swap.1 h
    exact e i m (by omega) h2
/-- a repetition is there exactly if some period lasts for so long -/
theorem rep_lp (s : ByteArray) (n e : Nat) : repB s n e = true ↔ ∃ p, 1 ≤ p ∧ p ≤ s.size ∧ n * p + e ≤ lpN s p := by
  rw [repB_iff]
  constructor
  · rintro ⟨p, h1, i, h2⟩
    have hp : p ≤ s.size := by have := h2.1; omega
    exact ⟨p, h1, hp, (lp_run hp).2 _ _ h2⟩
  · rintro ⟨p, h1, h2, h3⟩
    obtain ⟨i, hi⟩ := (lp_run h2).1
    exact ⟨p, h1, i, pz_less hi h3⟩
theorem per_lp {s : ByteArray} {p : Nat} (hp : p ≤ s.size) : PerAt s p ↔ p + lpN s p = s.size := by
  have hle := lpN_le s p
  constructor
  · intro h
    have := (lp_run hp).2 (s.size - p) 0 (run_swap.2 ⟨by omega, fun j hj => by rw [Nat.zero_add]; exact h j (by omega)⟩)
    omega
  · intro h i hi
    obtain ⟨k, hk⟩ := (lp_run hp).1
    obtain ⟨h1, h2⟩ := run_swap.1 hk
    have hk0 : k = 0 := by omega
    subst hk0
    have := h2 i (by omega)
    rwa [Nat.zero_add] at this
theorem lr_lp (s : ByteArray) : ∀ k, lrTo s (k + 1) = ((lpTo s 1 k).1 + 1, (lpTo s 1 k).2 + 1)
  | 0 => by rw [lr_no (by omega)]; rfl
  | k + 1 => by
    have ih := lr_lp s k
    by_cases h : s.data.toList[k]? = s.data.toList[k + 1]?
    · rw [lr_yes (by omega) (by rw [Nat.add_sub_cancel]; exact h.symm), lp_yes h, ih]
      show (max ((lpTo s 1 k).1 + 1) ((lpTo s 1 k).2 + 1 + 1), (lpTo s 1 k).2 + 1 + 1) = (max (lpTo s 1 k).1 ((lpTo s 1 k).2 + 1) + 1, (lpTo s 1 k).2 + 1 + 1)
      congr 1
      omega
    · rw [lr_no (by rw [Nat.add_sub_cancel]; exact fun hh => h hh.2.symm), lp_no h, ih]
      show (max ((lpTo s 1 k).1 + 1) 1, 1) = ((lpTo s 1 k).1 + 1, 0 + 1)
      congr 1
      omega
theorem lr_one {s : ByteArray} (h : 1 ≤ s.size) : (lrTo s s.size).1 = 1 + lpN s 1 := by
  obtain ⟨k, hk⟩ : ∃ k, s.size = k + 1 := ⟨s.size - 1, by omega⟩
  unfold lpN
  rw [hk, lr_lp, Nat.add_sub_cancel]
  show (lpTo s 1 k).1 + 1 = _
  omega

/-! ### the greatest exponent -/
def gpTo (s : ByteArray) : Nat → Nat × Nat
  | 0 => (1, 1)
  | k + 1 => if (gpTo s k).1 * (k + 1) < (k + 1 + lpN s (k + 1)) * (gpTo s k).2 then (k + 1 + lpN s (k + 1), k + 1) else gpTo s k
theorem gp_yes {s : ByteArray} {k : Nat} (h : (gpTo s k).1 * (k + 1) < (k + 1 + lpN s (k + 1)) * (gpTo s k).2) : gpTo s (k + 1) = (k + 1 + lpN s (k + 1), k + 1) := if_pos h
theorem gp_no {s : ByteArray} {k : Nat} (h : ¬ (gpTo s k).1 * (k + 1) < (k + 1 + lpN s (k + 1)) * (gpTo s k).2) : gpTo s (k + 1) = gpTo s k := if_neg h
theorem gp_le (s : ByteArray) (hs : 1 ≤ s.size) : ∀ k, k ≤ s.size → (gpTo s k).1 ≤ s.size ∧ (gpTo s k).2 ≤ s.size ∧ 1 ≤ (gpTo s k).2
  | 0, _ => ⟨hs, hs, Nat.le_refl _⟩
  | k + 1, hk => by
    have ih := gp_le s hs k (by omega)
    have := lpN_le s (k + 1)
    by_cases h : (gpTo s k).1 * (k + 1) < (k + 1 + lpN s (k + 1)) * (gpTo s k).2
    · rw [gp_yes h]
      exact ⟨by show k + 1 + lpN s (k + 1) ≤ _; omega, hk, by show 1 ≤ k + 1; omega⟩
    · rw [gp_no h]
      exact ih
theorem frac_lt {a b c d e f : Nat} (h1 : a * d ≤ c * b) (h2 : c * f < e * d) (hb : 1 ≤ b) : a * f < e * b := by
  have e1 : a * d * f ≤ c * b * f := Nat.mul_le_mul_right f h1
  have e2 : c * f * b < e * d * b := Nat.mul_lt_mul_of_pos_right h2 (by omega)
  refine Nat.lt_of_mul_lt_mul_right (a := d) ?_
  calc a * f * d = a * d * f := Nat.mul_right_comm a f d
    _ ≤ c * b * f := e1
    _ = c * f * b := Nat.mul_right_comm c b f
    _ < e * d * b := e2
    _ = e * b * d := Nat.mul_right_comm e d b
theorem gp_spec (s : ByteArray) : ∀ k, 1 ≤ k → (1 ≤ (gpTo s k).2 ∧ (gpTo s k).2 ≤ k) ∧ (gpTo s k).1 = (gpTo s k).2 + lpN s (gpTo s k).2 ∧ (∀ q, 1 ≤ q → q ≤ k → (q + lpN s q) * (gpTo s k).2 ≤ (gpTo s k).1 * q) ∧ ∀ q, 1 ≤ q → q < (gpTo s k).2 → (q + lpN s q) * (gpTo s k).2 < (gpTo s k).1 * q
  | 0, h => absurd h (by omega)
  | 1, _ => by
    have hg : gpTo s 1 = (1 + lpN s 1, 1) := by
      by_cases h : (gpTo s 0).1 * (0 + 1) < (0 + 1 + lpN s (0 + 1)) * (gpTo s 0).2
      · exact gp_yes h
      · rw [show gpTo s 1 = gpTo s 0 from gp_no h]
        have h' : ¬ 1 * (0 + 1) < (0 + 1 + lpN s (0 + 1)) * 1 := h
        have h0 : lpN s 1 = 0 := by
          simp only [Nat.zero_add, Nat.mul_one] at h'
          omega
        show (1, 1) = _
        rw [h0]
    rw [hg]
    refine ⟨⟨Nat.le_refl _, Nat.le_refl _⟩, rfl, fun q h1 h2 => ?_, fun q h1 h2 => ?_⟩
    · have : q = 1 := by omega
      subst this
      exact Nat.le_refl _
    · have h2' : q < 1 := h2
      omega
  | k + 2, _ => by
    obtain ⟨⟨a1, a2⟩, b, c, d⟩ := gp_spec s (k + 1) (by omega)
    by_cases h : (gpTo s (k + 1)).1 * (k + 1 + 1) < (k + 1 + 1 + lpN s (k + 1 + 1)) * (gpTo s (k + 1)).2
    · rw [show gpTo s (k + 2) = _ from gp_yes h]
      generalize gpTo s (k + 1) = y at a1 a2 b c d h
      have hall : ∀ q, 1 ≤ q → q ≤ k + 1 → (q + lpN s q) * (k + 2) < (k + 2 + lpN s (k + 2)) * q := fun q h1 h2 => frac_lt (c q h1 h2) h h1
      refine ⟨⟨by show 1 ≤ k + 2; omega, Nat.le_refl _⟩, rfl, fun q h1 h2 => ?_, fun q h1 h2 => ?_⟩
      · by_cases hq : q = k + 2
        · subst hq; exact Nat.le_refl _
        · exact Nat.le_of_lt (hall q h1 (by omega))
      · have h2' : q < k + 2 := h2
        exact hall q h1 (by omega)
    · rw [show gpTo s (k + 2) = _ from gp_no h]
      refine ⟨⟨a1, by omega⟩, b, fun q h1 h2 => ?_, d⟩
      by_cases hq : q = k + 2
      · subst hq
        exact Nat.le_of_not_lt h
      · exact c q h1 (by omega)
def GexFirst (s : ByteArray) (x : Nat × Nat) : Prop := ∀ m i, 1 ≤ m → m < x.1 → i + m ≤ s.size → m * x.2 < x.1 * perN (s.extract i (i + m))
theorem gexRow_first {s : ByteArray} {n : Nat} (hn : 1 ≤ n) {y : Nat × Nat} (hy : GexGot s y) (ht : ∀ m i, 1 ≤ m → m < n → i + m ≤ s.size → GexTop s y m i) (hf : GexFirst s y) : ∀ k, k + n ≤ s.size + 1 → GexFirst s (gexRow s n y k)
  | 0, _ => hf
  | k + 1, hk => by
    have ih := gexRow_first hn hy ht hf k (by omega)
    obtain ⟨a, b, _⟩ := gexRow_spec hn hy ht k (by omega)
    by_cases hc : (gexRow s n y k).1 * perN (s.extract k (k + n)) < n * (gexRow s n y k).2
    · rw [gexRow_yes hc]
      intro m i h1 h2 h3
      exact frac_lt (b m i h1 h2 h3) hc (perN_le _).1
    · rw [gexRow_no hc]
      exact ih
theorem gexTo_first {s : ByteArray} (h0 : 1 ≤ s.size) : ∀ n, n + 1 ≤ s.size → GexFirst s (gexTo s n)
  | 0, _ => fun m i h1 h2 _ => absurd (show m < 1 from h2) (by omega)
  | n + 1, hn => by
    obtain ⟨a, b⟩ := gexTo_spec h0 n (by omega)
    exact gexRow_first (n := n + 2) (by omega) a b (gexTo_first h0 n (by omega)) (s.size + 1 - (n + 2)) (by omega)
theorem gex_gp {s : ByteArray} (h0 : 1 ≤ s.size) : gexTo s (s.size - 1) = gpTo s s.size := by
  obtain ⟨⟨a1, a2, i, a3, a4⟩, b⟩ := gexTo_spec h0 (s.size - 1) (by omega)
  have hf := gexTo_first h0 (s.size - 1) (by omega)
  obtain ⟨⟨c1, c2⟩, d, e, f⟩ := gp_spec s s.size h0
  generalize gexTo s (s.size - 1) = x at *
  generalize gpTo s s.size = y at *
  obtain ⟨n, p⟩ := x
  obtain ⟨L, P⟩ := y
  simp only at a1 a2 a3 a4 b c1 c2 d e f
  have hz := pz_size s i n a3
  obtain ⟨hp1, hp2⟩ := pz_per (s := s.extract i (i + n)) (by omega)
  rw [← a4] at hp1 hp2
  have hpn : p ≤ n := by
    have h := per_size (s.extract i (i + n))
    rw [hz] at h
    exact hp2 n a1 h
  have hrun : RunAt s (n - p) p i := (pz_run s (n - p) p i (by omega)).2 (by rw [show p + (n - p) = n by omega]; exact hp1)
  have hnp := (lp_run (s := s) (p := p) (by omega)).2 _ _ hrun
  have hA : n * P ≤ L * p := Nat.le_trans (Nat.mul_le_mul_right P (show n ≤ p + lpN s p by omega)) (e p a2 (by omega))
  obtain ⟨j, hj⟩ := (lp_run (s := s) (p := P) c2).1
  have hLs : j + L ≤ s.size := by have := hj.1; omega
  have hper := (pz_run s (lpN s P) P j (by have := hj.1; omega)).1 hj
  rw [← d] at hper
  have hzL := pz_size s j L hLs
  have hq := (pz_per (s := s.extract j (j + L)) (by omega)).2 P c1 hper
  have hT : L * p ≤ n * perN (s.extract j (j + L)) := b L j (by omega) (by omega) hLs
  have hB : L * p ≤ n * P := Nat.le_trans hT (Nat.mul_le_mul_left n hq)
  have hE : n * P = L * p := by omega
  have hnL : n ≤ L := by
    by_cases hh : L < n
    · have h1 : L * p < n * perN (s.extract j (j + L)) := hf L j (by omega) hh hLs
      have h2 : n * perN (s.extract j (j + L)) ≤ n * P := Nat.mul_le_mul_left n hq
      omega
    · omega
  have hPp : P ≤ p := by
    by_cases hh : p < P
    · have h1 := f p a2 hh
      have h2 : n * P ≤ (p + lpN s p) * P := Nat.mul_le_mul_right P (by omega)
      omega
    · omega
  have h1 : n * P ≤ L * P := Nat.mul_le_mul_right P hnL
  have h2 : L * P ≤ L * p := Nat.mul_le_mul_left L hPp
  have h3 : n * P = L * P := by omega
  have h4 : L * P = L * p := by omega
  have e1 : n = L := Nat.eq_of_mul_eq_mul_right (by omega) h3
  have e2 : P = p := Nat.eq_of_mul_eq_mul_left (by omega) h4
  rw [e1, e2]
end Go.Proofs.Ytgfhconcmoepcaa

/- The longest part with a period, in the program; hasPower; IsSquareFree, IsCubeFree, IsOverlapFree, LeastPeriod, LongestRun. Conditions: lengths. -/
namespace Go.Proofs.Ytgfhconcmoepcaa
open Go.RowKit

set_option maxHeartbeats 1000000 in
theorem implLwp (s : ByteArray) (p : Nat) (w : World) (hs : s.size ≤ 400) (h1 : 1 ≤ p) (h2 : p ≤ s.size) :
    Calls Try.prog 65 #[.string s, .int .i64 (p : Int)] w fun e w' => e = .returned (.int .i64 ((p + lpN s p : Nat) : Int)) ∧ Below w.heap.size w w' := by
  have HV : Hid (lpN s p = (lpTo s p (s.size - p)).1) := rfl
  rw [HV.out]
  clear HV
  have HY := Lib.hid (fun i h => lp_yes (s := s) (p := p) (i := i) h)
  have HN := Lib.hid (fun i h => lp_no (s := s) (p := p) (i := i) h)
  have HLE := Lib.hid (lp_le s p)
  have HZ : Hid (lpTo s p 0 = (0, 0)) := rfl
  generalize lpTo s p = f at HY HN HLE HZ ⊢
  go_enter Try.func65, Try.ntmps65
  go_wp2_with fail
  go_loopw [5, 6, 14] (fun a b c w' => ∃ i : Nat, i ≤ s.size - p ∧ a = .int .i64 ((p + (f i).1 : Nat) : Int) ∧ b = .int .i64 ((p + (f i).2 : Nat) : Int) ∧ c = .int .i64 (i : Int) ∧ Below w.heap.size w w') (fun _ _ c _ => s.size - (intOf c).toNat)
  case atStart => exact ⟨0, by omega, by rw [HZ.out]; rfl, by rw [HZ.out]; rfl, rfl, Below.refl _ _⟩
  case round =>
    obtain ⟨i, hi, rfl, rfl, rfl, hb⟩ := hrel
    obtain ⟨wo, rfl⟩ : ∃ y : World, y = wr := ⟨_, rfl⟩
    have HB := Lib.hid hb
    have hle := HLE.out i
    clear hb
    by_cases hip : i + p < s.size
    · have hi0 : i < s.size := by omega
      have hq1 : IntKind.i64.wrap ((i : Int) + (p : Int)) = (i : Int) + (p : Int) := IntWalk.i64_in _ (by omega)
      have hix : ∀ w : World, (Instr.index 54 (.string s) (.int .i64 (i : Int))).run Try.prog w = .ok (.int .u8 (s[i].toNat : Int)) w := fun w => index_at Try.underlying54 s _ i w hi0 rfl
      have hiy : ∀ w : World, (Instr.index 54 (.string s) (.int .i64 ((i : Int) + (p : Int)))).run Try.prog w = .ok (.int .u8 (s[i + p].toNat : Int)) w := fun w => index_at Try.underlying54 s _ (i + p) w hip (by omega)
      by_cases hc : s[i] = s[i + p]
      · have HF := Lib.hid (HY.out i ((same_at s i (i + p) hi0 hip).2 hc))
        rw [← hc] at hiy
        clear hc
        generalize s[i] = x at hix hiy
        generalize f i = y at hle HF ⊢
        obtain ⟨a, b⟩ := y
        simp only at hle ⊢
        go_wp2_with fail
        go_region
        go_wp2_with fail
        go_roundw
        case rel => exact ⟨i + 1, by omega, by rw [HF.out]; refine congrArg _ ?_; simp only; omega, by rw [HF.out]; refine congrArg _ ?_; simp only; omega, by go_num, below_drewN HB.out 1⟩
        case measure => simp [intOf]; omega
      · have HF := Lib.hid (HN.out i fun h => hc ((same_at s i (i + p) hi0 hip).1 h))
        have bne : (((s[i]).toNat : Int) == ((s[i + p]).toNat : Int)) = false := (num_other _ _).2 hc
        have bne2 : ¬ (s[i]).toNat = (s[i + p]).toNat := fun h => hc (UInt8.toNat.inj h)
        clear hc
        generalize s[i] = x at hix bne bne2
        generalize s[i + p] = z at hiy bne bne2
        generalize f i = y at hle HF ⊢
        obtain ⟨a, b⟩ := y
        simp only at hle ⊢
        go_wp2_with fail
        go_region
        go_wp2_with fail
        go_roundw
        case rel => exact ⟨i + 1, by omega, by rw [HF.out]; refine congrArg _ ?_; simp only; omega, by rw [HF.out]; refine congrArg _ ?_; simp only; omega, by go_num, below_drewN HB.out 1⟩
        case measure => simp [intOf]; omega
    · have HE : Hid (f i = f (s.size - p)) := by show _ = _; rw [show i = s.size - p by omega]
      go_wp2_with fail
      go_ret
      exact ⟨ret_int (by rw [HE.out]), HB.out⟩

theorem implWordOkB (s : ByteArray) (w : World) (hs : s.size ≤ 1048577) :
    Calls Try.prog 35 #[.string s] w fun e w' => e = .returned (.bool (wordB s)) ∧ Below w.heap.size w w' := by
  by_cases hl : s.size ≤ 1048576
  · exact implWordOk s w hl
  · have HE := Lib.hid (word_long (s := s) (by omega))
    have HO : Hid (∀ w, Calls Try.prog 73 #[.string s] w fun e w' => e = .returned (.bool false) ∧ Below w.heap.size w w') := by
      show ∀ w, _
      intro w
      go_enter Try.func73, Try.ntmps73
      go_wp2
      go_ret
      exact ⟨rfl, Below.refl _ _⟩
    go_enter Try.func35, Try.ntmps35
    go_wp2_with fail
    refine (HO.out _).mono ?_
    rintro e w' ⟨rfl, hb⟩
    go_wp2_with fail
    go_ret
    exact ⟨ret_bool HE.out.symm, hb⟩

set_option maxHeartbeats 400000 in
theorem implLeastPeriod (s : ByteArray) (w : World) (hs : s.size ≤ 1048576) :
    Calls Try.prog 19 #[.string s] w fun e w' => e = .returned (.int .i64 (perR s)) ∧ Below w.heap.size w w' := by
  cases hw : wordB s
  · have HW := Lib.hid hw
    have HV : Hid (perR s = -1) := by show _ = _; unfold perR; rw [hw]; rfl
    clear hw
    go_enter Try.func19, Try.ntmps19
    go_wp2_with fail
    refine (implWordOk s _ hs).mono ?_
    rintro e w1 ⟨rfl, hb⟩
    have HB := Lib.hid hb
    rw [HW.out]
    clear hb
    go_wp2_with fail
    go_ret
    exact ⟨ret_int HV.out.symm, HB.out⟩
  · have HW := Lib.hid hw
    have h4 := word_size hw
    have HV : Hid (perR s = if s.size = 0 then 0 else (perN s : Int)) := if_pos hw
    have HP : Hid (∀ p, 1 ≤ p → p ≤ s.size → p + lpN s p = s.size → (∀ q, 1 ≤ q → q < p → ¬ q + lpN s q = s.size) → perR s = (p : Int)) := fun p h1 h2 h3 h5 => by
      rw [HV.out, if_neg (by omega)]
      rw [perN_spec h1 h2 ((per_lp h2).2 h3) (fun r a b c => h5 r a b ((per_lp (by omega)).1 c))]
    have H0 : Hid ((∀ q, 1 ≤ q → q ≤ s.size → ¬ q + lpN s q = s.size) → perR s = 0) := fun h => by
      rw [HV.out]
      by_cases h0 : s.size = 0
      · rw [if_pos h0]
      · exact absurd ((per_lp (Nat.le_refl _)).1 (per_size s)) (h s.size (by omega) (Nat.le_refl _))
    have HL := Lib.hid (fun p w (h : 1 ≤ p ∧ p ≤ s.size) => implLwp s p w h4 h.1 h.2)
    have HLE := Lib.hid (lpN_le s)
    clear hw HV
    generalize perR s = rv at HP H0 ⊢
    generalize lpN s = f at HP H0 HL HLE
    go_enter Try.func19, Try.ntmps19
    go_wp2_with fail
    refine (implWordOk s _ hs).mono ?_
    rintro e w1 ⟨rfl, hb⟩
    have HB1 := Lib.hid hb
    rw [HW.out]
    clear hb
    go_wp2_with fail
    go_loopw [10] (fun c w' => ∃ i : Nat, i ≤ s.size ∧ c = .int .i64 (i : Int) ∧ (∀ q, 1 ≤ q → q ≤ i → ¬ q + f q = s.size) ∧ Below w.heap.size w w') (fun c _ => s.size - (intOf c).toNat)
    case atStart => exact ⟨0, by omega, rfl, fun p a b => absurd b (by omega), HB1.out⟩
    case round =>
      obtain ⟨i, hi, rfl, hno, hb⟩ := hrel
      obtain ⟨wo, rfl⟩ : ∃ y : World, y = wr := ⟨_, rfl⟩
      have HN := Lib.hid hno
      have HB := Lib.hid hb
      clear hno hb
      by_cases hlt : i < s.size
      · have HLI := Lib.hid (fun w => HL.out (i + 1) w ⟨by omega, by omega⟩)
        have e1 : ((i + 1 : Nat) : Int) = (i : Int) + 1 := by omega
        have hle := HLE.out (i + 1)
        have HYI := Lib.hid (fun h => HP.out (i + 1) (by omega) (by omega) h (fun q a b => HN.out q a (by omega)))
        have HNI : Hid (¬ i + 1 + f (i + 1) = s.size → ∀ q, 1 ≤ q → q ≤ i + 1 → ¬ q + f q = s.size) := fun h q h1 h2 => by
          by_cases hq : q = i + 1
          · subst hq; exact h
          · exact HN.out q h1 (by omega)
        rw [e1] at HLI
        generalize f (i + 1) = m at HLI hle HYI HNI
        by_cases hgo : i + 1 + m = s.size
        · have HRB := Lib.hid (HYI.out hgo)
          have beq : (((i + 1 + m : Nat) : Int) == (s.size : Int)) = true := by rw [beq_iff_eq]; omega
          go_wp2_with fail
          refine (HLI.out _).mono ?_
          rintro r w2 ⟨rfl, hb⟩
          have HB2 : Hid (Below w.heap.size w w2) := HB.out.trans (hb.mono HB.out.size)
          clear hb
          rw [hgo]
          clear hgo beq
          go_wp2_with fail
          go_ret
          exact ⟨ret_int (by rw [HRB.out, e1]), HB2.out⟩
        · have HNX := Lib.hid (HNI.out hgo)
          have bne : (((i + 1 + m : Nat) : Int) == (s.size : Int)) = false := by rw [beq_eq_false_iff_ne]; omega
          go_wp2_with fail
          refine (HLI.out _).mono ?_
          rintro r w2 ⟨rfl, hb⟩
          have HB2 : Hid (Below w.heap.size w w2) := HB.out.trans (hb.mono HB.out.size)
          clear hb
          obtain ⟨k, hk⟩ : ∃ k, i + 1 + m = k := ⟨_, rfl⟩
          rw [hk] at hgo bne ⊢
          clear hk
          go_wp2_with fail
          go_roundw
          case rel => exact ⟨i + 1, by omega, by go_num, HNX.out, HB2.out⟩
          case measure => simp [intOf]; omega
      · have HRB : Hid (rv = 0) := H0.out fun p h1 h2 => HN.out p h1 (by omega)
        go_wp2_with fail
        go_ret
        exact ⟨ret_int HRB.out.symm, HB.out⟩

end Go.Proofs.Ytgfhconcmoepcaa
