/- Texts put together. -/
import Derived.Test.YtjmijedfmiplfaaMgA14
import Derived.Test.YtjmijedfmiplfaaMgA19
import Derived.OwnWalk
import Derived.Test.YtjmijedfmiplfaaMgA16
import Derived.Test.YtjmijedfmiplfaaMgA21
import Derived.Test.YtjmijedfmiplfaaMgA15
/- TurnWord of the program: the letters in reverse order. Condition: a text of at most 2^20 bytes. -/
namespace Go.Proofs.Ytjmijedfmiplfaa
open Go.RowKit

theorem turn_at (s : ByteArray) (k : Nat) (hk : k < s.size) (hk' : k < (turnS s).data.toList.length) : (turnS s).data.toList[k] = s[s.size - 1 - k]'(by omega) := by
  have : (turnS s).data.toList[k] = s.data.toList.reverse[k]'(by simpa using hk) := by simp [turnS]
  rw [this, List.getElem_reverse]
  simp
  rfl

set_option maxHeartbeats 400000 in
theorem implTurned (s : ByteArray) (w : World) (h : s.size ≤ 400) :
    Calls Try.prog 90 #[.string s] w fun e w' => e = .returned (.string (turnS s)) ∧ Below w.heap.size w w' := by
  obtain ⟨i0, hi0, hz0, hz1, hz2⟩ := info_parts u8_info
  go_enter Try.func90, Try.ntmps90
  go_wp2_with (at_make; refine wpList_make_full _ rfl _ _ 42 rfl w.heap.size 5 i0 (.int .u8 0) 1 Try.underlying42 hi0 hz0 hz1 .i64 .i64 _ _ s.size rfl rfl rfl rfl (by rw [hz2]; omega) (by unfold maxLen; omega) (Nat.le_refl _) ?_; intro w1 hown hgrow)
  have hb1 : Below w.heap.size w w1 := (Below.refl _ _).grown hgrow (Nat.le_refl _) (fun k hk => by cases hk)
  have HL : Hid ((turnS s).data.toList.length = s.size) := by unfold Hid; simp [turnS]
  have HD : Hid (((madeCells (Value.int .u8 0).cells (s.size * 1)).toList).length = (turnS s).data.toList.length) := by
    have := hown.1
    have := HL.out
    unfold Hid
    omega
  have HT := Lib.hid (turn_at s)
  generalize (madeCells (Value.int .u8 0).cells (s.size * 1)).toList = zs at hown HD
  have HTS : Hid ((⟨(turnS s).data.toList.toArray⟩ : ByteArray) = turnS s) := by unfold Hid; simp
  generalize hLL : (turnS s).data.toList = L at HL HD HT HTS
  clear hLL
  go_loopw [10] (fun i w' => ∃ (k : Nat), k ≤ s.size ∧ i = .int .i64 k ∧ w'.ownsRow w.heap.size 5 1 (.slice (some ⟨w.heap.size, 0, none⟩) s.size s.size) s.size (byteCells (L.take k) ++ zs.drop k) ∧ Below w.heap.size w w') (fun i _ => s.size - (intOf i).toNat)
  case atStart => exact ⟨0, by omega, rfl, by simpa [byteCells] using hown, hb1⟩
  case round =>
    obtain ⟨k, hk, rfl, ho, hbk⟩ := hrel
    by_cases hlt : k < s.size
    · have hkL : k < L.length := by rw [HL.out]; exact hlt
      obtain ⟨u, hu⟩ := byteCells_get L zs k hkL HD.out
      have g2 := (ho.cellAt k (by omega)).trans hu
      have g3 := ho.frozenAt k
      have hs' := byteCells_set L zs k hkL HD.out
      rw [HT.out k hlt hkL] at hs'
      have HS := Lib.hid hs'
      have j1 : (s.size : Int) - 1 - k = ((s.size - 1 - k : Nat) : Int) := by omega
      have j2 : s.size - 1 - k < s.size := by omega
      clear hu hkL hs'
      go_wp2_with fail
      go_roundw
      case rel =>
        refine ⟨k + 1, by omega, by go_num, ?_, hbk.setCell (Nat.le_refl _) _⟩
        have := (ho.stored k (.int .u8 (s[s.size - 1 - k].toNat : Int))).1
        rwa [HS.out] at this
      case measure => simp [intOf]; omega
    · have hkl : k = s.size := by omega
      subst hkl
      have ho' : wr.ownsRow w.heap.size 5 1 (.slice (some ⟨w.heap.size, 0, none⟩) s.size s.size) s.size (byteCells L) := by
        rw [← HL.out, byteCells_end L zs HD.out] at ho
        rw [HL.out] at ho
        exact ho
      have hconv := conv_own_to Try.underlying60 ho'
      rw [HTS.out] at hconv
      clear ho ho'
      go_wp2_with fail
      go_ret
      exact ⟨rfl, hbk⟩

theorem implTurnWord (s : ByteArray) (w : World) (hs : s.size ≤ 1048576) :
    Calls Try.prog 75 #[.string s] w fun e w' => e = .returned (.string (turnR s)) ∧ Below w.heap.size w w' := by
  by_cases h1 : wordB s = true
  · have hr : turnR s = turnS s := if_pos h1
    have HR := Lib.hid hr
    have h400 := word_size h1
    clear hr
    go_enter Try.func75, Try.ntmps75
    go_wp2_with fail
    refine (implWordOk s _ hs).mono ?_
    rintro e w1 ⟨rfl, hb1⟩
    go_wp2_with fail
    refine (implTurned s _ h400).mono ?_
    rintro e w2 ⟨rfl, hb2⟩
    go_wp2_with fail
    go_ret
    exact ⟨ret_str HR.out.symm, hb1.trans (hb2.mono hb1.size)⟩
  · have hr : turnR s = ⟨#[]⟩ := if_neg h1
    have HR := Lib.hid hr
    have h1' : wordB s = false := by simpa using h1
    clear hr h1
    go_enter Try.func75, Try.ntmps75
    go_wp2_with fail
    refine (implWordOk s _ hs).mono ?_
    rintro e w1 ⟨rfl, hb1⟩
    go_wp2_with fail
    go_ret
    exact ⟨ret_str HR.out.symm, hb1⟩
end Go.Proofs.Ytjmijedfmiplfaa

/- The mathematics of FnPowers, second part: runs, extension, beginnings, words that are reckoned. No program in it. -/
namespace Go.Proofs.Ytjmijedfmiplfaa
open Go.RowKit

/-! ### runs of one letter -/
theorem lr_spec (s : ByteArray) : ∀ k, k ≤ s.size → (1 ≤ k → 1 ≤ (lrTo s k).1 ∧ 1 ≤ (lrTo s k).2) ∧ (lrTo s k).2 ≤ k ∧ (∀ j, k - (lrTo s k).2 ≤ j → j + 1 < k → s.data.toList[j]? = s.data.toList[j + 1]?) ∧ ∃ i, i + (lrTo s k).1 ≤ k ∧ ∀ j, j + 1 < (lrTo s k).1 → s.data.toList[i + j]? = s.data.toList[i + j + 1]?
  | 0, _ => ⟨fun h => absurd h (by omega), Nat.le_refl _, fun j _ h => absurd h (by omega), 0, Nat.le_refl _, fun j h => absurd (show j + 1 < 0 from h) (by omega)⟩
  | k + 1, hk => by
    obtain ⟨a, b, c, i, d, e⟩ := lr_spec s k (by omega)
    by_cases h : 0 < k ∧ s.data.toList[k]? = s.data.toList[k - 1]?
    · rw [lr_yes h.1 h.2]
      have hrun : ∀ j, k + 1 - ((lrTo s k).2 + 1) ≤ j → j + 1 < k + 1 → s.data.toList[j]? = s.data.toList[j + 1]? := fun j h1 h2 => by
        by_cases hj : j + 1 = k
        · rw [hj, h.2]
          congr 1
          omega
        · exact c j (by omega) (by omega)
      refine ⟨fun _ => ⟨by show 1 ≤ max _ _; omega, by show 1 ≤ _ + 1; omega⟩, by show _ + 1 ≤ _; omega, hrun, ?_⟩
      by_cases hm : (lrTo s k).1 < (lrTo s k).2 + 1
      · refine ⟨k - (lrTo s k).2, by show _ + max _ _ ≤ _; omega, fun j hj => ?_⟩
        have hj' : j + 1 < max (lrTo s k).1 ((lrTo s k).2 + 1) := hj
        exact hrun _ (by omega) (by omega)
      · refine ⟨i, by show _ + max _ _ ≤ _; omega, fun j hj => ?_⟩
        have hj' : j + 1 < max (lrTo s k).1 ((lrTo s k).2 + 1) := hj
        exact e j (by omega)
    · rw [lr_no h]
      refine ⟨fun _ => ⟨by show 1 ≤ max _ _; omega, Nat.le_refl _⟩, by show 1 ≤ _; omega, fun j h1 h2 => ?_, ?_⟩
      · have h1' : k + 1 - 1 ≤ j := h1
        omega
      · by_cases hm : (lrTo s k).1 < 1
        · refine ⟨k, by show _ + max _ _ ≤ _; omega, fun j hj => ?_⟩
          have hj' : j + 1 < max (lrTo s k).1 1 := hj
          omega
        · refine ⟨i, by show _ + max _ _ ≤ _; omega, fun j hj => ?_⟩
          have hj' : j + 1 < max (lrTo s k).1 1 := hj
          exact e j (by omega)
theorem lr_run {s : ByteArray} (h : 1 < (lrTo s s.size).1) : ∃ i, RunAt s ((lrTo s s.size).1 - 1) 1 i := by
  obtain ⟨_, _, _, i, d, e⟩ := lr_spec s s.size (Nat.le_refl _)
  refine ⟨i, by omega, fun j hj => ?_⟩
  rw [e j (by omega)]
  congr 1
  omega
theorem lr_sq {s : ByteArray} (h : 1 < (lrTo s s.size).1) : repB s 1 0 = true := by
  obtain ⟨i, hi⟩ := lr_run h
  exact (repB_iff s 1 0).2 ⟨1, Nat.le_refl _, i, pz_less hi (by omega)⟩
theorem lr_cube {s : ByteArray} (h : 2 < (lrTo s s.size).1) : repB s 2 0 = true := by
  obtain ⟨i, hi⟩ := lr_run (show 1 < (lrTo s s.size).1 by omega)
  exact (repB_iff s 2 0).2 ⟨1, Nat.le_refl _, i, pz_less hi (by omega)⟩
theorem lr_zero (s : ByteArray) : (lrTo s s.size).1 = 0 ↔ s.size = 0 := by
  constructor
  · intro h
    by_cases h0 : s.size = 0
    · exact h0
    · have := ((lr_spec s s.size (Nat.le_refl _)).1 (by omega)).1
      omega
  · intro h
    rw [h]
    rfl

/-! ### beginnings -/
theorem run_pre {s x : ByteArray} (h : s.data.toList <+: x.data.toList) {m p i : Nat} (hi : i + p + m ≤ s.size) : RunAt s m p i ↔ RunAt x m p i := by
  obtain ⟨t, ht⟩ := h
  have hl : s.data.toList.length = s.size := by simp
  have hx : x.data.toList.length = x.size := by simp
  have hsx : s.size ≤ x.size := by
    rw [← hl, ← hx, ← ht, List.length_append]
    omega
  have hat : ∀ j, j < s.size → x.data.toList[j]? = s.data.toList[j]? := fun j hj => by
    rw [← ht, List.getElem?_append_left (by omega)]
  unfold RunAt
  constructor
  · rintro ⟨a, b⟩
    exact ⟨by omega, fun j hj => by rw [hat _ (by omega), hat _ (by omega)]; exact b j hj⟩
  · rintro ⟨a, b⟩
    refine ⟨hi, fun j hj => ?_⟩
    have := b j hj
    rwa [hat _ (by omega), hat _ (by omega)] at this
theorem rep_pre {s x : ByteArray} (h : s.data.toList <+: x.data.toList) {n e : Nat} (hr : repB s n e = true) : repB x n e = true := by
  obtain ⟨p, h1, i, h2⟩ := (repB_iff s n e).1 hr
  exact (repB_iff x n e).2 ⟨p, h1, i, (run_pre h h2.1).1 h2⟩
theorem free_pre {s x : ByteArray} (h : s.data.toList <+: x.data.toList) (hw : wordB s = true) {n e : Nat} (hr : freeR x n e = true) : freeR s n e = true := by
  unfold freeR at hr ⊢
  rw [Bool.and_eq_true] at hr
  rw [hw]
  cases hb : repB s n e
  · rfl
  · rw [rep_pre h hb] at hr
    cases hr.2
theorem more_pre (s : ByteArray) (c : UInt8) : s.data.toList <+: (s ++ (⟨#[c]⟩ : ByteArray)).data.toList := by
  rw [ByteArray.data_append, Array.toList_append]
  exact List.prefix_append _ _
theorem ext_free {s : ByteArray} {j : Nat} (hs : freeR s 1 0 = true) (h : extB s j = true) : freeR (s ++ ⟨#[letterN j]⟩) 1 0 = true := by
  unfold extB at h
  rw [Bool.and_eq_true, Bool.not_eq_true'] at h
  unfold freeR at hs ⊢
  rw [Bool.and_eq_true, Bool.not_eq_true'] at hs
  rw [h.1]
  cases hb : repB (s ++ ⟨#[letterN j]⟩) 1 0
  · rfl
  · exfalso
    obtain ⟨p, h1, i, h2⟩ := (repB_iff _ 1 0).1 hb
    rw [Nat.one_mul, Nat.add_zero] at h2
    have hz := more_size s j
    by_cases he : i + p + p ≤ s.size
    · have := (run_pre (more_pre s (letterN j)) he).2 h2
      rw [(repB_iff s 1 0).2 ⟨p, h1, i, by rw [Nat.one_mul, Nat.add_zero]; exact this⟩] at hs
      cases hs.2
    · have hsq := (pz_sq _ i p).2 ⟨h1, h2⟩
      have h21 := h2.1
      have := (endsB_iff (s ++ ⟨#[letterN j]⟩)).2 ⟨p, (pz_end _ _ p).2 ⟨by omega, Nat.le_refl _, by rw [show (s ++ ⟨#[letterN j]⟩ : ByteArray).size - 2 * p = i by omega]; exact hsq⟩⟩
      rw [this] at h
      cases h.2
theorem extF_some {s : ByteArray} : ∀ k j, extF s j k = ⟨#[]⟩ ∨ ∃ i, extB s i = true ∧ extF s j k = s ++ ⟨#[letterN i]⟩
  | 0, _ => .inl rfl
  | k + 1, j => by
    cases hb : extB s j
    · rw [extF_no hb]
      exact extF_some k (j + 1)
    · exact .inr ⟨j, hb, extF_yes hb⟩
theorem extR_some {s : ByteArray} (h : extR s ≠ ⟨#[]⟩) : freeR s 1 0 = true ∧ ∃ i, extR s = s ++ ⟨#[letterN i]⟩ ∧ freeR (extR s) 1 0 = true := by
  unfold extR at h ⊢
  cases hf : freeR s 1 0
  · rw [hf] at h
    exact absurd rfl h
  · rw [hf, if_pos rfl] at h
    rw [if_pos rfl]
    rcases extF_some (s := s) 3 0 with e | ⟨i, h1, e⟩
    · exact absurd e h
    · exact ⟨rfl, i, e, by rw [e]; exact ext_free hf h1⟩

/-! ### reckoned -/
def repC (l : List UInt8) (n e : Nat) : Bool :=
  (List.range l.length).any fun q => (List.range l.length).any fun i => decide (i + (q + 1) + (n * (q + 1) + e) ≤ l.length) && (List.range (n * (q + 1) + e)).all fun j => l[i + j]? == l[i + (q + 1) + j]?
theorem repC_eq (s : ByteArray) (n e : Nat) (hne : 1 ≤ n + e) : repB s n e = repC s.data.toList n e := by
  have hl : s.data.toList.length = s.size := by simp
  rw [Bool.eq_iff_iff, repB_iff]
  unfold repC
  simp only [List.any_eq_true, List.mem_range, Bool.and_eq_true, decide_eq_true_eq, List.all_eq_true, beq_iff_eq]
  constructor
  · rintro ⟨p, h1, i, h2, h3⟩
    have hpos : 1 ≤ n * p + e := by
      rcases Nat.eq_zero_or_pos e with he | he
      · have := Nat.mul_le_mul (show 1 ≤ n by omega) h1; omega
      · omega
    refine ⟨p - 1, by omega, i, by omega, ?_⟩
    rw [show p - 1 + 1 = p by omega]
    exact ⟨by omega, fun j hj => h3 j hj⟩
  · rintro ⟨q, _, i, _, h2, h3⟩
    exact ⟨q + 1, by omega, i, by omega, fun j hj => h3 j hj⟩
def endsC (l : List UInt8) : Bool := (List.range l.length).any fun q => decide (2 * (q + 1) ≤ l.length) && (List.range (q + 1)).all fun j => l[l.length - 2 * (q + 1) + j]? == l[l.length - (q + 1) + j]?
theorem endsC_eq (s : ByteArray) : endsB s = endsC s.data.toList := by
  have hl : s.data.toList.length = s.size := by simp
  rw [Bool.eq_iff_iff, endsB_iff]
  unfold endsC
  simp only [List.any_eq_true, List.mem_range, Bool.and_eq_true, decide_eq_true_eq, List.all_eq_true, beq_iff_eq]
  constructor
  · rintro ⟨h, hh⟩
    obtain ⟨a, _, b⟩ := (pz_end s s.size h).1 hh
    obtain ⟨c, d⟩ := (pz_sq s _ h).1 b
    refine ⟨h - 1, by omega, by omega, fun j hj => ?_⟩
    have := d.2 j (by omega)
    rw [show h - 1 + 1 = h by omega, hl, this]
    congr 1
    omega
  · rintro ⟨q, h1, h2, h3⟩
    refine ⟨q + 1, (pz_end s s.size (q + 1)).2 ⟨by omega, Nat.le_refl _, (pz_sq s _ (q + 1)).2 ⟨by omega, by omega, fun j hj => ?_⟩⟩⟩
    have := h3 j hj
    rw [hl] at this
    rw [this]
    congr 1
    omega
def cntC (L : Nat) : Nat → List UInt8 → Nat
  | 0, _ => 1
  | k + 1, l => sumJ (fun j => if endsC (l ++ [letterN j]) = true then 0 else cntC L k (l ++ [letterN j])) L
theorem sumJ_congr {f g : Nat → Nat} : ∀ j, (∀ i, f i = g i) → sumJ f j = sumJ g j
  | 0, _ => rfl
  | j + 1, h => by
    show sumJ f j + f j = sumJ g j + g j
    rw [sumJ_congr j h, h j]
theorem cntC_eq (L : Nat) : ∀ k s, cntW L k s = cntC L k s.data.toList
  | 0, _ => rfl
  | k + 1, s => by
    show sumJ _ L = sumJ _ L
    refine sumJ_congr L fun j => ?_
    show (if endsB (s ++ ⟨#[letterN j]⟩) = true then 0 else cntW L k (s ++ ⟨#[letterN j]⟩)) = if endsC (s.data.toList ++ [letterN j]) = true then 0 else cntC L k (s.data.toList ++ [letterN j])
    have e : (s ++ (⟨#[letterN j]⟩ : ByteArray)).data.toList = s.data.toList ++ [letterN j] := by rw [ByteArray.data_append, Array.toList_append]
    rw [endsC_eq, cntC_eq L k, e]
theorem cnt_24 : cntW 2 4 ⟨#[]⟩ = 0 := by rw [cntC_eq]; decide +kernel
theorem cnt_35 : cntW 3 5 ⟨#[]⟩ = 30 := by rw [cntC_eq]; decide +kernel
theorem cnt_34 : cntW 3 4 ⟨#[]⟩ = 18 := by rw [cntC_eq]; decide +kernel
end Go.Proofs.Ytjmijedfmiplfaa

/- The mathematics of FnPalindromes, second part: rich words, directed words. No program in it. -/
namespace Go.Proofs.Ytjmijedfmiplfaa
open Go.RowKit

/-! ### rich words -/
/-- at e a palindrome of n letters ends that ends nowhere before -/
def UniAt (s : ByteArray) (e n : Nat) : Prop := 1 ≤ n ∧ n ≤ e ∧ e ≤ s.size ∧ PalS (s.extract (e - n) e) ∧ ∀ e', e' < e → ¬ OccE s (s.extract (e - n) e) e'
def RichS (s : ByteArray) : Prop := ∀ e, 1 ≤ e → e ≤ s.size → ∃ n, UniAt s e n
theorem part_size {s : ByteArray} {e n : Nat} (h1 : n ≤ e) (h2 : e ≤ s.size) : (s.extract (e - n) e).size = n := by rw [ByteArray.size_extract]; omega
theorem uni_fe {s : ByteArray} {e n : Nat} (h : UniAt s e n) : OccE s (s.extract (e - n) e) e ∧ feN s (s.extract (e - n) e) = e := by
  obtain ⟨h1, h2, h3, h4, h5⟩ := h
  have hz := part_size h2 h3
  have ho : OccE s (s.extract (e - n) e) e := ⟨by omega, h3, by rw [hz]⟩
  obtain ⟨a, b⟩ := fe_spec ho
  refine ⟨ho, ?_⟩
  have := b e ho
  by_cases hl : feN s (s.extract (e - n) e) < e
  · exact absurd a (h5 _ hl)
  · omega
theorem rich_count {s : ByteArray} (h : RichS s) : (ppL s).length = s.size + 1 := by
  have hc := pp_count s
  have hch : ∀ k : Nat, ∃ x : ByteArray, k < s.size → x ∈ ppL s ∧ x.size ≠ 0 ∧ feN s x = k + 1 := fun k => by
    by_cases hk : k < s.size
    · obtain ⟨n, hn⟩ := h (k + 1) (by omega) (by omega)
      obtain ⟨u1, u2⟩ := uni_fe hn
      obtain ⟨h1, h2, h3, h4, _⟩ := hn
      refine ⟨s.extract (k + 1 - n) (k + 1), fun _ => ⟨(ppL_mem _ _).2 (.inr ⟨k + 1 - n, n, h1, by omega, ?_, ?_⟩), ?_, u2⟩⟩
      · rw [Nat.sub_add_cancel h2]; exact h4
      · rw [Nat.sub_add_cancel h2]
      · rw [part_size h2 h3]; omega
    · exact ⟨⟨#[]⟩, fun hh => absurd hh hk⟩
  let g := fun k => Classical.choose (hch k)
  have hg : ∀ k, k < s.size → g k ∈ ppL s ∧ (g k).size ≠ 0 ∧ feN s (g k) = k + 1 := fun k hk => Classical.choose_spec (hch k) hk
  have hnd : ((⟨#[]⟩ : ByteArray) :: (List.range s.size).map g).Nodup := by
    refine List.nodup_cons.2 ⟨fun hm => ?_, ?_⟩
    · obtain ⟨k, hk, e⟩ := List.mem_map.1 hm
      have := (hg k (List.mem_range.1 hk)).2.1
      rw [e] at this
      exact this rfl
    · refine List.pairwise_map.2 (List.nodup_range.imp_of_mem fun {a b} ha hb hab => ?_)
      intro e
      have h1 := (hg a (List.mem_range.1 ha)).2.2
      have h2 := (hg b (List.mem_range.1 hb)).2.2
      rw [e] at h1
      omega
  have hle := nodup_le hnd (m := ppL s) (fun x hx => by
    rcases List.mem_cons.1 hx with e | hm
    · exact (ppL_mem _ _).2 (.inl e)
    · obtain ⟨k, hk, rfl⟩ := List.mem_map.1 hm
      exact (hg k (List.mem_range.1 hk)).1)
  rw [List.length_cons, List.length_map, List.length_range] at hle
  omega

/-! ### a word and one that begins with it -/
theorem pre_get {s x : ByteArray} (h : s.data.toList <+: x.data.toList) {i : Nat} (hi : i < s.size) : s.data.toList[i]? = x.data.toList[i]? := by
  obtain ⟨t, ht⟩ := h
  rw [← ht, List.getElem?_append_left (by rw [pl_len]; exact hi)]
theorem pre_size {s x : ByteArray} (h : s.data.toList <+: x.data.toList) : s.size ≤ x.size := by
  have := h.length_le
  rwa [pl_len, pl_len] at this
theorem pre_part {s x : ByteArray} (h : s.data.toList <+: x.data.toList) {a b : Nat} (hab : a ≤ b) (hb : b ≤ s.size) : s.extract a b = x.extract a b := by
  have hz := pre_size h
  obtain ⟨n, rfl⟩ : ∃ n, b = a + n := ⟨b - a, by omega⟩
  rw [pl_ext2 hb (by omega)]
  intro j hj
  exact pre_get h (by omega)
theorem pre_occ {s x y : ByteArray} (h : s.data.toList <+: x.data.toList) {e : Nat} (he : e ≤ s.size) : OccE x y e ↔ OccE s y e := by
  have hz := pre_size h
  unfold OccE
  constructor
  · rintro ⟨a, b, c⟩
    exact ⟨a, he, by rw [pre_part h (Nat.sub_le _ _) he]; exact c⟩
  · rintro ⟨a, b, c⟩
    exact ⟨a, by omega, by rw [← pre_part h (Nat.sub_le _ _) he]; exact c⟩
theorem pre_uni {s x : ByteArray} (h : s.data.toList <+: x.data.toList) {e n : Nat} (hu : UniAt s e n) : UniAt x e n := by
  obtain ⟨h1, h2, h3, h4, h5⟩ := hu
  have hz := pre_size h
  have hp := pre_part h (Nat.sub_le e n) h3
  refine ⟨h1, h2, by omega, by rw [← hp]; exact h4, fun e' he' ho => h5 e' he' ?_⟩
  rw [← hp] at ho
  exact (pre_occ h (by omega)).1 ho
/-- a rich word with one letter more is rich if something new ends there -/
theorem rich_more {s x : ByteArray} (h : s.data.toList <+: x.data.toList) (hz : x.size = s.size + 1) (hr : RichS s) {n : Nat} (hu : UniAt x x.size n) : RichS x := fun e h1 h2 => by
  by_cases he : e ≤ s.size
  · obtain ⟨m, hm⟩ := hr e h1 he
    exact ⟨m, pre_uni h hm⟩
  · have : e = x.size := by omega
    subst this
    exact ⟨n, hu⟩
/-- the longest palindrome at the end is new there if some palindrome is -/
theorem uni_longest {s : ByteArray} {n : Nat} (hu : UniAt s s.size n) : UniAt s s.size (s.size - clK s) := by
  obtain ⟨h1, h2, h3, h4, h5⟩ := hu
  have hk := clK_le s
  obtain ⟨c1, c2⟩ := cl_spec s
  have hkn := c2 _ h4
  have hz := part_size (s := s) (e := s.size) (n := s.size - clK s) (by omega) (Nat.le_refl _)
  have hzn := part_size (s := s) (e := s.size) (n := n) h2 (Nat.le_refl _)
  refine ⟨by omega, by omega, Nat.le_refl _, by rw [Nat.sub_sub_self hk]; exact c1, fun e' he' ho => h5 e' he' ?_⟩
  obtain ⟨o1, o2, o3⟩ := ho
  rw [hz] at o1 o3
  refine ⟨by omega, o2, ?_⟩
  rw [hzn]
  have e1 : s.extract (e' - n) (e' - n + n) = s.extract (s.size - n) (s.size - n + n) := by
    rw [pl_ext2 (by omega) (by omega)]
    intro j hj
    rw [Nat.sub_sub_self hk] at o3
    have := (pl_ext2 (s := s) (t := s) (i := e' - (s.size - clK s)) (k := clK s) (h := s.size - clK s) (by omega) (by omega)).1 (by rw [Nat.sub_add_cancel o1, Nat.add_sub_cancel' hk]; exact o3) (s.size - clK s - n + j) (by omega)
    rw [show e' - (s.size - clK s) + (s.size - clK s - n + j) = e' - n + j by omega, show clK s + (s.size - clK s - n + j) = s.size - n + j by omega] at this
    exact this
  rwa [Nat.sub_add_cancel (by omega), Nat.sub_add_cancel h2] at e1
/-- closing keeps a word rich -/
theorem rich_close {s : ByteArray} (hr : RichS s) (h0 : 1 ≤ s.size) : RichS (clS s) := by
  have hk := clK_le s
  have hz := clS_size s
  obtain ⟨n0, hn0⟩ := hr s.size h0 (Nat.le_refl _)
  obtain ⟨q1, q2, q3, q4, q5⟩ := uni_longest hn0
  have hcp := (pal_get _).1 (cl_pal s)
  intro e h1 h2
  by_cases he : e ≤ s.size
  · obtain ⟨m, hm⟩ := hr e h1 he
    exact ⟨m, pre_uni (cl_start s) hm⟩
  · obtain ⟨t, rfl⟩ : ∃ t, e = s.size + t := ⟨e - s.size, by omega⟩
    rw [hz] at hcp h2
    have hzz : s.size + t - (s.size - clK s + 2 * t) = clK s - t := by omega
    have hps := part_size (s := clS s) (e := s.size + t) (n := s.size - clK s + 2 * t) (by omega) (by omega)
    rw [hzz] at hps
    refine ⟨s.size - clK s + 2 * t, by omega, by omega, by omega, ?_, fun e' he' ho => ?_⟩
    · rw [hzz]
      have : PalS ((clS s).extract (clK s - t) (clK s - t + (s.size - clK s + 2 * t))) := by
        rw [pl_at (by omega)]
        intro i hi
        rw [hcp _ (by omega)]
        congr 1
        omega
      rwa [show clK s - t + (s.size - clK s + 2 * t) = s.size + t by omega] at this
    · rw [hzz] at ho
      obtain ⟨o1, o2, o3⟩ := ho
      rw [hps] at o1 o3
      refine q5 (e' - t) (by omega) ?_
      have hqz := part_size (s := s) (e := s.size) (n := s.size - clK s) (by omega) (Nat.le_refl _)
      rw [← pre_occ (cl_start s) (by omega)]
      refine ⟨by rw [hqz]; omega, by omega, ?_⟩
      rw [hqz, pre_part (cl_start s) (Nat.sub_le _ _) (Nat.le_refl _)]
      have e1 : (clS s).extract (e' - t - (s.size - clK s)) (e' - t - (s.size - clK s) + (s.size - clK s)) = (clS s).extract (clK s) (clK s + (s.size - clK s)) := by
        rw [pl_ext2 (by omega) (by omega)]
        intro j hj
        have := (pl_ext2 (s := clS s) (t := clS s) (i := e' - (s.size - clK s + 2 * t)) (k := clK s - t) (h := s.size - clK s + 2 * t) (by omega) (by omega)).1 (by rw [Nat.sub_add_cancel o1, show clK s - t + (s.size - clK s + 2 * t) = s.size + t by omega]; exact o3) (t + j) (by omega)
        rw [show e' - (s.size - clK s + 2 * t) + (t + j) = e' - t - (s.size - clK s) + j by omega, show clK s - t + (t + j) = clK s + j by omega] at this
        exact this
      rw [Nat.sub_add_cancel (by omega), Nat.add_sub_cancel' hk] at e1
      rw [Nat.sub_sub_self hk]
      exact e1
end Go.Proofs.Ytjmijedfmiplfaa

/- The mathematics of FnPalindromes, third part: directed words. No program in it. -/
namespace Go.Proofs.Ytjmijedfmiplfaa
open Go.RowKit

/-! ### words as numbers, reckoned -/
def eqL : List Nat → List Nat → Bool
  | [], [] => true
  | a :: l, b :: m => Nat.beq a b && eqL l m
  | _, _ => false
theorem eqL_iff : ∀ l m : List Nat, eqL l m = true ↔ l = m
  | [], [] => by simp [eqL]
  | [], b :: m => by simp [eqL]
  | a :: l, [] => by simp [eqL]
  | a :: l, b :: m => by
    unfold eqL
    rw [Bool.and_eq_true, eqL_iff l m, Nat.beq_eq, List.cons.injEq]
def lpsL : List Nat → List Nat
  | [] => []
  | a :: l => if eqL (a :: l).reverse (a :: l) = true then a :: l else lpsL l
def closeL (l : List Nat) : List Nat := l ++ (l.take (l.length - (lpsL l).length)).reverse
def preB : List Nat → List Nat → Bool
  | [], _ => true
  | _ :: _, [] => false
  | a :: q, b :: l => Nat.beq a b && preB q l
def occB (q : List Nat) : List Nat → Bool
  | [] => preB q []
  | a :: l => preB q (a :: l) || occB q l
def newL (w : List Nat) : Bool := !occB (lpsL w) w.dropLast
def chkL : Nat → List Nat → Bool
  | 0, _ => true
  | d + 1, P => [97, 98, 99, 100].all fun x => newL (P ++ [x]) && chkL d (closeL (P ++ [x]))
theorem chk_97_97 : chkL 4 (closeL (closeL ([] ++ [97]) ++ [97])) = true := by decide +kernel
theorem chk_97_98 : chkL 4 (closeL (closeL ([] ++ [97]) ++ [98])) = true := by decide +kernel
theorem chk_97_99 : chkL 4 (closeL (closeL ([] ++ [97]) ++ [99])) = true := by decide +kernel
theorem chk_97_100 : chkL 4 (closeL (closeL ([] ++ [97]) ++ [100])) = true := by decide +kernel
theorem chk_98_97 : chkL 4 (closeL (closeL ([] ++ [98]) ++ [97])) = true := by decide +kernel
theorem chk_98_98 : chkL 4 (closeL (closeL ([] ++ [98]) ++ [98])) = true := by decide +kernel
theorem chk_98_99 : chkL 4 (closeL (closeL ([] ++ [98]) ++ [99])) = true := by decide +kernel
theorem chk_98_100 : chkL 4 (closeL (closeL ([] ++ [98]) ++ [100])) = true := by decide +kernel
theorem chk_99_97 : chkL 4 (closeL (closeL ([] ++ [99]) ++ [97])) = true := by decide +kernel
theorem chk_99_98 : chkL 4 (closeL (closeL ([] ++ [99]) ++ [98])) = true := by decide +kernel
theorem chk_99_99 : chkL 4 (closeL (closeL ([] ++ [99]) ++ [99])) = true := by decide +kernel
theorem chk_99_100 : chkL 4 (closeL (closeL ([] ++ [99]) ++ [100])) = true := by decide +kernel
theorem chk_100_97 : chkL 4 (closeL (closeL ([] ++ [100]) ++ [97])) = true := by decide +kernel
theorem chk_100_98 : chkL 4 (closeL (closeL ([] ++ [100]) ++ [98])) = true := by decide +kernel
theorem chk_100_99 : chkL 4 (closeL (closeL ([] ++ [100]) ++ [99])) = true := by decide +kernel
theorem chk_100_100 : chkL 4 (closeL (closeL ([] ++ [100]) ++ [100])) = true := by decide +kernel
theorem chk_four : ∀ a ∈ [97, 98, 99, 100], ∀ b ∈ [97, 98, 99, 100], newL (closeL ([] ++ [a]) ++ [b]) = true ∧ chkL 4 (closeL (closeL ([] ++ [a]) ++ [b])) = true := by
  intro a ha b hb
  simp only [List.mem_cons, List.not_mem_nil, or_false] at ha hb
  rcases ha with rfl | rfl | rfl | rfl <;> rcases hb with rfl | rfl | rfl | rfl
  · exact ⟨by decide +kernel, chk_97_97⟩
  · exact ⟨by decide +kernel, chk_97_98⟩
  · exact ⟨by decide +kernel, chk_97_99⟩
  · exact ⟨by decide +kernel, chk_97_100⟩
  · exact ⟨by decide +kernel, chk_98_97⟩
  · exact ⟨by decide +kernel, chk_98_98⟩
  · exact ⟨by decide +kernel, chk_98_99⟩
  · exact ⟨by decide +kernel, chk_98_100⟩
  · exact ⟨by decide +kernel, chk_99_97⟩
  · exact ⟨by decide +kernel, chk_99_98⟩
  · exact ⟨by decide +kernel, chk_99_99⟩
  · exact ⟨by decide +kernel, chk_99_100⟩
  · exact ⟨by decide +kernel, chk_100_97⟩
  · exact ⟨by decide +kernel, chk_100_98⟩
  · exact ⟨by decide +kernel, chk_100_99⟩
  · exact ⟨by decide +kernel, chk_100_100⟩
theorem chk_next {d : Nat} {P : List Nat} (h : ∀ x ∈ [97, 98, 99, 100], newL (P ++ [x]) = true ∧ chkL d (closeL (P ++ [x])) = true) : chkL (d + 1) P = true := by
  unfold chkL
  rw [List.all_eq_true]
  intro x hx
  rw [Bool.and_eq_true]
  exact h x hx
theorem chk6 : chkL 6 [] = true := chk_next fun a ha => ⟨by
  simp only [List.mem_cons, List.not_mem_nil, or_false] at ha
  rcases ha with rfl | rfl | rfl | rfl <;> decide +kernel, chk_next fun b hb => chk_four a ha b hb⟩
theorem preB_of : ∀ q l : List Nat, l.take q.length = q → preB q l = true
  | [], _, _ => rfl
  | a :: q, [], h => by simp at h
  | a :: q, b :: l, h => by
    rw [List.length_cons, List.take_succ_cons, List.cons.injEq] at h
    unfold preB
    rw [Bool.and_eq_true, Nat.beq_eq]
    exact ⟨h.1.symm, preB_of q l h.2⟩
theorem occB_of (q : List Nat) : ∀ (l : List Nat) (p : Nat), (l.drop p).take q.length = q → occB q l = true
  | [], p, h => by
    rw [List.drop_nil] at h
    exact preB_of q [] h
  | a :: l, 0, h => by
    unfold occB
    rw [preB_of q (a :: l) h, Bool.true_or]
  | a :: l, p + 1, h => by
    unfold occB
    rw [occB_of q l p h, Bool.or_true]
theorem lps_spec : ∀ l : List Nat, ∃ k, k ≤ l.length ∧ lpsL l = l.drop k ∧ (l.drop k).reverse = l.drop k ∧ ∀ j, j < k → (l.drop j).reverse ≠ l.drop j
  | [] => ⟨0, Nat.le_refl _, rfl, rfl, fun j h => absurd h (by omega)⟩
  | a :: l => by
    by_cases h : eqL (a :: l).reverse (a :: l) = true
    · exact ⟨0, Nat.zero_le _, if_pos h, (eqL_iff _ _).1 h, fun j h => absurd h (by omega)⟩
    · obtain ⟨k, h1, h2, h3, h4⟩ := lps_spec l
      refine ⟨k + 1, by rw [List.length_cons]; omega, by rw [show lpsL (a :: l) = lpsL l from if_neg h, h2]; rfl, h3, fun j hj => ?_⟩
      rcases j with _ | j
      · exact fun hh => h ((eqL_iff _ _).2 hh)
      · exact h4 j (by omega)

/-! ### .. and the words themselves -/
def lw (s : ByteArray) : List Nat := s.data.toList.map UInt8.toNat
theorem lw_len (s : ByteArray) : (lw s).length = s.size := by unfold lw; rw [List.length_map, pl_len]
theorem map_inj : ∀ {l m : List UInt8}, l.map UInt8.toNat = m.map UInt8.toNat ↔ l = m
  | [], [] => by simp
  | [], b :: m => by simp
  | a :: l, [] => by simp
  | a :: l, b :: m => by
    rw [List.map_cons, List.map_cons, List.cons.injEq, List.cons.injEq, map_inj, UInt8.toNat_inj]
theorem lw_part (s : ByteArray) (i n : Nat) : lw (s.extract i (i + n)) = ((lw s).drop i).take n := by
  unfold lw
  rw [ByteArray.data_extract, Array.toList_extract, List.extract_eq_take_drop, Nat.add_sub_cancel_left, List.map_take, List.map_drop]
theorem lw_tail (s : ByteArray) {j : Nat} (h : j ≤ s.size) : lw (s.extract j s.size) = (lw s).drop j := by
  have := lw_part s j (s.size - j)
  rw [Nat.add_sub_cancel' h] at this
  rw [this, List.take_of_length_le (by rw [List.length_drop, lw_len]; omega)]
theorem lw_pal (s : ByteArray) : PalS s ↔ (lw s).reverse = lw s := by
  unfold lw
  rw [pal_list, ← List.map_reverse, map_inj]
theorem lps_lw (s : ByteArray) : lpsL (lw s) = (lw s).drop (clK s) := by
  obtain ⟨k, h1, h2, h3, h4⟩ := lps_spec (lw s)
  rw [lw_len] at h1
  rw [h2, clK_eq h1 ((lw_pal _).2 (by rw [lw_tail s h1]; exact h3)) (fun j hj hp => h4 j hj (by rw [← lw_tail s (by omega)]; exact (lw_pal _).1 hp))]
theorem lw_close (s : ByteArray) : lw (clS s) = closeL (lw s) := by
  have hk := clK_le s
  unfold closeL
  rw [lps_lw, List.length_drop, lw_len, Nat.sub_sub_self hk]
  unfold clS lw
  rw [ByteArray.data_append, Array.toList_append, List.map_append]
  congr 1
  show ((s.extract 0 (clK s)).data.toList.reverse.toArray.toList).map UInt8.toNat = _
  rw [List.map_reverse]
  have := lw_part s 0 (clK s)
  rw [Nat.zero_add, List.drop_zero] at this
  show (lw (s.extract 0 (clK s))).reverse = _
  rw [this]
  rfl
theorem new_uni {w : ByteArray} (h : newL (lw w) = true) (hk : clK w < w.size) : UniAt w w.size (w.size - clK w) := by
  refine ⟨by omega, by omega, Nat.le_refl _, by rw [Nat.sub_sub_self (by omega)]; exact (cl_spec w).1, fun e' he' ho => ?_⟩
  rw [Nat.sub_sub_self (by omega)] at ho
  obtain ⟨o1, o2, o3⟩ := ho
  have hz : (w.extract (clK w) w.size).size = w.size - clK w := by rw [ByteArray.size_extract]; omega
  rw [hz] at o1 o3
  have hb : occB (lpsL (lw w)) (lw w).dropLast = true := by
    refine occB_of _ _ (e' - (w.size - clK w)) ?_
    rw [lps_lw, List.length_drop, lw_len, ← lw_tail w (by omega), ← o3, List.dropLast_eq_take, lw_len]
    have := lw_part w (e' - (w.size - clK w)) (w.size - clK w)
    rw [Nat.sub_add_cancel o1] at this
    rw [this, List.drop_take, List.take_take]
    congr 1
    omega
  unfold newL at h
  rw [hb] at h
  cases h

/-! ### directed words -/
theorem dw_one {d : ByteArray} {i : Nat} (h : i < d.size) : (d.extract i (i + 1)).size = 1 := pz_size d i 1 (by omega)
theorem dw_pal (d : ByteArray) : ∀ i, PalS (dwS d i)
  | 0 => pal_empty
  | _ + 1 => cl_pal _
theorem app_pre (P x : ByteArray) : P.data.toList <+: (P ++ x).data.toList := by
  rw [ByteArray.data_append, Array.toList_append]
  exact List.prefix_append _ _
theorem dw_next (d : ByteArray) (i : Nat) : (dwS d i).data.toList <+: (dwS d (i + 1)).data.toList := (app_pre _ _).trans (cl_start _)
theorem dw_mono (d : ByteArray) (i : Nat) : ∀ k, (dwS d i).data.toList <+: (dwS d (i + k)).data.toList
  | 0 => List.prefix_refl _
  | k + 1 => (dw_mono d i k).trans (dw_next d (i + k))
theorem more_clK {P x : ByteArray} (hx : x.size = 1) : clK (P ++ x) ≤ P.size :=
  (cl_spec (P ++ x)).2 _ (pal_small (by rw [ByteArray.size_extract, ByteArray.size_append]; omega))
theorem dw_size {d : ByteArray} {i : Nat} (h : i < d.size) : (dwS d i).size + 1 ≤ (dwS d (i + 1)).size ∧ (dwS d (i + 1)).size ≤ 2 * (dwS d i).size + 1 := by
  have h1 := dw_one h
  have h2 := more_clK (P := dwS d i) h1
  have h3 := clS_size (dwS d i ++ d.extract i (i + 1))
  rw [ByteArray.size_append, h1] at h3
  show _ ≤ (clS _).size ∧ (clS _).size ≤ _
  omega
theorem dw_small (d : ByteArray) : ∀ i, i ≤ d.size → (dwS d i).size + 1 ≤ 2 ^ i
  | 0, _ => Nat.le_refl _
  | i + 1, h => by
    have ih := dw_small d i (by omega)
    have := dw_size (d := d) (i := i) (by omega)
    rw [Nat.pow_succ]
    omega
theorem dw_strict {d : ByteArray} {i : Nat} : ∀ k, 1 ≤ k → i + k ≤ d.size → (dwS d i).size < (dwS d (i + k)).size
  | 0, h, _ => absurd h (by omega)
  | k + 1, _, h => by
    have h1 := (dw_size (d := d) (i := i + k) (by omega)).1
    have h2 := pre_size (dw_mono d i k)
    show _ < (dwS d (i + k + 1)).size
    omega
theorem cl_mem {s : ByteArray} {c : UInt8} (h : c ∈ (clS s).data.toList) : c ∈ s.data.toList := by
  unfold clS at h
  rw [ByteArray.data_append, Array.toList_append, List.mem_append] at h
  rcases h with h | h
  · exact h
  · have h : c ∈ (s.extract 0 (clK s)).data.toList.reverse := h
    rw [List.mem_reverse, ByteArray.data_extract, Array.toList_extract, List.extract_eq_take_drop] at h
    exact List.mem_of_mem_drop (List.mem_of_mem_take h)
theorem dw_mem (d : ByteArray) (c : UInt8) : ∀ i, c ∈ (dwS d i).data.toList → c ∈ d.data.toList
  | 0, h => by cases h
  | i + 1, h => by
    have h := cl_mem (s := dwS d i ++ d.extract i (i + 1)) h
    rw [ByteArray.data_append, Array.toList_append, List.mem_append] at h
    rcases h with h | h
    · exact dw_mem d c i h
    · rw [ByteArray.data_extract, Array.toList_extract, List.extract_eq_take_drop] at h
      exact List.mem_of_mem_drop (List.mem_of_mem_take h)
theorem dw_word {d : ByteArray} (hw : wordB d = true) {i : Nat} (hz : (dwS d i).size ≤ 400) : wordB (dwS d i) = true := by
  unfold wordB at hw ⊢
  rw [Bool.and_eq_true, decide_eq_true_eq, List.all_eq_true] at hw ⊢
  exact ⟨hz, fun c hc => hw.2 c (dw_mem d c i hc)⟩
theorem dw_all {d : ByteArray} (hw : wordB d = true) : ∀ i, i ≤ d.size → i ≤ 8 → dwB d i = true
  | 0, _, _ => rfl
  | i + 1, h, h8 => by
    show (dwB d i && wordB (dwS d (i + 1))) = true
    have h1 := dw_small d (i + 1) h
    have h2 : 2 ^ (i + 1) ≤ 2 ^ 8 := Nat.pow_le_pow_right (by omega) h8
    rw [dw_all hw i (by omega) (by omega), dw_word hw (by omega)]
    rfl
theorem dw_good {d : ByteArray} (hw : wordB d = true) (h : d.size ≤ 8) : dwOk d = true ∧ dwR d = dwS d d.size := by
  have : dwOk d = true := by
    unfold dwOk
    rw [hw, decide_eq_true (show d.size ≤ 12 by omega), dw_all hw d.size (Nat.le_refl _) h]
    rfl
  exact ⟨this, if_pos this⟩
/-- short directed words are rich -/
theorem dw_rich {d : ByteArray} (hw : wordB d = true) : ∀ i k, i ≤ d.size → i + k = 6 → chkL k (lw (dwS d i)) = true ∧ RichS (dwS d i)
  | 0, k, _, hk => by
    have : k = 6 := by omega
    subst this
    exact ⟨chk6, fun e h1 h2 => by have h2 : e ≤ 0 := h2; omega⟩
  | i + 1, k, h, hk => by
    obtain ⟨a, b⟩ := dw_rich hw i (k + 1) (by omega) (by omega)
    have hi : i < d.size := by omega
    have h1 := dw_one hi
    have hlw : lw (dwS d i ++ d.extract i (i + 1)) = lw (dwS d i) ++ [d[i].toNat] := by
      unfold lw
      rw [ByteArray.data_append, Array.toList_append, List.map_append]
      congr 1
      have h2 : (d.extract i (i + 1)).data.toList = [d[i]] := by
        rw [ByteArray.data_extract, Array.toList_extract, List.extract_eq_take_drop, Nat.add_sub_cancel_left, List.drop_eq_getElem_cons (by rw [pl_len]; exact hi)]
        rfl
      rw [h2]
      rfl
    have hc := word_at hw i hi
    have hx : newL (lw (dwS d i) ++ [d[i].toNat]) = true ∧ chkL k (closeL (lw (dwS d i) ++ [d[i].toNat])) = true := by
      unfold chkL at a
      rw [List.all_eq_true] at a
      have := a d[i].toNat (by
        have : d[i].toNat = 97 ∨ d[i].toNat = 98 ∨ d[i].toNat = 99 ∨ d[i].toNat = 100 := by omega
        rcases this with e | e | e | e <;> rw [e] <;> simp)
      rwa [Bool.and_eq_true] at this
    rw [← hlw] at hx
    have hz : (dwS d i ++ d.extract i (i + 1)).size = (dwS d i).size + 1 := by rw [ByteArray.size_append, h1]
    have hu := new_uni hx.1 (by have := more_clK (P := dwS d i) h1; omega)
    refine ⟨?_, rich_close (rich_more (app_pre _ _) hz b hu) (by omega)⟩
    show chkL k (lw (clS (dwS d i ++ d.extract i (i + 1)))) = true
    rw [lw_close]
    exact hx.2
/-- the direction is found again -/
theorem dr_dw {d : ByteArray} {m : Nat} (hm : m ≤ d.size) : ∀ i, i ≤ m → drS (dwS d m) i = (d.extract 0 i, dwS d i)
  | 0, _ => by
    show ((⟨#[]⟩ : ByteArray), (⟨#[]⟩ : ByteArray)) = _
    rw [pl_zero (x := d.extract 0 0) (by rw [ByteArray.size_extract]; omega)]
    rfl
  | i + 1, h => by
    have ih := dr_dw hm i (by omega)
    have hst := dw_strict (d := d) (i := i) (m - i) (by omega) (by omega)
    rw [Nat.add_sub_cancel' (by omega)] at hst
    have h1 := dw_one (d := d) (i := i) (by omega)
    have hpre : (dwS d i ++ d.extract i (i + 1)).data.toList <+: (dwS d m).data.toList := by
      have h2 := dw_mono d (i + 1) (m - (i + 1))
      rw [Nat.add_sub_cancel' h] at h2
      exact (cl_start _).trans h2
    have hx : (dwS d m).extract (dwS d i).size ((dwS d i).size + 1) = d.extract i (i + 1) := by
      rw [pl_ext2 (by omega) (by omega)]
      intro j hj
      have hj0 : j = 0 := by omega
      subst hj0
      rw [Nat.add_zero, ← pre_get hpre (by rw [ByteArray.size_append]; omega), ByteArray.data_append, Array.toList_append, List.getElem?_append_right (by rw [pl_len]; exact Nat.le_refl _), pl_len, Nat.sub_self]
      exact pz_list d i 1 0 (by omega)
    have hd : d.extract 0 i ++ d.extract i (i + 1) = d.extract 0 (i + 1) := by
      apply bytes_ext
      rw [ByteArray.toList_eq, ByteArray.toList_eq, ByteArray.data_append, Array.toList_append, ByteArray.data_extract, ByteArray.data_extract, ByteArray.data_extract, Array.toList_extract, Array.toList_extract, Array.toList_extract, List.extract_eq_take_drop, List.extract_eq_take_drop, List.extract_eq_take_drop, List.drop_zero, Nat.sub_zero, Nat.add_sub_cancel_left, Nat.sub_zero, List.take_add]
    show (let y := drS (dwS d m) i; if y.2.size < (dwS d m).size then (y.1 ++ (dwS d m).extract y.2.size (y.2.size + 1), clS (y.2 ++ (dwS d m).extract y.2.size (y.2.size + 1))) else y) = _
    rw [ih]
    show (if (dwS d i).size < (dwS d m).size then (d.extract 0 i ++ (dwS d m).extract (dwS d i).size ((dwS d i).size + 1), clS (dwS d i ++ (dwS d m).extract (dwS d i).size ((dwS d i).size + 1))) else _) = _
    rw [if_pos hst, hx, hd]
    rfl
theorem dr_stop {s : ByteArray} {n : Nat} (h : (drS s n).2.size = s.size) : ∀ k, drS s (n + k) = drS s n
  | 0 => rfl
  | k + 1 => by
    have ih := dr_stop h k
    show (let y := drS s (n + k); if y.2.size < s.size then (y.1 ++ s.extract y.2.size (y.2.size + 1), clS (y.2 ++ s.extract y.2.size (y.2.size + 1))) else y) = _
    rw [ih]
    show (if (drS s n).2.size < s.size then _ else drS s n) = _
    rw [if_neg (by omega)]
theorem dr_back {d : ByteArray} (hw : wordB d = true) (h : d.size ≤ 8) : drOk (dwS d d.size) = true ∧ drR (dwS d d.size) = d := by
  have h1 := dr_dw (Nat.le_refl d.size) d.size (Nat.le_refl _)
  have h2 := dr_stop (s := dwS d d.size) (n := d.size) (by rw [h1]) (12 - d.size)
  rw [Nat.add_sub_cancel' (by omega), h1] at h2
  have h3 : d.extract 0 d.size = d := by
    refine pl_ext (by rw [ByteArray.size_extract]; omega) fun i hi => ?_
    rw [ByteArray.size_extract] at hi
    have := pz_list d 0 d.size i (by omega)
    rwa [Nat.zero_add, Nat.zero_add] at this
  have h4 := dw_small d d.size (Nat.le_refl _)
  have h5 : 2 ^ d.size ≤ 2 ^ 8 := Nat.pow_le_pow_right (by omega) h
  have h6 : drB (dwS d d.size) = true := by
    unfold drB
    rw [h2]
    simp
  have h7 : drOk (dwS d d.size) = true := by
    unfold drOk
    rw [dw_word hw (by omega), h6]
    rfl
  refine ⟨h7, ?_⟩
  unfold drR
  rw [if_pos h7, h2]
  exact h3
theorem cu_pal {s : ByteArray} (h : PalS s) (n : Nat) : cuB s n = true := by
  unfold cuB
  refine @decide_eq_true _ (Classical.propDecidable _) fun f hf => ?_
  obtain ⟨j, hj, rfl⟩ := (facTo_mem s n f _).1 hf
  refine (facTo_mem s n _ _).2 ⟨s.size - j - n, by omega, ?_⟩
  rw [turn_part (by omega), h]
end Go.Proofs.Ytjmijedfmiplfaa
