/- Texts put together. -/
import Derived.Test.YtjmijedfmiplfaaMgA7
import Derived.Test.YtjmijedfmiplfaaMgA5
import Derived.Test.YtjmijedfmiplfaaMgA1
import Derived.IntWalk
import Derived.Test.YtjmijedfmiplfaaChecked
import Derived.Deep.LoopGhost
/- Powers in words: what chapter 8 is to return. No program in it. -/
namespace Go.Proofs.Ytjmijedfmiplfaa
open Go.RowKit

/-! ### squares -/
/-- a square with halves of h letters begins at i -/
def PwAt (s : ByteArray) (i h : Nat) : Prop := 1 ≤ h ∧ i + 2 * h ≤ s.size ∧ s.extract i (i + h) = s.extract (i + h) (i + 2 * h)
noncomputable def pwB (s : ByteArray) (i h : Nat) : Bool := @decide (PwAt s i h) (Classical.propDecidable _)
theorem pwB_iff (s : ByteArray) (i h : Nat) : pwB s i h = true ↔ PwAt s i h := by unfold pwB; simp
noncomputable def pwRow (s : ByteArray) (i : Nat) (l : List ByteArray) : Nat → List ByteArray
  | 0 => l
  | h + 1 => if pwB s i (h + 1) = true then insL (pwRow s i l h) (s.extract i (i + 2 * (h + 1))) else pwRow s i l h
noncomputable def pwTo (s : ByteArray) : Nat → List ByteArray
  | 0 => []
  | i + 1 => pwRow s i (pwTo s i) ((s.size - i) / 2)
noncomputable def pwL (s : ByteArray) : List ByteArray := pwTo s s.size
def pwOk (s : ByteArray) : Bool := wordB s && decide (s.size ≤ 60)
/-- what SquaresIn is to return -/
noncomputable def pwR (s : ByteArray) : List ByteArray := if pwOk s = true then pwL s else []
theorem pwRow_asc (s : ByteArray) (i : Nat) {l : List ByteArray} (h : Asc l) : ∀ k, Asc (pwRow s i l k)
  | 0 => h
  | k + 1 => by
    unfold pwRow
    split
    · exact insL_asc _ (pwRow_asc s i h k)
    · exact pwRow_asc s i h k
theorem pwTo_asc (s : ByteArray) : ∀ i, Asc (pwTo s i)
  | 0 => List.Pairwise.nil
  | i + 1 => pwRow_asc s i (pwTo_asc s i) _
theorem pwRow_mem (s : ByteArray) (i : Nat) (l : List ByteArray) (x : ByteArray) : ∀ k, x ∈ pwRow s i l k ↔ x ∈ l ∨ ∃ h, h ≤ k ∧ PwAt s i h ∧ x = s.extract i (i + 2 * h)
  | 0 => by
    constructor
    · exact .inl
    · rintro (h | ⟨h, h1, h2, _⟩)
      · exact h
      · exact absurd h2.1 (by omega)
  | k + 1 => by
    have ih := pwRow_mem s i l x k
    unfold pwRow
    by_cases hb : pwB s i (k + 1) = true
    · rw [if_pos hb, insL_mem, ih]
      constructor
      · rintro (e | e | ⟨h, h1, h2⟩)
        · exact .inr ⟨k + 1, by omega, (pwB_iff _ _ _).1 hb, e⟩
        · exact .inl e
        · exact .inr ⟨h, by omega, h2⟩
      · rintro (e | ⟨h, h1, h2, e⟩)
        · exact .inr (.inl e)
        · by_cases hk : h = k + 1
          · subst hk; exact .inl e
          · exact .inr (.inr ⟨h, by omega, h2, e⟩)
    · rw [if_neg hb, ih]
      constructor
      · rintro (e | ⟨h, h1, h2⟩)
        · exact .inl e
        · exact .inr ⟨h, by omega, h2⟩
      · rintro (e | ⟨h, h1, h2, e⟩)
        · exact .inl e
        · by_cases hk : h = k + 1
          · subst hk; exact absurd ((pwB_iff _ _ _).2 h2) hb
          · exact .inr ⟨h, by omega, h2, e⟩
theorem pwTo_mem (s : ByteArray) (x : ByteArray) : ∀ i, x ∈ pwTo s i ↔ ∃ j h, j < i ∧ PwAt s j h ∧ x = s.extract j (j + 2 * h)
  | 0 => by
    constructor
    · intro h; cases h
    · rintro ⟨j, h, h1, _⟩; omega
  | i + 1 => by
    show x ∈ pwRow _ _ _ _ ↔ _
    rw [pwRow_mem, pwTo_mem s x i]
    constructor
    · rintro (⟨j, h, h1, h2⟩ | ⟨h, h1, h2⟩)
      · exact ⟨j, h, by omega, h2⟩
      · exact ⟨i, h, by omega, h2⟩
    · rintro ⟨j, h, h1, h2, e⟩
      by_cases hj : j = i
      · subst hj
        exact .inr ⟨h, by have := h2.2.1; omega, h2, e⟩
      · exact .inl ⟨j, h, by omega, h2, e⟩
theorem pwL_mem (s x : ByteArray) : x ∈ pwL s ↔ ∃ j h, PwAt s j h ∧ x = s.extract j (j + 2 * h) := by
  unfold pwL
  rw [pwTo_mem]
  constructor
  · rintro ⟨j, h, _, h2⟩
    exact ⟨j, h, h2⟩
  · rintro ⟨j, h, h2⟩
    exact ⟨j, h, by have := h2.1.1; have := h2.1.2.1; omega, h2⟩
theorem insL_more : ∀ (l : List ByteArray) (x : ByteArray), (insL l x).length ≤ l.length + 1
  | [], x => by simp [insL]
  | a :: l, x => by
    have := insL_more l x
    unfold insL
    split
    · simp
    · split
      · simp only [List.length_cons]; omega
      · simp
theorem pwRow_len (s : ByteArray) (i : Nat) (l : List ByteArray) : ∀ k, (pwRow s i l k).length ≤ l.length + k
  | 0 => Nat.le_refl _
  | k + 1 => by
    have ih := pwRow_len s i l k
    unfold pwRow
    split
    · have := insL_more (pwRow s i l k) (s.extract i (i + 2 * (k + 1))); omega
    · omega
theorem pwTo_len (s : ByteArray) (hs : s.size ≤ 60) : ∀ i, i ≤ s.size → 4 * (pwTo s i).length + (60 - i) * (61 - i) ≤ 3660
  | 0, _ => by simp [pwTo]
  | i + 1, hi => by
    have ih := pwTo_len s hs i (by omega)
    have h1 := pwRow_len s i (pwTo s i) ((s.size - i) / 2)
    have e : pwTo s (i + 1) = pwRow s i (pwTo s i) ((s.size - i) / 2) := rfl
    rw [e]
    obtain ⟨d, hd⟩ : ∃ d, 60 = i + 1 + d := ⟨60 - (i + 1), by omega⟩
    rw [show 60 - i = d + 1 by omega, show 61 - i = d + 2 by omega] at ih
    rw [show 60 - (i + 1) = d by omega, show 61 - (i + 1) = d + 1 by omega]
    have e1 : (d + 1) * (d + 2) = d * (d + 1) + 2 * (d + 1) := by grind
    omega
theorem pwTo_le (s : ByteArray) (hs : s.size ≤ 60) (i : Nat) (hi : i ≤ s.size) : (pwTo s i).length ≤ 915 := by
  have := pwTo_len s hs i hi
  omega
theorem pwR_le (s : ByteArray) : (pwR s).length ≤ 915 := by
  unfold pwR
  split
  · rename_i h
    unfold pwOk at h
    simp only [Bool.and_eq_true, decide_eq_true_eq] at h
    exact pwTo_le s h.2 s.size (Nat.le_refl _)
  · simp

/-! ### repetitions -/
/-- from i on m letters agree with those p further on -/
def RunAt (s : ByteArray) (m p i : Nat) : Prop := i + p + m ≤ s.size ∧ ∀ j, j < m → s.data.toList[i + j]? = s.data.toList[i + p + j]?
noncomputable def repB (s : ByteArray) (n e : Nat) : Bool := @decide (∃ p, 1 ≤ p ∧ ∃ i, RunAt s (n * p + e) p i) (Classical.propDecidable _)
theorem repB_iff (s : ByteArray) (n e : Nat) : repB s n e = true ↔ ∃ p, 1 ≤ p ∧ ∃ i, RunAt s (n * p + e) p i := by unfold repB; simp
/-- what IsSquareFree (n = 1, e = 0), IsCubeFree (2, 0), IsOverlapFree (1, 1) are to return -/
noncomputable def freeR (s : ByteArray) (n e : Nat) : Bool := wordB s && !repB s n e

/-! ### periods -/
def PerAt (s : ByteArray) (p : Nat) : Prop := ∀ i, i + p < s.size → s.data.toList[i]? = s.data.toList[i + p]?
noncomputable def firstP (P : Nat → Prop) : Nat → Nat → Nat
  | p, 0 => p
  | p, k + 1 => if @decide (P p) (Classical.propDecidable _) = true then p else firstP P (p + 1) k
theorem firstP_eq {P : Nat → Prop} : ∀ (k p q : Nat), p ≤ q → q ≤ p + k → (∀ r, p ≤ r → r < q → ¬ P r) → P q → firstP P p k = q
  | 0, p, q, h1, h2, _, _ => by show p = q; omega
  | k + 1, p, q, h1, h2, h3, h4 => by
    unfold firstP
    by_cases e : p = q
    · subst e
      rw [if_pos (@decide_eq_true _ (Classical.propDecidable _) h4)]
    · rw [@decide_eq_false _ (Classical.propDecidable _) (h3 p (Nat.le_refl _) (by omega)), if_neg (by decide)]
      exact firstP_eq k (p + 1) q (by omega) (by omega) (fun r a b => h3 r (by omega) b) h4
/-- the least period of a word that is not empty -/
noncomputable def perN (s : ByteArray) : Nat := firstP (PerAt s) 1 s.size
noncomputable def perR (s : ByteArray) : Int := if wordB s = true then (if s.size = 0 then 0 else (perN s : Int)) else -1
theorem perN_spec {s : ByteArray} {q : Nat} (h1 : 1 ≤ q) (h2 : q ≤ s.size) (h3 : PerAt s q) (h4 : ∀ r, 1 ≤ r → r < q → ¬ PerAt s r) : perN s = q :=
  firstP_eq _ _ _ h1 (by omega) h4 h3

/-! ### the longest run of equal letters -/
/-- at the last of the first k letters: the greatest run so far, the run there -/
def lrTo (s : ByteArray) : Nat → Nat × Nat
  | 0 => (0, 0)
  | k + 1 =>
    let y := lrTo s k
    let r := if 0 < k ∧ s.data.toList[k]? = s.data.toList[k - 1]? then y.2 + 1 else 1
    (max y.1 r, r)
def lrR (s : ByteArray) : Int := if wordB s = true then ((lrTo s s.size).1 : Int) else -1
end Go.Proofs.Ytjmijedfmiplfaa

/- A letter of a text by its index. No program in it. -/
namespace Go.Proofs.Ytjmijedfmiplfaa
open Go.RowKit

theorem index_at {P : Program} {t : TypeId} (ht : P.underlying t = some .string) (s : ByteArray) (z : Int) (k : Nat) (w : World) (hk : k < s.size) (hz : z = k) : (Instr.index t (.string s) (.int .i64 z)).run P w = .ok (.int .u8 (s[k].toNat : Int)) w := by
  subst hz
  rw [run_index_string _ _ _ _ _ ht]
  simp [hk]
theorem at_list (s : ByteArray) (k : Nat) (hk : k < s.size) : s.data.toList[k]? = some s[k] := by
  rw [Array.getElem?_toList]
  exact Array.getElem?_eq_getElem hk
theorem same_at (s : ByteArray) (i j : Nat) (hi : i < s.size) (hj : j < s.size) : (s.data.toList[i]? = s.data.toList[j]?) ↔ s[i] = s[j] := by
  rw [at_list s i hi, at_list s j hj]
  exact ⟨fun h => Option.some.inj h, fun h => by rw [h]⟩
theorem num_same (a b : UInt8) : (((a.toNat : Int) == (b.toNat : Int)) = true) ↔ a = b := by
  rw [beq_iff_eq]
  exact ⟨fun h => UInt8.toNat.inj (by omega), fun h => by rw [h]⟩
theorem num_other (a b : UInt8) : (((a.toNat : Int) == (b.toNat : Int)) = false) ↔ a ≠ b := by
  rw [← Bool.not_eq_true, num_same]
end Go.Proofs.Ytjmijedfmiplfaa

/- WordOk of the model and its count of a letter. No condition but that a text has at most 2^63 bytes. -/
namespace Go.Proofs.Ytjmijedfmiplfaa
open Go.RowKit

set_option maxHeartbeats 400000 in
theorem specWordOk (s : ByteArray) (w : World) :
    Calls Try.prog 45 #[.string s] w fun e w' => e = .returned (.bool (wordB s)) ∧ w = w' := by
  by_cases hl : 400 < s.size
  · have HE := Lib.hid (word_long hl)
    go_enter Try.func45, Try.ntmps45
    go_wp2
    go_ret
    exact ⟨ret_bool HE.out.symm, rfl⟩
  have hs : s.size ≤ 400 := by omega
  go_enter Try.func45, Try.ntmps45
  go_wp2
  go_loop [3] (fun i => ∃ k : Nat, k ≤ s.size ∧ i = .int .i64 k ∧ (s.data.toList.take k).all isAbcd = true) (fun i => s.size - (intOf i).toNat)
  case atStart => exact ⟨0, Nat.zero_le _, rfl, rfl⟩
  case round =>
    obtain ⟨k, hk, rfl, ha⟩ := hrel
    have HA := Lib.hid ha
    clear ha
    by_cases hlt : k < s.size
    · by_cases h1 : s[k].toNat < 97
      · have h1' : ((s[k].toNat : Int) < 97) := by omega
        have HN := Lib.hid (word_not (s := s) k hlt (by simp [isAbcd]; omega))
        go_wp2
        go_ret
        exact ⟨ret_bool HN.out.symm, rfl⟩
      · by_cases h2 : 100 < s[k].toNat
        · have h1' : ¬ ((s[k].toNat : Int) < 97) := by omega
          have h2' : ((100 : Int) < s[k].toNat) := by omega
          have HN := Lib.hid (word_not (s := s) k hlt (by simp [isAbcd]; omega))
          go_wp2
          go_ret
          exact ⟨ret_bool HN.out.symm, rfl⟩
        · have h1' : ¬ ((s[k].toNat : Int) < 97) := by omega
          have h2' : ¬ ((100 : Int) < s[k].toNat) := by omega
          go_wp2
          go_round
          case rel => exact ⟨k + 1, by omega, by go_num, all_snoc s k hlt HA.out (by simp [isAbcd]; omega)⟩
          case measure => simp [intOf]; omega
    · have hk' : k = s.size := by omega
      subst hk'
      have HY := Lib.hid (word_yes hs HA.out)
      go_wp2
      go_ret
      exact ⟨ret_bool HY.out.symm, rfl⟩

end Go.Proofs.Ytjmijedfmiplfaa

/- Chapter 8 of the model: repetitions. Conditions: lengths of at most 2^20. -/
namespace Go.Proofs.Ytjmijedfmiplfaa
open Go.RowKit

/-- the letters ahead of i that agree with those p further on, as far back as they do -/
def RunOk (s : ByteArray) (p run i : Nat) : Prop := run ≤ i ∧ (∀ j, i - run ≤ j → j < i → s.data.toList[j]? = s.data.toList[j + p]?) ∧ (run < i → s.data.toList[i - run - 1]? ≠ s.data.toList[i - run - 1 + p]?)
def NoRun (s : ByteArray) (m p i : Nat) : Prop := ∀ k, k + m ≤ i → ¬ RunAt s m p k
theorem run_start (s : ByteArray) (p : Nat) : RunOk s p 0 0 := ⟨Nat.le_refl _, fun j _ h => absurd h (by omega), fun h => absurd h (by omega)⟩
theorem norun_start (s : ByteArray) (m p : Nat) (hm : 1 ≤ m) : NoRun s m p 0 := fun k h => absurd h (by omega)
theorem run_yes {s : ByteArray} {p run i : Nat} (h : RunOk s p run i) (he : s.data.toList[i]? = s.data.toList[i + p]?) : RunOk s p (run + 1) (i + 1) := by
  obtain ⟨h1, h2, h3⟩ := h
  refine ⟨by omega, fun j a b => ?_, fun hl => ?_⟩
  · by_cases e : j = i
    · subst e; exact he
    · exact h2 j (by omega) (by omega)
  · rw [show i + 1 - (run + 1) - 1 = i - run - 1 by omega]
    exact h3 (by omega)
theorem run_no {s : ByteArray} {p i : Nat} (he : s.data.toList[i]? ≠ s.data.toList[i + p]?) : RunOk s p 0 (i + 1) :=
  ⟨by omega, fun j a b => absurd b (by omega), fun _ => by rw [show i + 1 - 0 - 1 = i by omega]; exact he⟩
theorem norun_yes {s : ByteArray} {m p run i : Nat} (h : RunOk s p run i) (hn : NoRun s m p i) (hr : run + 1 < m) : NoRun s m p (i + 1) := by
  intro k hk hrn
  by_cases e : k + m ≤ i
  · exact hn k e hrn
  · have hki : k = i + 1 - m := by omega
    have h3 := h.2.2 (by omega)
    have := hrn.2 (i - run - 1 - k) (by omega)
    rw [show k + (i - run - 1 - k) = i - run - 1 by omega, show k + p + (i - run - 1 - k) = i - run - 1 + p by omega] at this
    exact h3 this
theorem norun_no {s : ByteArray} {m p i : Nat} (hm : 1 ≤ m) (hn : NoRun s m p i) (he : s.data.toList[i]? ≠ s.data.toList[i + p]?) : NoRun s m p (i + 1) := by
  intro k hk hrn
  by_cases e : k + m ≤ i
  · exact hn k e hrn
  · have := hrn.2 (i - k) (by omega)
    rw [show k + (i - k) = i by omega, show k + p + (i - k) = i + p by omega] at this
    exact he this
theorem run_found {s : ByteArray} {p run i : Nat} (h : RunOk s p run i) (he : s.data.toList[i]? = s.data.toList[i + p]?) (hi : i + p < s.size) : RunAt s (run + 1) p (i - run) := by
  have h' := run_yes h he
  refine ⟨by have := h.1; omega, fun j hj => ?_⟩
  have := h'.2.1 (i - run + j) (by omega) (by have := h.1; omega)
  rw [this]
  congr 1
  omega

end Go.Proofs.Ytjmijedfmiplfaa
