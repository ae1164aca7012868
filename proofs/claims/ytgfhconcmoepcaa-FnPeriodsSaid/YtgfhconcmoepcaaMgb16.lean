/- Texts put together. -/
import Derived.Test.YtgfhconcmoepcaaMgb14
import Derived.Test.YtgfhconcmoepcaaMgb15
import Derived.Test.YtgfhconcmoepcaaMgb3
import Derived.Test.YtgfhconcmoepcaaMgb4
import Derived.Test.YtgfhconcmoepcaaMgb6
import Derived.Test.YtgfhconcmoepcaaMgb10
import Derived.Test.YtgfhconcmoepcaaMgb9
import Derived.Test.YtgfhconcmoepcaaMgb8
import Derived.Laws.Cover1
import Derived.Test.YtgfhconcmoepcaaMgb7
import Derived.Test.YtgfhconcmoepcaaMgb2
/- Palindromes: what chapter 9 is to return. No program in it. -/
namespace Go.Proofs.Ytgfhconcmoepcaa
open Go.RowKit

/-! ### palindromes -/
def PalS (s : ByteArray) : Prop := turnS s = s
noncomputable def palB (s : ByteArray) : Bool := @decide (PalS s) (Classical.propDecidable _)
theorem palB_iff (s : ByteArray) : palB s = true ↔ PalS s := by unfold palB; simp
theorem pal_list (s : ByteArray) : PalS s ↔ s.data.toList.reverse = s.data.toList := by
  unfold PalS turnS
  constructor
  · intro h
    have := congrArg (fun x : ByteArray => x.data.toList) h
    simpa using this
  · intro h
    apply bytes_ext
    rw [ByteArray.toList_eq, ByteArray.toList_eq, h]
theorem pal_empty : PalS ⟨#[]⟩ := (pal_list _).2 rfl
theorem pal_small {s : ByteArray} (h : s.size ≤ 1) : PalS s := by
  rw [pal_list]
  have hl : s.data.toList.length ≤ 1 := by simpa using h
  match e : s.data.toList, hl with
  | [], _ => rfl
  | [a], _ => rfl
theorem turn_size (s : ByteArray) : (turnS s).size = s.size := by
  show (s.data.toList.reverse.toArray).size = _
  simp
/-- what IsPalindrome is to return -/
noncomputable def ipR (s : ByteArray) : Bool := wordB s && palB s

/-! ### all palindromes -/
noncomputable def ppRow (s : ByteArray) (i : Nat) (l : List ByteArray) : Nat → List ByteArray
  | 0 => l
  | k + 1 => if palB (s.extract i (i + (k + 1))) = true then insL (ppRow s i l k) (s.extract i (i + (k + 1))) else ppRow s i l k
noncomputable def ppTo (s : ByteArray) : Nat → List ByteArray
  | 0 => [⟨#[]⟩]
  | i + 1 => ppRow s i (ppTo s i) (s.size - i)
noncomputable def ppL (s : ByteArray) : List ByteArray := ppTo s s.size
def ppOk (s : ByteArray) : Bool := wordB s && decide (s.size ≤ 60)
/-- what PalindromesIn is to return -/
noncomputable def ppR (s : ByteArray) : List ByteArray := if ppOk s = true then ppL s else []
theorem ppRow_yes {s : ByteArray} {i k : Nat} {l : List ByteArray} (h : palB (s.extract i (i + (k + 1))) = true) : ppRow s i l (k + 1) = insL (ppRow s i l k) (s.extract i (i + (k + 1))) := if_pos h
theorem ppRow_no {s : ByteArray} {i k : Nat} {l : List ByteArray} (h : palB (s.extract i (i + (k + 1))) = false) : ppRow s i l (k + 1) = ppRow s i l k := if_neg (by rw [h]; decide)
theorem ppRow_asc (s : ByteArray) (i : Nat) {l : List ByteArray} (h : Asc l) : ∀ k, Asc (ppRow s i l k)
  | 0 => h
  | k + 1 => by
    unfold ppRow
    split
    · exact insL_asc _ (ppRow_asc s i h k)
    · exact ppRow_asc s i h k
theorem ppTo_asc (s : ByteArray) : ∀ i, Asc (ppTo s i)
  | 0 => List.pairwise_singleton _ _
  | i + 1 => ppRow_asc s i (ppTo_asc s i) _
theorem ppRow_mem (s : ByteArray) (i : Nat) (l : List ByteArray) (x : ByteArray) : ∀ k, x ∈ ppRow s i l k ↔ x ∈ l ∨ ∃ n, 1 ≤ n ∧ n ≤ k ∧ PalS (s.extract i (i + n)) ∧ x = s.extract i (i + n)
  | 0 => by
    constructor
    · exact .inl
    · rintro (h | ⟨n, h1, h2, _⟩)
      · exact h
      · omega
  | k + 1 => by
    have ih := ppRow_mem s i l x k
    cases hb : palB (s.extract i (i + (k + 1)))
    · rw [ppRow_no hb, ih]
      constructor
      · rintro (e | ⟨n, h1, h2, h3⟩)
        · exact .inl e
        · exact .inr ⟨n, h1, by omega, h3⟩
      · rintro (e | ⟨n, h1, h2, h3, h4⟩)
        · exact .inl e
        · by_cases hk : n = k + 1
          · subst hk
            rw [(palB_iff _).2 h3] at hb
            cases hb
          · exact .inr ⟨n, h1, by omega, h3, h4⟩
    · rw [ppRow_yes hb, insL_mem, ih]
      constructor
      · rintro (e | e | ⟨n, h1, h2, h3⟩)
        · exact .inr ⟨k + 1, by omega, by omega, (palB_iff _).1 hb, e⟩
        · exact .inl e
        · exact .inr ⟨n, h1, by omega, h3⟩
      · rintro (e | ⟨n, h1, h2, h3, h4⟩)
        · exact .inr (.inl e)
        · by_cases hk : n = k + 1
          · subst hk; exact .inl h4
          · exact .inr (.inr ⟨n, h1, by omega, h3, h4⟩)
theorem ppTo_mem (s x : ByteArray) : ∀ i, i ≤ s.size → (x ∈ ppTo s i ↔ x = ⟨#[]⟩ ∨ ∃ j n, j < i ∧ 1 ≤ n ∧ j + n ≤ s.size ∧ PalS (s.extract j (j + n)) ∧ x = s.extract j (j + n))
  | 0, _ => by
    show x ∈ [(⟨#[]⟩ : ByteArray)] ↔ _
    rw [List.mem_singleton]
    constructor
    · exact .inl
    · rintro (h | ⟨j, n, h, _⟩)
      · exact h
      · omega
  | i + 1, hi => by
    show x ∈ ppRow _ _ _ _ ↔ _
    rw [ppRow_mem, ppTo_mem s x i (by omega)]
    constructor
    · rintro ((h | ⟨j, n, h1, h2⟩) | ⟨n, h1, h2, h3⟩)
      · exact .inl h
      · exact .inr ⟨j, n, by omega, h2⟩
      · exact .inr ⟨i, n, by omega, h1, by omega, h3⟩
    · rintro (h | ⟨j, n, h1, h2, h3, h4⟩)
      · exact .inl (.inl h)
      · by_cases hj : j = i
        · subst hj; exact .inr ⟨n, h2, by omega, h4⟩
        · exact .inl (.inr ⟨j, n, by omega, h2, h3, h4⟩)
theorem ppL_mem (s x : ByteArray) : x ∈ ppL s ↔ x = ⟨#[]⟩ ∨ ∃ j n, 1 ≤ n ∧ j + n ≤ s.size ∧ PalS (s.extract j (j + n)) ∧ x = s.extract j (j + n) := by
  unfold ppL
  rw [ppTo_mem s x s.size (Nat.le_refl _)]
  constructor
  · rintro (h | ⟨j, n, _, h⟩)
    · exact .inl h
    · exact .inr ⟨j, n, h⟩
  · rintro (h | ⟨j, n, h1, h2, h3⟩)
    · exact .inl h
    · exact .inr ⟨j, n, by omega, h1, h2, h3⟩
theorem insL_most : ∀ (l : List ByteArray) (x : ByteArray), (insL l x).length ≤ l.length + 1
  | [], x => by simp [insL]
  | a :: l, x => by
    have := insL_most l x
    unfold insL
    split
    · simp
    · split
      · simp only [List.length_cons]; omega
      · simp
theorem ppRow_len (s : ByteArray) (i : Nat) (l : List ByteArray) : ∀ k, (ppRow s i l k).length ≤ l.length + k
  | 0 => Nat.le_refl _
  | k + 1 => by
    have ih := ppRow_len s i l k
    unfold ppRow
    split
    · have := insL_most (ppRow s i l k) (s.extract i (i + (k + 1))); omega
    · omega
theorem ppTo_len (s : ByteArray) (hs : s.size ≤ 60) : ∀ i, (ppTo s i).length ≤ 1 + 60 * i
  | 0 => Nat.le_refl _
  | i + 1 => by
    have ih := ppTo_len s hs i
    have := ppRow_len s i (ppTo s i) (s.size - i)
    show (ppRow s i (ppTo s i) (s.size - i)).length ≤ _
    omega
theorem ppR_le (s : ByteArray) : (ppR s).length ≤ 3601 := by
  unfold ppR
  split
  · rename_i h
    unfold ppOk at h
    simp only [Bool.and_eq_true, decide_eq_true_eq] at h
    have := ppTo_len s h.2 s.size
    show (ppTo s s.size).length ≤ _
    omega
  · simp
/-- what DefectOf is to return -/
noncomputable def dfR (s : ByteArray) : Int := if ppOk s = true then (s.size : Int) + 1 - ((ppL s).length : Int) else -1
noncomputable def richR (s : ByteArray) : Bool := dfR s == 0

/-! ### the longest one -/
/-- a palindrome of size - d letters begins at i -/
def LpAt (s : ByteArray) (d i : Nat) : Prop := i ≤ d ∧ d ≤ s.size ∧ PalS (s.extract i (i + (s.size - d)))
noncomputable def lpD (s : ByteArray) : Nat := firstP (fun d => ∃ i, LpAt s d i) 0 s.size
noncomputable def lpI (s : ByteArray) : Nat := firstP (LpAt s (lpD s)) 0 s.size
/-- what LongestPalindrome is to return -/
noncomputable def lpR1 (s : ByteArray) : Int := if wordB s = true then (if s.size = 0 then 0 else (lpI s : Int)) else -1
noncomputable def lpR2 (s : ByteArray) : Int := if wordB s = true then ((s.size - lpD s : Nat) : Int) else -1
theorem lp_found {s : ByteArray} {d i : Nat} (h1 : LpAt s d i) (h2 : ∀ d', d' < d → ∀ i', ¬ LpAt s d' i') (h3 : ∀ i', i' < i → ¬ LpAt s d i') : lpD s = d ∧ lpI s = i := by
  have e1 : lpD s = d := firstP_eq _ _ _ (Nat.zero_le _) (by have := h1.2.1; omega) (fun r _ hr => fun ⟨i', hh⟩ => h2 r hr i' hh) ⟨i, h1⟩
  refine ⟨e1, ?_⟩
  unfold lpI
  rw [e1]
  exact firstP_eq _ _ _ (Nat.zero_le _) (by have := h1.1; have := h1.2.1; omega) (fun r _ hr => h3 r hr) h1

/-! ### closing -/
noncomputable def clK (s : ByteArray) : Nat := firstP (fun k => PalS (s.extract k s.size)) 0 s.size
noncomputable def clS (s : ByteArray) : ByteArray := s ++ turnS (s.extract 0 (clK s))
/-- what CloseWord is to return -/
noncomputable def clR (s : ByteArray) : ByteArray := if (wordB s && wordB (clS s)) = true then clS s else ⟨#[]⟩
theorem cl_end (s : ByteArray) : PalS (s.extract s.size s.size) := pal_small (by rw [ByteArray.size_extract]; omega)
theorem clK_eq {s : ByteArray} {k : Nat} (hk : k ≤ s.size) (h1 : PalS (s.extract k s.size)) (h2 : ∀ j, j < k → ¬ PalS (s.extract j s.size)) : clK s = k :=
  firstP_eq _ _ _ (Nat.zero_le _) (by omega) (fun r _ hr => h2 r hr) h1
theorem clK_le (s : ByteArray) : clK s ≤ s.size := by
  by_cases h : ∃ k, k ≤ s.size ∧ PalS (s.extract k s.size) ∧ ∀ j, j < k → ¬ PalS (s.extract j s.size)
  · obtain ⟨k, h1, h2, h3⟩ := h
    rw [clK_eq h1 h2 h3]
    exact h1
  · exfalso
    have : ∀ k, k ≤ s.size → ¬ PalS (s.extract k s.size) := by
      intro k
      induction k using Nat.strongRecOn with
      | ind k ih =>
        intro hk hp
        exact h ⟨k, hk, hp, fun j hj => ih j hj (by omega)⟩
    exact this s.size (Nat.le_refl _) (cl_end s)
theorem clS_size (s : ByteArray) : (clS s).size = s.size + clK s := by
  have h1 := clK_le s
  unfold clS
  rw [ByteArray.size_append, turn_size, ByteArray.size_extract]
  omega

/-! ### directed words -/
noncomputable def dwS (d : ByteArray) : Nat → ByteArray
  | 0 => ⟨#[]⟩
  | i + 1 => clS (dwS d i ++ d.extract i (i + 1))
noncomputable def dwB (d : ByteArray) : Nat → Bool
  | 0 => true
  | i + 1 => dwB d i && wordB (dwS d (i + 1))
noncomputable def dwOk (d : ByteArray) : Bool := wordB d && (decide (d.size ≤ 12) && dwB d d.size)
/-- what DirectedWord is to return -/
noncomputable def dwR (d : ByteArray) : ByteArray := if dwOk d = true then dwS d d.size else ⟨#[]⟩
theorem dwB_no {d : ByteArray} {i : Nat} (h : dwB d i = false) : ∀ k, i ≤ k → dwB d k = false
  | 0, hk => by
    have : i = 0 := by omega
    subst this
    exact h
  | k + 1, hk => by
    by_cases e : i = k + 1
    · subst e; exact h
    · show (dwB d k && _) = false
      rw [dwB_no h k (by omega), Bool.false_and]
/-- the direction and the word that are reached, behind at most n letters -/
noncomputable def drS (s : ByteArray) : Nat → ByteArray × ByteArray
  | 0 => (⟨#[]⟩, ⟨#[]⟩)
  | n + 1 =>
    let y := drS s n
    if y.2.size < s.size then (y.1 ++ s.extract y.2.size (y.2.size + 1), clS (y.2 ++ s.extract y.2.size (y.2.size + 1))) else y
noncomputable def drB (s : ByteArray) : Bool := @decide ((drS s 12).2 = s) (Classical.propDecidable _)
noncomputable def drOk (s : ByteArray) : Bool := wordB s && drB s
/-- what DirectionOf is to return -/
noncomputable def drR (s : ByteArray) : ByteArray := if drOk s = true then (drS s 12).1 else ⟨#[]⟩

/-! ### closed under turning -/
noncomputable def cuB (s : ByteArray) (n : Nat) : Bool := @decide (∀ f ∈ facTo s n (s.size + 1 - n), turnS f ∈ facTo s n (s.size + 1 - n)) (Classical.propDecidable _)
/-- what IsClosedUnderTurn is to return -/
noncomputable def cuR (s : ByteArray) (n : Int) : Bool := wordB s && ((decide (1 ≤ n) && decide (n ≤ 60)) && cuB s n.toNat)
end Go.Proofs.Ytgfhconcmoepcaa

/- Factors of a word: what chapter 7 is to return. No program in it. -/
namespace Go.Proofs.Ytgfhconcmoepcaa
open Go.RowKit

/-- the factors of n letters, ascending -/
def fctL (s : ByteArray) (n : Nat) : List ByteArray := facTo s n (s.size + 1 - n)
def fctOk (s : ByteArray) (n : Int) : Bool := wordB s && (decide (1 ≤ n) && decide (n ≤ 400))
def fctR (s : ByteArray) (n : Int) : List ByteArray := if fctOk s n = true then fctL s n.toNat else []
def cpxR (s : ByteArray) (n : Int) : Int := if fctOk s n = true then ((fctL s n.toNat).length : Int) else -1
def allTo (s : ByteArray) : Nat → Nat
  | 0 => 0
  | k + 1 => allTo s k + (fctL s (k + 1)).length
def allOk (s : ByteArray) : Bool := wordB s && decide (s.size ≤ 60)
def allR (s : ByteArray) : Int := if allOk s = true then (allTo s s.size : Int) else -1
/-- the factor and a letter behind it or ahead of it -/
def exL (f : ByteArray) (before : Bool) (k : Nat) : ByteArray := if before = true then ⟨#[letterN k]⟩ ++ f else f ++ ⟨#[letterN k]⟩
/-- the letters behind or ahead of a factor -/
noncomputable def nxtS (s f : ByteArray) (before : Bool) : ByteArray := ⟨(outTo (fun k => hasR s (exL f before k)) 4).toArray⟩
noncomputable def nxtR (s f : ByteArray) (before : Bool) : ByteArray := if (wordB s && wordB f) = true then nxtS s f before else ⟨#[]⟩
noncomputable def spcL (s : ByteArray) (n : Nat) (before : Bool) : List ByteArray := (fctL s n).filter fun f => decide (1 < (nxtS s f before).size)
noncomputable def spcR (s : ByteArray) (n : Int) (before : Bool) : List ByteArray := if fctOk s n = true then spcL s n.toNat before else []
/-- the index of a string in a list, or -1 -/
def atN (l : List ByteArray) (x : ByteArray) : Nat := l.findIdx fun y => x.toList == y.toList
def atR (l : List ByteArray) (x : ByteArray) : Int := if atN l x < l.length then (atN l x : Int) else -1
def edgeL (s : ByteArray) (n : Nat) : List (List Int) := (fctL s (n + 1)).map fun f => [atR (fctL s n) (f.extract 0 n), atR (fctL s n) (f.extract 1 f.size)]
def grfR (s : ByteArray) (n : Int) : List (List Int) := if fctOk s n = true then edgeL s n.toNat else []
end Go.Proofs.Ytgfhconcmoepcaa

/- flip and in, of the laws. Conditions: lengths of at most 2^20. -/
namespace Go.Proofs.Ytgfhconcmoepcaa
open Go.RowKit

def flipS (s : ByteArray) : ByteArray := ⟨s.data.toList.reverse.toArray⟩
/-- the last i letters, the last one first -/
theorem rev_snoc (l : List UInt8) (i : Nat) (h : i < l.length) : l.reverse.take (i + 1) = l.reverse.take i ++ [l[l.length - 1 - i]'(by omega)] := by
  rw [List.take_succ_eq_append_getElem (by simpa using h), List.getElem_reverse]

set_option maxRecDepth 100000 in
set_option maxHeartbeats 1000000 in
theorem flipC (s : ByteArray) (w : World) (hs : s.size ≤ 1048576) :
    Calls Try.prog 34 #[.string s] w fun e w' => e = .returned (.string (flipS s)) ∧ Below w.heap.size w w' := by
  obtain ⟨i0, hi0, hz0, hz1, hz2⟩ := info_parts u8_info
  go_enter Try.func34, Try.ntmps34
  go_wp2_with fail
  go_loopw [3, 4] (fun o ix w' => ∃ (j n : Nat), j ≤ s.size ∧ n = j ∧ ix = .int .i64 ((s.size : Int) - 1 - (j : Int)) ∧ w'.ownsRow w.heap.size 5 1 o n (byteCells (s.data.toList.reverse.take j)) ∧ Below w.heap.size w w') (fun _ ix _ => (intOf ix + 1).toNat)
  case atStart => exact ⟨0, 0, by omega, rfl, by simp, own_made0 _ _ _ (Nat.le_refl _), (Below.refl _ _).alloc (Nat.le_refl _) _⟩
  case round =>
    obtain ⟨j, n, hj, hnj, rfl, ho, hb⟩ := hrel
    have HO := Lib.hid ho
    have HB := Lib.hid hb
    have hsz := hb.size
    have HN := Lib.hid hnj
    have hn : n ≤ 1048576 := by omega
    clear ho hb hnj
    by_cases hlt : j < s.size
    · obtain ⟨q, hq⟩ : ∃ q : Nat, s.size = j + 1 + q := ⟨s.size - 1 - j, by omega⟩
      have hqs : q < s.size := by omega
      have e0 : (s.size : Int) - 1 - (j : Int) = (q : Int) := by omega
      have HQ := Lib.hid hq
      have HRV := Lib.hid (rev_snoc s.data.toList j (by simpa using hlt))
      rw [e0]
      clear hq e0
      go_wp2_with (at_builtin
                   refine wpList_append1 _ rfl (.tmp 13) (.tmp 17) _ rfl w.heap.size 5 i0 _ 1 Try.underlying22 hi0 hz0 hz1 hz2 rfl _ n _ rfl HO.out (.int .u8 (s[q].toNat : Int)) rfl rfl (by unfold maxLen; omega) (by omega) hsz ?_
                   intro v' w2 hown2 hbel2)
      go_roundw
      case rel =>
        have hq := HQ.out
        refine ⟨j + 1, n + 1, by omega, by rw [HN.out], by congr 1; omega, ?_, HB.out.trans hbel2⟩
        have e1 : s.data.toList[s.data.toList.length - 1 - j]'(by simp; omega) = s[q] := by
          have e2 : s.data.toList.length - 1 - j = q := by simp; omega
          simp only [e2]
          rfl
        rw [HRV.out, e1, byteCells_snoc]
        exact hown2
      case measure => have hq := HQ.out; simp only [intOf]; omega
    · have e0 : (s.size : Int) - 1 - (j : Int) = -1 := by omega
      have hconv := conv_own_to Try.underlying9 HO.out
      have HE : Hid (s.data.toList.reverse.take j = s.data.toList.reverse) := List.take_of_length_le (by simp; omega)
      rw [e0]
      clear e0
      go_wp2_with fail
      go_ret
      refine ⟨ret_str ?_, HB.out⟩
      rw [HE.out]
      rfl

def inB (l : List ByteArray) (x : ByteArray) : Bool := l.any fun y => x.toList == y.toList
theorem inB_iff (l : List ByteArray) (x : ByteArray) : inB l x = true ↔ x ∈ l := by
  unfold inB
  rw [List.any_eq_true]
  constructor
  · rintro ⟨y, hy, e⟩
    rw [bytes_ext (eq_of_beq e)]
    exact hy
  · exact fun h => ⟨x, h, by simp⟩
end Go.Proofs.Ytgfhconcmoepcaa

/- The mathematics of FnFactors: members of the list of factors, a word turned round. No program in it. -/
namespace Go.Proofs.Ytgfhconcmoepcaa
open Go.RowKit

theorem fct_mem (s : ByteArray) (n : Nat) (x : ByteArray) : x ∈ fctL s n ↔ ∃ j, j < s.size + 1 - n ∧ x = s.extract j (j + n) := by
  unfold fctL
  exact facTo_mem s n x _
theorem asc_nodup {l : List ByteArray} (h : Asc l) : l.Nodup := h.imp fun {a b} hab e => by
  rw [e] at hab
  exact less_self _ hab
theorem nodup_le {α : Type} : ∀ {l m : List α}, l.Nodup → (∀ x ∈ l, x ∈ m) → l.length ≤ m.length
  | [], _, _, _ => Nat.zero_le _
  | a :: l, m, hl, h => by
    obtain ⟨h1, h2⟩ := List.pairwise_cons.1 hl
    obtain ⟨m1, m2, rfl⟩ := List.append_of_mem (h a (List.mem_cons_self ..))
    have := nodup_le (m := m1 ++ m2) h2 (fun x hx => by
      rcases List.mem_append.1 (h x (List.mem_cons_of_mem _ hx)) with e | e
      · exact List.mem_append_left _ e
      · rcases List.mem_cons.1 e with e | e
        · exact absurd e.symm (h1 x hx)
        · exact List.mem_append_right _ e)
    rw [List.length_append] at this
    rw [List.length_append, List.length_cons, List.length_cons]
    omega
theorem nodup_eq {α : Type} {l m : List α} (hl : l.Nodup) (hm : m.Nodup) (h : ∀ x, x ∈ l ↔ x ∈ m) : l.length = m.length :=
  Nat.le_antisymm (nodup_le hl fun x hx => (h x).1 hx) (nodup_le hm fun x hx => (h x).2 hx)
theorem flip_flip (s : ByteArray) : flipS (flipS s) = s := by
  unfold flipS
  apply bytes_ext
  rw [ByteArray.toList_eq, ByteArray.toList_eq]
  simp
theorem flip_size (s : ByteArray) : (flipS s).size = s.size := by
  show (s.data.toList.reverse.toArray).size = s.size
  simp
theorem flip_ext (s : ByteArray) (j n : Nat) (h : j + n ≤ s.size) : (flipS s).extract j (j + n) = flipS (s.extract (s.size - j - n) (s.size - j - n + n)) := by
  apply bytes_ext
  rw [ByteArray.toList_eq, ByteArray.toList_eq]
  show ((flipS s).extract j (j + n)).data.toList = (s.extract (s.size - j - n) (s.size - j - n + n)).data.toList.reverse
  rw [ByteArray.data_extract, ByteArray.data_extract, Array.toList_extract, Array.toList_extract, List.extract_eq_take_drop, List.extract_eq_take_drop]
  show ((s.data.toList.reverse).drop j).take (j + n - j) = _
  have hl : s.data.toList.length = s.size := by simp
  generalize s.data.toList = l at hl
  rw [← hl] at h ⊢
  rw [Nat.add_sub_cancel_left, Nat.add_sub_cancel_left]
  apply List.ext_getElem
  · simp; omega
  · intro i h1 h2
    simp only [List.getElem_take, List.getElem_drop, List.getElem_reverse]
    congr 1
    simp at h1 h2 ⊢
    omega
theorem flip_inj {a b : ByteArray} (h : flipS a = flipS b) : a = b := by rw [← flip_flip a, h, flip_flip]
theorem flip_fct (s : ByteArray) (n : Nat) (x : ByteArray) : x ∈ fctL (flipS s) n ↔ x ∈ (fctL s n).map flipS := by
  rw [fct_mem, List.mem_map]
  constructor
  · rintro ⟨j, hj, rfl⟩
    rw [flip_size] at hj
    exact ⟨s.extract (s.size - j - n) (s.size - j - n + n), (fct_mem s n _).2 ⟨s.size - j - n, by omega, rfl⟩, (flip_ext s j n (by omega)).symm⟩
  · rintro ⟨y, hy, rfl⟩
    obtain ⟨j, hj, rfl⟩ := (fct_mem s n y).1 hy
    refine ⟨s.size - j - n, by rw [flip_size]; omega, ?_⟩
    rw [flip_ext s (s.size - j - n) n (by omega)]
    congr 2 <;> omega
/-- a word and the word turned round have as many factors of a length -/
theorem flip_len (s : ByteArray) (n : Nat) : (fctL (flipS s) n).length = (fctL s n).length := by
  have h1 : (fctL (flipS s) n).Nodup := asc_nodup (facTo_asc _ _ _)
  have h2 : ((fctL s n).map flipS).Nodup := List.pairwise_map.2 ((asc_nodup (facTo_asc s n (s.size + 1 - n))).imp fun {a b} hab e => hab (flip_inj e))
  rw [nodup_eq h1 h2 (flip_fct s n), List.length_map]

/-! ### the letters behind and ahead of factors -/
theorem exL_sz (f : ByteArray) (b : Bool) (k : Nat) : (exL f b k).size = f.size + 1 := by
  have h1 : (⟨#[letterN k]⟩ : ByteArray).size = 1 := rfl
  unfold exL
  split
  · rw [ByteArray.size_append, h1]; omega
  · rw [ByteArray.size_append, h1]
theorem exL_list (f : ByteArray) (b : Bool) (k : Nat) : (exL f b k).data.toList = if b = true then letterN k :: f.data.toList else f.data.toList ++ [letterN k] := by
  unfold exL
  split
  · rw [ByteArray.data_append, Array.toList_append]; rfl
  · rw [ByteArray.data_append, Array.toList_append]
theorem exL_inj {f f' : ByteArray} {b : Bool} {k k' : Nat} (hk : k ≤ 3) (hk' : k' ≤ 3) (h : exL f b k = exL f' b k') : f = f' ∧ k = k' := by
  have e := congrArg (fun x : ByteArray => x.data.toList) h
  simp only [exL_list] at e
  by_cases hb : b = true
  · rw [if_pos hb, if_pos hb] at e
    injection e with e1 e2
    exact ⟨bytes_ext (by rw [ByteArray.toList_eq, ByteArray.toList_eq]; exact e2), letterN_inj hk hk' e1⟩
  · rw [if_neg hb, if_neg hb] at e
    obtain ⟨e1, e2⟩ := List.append_inj' e rfl
    injection e2 with e2 _
    exact ⟨bytes_ext (by rw [ByteArray.toList_eq, ByteArray.toList_eq]; exact e1), letterN_inj hk hk' e2⟩
theorem has_iff (s x : ByteArray) : hasR s x = true ↔ ∃ i, i + x.size ≤ s.size ∧ s.extract i (i + x.size) = x := by
  unfold hasR
  constructor
  · intro h
    obtain ⟨i, h1, h2⟩ := @of_decide_eq_true _ (Classical.propDecidable _) h
    exact ⟨i, h1, h2⟩
  · rintro ⟨i, h1, h2⟩
    exact @decide_eq_true _ (Classical.propDecidable _) ⟨i, h1, h2⟩
theorem fct_sz {s x : ByteArray} {n : Nat} (hn : n ≤ s.size) (h : x ∈ fctL s n) : x.size = n := by
  obtain ⟨j, hj, rfl⟩ := (fct_mem s n x).1 h
  rw [ByteArray.size_extract]
  omega
theorem word_letter {s : ByteArray} (h : wordB s = true) {j : Nat} (hj : j < s.size) : ∃ k, k ≤ 3 ∧ s.data.toList[j]'(by simpa using hj) = letterN k := by
  have hm := List.all_eq_true.1 (all_of_word h) (s.data.toList[j]'(by simpa using hj)) (List.getElem_mem _)
  unfold isAbcd at hm
  simp only [Bool.and_eq_true, decide_eq_true_eq] at hm
  refine ⟨(s.data.toList[j]'(by simpa using hj)).toNat - 97, by omega, ?_⟩
  apply UInt8.toNat.inj
  rw [letterN_toNat _ (by omega)]
  omega
theorem ext_list2 (s : ByteArray) (i n : Nat) : (s.extract i (i + n)).data.toList = (s.data.toList.drop i).take n := by
  rw [ByteArray.data_extract, Array.toList_extract, List.extract_eq_take_drop, Nat.add_sub_cancel_left]
/-- each longer factor is a factor and a letter -/
theorem ext_split {s : ByteArray} (hw : wordB s = true) {j n : Nat} (h : j + (n + 1) ≤ s.size) (b : Bool) : ∃ k i, k ≤ 3 ∧ i + n ≤ s.size ∧ s.extract j (j + (n + 1)) = exL (s.extract i (i + n)) b k := by
  have hl : s.data.toList.length = s.size := by simp
  cases b
  · obtain ⟨k, hk, e⟩ := word_letter hw (show j + n < s.size by omega)
    refine ⟨k, j, hk, by omega, bytes_ext ?_⟩
    rw [ByteArray.toList_eq, ByteArray.toList_eq]
    show (s.extract j (j + (n + 1))).data.toList = (exL (s.extract j (j + n)) false k).data.toList
    rw [exL_list, if_neg (by decide), ext_list2, ext_list2, List.take_succ_eq_append_getElem (by rw [List.length_drop]; omega), List.getElem_drop, e]
  · obtain ⟨k, hk, e⟩ := word_letter hw (show j < s.size by omega)
    refine ⟨k, j + 1, hk, by omega, bytes_ext ?_⟩
    rw [ByteArray.toList_eq, ByteArray.toList_eq]
    show (s.extract j (j + (n + 1))).data.toList = (exL (s.extract (j + 1) (j + 1 + n)) true k).data.toList
    rw [exL_list, if_pos rfl, ext_list2, ext_list2, ← e, List.drop_eq_getElem_cons (show j < s.data.toList.length by omega), List.take_succ_cons]
/-- the factors of n letters, each with each letter behind (or ahead of) it -/
noncomputable def extsL (s : ByteArray) (n : Nat) (b : Bool) : List ByteArray := (fctL s n).flatMap fun f => ((List.range 4).filter fun k => hasR s (exL f b k)).map (exL f b)
theorem outTo_len (p : Nat → Bool) : ∀ n, (outTo p n).length = ((List.range n).filter p).length
  | 0 => rfl
  | n + 1 => by
    rw [List.range_succ, List.filter_append, List.length_append, ← outTo_len p n]
    show (outTo p n ++ (if p n = true then [letterN n] else [])).length = _
    rw [List.length_append]
    congr 1
    by_cases h : p n = true
    · rw [if_pos h, List.filter_cons_of_pos h]; rfl
    · rw [if_neg h, List.filter_cons_of_neg h]; rfl
theorem nxt_size (s f : ByteArray) (b : Bool) : (nxtS s f b).size = ((List.range 4).filter fun k => hasR s (exL f b k)).length := by
  show ((outTo _ 4).toArray).size = _
  rw [List.size_toArray, outTo_len]
theorem exts_len (s : ByteArray) (n : Nat) (b : Bool) : (extsL s n b).length = ((fctL s n).map fun f => (nxtS s f b).size).sum := by
  unfold extsL
  rw [List.length_flatMap]
  congr 1
  apply List.map_congr_left
  intro f _
  rw [List.length_map, nxt_size]
theorem exts_mem {s : ByteArray} (hw : wordB s = true) (n : Nat) (hn : n + 1 ≤ s.size) (b : Bool) (x : ByteArray) : x ∈ extsL s n b ↔ x ∈ fctL s (n + 1) := by
  unfold extsL
  rw [List.mem_flatMap]
  constructor
  · rintro ⟨f, hf, hx⟩
    obtain ⟨k, hk, rfl⟩ := List.mem_map.1 hx
    obtain ⟨hk4, hh⟩ := List.mem_filter.1 hk
    obtain ⟨i, h1, h2⟩ := (has_iff _ _).1 hh
    rw [exL_sz, fct_sz (by omega) hf] at h1 h2
    exact (fct_mem _ _ _).2 ⟨i, by omega, h2.symm⟩
  · intro h
    obtain ⟨j, hj, rfl⟩ := (fct_mem _ _ _).1 h
    obtain ⟨k, i, hk, hi, e⟩ := ext_split hw (show j + (n + 1) ≤ s.size by omega) b
    refine ⟨s.extract i (i + n), (fct_mem _ _ _).2 ⟨i, by omega, rfl⟩, List.mem_map.2 ⟨k, List.mem_filter.2 ⟨List.mem_range.2 (by omega), ?_⟩, e.symm⟩⟩
    refine (has_iff _ _).2 ⟨j, ?_, ?_⟩
    · rw [exL_sz, ByteArray.size_extract]; omega
    · rw [exL_sz, ByteArray.size_extract, show min (i + n) s.size - i + 1 = n + 1 by omega]; exact e
theorem exts_nodup (s : ByteArray) (n : Nat) (b : Bool) : (extsL s n b).Nodup := by
  unfold extsL
  have hnd := asc_nodup (facTo_asc s n (s.size + 1 - n))
  change (fctL s n).Nodup at hnd
  generalize fctL s n = l at hnd
  induction l with
  | nil => exact List.Pairwise.nil
  | cons f l ih =>
    obtain ⟨h1, h2⟩ := List.pairwise_cons.1 hnd
    rw [List.flatMap_cons]
    refine List.pairwise_append.2 ⟨?_, ih h2, ?_⟩
    · refine List.pairwise_map.2 ?_
      have hr : ((List.range 4).filter fun k => hasR s (exL f b k)).Pairwise (fun i j => i ≠ j ∧ i < 4 ∧ j < 4) := by
        refine List.Pairwise.filter _ ?_
        decide
      exact hr.imp fun {i j} h e => h.1 (exL_inj (by omega) (by omega) e).2
    · intro x hx y hy e
      obtain ⟨k, hk, rfl⟩ := List.mem_map.1 hx
      obtain ⟨g, hg, hy⟩ := List.mem_flatMap.1 hy
      obtain ⟨k', hk', rfl⟩ := List.mem_map.1 hy
      have a := List.mem_range.1 (List.mem_filter.1 hk).1
      have c := List.mem_range.1 (List.mem_filter.1 hk').1
      exact h1 g hg (exL_inj (by omega) (by omega) e).1
/-- the followers of all factors are as many as the factors with a letter more -/
theorem exts_count {s : ByteArray} (hw : wordB s = true) (n : Nat) (hn : n + 1 ≤ s.size) (b : Bool) : ((fctL s n).map fun f => (nxtS s f b).size).sum = (fctL s (n + 1)).length := by
  rw [← exts_len]
  exact nodup_eq (exts_nodup s n b) (asc_nodup (facTo_asc _ _ _)) (exts_mem hw n hn b)
end Go.Proofs.Ytgfhconcmoepcaa
