/- Texts put together. -/
import Derived.Test.YtjmijedfmiplfaaMgA8
import Derived.Test.YtjmijedfmiplfaaMgA10
import Derived.Test.YtjmijedfmiplfaaMgA13
import Derived.Test.YtjmijedfmiplfaaMgA6
import Derived.Test.YtjmijedfmiplfaaMgA1
import Derived.Test.YtjmijedfmiplfaaMgA9
import Derived.Test.YtjmijedfmiplfaaMgA5
/- TurnWord of the model: the letters in reverse order. Condition: a text of at most 2^20 bytes. -/
namespace Go.Proofs.Ytjmijedfmiplfaa
open Go.RowKit

def turnS (s : ByteArray) : ByteArray := ⟨s.data.toList.reverse.toArray⟩
theorem drop_prev (s : ByteArray) (k : Nat) (h : k < s.size) : s.data.toList.drop k = s[k] :: s.data.toList.drop (k + 1) := by
  rw [List.drop_eq_getElem_cons (by simpa using h)]
  rfl

set_option maxHeartbeats 400000 in
theorem specTurn (s : ByteArray) (w : World) (hs : s.size ≤ 1048576) :
    Calls Try.prog 73 #[.string s] w fun e w' => e = .returned (.string (turnS s)) ∧ Below w.heap.size w w' := by
  obtain ⟨i0, hi0, hz0, hz1, hz2⟩ := info_parts u8_info
  go_enter Try.func73, Try.ntmps73
  go_wp2
  go_loopw [3, 4] (fun b i w' => ∃ k : Nat, k ≤ s.size ∧ i = .int .i64 ((k : Int) - 1) ∧ w'.ownsRow w.heap.size 5 1 b (s.size - k) (byteCells (s.data.toList.drop k).reverse) ∧ Below w.heap.size w w') (fun _ i _ => (intOf i + 1).toNat)
  case atStart =>
    refine ⟨s.size, Nat.le_refl _, rfl, ?_, (Below.refl _ _).alloc (Nat.le_refl _) _⟩
    rw [Nat.sub_self, List.drop_of_length_le (by simp)]
    exact World.ownsRow_made w #[] 0 (Nat.le_refl _) (by simp [maxLen]) (by simp)
  case round =>
    obtain ⟨k, hk, rfl, ho, hb⟩ := hrel
    have HO := Lib.hid ho
    have hsz := hb.size
    clear ho
    by_cases hpos : 0 < k
    · obtain ⟨j, rfl⟩ : ∃ j, k = j + 1 := ⟨k - 1, by omega⟩
      have hj : j < s.size := by omega
      have ej : ((j + 1 : Nat) : Int) - 1 = (j : Int) := by omega
      rw [ej]
      have HD := Lib.hid (drop_prev s j hj)
      have ho := HO.out
      go_wp2_with (first
        | (at_builtin
           refine wpList_append1 _ rfl (.tmp 13) (.tmp 17) _ rfl w.heap.size 5 i0 _ 1 Try.underlying42 hi0 hz0 hz1 hz2 rfl _ (s.size - (j + 1)) _ rfl ho (.int .u8 (s[j].toNat : Int)) rfl rfl (by unfold maxLen; omega) (by omega) hsz ?_
           intro v' w1 hown1 hbel1))
      go_roundw
      case rel =>
        refine ⟨j, by omega, rfl, ?_, hb.trans hbel1⟩
        rw [HD.out, List.reverse_cons, byteCells_snoc, show s.size - j = s.size - (j + 1) + 1 from by omega]
        exact hown1
      case measure => simp [intOf]
    · have hk0 : k = 0 := by omega
      subst hk0
      have ho := HO.out
      rw [List.drop_zero] at ho
      have hconv := conv_own ho
      clear ho
      go_wp2_with fail
      go_ret
      exact ⟨rfl, hb⟩

/-- what TurnWord is to return -/
def turnR (s : ByteArray) : ByteArray := if wordB s = true then turnS s else ⟨#[]⟩
end Go.Proofs.Ytjmijedfmiplfaa

/- Palindromes: what chapter 9 is to return. No program in it. -/
namespace Go.Proofs.Ytjmijedfmiplfaa
open Go.RowKit

/-! ### palindromes -/
def PalS (s : ByteArray) : Prop := turnS s = s
noncomputable def palB (s : ByteArray) : Bool := @decide (PalS s) (Classical.propDecidable _)
theorem palB_iff (s : ByteArray) : palB s = true ↔ PalS s := by unfold palB; simp
theorem pal_list (s : ByteArray) : PalS s ↔ s.data.toList.reverse = s.data.toList := by
  unfold PalS turnS
  constructor
  · intro h
    have := congrArg (fun x : ByteArray => x.data.toList) h
    simpa using this
  · intro h
    apply bytes_ext
    rw [ByteArray.toList_eq, ByteArray.toList_eq, h]
theorem pal_empty : PalS ⟨#[]⟩ := (pal_list _).2 rfl
theorem pal_small {s : ByteArray} (h : s.size ≤ 1) : PalS s := by
  rw [pal_list]
  have hl : s.data.toList.length ≤ 1 := by simpa using h
  match e : s.data.toList, hl with
  | [], _ => rfl
  | [a], _ => rfl
theorem turn_size (s : ByteArray) : (turnS s).size = s.size := by
  show (s.data.toList.reverse.toArray).size = _
  simp
/-- what IsPalindrome is to return -/
noncomputable def ipR (s : ByteArray) : Bool := wordB s && palB s

/-! ### all palindromes -/
noncomputable def ppRow (s : ByteArray) (i : Nat) (l : List ByteArray) : Nat → List ByteArray
  | 0 => l
  | k + 1 => if palB (s.extract i (i + (k + 1))) = true then insL (ppRow s i l k) (s.extract i (i + (k + 1))) else ppRow s i l k
noncomputable def ppTo (s : ByteArray) : Nat → List ByteArray
  | 0 => [⟨#[]⟩]
  | i + 1 => ppRow s i (ppTo s i) (s.size - i)
noncomputable def ppL (s : ByteArray) : List ByteArray := ppTo s s.size
def ppOk (s : ByteArray) : Bool := wordB s && decide (s.size ≤ 60)
/-- what PalindromesIn is to return -/
noncomputable def ppR (s : ByteArray) : List ByteArray := if ppOk s = true then ppL s else []
theorem ppRow_yes {s : ByteArray} {i k : Nat} {l : List ByteArray} (h : palB (s.extract i (i + (k + 1))) = true) : ppRow s i l (k + 1) = insL (ppRow s i l k) (s.extract i (i + (k + 1))) := if_pos h
theorem ppRow_no {s : ByteArray} {i k : Nat} {l : List ByteArray} (h : palB (s.extract i (i + (k + 1))) = false) : ppRow s i l (k + 1) = ppRow s i l k := if_neg (by rw [h]; decide)
theorem ppRow_asc (s : ByteArray) (i : Nat) {l : List ByteArray} (h : Asc l) : ∀ k, Asc (ppRow s i l k)
  | 0 => h
  | k + 1 => by
    unfold ppRow
    split
    · exact insL_asc _ (ppRow_asc s i h k)
    · exact ppRow_asc s i h k
theorem ppTo_asc (s : ByteArray) : ∀ i, Asc (ppTo s i)
  | 0 => List.pairwise_singleton _ _
  | i + 1 => ppRow_asc s i (ppTo_asc s i) _
theorem ppRow_mem (s : ByteArray) (i : Nat) (l : List ByteArray) (x : ByteArray) : ∀ k, x ∈ ppRow s i l k ↔ x ∈ l ∨ ∃ n, 1 ≤ n ∧ n ≤ k ∧ PalS (s.extract i (i + n)) ∧ x = s.extract i (i + n)
  | 0 => by
    constructor
    · exact .inl
    · rintro (h | ⟨n, h1, h2, _⟩)
      · exact h
      · omega
  | k + 1 => by
    have ih := ppRow_mem s i l x k
    cases hb : palB (s.extract i (i + (k + 1)))
    · rw [ppRow_no hb, ih]
      constructor
      · rintro (e | ⟨n, h1, h2, h3⟩)
        · exact .inl e
        · exact .inr ⟨n, h1, by omega, h3⟩
      · rintro (e | ⟨n, h1, h2, h3, h4⟩)
        · exact .inl e
        · by_cases hk : n = k + 1
          · subst hk
            rw [(palB_iff _).2 h3] at hb
            cases hb
          · exact .inr ⟨n, h1, by omega, h3, h4⟩
    · rw [ppRow_yes hb, insL_mem, ih]
      constructor
      · rintro (e | e | ⟨n, h1, h2, h3⟩)
        · exact .inr ⟨k + 1, by omega, by omega, (palB_iff _).1 hb, e⟩
        · exact .inl e
        · exact .inr ⟨n, h1, by omega, h3⟩
      · rintro (e | ⟨n, h1, h2, h3, h4⟩)
        · exact .inr (.inl e)
        · by_cases hk : n = k + 1
          · subst hk; exact .inl h4
          · exact .inr (.inr ⟨n, h1, by omega, h3, h4⟩)
theorem ppTo_mem (s x : ByteArray) : ∀ i, i ≤ s.size → (x ∈ ppTo s i ↔ x = ⟨#[]⟩ ∨ ∃ j n, j < i ∧ 1 ≤ n ∧ j + n ≤ s.size ∧ PalS (s.extract j (j + n)) ∧ x = s.extract j (j + n))
  | 0, _ => by
    show x ∈ [(⟨#[]⟩ : ByteArray)] ↔ _
    rw [List.mem_singleton]
    constructor
    · exact .inl
    · rintro (h | ⟨j, n, h, _⟩)
      · exact h
      · omega
  | i + 1, hi => by
    show x ∈ ppRow _ _ _ _ ↔ _
    rw [ppRow_mem, ppTo_mem s x i (by omega)]
    constructor
    · rintro ((h | ⟨j, n, h1, h2⟩) | ⟨n, h1, h2, h3⟩)
      · exact .inl h
      · exact .inr ⟨j, n, by omega, h2⟩
      · exact .inr ⟨i, n, by omega, h1, by omega, h3⟩
    · rintro (h | ⟨j, n, h1, h2, h3, h4⟩)
      · exact .inl (.inl h)
      · by_cases hj : j = i
        · subst hj; exact .inr ⟨n, h2, by omega, h4⟩
        · exact .inl (.inr ⟨j, n, by omega, h2, h3, h4⟩)
theorem ppL_mem (s x : ByteArray) : x ∈ ppL s ↔ x = ⟨#[]⟩ ∨ ∃ j n, 1 ≤ n ∧ j + n ≤ s.size ∧ PalS (s.extract j (j + n)) ∧ x = s.extract j (j + n) := by
  unfold ppL
  rw [ppTo_mem s x s.size (Nat.le_refl _)]
  constructor
  · rintro (h | ⟨j, n, _, h⟩)
    · exact .inl h
    · exact .inr ⟨j, n, h⟩
  · rintro (h | ⟨j, n, h1, h2, h3⟩)
    · exact .inl h
    · exact .inr ⟨j, n, by omega, h1, h2, h3⟩
theorem insL_most : ∀ (l : List ByteArray) (x : ByteArray), (insL l x).length ≤ l.length + 1
  | [], x => by simp [insL]
  | a :: l, x => by
    have := insL_most l x
    unfold insL
    split
    · simp
    · split
      · simp only [List.length_cons]; omega
      · simp
theorem ppRow_len (s : ByteArray) (i : Nat) (l : List ByteArray) : ∀ k, (ppRow s i l k).length ≤ l.length + k
  | 0 => Nat.le_refl _
  | k + 1 => by
    have ih := ppRow_len s i l k
    unfold ppRow
    split
    · have := insL_most (ppRow s i l k) (s.extract i (i + (k + 1))); omega
    · omega
theorem ppTo_len (s : ByteArray) (hs : s.size ≤ 60) : ∀ i, (ppTo s i).length ≤ 1 + 60 * i
  | 0 => Nat.le_refl _
  | i + 1 => by
    have ih := ppTo_len s hs i
    have := ppRow_len s i (ppTo s i) (s.size - i)
    show (ppRow s i (ppTo s i) (s.size - i)).length ≤ _
    omega
theorem ppR_le (s : ByteArray) : (ppR s).length ≤ 3601 := by
  unfold ppR
  split
  · rename_i h
    unfold ppOk at h
    simp only [Bool.and_eq_true, decide_eq_true_eq] at h
    have := ppTo_len s h.2 s.size
    show (ppTo s s.size).length ≤ _
    omega
  · simp
/-- what DefectOf is to return -/
noncomputable def dfR (s : ByteArray) : Int := if ppOk s = true then (s.size : Int) + 1 - ((ppL s).length : Int) else -1
noncomputable def richR (s : ByteArray) : Bool := dfR s == 0

/-! ### the longest one -/
/-- a palindrome of size - d letters begins at i -/
def LpAt (s : ByteArray) (d i : Nat) : Prop := i ≤ d ∧ d ≤ s.size ∧ PalS (s.extract i (i + (s.size - d)))
noncomputable def lpD (s : ByteArray) : Nat := firstP (fun d => ∃ i, LpAt s d i) 0 s.size
noncomputable def lpI (s : ByteArray) : Nat := firstP (LpAt s (lpD s)) 0 s.size
/-- what LongestPalindrome is to return -/
noncomputable def lpR1 (s : ByteArray) : Int := if wordB s = true then (if s.size = 0 then 0 else (lpI s : Int)) else -1
noncomputable def lpR2 (s : ByteArray) : Int := if wordB s = true then ((s.size - lpD s : Nat) : Int) else -1
theorem lp_found {s : ByteArray} {d i : Nat} (h1 : LpAt s d i) (h2 : ∀ d', d' < d → ∀ i', ¬ LpAt s d' i') (h3 : ∀ i', i' < i → ¬ LpAt s d i') : lpD s = d ∧ lpI s = i := by
  have e1 : lpD s = d := firstP_eq _ _ _ (Nat.zero_le _) (by have := h1.2.1; omega) (fun r _ hr => fun ⟨i', hh⟩ => h2 r hr i' hh) ⟨i, h1⟩
  refine ⟨e1, ?_⟩
  unfold lpI
  rw [e1]
  exact firstP_eq _ _ _ (Nat.zero_le _) (by have := h1.1; have := h1.2.1; omega) (fun r _ hr => h3 r hr) h1

/-! ### closing -/
noncomputable def clK (s : ByteArray) : Nat := firstP (fun k => PalS (s.extract k s.size)) 0 s.size
noncomputable def clS (s : ByteArray) : ByteArray := s ++ turnS (s.extract 0 (clK s))
/-- what CloseWord is to return -/
noncomputable def clR (s : ByteArray) : ByteArray := if (wordB s && wordB (clS s)) = true then clS s else ⟨#[]⟩
theorem cl_end (s : ByteArray) : PalS (s.extract s.size s.size) := pal_small (by rw [ByteArray.size_extract]; omega)
theorem clK_eq {s : ByteArray} {k : Nat} (hk : k ≤ s.size) (h1 : PalS (s.extract k s.size)) (h2 : ∀ j, j < k → ¬ PalS (s.extract j s.size)) : clK s = k :=
  firstP_eq _ _ _ (Nat.zero_le _) (by omega) (fun r _ hr => h2 r hr) h1
theorem clK_le (s : ByteArray) : clK s ≤ s.size := by
  by_cases h : ∃ k, k ≤ s.size ∧ PalS (s.extract k s.size) ∧ ∀ j, j < k → ¬ PalS (s.extract j s.size)
  · obtain ⟨k, h1, h2, h3⟩ := h
    rw [clK_eq h1 h2 h3]
    exact h1
  · exfalso
    have : ∀ k, k ≤ s.size → ¬ PalS (s.extract k s.size) := by
      intro k
      induction k using Nat.strongRecOn with
      | ind k ih =>
        intro hk hp
        exact h ⟨k, hk, hp, fun j hj => ih j hj (by omega)⟩
    exact this s.size (Nat.le_refl _) (cl_end s)
theorem clS_size (s : ByteArray) : (clS s).size = s.size + clK s := by
  have h1 := clK_le s
  unfold clS
  rw [ByteArray.size_append, turn_size, ByteArray.size_extract]
  omega

/-! ### directed words -/
noncomputable def dwS (d : ByteArray) : Nat → ByteArray
  | 0 => ⟨#[]⟩
  | i + 1 => clS (dwS d i ++ d.extract i (i + 1))
noncomputable def dwB (d : ByteArray) : Nat → Bool
  | 0 => true
  | i + 1 => dwB d i && wordB (dwS d (i + 1))
noncomputable def dwOk (d : ByteArray) : Bool := wordB d && (decide (d.size ≤ 12) && dwB d d.size)
/-- what DirectedWord is to return -/
noncomputable def dwR (d : ByteArray) : ByteArray := if dwOk d = true then dwS d d.size else ⟨#[]⟩
theorem dwB_no {d : ByteArray} {i : Nat} (h : dwB d i = false) : ∀ k, i ≤ k → dwB d k = false
  | 0, hk => by
    have : i = 0 := by omega
    subst this
    exact h
  | k + 1, hk => by
    by_cases e : i = k + 1
    · subst e; exact h
    · show (dwB d k && _) = false
      rw [dwB_no h k (by omega), Bool.false_and]
/-- the direction and the word that are reached, behind at most n letters -/
noncomputable def drS (s : ByteArray) : Nat → ByteArray × ByteArray
  | 0 => (⟨#[]⟩, ⟨#[]⟩)
  | n + 1 =>
    let y := drS s n
    if y.2.size < s.size then (y.1 ++ s.extract y.2.size (y.2.size + 1), clS (y.2 ++ s.extract y.2.size (y.2.size + 1))) else y
noncomputable def drB (s : ByteArray) : Bool := @decide ((drS s 12).2 = s) (Classical.propDecidable _)
noncomputable def drOk (s : ByteArray) : Bool := wordB s && drB s
/-- what DirectionOf is to return -/
noncomputable def drR (s : ByteArray) : ByteArray := if drOk s = true then (drS s 12).1 else ⟨#[]⟩

/-! ### closed under turning -/
noncomputable def cuB (s : ByteArray) (n : Nat) : Bool := @decide (∀ f ∈ facTo s n (s.size + 1 - n), turnS f ∈ facTo s n (s.size + 1 - n)) (Classical.propDecidable _)
/-- what IsClosedUnderTurn is to return -/
noncomputable def cuR (s : ByteArray) (n : Int) : Bool := wordB s && ((decide (1 ≤ n) && decide (n ≤ 60)) && cuB s n.toNat)
end Go.Proofs.Ytjmijedfmiplfaa

/- The mathematics of balance: a word that is not balanced has a palindrome that parts it; slopes; mechanical words. No program in it. -/
namespace Go.Proofs.Ytjmijedfmiplfaa

/-- how many of the n letters from i on are b -/
def cbN (x : Nat → Bool) (i : Nat) : Nat → Nat
  | 0 => 0
  | n + 1 => cbN x i n + (x (i + n)).toNat
theorem cb_split (x : Nat → Bool) (i m : Nat) : ∀ n, cbN x i (m + n) = cbN x i m + cbN x (i + m) n
  | 0 => rfl
  | n + 1 => by
    show cbN x i (m + n) + (x (i + (m + n))).toNat = cbN x i m + (cbN x (i + m) n + (x (i + m + n)).toNat)
    rw [cb_split x i m n, Nat.add_assoc, Nat.add_assoc]
theorem cb_cons (x : Nat → Bool) (i n : Nat) : cbN x i (n + 1) = (x i).toNat + cbN x (i + 1) n := by
  rw [Nat.add_comm n 1, cb_split]
  show 0 + (x (i + 0)).toNat + _ = _
  rw [Nat.zero_add, Nat.add_zero]
theorem cb_le (x : Nat → Bool) (i : Nat) : ∀ n, cbN x i n ≤ n
  | 0 => Nat.le_refl _
  | n + 1 => by
    have := cb_le x i n
    have : (x (i + n)).toNat ≤ 1 := Bool.toNat_le _
    show cbN x i n + _ ≤ _
    omega
theorem cb_same {x : Nat → Bool} {i j : Nat} : ∀ n, (∀ r, r < n → x (i + r) = x (j + r)) → cbN x i n = cbN x j n
  | 0, _ => rfl
  | n + 1, h => by
    show cbN x i n + _ = cbN x j n + _
    rw [cb_same n (fun r hr => h r (by omega)), h n (by omega)]
theorem cb_turn {x : Nat → Bool} : ∀ (k p q : Nat), (∀ r, r < k → x (p + r) = x (q + (k - 1 - r))) → cbN x p k = cbN x q k
  | 0, _, _, _ => rfl
  | k + 1, p, q, h => by
    rw [cb_cons x q k]
    show cbN x p k + (x (p + k)).toNat = _
    have h0 := h k (by omega)
    rw [show q + (k + 1 - 1 - k) = q by omega] at h0
    rw [h0, cb_turn k p (q + 1) (fun r hr => by
      have := h r (by omega)
      rwa [show q + (k + 1 - 1 - r) = q + 1 + (k - 1 - r) by omega] at this)]
    omega
/-- the least one -/
theorem least_one {P : Nat → Prop} (h : ∃ n, P n) : ∃ n, P n ∧ ∀ m, m < n → ¬ P m := by
  obtain ⟨n, hn⟩ := h
  induction n using Nat.strongRecOn with
  | ind n ih =>
    by_cases hm : ∃ m, m < n ∧ P m
    · obtain ⟨m, h1, h2⟩ := hm
      exact ih m h1 h2
    · exact ⟨n, hn, fun m h1 h2 => hm ⟨m, h1, h2⟩⟩

/-- two factors of n letters whose numbers of letters b differ by 2 and more -/
def UnbAt (x : Nat → Bool) (N n : Nat) : Prop := ∃ i j, i + n ≤ N ∧ j + n ≤ N ∧ cbN x j n + 2 ≤ cbN x i n
def BalAt (x : Nat → Bool) (N : Nat) : Prop := ∀ n i j, i + n ≤ N → j + n ≤ N → cbN x i n ≤ cbN x j n + 1
theorem bal_unb {x : Nat → Bool} {N : Nat} : BalAt x N ↔ ∀ n, ¬ UnbAt x N n := by
  constructor
  · rintro h n ⟨i, j, a, b, c⟩
    have := h n i j a b
    omega
  · intro h n i j a b
    have : ¬ cbN x j n + 2 ≤ cbN x i n := fun e => h n ⟨i, j, a, b, e⟩
    omega
/-- a palindrome of m letters, at i + 1 between two letters b and at j + 1 between two letters a -/
def PartAt (x : Nat → Bool) (N m : Nat) : Prop := ∃ i j, i + m + 2 ≤ N ∧ j + m + 2 ≤ N ∧ x i = true ∧ x (i + m + 1) = true ∧ x j = false ∧ x (j + m + 1) = false ∧ (∀ k, k < m → x (i + 1 + k) = x (j + 1 + k)) ∧ ∀ k, k < m → x (i + 1 + k) = x (i + 1 + (m - 1 - k))
theorem part_unb {x : Nat → Bool} {N m : Nat} (h : PartAt x N m) : UnbAt x N (m + 2) := by
  obtain ⟨i, j, h1, h2, a1, a2, b1, b2, hs, _⟩ := h
  refine ⟨i, j, by omega, by omega, ?_⟩
  have e1 : cbN x i (m + 2) = (x i).toNat + cbN x (i + 1) m + (x (i + m + 1)).toNat := by
    show cbN x i (m + 1) + (x (i + (m + 1))).toNat = _
    rw [cb_cons, Nat.add_assoc i m 1]
  have e2 : cbN x j (m + 2) = (x j).toNat + cbN x (j + 1) m + (x (j + m + 1)).toNat := by
    show cbN x j (m + 1) + (x (j + (m + 1))).toNat = _
    rw [cb_cons, Nat.add_assoc j m 1]
  rw [e1, e2, a1, a2, b1, b2, cb_same (i := i + 1) (j := j + 1) m hs]
  show (0 : Nat) + _ + 0 + 2 ≤ 1 + _ + 1
  omega
/-- the shortest unbalance -/
theorem unb_part {x : Nat → Bool} {N n : Nat} (h : UnbAt x N n) (hmin : ∀ m, m < n → ¬ UnbAt x N m) : ∃ m, n = m + 2 ∧ PartAt x N m := by
  obtain ⟨i, j, h1, h2, hd⟩ := h
  have hn := cb_le x i n
  obtain ⟨m, rfl⟩ : ∃ m, n = m + 2 := ⟨n - 2, by omega⟩
  refine ⟨m, rfl, ?_⟩
  -- the first letters
  have hi : cbN x i (m + 2) = (x i).toNat + cbN x (i + 1) (m + 1) := cb_cons x i (m + 1)
  have hj : cbN x j (m + 2) = (x j).toNat + cbN x (j + 1) (m + 1) := cb_cons x j (m + 1)
  have hshort := hmin (m + 1) (by omega)
  have hfst : x i = true ∧ x j = false := by
    cases a : x i <;> cases b : x j
    · rw [a] at hi; rw [b] at hj
      exact absurd ⟨i + 1, j + 1, by omega, by omega, by simp only [Bool.toNat_false] at hi hj; omega⟩ hshort
    · rw [a] at hi; rw [b] at hj
      exact absurd ⟨i + 1, j + 1, by omega, by omega, by simp only [Bool.toNat_false, Bool.toNat_true] at hi hj; omega⟩ hshort
    · exact ⟨rfl, rfl⟩
    · rw [a] at hi; rw [b] at hj
      exact absurd ⟨i + 1, j + 1, by omega, by omega, by simp only [Bool.toNat_true] at hi hj; omega⟩ hshort
  obtain ⟨xi, xj⟩ := hfst
  rw [xi] at hi; rw [xj] at hj
  simp only [Bool.toNat_true, Bool.toNat_false] at hi hj
  -- the first place where they part
  have hex : ∃ t, t < m + 1 ∧ x (i + 1 + t) ≠ x (j + 1 + t) := by
    refine Classical.byContradiction fun hno => ?_
    have : cbN x (i + 1) (m + 1) = cbN x (j + 1) (m + 1) := cb_same (m + 1) (fun r hr => Classical.byContradiction fun hne => hno ⟨r, hr, hne⟩)
    omega
  obtain ⟨t, ⟨ht, hne⟩, htmin⟩ := least_one hex
  have hpre : ∀ r, r < t → x (i + 1 + r) = x (j + 1 + r) := fun r hr => Classical.byContradiction fun hne => htmin r hr ⟨by omega, hne⟩
  have hct : cbN x (i + 1) t = cbN x (j + 1) t := cb_same t hpre
  have si : cbN x (i + 1) (m + 1) = cbN x (i + 1) t + ((x (i + 1 + t)).toNat + cbN x (i + 1 + t + 1) (m - t)) := by
    rw [← cb_cons, ← cb_split]
    congr 1
    omega
  have sj : cbN x (j + 1) (m + 1) = cbN x (j + 1) t + ((x (j + 1 + t)).toNat + cbN x (j + 1 + t + 1) (m - t)) := by
    rw [← cb_cons, ← cb_split]
    congr 1
    omega
  have hlast : x (i + 1 + t) = true ∧ x (j + 1 + t) = false := by
    cases a : x (i + 1 + t) <;> cases b : x (j + 1 + t)
    · rw [a, b] at hne; exact absurd rfl hne
    · rw [a] at si; rw [b] at sj
      simp only [Bool.toNat_true, Bool.toNat_false] at si sj
      exact absurd ⟨i + 1 + t + 1, j + 1 + t + 1, by omega, by omega, by omega⟩ (hmin (m - t) (by omega))
    · exact ⟨rfl, rfl⟩
    · rw [a, b] at hne; exact absurd rfl hne
  obtain ⟨yi, yj⟩ := hlast
  have htm : t = m := by
    refine Classical.byContradiction fun hne2 => ?_
    refine hmin (t + 2) (by omega) ⟨i, j, by omega, by omega, ?_⟩
    have e1 : cbN x i (t + 2) = 1 + cbN x (i + 1) t + 1 := by
      show cbN x i (t + 1) + (x (i + (t + 1))).toNat = _
      rw [cb_cons, xi, show i + (t + 1) = i + 1 + t by omega, yi]
      rfl
    have e2 : cbN x j (t + 2) = 0 + cbN x (j + 1) t + 0 := by
      show cbN x j (t + 1) + (x (j + (t + 1))).toNat = _
      rw [cb_cons, xj, show j + (t + 1) = j + 1 + t by omega, yj]
      rfl
    omega
  subst htm
  refine ⟨i, j, by omega, by omega, xi, by rw [show i + t + 1 = i + 1 + t by omega]; exact yi, xj, by rw [show j + t + 1 = j + 1 + t by omega]; exact yj, hpre, ?_⟩
  -- the palindrome
  refine Classical.byContradiction fun hnp => ?_
  have hex2 : ∃ k, k < t ∧ x (i + 1 + k) ≠ x (i + 1 + (t - 1 - k)) := Classical.byContradiction fun hno => hnp (fun k hk => Classical.byContradiction fun hne => hno ⟨k, hk, hne⟩)
  obtain ⟨k, ⟨hk, hkne⟩, hkmin⟩ := least_one hex2
  have hpal : ∀ r, r < k → x (i + 1 + r) = x (i + 1 + (t - 1 - r)) := fun r hr => Classical.byContradiction fun hne => hkmin r hr ⟨by omega, hne⟩
  have hk2 : k < t - 1 - k := by
    refine Classical.byContradiction fun hge => ?_
    by_cases e : k = t - 1 - k
    · exact hkne (by rw [← e])
    · have := hpal (t - 1 - k) (by omega)
      rw [show t - 1 - (t - 1 - k) = k by omega] at this
      exact hkne this.symm
  have hz : cbN x (i + 1 + (t - k)) k = cbN x (i + 1) k := by
    refine cb_turn k _ _ (fun r hr => ?_)
    have := hpal (k - 1 - r) (by omega)
    rw [this]
    congr 1
    omega
  cases hc : x (i + 1 + k)
  · have hd : x (i + 1 + (t - 1 - k)) = true := by
      cases hx : x (i + 1 + (t - 1 - k))
      · rw [hc, hx] at hkne; exact absurd rfl hkne
      · rfl
    refine hmin (k + 2) (by omega) ⟨i + 1 + (t - 1 - k), j, by omega, by omega, ?_⟩
    have e1 : cbN x (i + 1 + (t - 1 - k)) (k + 2) = 1 + cbN x (i + 1 + (t - k)) k + 1 := by
      show cbN x _ (k + 1) + (x (i + 1 + (t - 1 - k) + (k + 1))).toNat = _
      rw [cb_cons, hd, show i + 1 + (t - 1 - k) + (k + 1) = i + 1 + t by omega, yi, show i + 1 + (t - 1 - k) + 1 = i + 1 + (t - k) by omega]
      rfl
    have e2 : cbN x j (k + 2) = 0 + cbN x (j + 1) k + 0 := by
      show cbN x j (k + 1) + (x (j + (k + 1))).toNat = _
      rw [cb_cons, xj, show j + (k + 1) = j + 1 + k by omega, ← hpre k hk, hc]
      rfl
    have e3 : cbN x (i + 1) k = cbN x (j + 1) k := cb_same k (fun r hr => hpre r (by omega))
    omega
  · have hd : x (i + 1 + (t - 1 - k)) = false := by
      cases hx : x (i + 1 + (t - 1 - k))
      · rfl
      · rw [hc, hx] at hkne; exact absurd rfl hkne
    refine hmin (k + 2) (by omega) ⟨i, j + 1 + (t - 1 - k), by omega, by omega, ?_⟩
    have e1 : cbN x i (k + 2) = 1 + cbN x (i + 1) k + 1 := by
      show cbN x i (k + 1) + (x (i + (k + 1))).toNat = _
      rw [cb_cons, xi, show i + (k + 1) = i + 1 + k by omega, hc]
      rfl
    have e2 : cbN x (j + 1 + (t - 1 - k)) (k + 2) = 0 + cbN x (j + 1 + (t - k)) k + 0 := by
      show cbN x _ (k + 1) + (x (j + 1 + (t - 1 - k) + (k + 1))).toNat = _
      rw [cb_cons, ← hpre (t - 1 - k) (by omega), hd, show j + 1 + (t - 1 - k) + (k + 1) = j + 1 + t by omega, yj, show j + 1 + (t - 1 - k) + 1 = j + 1 + (t - k) by omega]
      rfl
    have e3 : cbN x (i + 1 + (t - k)) k = cbN x (j + 1 + (t - k)) k := cb_same k (fun r hr => by
      have := hpre (t - k + r) (by omega)
      rwa [← Nat.add_assoc, ← Nat.add_assoc] at this)
    omega
/-- a word is balanced exactly if no palindrome parts it -/
theorem bal_part {x : Nat → Bool} {N : Nat} : BalAt x N ↔ ∀ m, ¬ PartAt x N m := by
  rw [bal_unb]
  constructor
  · exact fun h m hp => h _ (part_unb hp)
  · intro h n hn
    obtain ⟨k, hk, hmin⟩ := least_one ⟨n, hn⟩
    obtain ⟨m, _, hp⟩ := unb_part hk hmin
    exact h m hp

/-! ### slopes -/
theorem bal_slope {x : Nat → Bool} {N : Nat} (h : BalAt x N) : ∀ (s n m i j : Nat), n + m = s → 1 ≤ n → 1 ≤ m → i + n ≤ N → j + m ≤ N → ((cbN x i n : Int) - 1) * m < ((cbN x j m : Int) + 1) * n := by
  intro s
  induction s using Nat.strongRecOn with
  | ind s ih =>
    intro n m i j hs hn hm hi hj
    by_cases e : n = m
    · subst e
      have := h n i j hi hj
      exact Int.mul_lt_mul_of_pos_right (by omega) (by omega)
    · by_cases hlt : m < n
      · obtain ⟨d, rfl⟩ : ∃ d, n = m + d := ⟨n - m, by omega⟩
        have h1 := ih (d + m) (by omega) d m (i + m) j rfl (by omega) hm (by omega) hj
        have h2 := h m i j (by omega) hj
        have h3 : ((cbN x i m : Int)) * m ≤ ((cbN x j m : Int) + 1) * m := Int.mul_le_mul_of_nonneg_right (by omega) (by omega)
        rw [cb_split]
        generalize cbN x i m = a at *
        generalize cbN x (i + m) d = b at *
        generalize cbN x j m = c at *
        have e1 : ((a + b : Nat) : Int) - 1 = (a : Int) + ((b : Int) - 1) := by omega
        have e2 : ((m + d : Nat) : Int) = (m : Int) + (d : Int) := by omega
        rw [e1, e2, Int.add_mul, Int.mul_add]
        omega
      · obtain ⟨d, rfl⟩ : ∃ d, m = n + d := ⟨m - n, by omega⟩
        have h1 := ih (n + d) (by omega) n d i (j + n) rfl hn (by omega) hi (by omega)
        have h2 := h n i j hi (by omega)
        have h3 : ((cbN x i n : Int) - 1) * n ≤ (cbN x j n : Int) * n := Int.mul_le_mul_of_nonneg_right (by omega) (by omega)
        rw [cb_split]
        generalize cbN x i n = a at *
        generalize cbN x (j + n) d = b at *
        generalize cbN x j n = c at *
        have e1 : ((c + b : Nat) : Int) + 1 = (c : Int) + ((b : Int) + 1) := by omega
        have e2 : ((n + d : Nat) : Int) = (n : Int) + (d : Int) := by omega
        rw [e1, e2, Int.add_mul, Int.mul_add]
        omega
/-- a word is balanced exactly if some slope fits -/
theorem slope_bal {x : Nat → Bool} {N : Nat} (h : ∀ n i j, 1 ≤ n → i + n ≤ N → j + n ≤ N → ((cbN x i n : Int) - 1) * n < ((cbN x j n : Int) + 1) * n) : BalAt x N := fun n i j hi hj => by
  by_cases hn : n = 0
  · subst hn; exact Nat.zero_le _
  · have := h n i j (by omega) hi hj
    have := Int.lt_of_mul_lt_mul_right this (by omega)
    omega

/-! ### mechanical words -/
/-- the letter with the index i -/
def mcX (p q s : Nat) (i : Nat) : Bool := decide ((s + i * p) / q < (s + (i + 1) * p) / q)
theorem mc_step {p q s : Nat} (hq : 1 ≤ q) (hp : p ≤ q) (i : Nat) : (s + (i + 1) * p) / q = (s + i * p) / q + (mcX p q s i).toNat := by
  have h1 : (s + i * p) / q ≤ (s + (i + 1) * p) / q := Nat.div_le_div_right (by rw [Nat.succ_mul]; omega)
  have h2 : (s + (i + 1) * p) / q ≤ (s + i * p) / q + 1 := by
    have : (s + (i + 1) * p) / q ≤ (s + i * p + q) / q := Nat.div_le_div_right (by rw [Nat.succ_mul]; omega)
    rwa [Nat.add_div_right _ (by omega)] at this
  unfold mcX
  by_cases h : (s + i * p) / q < (s + (i + 1) * p) / q
  · rw [decide_eq_true h, Bool.toNat_true]; omega
  · rw [decide_eq_false h, Bool.toNat_false]; omega
theorem mc_count {p q s : Nat} (hq : 1 ≤ q) (hp : p ≤ q) (i : Nat) : ∀ n, (s + (i + n) * p) / q = (s + i * p) / q + cbN (mcX p q s) i n
  | 0 => rfl
  | n + 1 => by
    rw [← Nat.add_assoc, mc_step hq hp, mc_count hq hp i n]
    show _ = _ + (cbN (mcX p q s) i n + _)
    omega
theorem mc_bal {p q s : Nat} (hq : 1 ≤ q) (hp : p ≤ q) (N : Nat) : BalAt (mcX p q s) N := fun n i j _ _ => by
  have h1 := mc_count (s := s) hq hp i n
  have h2 := mc_count (s := s) hq hp j n
  rw [Nat.add_mul, ← Nat.add_assoc] at h1 h2
  have a1 : (s + i * p + n * p) / q ≤ (s + i * p) / q + n * p / q + 1 := by
    have := Nat.div_add_mod (s + i * p) q
    have := Nat.div_add_mod (n * p) q
    have m1 := Nat.mod_lt (s + i * p) (show q > 0 by omega)
    have m2 := Nat.mod_lt (n * p) (show q > 0 by omega)
    have : s + i * p + n * p < q * ((s + i * p) / q + n * p / q + 2) := by rw [Nat.mul_add, Nat.mul_add]; omega
    have := Nat.div_lt_of_lt_mul this
    omega
  have a2 : (s + j * p) / q + n * p / q ≤ (s + j * p + n * p) / q := by
    rw [Nat.le_div_iff_mul_le (by omega), Nat.add_mul]
    have := Nat.div_mul_le_self (s + j * p) q
    have := Nat.div_mul_le_self (n * p) q
    omega
  omega
end Go.Proofs.Ytjmijedfmiplfaa

/- Balance: what chapter 11 is to return. No program in it. -/
namespace Go.Proofs.Ytjmijedfmiplfaa
open Go.RowKit

/-- what IsBinary is to return -/
def binB (s : ByteArray) : Bool := wordB s && withinB 2 s
theorem bin_word {s : ByteArray} (h : binB s = true) : wordB s = true := by unfold binB at h; rw [Bool.and_eq_true] at h; exact h.1
/-- is the letter with the index i a b -/
def bX (s : ByteArray) (i : Nat) : Bool := s.data.toList[i]? == some 98
/-- the least and the greatest number of letters b in the first k factors of n letters -/
def spLo (s : ByteArray) (n : Nat) : Nat → Nat
  | 0 => n
  | k + 1 => min (spLo s n k) (cbN (bX s) k n)
def spHi (s : ByteArray) (n : Nat) : Nat → Nat
  | 0 => 0
  | k + 1 => max (spHi s n k) (cbN (bX s) k n)
def lwN (s : ByteArray) (n : Nat) : Nat := spLo s n (s.size + 1 - n)
def hgN (s : ByteArray) (n : Nat) : Nat := spHi s n (s.size + 1 - n)
theorem sp_le (s : ByteArray) (n : Nat) : ∀ k, spLo s n k ≤ n ∧ spHi s n k ≤ n
  | 0 => ⟨Nat.le_refl _, Nat.zero_le _⟩
  | k + 1 => by
    obtain ⟨a, b⟩ := sp_le s n k
    have := cb_le (bX s) k n
    show min _ _ ≤ _ ∧ max _ _ ≤ _
    omega
theorem sp_all (s : ByteArray) (n : Nat) : ∀ k, ∀ i, i < k → spLo s n k ≤ cbN (bX s) i n ∧ cbN (bX s) i n ≤ spHi s n k
  | 0, i, h => absurd h (by omega)
  | k + 1, i, h => by
    show min _ _ ≤ _ ∧ _ ≤ max _ _
    by_cases e : i = k
    · subst e; omega
    · have := sp_all s n k i (by omega)
      omega
theorem sp_some (s : ByteArray) (n : Nat) : ∀ k, 1 ≤ k → (∃ i, i < k ∧ spLo s n k = cbN (bX s) i n) ∧ ∃ i, i < k ∧ spHi s n k = cbN (bX s) i n
  | 0, h => absurd h (by omega)
  | k + 1, _ => by
    have hn := cb_le (bX s) k n
    show (∃ i, i < k + 1 ∧ min _ _ = _) ∧ ∃ i, i < k + 1 ∧ max _ _ = _
    by_cases hk : k = 0
    · subst hk
      refine ⟨⟨0, by omega, ?_⟩, ⟨0, by omega, ?_⟩⟩
      · show min n _ = _; omega
      · show max 0 _ = _; omega
    · obtain ⟨⟨i, hi, ei⟩, ⟨j, hj, ej⟩⟩ := sp_some s n k (by omega)
      constructor
      · by_cases hc : spLo s n k ≤ cbN (bX s) k n
        · exact ⟨i, by omega, by omega⟩
        · exact ⟨k, by omega, by omega⟩
      · by_cases hc : cbN (bX s) k n ≤ spHi s n k
        · exact ⟨j, by omega, by omega⟩
        · exact ⟨k, by omega, by omega⟩
def spOk (s : ByteArray) (n : Int) : Bool := binB s && (decide (1 ≤ n) && decide (n ≤ s.size))
/-- what SpreadOf is to return -/
def spA (s : ByteArray) (n : Int) : Int := if spOk s n = true then (lwN s n.toNat : Int) else -1
def spB (s : ByteArray) (n : Int) : Int := if spOk s n = true then (hgN s n.toNat : Int) else -1
/-- the lengths 1 to k part by one letter b at most -/
def blTo (s : ByteArray) : Nat → Bool
  | 0 => true
  | k + 1 => blTo s k && decide (hgN s (k + 1) ≤ lwN s (k + 1) + 1)
theorem blTo_all (s : ByteArray) : ∀ k, blTo s k = true ↔ ∀ n, 1 ≤ n → n ≤ k → hgN s n ≤ lwN s n + 1
  | 0 => ⟨fun _ n a b => by omega, fun _ => rfl⟩
  | k + 1 => by
    show (_ && _) = true ↔ _
    rw [Bool.and_eq_true, blTo_all s k, decide_eq_true_eq]
    constructor
    · rintro ⟨a, b⟩ n h1 h2
      by_cases e : n = k + 1
      · subst e; exact b
      · exact a n h1 (by omega)
    · exact fun h => ⟨fun n a b => h n a (by omega), h (k + 1) (by omega) (Nat.le_refl _)⟩
/-- what IsBalanced is to return -/
def balR (s : ByteArray) : Bool := binB s && blTo s s.size
theorem bal_iff (s : ByteArray) : blTo s s.size = true ↔ BalAt (bX s) s.size := by
  rw [blTo_all]
  constructor
  · intro h n i j hi hj
    by_cases hn : n = 0
    · subst hn; exact Nat.zero_le _
    · have h1 := h n (by omega) (by omega)
      have h2 := (sp_all s n (s.size + 1 - n) i (by omega)).2
      have h3 := (sp_all s n (s.size + 1 - n) j (by omega)).1
      unfold hgN lwN at h1
      omega
  · intro h n h1 h2
    obtain ⟨⟨j, hj, ej⟩, ⟨i, hi, ei⟩⟩ := sp_some s n (s.size + 1 - n) (by omega)
    have := h n i j (by omega) (by omega)
    unfold hgN lwN
    omega

/-! ### mechanical words -/
def mcL (p q s n : Nat) : List UInt8 := (List.range n).map fun i => if mcX p q s i = true then 98 else 97
theorem mcL_len (p q s n : Nat) : (mcL p q s n).length = n := by simp [mcL]
theorem mcL_next (p q s n : Nat) : mcL p q s (n + 1) = mcL p q s n ++ [if mcX p q s n = true then 98 else 97] := by
  unfold mcL
  rw [List.range_succ, List.map_append]
  rfl
def mcOk (p q s n : Int) : Bool := (decide (1 ≤ q) && decide (q ≤ 100)) && ((decide (0 ≤ p) && decide (p ≤ q)) && ((decide (0 ≤ s) && decide (s ≤ q - 1)) && (decide (0 ≤ n) && decide (n ≤ 400))))
/-- what MechanicalWord is to return -/
def mcR (p q s n : Int) : ByteArray := if mcOk p q s n = true then ⟨(mcL p.toNat q.toNat s.toNat n.toNat).toArray⟩ else ⟨#[]⟩
def chOk (p q : Int) : Bool := (decide (1 ≤ q) && decide (q ≤ 100)) && ((decide (0 ≤ p) && decide (p ≤ q - 1)) && decide (Nat.gcd p.toNat q.toNat = 1))
/-- what ChristoffelWord is to return -/
def chR (p q : Int) : ByteArray := if chOk p q = true then ⟨(mcL p.toNat q.toNat 0 q.toNat).toArray⟩ else ⟨#[]⟩

/-! ### slopes -/
/-- the greatest of the ratios (k - 1) / n and the least of the ratios (k + 1) / n, of the lengths 1 to k -/
def slTo (s : ByteArray) : Nat → (Int × Int) × (Int × Int)
  | 0 => ((-1, 1), (2, 1))
  | k + 1 =>
    let y := slTo s k
    (if y.1.1 * ((k + 1 : Nat) : Int) < ((hgN s (k + 1) : Int) - 1) * y.1.2 then ((hgN s (k + 1) : Int) - 1, ((k + 1 : Nat) : Int)) else y.1,
     if ((lwN s (k + 1) : Int) + 1) * y.2.2 < y.2.1 * ((k + 1 : Nat) : Int) then ((lwN s (k + 1) : Int) + 1, ((k + 1 : Nat) : Int)) else y.2)
def slOk (s : ByteArray) : Bool := binB s && (decide ((1 : Int) ≤ s.size) && decide ((s.size : Int) ≤ 60))
/-- what SlopesOf is to return -/
def slR (s : ByteArray) : Int × Int × Int × Int :=
  if slOk s = true then
    let y := slTo s s.size
    (y.1.1.tdiv (Nat.gcd y.1.1.natAbs y.1.2.natAbs : Nat), y.1.2.tdiv (Nat.gcd y.1.1.natAbs y.1.2.natAbs : Nat), y.2.1.tdiv (Nat.gcd y.2.1.natAbs y.2.2.natAbs : Nat), y.2.2.tdiv (Nat.gcd y.2.1.natAbs y.2.2.natAbs : Nat))
  else (0, 0, 0, 0)
theorem slTo_ok (s : ByteArray) : ∀ k, (-1 ≤ (slTo s k).1.1 ∧ (slTo s k).1.1 ≤ (k : Int)) ∧ (1 ≤ (slTo s k).1.2 ∧ (slTo s k).1.2 ≤ max 1 (k : Int)) ∧ (1 ≤ (slTo s k).2.1 ∧ (slTo s k).2.1 ≤ max 2 ((k : Int) + 1)) ∧ (1 ≤ (slTo s k).2.2 ∧ (slTo s k).2.2 ≤ max 1 (k : Int))
  | 0 => by
    show ((-1 : Int) ≤ -1 ∧ (-1 : Int) ≤ 0) ∧ ((1 : Int) ≤ 1 ∧ (1 : Int) ≤ max 1 0) ∧ ((1 : Int) ≤ 2 ∧ (2 : Int) ≤ max 2 (0 + 1)) ∧ ((1 : Int) ≤ 1 ∧ (1 : Int) ≤ max 1 0)
    omega
  | k + 1 => by
    obtain ⟨a, b, c, d⟩ := slTo_ok s k
    have h1 := (sp_le s (k + 1) (s.size + 1 - (k + 1))).1
    have h2 := (sp_le s (k + 1) (s.size + 1 - (k + 1))).2
    have e1 : lwN s (k + 1) ≤ k + 1 := h1
    have e2 : hgN s (k + 1) ≤ k + 1 := h2
    unfold slTo
    dsimp only
    split <;> split <;> omega

/-! ### how many are balanced -/
/-- the numbers up to j that are coprime to i -/
def phTo (i : Nat) : Nat → Nat
  | 0 => 0
  | j + 1 => phTo i j + if Nat.gcd i (j + 1) = 1 then 1 else 0
theorem phTo_le (i : Nat) : ∀ j, phTo i j ≤ j
  | 0 => Nat.le_refl _
  | j + 1 => by
    have := phTo_le i j
    unfold phTo
    split <;> omega
def phN (i : Nat) : Nat := phTo i i
def bcTo (n : Nat) : Nat → Nat
  | 0 => 1
  | i + 1 => bcTo n i + (n - (i + 1) + 1) * phN (i + 1)
theorem bcTo_le {n : Nat} (hn : n ≤ 12) : ∀ k, k ≤ n → bcTo n k ≤ 1 + k * 144
  | 0, _ => Nat.le_refl _
  | k + 1, h => by
    have h1 := bcTo_le hn k (by omega)
    have h2 : (n - (k + 1) + 1) * phN (k + 1) ≤ 12 * 12 := Nat.mul_le_mul (by omega) (Nat.le_trans (phTo_le _ _) (by omega))
    show bcTo n k + _ ≤ _
    omega
def bcOk (n : Int) : Bool := decide (0 ≤ n) && decide (n ≤ 12)
/-- what CountBalanced is to return -/
def bcR (n : Int) : Int := if bcOk n = true then (bcTo n.toNat n.toNat : Int) else -1

/-! ### the palindrome that parts a word -/
/-- at i it is between two letters a, and elsewhere between two letters b -/
noncomputable def fuC (s : ByteArray) (n i : Nat) : Bool :=
  (s.data.toList[i]? == some 97 && s.data.toList[i + n + 1]? == some 97) && (palB (s.extract (i + 1) (i + 1 + n)) && hasR s (⟨#[98]⟩ ++ s.extract (i + 1) (i + 1 + n) ++ ⟨#[98]⟩))
/-- the first one in the order of the alphabet, of n letters, among the first k places -/
noncomputable def fuB (s : ByteArray) (n : Nat) : Nat → Option ByteArray
  | 0 => none
  | k + 1 =>
    if fuC s n k = true then
      match fuB s n k with
      | none => some (s.extract (k + 1) (k + 1 + n))
      | some v => if lessB (s.extract (k + 1) (k + 1 + n)) v = true then some (s.extract (k + 1) (k + 1 + n)) else some v
    else fuB s n k
/-- from n letters on, f lengths at most -/
noncomputable def fuTo (s : ByteArray) : Nat → Nat → Option ByteArray
  | _, 0 => none
  | n, f + 1 => match fuB s n (s.size - 1 - n) with
    | some v => some v
    | none => fuTo s (n + 1) f
def starB : Option ByteArray → ByteArray
  | none => ⟨#[]⟩
  | some v => ⟨#[42]⟩ ++ v ++ ⟨#[42]⟩
/-- what FirstUnbalance is to return -/
noncomputable def fuR (s : ByteArray) : ByteArray := if binB s = true then starB (fuTo s 0 (s.size - 1)) else ⟨#[]⟩
end Go.Proofs.Ytjmijedfmiplfaa
