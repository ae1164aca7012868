/- Texts put together. -/
import Derived.Test.YtiglikdanhfhfaaMga13
import Derived.Test.YtiglikdanhfhfaaMga6
import Derived.Test.YtiglikdanhfhfaaMga10
/- Palindromes: what chapter 9 is to return. No program in it. -/
namespace Go.Proofs.Ytiglikdanhfhfaa
open Go.RowKit

/-! ### palindromes -/
def PalS (s : ByteArray) : Prop := turnS s = s
noncomputable def palB (s : ByteArray) : Bool := @decide (PalS s) (Classical.propDecidable _)
theorem palB_iff (s : ByteArray) : palB s = true ↔ PalS s := by unfold palB; simp
theorem pal_list (s : ByteArray) : PalS s ↔ s.data.toList.reverse = s.data.toList := by
  unfold PalS turnS
  constructor
  · intro h
    have := congrArg (fun x : ByteArray => x.data.toList) h
    simpa using this
  · intro h
    apply bytes_ext
    rw [ByteArray.toList_eq, ByteArray.toList_eq, h]
theorem pal_empty : PalS ⟨#[]⟩ := (pal_list _).2 rfl
theorem pal_small {s : ByteArray} (h : s.size ≤ 1) : PalS s := by
  rw [pal_list]
  have hl : s.data.toList.length ≤ 1 := by simpa using h
  match e : s.data.toList, hl with
  | [], _ => rfl
  | [a], _ => rfl
theorem turn_size (s : ByteArray) : (turnS s).size = s.size := by
  show (s.data.toList.reverse.toArray).size = _
  simp
/-- what IsPalindrome is to return -/
noncomputable def ipR (s : ByteArray) : Bool := wordB s && palB s

/-! ### all palindromes -/
noncomputable def ppRow (s : ByteArray) (i : Nat) (l : List ByteArray) : Nat → List ByteArray
  | 0 => l
  | k + 1 => if palB (s.extract i (i + (k + 1))) = true then insL (ppRow s i l k) (s.extract i (i + (k + 1))) else ppRow s i l k
noncomputable def ppTo (s : ByteArray) : Nat → List ByteArray
  | 0 => [⟨#[]⟩]
  | i + 1 => ppRow s i (ppTo s i) (s.size - i)
noncomputable def ppL (s : ByteArray) : List ByteArray := ppTo s s.size
def ppOk (s : ByteArray) : Bool := wordB s && decide (s.size ≤ 60)
/-- what PalindromesIn is to return -/
noncomputable def ppR (s : ByteArray) : List ByteArray := if ppOk s = true then ppL s else []
theorem ppRow_yes {s : ByteArray} {i k : Nat} {l : List ByteArray} (h : palB (s.extract i (i + (k + 1))) = true) : ppRow s i l (k + 1) = insL (ppRow s i l k) (s.extract i (i + (k + 1))) := if_pos h
theorem ppRow_no {s : ByteArray} {i k : Nat} {l : List ByteArray} (h : palB (s.extract i (i + (k + 1))) = false) : ppRow s i l (k + 1) = ppRow s i l k := if_neg (by rw [h]; decide)
theorem ppRow_asc (s : ByteArray) (i : Nat) {l : List ByteArray} (h : Asc l) : ∀ k, Asc (ppRow s i l k)
  | 0 => h
  | k + 1 => by
    unfold ppRow
    split
    · exact insL_asc _ (ppRow_asc s i h k)
    · exact ppRow_asc s i h k
theorem ppTo_asc (s : ByteArray) : ∀ i, Asc (ppTo s i)
  | 0 => List.pairwise_singleton _ _
  | i + 1 => ppRow_asc s i (ppTo_asc s i) _
theorem ppRow_mem (s : ByteArray) (i : Nat) (l : List ByteArray) (x : ByteArray) : ∀ k, x ∈ ppRow s i l k ↔ x ∈ l ∨ ∃ n, 1 ≤ n ∧ n ≤ k ∧ PalS (s.extract i (i + n)) ∧ x = s.extract i (i + n)
  | 0 => by
    constructor
    · exact .inl
    · rintro (h | ⟨n, h1, h2, _⟩)
      · exact h
      · omega
  | k + 1 => by
    have ih := ppRow_mem s i l x k
    cases hb : palB (s.extract i (i + (k + 1)))
    · rw [ppRow_no hb, ih]
      constructor
      · rintro (e | ⟨n, h1, h2, h3⟩)
        · exact .inl e
        · exact .inr ⟨n, h1, by omega, h3⟩
      · rintro (e | ⟨n, h1, h2, h3, h4⟩)
        · exact .inl e
        · by_cases hk : n = k + 1
          · subst hk
            rw [(palB_iff _).2 h3] at hb
            cases hb
          · exact .inr ⟨n, h1, by omega, h3, h4⟩
    · rw [ppRow_yes hb, insL_mem, ih]
      constructor
      · rintro (e | e | ⟨n, h1, h2, h3⟩)
        · exact .inr ⟨k + 1, by omega, by omega, (palB_iff _).1 hb, e⟩
        · exact .inl e
        · exact .inr ⟨n, h1, by omega, h3⟩
      · rintro (e | ⟨n, h1, h2, h3, h4⟩)
        · exact .inr (.inl e)
        · by_cases hk : n = k + 1
          · subst hk; exact .inl h4
          · exact .inr (.inr ⟨n, h1, by omega, h3, h4⟩)
theorem ppTo_mem (s x : ByteArray) : ∀ i, i ≤ s.size → (x ∈ ppTo s i ↔ x = ⟨#[]⟩ ∨ ∃ j n, j < i ∧ 1 ≤ n ∧ j + n ≤ s.size ∧ PalS (s.extract j (j + n)) ∧ x = s.extract j (j + n))
  | 0, _ => by
    show x ∈ [(⟨#[]⟩ : ByteArray)] ↔ _
    rw [List.mem_singleton]
    constructor
    · exact .inl
    · rintro (h | ⟨j, n, h, _⟩)
      · exact h
      · omega
  | i + 1, hi => by
    show x ∈ ppRow _ _ _ _ ↔ _
    rw [ppRow_mem, ppTo_mem s x i (by omega)]
    constructor
    · rintro ((h | ⟨j, n, h1, h2⟩) | ⟨n, h1, h2, h3⟩)
      · exact .inl h
      · exact .inr ⟨j, n, by omega, h2⟩
      · exact .inr ⟨i, n, by omega, h1, by omega, h3⟩
    · rintro (h | ⟨j, n, h1, h2, h3, h4⟩)
      · exact .inl (.inl h)
      · by_cases hj : j = i
        · subst hj; exact .inr ⟨n, h2, by omega, h4⟩
        · exact .inl (.inr ⟨j, n, by omega, h2, h3, h4⟩)
theorem ppL_mem (s x : ByteArray) : x ∈ ppL s ↔ x = ⟨#[]⟩ ∨ ∃ j n, 1 ≤ n ∧ j + n ≤ s.size ∧ PalS (s.extract j (j + n)) ∧ x = s.extract j (j + n) := by
  unfold ppL
  rw [ppTo_mem s x s.size (Nat.le_refl _)]
  constructor
  · rintro (h | ⟨j, n, _, h⟩)
    · exact .inl h
    · exact .inr ⟨j, n, h⟩
  · rintro (h | ⟨j, n, h1, h2, h3⟩)
    · exact .inl h
    · exact .inr ⟨j, n, by omega, h1, h2, h3⟩
theorem insL_most : ∀ (l : List ByteArray) (x : ByteArray), (insL l x).length ≤ l.length + 1
  | [], x => by simp [insL]
  | a :: l, x => by
    have := insL_most l x
    unfold insL
    split
    · simp
    · split
      · simp only [List.length_cons]; omega
      · simp
theorem ppRow_len (s : ByteArray) (i : Nat) (l : List ByteArray) : ∀ k, (ppRow s i l k).length ≤ l.length + k
  | 0 => Nat.le_refl _
  | k + 1 => by
    have ih := ppRow_len s i l k
    unfold ppRow
    split
    · have := insL_most (ppRow s i l k) (s.extract i (i + (k + 1))); omega
    · omega
theorem ppTo_len (s : ByteArray) (hs : s.size ≤ 60) : ∀ i, (ppTo s i).length ≤ 1 + 60 * i
  | 0 => Nat.le_refl _
  | i + 1 => by
    have ih := ppTo_len s hs i
    have := ppRow_len s i (ppTo s i) (s.size - i)
    show (ppRow s i (ppTo s i) (s.size - i)).length ≤ _
    omega
theorem ppR_le (s : ByteArray) : (ppR s).length ≤ 3601 := by
  unfold ppR
  split
  · rename_i h
    unfold ppOk at h
    simp only [Bool.and_eq_true, decide_eq_true_eq] at h
    have := ppTo_len s h.2 s.size
    show (ppTo s s.size).length ≤ _
    omega
  · simp
/-- what DefectOf is to return -/
noncomputable def dfR (s : ByteArray) : Int := if ppOk s = true then (s.size : Int) + 1 - ((ppL s).length : Int) else -1
noncomputable def richR (s : ByteArray) : Bool := dfR s == 0

/-! ### the longest one -/
/-- a palindrome of size - d letters begins at i -/
def LpAt (s : ByteArray) (d i : Nat) : Prop := i ≤ d ∧ d ≤ s.size ∧ PalS (s.extract i (i + (s.size - d)))
noncomputable def lpD (s : ByteArray) : Nat := firstP (fun d => ∃ i, LpAt s d i) 0 s.size
noncomputable def lpI (s : ByteArray) : Nat := firstP (LpAt s (lpD s)) 0 s.size
/-- what LongestPalindrome is to return -/
noncomputable def lpR1 (s : ByteArray) : Int := if wordB s = true then (if s.size = 0 then 0 else (lpI s : Int)) else -1
noncomputable def lpR2 (s : ByteArray) : Int := if wordB s = true then ((s.size - lpD s : Nat) : Int) else -1
theorem lp_found {s : ByteArray} {d i : Nat} (h1 : LpAt s d i) (h2 : ∀ d', d' < d → ∀ i', ¬ LpAt s d' i') (h3 : ∀ i', i' < i → ¬ LpAt s d i') : lpD s = d ∧ lpI s = i := by
  have e1 : lpD s = d := firstP_eq _ _ _ (Nat.zero_le _) (by have := h1.2.1; omega) (fun r _ hr => fun ⟨i', hh⟩ => h2 r hr i' hh) ⟨i, h1⟩
  refine ⟨e1, ?_⟩
  unfold lpI
  rw [e1]
  exact firstP_eq _ _ _ (Nat.zero_le _) (by have := h1.1; have := h1.2.1; omega) (fun r _ hr => h3 r hr) h1

/-! ### closing -/
noncomputable def clK (s : ByteArray) : Nat := firstP (fun k => PalS (s.extract k s.size)) 0 s.size
noncomputable def clS (s : ByteArray) : ByteArray := s ++ turnS (s.extract 0 (clK s))
/-- what CloseWord is to return -/
noncomputable def clR (s : ByteArray) : ByteArray := if (wordB s && wordB (clS s)) = true then clS s else ⟨#[]⟩
theorem cl_end (s : ByteArray) : PalS (s.extract s.size s.size) := pal_small (by rw [ByteArray.size_extract]; omega)
theorem clK_eq {s : ByteArray} {k : Nat} (hk : k ≤ s.size) (h1 : PalS (s.extract k s.size)) (h2 : ∀ j, j < k → ¬ PalS (s.extract j s.size)) : clK s = k :=
  firstP_eq _ _ _ (Nat.zero_le _) (by omega) (fun r _ hr => h2 r hr) h1
theorem clK_le (s : ByteArray) : clK s ≤ s.size := by
  by_cases h : ∃ k, k ≤ s.size ∧ PalS (s.extract k s.size) ∧ ∀ j, j < k → ¬ PalS (s.extract j s.size)
  · obtain ⟨k, h1, h2, h3⟩ := h
    rw [clK_eq h1 h2 h3]
    exact h1
  · exfalso
    have : ∀ k, k ≤ s.size → ¬ PalS (s.extract k s.size) := by
      intro k
      induction k using Nat.strongRecOn with
      | ind k ih =>
        intro hk hp
        exact h ⟨k, hk, hp, fun j hj => ih j hj (by omega)⟩
    exact this s.size (Nat.le_refl _) (cl_end s)
theorem clS_size (s : ByteArray) : (clS s).size = s.size + clK s := by
  have h1 := clK_le s
  unfold clS
  rw [ByteArray.size_append, turn_size, ByteArray.size_extract]
  omega

/-! ### directed words -/
noncomputable def dwS (d : ByteArray) : Nat → ByteArray
  | 0 => ⟨#[]⟩
  | i + 1 => clS (dwS d i ++ d.extract i (i + 1))
noncomputable def dwB (d : ByteArray) : Nat → Bool
  | 0 => true
  | i + 1 => dwB d i && wordB (dwS d (i + 1))
noncomputable def dwOk (d : ByteArray) : Bool := wordB d && (decide (d.size ≤ 12) && dwB d d.size)
/-- what DirectedWord is to return -/
noncomputable def dwR (d : ByteArray) : ByteArray := if dwOk d = true then dwS d d.size else ⟨#[]⟩
theorem dwB_no {d : ByteArray} {i : Nat} (h : dwB d i = false) : ∀ k, i ≤ k → dwB d k = false
  | 0, hk => by
    have : i = 0 := by omega
    subst this
    exact h
  | k + 1, hk => by
    by_cases e : i = k + 1
    · subst e; exact h
    · show (dwB d k && _) = false
      rw [dwB_no h k (by omega), Bool.false_and]
/-- the direction and the word that are reached, behind at most n letters -/
noncomputable def drS (s : ByteArray) : Nat → ByteArray × ByteArray
  | 0 => (⟨#[]⟩, ⟨#[]⟩)
  | n + 1 =>
    let y := drS s n
    if y.2.size < s.size then (y.1 ++ s.extract y.2.size (y.2.size + 1), clS (y.2 ++ s.extract y.2.size (y.2.size + 1))) else y
noncomputable def drB (s : ByteArray) : Bool := @decide ((drS s 12).2 = s) (Classical.propDecidable _)
noncomputable def drOk (s : ByteArray) : Bool := wordB s && drB s
/-- what DirectionOf is to return -/
noncomputable def drR (s : ByteArray) : ByteArray := if drOk s = true then (drS s 12).1 else ⟨#[]⟩

/-! ### closed under turning -/
noncomputable def cuB (s : ByteArray) (n : Nat) : Bool := @decide (∀ f ∈ facTo s n (s.size + 1 - n), turnS f ∈ facTo s n (s.size + 1 - n)) (Classical.propDecidable _)
/-- what IsClosedUnderTurn is to return -/
noncomputable def cuR (s : ByteArray) (n : Int) : Bool := wordB s && ((decide (1 ≤ n) && decide (n ≤ 60)) && cuB s n.toNat)
end Go.Proofs.Ytiglikdanhfhfaa

/- Chapter 9 of the model: IsPalindrome, PalindromesIn, DefectOf, IsRich. Conditions: lengths of at most 2^20. -/
namespace Go.Proofs.Ytiglikdanhfhfaa
open Go.RowKit Go.Lib

theorem specIs (s : ByteArray) (w : World) (hs : s.size ≤ 1048576) :
    Calls Try.prog 51 #[.string s] w fun e w' => e = .returned (.bool (palB s)) ∧ Below w.heap.size w w' := by
  have HI := Lib.hid (palB_iff s)
  have HT := Lib.hid (fun w => specTurn s w hs)
  cases hp : palB s
  · have hne : turnS s ≠ s := fun h => by rw [HI.out.2 h] at hp; cases hp
    have bq := ne_bytes hne
    clear HI hp hne
    generalize turnS s = t at HT bq
    go_enter Try.func51, Try.ntmps51
    go_wp2_with fail
    refine (HT.out _).mono ?_
    rintro e w1 ⟨rfl, hb⟩
    have HB := Lib.hid hb
    clear hb
    go_wp2_with fail
    go_ret
    exact ⟨rfl, HB.out⟩
  · have he : turnS s = s := HI.out.1 hp
    have bq : (s.toList == s.toList) = true := by simp
    rw [he] at HT
    clear HI hp he
    go_enter Try.func51, Try.ntmps51
    go_wp2_with fail
    refine (HT.out _).mono ?_
    rintro e w1 ⟨rfl, hb⟩
    have HB := Lib.hid hb
    clear hb
    go_wp2_with fail
    go_ret
    exact ⟨rfl, HB.out⟩

theorem specIsPalindrome (s : ByteArray) (w : World) (hs : s.size ≤ 1048576) :
    Calls Try.prog 28 #[.string s] w fun e w' => e = .returned (.bool (ipR s)) ∧ Below w.heap.size w w' := by
  have HV : Hid (ipR s = (wordB s && palB s)) := rfl
  cases hw : wordB s
  · have HW := Lib.hid hw
    have HR : Hid (ipR s = false) := by show ipR s = false; rw [HV.out, hw]; rfl
    clear hw HV
    go_enter Try.func28, Try.ntmps28
    go_wp2_with fail
    refine (specWordOk s _).mono ?_
    rintro e w' ⟨rfl, rfl⟩
    rw [HW.out]
    go_wp2_with fail
    go_ret
    exact ⟨ret_bool HR.out.symm, Below.refl _ _⟩
  · have HW := Lib.hid hw
    have HR : Hid (ipR s = palB s) := by show ipR s = _; rw [HV.out, hw]; rfl
    clear hw HV
    go_enter Try.func28, Try.ntmps28
    go_wp2_with fail
    refine (specWordOk s _).mono ?_
    rintro e w' ⟨rfl, rfl⟩
    rw [HW.out]
    go_wp2_with fail
    refine (specIs s _ hs).mono ?_
    rintro e w1 ⟨rfl, hb⟩
    have HB := Lib.hid hb
    clear hb
    go_wp2_with fail
    go_ret
    exact ⟨ret_bool HR.out.symm, HB.out⟩

set_option maxRecDepth 100000 in
set_option maxHeartbeats 1000000 in
theorem specPalindromesIn (s : ByteArray) (w : World) (_ : s.size ≤ 1048576) :
    Calls Try.prog 29 #[.string s] w fun e w' => ∃ v, e = .returned v ∧ w'.ownsRow w.heap.size 9 1 v (ppR s).length (strs (ppR s)) ∧ Below w.heap.size w w' := by
  cases hw : wordB s
  · have HW := Lib.hid hw
    have HV : Hid (ppR s = []) := by show _ = _; unfold ppR ppOk; rw [hw]; rfl
    clear hw
    go_enter Try.func29, Try.ntmps29
    go_wp2_with fail
    refine (specWordOk s _).mono ?_
    rintro e w' ⟨rfl, rfl⟩
    rw [HW.out]
    go_wp2_with fail
    go_ret
    refine ⟨_, rfl, ?_, Below.refl _ _⟩
    rw [HV.out]
    exact World.ownsRow_nil _ _ _ _
  have HW := Lib.hid hw
  by_cases h60 : 60 < s.size
  · have HV : Hid (ppR s = []) := by show _ = _; unfold ppR ppOk; rw [hw, decide_eq_false (by omega)]; rfl
    have d1 : decide ((60 : Int) < (s.size : Int)) = true := by simp; omega
    clear hw
    go_enter Try.func29, Try.ntmps29
    go_wp2_with fail
    refine (specWordOk s _).mono ?_
    rintro e w' ⟨rfl, rfl⟩
    rw [HW.out]
    go_wp2_with fail
    go_ret
    refine ⟨_, rfl, ?_, Below.refl _ _⟩
    rw [HV.out]
    exact World.ownsRow_nil _ _ _ _
  have HV : Hid (ppR s = ppTo s s.size) := if_pos (by unfold ppOk; rw [hw, decide_eq_true (by omega)]; rfl)
  have d1 : decide ((60 : Int) < (s.size : Int)) = false := by simp; omega
  have HLOW := Lib.hid (word_low hw)
  have hs60 : s.size ≤ 60 := by omega
  have HRL : Hid (∀ k j, k < s.size → k + j ≤ s.size → (ppRow s k (ppTo s k) j).length ≤ 3700) := fun k j h1 h2 => by
    have a := ppRow_len s k (ppTo s k) j
    have b := ppTo_len s hs60 k
    omega
  have HRA := Lib.hid (fun k j => ppRow_asc s k (ppTo_asc s k) j)
  clear hw h60
  go_enter Try.func29, Try.ntmps29
  go_wp2_with fail
  refine (specWordOk s _).mono ?_
  rintro e w' ⟨rfl, rfl⟩
  rw [HW.out]
  go_wp2_with fail
  have HOWN0 : Hid ((w.alloc (.cells #[.string ⟨#[]⟩] 9)).ownsRow w.heap.size 9 1 (.slice (some ⟨w.heap.size, 0, none⟩) 1 1) 1 (strs [⟨#[]⟩])) := ⟨rfl, .inr ⟨w.heap.size, 1, #[.string ⟨#[]⟩], rfl, Nat.le_refl _, heap_alloc_new w _, Nat.le_refl _, (by unfold maxLen; decide), rfl, rfl⟩⟩
  have hb0 : Below w.heap.size w (w.alloc (.cells #[.string ⟨#[]⟩] 9)) := (Below.refl _ _).alloc (Nat.le_refl _) _
  have hsz0 : (w.alloc (.cells #[.string ⟨#[]⟩] 9)).heap.size = w.heap.size + 1 := by simp
  have HB0 := Lib.hid hb0
  clear hb0
  generalize w.alloc (.cells #[.string ⟨#[]⟩] 9) = w1 at HOWN0 HB0 hsz0 ⊢
  go_loopw [3] (fun o w' => ∃ k g cp : Nat, k ≤ s.size ∧ o = .slice (some ⟨g, 0, none⟩) (ppTo s k).length cp ∧ w'.ownsRow w.heap.size 9 1 (.slice (some ⟨g, 0, none⟩) (ppTo s k).length cp) (ppTo s k).length (strs (ppTo s k)) ∧ w'.heap[(w.heap.size + 1)]? = some (.stringIter s k) ∧ Below w.heap.size w w') (fun _ w' => s.size - w'.iterPos (w.heap.size + 1))
  case atStart => exact ⟨0, _, _, by omega, rfl, own_below HOWN0.out (below_iter w1 s 0), by rw [← hsz0]; exact World.iter_heap w1 s 0, HB0.out.trans ((below_iter w1 s 0).mono (by omega))⟩
  case round =>
    obtain ⟨k, g, cp, hk, rfl, ho, hit, hb⟩ := hrel
    obtain ⟨wi, rfl⟩ : ∃ y : World, y = wr := ⟨_, rfl⟩
    have HO := Lib.hid ho
    have HB := Lib.hid hb
    have hitlt := (Array.getElem?_eq_some_iff.1 hit).1
    by_cases hlt : k < s.size
    · have hnx : ∀ ty, (Instr.next (.pointer (some ⟨(w.heap.size + 1), 0, none⟩)) true ty).run Try.prog wi = _ := fun ty => run_next_ascii_at wi (w.heap.size + 1) s k ty hit hlt (HLOW.out k hlt)
      have hi2 := iterAt_heap wi (w.heap.size + 1) s k (k + 1) hit
      have hb2 := below_iterAt (k := (w.heap.size + 1)) hb (by omega) s (k + 1)
      have hsz2 := iterAt_size wi (w.heap.size + 1) s (k + 1)
      have ho2 : (wi.iterAt (w.heap.size + 1) s (k + 1)).ownsRow w.heap.size 9 1 (.slice (some ⟨g, 0, none⟩) (ppTo s k).length cp) (ppTo s k).length (strs (ppTo s k)) := by
        have hgne : g ≠ (w.heap.size + 1) := fun e => by
          subst e
          rcases ho.2 with ⟨h', _⟩ | ⟨g', cap', cur, h', _, hg, _⟩
          · simp at h'
          · injection h' with ha _ _
            injection ha with ha
            injection ha with ha
            subst ha
            rw [hit] at hg
            cases hg
        refine own_apart ho (row := some (w.heap.size + 1)) ⟨rfl, rfl, rfl, by rw [hsz2]; exact Nat.le_refl _, fun i hi hne => iterAt_other wi (w.heap.size + 1) i s (k + 1) (fun e => hne (by rw [e]))⟩ (fun j h1 h2 => ?_)
        have e1 : g = j := Option.some.inj h1
        have e2 : (w.heap.size + 1) = j := Option.some.inj h2
        omega
      have hpos0 := iterPos_at hit
      have HI2 := Lib.hid hi2
      have HB2 := Lib.hid hb2
      have HO2 := Lib.hid ho2
      clear hi2 hb2 ho2 ho hit hb
      generalize wi.iterAt (w.heap.size + 1) s (k + 1) = w2 at hnx HI2 HB2 HO2 hsz2
      go_wp2_with fail
      go_loopw [3, 5] (fun o hv w' => ∃ j g cp : Nat, k + j ≤ s.size ∧ hv = .int .i64 ((j : Int) + 1) ∧ o = .slice (some ⟨g, 0, none⟩) (ppRow s k (ppTo s k) j).length cp ∧ w'.ownsRow w.heap.size 9 1 (.slice (some ⟨g, 0, none⟩) (ppRow s k (ppTo s k) j).length cp) (ppRow s k (ppTo s k) j).length (strs (ppRow s k (ppTo s k) j)) ∧ w'.heap[(w.heap.size + 1)]? = some (.stringIter s (k + 1)) ∧ Below w.heap.size w w') (fun _ hv _ => s.size + 2 - (intOf hv).toNat)
      case atStart => exact ⟨0, g, cp, by omega, rfl, rfl, HO2.out, HI2.out, HB2.out⟩
      case round =>
        obtain ⟨j, g2, cp2, hj, rfl, rfl, ho, hit, hb⟩ := hrel
        obtain ⟨wj, rfl⟩ : ∃ y : World, y = wr := ⟨_, rfl⟩
        have HOJ := Lib.hid ho
        have HIJ := Lib.hid hit
        have HBJ := Lib.hid hb
        have hitj := (Array.getElem?_eq_some_iff.1 hit).1
        clear ho hit hb
        by_cases hle : k + (j + 1) ≤ s.size
        · have hs1 : ∀ w : World, (Instr.slice 9 (.string s) (some (.int .i64 (k : Int))) (some (.int .i64 ((k : Int) + ((j : Int) + 1)))) none).run Try.prog w = .ok (.string (s.extract k (k + (j + 1)))) w := fun w => slice_gen Try.underlying9 s _ _ k (k + (j + 1)) w rfl (by omega) (by omega) (by omega)
          have hrl := HRL.out k j hlt (by omega)
          have hpz : (s.extract k (k + (j + 1))).size ≤ 1048576 := by rw [ByteArray.size_extract]; omega
          have HIS := Lib.hid (fun w => specIs (s.extract k (k + (j + 1))) w hpz)
          cases hc : palB (s.extract k (k + (j + 1)))
          · have HN := Lib.hid (ppRow_no (i := k) (k := j) (l := ppTo s k) hc)
            rw [hc] at HIS
            clear hc
            generalize s.extract k (k + (j + 1)) = x1 at hs1 HIS
            go_wp2_with fail
            refine (HIS.out _).mono ?_
            rintro e w3 ⟨rfl, hb3⟩
            have HO3 := Lib.hid (own_below HOJ.out hb3)
            have HB3 : Hid (Below w.heap.size w w3) := HBJ.out.trans (hb3.mono HBJ.out.size)
            have HI3 : Hid (w3.heap[(w.heap.size + 1)]? = some (.stringIter s (k + 1))) := (hb3.block (w.heap.size + 1) hitj).trans HIJ.out
            clear hb3
            go_wp2_with fail
            go_roundw
            case rel => exact ⟨j + 1, g2, cp2, by omega, by go_num, by rw [HN.out], by rw [HN.out]; exact HO3.out, HI3.out, HB3.out⟩
            case measure => simp [intOf]; omega
          · have HN := Lib.hid (ppRow_yes (l := ppTo s k) hc)
            have HINS := Lib.hid (fun w' hw' hB => specInsert (ppRow s k (ppTo s k) j) g2 cp2 (s.extract k (k + (j + 1))) w' w.heap.size hw' (HRA.out k j) (by omega) hB)
            rw [hc] at HIS
            clear hc
            generalize s.extract k (k + (j + 1)) = x1 at hs1 HIS HN HINS
            go_wp2_with fail
            refine (HIS.out _).mono ?_
            rintro e w3 ⟨rfl, hb3⟩
            have HO3 := Lib.hid (own_below HOJ.out hb3)
            have HB3 : Hid (Below w.heap.size w w3) := HBJ.out.trans (hb3.mono HBJ.out.size)
            have HI3 : Hid (w3.heap[(w.heap.size + 1)]? = some (.stringIter s (k + 1))) := (hb3.block (w.heap.size + 1) hitj).trans HIJ.out
            have hit3 : w.heap.size + 1 < w3.heap.size := by have := hb3.size; omega
            clear hb3
            go_wp2_with fail
            refine (HINS.out w3 HO3.out HB3.out.size).mono ?_
            rintro e w4 ⟨g3, cp3, rfl, ho4, hb4⟩
            have HO4 := Lib.hid ho4
            have HB4 := Lib.hid hb4
            have HI4 : Hid (w4.heap[(w.heap.size + 1)]? = some (.stringIter s (k + 1))) := (hb4.block (w.heap.size + 1) hit3).trans HI3.out
            clear ho4 hb4
            go_wp2_with fail
            go_roundw
            case rel => exact ⟨j + 1, g3, cp3, by omega, by go_num, by rw [HN.out], by rw [HN.out]; exact HO4.out, HI4.out, HB3.out.trans (HB4.out.mono HB3.out.size)⟩
            case measure => simp [intOf]; omega
        · have hjj : j = s.size - k := by omega
          have HN : Hid (ppRow s k (ppTo s k) j = ppTo s (k + 1)) := by show _ = _; rw [hjj]; rfl
          clear hjj
          go_wp2_with fail
          go_roundw
          case rel => exact ⟨k + 1, g2, cp2, by omega, by rw [← HN.out], by rw [← HN.out]; exact HOJ.out, HIJ.out, HBJ.out⟩
          case measure =>
            have e1 := iterPos_at HIJ.out
            rw [e1, hpos0]
            omega
    · have hnx : ∀ ty, (Instr.next (.pointer (some ⟨(w.heap.size + 1), 0, none⟩)) true ty).run Try.prog wi = _ := fun ty => run_next_end_at wi (w.heap.size + 1) s k ty hit hlt
      have hkk : k = s.size := by omega
      have HN : Hid (ppTo s k = ppR s) := by show _ = _; rw [hkk, HV.out]
      clear hkk ho hit hb
      go_wp2_with fail
      go_ret
      exact ⟨_, rfl, by rw [← HN.out]; exact HO.out, HB.out⟩

set_option maxHeartbeats 400000 in
theorem specDefectOf (s : ByteArray) (w : World) (hs : s.size ≤ 1048576) :
    Calls Try.prog 33 #[.string s] w fun e w' => e = .returned (.int .i64 (dfR s)) ∧ Below w.heap.size w w' := by
  cases hw : wordB s
  · have HW := Lib.hid hw
    have HV : Hid (dfR s = -1) := by show _ = _; unfold dfR ppOk; rw [hw]; rfl
    clear hw
    go_enter Try.func33, Try.ntmps33
    go_wp2_with fail
    refine (specWordOk s _).mono ?_
    rintro e w' ⟨rfl, rfl⟩
    rw [HW.out]
    go_wp2_with fail
    go_ret
    exact ⟨ret_int HV.out.symm, Below.refl _ _⟩
  have HW := Lib.hid hw
  by_cases h60 : 60 < s.size
  · have HV : Hid (dfR s = -1) := by show _ = _; unfold dfR ppOk; rw [hw, decide_eq_false (by omega)]; rfl
    have d1 : decide ((60 : Int) < (s.size : Int)) = true := by simp; omega
    clear hw
    go_enter Try.func33, Try.ntmps33
    go_wp2_with fail
    refine (specWordOk s _).mono ?_
    rintro e w' ⟨rfl, rfl⟩
    rw [HW.out]
    go_wp2_with fail
    go_ret
    exact ⟨ret_int HV.out.symm, Below.refl _ _⟩
  have hok : ppOk s = true := by unfold ppOk; rw [hw, decide_eq_true (by omega)]; rfl
  have HP : Hid (ppR s = ppL s) := if_pos hok
  have HV : Hid (dfR s = (s.size : Int) + 1 - ((ppL s).length : Int)) := if_pos hok
  have hle := ppR_le s
  rw [HP.out] at hle
  have HPI := Lib.hid (fun w => specPalindromesIn s w hs)
  rw [HP.out] at HPI
  have d1 : decide ((60 : Int) < (s.size : Int)) = false := by simp; omega
  clear hw hok HP
  generalize ppL s = L at HV hle HPI
  go_enter Try.func33, Try.ntmps33
  go_wp2_with fail
  refine (specWordOk s _).mono ?_
  rintro e w' ⟨rfl, rfl⟩
  rw [HW.out]
  go_wp2_with fail
  refine (HPI.out _).mono ?_
  rintro e w1 ⟨v, rfl, ho, hb⟩
  obtain ⟨A, cp, rfl⟩ := own_slice ho
  have HB := Lib.hid hb
  clear ho hb
  go_wp2_with fail
  go_ret
  exact ⟨ret_int (by rw [HV.out]), HB.out⟩

theorem specIsRich (s : ByteArray) (w : World) (hs : s.size ≤ 1048576) :
    Calls Try.prog 34 #[.string s] w fun e w' => e = .returned (.bool (richR s)) ∧ Below w.heap.size w w' := by
  have HV : Hid (richR s = (dfR s == 0)) := rfl
  have HD := Lib.hid (fun w => specDefectOf s w hs)
  generalize dfR s = d at HV HD
  go_enter Try.func34, Try.ntmps34
  go_wp2_with fail
  refine (HD.out _).mono ?_
  rintro e w1 ⟨rfl, hb⟩
  have HB := Lib.hid hb
  clear hb
  go_wp2_with fail
  go_ret
  exact ⟨ret_bool HV.out.symm, HB.out⟩
end Go.Proofs.Ytiglikdanhfhfaa

/- Chapter 8 of the model: GreatestExponent. Conditions: lengths of at most 2^20. -/
namespace Go.Proofs.Ytiglikdanhfhfaa
open Go.RowKit Go.Lib

noncomputable def gexRow (s : ByteArray) (n : Nat) (y : Nat × Nat) : Nat → Nat × Nat
  | 0 => y
  | i + 1 => if (gexRow s n y i).1 * perN (s.extract i (i + n)) < n * (gexRow s n y i).2 then (n, perN (s.extract i (i + n))) else gexRow s n y i
/-- behind the factors of 1 to n + 1 letters: the length and the least period of the best -/
noncomputable def gexTo (s : ByteArray) : Nat → Nat × Nat
  | 0 => (1, 1)
  | n + 1 => gexRow s (n + 2) (gexTo s n) (s.size + 1 - (n + 2))
def gexOk (s : ByteArray) : Bool := wordB s && (decide (1 ≤ s.size) && decide (s.size ≤ 60))
/-- what GreatestExponent is to return -/
noncomputable def gexR (s : ByteArray) : Nat × Nat := if gexOk s = true then gexTo s (s.size - 1) else (0, 0)
theorem firstP_le {P : Nat → Prop} : ∀ (k p : Nat), p ≤ firstP P p k ∧ firstP P p k ≤ p + k
  | 0, p => ⟨Nat.le_refl _, Nat.le_refl _⟩
  | k + 1, p => by
    have := firstP_le (P := P) k (p + 1)
    unfold firstP
    split <;> omega
theorem perN_le (s : ByteArray) : 1 ≤ perN s ∧ perN s ≤ s.size + 1 := by
  have := firstP_le (P := PerAt s) s.size 1
  unfold perN
  omega
theorem gexRow_le (s : ByteArray) (n : Nat) (hn : n ≤ 60) (y : Nat × Nat) (hy : y.1 ≤ 61 ∧ y.2 ≤ 61) : ∀ i, (gexRow s n y i).1 ≤ 61 ∧ (gexRow s n y i).2 ≤ 61
  | 0 => hy
  | i + 1 => by
    have ih := gexRow_le s n hn y hy i
    unfold gexRow
    split
    · have := perN_le (s.extract i (i + n))
      have hz : (s.extract i (i + n)).size ≤ n := by rw [ByteArray.size_extract]; omega
      exact ⟨by show n ≤ 61; omega, by show perN _ ≤ 61; omega⟩
    · exact ih
theorem gexTo_le (s : ByteArray) : ∀ n, n ≤ 59 → (gexTo s n).1 ≤ 61 ∧ (gexTo s n).2 ≤ 61
  | 0, _ => ⟨by show 1 ≤ 61; omega, by show 1 ≤ 61; omega⟩
  | n + 1, h => gexRow_le s (n + 2) (by omega) _ (gexTo_le s n (by omega)) _
theorem gexRow_yes {s : ByteArray} {n i : Nat} {y : Nat × Nat} (h : (gexRow s n y i).1 * perN (s.extract i (i + n)) < n * (gexRow s n y i).2) : gexRow s n y (i + 1) = (n, perN (s.extract i (i + n))) := if_pos h
theorem gexRow_no {s : ByteArray} {n i : Nat} {y : Nat × Nat} (h : ¬ (gexRow s n y i).1 * perN (s.extract i (i + n)) < n * (gexRow s n y i).2) : gexRow s n y (i + 1) = gexRow s n y i := if_neg h
theorem mul_small {a b : Nat} (h1 : a ≤ 61) (h2 : b ≤ 61) : a * b ≤ 3721 := Nat.le_trans (Nat.mul_le_mul h1 h2) (by omega)

end Go.Proofs.Ytiglikdanhfhfaa

/- Chapter 8 of the model: CountSquareFree, ExtendSquareFree. Conditions: lengths of at most 2^20. -/
namespace Go.Proofs.Ytiglikdanhfhfaa
open Go.RowKit Go.Lib

def sumJ (f : Nat → Nat) : Nat → Nat
  | 0 => 0
  | j + 1 => sumJ f j + f j
theorem sumJ_le {f : Nat → Nat} {b : Nat} : ∀ j, (∀ i, i < j → f i ≤ b) → sumJ f j ≤ j * b
  | 0, _ => Nat.zero_le _
  | j + 1, h => by
    have h1 := sumJ_le (f := f) (b := b) j (fun i hi => h i (by omega))
    have h2 := h j (by omega)
    show sumJ f j + f j ≤ (j + 1) * b
    rw [Nat.succ_mul]
    omega
/-- words of k letters more without squares -/
noncomputable def cntW (L : Nat) : Nat → ByteArray → Nat
  | 0, _ => 1
  | k + 1, w => sumJ (fun j => if endsB (w ++ ⟨#[letterN j]⟩) = true then 0 else cntW L k (w ++ ⟨#[letterN j]⟩)) L
theorem cntW_le (L : Nat) (hL : L ≤ 3) : ∀ k w, cntW L k w ≤ 3 ^ k
  | 0, _ => Nat.le_refl _
  | k + 1, w => by
    show sumJ _ L ≤ _
    refine Nat.le_trans (sumJ_le (b := 3 ^ k) L fun i _ => ?_) ?_
    · show (if endsB (w ++ ⟨#[letterN i]⟩) = true then 0 else cntW L k (w ++ ⟨#[letterN i]⟩)) ≤ _
      split
      · exact Nat.zero_le _
      · exact cntW_le L hL k _
    · rw [Nat.pow_succ, Nat.mul_comm]
      exact Nat.mul_le_mul_left _ hL
noncomputable def cntR (L n : Int) : Int := if ((decide (1 ≤ L) && decide (L ≤ 3)) && (decide (0 ≤ n) && decide (n ≤ 12))) = true then (cntW L.toNat n.toNat ⟨#[]⟩ : Int) else -1
theorem letter3_slice (P : Program) {t : TypeId} (ht : P.underlying t = some .string) (k : Nat) (hk : k ≤ 2) (w : World) :
    (Instr.slice t (.string ⟨#[97, 98, 99]⟩) (some (.int .i64 (k : Int))) (some (.int .i64 ((k : Int) + 1))) none).run P w = .ok (.string ⟨#[letterN k]⟩) w := by
  have h4 : ((⟨#[97, 98, 99]⟩ : ByteArray).size : Int) = 3 := rfl
  rw [run_slice_string (P := P) w t ⟨#[97, 98, 99]⟩ .i64 .i64 (k : Int) ((k : Int) + 1) ht (by omega) (by omega) (by omega)]
  rcases (show k = 0 ∨ k = 1 ∨ k = 2 by omega) with e | e | e <;> subst e <;> rfl
theorem more_size (w : ByteArray) (k : Nat) : (w ++ (⟨#[letterN k]⟩ : ByteArray)).size = w.size + 1 := by
  have h1 : (⟨#[letterN k]⟩ : ByteArray).size = 1 := rfl
  rw [ByteArray.size_append, h1]

end Go.Proofs.Ytiglikdanhfhfaa
