/- Texts put together. -/
import Derived.Test.YtiikledbflgejaaMgC9
import Derived.Test.YtiikledbflgejaaMgC8
import Derived.Test.YtiikledbflgejaaMgC5
import Derived.Deep.Matrix
import Derived.Test.YtiikledbflgejaaChecked
import Derived.Test.YtiikledbflgejaaMgC3
import Derived.Deep.RegionWith
import Derived.Deep.RegionHeld3
import Derived.Deep.QuietTactic
import Derived.BigQuiet
import Derived.Deep.Draws
/- Borders, periods, roots, Lyndon words: what chapter 10 is to return. No program in it. -/
namespace Go.Proofs.Ytiikledbflgejaa
open Go.RowKit

/-! ### borders and periods -/
def BorAt (s : ByteArray) (n : Nat) : Prop := s.extract 0 n = s.extract (s.size - n) s.size
noncomputable def borB (s : ByteArray) (n : Nat) : Bool := @decide (BorAt s n) (Classical.propDecidable _)
theorem borB_iff (s : ByteArray) (n : Nat) : borB s n = true ↔ BorAt s n := by unfold borB; simp
/-- those of 1 to k letters -/
noncomputable def boTo (s : ByteArray) : Nat → List Int
  | 0 => []
  | k + 1 => if borB s (k + 1) = true then boTo s k ++ [((k + 1 : Nat) : Int)] else boTo s k
/-- what BordersOf is to return -/
noncomputable def boR (s : ByteArray) : List Int := if wordB s = true then boTo s (s.size - 1) else []
theorem boTo_yes {s : ByteArray} {k : Nat} (h : borB s (k + 1) = true) : boTo s (k + 1) = boTo s k ++ [((k + 1 : Nat) : Int)] := if_pos h
theorem boTo_no {s : ByteArray} {k : Nat} (h : borB s (k + 1) = false) : boTo s (k + 1) = boTo s k := if_neg (by rw [h]; decide)
theorem boTo_len (s : ByteArray) : ∀ k, (boTo s k).length ≤ k
  | 0 => Nat.le_refl _
  | k + 1 => by
    have ih := boTo_len s k
    unfold boTo
    split
    · rw [List.length_append]; show _ + 1 ≤ _; omega
    · omega
theorem boTo_mem (s : ByteArray) (x : Int) : ∀ k, x ∈ boTo s k ↔ ∃ n : Nat, x = n ∧ 1 ≤ n ∧ n ≤ k ∧ BorAt s n
  | 0 => by
    constructor
    · intro h; cases h
    · rintro ⟨n, _, h1, h2, _⟩; omega
  | k + 1 => by
    have ih := boTo_mem s x k
    cases hb : borB s (k + 1)
    · rw [boTo_no hb, ih]
      constructor
      · rintro ⟨n, a, b, c, d⟩; exact ⟨n, a, b, by omega, d⟩
      · rintro ⟨n, a, b, c, d⟩
        by_cases hk : n = k + 1
        · subst hk
          rw [(borB_iff _ _).2 d] at hb
          cases hb
        · exact ⟨n, a, b, by omega, d⟩
    · rw [boTo_yes hb, List.mem_append, ih, List.mem_singleton]
      constructor
      · rintro (⟨n, a, b, c, d⟩ | e)
        · exact ⟨n, a, b, by omega, d⟩
        · exact ⟨k + 1, e, by omega, by omega, (borB_iff _ _).1 hb⟩
      · rintro ⟨n, a, b, c, d⟩
        by_cases hk : n = k + 1
        · subst hk; exact .inr a
        · exact .inl ⟨n, a, b, by omega, d⟩
theorem boR_le (s : ByteArray) : (boR s).length ≤ 400 := by
  unfold boR
  split
  · rename_i h
    have := boTo_len s (s.size - 1)
    have := word_size h
    omega
  · simp
noncomputable def perB (s : ByteArray) (p : Nat) : Bool := @decide (PerAt s p) (Classical.propDecidable _)
theorem perB_iff (s : ByteArray) (p : Nat) : perB s p = true ↔ PerAt s p := by unfold perB; simp
noncomputable def peTo (s : ByteArray) : Nat → List Int
  | 0 => []
  | k + 1 => if perB s (k + 1) = true then peTo s k ++ [((k + 1 : Nat) : Int)] else peTo s k
/-- what PeriodsOf is to return -/
noncomputable def peR (s : ByteArray) : List Int := if wordB s = true then peTo s s.size else []
theorem peTo_yes {s : ByteArray} {k : Nat} (h : perB s (k + 1) = true) : peTo s (k + 1) = peTo s k ++ [((k + 1 : Nat) : Int)] := if_pos h
theorem peTo_no {s : ByteArray} {k : Nat} (h : perB s (k + 1) = false) : peTo s (k + 1) = peTo s k := if_neg (by rw [h]; decide)
theorem peTo_len (s : ByteArray) : ∀ k, (peTo s k).length ≤ k
  | 0 => Nat.le_refl _
  | k + 1 => by
    have ih := peTo_len s k
    unfold peTo
    split
    · rw [List.length_append]; show _ + 1 ≤ _; omega
    · omega
theorem peR_le (s : ByteArray) : (peR s).length ≤ 400 := by
  unfold peR
  split
  · rename_i h
    have := peTo_len s s.size
    have := word_size h
    omega
  · simp
/-- w[:len-p] == w[p:] -/
theorem per_cut {s : ByteArray} {p : Nat} (hp : p ≤ s.size) : s.extract 0 (s.size - p) = s.extract p s.size ↔ PerAt s p := by
  have hl : s.data.toList.length = s.size := by simp
  have a1 : (s.extract 0 (s.size - p)).data.toList = s.data.toList.take (s.size - p) := by
    rw [ByteArray.data_extract, Array.toList_extract, List.extract_eq_take_drop, List.drop_zero, Nat.sub_zero]
  have a2 : (s.extract p s.size).data.toList = s.data.toList.drop p := by
    rw [ByteArray.data_extract, Array.toList_extract, List.extract_eq_take_drop, List.take_of_length_le (by rw [List.length_drop, hl]; omega)]
  unfold PerAt
  constructor
  · intro h i hi
    have := congrArg (fun x : ByteArray => x.data.toList[i]?) h
    simp only [a1, a2] at this
    rw [List.getElem?_take, if_pos (by omega), List.getElem?_drop] at this
    rw [this]
    congr 1
    omega
  · intro h
    apply bytes_ext
    rw [ByteArray.toList_eq, ByteArray.toList_eq, a1, a2]
    apply List.ext_getElem?
    intro i
    rw [List.getElem?_take, List.getElem?_drop]
    by_cases hi : i < s.size - p
    · rw [if_pos hi, h i (by omega)]
      congr 1
      omega
    · rw [if_neg hi, List.getElem?_eq_none (by rw [hl]; omega)]

/-! ### the root -/
def RootAt (s : ByteArray) (p : Nat) : Prop := s.size % p = 0 ∧ PerAt s p
/-- the length of the root of a word that is not empty -/
noncomputable def rtN (s : ByteArray) : Nat := firstP (RootAt s) 1 (s.size - 1)
noncomputable def rtOk (s : ByteArray) : Bool := wordB s && decide (1 ≤ s.size)
/-- what RootOf is to return -/
noncomputable def rtR (s : ByteArray) : ByteArray := if rtOk s = true then s.extract 0 (rtN s) else ⟨#[]⟩
noncomputable def rtK (s : ByteArray) : Int := if rtOk s = true then ((s.size / rtN s : Nat) : Int) else 0
noncomputable def prmR (s : ByteArray) : Bool := rtK s == 1

/-! ### shifts -/
def rotS (s : ByteArray) (k : Nat) : ByteArray := s.extract k s.size ++ s.extract 0 k
/-- the least of the first k shifts -/
def lsTo (s : ByteArray) : Nat → Nat
  | 0 => 0
  | k + 1 => if lessB (rotS s k) (rotS s (lsTo s k)) = true then k else lsTo s k
/-- what LeastShift is to return -/
def lsR (s : ByteArray) : Int := if (wordB s && decide (1 ≤ s.size)) = true then (lsTo s s.size : Int) else -1
theorem lsTo_lt (s : ByteArray) : ∀ k, lsTo s k ≤ k
  | 0 => Nat.le_refl _
  | k + 1 => by
    have := lsTo_lt s k
    unfold lsTo
    split <;> omega

/-! ### Lyndon words -/
def LynAt (s : ByteArray) : Prop := 1 ≤ s.size ∧ ∀ k, 1 ≤ k → k < s.size → lessB s (rotS s k) = true
noncomputable def lyB (s : ByteArray) : Bool := @decide (LynAt s) (Classical.propDecidable _)
theorem lyB_iff (s : ByteArray) : lyB s = true ↔ LynAt s := by unfold lyB; simp
/-- what IsLyndon is to return -/
noncomputable def lyR (s : ByteArray) : Bool := wordB s && lyB s
/-- the length of the longest Lyndon word that begins at i, of at most n letters -/
noncomputable def lyLen (s : ByteArray) (i : Nat) : Nat → Nat
  | 0 => 0
  | n + 1 => if lyB (s.extract i (i + (n + 1))) = true then n + 1 else lyLen s i n
theorem lyLen_le (s : ByteArray) (i : Nat) : ∀ n, lyLen s i n ≤ n
  | 0 => Nat.le_refl _
  | n + 1 => by
    have := lyLen_le s i n
    unfold lyLen
    split <;> omega
/-- the parts from i on, f at most -/
noncomputable def lyTo (s : ByteArray) : Nat → Nat → List ByteArray
  | _, 0 => []
  | i, f + 1 => if i < s.size then s.extract i (i + lyLen s i (s.size - i)) :: lyTo s (i + lyLen s i (s.size - i)) f else []
/-- what LyndonParts is to return -/
noncomputable def lyP (s : ByteArray) : List ByteArray := if wordB s = true then lyTo s 0 s.size else []
/-- what AreConjugate is to return -/
noncomputable def cjR (s t : ByteArray) : Bool := wordB s && (wordB t && (decide (s.size = t.size) && hasR (s ++ s) t))

/-! ### periods of a word that two periods give -/
noncomputable def afR (s : ByteArray) (p q : Int) : Bool :=
  wordB s && ((decide (1 ≤ p) && decide (p ≤ s.size)) && ((decide (1 ≤ q) && decide (q ≤ s.size)) && ((perB s p.toNat && perB s q.toNat) && (decide ((s.size : Int) < p + q - (Nat.gcd p.toNat q.toNat : Int)) || perB s (Nat.gcd p.toNat q.toNat)))))
end Go.Proofs.Ytiikledbflgejaa

/- The orbit of a letter, and the power after which some letter comes back. No program in it. -/
namespace Go.Proofs.Ytiikledbflgejaa
open Go.RowKit

theorem goN_add (l : List ByteArray) (k j : Nat) : ∀ m, goN l (goN l k j) m = goN l k (j + m)
  | 0 => rfl
  | m + 1 => by
    show firstN l (goN l (goN l k j) m) = firstN l (goN l k (j + m))
    rw [goN_add l k j m]
theorem goN_succ' (l : List ByteArray) (k m : Nat) : goN l k (m + 1) = goN l (firstN l k) m := by
  have := goN_add l k 1 m
  rw [Nat.add_comm m 1, ← this]
  rfl
theorem pigeon : ∀ a b c d e : Fin 4, a ≠ b → c ≠ a → c ≠ b → d ≠ a → d ≠ b → d ≠ c → e = a ∨ e = b ∨ e = c ∨ e = d := by decide
/-- among the first four is one that comes back -/
theorem orb_some {l : List ByteArray} (hl : substB l = true) {k : Nat} (hk : k < l.length) (h1 : ¬ goN l k 1 ∈ orbTo l k 1) (h2 : ¬ goN l k 2 ∈ orbTo l k 2) (h3 : ¬ goN l k 3 ∈ orbTo l k 3) : goN l k 4 ∈ orbTo l k 4 := by
  have h4 := (subst_parts hl).2.1
  have lt : ∀ n, goN l k n < 4 := fun n => by have := goN_lt hl hk n; omega
  simp only [orbTo, List.nil_append, not_or, List.cons_append, List.mem_cons, List.not_mem_nil, or_false] at h1 h2 h3 ⊢
  have p := pigeon ⟨_, lt 0⟩ ⟨_, lt 1⟩ ⟨_, lt 2⟩ ⟨_, lt 3⟩ ⟨_, lt 4⟩
  simp only [ne_eq, Fin.mk.injEq] at p
  omega
theorem orbN_eq {l : List ByteArray} {k n : Nat} (h1 : 1 ≤ n) (h4 : n ≤ 4) (hno : ∀ m, 1 ≤ m → m < n → ¬ goN l k m ∈ orbTo l k m) (hy : goN l k n ∈ orbTo l k n) : orbN l k = n := by
  unfold orbN
  rcases (show n = 1 ∨ n = 2 ∨ n = 3 ∨ n = 4 by omega) with e | e | e | e <;> subst e
  · rw [if_pos hy]
  · rw [if_neg (hno 1 (by omega) (by omega)), if_pos hy]
  · rw [if_neg (hno 1 (by omega) (by omega)), if_neg (hno 2 (by omega) (by omega)), if_pos hy]
  · rw [if_neg (hno 1 (by omega) (by omega)), if_neg (hno 2 (by omega) (by omega)), if_neg (hno 3 (by omega) (by omega))]
theorem backB_iff {l : List ByteArray} {n : Nat} : backB l n = true ↔ ∃ k, k < l.length ∧ goN l k n = k := by
  unfold backB
  simp [List.any_eq_true]
theorem back_some {l : List ByteArray} (hl : substB l = true) : ∃ n, 1 ≤ n ∧ n ≤ 4 ∧ backB l n = true := by
  have hk : 0 < l.length := (subst_parts hl).1
  have key : ∃ n, 1 ≤ n ∧ n ≤ 4 ∧ goN l 0 n ∈ orbTo l 0 n := by
    by_cases h1 : goN l 0 1 ∈ orbTo l 0 1
    · exact ⟨1, by omega, by omega, h1⟩
    by_cases h2 : goN l 0 2 ∈ orbTo l 0 2
    · exact ⟨2, by omega, by omega, h2⟩
    by_cases h3 : goN l 0 3 ∈ orbTo l 0 3
    · exact ⟨3, by omega, by omega, h3⟩
    exact ⟨4, by omega, by omega, orb_some hl hk h1 h2 h3⟩
  obtain ⟨n, a, b, c⟩ := key
  obtain ⟨i, hi, e⟩ := (orbTo_mem l 0 _ n).1 c
  refine ⟨n - i, by omega, by omega, backB_iff.2 ⟨goN l 0 i, goN_lt hl hk i, ?_⟩⟩
  rw [goN_add, show i + (n - i) = n from by omega, e]
theorem powR_eq {l : List ByteArray} (hl : substB l = true) {n : Nat} (h1 : 1 ≤ n) (hno : ∀ m, 1 ≤ m → m < n → backB l m = false) (hy : backB l n = true) : powR l = (n : Int) := by
  have h4 : n ≤ 4 := by
    obtain ⟨m, a, b, c⟩ := back_some hl
    by_cases h : m < n
    · rw [hno m a h] at c; cases c
    · omega
  unfold powR
  rw [if_pos hl]
  rcases (show n = 1 ∨ n = 2 ∨ n = 3 ∨ n = 4 by omega) with e | e | e | e <;> subst e
  · rw [hy]; rfl
  · rw [hno 1 (by omega) (by omega), hy]; rfl
  · rw [hno 1 (by omega) (by omega), hno 2 (by omega) (by omega), hy]; rfl
  · rw [hno 1 (by omega) (by omega), hno 2 (by omega) (by omega), hno 3 (by omega) (by omega)]; rfl
theorem pow_go {l : List ByteArray} (hl : substB l = true) {n : Nat} (hno : ∀ m, 1 ≤ m → m < n → backB l m = false) : n ≤ 4 := by
  obtain ⟨m, a, b, c⟩ := back_some hl
  by_cases h : m < n
  · rw [hno m a h] at c; cases c
  · omega
/-- the letters of an orbit, as a text -/
def orbS (l : List ByteArray) (k n : Nat) : ByteArray := ⟨((orbTo l k n).map letterN).toArray⟩
theorem orbS_size (l : List ByteArray) (k n : Nat) : (orbS l k n).size = n := by
  show ((orbTo l k n).map letterN).toArray.size = n
  simp [orbTo_length]
theorem orbS_succ (l : List ByteArray) (k n : Nat) : orbS l k n ++ ⟨#[letterN (goN l k n)]⟩ = orbS l k (n + 1) := by
  apply bytes_ext
  rw [ByteArray.toList_eq, ByteArray.toList_eq, ByteArray.data_append]
  show _ = (List.map letterN (orbTo l k n ++ [goN l k n]))
  simp [orbS]
theorem letterN_inj {a b : Nat} (ha : a ≤ 3) (hb : b ≤ 3) (h : letterN a = letterN b) : a = b := by
  have := congrArg UInt8.toNat h
  rw [letterN_toNat a (by omega), letterN_toNat b (by omega)] at this
  omega
theorem orbS_has {l : List ByteArray} (hl : substB l = true) {k : Nat} (hk : k < l.length) (n : Nat) (x : Nat) (hx : x ≤ 3) : hasR (orbS l k n) ⟨#[letterN x]⟩ = true ↔ x ∈ orbTo l k n := by
  have h4 := (subst_parts hl).2.1
  have hlen : (orbTo l k n).length = n := orbTo_length l k n
  have hs1 : (⟨#[letterN x]⟩ : ByteArray).size = 1 := rfl
  have hat : ∀ i (hi : i < n), (orbS l k n).extract i (i + 1) = ⟨#[letterN ((orbTo l k n)[i]'(by omega))]⟩ := by
    intro i hi
    apply bytes_ext
    rw [ByteArray.toList_eq, ByteArray.toList_eq]
    simp only [ByteArray.data_extract, orbS]
    simp
    rw [List.drop_eq_getElem_cons (by simpa [hlen] using hi)]
    simp
  have hmem : ∀ y ∈ orbTo l k n, y ≤ 3 := by
    intro y hy
    obtain ⟨i, _, e⟩ := (orbTo_mem l k y n).1 hy
    have := goN_lt hl hk i
    omega
  constructor
  · intro h
    obtain ⟨i, h1, h2⟩ := @of_decide_eq_true _ (Classical.propDecidable _) h
    rw [hs1, orbS_size] at h1
    rw [hs1, hat i (by omega)] at h2
    have h3 : letterN ((orbTo l k n)[i]'(by omega)) = letterN x := by
      injection h2 with h2
      simpa using h2
    have hm : (orbTo l k n)[i]'(by omega) ∈ orbTo l k n := List.getElem_mem _
    rw [← letterN_inj (hmem _ hm) hx h3]
    exact hm
  · intro h
    obtain ⟨i, hi, e⟩ := List.mem_iff_getElem.1 h
    refine hasR_yes (i := i) ⟨by rw [hs1, orbS_size]; omega, ?_⟩
    rw [hs1, hat i (by omega), e]
end Go.Proofs.Ytiikledbflgejaa

/- szIntSS: a bound on all that a slice of slices of ints holds. -/
namespace Go.Proofs.Ytiikledbflgejaa
open Go.ChangeShapes Go.WideShapes Go.RowKit

def lens (m : List (List Int)) : List Nat := m.map List.length
theorem lens_at (m : List (List Int)) (j : Nat) (h : j < m.length) (h' : j < (lens m).length) : (lens m)[j] = m[j].length := by simp [lens]
/-- what szIntSS says -/
def SzMat (m : List (List Int)) (left : Int) (w : World) (e : Ending) (w' : World) : Prop :=
  w = w' ∧ ∃ r : Int, e = .returned (.int .i64 r) ∧ -1 ≤ r ∧ r ≤ left ∧ (0 ≤ r → (m.length : Int) + sumN (lens m) + r = left)
theorem szI_neg {left : Int} {n : Nat} (h : left < n) : szI left n = -1 := if_pos h
theorem szI_pos {left : Int} {n : Nat} (h : ¬ left < n) : szI left n = left - n := if_neg h

/-- a slice of slices of ints that came in, opened -/
theorem mat_cell {H : Type} {enc : TypeId × Value → H} {P : Program} {w : World} {base fuel : Nat} {t e q : TypeId} {v : Value} {y : DataW H × List MemPlace} (ht : P.underlying t = some (.slice e)) (he : P.underlying e = some (.slice q)) (hq : P.underlying q = some (.int .i64)) (ce : P.cellsOf e = 1) (cq : P.cellsOf q = 1)
    (hf : DataW.trod enc P w base (fun _ => true) true fuel t [v] = some y) : ∃ m : List (List Int), Mat w v m ∧ (∀ r ∈ m, ∀ z ∈ r, (Lit.int .i64 z).wf = true) ∧ m.length ≤ 9223372036854775807 := by
  rcases Deep.open_int_rows ht he hq ce cq hf with ⟨hcs, _⟩ | ⟨a, len, cap, A, L, C, Z, hcs, _, hl, hm, _, hrow⟩
  · simp at hcs
    subst hcs
    exact ⟨[], ⟨[], ⟨none, 0, by simp, by simp, by simp [maxLen], .inl rfl⟩, rfl, fun i h => absurd h (by simp)⟩, by simp, by simp⟩
  · simp at hcs
    subst hcs
    have hml : ((List.range len).map fun r => (Z r).take (L r)).length = len := by simp
    refine ⟨(List.range len).map fun r => (Z r).take (L r), ⟨(List.range len).map fun r => Value.slice (A r) (L r) (C r), ?_, by simp, fun i h h' => ?_⟩, fun r hr z hz => ?_, by simp; unfold maxLen at hm; omega⟩
    · refine ⟨some a, cap, by simp, by simpa using hl, hm, ?_⟩
      by_cases h0 : len = 0
      · subst h0
        exact .inl (by simp)
      · obtain ⟨b, off, spot⟩ := a
        have h1 := (hrow 0 (by omega)).1
        have hspot : spot = none := by simpa [Addr.add] using World.cell?_spot h1
        subst hspot
        refine .inr ⟨b, off, rfl, fun i u hu => ?_⟩
        have hi : i < len := by
          have := (List.getElem?_eq_some_iff.1 hu).1
          simpa using this
        have h2 := (hrow i (by omega)).1
        rw [Addr.add_lit] at h2
        rw [h2]
        simp [hi] at hu
        rw [hu]
    · have hi : i < len := by simpa using h'
      obtain ⟨_, hLC, hCm, hZ, _, hAn, hcell⟩ := hrow i (by omega)
      simp only [List.getElem_map, List.getElem_range]
      refine ⟨A i, C i, by simp [ints, hZ, Nat.min_eq_left hLC], by simp [ints, hZ, Nat.min_eq_left hLC]; exact hLC, hCm, ?_⟩
      by_cases h0 : L i = 0
      · exact .inl (by simp [ints, h0])
      · rcases hA : A i with _ | ⟨b, off, spot⟩
        · have := hAn hA
          omega
        · have h1 := (hcell _ hA).2 0 (by omega)
          have hspot : spot = none := by simpa [Addr.add] using World.cell?_spot h1
          subst hspot
          refine .inr ⟨b, off, rfl, fun c u hu => ?_⟩
          have hc : c < L i := by
            have := (List.getElem?_eq_some_iff.1 hu).1
            simp [ints, hZ, Nat.min_eq_left hLC] at this
            omega
          have h2 := (hcell _ hA).2 c (by omega)
          rw [Addr.add_lit] at h2
          rw [h2]
          simp [ints, hc] at hu
          obtain ⟨x, hx, rfl⟩ := hu
          simp [List.getD, hx]
    · obtain ⟨i, hi, rfl⟩ := List.mem_map.1 hr
      have hi' : i < len := by simpa using hi
      exact (hrow i (by omega)).2.2.2.2.1 z (List.mem_of_mem_take hz)
end Go.Proofs.Ytiikledbflgejaa

/- The laws' own helpers on slices of strings: markText, markStringS, heldStringS, eqStringS, as contracts. Conditions: lengths as Go has them. -/
namespace Go.Proofs.Ytiikledbflgejaa
open Go.RowKit

/-- decimal digits, the last first laid; the fuel is above the number -/
def decF : Nat → Nat → List UInt8 → List UInt8
  | 0, _, out => out
  | f + 1, k, out => if k = 0 then out else decF f (k / 10) (UInt8.ofNat (48 + k % 10) :: out)
theorem decF_zero (f : Nat) (out : List UInt8) : decF f 0 out = out := by cases f <;> simp [decF]
def markL (k : Int) : List UInt8 := if k ≤ 0 then [109, 48] else 109 :: decF 20 k.toNat []
def markS (k : Int) : ByteArray := ⟨(markL k).toArray⟩

/-- the n marks from k on -/
def marks (k : Int) (n : Nat) : List ByteArray := (List.range n).map fun (i : Nat) => markS (k + (i : Int))
theorem marks_length (k : Int) (n : Nat) : (marks k n).length = n := by simp [marks]
theorem marks_at (k : Int) (n i : Nat) (h : i < n) : (marks k n)[i]'(by simpa [marks] using h) = markS (k + i) := by simp [marks]
theorem marks_succ (k : Int) (n : Nat) : strs (marks k (n + 1)) = strs (marks k n) ++ [.string (markS (k + n))] := by simp [marks, strs, List.range_succ]

end Go.Proofs.Ytiikledbflgejaa
