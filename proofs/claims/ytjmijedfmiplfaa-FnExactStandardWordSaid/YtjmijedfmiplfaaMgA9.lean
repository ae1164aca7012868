/- Texts put together. -/
import Derived.Test.YtjmijedfmiplfaaMgA8
import Derived.Deep.RegionHeld3
import Derived.Test.YtjmijedfmiplfaaMgA6
import Derived.Lib.OthersKept
import Derived.Test.YtjmijedfmiplfaaMgA3
import Derived.Test.YtjmijedfmiplfaaMgA7
/- Chapter 8 of the model: IsSquareFree, IsCubeFree, IsOverlapFree, LeastPeriod, LongestRun. Conditions: lengths of at most 2^20. -/
namespace Go.Proofs.Ytjmijedfmiplfaa
open Go.RowKit
theorem per_size (s : ByteArray) : PerAt s s.size := fun i h => absurd h (by omega)

end Go.Proofs.Ytjmijedfmiplfaa

/- Chapter 8 of the model: LeastPeriod, LongestRun. Conditions: lengths of at most 2^20. -/
namespace Go.Proofs.Ytjmijedfmiplfaa
open Go.RowKit Go.Lib

theorem word_low {s : ByteArray} (h : wordB s = true) (k : Nat) (hk : k < s.size) : (s[k]).toNat < 128 := by
  have hm := List.all_eq_true.1 (all_of_word h) s[k] (by rw [ByteArray.getElem_eq_getElem_data]; exact Array.getElem_mem_toList _)
  unfold isAbcd at hm
  simp only [Bool.and_eq_true, decide_eq_true_eq] at hm
  omega

theorem lr_yes {s : ByteArray} {k : Nat} (h0 : 0 < k) (h : s.data.toList[k]? = s.data.toList[k - 1]?) : lrTo s (k + 1) = (max (lrTo s k).1 ((lrTo s k).2 + 1), (lrTo s k).2 + 1) := by
  show (max (lrTo s k).1 (if 0 < k ∧ s.data.toList[k]? = s.data.toList[k - 1]? then (lrTo s k).2 + 1 else 1), if 0 < k ∧ s.data.toList[k]? = s.data.toList[k - 1]? then (lrTo s k).2 + 1 else 1) = _
  rw [if_pos ⟨h0, h⟩]
theorem lr_no {s : ByteArray} {k : Nat} (h : ¬ (0 < k ∧ s.data.toList[k]? = s.data.toList[k - 1]?)) : lrTo s (k + 1) = (max (lrTo s k).1 1, 1) := by
  show (max (lrTo s k).1 (if 0 < k ∧ s.data.toList[k]? = s.data.toList[k - 1]? then (lrTo s k).2 + 1 else 1), if 0 < k ∧ s.data.toList[k]? = s.data.toList[k - 1]? then (lrTo s k).2 + 1 else 1) = _
  rw [if_neg h]
theorem lr_le (s : ByteArray) : ∀ k, (lrTo s k).1 ≤ k ∧ (lrTo s k).2 ≤ k
  | 0 => ⟨Nat.le_refl _, Nat.le_refl _⟩
  | k + 1 => by
    have ih := lr_le s k
    by_cases h : 0 < k ∧ s.data.toList[k]? = s.data.toList[k - 1]?
    · rw [lr_yes h.1 h.2]
      exact ⟨by show max _ _ ≤ _; omega, by show (lrTo s k).2 + 1 ≤ _; omega⟩
    · rw [lr_no h]
      exact ⟨by show max _ _ ≤ _; omega, by show 1 ≤ _; omega⟩
theorem int_val {a b : Int} (h : a = b) : Value.int .i64 a = Value.int .i64 b := by rw [h]
theorem iterPos_at {w : World} {B k : Nat} {s : ByteArray} (h : w.heap[B]? = some (.stringIter s k)) : w.iterPos B = k := by
  simp [World.iterPos, h]

end Go.Proofs.Ytjmijedfmiplfaa

/- IsFactor and PlacesIn of the model. Condition: texts of at most 2^20 bytes. -/
namespace Go.Proofs.Ytjmijedfmiplfaa
open Go.RowKit

theorem slice_at {P : Program} {t : TypeId} (ht : P.underlying t = some .string) (s : ByteArray) (k n : Nat) (w : World) (h : k + n ≤ s.size) :
    (Instr.slice t (.string s) (some (.int .i64 (k : Int))) (some (.int .i64 ((k : Int) + (n : Int)))) none).run P w = .ok (.string (s.extract k (k + n))) w := by
  rw [run_slice_string (P := P) w t s .i64 .i64 (k : Int) ((k : Int) + (n : Int)) ht (by omega) (by omega) (by omega)]
  rw [show ((k : Int) + (n : Int)).toNat = k + n from by omega, Int.toNat_natCast]

/-- f begins at i in s -/
def At (s f : ByteArray) (i : Nat) : Prop := i + f.size ≤ s.size ∧ s.extract i (i + f.size) = f
noncomputable def hasR (s f : ByteArray) : Bool := @decide (∃ i, At s f i) (Classical.propDecidable _)
theorem hasR_yes {s f : ByteArray} {i : Nat} (h : At s f i) : hasR s f = true := by
  unfold hasR
  exact @decide_eq_true _ (Classical.propDecidable _) ⟨i, h⟩
theorem hasR_no {s f : ByteArray} {k : Nat} (h : ∀ i, i < k → ¬ At s f i) (hk : ¬ k + f.size ≤ s.size) : hasR s f = false := by
  unfold hasR
  rw [decide_eq_false_iff_not]
  rintro ⟨i, hi⟩
  rcases Nat.lt_or_ge i k with hlt | hge
  · exact h i hlt hi
  · exact hk (by have := hi.1; omega)

/-- what IsFactor is to return -/
noncomputable def factR (s f : ByteArray) : Bool := wordB s && (wordB f && hasR s f)
open Classical in
/-- the places below k at which f begins -/
noncomputable def placesTo (s f : ByteArray) : Nat → List Int
  | 0 => []
  | k + 1 => if At s f k then placesTo s f k ++ [(k : Int)] else placesTo s f k
theorem placesTo_le (s f : ByteArray) : ∀ k, (placesTo s f k).length ≤ k
  | 0 => by simp [placesTo]
  | k + 1 => by
    have := placesTo_le s f k
    unfold placesTo
    split
    · simp; omega
    · omega
open Classical in
/-- what PlacesIn is to return -/
noncomputable def placesR (s f : ByteArray) : List Int := if wordB s = true ∧ wordB f = true ∧ f.size ≠ 0 then placesTo s f (s.size + 1) else []
theorem placesR_le (s f : ByteArray) : (placesR s f).length ≤ s.size + 1 := by
  unfold placesR; split
  · exact placesTo_le s f _
  · simp
theorem placesTo_more {s f : ByteArray} (k : Nat) (hk : ¬ k + f.size ≤ s.size) : ∀ n, placesTo s f (k + n) = placesTo s f k
  | 0 => rfl
  | n + 1 => by
    show placesTo s f ((k + n) + 1) = _
    rw [placesTo, if_neg (fun h => hk (by have := h.1; omega)), placesTo_more k hk n]

end Go.Proofs.Ytjmijedfmiplfaa

/- Borders, periods, roots, Lyndon words: what chapter 10 is to return. No program in it. -/
namespace Go.Proofs.Ytjmijedfmiplfaa
open Go.RowKit

/-! ### borders and periods -/
def BorAt (s : ByteArray) (n : Nat) : Prop := s.extract 0 n = s.extract (s.size - n) s.size
noncomputable def borB (s : ByteArray) (n : Nat) : Bool := @decide (BorAt s n) (Classical.propDecidable _)
theorem borB_iff (s : ByteArray) (n : Nat) : borB s n = true ↔ BorAt s n := by unfold borB; simp
/-- those of 1 to k letters -/
noncomputable def boTo (s : ByteArray) : Nat → List Int
  | 0 => []
  | k + 1 => if borB s (k + 1) = true then boTo s k ++ [((k + 1 : Nat) : Int)] else boTo s k
/-- what BordersOf is to return -/
noncomputable def boR (s : ByteArray) : List Int := if wordB s = true then boTo s (s.size - 1) else []
theorem boTo_yes {s : ByteArray} {k : Nat} (h : borB s (k + 1) = true) : boTo s (k + 1) = boTo s k ++ [((k + 1 : Nat) : Int)] := if_pos h
theorem boTo_no {s : ByteArray} {k : Nat} (h : borB s (k + 1) = false) : boTo s (k + 1) = boTo s k := if_neg (by rw [h]; decide)
theorem boTo_len (s : ByteArray) : ∀ k, (boTo s k).length ≤ k
  | 0 => Nat.le_refl _
  | k + 1 => by
    have ih := boTo_len s k
    unfold boTo
    split
    · rw [List.length_append]; show _ + 1 ≤ _; omega
    · omega
theorem boTo_mem (s : ByteArray) (x : Int) : ∀ k, x ∈ boTo s k ↔ ∃ n : Nat, x = n ∧ 1 ≤ n ∧ n ≤ k ∧ BorAt s n
  | 0 => by
    constructor
    · intro h; cases h
    · rintro ⟨n, _, h1, h2, _⟩; omega
  | k + 1 => by
    have ih := boTo_mem s x k
    cases hb : borB s (k + 1)
    · rw [boTo_no hb, ih]
      constructor
      · rintro ⟨n, a, b, c, d⟩; exact ⟨n, a, b, by omega, d⟩
      · rintro ⟨n, a, b, c, d⟩
        by_cases hk : n = k + 1
        · subst hk
          rw [(borB_iff _ _).2 d] at hb
          cases hb
        · exact ⟨n, a, b, by omega, d⟩
    · rw [boTo_yes hb, List.mem_append, ih, List.mem_singleton]
      constructor
      · rintro (⟨n, a, b, c, d⟩ | e)
        · exact ⟨n, a, b, by omega, d⟩
        · exact ⟨k + 1, e, by omega, by omega, (borB_iff _ _).1 hb⟩
      · rintro ⟨n, a, b, c, d⟩
        by_cases hk : n = k + 1
        · subst hk; exact .inr a
        · exact .inl ⟨n, a, b, by omega, d⟩
theorem boR_le (s : ByteArray) : (boR s).length ≤ 400 := by
  unfold boR
  split
  · rename_i h
    have := boTo_len s (s.size - 1)
    have := word_size h
    omega
  · simp
noncomputable def perB (s : ByteArray) (p : Nat) : Bool := @decide (PerAt s p) (Classical.propDecidable _)
theorem perB_iff (s : ByteArray) (p : Nat) : perB s p = true ↔ PerAt s p := by unfold perB; simp
noncomputable def peTo (s : ByteArray) : Nat → List Int
  | 0 => []
  | k + 1 => if perB s (k + 1) = true then peTo s k ++ [((k + 1 : Nat) : Int)] else peTo s k
/-- what PeriodsOf is to return -/
noncomputable def peR (s : ByteArray) : List Int := if wordB s = true then peTo s s.size else []
theorem peTo_yes {s : ByteArray} {k : Nat} (h : perB s (k + 1) = true) : peTo s (k + 1) = peTo s k ++ [((k + 1 : Nat) : Int)] := if_pos h
theorem peTo_no {s : ByteArray} {k : Nat} (h : perB s (k + 1) = false) : peTo s (k + 1) = peTo s k := if_neg (by rw [h]; decide)
theorem peTo_len (s : ByteArray) : ∀ k, (peTo s k).length ≤ k
  | 0 => Nat.le_refl _
  | k + 1 => by
    have ih := peTo_len s k
    unfold peTo
    split
    · rw [List.length_append]; show _ + 1 ≤ _; omega
    · omega
theorem peR_le (s : ByteArray) : (peR s).length ≤ 400 := by
  unfold peR
  split
  · rename_i h
    have := peTo_len s s.size
    have := word_size h
    omega
  · simp
/-- w[:len-p] == w[p:] -/
theorem per_cut {s : ByteArray} {p : Nat} (hp : p ≤ s.size) : s.extract 0 (s.size - p) = s.extract p s.size ↔ PerAt s p := by
  have hl : s.data.toList.length = s.size := by simp
  have a1 : (s.extract 0 (s.size - p)).data.toList = s.data.toList.take (s.size - p) := by
    rw [ByteArray.data_extract, Array.toList_extract, List.extract_eq_take_drop, List.drop_zero, Nat.sub_zero]
  have a2 : (s.extract p s.size).data.toList = s.data.toList.drop p := by
    rw [ByteArray.data_extract, Array.toList_extract, List.extract_eq_take_drop, List.take_of_length_le (by rw [List.length_drop, hl]; omega)]
  unfold PerAt
  constructor
  · intro h i hi
    have := congrArg (fun x : ByteArray => x.data.toList[i]?) h
    simp only [a1, a2] at this
    rw [List.getElem?_take, if_pos (by omega), List.getElem?_drop] at this
    rw [this]
    congr 1
    omega
  · intro h
    apply bytes_ext
    rw [ByteArray.toList_eq, ByteArray.toList_eq, a1, a2]
    apply List.ext_getElem?
    intro i
    rw [List.getElem?_take, List.getElem?_drop]
    by_cases hi : i < s.size - p
    · rw [if_pos hi, h i (by omega)]
      congr 1
      omega
    · rw [if_neg hi, List.getElem?_eq_none (by rw [hl]; omega)]

/-! ### the root -/
def RootAt (s : ByteArray) (p : Nat) : Prop := s.size % p = 0 ∧ PerAt s p
/-- the length of the root of a word that is not empty -/
noncomputable def rtN (s : ByteArray) : Nat := firstP (RootAt s) 1 (s.size - 1)
noncomputable def rtOk (s : ByteArray) : Bool := wordB s && decide (1 ≤ s.size)
/-- what RootOf is to return -/
noncomputable def rtR (s : ByteArray) : ByteArray := if rtOk s = true then s.extract 0 (rtN s) else ⟨#[]⟩
noncomputable def rtK (s : ByteArray) : Int := if rtOk s = true then ((s.size / rtN s : Nat) : Int) else 0
noncomputable def prmR (s : ByteArray) : Bool := rtK s == 1

/-! ### shifts -/
def rotS (s : ByteArray) (k : Nat) : ByteArray := s.extract k s.size ++ s.extract 0 k
/-- the least of the first k shifts -/
def lsTo (s : ByteArray) : Nat → Nat
  | 0 => 0
  | k + 1 => if lessB (rotS s k) (rotS s (lsTo s k)) = true then k else lsTo s k
/-- what LeastShift is to return -/
def lsR (s : ByteArray) : Int := if (wordB s && decide (1 ≤ s.size)) = true then (lsTo s s.size : Int) else -1
theorem lsTo_lt (s : ByteArray) : ∀ k, lsTo s k ≤ k
  | 0 => Nat.le_refl _
  | k + 1 => by
    have := lsTo_lt s k
    unfold lsTo
    split <;> omega

/-! ### Lyndon words -/
def LynAt (s : ByteArray) : Prop := 1 ≤ s.size ∧ ∀ k, 1 ≤ k → k < s.size → lessB s (rotS s k) = true
noncomputable def lyB (s : ByteArray) : Bool := @decide (LynAt s) (Classical.propDecidable _)
theorem lyB_iff (s : ByteArray) : lyB s = true ↔ LynAt s := by unfold lyB; simp
/-- what IsLyndon is to return -/
noncomputable def lyR (s : ByteArray) : Bool := wordB s && lyB s
/-- the length of the longest Lyndon word that begins at i, of at most n letters -/
noncomputable def lyLen (s : ByteArray) (i : Nat) : Nat → Nat
  | 0 => 0
  | n + 1 => if lyB (s.extract i (i + (n + 1))) = true then n + 1 else lyLen s i n
theorem lyLen_le (s : ByteArray) (i : Nat) : ∀ n, lyLen s i n ≤ n
  | 0 => Nat.le_refl _
  | n + 1 => by
    have := lyLen_le s i n
    unfold lyLen
    split <;> omega
/-- the parts from i on, f at most -/
noncomputable def lyTo (s : ByteArray) : Nat → Nat → List ByteArray
  | _, 0 => []
  | i, f + 1 => if i < s.size then s.extract i (i + lyLen s i (s.size - i)) :: lyTo s (i + lyLen s i (s.size - i)) f else []
/-- what LyndonParts is to return -/
noncomputable def lyP (s : ByteArray) : List ByteArray := if wordB s = true then lyTo s 0 s.size else []
/-- what AreConjugate is to return -/
noncomputable def cjR (s t : ByteArray) : Bool := wordB s && (wordB t && (decide (s.size = t.size) && hasR (s ++ s) t))

/-! ### periods of a word that two periods give -/
noncomputable def afR (s : ByteArray) (p q : Int) : Bool :=
  wordB s && ((decide (1 ≤ p) && decide (p ≤ s.size)) && ((decide (1 ≤ q) && decide (q ≤ s.size)) && ((perB s p.toNat && perB s q.toNat) && (decide ((s.size : Int) < p + q - (Nat.gcd p.toNat q.toNat : Int)) || perB s (Nat.gcd p.toNat q.toNat)))))
end Go.Proofs.Ytjmijedfmiplfaa
