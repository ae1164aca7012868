/- Texts put together. -/
import Derived.Test.YthckpgfhldocdaaMgp16
import Derived.Test.YthckpgfhldocdaaMgp14
import Derived.Test.YthckpgfhldocdaaMgp15
import Derived.Test.YthckpgfhldocdaaMgp4
import Derived.Test.YthckpgfhldocdaaMgp6
import Derived.Test.YthckpgfhldocdaaMgp10
import Derived.Test.YthckpgfhldocdaaMgp8
import Derived.Test.YthckpgfhldocdaaMgp9
import Derived.Laws.Cover1
/- NamedSubst of the model. No condition. -/
namespace Go.Proofs.Ythckpgfhldocdaa
open Go.RowKit

/-- SplitAny, reckoned -/
def splitC (s y : ByteArray) : Nat → List ByteArray × Nat
  | 0 => ([], 0)
  | k + 1 => if h : k < s.size then (if y.data.toList.contains s[k] then ((splitC s y k).1 ++ [s.extract (splitC s y k).2 k], k + 1) else splitC s y k) else splitC s y k
theorem isSep_iff (y : ByteArray) (c : UInt8) : isSep y c ↔ y.data.toList.contains c = true := by
  rw [List.contains_iff_mem]
  constructor
  · rintro ⟨i, h, rfl⟩
    have : y[i] = y.data.toList[i]'(by simpa using h) := rfl
    rw [this]; exact List.getElem_mem _
  · intro h
    obtain ⟨i, hi, e⟩ := List.mem_iff_getElem.1 h
    exact ⟨i, by simpa using hi, e⟩
theorem splitC_eq (s y : ByteArray) : ∀ k, splitTo s y k = splitC s y k
  | 0 => rfl
  | k + 1 => by
    have ih := splitC_eq s y k
    rw [splitC]
    by_cases h : k < s.size
    · rw [dif_pos h]
      by_cases hs : isSep y s[k]
      · rw [splitTo_yes h hs, ih, if_pos ((isSep_iff _ _).1 hs)]
      · rw [splitTo_no h hs, ih, if_neg (fun h' => hs ((isSep_iff _ _).2 h'))]
    · rw [dif_neg h, splitTo, if_neg (fun ⟨h', _⟩ => h h'), ih]
theorem splitL_eq (s y : ByteArray) : splitL s y = (splitC s y s.size).1 ++ [s.extract (splitC s y s.size).2 s.size] := by
  unfold splitL
  rw [splitC_eq]
theorem parse_at {t : ByteArray} {l : List ByteArray} (h : (splitC t ⟨#[44]⟩ t.size).1 ++ [t.extract (splitC t ⟨#[44]⟩ t.size).2 t.size] = l) (h1 : t.size ≤ 40) (h2 : substB l = true) (h3 : fmtR l = t) : parseOk t = true ∧ parseSub t = l := by
  have e : splitL t ⟨#[44]⟩ = l := (splitL_eq _ _).trans h
  have a : parseOk t = true := by
    unfold parseOk
    rw [e, h2, decide_eq_true h1, decide_eq_true h3]
    rfl
  exact ⟨a, (if_pos a).trans e⟩
theorem parse_fibonacci : parseOk ⟨#[97, 98, 44, 97]⟩ = true ∧ parseSub ⟨#[97, 98, 44, 97]⟩ = [⟨#[97, 98]⟩, ⟨#[97]⟩] := parse_at (by kernel_rfl) (by decide) (by kernel_rfl) (by kernel_rfl)
theorem parse_thue : parseOk ⟨#[97, 98, 44, 98, 97]⟩ = true ∧ parseSub ⟨#[97, 98, 44, 98, 97]⟩ = [⟨#[97, 98]⟩, ⟨#[98, 97]⟩] := parse_at (by kernel_rfl) (by decide) (by kernel_rfl) (by kernel_rfl)
theorem parse_doubling : parseOk ⟨#[97, 98, 44, 97, 97]⟩ = true ∧ parseSub ⟨#[97, 98, 44, 97, 97]⟩ = [⟨#[97, 98]⟩, ⟨#[97, 97]⟩] := parse_at (by kernel_rfl) (by decide) (by kernel_rfl) (by kernel_rfl)
theorem parse_tribonacci : parseOk ⟨#[97, 98, 44, 97, 99, 44, 97]⟩ = true ∧ parseSub ⟨#[97, 98, 44, 97, 99, 44, 97]⟩ = [⟨#[97, 98]⟩, ⟨#[97, 99]⟩, ⟨#[97]⟩] := parse_at (by kernel_rfl) (by decide) (by kernel_rfl) (by kernel_rfl)
theorem parse_silver : parseOk ⟨#[97, 97, 98, 44, 97]⟩ = true ∧ parseSub ⟨#[97, 97, 98, 44, 97]⟩ = [⟨#[97, 97, 98]⟩, ⟨#[97]⟩] := parse_at (by kernel_rfl) (by decide) (by kernel_rfl) (by kernel_rfl)
theorem parse_squarefree : parseOk ⟨#[97, 98, 99, 44, 97, 99, 44, 98]⟩ = true ∧ parseSub ⟨#[97, 98, 99, 44, 97, 99, 44, 98]⟩ = [⟨#[97, 98, 99]⟩, ⟨#[97, 99]⟩, ⟨#[98]⟩] := parse_at (by kernel_rfl) (by decide) (by kernel_rfl) (by kernel_rfl)
theorem parse_rudin : parseOk ⟨#[97, 98, 44, 97, 99, 44, 100, 98, 44, 100, 99]⟩ = true ∧ parseSub ⟨#[97, 98, 44, 97, 99, 44, 100, 98, 44, 100, 99]⟩ = [⟨#[97, 98]⟩, ⟨#[97, 99]⟩, ⟨#[100, 98]⟩, ⟨#[100, 99]⟩] := parse_at (by kernel_rfl) (by decide) (by kernel_rfl) (by kernel_rfl)
/-- what NamedSubst is to return -/
def namedL (t : ByteArray) : List ByteArray :=
  if t = ⟨#[102, 105, 98, 111, 110, 97, 99, 99, 105]⟩ then [⟨#[97, 98]⟩, ⟨#[97]⟩]
  else if t = ⟨#[116, 104, 117, 101]⟩ then [⟨#[97, 98]⟩, ⟨#[98, 97]⟩]
  else if t = ⟨#[100, 111, 117, 98, 108, 105, 110, 103]⟩ then [⟨#[97, 98]⟩, ⟨#[97, 97]⟩]
  else if t = ⟨#[116, 114, 105, 98, 111, 110, 97, 99, 99, 105]⟩ then [⟨#[97, 98]⟩, ⟨#[97, 99]⟩, ⟨#[97]⟩]
  else if t = ⟨#[115, 105, 108, 118, 101, 114]⟩ then [⟨#[97, 97, 98]⟩, ⟨#[97]⟩]
  else if t = ⟨#[115, 113, 117, 97, 114, 101, 102, 114, 101, 101]⟩ then [⟨#[97, 98, 99]⟩, ⟨#[97, 99]⟩, ⟨#[98]⟩]
  else if t = ⟨#[114, 117, 100, 105, 110]⟩ then [⟨#[97, 98]⟩, ⟨#[97, 99]⟩, ⟨#[100, 98]⟩, ⟨#[100, 99]⟩]
  else []
def namedOk (t : ByteArray) : Bool := decide (namedL t ≠ [])
theorem namedL_le (t : ByteArray) : (namedL t).length ≤ 4 := by
  unfold namedL
  repeat' split
  all_goals decide
theorem eq_toList (t : ByteArray) (l : List UInt8) : (t.toList = l) ↔ t = ⟨l.toArray⟩ := by
  constructor
  · intro h
    apply bytes_ext
    rw [h, ByteArray.toList_eq]
  · intro h
    rw [h, ByteArray.toList_eq]

end Go.Proofs.Ythckpgfhldocdaa

/- The mathematics of FnPowers, third part: beginnings of two named fixed points. No program in it. -/
namespace Go.Proofs.Ythckpgfhldocdaa
open Go.RowKit

def thueT : ByteArray := ⟨#[116, 104, 117, 101]⟩
def sqfT : ByteArray := ⟨#[115, 113, 117, 97, 114, 101, 102, 114, 101, 101]⟩
theorem thue_named : namedL thueT = [⟨#[97, 98]⟩, ⟨#[98, 97]⟩] := by decide
theorem sqf_named : namedL sqfT = [⟨#[97, 98, 99]⟩, ⟨#[97, 99]⟩, ⟨#[98]⟩] := by decide
theorem thue_ok : namedOk thueT = true := by decide
theorem sqf_ok : namedOk sqfT = true := by decide
theorem thue_sub : substB (namedL thueT) = true := by rw [thue_named]; decide
theorem sqf_sub : substB (namedL sqfT) = true := by rw [sqf_named]; decide
theorem thue_grow : growB (namedL thueT) 0 = true := by rw [thue_named]; decide
theorem sqf_grow : growB (namedL sqfT) 0 = true := by rw [sqf_named]; decide

def thue60 : List UInt8 := (iterL [⟨#[97, 98]⟩, ⟨#[98, 97]⟩] [letterN 0] 6).take 60
def sqf60 : List UInt8 := (iterL [⟨#[97, 98, 99]⟩, ⟨#[97, 99]⟩, ⟨#[98]⟩] [letterN 0] 6).take 60
theorem thue60_eq : fixL (namedL thueT) 0 60 = thue60 := by
  rw [← pre_take thue_sub (subst_parts thue_sub).1 thue_grow (p := iterL (namedL thueT) [letterN 0] 6) ⟨6, List.prefix_refl _⟩ 60 (by rw [thue_named]; decide +kernel), thue_named]
  rfl
theorem sqf60_eq : fixL (namedL sqfT) 0 60 = sqf60 := by
  rw [← pre_take sqf_sub (subst_parts sqf_sub).1 sqf_grow (p := iterL (namedL sqfT) [letterN 0] 6) ⟨6, List.prefix_refl _⟩ 60 (by rw [sqf_named]; decide +kernel), sqf_named]
  rfl
theorem thue60_no : repC thue60 1 1 = false := by decide +kernel
theorem sqf60_no : repC sqf60 1 0 = false := by decide +kernel
theorem thue60_word : wordB (fxS (namedL thueT) 60) = true := by
  unfold fxS; rw [thue60_eq]; decide +kernel
theorem sqf60_word : wordB (fxS (namedL sqfT) 60) = true := by
  unfold fxS; rw [sqf60_eq]; decide +kernel
theorem thue60_free : freeR (fxS (namedL thueT) 60) 1 1 = true := by
  unfold freeR
  rw [thue60_word, repC_eq _ _ _ (by omega), fxS_list, thue60_eq, thue60_no]; rfl
theorem sqf60_free : freeR (fxS (namedL sqfT) 60) 1 0 = true := by
  unfold freeR
  rw [sqf60_word, repC_eq _ _ _ (by omega), fxS_list, sqf60_eq, sqf60_no]; rfl
theorem wordB_pre {s x : ByteArray} (h : s.data.toList <+: x.data.toList) (hw : wordB x = true) : wordB s = true := by
  have hz : s.size ≤ x.size := by have := h.length_le; simpa using this
  unfold wordB at hw ⊢
  rw [Bool.and_eq_true, decide_eq_true_eq, List.all_eq_true] at hw
  rw [Bool.and_eq_true, decide_eq_true_eq, List.all_eq_true]
  exact ⟨by omega, fun c hc => hw.2 c (h.subset hc)⟩
theorem thue_free {m : Nat} (h : m ≤ 60) : freeR (fxS (namedL thueT) m) 1 1 = true := by
  have hp := top_start thue_sub thue_grow h
  exact free_pre hp (wordB_pre hp thue60_word) thue60_free
theorem sqf_free {m : Nat} (h : m ≤ 60) : freeR (fxS (namedL sqfT) m) 1 0 = true := by
  have hp := top_start sqf_sub sqf_grow h
  exact free_pre hp (wordB_pre hp sqf60_word) sqf60_free

end Go.Proofs.Ythckpgfhldocdaa

/- Factors of a word: what chapter 7 is to return. No program in it. -/
namespace Go.Proofs.Ythckpgfhldocdaa
open Go.RowKit

/-- the factors of n letters, ascending -/
def fctL (s : ByteArray) (n : Nat) : List ByteArray := facTo s n (s.size + 1 - n)
def fctOk (s : ByteArray) (n : Int) : Bool := wordB s && (decide (1 ≤ n) && decide (n ≤ 400))
def fctR (s : ByteArray) (n : Int) : List ByteArray := if fctOk s n = true then fctL s n.toNat else []
def cpxR (s : ByteArray) (n : Int) : Int := if fctOk s n = true then ((fctL s n.toNat).length : Int) else -1
def allTo (s : ByteArray) : Nat → Nat
  | 0 => 0
  | k + 1 => allTo s k + (fctL s (k + 1)).length
def allOk (s : ByteArray) : Bool := wordB s && decide (s.size ≤ 60)
def allR (s : ByteArray) : Int := if allOk s = true then (allTo s s.size : Int) else -1
/-- the factor and a letter behind it or ahead of it -/
def exL (f : ByteArray) (before : Bool) (k : Nat) : ByteArray := if before = true then ⟨#[letterN k]⟩ ++ f else f ++ ⟨#[letterN k]⟩
/-- the letters behind or ahead of a factor -/
noncomputable def nxtS (s f : ByteArray) (before : Bool) : ByteArray := ⟨(outTo (fun k => hasR s (exL f before k)) 4).toArray⟩
noncomputable def nxtR (s f : ByteArray) (before : Bool) : ByteArray := if (wordB s && wordB f) = true then nxtS s f before else ⟨#[]⟩
noncomputable def spcL (s : ByteArray) (n : Nat) (before : Bool) : List ByteArray := (fctL s n).filter fun f => decide (1 < (nxtS s f before).size)
noncomputable def spcR (s : ByteArray) (n : Int) (before : Bool) : List ByteArray := if fctOk s n = true then spcL s n.toNat before else []
/-- the index of a string in a list, or -1 -/
def atN (l : List ByteArray) (x : ByteArray) : Nat := l.findIdx fun y => x.toList == y.toList
def atR (l : List ByteArray) (x : ByteArray) : Int := if atN l x < l.length then (atN l x : Int) else -1
def edgeL (s : ByteArray) (n : Nat) : List (List Int) := (fctL s (n + 1)).map fun f => [atR (fctL s n) (f.extract 0 n), atR (fctL s n) (f.extract 1 f.size)]
def grfR (s : ByteArray) (n : Int) : List (List Int) := if fctOk s n = true then edgeL s n.toNat else []
end Go.Proofs.Ythckpgfhldocdaa

/- flip and in, of the laws. Conditions: lengths of at most 2^20. -/
namespace Go.Proofs.Ythckpgfhldocdaa
open Go.RowKit

def flipS (s : ByteArray) : ByteArray := ⟨s.data.toList.reverse.toArray⟩
/-- the last i letters, the last one first -/
theorem rev_snoc (l : List UInt8) (i : Nat) (h : i < l.length) : l.reverse.take (i + 1) = l.reverse.take i ++ [l[l.length - 1 - i]'(by omega)] := by
  rw [List.take_succ_eq_append_getElem (by simpa using h), List.getElem_reverse]

def inB (l : List ByteArray) (x : ByteArray) : Bool := l.any fun y => x.toList == y.toList
theorem inB_iff (l : List ByteArray) (x : ByteArray) : inB l x = true ↔ x ∈ l := by
  unfold inB
  rw [List.any_eq_true]
  constructor
  · rintro ⟨y, hy, e⟩
    rw [bytes_ext (eq_of_beq e)]
    exact hy
  · exact fun h => ⟨x, h, by simp⟩
end Go.Proofs.Ythckpgfhldocdaa
