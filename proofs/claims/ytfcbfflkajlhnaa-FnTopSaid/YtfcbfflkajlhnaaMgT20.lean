/- Texts put together. -/
import Derived.Test.YtfcbfflkajlhnaaMgT17
import Derived.Test.YtfcbfflkajlhnaaMgT1
import Derived.Test.YtfcbfflkajlhnaaMgT9
import Derived.Lib.Strings
/- What the lines of a text are. No program in it. -/
namespace Go.Proofs.Ytfcbfflkajlhnaa
open Go.RowKit

def nl : ByteArray := ⟨#[10]⟩
theorem splitL_pos (s y : ByteArray) : 0 < (splitL s y).length := by unfold splitL; simp
/-- the lines: without the last part if it is empty -/
noncomputable def linesL (s : ByteArray) : List ByteArray :=
  if (s.extract (splitTo s nl s.size).2 s.size).toList = [] then (splitTo s nl s.size).1 else splitL s nl
theorem linesL_le (s : ByteArray) : (linesL s).length ≤ s.size + 1 := by
  have := splitTo_le s nl s.size
  unfold linesL splitL
  split
  · omega
  · simp; omega
/-- what a slice's beginning owns -/
theorem own_init {w : World} {B : Nat} {e : TypeId} {g cap : Nat} {n : Nat} {xs ys : List Value} (h : w.ownsRow B e 1 (.slice (some ⟨g, 0, none⟩) n cap) n (xs ++ ys)) (m : Nat) (hm : xs.length = m) (hmn : m ≤ n) :
    w.ownsRow B e 1 (.slice (some ⟨g, 0, none⟩) m cap) m xs := by
  refine ⟨by omega, .inr ?_⟩
  rcases h.2 with ⟨h', _⟩ | ⟨g', cap', cur, h', hb, hg, hnc, hcm, hcs, htake⟩
  · simp at h'
  · simp only [Value.slice.injEq, Option.some.injEq, Addr.mk.injEq, and_true, true_and] at h'
    obtain ⟨rfl, rfl⟩ := h'
    refine ⟨g, cap, cur, rfl, hb, hg, by omega, hcm, hcs, ?_⟩
    have : (cur.toList.take (n * 1)).take (m * 1) = (xs ++ ys).take (m * 1) := by rw [htake]
    rw [List.take_take, Nat.min_eq_left (by omega), Nat.mul_one, List.take_left' hm] at this
    rw [Nat.mul_one]
    exact this
end Go.Proofs.Ytfcbfflkajlhnaa

/- What a name is. No program in it. -/
namespace Go.Proofs.Ytfcbfflkajlhnaa
open Go.RowKit

def nameB (i : Nat) (c : UInt8) : Bool := isLowB c || (decide (0 < i) && isDigB c)
def NameTo (s : ByteArray) (k : Nat) : Prop := ∀ i (h : i < s.size), i < k → nameB i s[i] = true
noncomputable def nameOk (s : ByteArray) : Bool := @decide (1 ≤ s.size ∧ s.size ≤ 8 ∧ NameTo s s.size) (Classical.propDecidable _)
theorem nameTo_zero (s : ByteArray) : NameTo s 0 := fun _ _ h => absurd h (by omega)
theorem nameTo_succ {s : ByteArray} {k : Nat} (h : NameTo s k) (hk : k < s.size) (hb : nameB k s[k] = true) : NameTo s (k + 1) := by
  intro i hi hlt
  by_cases e : i = k
  · subst e; exact hb
  · exact h i hi (by omega)
theorem nameOk_no {s : ByteArray} {k : Nat} (hk : k < s.size) (hb : nameB k s[k] = false) : nameOk s = false := by
  unfold nameOk
  rw [decide_eq_false_iff_not]
  rintro ⟨_, _, h⟩
  rw [h k hk hk] at hb
  cases hb
theorem nameOk_len {s : ByteArray} (h : s.size < 1 ∨ 8 < s.size) : nameOk s = false := by
  unfold nameOk
  rw [decide_eq_false_iff_not]
  rintro ⟨_, _, _⟩
  omega
theorem nameOk_yes {s : ByteArray} (h : NameTo s s.size) : nameOk s = (decide (1 ≤ s.size) && decide (s.size ≤ 8)) := by
  unfold nameOk
  rw [Bool.eq_iff_iff]
  simp [h]
end Go.Proofs.Ytfcbfflkajlhnaa

/- What is split at one byte and joined with it is the text again. No program in it. -/
namespace Go.Proofs.Ytfcbfflkajlhnaa
open Go.RowKit

theorem tail_snoc (sep : List UInt8) (r : List (List UInt8)) (y : List UInt8) : Lib.joinTail sep (r ++ [y]) = Lib.joinTail sep r ++ sep ++ y := by
  simp [Lib.joinTail, List.append_assoc]
theorem join_more (sep : List UInt8) (ps : List (List UInt8)) (x c : List UInt8) : Lib.join (ps ++ [x ++ c]) sep = Lib.join (ps ++ [x]) sep ++ c := by
  cases ps with
  | nil => rw [List.nil_append, List.nil_append, Lib.join_one, Lib.join_one]
  | cons p r => rw [List.cons_append, List.cons_append, Lib.join_cons, Lib.join_cons, tail_snoc, tail_snoc]; simp only [List.append_assoc]
theorem join_last (sep : List UInt8) (ps : List (List UInt8)) (x : List UInt8) : Lib.join ((ps ++ [x]) ++ [[]]) sep = Lib.join (ps ++ [x]) sep ++ sep := by
  cases ps with
  | nil =>
    show Lib.join (x :: [[]]) sep = Lib.join [x] sep ++ sep
    rw [Lib.join_cons, Lib.join_one]
    simp [Lib.joinTail]
  | cons p r => rw [List.cons_append, List.cons_append, Lib.join_cons, Lib.join_cons, tail_snoc sep (r ++ [x])]; simp only [List.append_assoc, List.append_nil]
theorem isSep_one (b c : UInt8) : isSep ⟨#[b]⟩ c ↔ c = b := by
  constructor
  · rintro ⟨i, h, e⟩
    have hi : i = 0 := by
      have h' : i < 1 := h
      omega
    subst hi
    exact e.symm
  · rintro rfl
    exact ⟨0, by show 0 < 1; omega, rfl⟩
theorem ext_same (s : ByteArray) (k : Nat) : (s.extract k k).data.toList = [] := by rw [Lib.extract_data]; simp
theorem ext_succ (s : ByteArray) (f k : Nat) (hf : f ≤ k) (hk : k < s.size) : (s.extract f (k + 1)).data.toList = (s.extract f k).data.toList ++ [s[k]] := by
  have hd : k - f < (s.data.toList.drop f).length := by
    rw [List.length_drop]
    have e : s.data.toList.length = s.size := by simp
    omega
  rw [Lib.extract_data, Lib.extract_data, show k + 1 - f = (k - f) + 1 from by omega, List.take_succ_eq_append_getElem hd]
  congr 2
  rw [List.getElem_drop]
  have e : f + (k - f) = k := by omega
  simp only [e]
  rfl
theorem split_join_to (s : ByteArray) (b : UInt8) : ∀ k, k ≤ s.size → Lib.join ((splitTo s ⟨#[b]⟩ k).1.map (·.data.toList) ++ [(s.extract (splitTo s ⟨#[b]⟩ k).2 k).data.toList]) [b] = s.data.toList.take k
  | 0, _ => by
    show Lib.join ([] ++ [(s.extract 0 0).data.toList]) [b] = []
    rw [List.nil_append, Lib.join_one, ext_same]
  | k + 1, hk => by
    have ih := split_join_to s b k (by omega)
    have hlt : k < s.size := by omega
    by_cases h : isSep ⟨#[b]⟩ s[k]
    · rw [splitTo_yes hlt h, ext_same, List.map_append, List.map_cons, List.map_nil, join_last, ih, take_snoc s k hlt, (isSep_one b _).1 h]
    · rw [splitTo_no hlt h, ext_succ s _ k (splitTo_le s _ k).2 hlt, join_more, ih, take_snoc s k hlt]
theorem split_join (s : ByteArray) (b : UInt8) : joinS (splitL s ⟨#[b]⟩) ⟨#[b]⟩ = s := by
  have h := split_join_to s b s.size (Nat.le_refl _)
  rw [take_all s _ (Nat.le_refl _)] at h
  have e : (splitL s ⟨#[b]⟩).map (·.data.toList) = (splitTo s ⟨#[b]⟩ s.size).1.map (·.data.toList) ++ [(s.extract (splitTo s ⟨#[b]⟩ s.size).2 s.size).data.toList] := by
    unfold splitL
    rw [List.map_append]
    rfl
  unfold joinS
  rw [e]
  show ByteArray.mk (Lib.join _ [b]).toArray = s
  rw [h]

theorem nl_sep (c : UInt8) : isSep nl c ↔ c = 10 := isSep_one 10 c
theorem two_lines : (linesL ⟨#[97, 10, 98, 10]⟩).length = 2 := by
  have s1 : splitTo ⟨#[97, 10, 98, 10]⟩ nl 1 = ([], 0) := splitTo_no (k := 0) (s := ⟨#[97, 10, 98, 10]⟩) (by decide) (fun h => by have := (nl_sep _).1 h; revert this; decide)
  have s2 : (splitTo ⟨#[97, 10, 98, 10]⟩ nl 2).1.length = 1 := by
    rw [splitTo_yes (k := 1) (s := ⟨#[97, 10, 98, 10]⟩) (by decide) ((nl_sep _).2 rfl), s1]
    rfl
  have s3 : splitTo ⟨#[97, 10, 98, 10]⟩ nl 3 = splitTo ⟨#[97, 10, 98, 10]⟩ nl 2 := splitTo_no (k := 2) (s := ⟨#[97, 10, 98, 10]⟩) (by decide) (fun h => by have := (nl_sep _).1 h; revert this; decide)
  have s4 := splitTo_yes (k := 3) (s := ⟨#[97, 10, 98, 10]⟩) (y := nl) (by decide) ((nl_sep _).2 rfl)
  have e : (ByteArray.mk #[97, 10, 98, 10]).size = 4 := rfl
  unfold linesL
  rw [e, s4]
  simp only
  rw [if_pos (by rw [ByteArray.toList_eq]; exact ext_same _ 4), List.length_append, s3, s2]
  rfl
theorem name_x1 : nameOk ⟨#[120, 49]⟩ = true := by
  have h : NameTo ⟨#[120, 49]⟩ 2 := by
    intro i hi _
    have hi' : i < 2 := hi
    rcases i with _ | _ | i
    · rfl
    · rfl
    · omega
  rw [nameOk_yes (s := ⟨#[120, 49]⟩) h]
  rfl
end Go.Proofs.Ytfcbfflkajlhnaa
