/- Texts put together. -/
import Derived.Test.YthckpgfhldocdaaMgp1
import Derived.Test.YthckpgfhldocdaaMgp12
import Derived.Test.YthckpgfhldocdaaMgp8
import Derived.Test.YthckpgfhldocdaaMgp25
import Derived.Lib.Strings
import Derived.Test.YthckpgfhldocdaaMgp16
import Derived.Test.YthckpgfhldocdaaMgp17
/- What a name is. No program in it. -/
namespace Go.Proofs.Ythckpgfhldocdaa
open Go.RowKit

def nameB (i : Nat) (c : UInt8) : Bool := isLowB c || (decide (0 < i) && isDigB c)
def NameTo (s : ByteArray) (k : Nat) : Prop := ∀ i (h : i < s.size), i < k → nameB i s[i] = true
noncomputable def nameOk (s : ByteArray) : Bool := @decide (1 ≤ s.size ∧ s.size ≤ 8 ∧ NameTo s s.size) (Classical.propDecidable _)
theorem nameTo_zero (s : ByteArray) : NameTo s 0 := fun _ _ h => absurd h (by omega)
theorem nameTo_succ {s : ByteArray} {k : Nat} (h : NameTo s k) (hk : k < s.size) (hb : nameB k s[k] = true) : NameTo s (k + 1) := by
  intro i hi hlt
  by_cases e : i = k
  · subst e; exact hb
  · exact h i hi (by omega)
theorem nameOk_no {s : ByteArray} {k : Nat} (hk : k < s.size) (hb : nameB k s[k] = false) : nameOk s = false := by
  unfold nameOk
  rw [decide_eq_false_iff_not]
  rintro ⟨_, _, h⟩
  rw [h k hk hk] at hb
  cases hb
theorem nameOk_len {s : ByteArray} (h : s.size < 1 ∨ 8 < s.size) : nameOk s = false := by
  unfold nameOk
  rw [decide_eq_false_iff_not]
  rintro ⟨_, _, _⟩
  omega
theorem nameOk_yes {s : ByteArray} (h : NameTo s s.size) : nameOk s = (decide (1 ≤ s.size) && decide (s.size ≤ 8)) := by
  unfold nameOk
  rw [Bool.eq_iff_iff]
  simp [h]
end Go.Proofs.Ythckpgfhldocdaa

/- What is split at one byte and joined with it is the text again. No program in it. -/
namespace Go.Proofs.Ythckpgfhldocdaa
open Go.RowKit

theorem tail_snoc (sep : List UInt8) (r : List (List UInt8)) (y : List UInt8) : Lib.joinTail sep (r ++ [y]) = Lib.joinTail sep r ++ sep ++ y := by
  simp [Lib.joinTail, List.append_assoc]
theorem join_more (sep : List UInt8) (ps : List (List UInt8)) (x c : List UInt8) : Lib.join (ps ++ [x ++ c]) sep = Lib.join (ps ++ [x]) sep ++ c := by
  cases ps with
  | nil => rw [List.nil_append, List.nil_append, Lib.join_one, Lib.join_one]
  | cons p r => rw [List.cons_append, List.cons_append, Lib.join_cons, Lib.join_cons, tail_snoc, tail_snoc]; simp only [List.append_assoc]
theorem join_last (sep : List UInt8) (ps : List (List UInt8)) (x : List UInt8) : Lib.join ((ps ++ [x]) ++ [[]]) sep = Lib.join (ps ++ [x]) sep ++ sep := by
  cases ps with
  | nil =>
    show Lib.join (x :: [[]]) sep = Lib.join [x] sep ++ sep
    rw [Lib.join_cons, Lib.join_one]
    simp [Lib.joinTail]
  | cons p r => rw [List.cons_append, List.cons_append, Lib.join_cons, Lib.join_cons, tail_snoc sep (r ++ [x])]; simp only [List.append_assoc, List.append_nil]
theorem isSep_one (b c : UInt8) : isSep ⟨#[b]⟩ c ↔ c = b := by
  constructor
  · rintro ⟨i, h, e⟩
    have hi : i = 0 := by
      have h' : i < 1 := h
      omega
    subst hi
    exact e.symm
  · rintro rfl
    exact ⟨0, by show 0 < 1; omega, rfl⟩
theorem ext_same (s : ByteArray) (k : Nat) : (s.extract k k).data.toList = [] := by rw [Lib.extract_data]; simp
theorem ext_succ (s : ByteArray) (f k : Nat) (hf : f ≤ k) (hk : k < s.size) : (s.extract f (k + 1)).data.toList = (s.extract f k).data.toList ++ [s[k]] := by
  have hd : k - f < (s.data.toList.drop f).length := by
    rw [List.length_drop]
    have e : s.data.toList.length = s.size := by simp
    omega
  rw [Lib.extract_data, Lib.extract_data, show k + 1 - f = (k - f) + 1 from by omega, List.take_succ_eq_append_getElem hd]
  congr 2
  rw [List.getElem_drop]
  have e : f + (k - f) = k := by omega
  simp only [e]
  rfl
theorem split_join_to (s : ByteArray) (b : UInt8) : ∀ k, k ≤ s.size → Lib.join ((splitTo s ⟨#[b]⟩ k).1.map (·.data.toList) ++ [(s.extract (splitTo s ⟨#[b]⟩ k).2 k).data.toList]) [b] = s.data.toList.take k
  | 0, _ => by
    show Lib.join ([] ++ [(s.extract 0 0).data.toList]) [b] = []
    rw [List.nil_append, Lib.join_one, ext_same]
  | k + 1, hk => by
    have ih := split_join_to s b k (by omega)
    have hlt : k < s.size := by omega
    by_cases h : isSep ⟨#[b]⟩ s[k]
    · rw [splitTo_yes hlt h, ext_same, List.map_append, List.map_cons, List.map_nil, join_last, ih, take_snoc s k hlt, (isSep_one b _).1 h]
    · rw [splitTo_no hlt h, ext_succ s _ k (splitTo_le s _ k).2 hlt, join_more, ih, take_snoc s k hlt]
theorem split_join (s : ByteArray) (b : UInt8) : joinS (splitL s ⟨#[b]⟩) ⟨#[b]⟩ = s := by
  have h := split_join_to s b s.size (Nat.le_refl _)
  rw [take_all s _ (Nat.le_refl _)] at h
  have e : (splitL s ⟨#[b]⟩).map (·.data.toList) = (splitTo s ⟨#[b]⟩ s.size).1.map (·.data.toList) ++ [(s.extract (splitTo s ⟨#[b]⟩ s.size).2 s.size).data.toList] := by
    unfold splitL
    rw [List.map_append]
    rfl
  unfold joinS
  rw [e]
  show ByteArray.mk (Lib.join _ [b]).toArray = s
  rw [h]

theorem nl_sep (c : UInt8) : isSep nl c ↔ c = 10 := isSep_one 10 c
theorem two_lines : (linesL ⟨#[97, 10, 98, 10]⟩).length = 2 := by
  have s1 : splitTo ⟨#[97, 10, 98, 10]⟩ nl 1 = ([], 0) := splitTo_no (k := 0) (s := ⟨#[97, 10, 98, 10]⟩) (by decide) (fun h => by have := (nl_sep _).1 h; revert this; decide)
  have s2 : (splitTo ⟨#[97, 10, 98, 10]⟩ nl 2).1.length = 1 := by
    rw [splitTo_yes (k := 1) (s := ⟨#[97, 10, 98, 10]⟩) (by decide) ((nl_sep _).2 rfl), s1]
    rfl
  have s3 : splitTo ⟨#[97, 10, 98, 10]⟩ nl 3 = splitTo ⟨#[97, 10, 98, 10]⟩ nl 2 := splitTo_no (k := 2) (s := ⟨#[97, 10, 98, 10]⟩) (by decide) (fun h => by have := (nl_sep _).1 h; revert this; decide)
  have s4 := splitTo_yes (k := 3) (s := ⟨#[97, 10, 98, 10]⟩) (y := nl) (by decide) ((nl_sep _).2 rfl)
  have e : (ByteArray.mk #[97, 10, 98, 10]).size = 4 := rfl
  unfold linesL
  rw [e, s4]
  simp only
  rw [if_pos (by rw [ByteArray.toList_eq]; exact ext_same _ 4), List.length_append, s3, s2]
  rfl
theorem name_x1 : nameOk ⟨#[120, 49]⟩ = true := by
  have h : NameTo ⟨#[120, 49]⟩ 2 := by
    intro i hi _
    have hi' : i < 2 := hi
    rcases i with _ | _ | i
    · rfl
    · rfl
    · omega
  rw [nameOk_yes (s := ⟨#[120, 49]⟩) h]
  rfl
end Go.Proofs.Ythckpgfhldocdaa

/- FormatSubst and ParseSubst of the program. Conditions: lengths of at most 2^20. -/
namespace Go.Proofs.Ythckpgfhldocdaa
open Go.RowKit
/-- a valid list of parts is written as the text that it was cut from, which is short -/
theorem parseOk_eq (t : ByteArray) : parseOk t = substB (splitL t ⟨#[44]⟩) := by
  unfold parseOk
  by_cases h : substB (splitL t ⟨#[44]⟩) = true
  · have e : fmtR (splitL t ⟨#[44]⟩) = t := by
      unfold fmtR
      rw [if_pos h, split_join]
    have h1 := subst_total h
    have h2 := joinS_size (splitL t ⟨#[44]⟩) ⟨#[44]⟩
    rw [split_join] at h2
    have e1 : (⟨#[44]⟩ : ByteArray).size = 1 := rfl
    rw [e1] at h2
    rw [h, decide_eq_true e, decide_eq_true (show t.size ≤ 40 by omega)]
    rfl
  · rw [show substB (splitL t ⟨#[44]⟩) = false by simpa using h]
    simp

set_option maxHeartbeats 400000 in
theorem implParseSubst (t : ByteArray) (w : World) (ht : t.size ≤ 1048576) :
    Calls Try.prog 30 #[.string t] w (SubSaid (parseSub t) (parseOk t) w) := by
  have HB0 : Hid (Below w.heap.size w (w.alloc (.cells #[.slice none 0 0] 34))) := (Below.refl _ _).alloc (Nat.le_refl _) _
  have hs1 := splitL_length t ⟨#[44]⟩
  have HSM := Lib.hid (splitL_small t ⟨#[44]⟩)
  have HSP := Lib.hid (fun w => implSplitAny t ⟨#[44]⟩ w ht)
  have HOKS := Lib.hid (parseOk_eq t)
  have HSUB : Hid (parseOk t = true → parseSub t = splitL t ⟨#[44]⟩) := fun h => if_pos h
  have HSUB2 : Hid (parseOk t = false → parseSub t = []) := fun h => if_neg (by rw [h]; decide)
  generalize splitL t ⟨#[44]⟩ = l at hs1 HSM HSP HOKS HSUB HSUB2
  go_enter Try.func30, Try.ntmps30
  go_wp2_with fail
  refine (HSP.out _).mono ?_
  rintro e w1 ⟨v, rfl, ho, hb1⟩
  obtain ⟨A, cp, rfl⟩ := own_slice ho
  have c1 : w1.cell? ⟨w.heap.size, 0, none⟩ = some (.slice none 0 0) := (hb1.cell (p := ⟨w.heap.size, 0, none⟩) (by simp)).trans (by go_simp)
  have f1 : w1.frozen? ⟨w.heap.size, 0, none⟩ = false := (hb1.frozen (p := ⟨w.heap.size, 0, none⟩) (by simp)).trans (by go_simp)
  have hz1 : w.heap.size < w1.heap.size := by have := hb1.size; simp at this; omega
  have HB1 : Hid (Below w.heap.size w w1) := HB0.out.trans (hb1.mono (by simp))
  have HO : Hid (w1.ownsRow (w.heap.size + 1) 9 1 (.slice A l.length cp) l.length (strs l)) := own_mono ho (by simp)
  have hbd := build_sub A l.length cp
  have hbz := build_zero
  by_cases hll : l.length ≤ 2097152
  · have HZ : Hid (∀ x ∈ l, x.size ≤ 1048576) := fun x hx => by have := HSM.out x hx; omega
    clear ho hb1
    go_wp2_with fail
    refine (implSubstOkL l _ _ ((Lst.of_own HO.out).below ((Below.refl _ _).alloc (Nat.le_refl _) _)) HZ.out hll).mono ?_
    rintro e w2 ⟨rfl, hb2⟩
    have c2 : w2.cell? ⟨w.heap.size, 0, none⟩ = some (.slice none 0 0) := (hb2.cell (p := ⟨w.heap.size, 0, none⟩) (by simp; omega)).trans (by go_simp)
    have f2 : w2.frozen? ⟨w.heap.size, 0, none⟩ = false := (hb2.frozen (p := ⟨w.heap.size, 0, none⟩) (by simp; omega)).trans (by go_simp)
    have d2 : w2.cell? ⟨w1.heap.size, 0, none⟩ = some (.slice A l.length cp) := (hb2.cell (p := ⟨w1.heap.size, 0, none⟩) (by simp)).trans (by go_simp)
    have hz2 : w1.heap.size < w2.heap.size := by have := hb2.size; simp at this; omega
    have HB2 : Hid (Below w.heap.size w w2) := (HB1.out.alloc (by omega) _).trans (hb2.mono (by simp; omega))
    have HO2 : Hid (w2.ownsRow (w.heap.size + 1) 9 1 (.slice A l.length cp) l.length (strs l)) := own_below (HO.out.alloc _) hb2
    clear hb2 c1 f1
    by_cases h1 : substB l = true
    · have HOK : Hid (parseOk t = true) := by show parseOk t = true; rw [HOKS.out, h1]
      have HSB : Hid (parseSub t = l) := HSUB.out HOK.out
      go_wp2_with fail
      refine bodyPost_ret (v := .tuple #[.agg #[.slice A l.length cp], .bool true]) (by simp [results, Try.results30, go_sem, c2]) rfl ⟨.slice A l.length cp, ?_, ?_, ?_⟩
      · rw [HOK.out]
      · rw [HSB.out]
        exact own_mono (own_setCell (B := w.heap.size + 1) HO2.out (by simp) _) (by omega)
      · exact HB2.out.setCell (by simp) _
    · have h1' : substB l = false := by simpa using h1
      have HOK : Hid (parseOk t = false) := by show parseOk t = false; rw [HOKS.out, h1']
      have HSB : Hid (parseSub t = []) := HSUB2.out HOK.out
      clear h1
      go_wp2_with fail
      refine bodyPost_ret (v := .tuple #[.agg #[.slice none 0 0], .bool false]) (by simp [results, Try.results30, go_sem, c2]) rfl ⟨.slice none 0 0, ?_, ?_, ?_⟩
      · rw [HOK.out]
      · rw [HSB.out]
        exact World.ownsRow_nil _ _ _ _
      · exact HB2.out.setCell (by simp) _
  · omega
end Go.Proofs.Ythckpgfhldocdaa

/- NamedSubst of the program. No condition. -/
namespace Go.Proofs.Ythckpgfhldocdaa
open Go.RowKit

set_option maxHeartbeats 1000000 in
theorem implNamedSubst (t : ByteArray) (w : World) (_ : t.size ≤ 1048576) :
    Calls Try.prog 16 #[.string t] w (SubSaid (namedL t) (namedOk t) w) := by
  by_cases n0 : t = ⟨#[102, 105, 98, 111, 110, 97, 99, 99, 105]⟩
  · subst n0
    have hL := parse_fibonacci
    have HP := Lib.hid (fun w => implParseSubst ⟨#[97, 98, 44, 97]⟩ w (by decide))
    rw [hL.1, hL.2] at HP
    have hN : namedL ⟨#[102, 105, 98, 111, 110, 97, 99, 99, 105]⟩ = [⟨#[97, 98]⟩, ⟨#[97]⟩] := by decide
    have hK : namedOk ⟨#[102, 105, 98, 111, 110, 97, 99, 99, 105]⟩ = true := by decide
    rw [hN, hK]
    clear hL hN hK
    go_enter Try.func16, Try.ntmps16
    go_wp2_with fail
    refine (HP.out _).mono ?_
    rintro e w1 ⟨v, rfl, ho, hb1⟩
    obtain ⟨A, cp, rfl⟩ := own_slice ho
    have c1 : w1.cell? ⟨w.heap.size, 0, none⟩ = some (.slice none 0 0) := (hb1.cell (p := ⟨w.heap.size, 0, none⟩) (by simp)).trans (by go_simp)
    have f1 : w1.frozen? ⟨w.heap.size, 0, none⟩ = false := (hb1.frozen (p := ⟨w.heap.size, 0, none⟩) (by simp)).trans (by go_simp)
    have HO := Lib.hid ho
    have HB : Hid (Below w.heap.size w w1) := ((Below.refl _ _).alloc (Nat.le_refl _) _).trans (hb1.mono (by simp))
    clear ho hb1
    go_wp2_with fail
    exact bodyPost_ret (v := .tuple #[.agg #[_], .bool true]) (by simp [results, Try.results16, go_sem, c1]) rfl ⟨_, rfl, own_mono (own_setCell HO.out (by simp) _) (by simp), HB.out.setCell (by simp) _⟩
  · have b0 : (t.toList == [102, 105, 98, 111, 110, 97, 99, 99, 105]) = false := by rw [beq_eq_false_iff_ne]; exact fun h => n0 ((eq_toList _ _).1 h)
    by_cases n1 : t = ⟨#[116, 104, 117, 101]⟩
    · subst n1
      have hL := parse_thue
      have HP := Lib.hid (fun w => implParseSubst ⟨#[97, 98, 44, 98, 97]⟩ w (by decide))
      rw [hL.1, hL.2] at HP
      have hN : namedL ⟨#[116, 104, 117, 101]⟩ = [⟨#[97, 98]⟩, ⟨#[98, 97]⟩] := by decide
      have hK : namedOk ⟨#[116, 104, 117, 101]⟩ = true := by decide
      rw [hN, hK]
      clear hL hN hK
      go_enter Try.func16, Try.ntmps16
      go_wp2_with fail
      refine (HP.out _).mono ?_
      rintro e w1 ⟨v, rfl, ho, hb1⟩
      obtain ⟨A, cp, rfl⟩ := own_slice ho
      have c1 : w1.cell? ⟨w.heap.size, 0, none⟩ = some (.slice none 0 0) := (hb1.cell (p := ⟨w.heap.size, 0, none⟩) (by simp)).trans (by go_simp)
      have f1 : w1.frozen? ⟨w.heap.size, 0, none⟩ = false := (hb1.frozen (p := ⟨w.heap.size, 0, none⟩) (by simp)).trans (by go_simp)
      have HO := Lib.hid ho
      have HB : Hid (Below w.heap.size w w1) := ((Below.refl _ _).alloc (Nat.le_refl _) _).trans (hb1.mono (by simp))
      clear ho hb1
      go_wp2_with fail
      exact bodyPost_ret (v := .tuple #[.agg #[_], .bool true]) (by simp [results, Try.results16, go_sem, c1]) rfl ⟨_, rfl, own_mono (own_setCell HO.out (by simp) _) (by simp), HB.out.setCell (by simp) _⟩
    · have b1 : (t.toList == [116, 104, 117, 101]) = false := by rw [beq_eq_false_iff_ne]; exact fun h => n1 ((eq_toList _ _).1 h)
      by_cases n2 : t = ⟨#[100, 111, 117, 98, 108, 105, 110, 103]⟩
      · subst n2
        have hL := parse_doubling
        have HP := Lib.hid (fun w => implParseSubst ⟨#[97, 98, 44, 97, 97]⟩ w (by decide))
        rw [hL.1, hL.2] at HP
        have hN : namedL ⟨#[100, 111, 117, 98, 108, 105, 110, 103]⟩ = [⟨#[97, 98]⟩, ⟨#[97, 97]⟩] := by decide
        have hK : namedOk ⟨#[100, 111, 117, 98, 108, 105, 110, 103]⟩ = true := by decide
        rw [hN, hK]
        clear hL hN hK
        go_enter Try.func16, Try.ntmps16
        go_wp2_with fail
        refine (HP.out _).mono ?_
        rintro e w1 ⟨v, rfl, ho, hb1⟩
        obtain ⟨A, cp, rfl⟩ := own_slice ho
        have c1 : w1.cell? ⟨w.heap.size, 0, none⟩ = some (.slice none 0 0) := (hb1.cell (p := ⟨w.heap.size, 0, none⟩) (by simp)).trans (by go_simp)
        have f1 : w1.frozen? ⟨w.heap.size, 0, none⟩ = false := (hb1.frozen (p := ⟨w.heap.size, 0, none⟩) (by simp)).trans (by go_simp)
        have HO := Lib.hid ho
        have HB : Hid (Below w.heap.size w w1) := ((Below.refl _ _).alloc (Nat.le_refl _) _).trans (hb1.mono (by simp))
        clear ho hb1
        go_wp2_with fail
        exact bodyPost_ret (v := .tuple #[.agg #[_], .bool true]) (by simp [results, Try.results16, go_sem, c1]) rfl ⟨_, rfl, own_mono (own_setCell HO.out (by simp) _) (by simp), HB.out.setCell (by simp) _⟩
      · have b2 : (t.toList == [100, 111, 117, 98, 108, 105, 110, 103]) = false := by rw [beq_eq_false_iff_ne]; exact fun h => n2 ((eq_toList _ _).1 h)
        by_cases n3 : t = ⟨#[116, 114, 105, 98, 111, 110, 97, 99, 99, 105]⟩
        · subst n3
          have hL := parse_tribonacci
          have HP := Lib.hid (fun w => implParseSubst ⟨#[97, 98, 44, 97, 99, 44, 97]⟩ w (by decide))
          rw [hL.1, hL.2] at HP
          have hN : namedL ⟨#[116, 114, 105, 98, 111, 110, 97, 99, 99, 105]⟩ = [⟨#[97, 98]⟩, ⟨#[97, 99]⟩, ⟨#[97]⟩] := by decide
          have hK : namedOk ⟨#[116, 114, 105, 98, 111, 110, 97, 99, 99, 105]⟩ = true := by decide
          rw [hN, hK]
          clear hL hN hK
          go_enter Try.func16, Try.ntmps16
          go_wp2_with fail
          refine (HP.out _).mono ?_
          rintro e w1 ⟨v, rfl, ho, hb1⟩
          obtain ⟨A, cp, rfl⟩ := own_slice ho
          have c1 : w1.cell? ⟨w.heap.size, 0, none⟩ = some (.slice none 0 0) := (hb1.cell (p := ⟨w.heap.size, 0, none⟩) (by simp)).trans (by go_simp)
          have f1 : w1.frozen? ⟨w.heap.size, 0, none⟩ = false := (hb1.frozen (p := ⟨w.heap.size, 0, none⟩) (by simp)).trans (by go_simp)
          have HO := Lib.hid ho
          have HB : Hid (Below w.heap.size w w1) := ((Below.refl _ _).alloc (Nat.le_refl _) _).trans (hb1.mono (by simp))
          clear ho hb1
          go_wp2_with fail
          exact bodyPost_ret (v := .tuple #[.agg #[_], .bool true]) (by simp [results, Try.results16, go_sem, c1]) rfl ⟨_, rfl, own_mono (own_setCell HO.out (by simp) _) (by simp), HB.out.setCell (by simp) _⟩
        · have b3 : (t.toList == [116, 114, 105, 98, 111, 110, 97, 99, 99, 105]) = false := by rw [beq_eq_false_iff_ne]; exact fun h => n3 ((eq_toList _ _).1 h)
          by_cases n4 : t = ⟨#[115, 105, 108, 118, 101, 114]⟩
          · subst n4
            have hL := parse_silver
            have HP := Lib.hid (fun w => implParseSubst ⟨#[97, 97, 98, 44, 97]⟩ w (by decide))
            rw [hL.1, hL.2] at HP
            have hN : namedL ⟨#[115, 105, 108, 118, 101, 114]⟩ = [⟨#[97, 97, 98]⟩, ⟨#[97]⟩] := by decide
            have hK : namedOk ⟨#[115, 105, 108, 118, 101, 114]⟩ = true := by decide
            rw [hN, hK]
            clear hL hN hK
            go_enter Try.func16, Try.ntmps16
            go_wp2_with fail
            refine (HP.out _).mono ?_
            rintro e w1 ⟨v, rfl, ho, hb1⟩
            obtain ⟨A, cp, rfl⟩ := own_slice ho
            have c1 : w1.cell? ⟨w.heap.size, 0, none⟩ = some (.slice none 0 0) := (hb1.cell (p := ⟨w.heap.size, 0, none⟩) (by simp)).trans (by go_simp)
            have f1 : w1.frozen? ⟨w.heap.size, 0, none⟩ = false := (hb1.frozen (p := ⟨w.heap.size, 0, none⟩) (by simp)).trans (by go_simp)
            have HO := Lib.hid ho
            have HB : Hid (Below w.heap.size w w1) := ((Below.refl _ _).alloc (Nat.le_refl _) _).trans (hb1.mono (by simp))
            clear ho hb1
            go_wp2_with fail
            exact bodyPost_ret (v := .tuple #[.agg #[_], .bool true]) (by simp [results, Try.results16, go_sem, c1]) rfl ⟨_, rfl, own_mono (own_setCell HO.out (by simp) _) (by simp), HB.out.setCell (by simp) _⟩
          · have b4 : (t.toList == [115, 105, 108, 118, 101, 114]) = false := by rw [beq_eq_false_iff_ne]; exact fun h => n4 ((eq_toList _ _).1 h)
            by_cases n5 : t = ⟨#[115, 113, 117, 97, 114, 101, 102, 114, 101, 101]⟩
            · subst n5
              have hL := parse_squarefree
              have HP := Lib.hid (fun w => implParseSubst ⟨#[97, 98, 99, 44, 97, 99, 44, 98]⟩ w (by decide))
              rw [hL.1, hL.2] at HP
              have hN : namedL ⟨#[115, 113, 117, 97, 114, 101, 102, 114, 101, 101]⟩ = [⟨#[97, 98, 99]⟩, ⟨#[97, 99]⟩, ⟨#[98]⟩] := by decide
              have hK : namedOk ⟨#[115, 113, 117, 97, 114, 101, 102, 114, 101, 101]⟩ = true := by decide
              rw [hN, hK]
              clear hL hN hK
              go_enter Try.func16, Try.ntmps16
              go_wp2_with fail
              refine (HP.out _).mono ?_
              rintro e w1 ⟨v, rfl, ho, hb1⟩
              obtain ⟨A, cp, rfl⟩ := own_slice ho
              have c1 : w1.cell? ⟨w.heap.size, 0, none⟩ = some (.slice none 0 0) := (hb1.cell (p := ⟨w.heap.size, 0, none⟩) (by simp)).trans (by go_simp)
              have f1 : w1.frozen? ⟨w.heap.size, 0, none⟩ = false := (hb1.frozen (p := ⟨w.heap.size, 0, none⟩) (by simp)).trans (by go_simp)
              have HO := Lib.hid ho
              have HB : Hid (Below w.heap.size w w1) := ((Below.refl _ _).alloc (Nat.le_refl _) _).trans (hb1.mono (by simp))
              clear ho hb1
              go_wp2_with fail
              exact bodyPost_ret (v := .tuple #[.agg #[_], .bool true]) (by simp [results, Try.results16, go_sem, c1]) rfl ⟨_, rfl, own_mono (own_setCell HO.out (by simp) _) (by simp), HB.out.setCell (by simp) _⟩
            · have b5 : (t.toList == [115, 113, 117, 97, 114, 101, 102, 114, 101, 101]) = false := by rw [beq_eq_false_iff_ne]; exact fun h => n5 ((eq_toList _ _).1 h)
              by_cases n6 : t = ⟨#[114, 117, 100, 105, 110]⟩
              · subst n6
                have hL := parse_rudin
                have HP := Lib.hid (fun w => implParseSubst ⟨#[97, 98, 44, 97, 99, 44, 100, 98, 44, 100, 99]⟩ w (by decide))
                rw [hL.1, hL.2] at HP
                have hN : namedL ⟨#[114, 117, 100, 105, 110]⟩ = [⟨#[97, 98]⟩, ⟨#[97, 99]⟩, ⟨#[100, 98]⟩, ⟨#[100, 99]⟩] := by decide
                have hK : namedOk ⟨#[114, 117, 100, 105, 110]⟩ = true := by decide
                rw [hN, hK]
                clear hL hN hK
                go_enter Try.func16, Try.ntmps16
                go_wp2_with fail
                refine (HP.out _).mono ?_
                rintro e w1 ⟨v, rfl, ho, hb1⟩
                obtain ⟨A, cp, rfl⟩ := own_slice ho
                have c1 : w1.cell? ⟨w.heap.size, 0, none⟩ = some (.slice none 0 0) := (hb1.cell (p := ⟨w.heap.size, 0, none⟩) (by simp)).trans (by go_simp)
                have f1 : w1.frozen? ⟨w.heap.size, 0, none⟩ = false := (hb1.frozen (p := ⟨w.heap.size, 0, none⟩) (by simp)).trans (by go_simp)
                have HO := Lib.hid ho
                have HB : Hid (Below w.heap.size w w1) := ((Below.refl _ _).alloc (Nat.le_refl _) _).trans (hb1.mono (by simp))
                clear ho hb1
                go_wp2_with fail
                exact bodyPost_ret (v := .tuple #[.agg #[_], .bool true]) (by simp [results, Try.results16, go_sem, c1]) rfl ⟨_, rfl, own_mono (own_setCell HO.out (by simp) _) (by simp), HB.out.setCell (by simp) _⟩
              · have b6 : (t.toList == [114, 117, 100, 105, 110]) = false := by rw [beq_eq_false_iff_ne]; exact fun h => n6 ((eq_toList _ _).1 h)
                have hN : namedL t = [] := by unfold namedL; rw [if_neg n0, if_neg n1, if_neg n2, if_neg n3, if_neg n4, if_neg n5, if_neg n6]
                have hK : namedOk t = false := by unfold namedOk; rw [hN]; rfl
                rw [hN, hK]
                have hbz := build_zero
                clear hN hK n0 n1 n2 n3 n4 n5 n6
                go_enter Try.func16, Try.ntmps16
                go_wp2_with fail
                exact bodyPost_ret (v := .tuple #[.agg #[.slice none 0 0], .bool false]) (by simp [results, Try.results16, go_sem]) rfl ⟨_, rfl, World.ownsRow_nil _ _ _ _, (Below.refl _ _).alloc (Nat.le_refl _) _⟩
end Go.Proofs.Ythckpgfhldocdaa
