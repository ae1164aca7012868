/- NamedSubst of the model. No condition. -/
import Derived.Test.YtgekhijjeojhaaaFormat
namespace Go.Proofs.Ytgekhijjeojhaaa
open Go.RowKit

/-- SplitAny, reckoned -/
def splitC (s y : ByteArray) : Nat → List ByteArray × Nat
  | 0 => ([], 0)
  | k + 1 => if h : k < s.size then (if y.data.toList.contains s[k] then ((splitC s y k).1 ++ [s.extract (splitC s y k).2 k], k + 1) else splitC s y k) else splitC s y k
theorem isSep_iff (y : ByteArray) (c : UInt8) : isSep y c ↔ y.data.toList.contains c = true := by
  rw [List.contains_iff_mem]
  constructor
  · rintro ⟨i, h, rfl⟩
    have : y[i] = y.data.toList[i]'(by simpa using h) := rfl
    rw [this]; exact List.getElem_mem _
  · intro h
    obtain ⟨i, hi, e⟩ := List.mem_iff_getElem.1 h
    exact ⟨i, by simpa using hi, e⟩
theorem splitC_eq (s y : ByteArray) : ∀ k, splitTo s y k = splitC s y k
  | 0 => rfl
  | k + 1 => by
    have ih := splitC_eq s y k
    rw [splitC]
    by_cases h : k < s.size
    · rw [dif_pos h]
      by_cases hs : isSep y s[k]
      · rw [splitTo_yes h hs, ih, if_pos ((isSep_iff _ _).1 hs)]
      · rw [splitTo_no h hs, ih, if_neg (fun h' => hs ((isSep_iff _ _).2 h'))]
    · rw [dif_neg h, splitTo, if_neg (fun ⟨h', _⟩ => h h'), ih]
theorem splitL_eq (s y : ByteArray) : splitL s y = (splitC s y s.size).1 ++ [s.extract (splitC s y s.size).2 s.size] := by
  unfold splitL
  rw [splitC_eq]
theorem parse_at {t : ByteArray} {l : List ByteArray} (h : (splitC t ⟨#[44]⟩ t.size).1 ++ [t.extract (splitC t ⟨#[44]⟩ t.size).2 t.size] = l) (h1 : t.size ≤ 40) (h2 : substB l = true) (h3 : fmtR l = t) : parseOk t = true ∧ parseSub t = l := by
  have e : splitL t ⟨#[44]⟩ = l := (splitL_eq _ _).trans h
  have a : parseOk t = true := by
    unfold parseOk
    rw [e, h2, decide_eq_true h1, decide_eq_true h3]
    rfl
  exact ⟨a, (if_pos a).trans e⟩
theorem parse_fibonacci : parseOk ⟨#[97, 98, 44, 97]⟩ = true ∧ parseSub ⟨#[97, 98, 44, 97]⟩ = [⟨#[97, 98]⟩, ⟨#[97]⟩] := parse_at (by kernel_rfl) (by decide) (by kernel_rfl) (by kernel_rfl)
theorem parse_thue : parseOk ⟨#[97, 98, 44, 98, 97]⟩ = true ∧ parseSub ⟨#[97, 98, 44, 98, 97]⟩ = [⟨#[97, 98]⟩, ⟨#[98, 97]⟩] := parse_at (by kernel_rfl) (by decide) (by kernel_rfl) (by kernel_rfl)
theorem parse_doubling : parseOk ⟨#[97, 98, 44, 97, 97]⟩ = true ∧ parseSub ⟨#[97, 98, 44, 97, 97]⟩ = [⟨#[97, 98]⟩, ⟨#[97, 97]⟩] := parse_at (by kernel_rfl) (by decide) (by kernel_rfl) (by kernel_rfl)
theorem parse_tribonacci : parseOk ⟨#[97, 98, 44, 97, 99, 44, 97]⟩ = true ∧ parseSub ⟨#[97, 98, 44, 97, 99, 44, 97]⟩ = [⟨#[97, 98]⟩, ⟨#[97, 99]⟩, ⟨#[97]⟩] := parse_at (by kernel_rfl) (by decide) (by kernel_rfl) (by kernel_rfl)
theorem parse_silver : parseOk ⟨#[97, 97, 98, 44, 97]⟩ = true ∧ parseSub ⟨#[97, 97, 98, 44, 97]⟩ = [⟨#[97, 97, 98]⟩, ⟨#[97]⟩] := parse_at (by kernel_rfl) (by decide) (by kernel_rfl) (by kernel_rfl)
theorem parse_squarefree : parseOk ⟨#[97, 98, 99, 44, 97, 99, 44, 98]⟩ = true ∧ parseSub ⟨#[97, 98, 99, 44, 97, 99, 44, 98]⟩ = [⟨#[97, 98, 99]⟩, ⟨#[97, 99]⟩, ⟨#[98]⟩] := parse_at (by kernel_rfl) (by decide) (by kernel_rfl) (by kernel_rfl)
theorem parse_rudin : parseOk ⟨#[97, 98, 44, 97, 99, 44, 100, 98, 44, 100, 99]⟩ = true ∧ parseSub ⟨#[97, 98, 44, 97, 99, 44, 100, 98, 44, 100, 99]⟩ = [⟨#[97, 98]⟩, ⟨#[97, 99]⟩, ⟨#[100, 98]⟩, ⟨#[100, 99]⟩] := parse_at (by kernel_rfl) (by decide) (by kernel_rfl) (by kernel_rfl)
/-- what NamedSubst is to return -/
def namedL (t : ByteArray) : List ByteArray :=
  if t = ⟨#[102, 105, 98, 111, 110, 97, 99, 99, 105]⟩ then [⟨#[97, 98]⟩, ⟨#[97]⟩]
  else if t = ⟨#[116, 104, 117, 101]⟩ then [⟨#[97, 98]⟩, ⟨#[98, 97]⟩]
  else if t = ⟨#[100, 111, 117, 98, 108, 105, 110, 103]⟩ then [⟨#[97, 98]⟩, ⟨#[97, 97]⟩]
  else if t = ⟨#[116, 114, 105, 98, 111, 110, 97, 99, 99, 105]⟩ then [⟨#[97, 98]⟩, ⟨#[97, 99]⟩, ⟨#[97]⟩]
  else if t = ⟨#[115, 105, 108, 118, 101, 114]⟩ then [⟨#[97, 97, 98]⟩, ⟨#[97]⟩]
  else if t = ⟨#[115, 113, 117, 97, 114, 101, 102, 114, 101, 101]⟩ then [⟨#[97, 98, 99]⟩, ⟨#[97, 99]⟩, ⟨#[98]⟩]
  else if t = ⟨#[114, 117, 100, 105, 110]⟩ then [⟨#[97, 98]⟩, ⟨#[97, 99]⟩, ⟨#[100, 98]⟩, ⟨#[100, 99]⟩]
  else []
def namedOk (t : ByteArray) : Bool := decide (namedL t ≠ [])
theorem namedL_le (t : ByteArray) : (namedL t).length ≤ 4 := by
  unfold namedL
  repeat' split
  all_goals decide
theorem eq_toList (t : ByteArray) (l : List UInt8) : (t.toList = l) ↔ t = ⟨l.toArray⟩ := by
  constructor
  · intro h
    apply bytes_ext
    rw [h, ByteArray.toList_eq]
  · intro h
    rw [h, ByteArray.toList_eq]

set_option maxHeartbeats 1000000 in
theorem specNamedSubst (t : ByteArray) (w : World) (_ : t.size ≤ 1048576) :
    Calls Try.prog 36 #[.string t] w (SubSaid (namedL t) (namedOk t) w) := by
  by_cases n0 : t = ⟨#[102, 105, 98, 111, 110, 97, 99, 99, 105]⟩
  · subst n0
    have hL := parse_fibonacci
    have HP := Lib.hid (fun w => specParseSubst ⟨#[97, 98, 44, 97]⟩ w (by decide))
    rw [hL.1, hL.2] at HP
    have hN : namedL ⟨#[102, 105, 98, 111, 110, 97, 99, 99, 105]⟩ = [⟨#[97, 98]⟩, ⟨#[97]⟩] := by decide
    have hK : namedOk ⟨#[102, 105, 98, 111, 110, 97, 99, 99, 105]⟩ = true := by decide
    rw [hN, hK]
    clear hL hN hK
    go_enter Try.func36, Try.ntmps36
    go_wp2_with fail
    refine (HP.out _).mono ?_
    rintro e w1 ⟨v, rfl, ho, hb1⟩
    obtain ⟨A, cp, rfl⟩ := own_slice ho
    have c1 : w1.cell? ⟨w.heap.size, 0, none⟩ = some (.slice none 0 0) := (hb1.cell (p := ⟨w.heap.size, 0, none⟩) (by simp)).trans (by go_simp)
    have f1 : w1.frozen? ⟨w.heap.size, 0, none⟩ = false := (hb1.frozen (p := ⟨w.heap.size, 0, none⟩) (by simp)).trans (by go_simp)
    have HO := Lib.hid ho
    have HB : Hid (Below w.heap.size w w1) := ((Below.refl _ _).alloc (Nat.le_refl _) _).trans (hb1.mono (by simp))
    clear ho hb1
    go_wp2_with fail
    exact bodyPost_ret (v := .tuple #[.agg #[_], .bool true]) (by simp [results, Try.results36, go_sem, c1]) rfl ⟨_, rfl, own_mono (own_setCell HO.out (by simp) _) (by simp), HB.out.setCell (by simp) _⟩
  · have b0 : (t.toList == [102, 105, 98, 111, 110, 97, 99, 99, 105]) = false := by rw [beq_eq_false_iff_ne]; exact fun h => n0 ((eq_toList _ _).1 h)
    by_cases n1 : t = ⟨#[116, 104, 117, 101]⟩
    · subst n1
      have hL := parse_thue
      have HP := Lib.hid (fun w => specParseSubst ⟨#[97, 98, 44, 98, 97]⟩ w (by decide))
      rw [hL.1, hL.2] at HP
      have hN : namedL ⟨#[116, 104, 117, 101]⟩ = [⟨#[97, 98]⟩, ⟨#[98, 97]⟩] := by decide
      have hK : namedOk ⟨#[116, 104, 117, 101]⟩ = true := by decide
      rw [hN, hK]
      clear hL hN hK
      go_enter Try.func36, Try.ntmps36
      go_wp2_with fail
      refine (HP.out _).mono ?_
      rintro e w1 ⟨v, rfl, ho, hb1⟩
      obtain ⟨A, cp, rfl⟩ := own_slice ho
      have c1 : w1.cell? ⟨w.heap.size, 0, none⟩ = some (.slice none 0 0) := (hb1.cell (p := ⟨w.heap.size, 0, none⟩) (by simp)).trans (by go_simp)
      have f1 : w1.frozen? ⟨w.heap.size, 0, none⟩ = false := (hb1.frozen (p := ⟨w.heap.size, 0, none⟩) (by simp)).trans (by go_simp)
      have HO := Lib.hid ho
      have HB : Hid (Below w.heap.size w w1) := ((Below.refl _ _).alloc (Nat.le_refl _) _).trans (hb1.mono (by simp))
      clear ho hb1
      go_wp2_with fail
      exact bodyPost_ret (v := .tuple #[.agg #[_], .bool true]) (by simp [results, Try.results36, go_sem, c1]) rfl ⟨_, rfl, own_mono (own_setCell HO.out (by simp) _) (by simp), HB.out.setCell (by simp) _⟩
    · have b1 : (t.toList == [116, 104, 117, 101]) = false := by rw [beq_eq_false_iff_ne]; exact fun h => n1 ((eq_toList _ _).1 h)
      by_cases n2 : t = ⟨#[100, 111, 117, 98, 108, 105, 110, 103]⟩
      · subst n2
        have hL := parse_doubling
        have HP := Lib.hid (fun w => specParseSubst ⟨#[97, 98, 44, 97, 97]⟩ w (by decide))
        rw [hL.1, hL.2] at HP
        have hN : namedL ⟨#[100, 111, 117, 98, 108, 105, 110, 103]⟩ = [⟨#[97, 98]⟩, ⟨#[97, 97]⟩] := by decide
        have hK : namedOk ⟨#[100, 111, 117, 98, 108, 105, 110, 103]⟩ = true := by decide
        rw [hN, hK]
        clear hL hN hK
        go_enter Try.func36, Try.ntmps36
        go_wp2_with fail
        refine (HP.out _).mono ?_
        rintro e w1 ⟨v, rfl, ho, hb1⟩
        obtain ⟨A, cp, rfl⟩ := own_slice ho
        have c1 : w1.cell? ⟨w.heap.size, 0, none⟩ = some (.slice none 0 0) := (hb1.cell (p := ⟨w.heap.size, 0, none⟩) (by simp)).trans (by go_simp)
        have f1 : w1.frozen? ⟨w.heap.size, 0, none⟩ = false := (hb1.frozen (p := ⟨w.heap.size, 0, none⟩) (by simp)).trans (by go_simp)
        have HO := Lib.hid ho
        have HB : Hid (Below w.heap.size w w1) := ((Below.refl _ _).alloc (Nat.le_refl _) _).trans (hb1.mono (by simp))
        clear ho hb1
        go_wp2_with fail
        exact bodyPost_ret (v := .tuple #[.agg #[_], .bool true]) (by simp [results, Try.results36, go_sem, c1]) rfl ⟨_, rfl, own_mono (own_setCell HO.out (by simp) _) (by simp), HB.out.setCell (by simp) _⟩
      · have b2 : (t.toList == [100, 111, 117, 98, 108, 105, 110, 103]) = false := by rw [beq_eq_false_iff_ne]; exact fun h => n2 ((eq_toList _ _).1 h)
        by_cases n3 : t = ⟨#[116, 114, 105, 98, 111, 110, 97, 99, 99, 105]⟩
        · subst n3
          have hL := parse_tribonacci
          have HP := Lib.hid (fun w => specParseSubst ⟨#[97, 98, 44, 97, 99, 44, 97]⟩ w (by decide))
          rw [hL.1, hL.2] at HP
          have hN : namedL ⟨#[116, 114, 105, 98, 111, 110, 97, 99, 99, 105]⟩ = [⟨#[97, 98]⟩, ⟨#[97, 99]⟩, ⟨#[97]⟩] := by decide
          have hK : namedOk ⟨#[116, 114, 105, 98, 111, 110, 97, 99, 99, 105]⟩ = true := by decide
          rw [hN, hK]
          clear hL hN hK
          go_enter Try.func36, Try.ntmps36
          go_wp2_with fail
          refine (HP.out _).mono ?_
          rintro e w1 ⟨v, rfl, ho, hb1⟩
          obtain ⟨A, cp, rfl⟩ := own_slice ho
          have c1 : w1.cell? ⟨w.heap.size, 0, none⟩ = some (.slice none 0 0) := (hb1.cell (p := ⟨w.heap.size, 0, none⟩) (by simp)).trans (by go_simp)
          have f1 : w1.frozen? ⟨w.heap.size, 0, none⟩ = false := (hb1.frozen (p := ⟨w.heap.size, 0, none⟩) (by simp)).trans (by go_simp)
          have HO := Lib.hid ho
          have HB : Hid (Below w.heap.size w w1) := ((Below.refl _ _).alloc (Nat.le_refl _) _).trans (hb1.mono (by simp))
          clear ho hb1
          go_wp2_with fail
          exact bodyPost_ret (v := .tuple #[.agg #[_], .bool true]) (by simp [results, Try.results36, go_sem, c1]) rfl ⟨_, rfl, own_mono (own_setCell HO.out (by simp) _) (by simp), HB.out.setCell (by simp) _⟩
        · have b3 : (t.toList == [116, 114, 105, 98, 111, 110, 97, 99, 99, 105]) = false := by rw [beq_eq_false_iff_ne]; exact fun h => n3 ((eq_toList _ _).1 h)
          by_cases n4 : t = ⟨#[115, 105, 108, 118, 101, 114]⟩
          · subst n4
            have hL := parse_silver
            have HP := Lib.hid (fun w => specParseSubst ⟨#[97, 97, 98, 44, 97]⟩ w (by decide))
            rw [hL.1, hL.2] at HP
            have hN : namedL ⟨#[115, 105, 108, 118, 101, 114]⟩ = [⟨#[97, 97, 98]⟩, ⟨#[97]⟩] := by decide
            have hK : namedOk ⟨#[115, 105, 108, 118, 101, 114]⟩ = true := by decide
            rw [hN, hK]
            clear hL hN hK
            go_enter Try.func36, Try.ntmps36
            go_wp2_with fail
            refine (HP.out _).mono ?_
            rintro e w1 ⟨v, rfl, ho, hb1⟩
            obtain ⟨A, cp, rfl⟩ := own_slice ho
            have c1 : w1.cell? ⟨w.heap.size, 0, none⟩ = some (.slice none 0 0) := (hb1.cell (p := ⟨w.heap.size, 0, none⟩) (by simp)).trans (by go_simp)
            have f1 : w1.frozen? ⟨w.heap.size, 0, none⟩ = false := (hb1.frozen (p := ⟨w.heap.size, 0, none⟩) (by simp)).trans (by go_simp)
            have HO := Lib.hid ho
            have HB : Hid (Below w.heap.size w w1) := ((Below.refl _ _).alloc (Nat.le_refl _) _).trans (hb1.mono (by simp))
            clear ho hb1
            go_wp2_with fail
            exact bodyPost_ret (v := .tuple #[.agg #[_], .bool true]) (by simp [results, Try.results36, go_sem, c1]) rfl ⟨_, rfl, own_mono (own_setCell HO.out (by simp) _) (by simp), HB.out.setCell (by simp) _⟩
          · have b4 : (t.toList == [115, 105, 108, 118, 101, 114]) = false := by rw [beq_eq_false_iff_ne]; exact fun h => n4 ((eq_toList _ _).1 h)
            by_cases n5 : t = ⟨#[115, 113, 117, 97, 114, 101, 102, 114, 101, 101]⟩
            · subst n5
              have hL := parse_squarefree
              have HP := Lib.hid (fun w => specParseSubst ⟨#[97, 98, 99, 44, 97, 99, 44, 98]⟩ w (by decide))
              rw [hL.1, hL.2] at HP
              have hN : namedL ⟨#[115, 113, 117, 97, 114, 101, 102, 114, 101, 101]⟩ = [⟨#[97, 98, 99]⟩, ⟨#[97, 99]⟩, ⟨#[98]⟩] := by decide
              have hK : namedOk ⟨#[115, 113, 117, 97, 114, 101, 102, 114, 101, 101]⟩ = true := by decide
              rw [hN, hK]
              clear hL hN hK
              go_enter Try.func36, Try.ntmps36
              go_wp2_with fail
              refine (HP.out _).mono ?_
              rintro e w1 ⟨v, rfl, ho, hb1⟩
              obtain ⟨A, cp, rfl⟩ := own_slice ho
              have c1 : w1.cell? ⟨w.heap.size, 0, none⟩ = some (.slice none 0 0) := (hb1.cell (p := ⟨w.heap.size, 0, none⟩) (by simp)).trans (by go_simp)
              have f1 : w1.frozen? ⟨w.heap.size, 0, none⟩ = false := (hb1.frozen (p := ⟨w.heap.size, 0, none⟩) (by simp)).trans (by go_simp)
              have HO := Lib.hid ho
              have HB : Hid (Below w.heap.size w w1) := ((Below.refl _ _).alloc (Nat.le_refl _) _).trans (hb1.mono (by simp))
              clear ho hb1
              go_wp2_with fail
              exact bodyPost_ret (v := .tuple #[.agg #[_], .bool true]) (by simp [results, Try.results36, go_sem, c1]) rfl ⟨_, rfl, own_mono (own_setCell HO.out (by simp) _) (by simp), HB.out.setCell (by simp) _⟩
            · have b5 : (t.toList == [115, 113, 117, 97, 114, 101, 102, 114, 101, 101]) = false := by rw [beq_eq_false_iff_ne]; exact fun h => n5 ((eq_toList _ _).1 h)
              by_cases n6 : t = ⟨#[114, 117, 100, 105, 110]⟩
              · subst n6
                have hL := parse_rudin
                have HP := Lib.hid (fun w => specParseSubst ⟨#[97, 98, 44, 97, 99, 44, 100, 98, 44, 100, 99]⟩ w (by decide))
                rw [hL.1, hL.2] at HP
                have hN : namedL ⟨#[114, 117, 100, 105, 110]⟩ = [⟨#[97, 98]⟩, ⟨#[97, 99]⟩, ⟨#[100, 98]⟩, ⟨#[100, 99]⟩] := by decide
                have hK : namedOk ⟨#[114, 117, 100, 105, 110]⟩ = true := by decide
                rw [hN, hK]
                clear hL hN hK
                go_enter Try.func36, Try.ntmps36
                go_wp2_with fail
                refine (HP.out _).mono ?_
                rintro e w1 ⟨v, rfl, ho, hb1⟩
                obtain ⟨A, cp, rfl⟩ := own_slice ho
                have c1 : w1.cell? ⟨w.heap.size, 0, none⟩ = some (.slice none 0 0) := (hb1.cell (p := ⟨w.heap.size, 0, none⟩) (by simp)).trans (by go_simp)
                have f1 : w1.frozen? ⟨w.heap.size, 0, none⟩ = false := (hb1.frozen (p := ⟨w.heap.size, 0, none⟩) (by simp)).trans (by go_simp)
                have HO := Lib.hid ho
                have HB : Hid (Below w.heap.size w w1) := ((Below.refl _ _).alloc (Nat.le_refl _) _).trans (hb1.mono (by simp))
                clear ho hb1
                go_wp2_with fail
                exact bodyPost_ret (v := .tuple #[.agg #[_], .bool true]) (by simp [results, Try.results36, go_sem, c1]) rfl ⟨_, rfl, own_mono (own_setCell HO.out (by simp) _) (by simp), HB.out.setCell (by simp) _⟩
              · have b6 : (t.toList == [114, 117, 100, 105, 110]) = false := by rw [beq_eq_false_iff_ne]; exact fun h => n6 ((eq_toList _ _).1 h)
                have hN : namedL t = [] := by unfold namedL; rw [if_neg n0, if_neg n1, if_neg n2, if_neg n3, if_neg n4, if_neg n5, if_neg n6]
                have hK : namedOk t = false := by unfold namedOk; rw [hN]; rfl
                rw [hN, hK]
                have hbz := build_zero
                clear hN hK n0 n1 n2 n3 n4 n5 n6
                go_enter Try.func36, Try.ntmps36
                go_wp2_with fail
                exact bodyPost_ret (v := .tuple #[.agg #[.slice none 0 0], .bool false]) (by simp [results, Try.results36, go_sem]) rfl ⟨_, rfl, World.ownsRow_nil _ _ _ _, (Below.refl _ _).alloc (Nat.le_refl _) _⟩
end Go.Proofs.Ytgekhijjeojhaaa
