/- NamedSubst of the program. No condition. -/
import Derived.Test.YtgekhijjeojhaaaNamed
import Derived.Test.YtgekhijjeojhaaaFormatI
namespace Go.Proofs.Ytgekhijjeojhaaa
open Go.RowKit

set_option maxHeartbeats 1000000 in
theorem implNamedSubst (t : ByteArray) (w : World) (_ : t.size ≤ 1048576) :
    Calls Try.prog 37 #[.string t] w (SubSaid (namedL t) (namedOk t) w) := by
  by_cases n0 : t = ⟨#[102, 105, 98, 111, 110, 97, 99, 99, 105]⟩
  · subst n0
    have hL := parse_fibonacci
    have HP := Lib.hid (fun w => implParseSubst ⟨#[97, 98, 44, 97]⟩ w (by decide))
    rw [hL.1, hL.2] at HP
    have hN : namedL ⟨#[102, 105, 98, 111, 110, 97, 99, 99, 105]⟩ = [⟨#[97, 98]⟩, ⟨#[97]⟩] := by decide
    have hK : namedOk ⟨#[102, 105, 98, 111, 110, 97, 99, 99, 105]⟩ = true := by decide
    rw [hN, hK]
    clear hL hN hK
    go_enter Try.func37, Try.ntmps37
    go_wp2_with fail
    refine (HP.out _).mono ?_
    rintro e w1 ⟨v, rfl, ho, hb1⟩
    obtain ⟨A, cp, rfl⟩ := own_slice ho
    have c1 : w1.cell? ⟨w.heap.size, 0, none⟩ = some (.slice none 0 0) := (hb1.cell (p := ⟨w.heap.size, 0, none⟩) (by simp)).trans (by go_simp)
    have f1 : w1.frozen? ⟨w.heap.size, 0, none⟩ = false := (hb1.frozen (p := ⟨w.heap.size, 0, none⟩) (by simp)).trans (by go_simp)
    have HO := Lib.hid ho
    have HB : Hid (Below w.heap.size w w1) := ((Below.refl _ _).alloc (Nat.le_refl _) _).trans (hb1.mono (by simp))
    clear ho hb1
    go_wp2_with fail
    exact bodyPost_ret (v := .tuple #[.agg #[_], .bool true]) (by simp [results, Try.results37, go_sem, c1]) rfl ⟨_, rfl, own_mono (own_setCell HO.out (by simp) _) (by simp), HB.out.setCell (by simp) _⟩
  · have b0 : (t.toList == [102, 105, 98, 111, 110, 97, 99, 99, 105]) = false := by rw [beq_eq_false_iff_ne]; exact fun h => n0 ((eq_toList _ _).1 h)
    by_cases n1 : t = ⟨#[116, 104, 117, 101]⟩
    · subst n1
      have hL := parse_thue
      have HP := Lib.hid (fun w => implParseSubst ⟨#[97, 98, 44, 98, 97]⟩ w (by decide))
      rw [hL.1, hL.2] at HP
      have hN : namedL ⟨#[116, 104, 117, 101]⟩ = [⟨#[97, 98]⟩, ⟨#[98, 97]⟩] := by decide
      have hK : namedOk ⟨#[116, 104, 117, 101]⟩ = true := by decide
      rw [hN, hK]
      clear hL hN hK
      go_enter Try.func37, Try.ntmps37
      go_wp2_with fail
      refine (HP.out _).mono ?_
      rintro e w1 ⟨v, rfl, ho, hb1⟩
      obtain ⟨A, cp, rfl⟩ := own_slice ho
      have c1 : w1.cell? ⟨w.heap.size, 0, none⟩ = some (.slice none 0 0) := (hb1.cell (p := ⟨w.heap.size, 0, none⟩) (by simp)).trans (by go_simp)
      have f1 : w1.frozen? ⟨w.heap.size, 0, none⟩ = false := (hb1.frozen (p := ⟨w.heap.size, 0, none⟩) (by simp)).trans (by go_simp)
      have HO := Lib.hid ho
      have HB : Hid (Below w.heap.size w w1) := ((Below.refl _ _).alloc (Nat.le_refl _) _).trans (hb1.mono (by simp))
      clear ho hb1
      go_wp2_with fail
      exact bodyPost_ret (v := .tuple #[.agg #[_], .bool true]) (by simp [results, Try.results37, go_sem, c1]) rfl ⟨_, rfl, own_mono (own_setCell HO.out (by simp) _) (by simp), HB.out.setCell (by simp) _⟩
    · have b1 : (t.toList == [116, 104, 117, 101]) = false := by rw [beq_eq_false_iff_ne]; exact fun h => n1 ((eq_toList _ _).1 h)
      by_cases n2 : t = ⟨#[100, 111, 117, 98, 108, 105, 110, 103]⟩
      · subst n2
        have hL := parse_doubling
        have HP := Lib.hid (fun w => implParseSubst ⟨#[97, 98, 44, 97, 97]⟩ w (by decide))
        rw [hL.1, hL.2] at HP
        have hN : namedL ⟨#[100, 111, 117, 98, 108, 105, 110, 103]⟩ = [⟨#[97, 98]⟩, ⟨#[97, 97]⟩] := by decide
        have hK : namedOk ⟨#[100, 111, 117, 98, 108, 105, 110, 103]⟩ = true := by decide
        rw [hN, hK]
        clear hL hN hK
        go_enter Try.func37, Try.ntmps37
        go_wp2_with fail
        refine (HP.out _).mono ?_
        rintro e w1 ⟨v, rfl, ho, hb1⟩
        obtain ⟨A, cp, rfl⟩ := own_slice ho
        have c1 : w1.cell? ⟨w.heap.size, 0, none⟩ = some (.slice none 0 0) := (hb1.cell (p := ⟨w.heap.size, 0, none⟩) (by simp)).trans (by go_simp)
        have f1 : w1.frozen? ⟨w.heap.size, 0, none⟩ = false := (hb1.frozen (p := ⟨w.heap.size, 0, none⟩) (by simp)).trans (by go_simp)
        have HO := Lib.hid ho
        have HB : Hid (Below w.heap.size w w1) := ((Below.refl _ _).alloc (Nat.le_refl _) _).trans (hb1.mono (by simp))
        clear ho hb1
        go_wp2_with fail
        exact bodyPost_ret (v := .tuple #[.agg #[_], .bool true]) (by simp [results, Try.results37, go_sem, c1]) rfl ⟨_, rfl, own_mono (own_setCell HO.out (by simp) _) (by simp), HB.out.setCell (by simp) _⟩
      · have b2 : (t.toList == [100, 111, 117, 98, 108, 105, 110, 103]) = false := by rw [beq_eq_false_iff_ne]; exact fun h => n2 ((eq_toList _ _).1 h)
        by_cases n3 : t = ⟨#[116, 114, 105, 98, 111, 110, 97, 99, 99, 105]⟩
        · subst n3
          have hL := parse_tribonacci
          have HP := Lib.hid (fun w => implParseSubst ⟨#[97, 98, 44, 97, 99, 44, 97]⟩ w (by decide))
          rw [hL.1, hL.2] at HP
          have hN : namedL ⟨#[116, 114, 105, 98, 111, 110, 97, 99, 99, 105]⟩ = [⟨#[97, 98]⟩, ⟨#[97, 99]⟩, ⟨#[97]⟩] := by decide
          have hK : namedOk ⟨#[116, 114, 105, 98, 111, 110, 97, 99, 99, 105]⟩ = true := by decide
          rw [hN, hK]
          clear hL hN hK
          go_enter Try.func37, Try.ntmps37
          go_wp2_with fail
          refine (HP.out _).mono ?_
          rintro e w1 ⟨v, rfl, ho, hb1⟩
          obtain ⟨A, cp, rfl⟩ := own_slice ho
          have c1 : w1.cell? ⟨w.heap.size, 0, none⟩ = some (.slice none 0 0) := (hb1.cell (p := ⟨w.heap.size, 0, none⟩) (by simp)).trans (by go_simp)
          have f1 : w1.frozen? ⟨w.heap.size, 0, none⟩ = false := (hb1.frozen (p := ⟨w.heap.size, 0, none⟩) (by simp)).trans (by go_simp)
          have HO := Lib.hid ho
          have HB : Hid (Below w.heap.size w w1) := ((Below.refl _ _).alloc (Nat.le_refl _) _).trans (hb1.mono (by simp))
          clear ho hb1
          go_wp2_with fail
          exact bodyPost_ret (v := .tuple #[.agg #[_], .bool true]) (by simp [results, Try.results37, go_sem, c1]) rfl ⟨_, rfl, own_mono (own_setCell HO.out (by simp) _) (by simp), HB.out.setCell (by simp) _⟩
        · have b3 : (t.toList == [116, 114, 105, 98, 111, 110, 97, 99, 99, 105]) = false := by rw [beq_eq_false_iff_ne]; exact fun h => n3 ((eq_toList _ _).1 h)
          by_cases n4 : t = ⟨#[115, 105, 108, 118, 101, 114]⟩
          · subst n4
            have hL := parse_silver
            have HP := Lib.hid (fun w => implParseSubst ⟨#[97, 97, 98, 44, 97]⟩ w (by decide))
            rw [hL.1, hL.2] at HP
            have hN : namedL ⟨#[115, 105, 108, 118, 101, 114]⟩ = [⟨#[97, 97, 98]⟩, ⟨#[97]⟩] := by decide
            have hK : namedOk ⟨#[115, 105, 108, 118, 101, 114]⟩ = true := by decide
            rw [hN, hK]
            clear hL hN hK
            go_enter Try.func37, Try.ntmps37
            go_wp2_with fail
            refine (HP.out _).mono ?_
            rintro e w1 ⟨v, rfl, ho, hb1⟩
            obtain ⟨A, cp, rfl⟩ := own_slice ho
            have c1 : w1.cell? ⟨w.heap.size, 0, none⟩ = some (.slice none 0 0) := (hb1.cell (p := ⟨w.heap.size, 0, none⟩) (by simp)).trans (by go_simp)
            have f1 : w1.frozen? ⟨w.heap.size, 0, none⟩ = false := (hb1.frozen (p := ⟨w.heap.size, 0, none⟩) (by simp)).trans (by go_simp)
            have HO := Lib.hid ho
            have HB : Hid (Below w.heap.size w w1) := ((Below.refl _ _).alloc (Nat.le_refl _) _).trans (hb1.mono (by simp))
            clear ho hb1
            go_wp2_with fail
            exact bodyPost_ret (v := .tuple #[.agg #[_], .bool true]) (by simp [results, Try.results37, go_sem, c1]) rfl ⟨_, rfl, own_mono (own_setCell HO.out (by simp) _) (by simp), HB.out.setCell (by simp) _⟩
          · have b4 : (t.toList == [115, 105, 108, 118, 101, 114]) = false := by rw [beq_eq_false_iff_ne]; exact fun h => n4 ((eq_toList _ _).1 h)
            by_cases n5 : t = ⟨#[115, 113, 117, 97, 114, 101, 102, 114, 101, 101]⟩
            · subst n5
              have hL := parse_squarefree
              have HP := Lib.hid (fun w => implParseSubst ⟨#[97, 98, 99, 44, 97, 99, 44, 98]⟩ w (by decide))
              rw [hL.1, hL.2] at HP
              have hN : namedL ⟨#[115, 113, 117, 97, 114, 101, 102, 114, 101, 101]⟩ = [⟨#[97, 98, 99]⟩, ⟨#[97, 99]⟩, ⟨#[98]⟩] := by decide
              have hK : namedOk ⟨#[115, 113, 117, 97, 114, 101, 102, 114, 101, 101]⟩ = true := by decide
              rw [hN, hK]
              clear hL hN hK
              go_enter Try.func37, Try.ntmps37
              go_wp2_with fail
              refine (HP.out _).mono ?_
              rintro e w1 ⟨v, rfl, ho, hb1⟩
              obtain ⟨A, cp, rfl⟩ := own_slice ho
              have c1 : w1.cell? ⟨w.heap.size, 0, none⟩ = some (.slice none 0 0) := (hb1.cell (p := ⟨w.heap.size, 0, none⟩) (by simp)).trans (by go_simp)
              have f1 : w1.frozen? ⟨w.heap.size, 0, none⟩ = false := (hb1.frozen (p := ⟨w.heap.size, 0, none⟩) (by simp)).trans (by go_simp)
              have HO := Lib.hid ho
              have HB : Hid (Below w.heap.size w w1) := ((Below.refl _ _).alloc (Nat.le_refl _) _).trans (hb1.mono (by simp))
              clear ho hb1
              go_wp2_with fail
              exact bodyPost_ret (v := .tuple #[.agg #[_], .bool true]) (by simp [results, Try.results37, go_sem, c1]) rfl ⟨_, rfl, own_mono (own_setCell HO.out (by simp) _) (by simp), HB.out.setCell (by simp) _⟩
            · have b5 : (t.toList == [115, 113, 117, 97, 114, 101, 102, 114, 101, 101]) = false := by rw [beq_eq_false_iff_ne]; exact fun h => n5 ((eq_toList _ _).1 h)
              by_cases n6 : t = ⟨#[114, 117, 100, 105, 110]⟩
              · subst n6
                have hL := parse_rudin
                have HP := Lib.hid (fun w => implParseSubst ⟨#[97, 98, 44, 97, 99, 44, 100, 98, 44, 100, 99]⟩ w (by decide))
                rw [hL.1, hL.2] at HP
                have hN : namedL ⟨#[114, 117, 100, 105, 110]⟩ = [⟨#[97, 98]⟩, ⟨#[97, 99]⟩, ⟨#[100, 98]⟩, ⟨#[100, 99]⟩] := by decide
                have hK : namedOk ⟨#[114, 117, 100, 105, 110]⟩ = true := by decide
                rw [hN, hK]
                clear hL hN hK
                go_enter Try.func37, Try.ntmps37
                go_wp2_with fail
                refine (HP.out _).mono ?_
                rintro e w1 ⟨v, rfl, ho, hb1⟩
                obtain ⟨A, cp, rfl⟩ := own_slice ho
                have c1 : w1.cell? ⟨w.heap.size, 0, none⟩ = some (.slice none 0 0) := (hb1.cell (p := ⟨w.heap.size, 0, none⟩) (by simp)).trans (by go_simp)
                have f1 : w1.frozen? ⟨w.heap.size, 0, none⟩ = false := (hb1.frozen (p := ⟨w.heap.size, 0, none⟩) (by simp)).trans (by go_simp)
                have HO := Lib.hid ho
                have HB : Hid (Below w.heap.size w w1) := ((Below.refl _ _).alloc (Nat.le_refl _) _).trans (hb1.mono (by simp))
                clear ho hb1
                go_wp2_with fail
                exact bodyPost_ret (v := .tuple #[.agg #[_], .bool true]) (by simp [results, Try.results37, go_sem, c1]) rfl ⟨_, rfl, own_mono (own_setCell HO.out (by simp) _) (by simp), HB.out.setCell (by simp) _⟩
              · have b6 : (t.toList == [114, 117, 100, 105, 110]) = false := by rw [beq_eq_false_iff_ne]; exact fun h => n6 ((eq_toList _ _).1 h)
                have hN : namedL t = [] := by unfold namedL; rw [if_neg n0, if_neg n1, if_neg n2, if_neg n3, if_neg n4, if_neg n5, if_neg n6]
                have hK : namedOk t = false := by unfold namedOk; rw [hN]; rfl
                rw [hN, hK]
                have hbz := build_zero
                clear hN hK n0 n1 n2 n3 n4 n5 n6
                go_enter Try.func37, Try.ntmps37
                go_wp2_with fail
                exact bodyPost_ret (v := .tuple #[.agg #[.slice none 0 0], .bool false]) (by simp [results, Try.results37, go_sem]) rfl ⟨_, rfl, World.ownsRow_nil _ _ _ _, (Below.refl _ _).alloc (Nat.le_refl _) _⟩
end Go.Proofs.Ytgekhijjeojhaaa
