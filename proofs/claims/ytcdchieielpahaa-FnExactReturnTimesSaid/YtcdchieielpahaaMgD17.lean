/- Texts put together. -/
import Derived.Test.YtcdchieielpahaaMgD16
import Derived.Carry
import Derived.Test.YtcdchieielpahaaMgD3
import Derived.Test.YtcdchieielpahaaMgD1
import Derived.RegionTactic
import Derived.Test.YtcdchieielpahaaMgD7
/- Chapter 12 of the model: GapLengths, ReturnTimes; ReturnTime and CountIn with Below. No conditions. -/
namespace Go.Proofs.Ytcdchieielpahaa
open Go.RowKit Go.Lib

theorem inI_length : ∀ (l : List Int) (x : Int), (inI l x).length ≤ l.length + 1
  | [], x => by simp [inI]
  | a :: l, x => by
    have := inI_length l x
    unfold inI
    split
    · simp
    · split
      · simp; omega
      · simp
theorem glTo_len (l : List Int) : ∀ k, (glTo l k).length ≤ k
  | 0 => Nat.le_refl _
  | k + 1 => by
    have := glTo_len l k
    have := inI_length (glTo l k) (l.getD k 0)
    show (inI _ _).length ≤ k + 1
    omega
theorem glTo_asc (l : List Int) : ∀ k, AscI (glTo l k)
  | 0 => List.Pairwise.nil
  | k + 1 => inI_asc _ (glTo_asc l k)
theorem rsTo_len (p q a b : Int) : ∀ k, (rsTo p q a b k).length ≤ k
  | 0 => Nat.le_refl _
  | k + 1 => by
    have := rsTo_len p q a b k
    have := inI_length (rsTo p q a b k) (rtT p q a b (a + (k : Int)))
    unfold rsTo
    split <;> omega
theorem rsTo_asc (p q a b : Int) : ∀ k, AscI (rsTo p q a b k)
  | 0 => List.Pairwise.nil
  | k + 1 => by
    unfold rsTo
    split
    · exact inI_asc _ (rsTo_asc p q a b k)
    · exact rsTo_asc p q a b k
theorem gpR_len (p q n : Int) : (gpR p q n).length ≤ 1000 := by
  unfold gpR
  rw [ds_len]
  exact (pt_facts p q n).1
theorem ptR_len (p q n : Int) : (ptR p q n).length ≤ 1000 := (pt_facts p q n).1
theorem glnR_len (p q n : Int) : (glnR p q n).length ≤ 1000 := Nat.le_trans (glTo_len _ _) (gpR_len p q n)
theorem rsR_len (p q a b : Int) : (rsR p q a b).length ≤ 1000 := by
  by_cases hok : (arOk p q a b && decide (a ≤ b)) = true
  · have hv : rsR p q a b = rsTo p q a b (b - a + 1).toNat := if_pos hok
    rw [hv]
    have := rsTo_len p q a b (b - a + 1).toNat
    unfold arOk at hok
    simp only [Bool.and_eq_true, decide_eq_true_eq] at hok
    omega
  · have hv : rsR p q a b = [] := if_neg hok
    rw [hv]
    exact Nat.zero_le _

set_option maxRecDepth 100000 in
set_option maxHeartbeats 1000000 in
theorem specGapLengths (p q n : Int) (w : World) :
    Calls Try.prog 18 #[.int .i64 p, .int .i64 q, .int .i64 n] w fun e w' => ∃ v, e = .returned v ∧ w'.ownsRow w.heap.size 3 1 v (glnR p q n).length (ints (glnR p q n)) ∧ Below w.heap.size w w' := by
  have HGO := Lib.hid (fun w => specGapsOf p q n w)
  have hl := gpR_len p q n
  have HV : Hid (glnR p q n = glTo (gpR p q n) (gpR p q n).length) := rfl
  generalize glnR p q n = R at *
  generalize gpR p q n = l at *
  have HNX : Hid (∀ k, glTo l (k + 1) = inI (glTo l k) (l.getD k 0)) := fun _ => rfl
  have HLE := Lib.hid (glTo_len l)
  have HAS := Lib.hid (glTo_asc l)
  have H0 : Hid (glTo l 0 = []) := rfl
  generalize glTo l = T at *
  go_enter Try.func18, Try.ntmps18
  go_wp2_with fail
  refine (HGO.out _).mono ?_
  rintro e w1 ⟨v, rfl, ho, hb1⟩
  have HO := Lib.hid ho
  have HR0 := Lib.hid (own_below (own_made0 w w.heap.size 3 (Nat.le_refl _)) hb1)
  have HBW : Hid (Below w.heap.size w w1) := ((Below.refl _ _).alloc (Nat.le_refl _) _).trans (hb1.mono (by simp))
  have hsz1 : w.heap.size ≤ w1.heap.size := HBW.out.size
  obtain ⟨A, cp, rfl⟩ := own_slice ho
  clear ho hb1
  go_wp2_with fail
  go_loopw [7, 16] (fun o iv w' => ∃ (k g cp : Nat), k ≤ l.length ∧ iv = .int .i64 (k : Int) ∧ o = .slice (some ⟨g, 0, none⟩) (T k).length cp ∧ w'.ownsRow w.heap.size 3 1 o (T k).length (ints (T k)) ∧ Below w1.heap.size w1 w') (fun _ iv _ => l.length - (intOf iv).toNat)
  case atStart =>
    refine ⟨0, _, 0, Nat.zero_le _, rfl, by rw [H0.out]; rfl, ?_, Below.refl _ _⟩
    rw [H0.out]
    exact HR0.out
  case round =>
    obtain ⟨k, g3, cp3, hk, rfl, rfl, ho3, hb3⟩ := hrel
    have HO3 := Lib.hid ho3
    have HB3 := Lib.hid hb3
    have hbz := hb3.size
    clear ho3 hb3
    by_cases hlt : k < l.length
    · obtain ⟨g, cp', he, _⟩ := own_some HO.out (by omega)
      injection he with he _ he2
      subst he; subst he2
      have hgl := (HO.out.lt g rfl).2
      have hlt' : (k : Int) < (l.length : Int) := by omega
      have ck : wr.cell? ⟨g, k, none⟩ = some (.int .i64 (l.getD k 0)) := (HB3.out.cell (p := ⟨g, k, none⟩) hgl).trans ((World.ownsRow.cellAt HO.out k (by omega)).trans (ints_getD hlt))
      have HN := Lib.hid (HNX.out k)
      generalize l.getD k 0 = x at *
      have HCALL := Lib.hid (fun wx h hz => specInsertI (T k) g3 cp3 x wx w.heap.size h (HAS.out k) (by have := HLE.out k; omega) hz)
      have HLK := Lib.hid (HLE.out (k + 1))
      generalize T k = m at HO3 HN HCALL ⊢
      go_wp2_with fail
      refine (HCALL.out _ HO3.out (by omega)).mono ?_
      rintro e w2 ⟨g2, cp2, rfl, ho2, hb2⟩
      have HO2 := Lib.hid ho2
      have HB2 : Hid (Below w1.heap.size w1 w2) := HB3.out.trans (hb2.mono hbz)
      clear ho2 hb2
      go_wp2_with fail
      go_roundw
      case rel => exact ⟨k + 1, g2, cp2, by omega, by go_num, by rw [HN.out], by rw [HN.out]; exact HO2.out, HB2.out⟩
      case measure => simp [intOf]; omega
    · have hkl : k = l.length := by omega
      subst hkl
      have hlt' : ¬ (l.length : Int) < (l.length : Int) := by omega
      have HR : Hid (R = T l.length) := HV.out
      generalize T l.length = m at *
      go_wp2_with fail
      go_ret
      exact ⟨_, rfl, by rw [HR.out]; exact HO3.out, HBW.out.trans (HB3.out.mono hsz1)⟩

set_option maxRecDepth 100000 in
set_option maxHeartbeats 1000000 in
theorem specReturnTimes (p q a b : Int) (w : World) :
    Calls Try.prog 24 #[.int .i64 p, .int .i64 q, .int .i64 a, .int .i64 b] w fun e w' => ∃ v, e = .returned v ∧ w'.ownsRow w.heap.size 3 1 v (rsR p q a b).length (ints (rsR p q a b)) ∧ Below w.heap.size w w' := by
  have HAR := Lib.hid (fun w => specArc p q a b w)
  by_cases hok : (arOk p q a b && decide (a ≤ b)) = true
  · have HV : Hid (rsR p q a b = rsTo p q a b (b - a + 1).toNat) := if_pos hok
    rw [Bool.and_eq_true, decide_eq_true_eq] at hok
    obtain ⟨h1, hab⟩ := hok
    rw [h1] at HAR
    have hh := h1
    unfold arOk at hh
    simp only [Bool.and_eq_true, decide_eq_true_eq] at hh
    have hq : 1 ≤ q ∧ q ≤ 1000 := hh.1
    have ha : 0 ≤ a ∧ a ≤ q - 1 := hh.2.2.1
    have hb : 0 ≤ b ∧ b ≤ q - 1 := hh.2.2.2
    clear hh h1
    have HRT := Lib.hid (fun f w => specReturnTimeQ p q a b f w)
    have HNX : Hid (∀ k : Nat, (0 < rtT p q a b (a + (k : Int)) → rsTo p q a b (k + 1) = inI (rsTo p q a b k) (rtT p q a b (a + (k : Int)))) ∧ (¬ 0 < rtT p q a b (a + (k : Int)) → rsTo p q a b (k + 1) = rsTo p q a b k)) := fun k => ⟨fun h => if_pos h, fun h => if_neg h⟩
    have HLE := Lib.hid (rsTo_len p q a b)
    have HAS := Lib.hid (rsTo_asc p q a b)
    have H0 : Hid (rsTo p q a b 0 = []) := rfl
    obtain ⟨M, hM⟩ : ∃ M : Nat, (b - a + 1).toNat = M := ⟨_, rfl⟩
    have hMa : b - a + 1 = (M : Int) := by omega
    rw [hM] at HV
    clear hM
    generalize rsR p q a b = R at *
    generalize rsTo p q a b = T at *
    generalize rtT p q a b = F at *
    have hgt : ¬ a > b := by omega
    go_enter Try.func24, Try.ntmps24
    go_wp2_with fail
    refine (HAR.out _).mono ?_
    rintro e w' ⟨rfl, rfl⟩
    go_wp2_with fail
    go_loopw [9, 10] (fun o iv w' => ∃ (k g cp : Nat), k ≤ M ∧ iv = .int .i64 (a + (k : Int)) ∧ o = .slice (some ⟨g, 0, none⟩) (T k).length cp ∧ w'.ownsRow w.heap.size 3 1 o (T k).length (ints (T k)) ∧ Below w.heap.size w w') (fun _ iv _ => (b + 1 - intOf iv).toNat)
    case atStart =>
      refine ⟨0, _, 0, Nat.zero_le _, by rw [show a + ((0 : Nat) : Int) = a from by omega], by rw [H0.out]; rfl, ?_, (Below.refl _ _).alloc (Nat.le_refl _) _⟩
      rw [H0.out]
      exact own_made0 w _ _ (Nat.le_refl _)
    case round =>
      obtain ⟨k, g3, cp3, hk, rfl, rfl, ho3, hb3⟩ := hrel
      have HO3 := Lib.hid ho3
      have HB3 := Lib.hid hb3
      have hbz := hb3.size
      clear ho3 hb3
      by_cases hlt : k < M
      · have hlt' : a + (k : Int) ≤ b := by omega
        have HN := Lib.hid (HNX.out k)
        have HC := Lib.hid (fun w => HRT.out (a + (k : Int)) w)
        have hwr : wrap64 (a + (k : Int) + 1) = a + (k : Int) + 1 := IntWalk.wrap64_in _ (by omega)
        have HCALL := Lib.hid (fun wx h hz => specInsertI (T k) g3 cp3 (F (a + (k : Int))) wx w.heap.size h (HAS.out k) (by have := HLE.out k; omega) hz)
        generalize F (a + (k : Int)) = x at *
        generalize hTk : T k = m at HO3 HN HCALL ⊢
        go_wp2_with fail
        refine (HC.out _).mono ?_
        rintro e w2 ⟨rfl, rfl⟩
        by_cases hx : 0 < x
        · have HN1 := Lib.hid (HN.out.1 (by omega))
          have hx' : x > 0 := hx
          clear HN
          go_wp2_with fail
          refine (HCALL.out _ HO3.out hbz).mono ?_
          rintro e w2 ⟨g2, cp2, rfl, ho2, hb2⟩
          have HO2 := Lib.hid ho2
          have HB2 : Hid (Below w.heap.size w w2) := HB3.out.trans (hb2.mono hbz)
          clear ho2 hb2
          go_wp2_with fail
          go_roundw
          case rel => exact ⟨k + 1, g2, cp2, by omega, by go_num, by rw [HN1.out], by rw [HN1.out]; exact HO2.out, HB2.out⟩
          case measure => simp [intOf]; omega
        · have HN1 := Lib.hid (HN.out.2 (by omega))
          have hx' : ¬ x > 0 := hx
          clear HN
          go_wp2_with fail
          go_roundw
          case rel => exact ⟨k + 1, g3, cp3, by omega, by go_num, by rw [HN1.out], by rw [HN1.out]; exact HO3.out, HB3.out⟩
          case measure => simp [intOf]; omega
      · have hkl : k = M := by omega
        subst hkl
        have hlt' : ¬ a + (k : Int) ≤ b := by omega
        have HR : Hid (R = T k) := HV.out
        generalize T k = m at *
        go_wp2_with fail
        go_ret
        exact ⟨_, rfl, by rw [HR.out]; exact HO3.out, HB3.out⟩
  · have HV : Hid (rsR p q a b = []) := if_neg hok
    cases h1 : arOk p q a b
    · rw [h1] at HAR
      clear h1 hok
      generalize rsR p q a b = R at *
      go_enter Try.func24, Try.ntmps24
      go_wp2_with fail
      refine (HAR.out _).mono ?_
      rintro e w' ⟨rfl, rfl⟩
      go_wp2_with fail
      go_ret
      exact ⟨_, rfl, by rw [HV.out]; exact ⟨by rfl, .inl ⟨rfl, rfl⟩⟩, Below.refl _ _⟩
    · rw [h1] at HAR
      have hab : a > b := by
        rw [h1, Bool.true_and, decide_eq_true_eq] at hok
        omega
      clear h1 hok
      generalize rsR p q a b = R at *
      go_enter Try.func24, Try.ntmps24
      go_wp2_with fail
      refine (HAR.out _).mono ?_
      rintro e w' ⟨rfl, rfl⟩
      go_wp2_with fail
      go_ret
      exact ⟨_, rfl, by rw [HV.out]; exact ⟨by rfl, .inl ⟨rfl, rfl⟩⟩, Below.refl _ _⟩

theorem specReturnTime (p q a b f : Int) (w : World) :
    Calls Try.prog 22 #[.int .i64 p, .int .i64 q, .int .i64 a, .int .i64 b, .int .i64 f] w fun e w' => e = .returned (.int .i64 (rtT p q a b f)) ∧ Below w.heap.size w w' := by
  exact (specReturnTimeQ p q a b f w).mono (fun _ _ h => ⟨h.1, by rw [← h.2]; exact Below.refl _ _⟩)
theorem specCountIn (p q n a b : Int) (w : World) :
    Calls Try.prog 26 #[.int .i64 p, .int .i64 q, .int .i64 n, .int .i64 a, .int .i64 b] w fun e w' => e = .returned (.int .i64 (ciR p q n a b)) ∧ Below w.heap.size w w' := by
  exact (specCountInQ p q n a b w).mono (fun _ _ h => ⟨h.1, by rw [← h.2]; exact Below.refl _ _⟩)
end Go.Proofs.Ytcdchieielpahaa

/- The arguments of a law of five parameters. -/
namespace Go.Proofs.Ytcdchieielpahaa
open Go.RowKit Go.ChangeShapes
theorem trodFive {H : Type} {enc : TypeId × Value → H} {P : Program} {w : World} {base : Nat} {spare : Nat → Bool} {held : Bool} {ta tb tc td te : TypeId} {args : Array Value} {ds : List (DataW H)} {ps : List MemPlace} (h : DataW.TrodAll enc P w base spare held [ta, tb, tc, td, te] args.toList ds ps) :
    ∃ a b c d e da db dc dd de pa pb pc pd pe, args = #[a, b, c, d, e] ∧ ds = [da, db, dc, dd, de] ∧ ps = pa ++ pb ++ pc ++ pd ++ pe ∧ DataW.Trod enc P w base spare held ta a da pa ∧ DataW.Trod enc P w base spare held tb b db pb ∧ DataW.Trod enc P w base spare held tc c dc pc ∧ DataW.Trod enc P w base spare held td d dd pd ∧ DataW.Trod enc P w base spare held te e de pe := by
  obtain ⟨a, va, da, la, pa, qa, ha, rfl, rfl, ka, r1⟩ := trodAll_cons h
  obtain ⟨b, c, d, e, db, dc, dd, de, pb, pc, pd, pe, hb, rfl, rfl, kb, kc, kd, ke⟩ := trodAll_four (args := va.toArray) (by simpa using r1)
  refine ⟨a, b, c, d, e, da, db, dc, dd, de, pa, pb, pc, pd, pe, ?_, rfl, by simp, ka, kb, kc, kd, ke⟩
  have h2 : va = [b, c, d, e] := by simpa using congrArg Array.toList hb
  cases args
  simp_all
end Go.Proofs.Ytcdchieielpahaa

/- The program's isBetween and isCircle (the points as a row of at most 8 numbers). No other condition. -/
namespace Go.Proofs.Ytcdchieielpahaa
open Go.RowKit

set_option maxHeartbeats 1000000 in
theorem implIsBetween (x a b : Int) (w : World) :
    Calls Try.prog 41 #[.int .i64 x, .int .i64 a, .int .i64 b] w fun e w' => e = .returned (.bool (decide (a ≤ x) && decide (x ≤ b))) ∧ w = w' := by
  by_cases h1 : a ≤ x <;> by_cases h2 : x ≤ b
  all_goals
    go_enter Try.func41, Try.ntmps41
    go_wp2_with fail
    go_ret
    first | exact ⟨by simp [h1, h2], rfl⟩ | exact ⟨rfl, rfl⟩

/-- on the circle -/
def onB (q : Int) (l : List Int) : Bool := l.all fun x => decide (0 ≤ x) && decide (x < q)
def cirB (q : Int) (l : List Int) : Bool := onB q l && (decide (1 ≤ q) && decide (q ≤ 1000))

set_option maxRecDepth 100000 in
set_option maxHeartbeats 1000000 in
theorem implIsCircle (q : Int) (l : List Int) (g cp : Nat) (w : World) (hl : l.length ≤ 8) (hc : ∀ j, j < l.length → w.cell? ⟨g, j, none⟩ = some (.int .i64 (l.getD j 0))) :
    Calls Try.prog 40 #[.int .i64 q, .slice (some ⟨g, 0, none⟩) l.length cp] w fun e w' => e = .returned (.bool (cirB q l)) ∧ w = w' := by
  have HC := Lib.hid hc
  clear hc
  go_enter Try.func40, Try.ntmps40
  go_wp2_with fail
  go_loopw [9] (fun iv wr => ∃ i : Nat, i ≤ l.length ∧ iv = .int .i64 (i : Int) ∧ onB q (l.take i) = true ∧ w = wr) (fun iv _ => l.length - (intOf iv).toNat)
  case atStart => exact ⟨0, Nat.zero_le _, rfl, rfl, rfl⟩
  case round =>
    obtain ⟨i, hi, rfl, ho, rfl⟩ := hrel
    have HO := Lib.hid ho
    clear ho
    by_cases hlt : i < l.length
    · have hlt' : (i : Int) < (l.length : Int) := by omega
      have hci := HC.out i hlt
      have HT : Hid (l.take (i + 1) = l.take i ++ [l.getD i 0]) := by
        show _ = _
        rw [List.take_add_one, List.getElem?_eq_getElem hlt, List.getD_eq_getElem?_getD, List.getElem?_eq_getElem hlt]
        rfl
      have HN : Hid (onB q (l.take (i + 1)) = (decide (0 ≤ l.getD i 0) && decide (l.getD i 0 < q))) := by
        show _ = _
        rw [HT.out]
        unfold onB at HO ⊢
        rw [List.all_append, HO.out]
        simp
      have HF : Hid ((decide (0 ≤ l.getD i 0) && decide (l.getD i 0 < q)) = false → cirB q l = false) := by
        intro h
        have : onB q l = false := by
          unfold onB
          rw [List.all_eq_false]
          refine ⟨l.getD i 0, ?_, by simpa using h⟩
          rw [List.getD_eq_getElem?_getD, List.getElem?_eq_getElem hlt]
          exact List.getElem_mem hlt
        unfold cirB
        rw [this, Bool.false_and]
      generalize l.getD i 0 = x at *
      by_cases h1 : x < 0
      · have HF1 : Hid (cirB q l = false) := HF.out (by simp; intro; omega)
        go_wp2_with fail
        go_ret
        exact ⟨ret_bool HF1.out.symm, rfl⟩
      · by_cases h2 : x ≥ q
        · have HF1 : Hid (cirB q l = false) := HF.out (by simp; intro; omega)
          go_wp2_with fail
          go_ret
          exact ⟨ret_bool HF1.out.symm, rfl⟩
        · have HN1 : Hid (onB q (l.take (i + 1)) = true) := HN.out.trans (by simp; omega)
          go_wp2_with fail
          go_roundw
          case rel => exact ⟨i + 1, by omega, by go_num, HN1.out, trivial⟩
          case measure => simp [intOf]; omega
    · have hil : i = l.length := by omega
      subst hil
      have HV : Hid (cirB q l = (decide (1 ≤ q) && decide (q ≤ 1000))) := by
        show _ = _
        have h := HO.out
        rw [List.take_length] at h
        unfold cirB
        rw [h, Bool.true_and]
      have hlt' : ¬ (l.length : Int) < (l.length : Int) := by omega
      by_cases h1 : q ≥ 1 <;> by_cases h2 : q ≤ 1000
      all_goals
        go_wp2_with fail
        go_ret
        exact ⟨ret_bool (by rw [HV.out]; simp [h1, h2]), rfl⟩
end Go.Proofs.Ytcdchieielpahaa

/- The program's ReturnTime. No condition. -/
namespace Go.Proofs.Ytcdchieielpahaa
open Go.RowKit Go.Lib

theorem rt_cir (p q a b f : Int) : cirB q [p, a, b, f] = rtOkF p q a b f := by
  rw [Bool.eq_iff_iff]
  simp [rtOkF, arOk, cirB, onB]
  omega

set_option maxRecDepth 100000 in
set_option maxHeartbeats 1000000 in
theorem implReturnTime (p q a b f : Int) (w : World) :
    Calls Try.prog 23 #[.int .i64 p, .int .i64 q, .int .i64 a, .int .i64 b, .int .i64 f] w fun e w' => e = .returned (.int .i64 (rtT p q a b f)) ∧ Below w.heap.size w w' := by
  have HBT := Lib.hid (fun x w => implIsBetween x a b w)
  have HC : Hid (∀ (g : Nat) (w : World), w.cell? ⟨g, 0, none⟩ = some (.int .i64 p) → w.cell? ⟨g, 1, none⟩ = some (.int .i64 a) → w.cell? ⟨g, 2, none⟩ = some (.int .i64 b) → w.cell? ⟨g, 3, none⟩ = some (.int .i64 f) →
      Calls Try.prog 40 #[.int .i64 q, .slice (some ⟨g, 0, none⟩) 4 4] w fun e w' => e = .returned (.bool (rtOkF p q a b f)) ∧ w = w') := fun g w h0 h1 h2 h3 => by
    rw [← rt_cir]
    exact implIsCircle q [p, a, b, f] g 4 w (by simp) (by
      intro j hj
      simp at hj
      rcases (by omega : j = 0 ∨ j = 1 ∨ j = 2 ∨ j = 3) with rfl | rfl | rfl | rfl
      · exact h0
      · exact h1
      · exact h2
      · exact h3)
  obtain ⟨wn, hwn⟩ : ∃ x, x = (w.alloc (.cells #[.int .i64 p, .int .i64 a, .int .i64 b, .int .i64 f] 3)) := ⟨_, rfl⟩
  have n0 : wn.cell? ⟨w.heap.size, 0, none⟩ = some (.int .i64 p) := by rw [hwn, World.cell?_alloc_at _ _ _ _ rfl]; rfl
  have n1 : wn.cell? ⟨w.heap.size, 1, none⟩ = some (.int .i64 a) := by rw [hwn, World.cell?_alloc_at _ _ _ _ rfl]; rfl
  have n2 : wn.cell? ⟨w.heap.size, 2, none⟩ = some (.int .i64 b) := by rw [hwn, World.cell?_alloc_at _ _ _ _ rfl]; rfl
  have n3 : wn.cell? ⟨w.heap.size, 3, none⟩ = some (.int .i64 f) := by rw [hwn, World.cell?_alloc_at _ _ _ _ rfl]; rfl
  have HK := Lib.hid (HC.out w.heap.size wn n0 n1 n2 n3)
  have HB : Hid (Below w.heap.size w wn) := by rw [hwn]; exact (Below.refl _ _).alloc (Nat.le_refl _) _
  clear HC n0 n1 n2 n3
  cases h1 : rtOkF p q a b f
  · have HV : Hid (rtT p q a b f = -1) := if_neg (by rw [h1]; decide)
    rw [h1] at HK
    clear h1
    generalize rtT p q a b f = r at *
    go_enter Try.func23, Try.ntmps23
    go_wp2_with fail
    rw [← hwn]
    refine (HK.out).mono ?_
    rintro e w' ⟨rfl, rfl⟩
    go_wp2_with fail
    go_ret
    exact ⟨ret_int HV.out.symm, by first | exact HB.out | (rw [← hwn]; exact HB.out)⟩
  rw [h1] at HK
  have hh := h1
  unfold rtOkF arOk at hh
  simp only [Bool.and_eq_true, decide_eq_true_eq] at hh
  have hq : 1 ≤ q ∧ q ≤ 1000 := hh.1.1
  have hp : 0 ≤ p ∧ p ≤ q - 1 := hh.1.2.1
  have hf : 0 ≤ f ∧ f ≤ q - 1 := hh.2
  clear hh
  have HV : Hid (rtT p q a b f = rtTo p q a b f 1 1000) := if_pos h1
  have HST := Lib.hid (rt_step p q a b f)
  have H0 : Hid (∀ i, rtTo p q a b f i 0 = -1) := fun i => rfl
  have HIA : Hid (∀ i : Nat, inA p q a b f i = (decide (a ≤ (f + (i : Int) * p) % q) && decide ((f + (i : Int) * p) % q ≤ b))) := fun i => rfl
  clear h1
  generalize rtT p q a b f = r at *
  generalize rtTo p q a b f = T at *
  generalize inA p q a b f = I at *
  go_enter Try.func23, Try.ntmps23
  go_wp2_with fail
  rw [← hwn]
  refine (HK.out).mono ?_
  rintro e w' ⟨rfl, rfl⟩
  clear HK hwn
  go_wp2_with fail
  go_loopw [11] (fun iv w' => ∃ i m : Nat, i + m = 1001 ∧ 1 ≤ i ∧ iv = .int .i64 (i : Int) ∧ r = T i m ∧ wn = w') (fun iv _ => 1001 - (intOf iv).toNat)
  case atStart => exact ⟨1, 1000, rfl, Nat.le_refl _, rfl, HV.out, rfl⟩
  case round =>
    obtain ⟨i, m, him, hi1, rfl, hr, rfl⟩ := hrel
    have HR := Lib.hid hr
    clear hr
    by_cases hlt : i ≤ 1000
    · obtain ⟨k, rfl⟩ : ∃ k, m = k + 1 := ⟨m - 1, by omega⟩
      have HS := Lib.hid (HST.out i k)
      have HI := Lib.hid (HIA.out i)
      have hm := mul_1000 (i := (i : Int)) (p := p) (by omega) (by omega) (by omega) (by omega)
      have hlt' : (i : Int) ≤ 1000 := by omega
      obtain ⟨z, hz⟩ : ∃ z, z = (i : Int) * p := ⟨_, rfl⟩
      rw [← hz] at hm HI
      have e1 : wrap64 ((i : Int) * p) = z := by rw [← hz]; exact IntWalk.wrap64_in _ (by omega)
      clear hz
      have hq0 : ¬ q = 0 := by omega
      have hb1 : 0 ≤ (f + z) % q := Int.emod_nonneg _ hq0
      have hb2 : (f + z) % q < q := Int.emod_lt_of_pos _ (by omega)
      have htm : (f + z).tmod q = (f + z) % q := Int.tmod_eq_emod_of_nonneg (by omega)
      generalize (f + z) % q = y at *
      cases hc : I i
      · have HN := Lib.hid (HS.out.2 hc)
        rw [hc] at HI
        clear HS hc
        go_wp2_with fail
        refine (HBT.out _ _).mono ?_
        rintro e w' ⟨rfl, rfl⟩
        rw [← HI.out]
        go_wp2_with fail
        go_roundw
        case rel => exact ⟨i + 1, k, by omega, by omega, by go_num, by rw [HR.out, HN.out], by trivial⟩
        case measure => simp [intOf]; omega
      · have HN := Lib.hid (HS.out.1 hc)
        rw [hc] at HI
        clear HS hc
        go_wp2_with fail
        refine (HBT.out _ _).mono ?_
        rintro e w' ⟨rfl, rfl⟩
        rw [← HI.out]
        go_wp2_with fail
        go_ret
        exact ⟨ret_int (by rw [HR.out, HN.out]), HB.out⟩
    · have hlt' : ¬ (i : Int) ≤ 1000 := by omega
      have hm0 : m = 0 := by omega
      subst hm0
      have HN := Lib.hid (H0.out i)
      go_wp2_with fail
      go_ret
      exact ⟨ret_int (by rw [HR.out, HN.out]), HB.out⟩
end Go.Proofs.Ytcdchieielpahaa
