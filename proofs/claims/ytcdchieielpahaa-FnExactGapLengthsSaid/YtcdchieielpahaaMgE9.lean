/- Texts put together. -/
import Derived.Test.YtcdchieielpahaaMgE8
import Derived.Test.YtcdchieielpahaaMgE5
import Derived.Test.YtcdchieielpahaaChecked
import Derived.Test.YtcdchieielpahaaMgE6
import Derived.BigQuiet
/- What a substitution is, and what it does. No program in it. -/
namespace Go.Proofs.Ytcdchieielpahaa
open Go.RowKit

/-- all letters are among the first n -/
def withinB (n : Nat) (s : ByteArray) : Bool := s.data.toList.all fun c => decide (c.toNat < 97 + n)
def imgB (n : Nat) (s : ByteArray) : Bool := (decide (1 ≤ s.size) && decide (s.size ≤ 8)) && (wordB s && withinB n s)
/-- this list of images is a substitution -/
def substB (l : List ByteArray) : Bool := (decide (1 ≤ l.length) && decide (l.length ≤ 4)) && l.all (imgB l.length)

theorem lall_no {α : Type} {p : α → Bool} (l : List α) (k : Nat) (hk : k < l.length) (h : p l[k] = false) : l.all p = false :=
  List.all_eq_false.2 ⟨_, List.getElem_mem hk, by simp [h]⟩
theorem lall_snoc {α : Type} {p : α → Bool} (l : List α) (k : Nat) (hk : k < l.length) (ha : (l.take k).all p = true) (h : p l[k] = true) : (l.take (k + 1)).all p = true := by
  rw [List.take_succ_eq_append_getElem hk, List.all_append, ha]
  simp [h]
theorem lall_end {α : Type} {p : α → Bool} (l : List α) (ha : (l.take l.length).all p = true) : l.all p = true := by
  rwa [List.take_length] at ha
theorem subst_no {l : List ByteArray} (k : Nat) (hk : k < l.length) (h : imgB l.length l[k] = false) : substB l = false := by
  unfold substB
  rw [lall_no l k hk h, Bool.and_false]
theorem subst_yes {l : List ByteArray} (h1 : 1 ≤ l.length) (h2 : l.length ≤ 4) (ha : (l.take l.length).all (imgB l.length) = true) : substB l = true := by
  unfold substB
  rw [lall_end l ha, decide_eq_true h1, decide_eq_true h2]
  rfl
theorem subst_len {l : List ByteArray} (h : ¬ (1 ≤ l.length ∧ l.length ≤ 4)) : substB l = false := by
  unfold substB
  have : (decide (1 ≤ l.length) && decide (l.length ≤ 4)) = false := by simpa using h
  rw [this, Bool.false_and]
theorem img_no1 {n : Nat} {s : ByteArray} (h : ¬ (1 ≤ s.size ∧ s.size ≤ 8)) : imgB n s = false := by
  unfold imgB
  have : (decide (1 ≤ s.size) && decide (s.size ≤ 8)) = false := by simpa using h
  rw [this, Bool.false_and]
theorem img_no2 {n : Nat} {s : ByteArray} (h : wordB s = false) : imgB n s = false := by
  unfold imgB; rw [h, Bool.false_and, Bool.and_false]
theorem img_no3 {n : Nat} {s : ByteArray} (h : withinB n s = false) : imgB n s = false := by
  unfold imgB; rw [h, Bool.and_false, Bool.and_false]
theorem img_yes {n : Nat} {s : ByteArray} (h1 : 1 ≤ s.size) (h2 : s.size ≤ 8) (h3 : wordB s = true) (h4 : withinB n s = true) : imgB n s = true := by
  unfold imgB; rw [h3, h4, decide_eq_true h1, decide_eq_true h2]; rfl
theorem img_parts {n : Nat} {s : ByteArray} (h : imgB n s = true) : 1 ≤ s.size ∧ s.size ≤ 8 ∧ wordB s = true ∧ withinB n s = true := by
  unfold imgB at h
  simp only [Bool.and_eq_true, decide_eq_true_eq] at h
  exact ⟨h.1.1, h.1.2, h.2.1, h.2.2⟩
theorem subst_parts {l : List ByteArray} (h : substB l = true) : 1 ≤ l.length ∧ l.length ≤ 4 ∧ ∀ k (hk : k < l.length), imgB l.length l[k] = true := by
  unfold substB at h
  simp only [Bool.and_eq_true, decide_eq_true_eq] at h
  exact ⟨h.1.1, h.1.2, fun k hk => List.all_eq_true.1 h.2 _ (List.getElem_mem hk)⟩
theorem within_at {n : Nat} {s : ByteArray} (h : withinB n s = true) (k : Nat) (hk : k < s.size) : s[k].toNat < 97 + n := by
  unfold withinB at h
  have hm : s[k] ∈ s.data.toList := by
    have : s[k] = s.data.toList[k]'(by simpa using hk) := rfl
    rw [this]; exact List.getElem_mem _
  simpa using List.all_eq_true.1 h _ hm

/-- the image of a letter -/
def imgOf (l : List ByteArray) (c : UInt8) : List UInt8 := (l.getD (c.toNat - 97) ⟨#[]⟩).data.toList
def applyL (l : List ByteArray) (w : List UInt8) : List UInt8 := w.flatMap (imgOf l)
theorem imgOf_at (l : List ByteArray) (c : UInt8) (j : Nat) (hj : c.toNat = 97 + j) (hl : j < l.length) : imgOf l c = l[j].data.toList := by
  unfold imgOf
  rw [List.getD_eq_getElem?_getD, show c.toNat - 97 = j from by omega, List.getElem?_eq_getElem hl]
  rfl
theorem applyL_succ (l : List ByteArray) (s : ByteArray) (k : Nat) (h : k < s.size) : applyL l (s.data.toList.take (k + 1)) = applyL l (s.data.toList.take k) ++ imgOf l s[k] := by
  unfold applyL
  rw [take_snoc s k h, List.flatMap_append]
  simp
theorem applyL_take_le (l : List ByteArray) (w : List UInt8) (k : Nat) : (applyL l (w.take k)).length ≤ (applyL l w).length := by
  unfold applyL
  conv => rhs; rw [← List.take_append_drop k w, List.flatMap_append, List.length_append]
  omega
end Go.Proofs.Ytcdchieielpahaa

/- WordOk of the model and its count of a letter. No condition but that a text has at most 2^63 bytes. -/
namespace Go.Proofs.Ytcdchieielpahaa
open Go.RowKit
end Go.Proofs.Ytcdchieielpahaa

/- SubstOk of the model, and what it asks of each image. Conditions: lengths of at most 2^20. -/
namespace Go.Proofs.Ytcdchieielpahaa
open Go.RowKit

theorem specIn (x a b : Int) (w : World) :
    Calls Try.prog 39 #[.int .i64 x, .int .i64 a, .int .i64 b] w fun e w' => e = .returned (.bool (decide (a ≤ x) && decide (x ≤ b))) ∧ w = w' := by
  by_cases h1 : a ≤ x
  · have hd1 : decide (a ≤ x) = true := by simpa using h1
    go_enter Try.func39, Try.ntmps39
    go_wp2
    go_ret
    exact ⟨ret_bool (by simp [h1]), rfl⟩
  · have hd1 : decide (a ≤ x) = false := by simpa using h1
    go_enter Try.func39, Try.ntmps39
    go_wp2
    go_ret
    exact ⟨ret_bool (by simp), rfl⟩

end Go.Proofs.Ytcdchieielpahaa

/- Chapter 12 of the model: l11Ok, l11Arc, ReturnTime, CountIn, NearestTo. No condition. -/
namespace Go.Proofs.Ytcdchieielpahaa
open Go.RowKit Go.Lib

set_option maxHeartbeats 1000000 in
theorem specGapOk (p q n : Int) (w : World) :
    Calls Try.prog 31 #[.int .i64 p, .int .i64 q, .int .i64 n] w fun e w' => e = .returned (.bool (gpOk p q n)) ∧ w = w' := by
  cases h1 : (decide (1 ≤ q) && decide (q ≤ 1000))
  · have HV : Hid (gpOk p q n = false) := by show _ = _; unfold gpOk; rw [h1]; rfl
    have H1 := Lib.hid h1
    clear h1
    go_enter Try.func31, Try.ntmps31
    go_wp2_with fail
    refine (specIn _ _ _ _).mono ?_
    rintro e w' ⟨rfl, rfl⟩
    rw [H1.out]
    go_wp2_with fail
    go_ret
    exact ⟨ret_bool HV.out.symm, rfl⟩
  have H1 := Lib.hid h1
  have hqq := h1
  rw [Bool.and_eq_true, decide_eq_true_eq, decide_eq_true_eq] at hqq
  cases h2 : (decide (0 ≤ p) && decide (p ≤ q - 1))
  · have HV : Hid (gpOk p q n = false) := by show _ = _; unfold gpOk; rw [h2, Bool.false_and, Bool.and_false]
    have H2 := Lib.hid h2
    clear h1 h2
    go_enter Try.func31, Try.ntmps31
    go_wp2_with fail
    refine (specIn _ _ _ _).mono ?_
    rintro e w' ⟨rfl, rfl⟩
    rw [H1.out]
    go_wp2_with fail
    refine (specIn _ _ _ _).mono ?_
    rintro e w' ⟨rfl, rfl⟩
    rw [H2.out]
    go_wp2_with fail
    go_ret
    exact ⟨ret_bool HV.out.symm, rfl⟩
  have H2 := Lib.hid h2
  have HV : Hid (gpOk p q n = (decide (1 ≤ n) && decide (n ≤ 400))) := by show _ = _; unfold gpOk; rw [h1, h2]; rfl
  clear h1 h2
  go_enter Try.func31, Try.ntmps31
  go_wp2_with fail
  refine (specIn _ _ _ _).mono ?_
  rintro e w' ⟨rfl, rfl⟩
  rw [H1.out]
  go_wp2_with fail
  refine (specIn _ _ _ _).mono ?_
  rintro e w' ⟨rfl, rfl⟩
  rw [H2.out]
  go_wp2_with fail
  refine (specIn _ _ _ _).mono ?_
  rintro e w' ⟨rfl, rfl⟩
  rw [← HV.out]
  go_wp2_with fail
  go_ret
  exact ⟨rfl, rfl⟩

set_option maxHeartbeats 1000000 in
theorem specArc (p q a b : Int) (w : World) :
    Calls Try.prog 38 #[.int .i64 p, .int .i64 q, .int .i64 a, .int .i64 b] w fun e w' => e = .returned (.bool (arOk p q a b)) ∧ w = w' := by
  cases h1 : (decide (1 ≤ q) && decide (q ≤ 1000))
  · have HV : Hid (arOk p q a b = false) := by show _ = _; unfold arOk; rw [h1]; rfl
    have H1 := Lib.hid h1
    clear h1
    go_enter Try.func38, Try.ntmps38
    go_wp2_with fail
    refine (specIn _ _ _ _).mono ?_
    rintro e w' ⟨rfl, rfl⟩
    rw [H1.out]
    go_wp2_with fail
    go_ret
    exact ⟨ret_bool HV.out.symm, rfl⟩
  have H1 := Lib.hid h1
  have hqq := h1
  rw [Bool.and_eq_true, decide_eq_true_eq, decide_eq_true_eq] at hqq
  cases h2 : (decide (0 ≤ p) && decide (p ≤ q - 1))
  · have HV : Hid (arOk p q a b = false) := by show _ = _; unfold arOk; rw [h2, Bool.false_and, Bool.and_false]
    have H2 := Lib.hid h2
    clear h1 h2
    go_enter Try.func38, Try.ntmps38
    go_wp2_with fail
    refine (specIn _ _ _ _).mono ?_
    rintro e w' ⟨rfl, rfl⟩
    rw [H1.out]
    go_wp2_with fail
    refine (specIn _ _ _ _).mono ?_
    rintro e w' ⟨rfl, rfl⟩
    rw [H2.out]
    go_wp2_with fail
    go_ret
    exact ⟨ret_bool HV.out.symm, rfl⟩
  have H2 := Lib.hid h2
  cases h3 : (decide (0 ≤ a) && decide (a ≤ q - 1))
  · have HV : Hid (arOk p q a b = false) := by show _ = _; unfold arOk; rw [h3, Bool.false_and, Bool.and_false, Bool.and_false]
    have H3 := Lib.hid h3
    clear h1 h2 h3
    go_enter Try.func38, Try.ntmps38
    go_wp2_with fail
    refine (specIn _ _ _ _).mono ?_
    rintro e w' ⟨rfl, rfl⟩
    rw [H1.out]
    go_wp2_with fail
    refine (specIn _ _ _ _).mono ?_
    rintro e w' ⟨rfl, rfl⟩
    rw [H2.out]
    go_wp2_with fail
    refine (specIn _ _ _ _).mono ?_
    rintro e w' ⟨rfl, rfl⟩
    rw [H3.out]
    go_wp2_with fail
    go_ret
    exact ⟨ret_bool HV.out.symm, rfl⟩
  have H3 := Lib.hid h3
  have HV : Hid (arOk p q a b = (decide (0 ≤ b) && decide (b ≤ q - 1))) := by show _ = _; unfold arOk; rw [h1, h2, h3]; rfl
  clear h1 h2 h3
  go_enter Try.func38, Try.ntmps38
  go_wp2_with fail
  refine (specIn _ _ _ _).mono ?_
  rintro e w' ⟨rfl, rfl⟩
  rw [H1.out]
  go_wp2_with fail
  refine (specIn _ _ _ _).mono ?_
  rintro e w' ⟨rfl, rfl⟩
  rw [H2.out]
  go_wp2_with fail
  refine (specIn _ _ _ _).mono ?_
  rintro e w' ⟨rfl, rfl⟩
  rw [H3.out]
  go_wp2_with fail
  refine (specIn _ _ _ _).mono ?_
  rintro e w' ⟨rfl, rfl⟩
  rw [← HV.out]
  go_wp2_with fail
  go_ret
  exact ⟨rfl, rfl⟩

theorem mul_1000 {i p : Int} (h1 : 0 ≤ i) (h2 : i ≤ 1000) (h3 : 0 ≤ p) (h4 : p ≤ 1000) : 0 ≤ i * p ∧ i * p ≤ 1000000 := by
  have a1 : i * p ≤ 1000 * p := Int.mul_le_mul_of_nonneg_right h2 h3
  exact ⟨Int.mul_nonneg h1 h3, by omega⟩
theorem rt_step (p q a b f : Int) (i m : Nat) : (inA p q a b f i = true → rtTo p q a b f i (m + 1) = i) ∧ (inA p q a b f i = false → rtTo p q a b f i (m + 1) = rtTo p q a b f (i + 1) m) :=
  ⟨fun h => if_pos h, fun h => if_neg (by rw [h]; decide)⟩

set_option maxRecDepth 100000 in
set_option maxHeartbeats 1000000 in
theorem specReturnTimeQ (p q a b f : Int) (w : World) :
    Calls Try.prog 22 #[.int .i64 p, .int .i64 q, .int .i64 a, .int .i64 b, .int .i64 f] w fun e w' => e = .returned (.int .i64 (rtT p q a b f)) ∧ w = w' := by
  have HAR := Lib.hid (fun w => specArc p q a b w)
  cases h1 : arOk p q a b
  · have HV : Hid (rtT p q a b f = -1) := if_neg (by unfold rtOkF; rw [h1, Bool.false_and]; decide)
    rw [h1] at HAR
    clear h1
    generalize rtT p q a b f = r at *
    go_enter Try.func22, Try.ntmps22
    go_wp2_with fail
    refine (HAR.out _).mono ?_
    rintro e w' ⟨rfl, rfl⟩
    go_wp2_with fail
    go_ret
    exact ⟨ret_int HV.out.symm, rfl⟩
  rw [h1] at HAR
  have hh := h1
  unfold arOk at hh
  simp only [Bool.and_eq_true, decide_eq_true_eq] at hh
  have hq : 1 ≤ q ∧ q ≤ 1000 := hh.1
  have hp : 0 ≤ p ∧ p ≤ q - 1 := hh.2.1
  clear hh
  cases h2 : (decide (0 ≤ f) && decide (f ≤ q - 1))
  · have HV : Hid (rtT p q a b f = -1) := if_neg (by unfold rtOkF; rw [h2, Bool.and_false]; decide)
    have H2 := Lib.hid h2
    clear h1 h2
    generalize rtT p q a b f = r at *
    go_enter Try.func22, Try.ntmps22
    go_wp2_with fail
    refine (HAR.out _).mono ?_
    rintro e w' ⟨rfl, rfl⟩
    go_wp2_with fail
    refine (specIn _ _ _ _).mono ?_
    rintro e w' ⟨rfl, rfl⟩
    rw [H2.out]
    go_wp2_with fail
    go_ret
    exact ⟨ret_int HV.out.symm, rfl⟩
  have H2 := Lib.hid h2
  have HV : Hid (rtT p q a b f = rtTo p q a b f 1 1000) := if_pos (by unfold rtOkF; rw [h1, h2]; rfl)
  rw [Bool.and_eq_true, decide_eq_true_eq, decide_eq_true_eq] at h2
  have HST := Lib.hid (rt_step p q a b f)
  have H0 : Hid (∀ i, rtTo p q a b f i 0 = -1) := fun i => rfl
  have HIA : Hid (∀ i : Nat, inA p q a b f i = (decide (a ≤ (f + (i : Int) * p) % q) && decide ((f + (i : Int) * p) % q ≤ b))) := fun i => rfl
  clear h1
  generalize rtT p q a b f = r at *
  generalize rtTo p q a b f = T at *
  generalize inA p q a b f = I at *
  go_enter Try.func22, Try.ntmps22
  go_wp2_with fail
  refine (HAR.out _).mono ?_
  rintro e w' ⟨rfl, rfl⟩
  go_wp2_with fail
  refine (specIn _ _ _ _).mono ?_
  rintro e w' ⟨rfl, rfl⟩
  rw [H2.out]
  go_wp2_with fail
  go_loopw [11] (fun iv w' => ∃ i m : Nat, i + m = 1001 ∧ 1 ≤ i ∧ iv = .int .i64 (i : Int) ∧ r = T i m ∧ w = w') (fun iv _ => 1001 - (intOf iv).toNat)
  case atStart => exact ⟨1, 1000, rfl, Nat.le_refl _, rfl, HV.out, rfl⟩
  case round =>
    obtain ⟨i, m, him, hi1, rfl, hr, rfl⟩ := hrel
    have HR := Lib.hid hr
    clear hr
    by_cases hlt : i ≤ 1000
    · obtain ⟨k, rfl⟩ : ∃ k, m = k + 1 := ⟨m - 1, by omega⟩
      have HS := Lib.hid (HST.out i k)
      have HI := Lib.hid (HIA.out i)
      have hm := mul_1000 (i := (i : Int)) (p := p) (by omega) (by omega) (by omega) (by omega)
      have hlt' : (i : Int) ≤ 1000 := by omega
      obtain ⟨z, hz⟩ : ∃ z, z = (i : Int) * p := ⟨_, rfl⟩
      rw [← hz] at hm HI
      have e1 : wrap64 ((i : Int) * p) = z := by rw [← hz]; exact IntWalk.wrap64_in _ (by omega)
      clear hz
      have hq0 : ¬ q = 0 := by omega
      have hb1 : 0 ≤ (f + z) % q := Int.emod_nonneg _ hq0
      have hb2 : (f + z) % q < q := Int.emod_lt_of_pos _ (by omega)
      have htm : (f + z).tmod q = (f + z) % q := Int.tmod_eq_emod_of_nonneg (by omega)
      generalize (f + z) % q = y at *
      cases hc : I i
      · have HN := Lib.hid (HS.out.2 hc)
        rw [hc] at HI
        clear HS hc
        go_wp2_with fail
        refine (specIn _ _ _ _).mono ?_
        rintro e w' ⟨rfl, rfl⟩
        rw [← HI.out]
        go_wp2_with fail
        go_roundw
        case rel => exact ⟨i + 1, k, by omega, by omega, by go_num, by rw [HR.out, HN.out], by trivial⟩
        case measure => simp [intOf]; omega
      · have HN := Lib.hid (HS.out.1 hc)
        rw [hc] at HI
        clear HS hc
        go_wp2_with fail
        refine (specIn _ _ _ _).mono ?_
        rintro e w' ⟨rfl, rfl⟩
        rw [← HI.out]
        go_wp2_with fail
        go_ret
        exact ⟨ret_int (by rw [HR.out, HN.out]), rfl⟩
    · have hlt' : ¬ (i : Int) ≤ 1000 := by omega
      have hm0 : m = 0 := by omega
      subst hm0
      have HN := Lib.hid (H0.out i)
      go_wp2_with fail
      go_ret
      exact ⟨ret_int (by rw [HR.out, HN.out]), rfl⟩

theorem ci_step (p q : Nat) (a b : Int) (k : Nat) : ciTo p q a b (k + 1) = ciTo p q a b k + if (decide (a ≤ (dpN p q k : Int)) && decide ((dpN p q k : Int) ≤ b)) = true then 1 else 0 := rfl
set_option maxRecDepth 100000 in
set_option maxHeartbeats 1000000 in
theorem specCountInQ (p q n a b : Int) (w : World) :
    Calls Try.prog 26 #[.int .i64 p, .int .i64 q, .int .i64 n, .int .i64 a, .int .i64 b] w fun e w' => e = .returned (.int .i64 (ciR p q n a b)) ∧ w = w' := by
  have HOK := Lib.hid (fun w => specGapOk p q n w)
  cases h1 : gpOk p q n
  · have HV : Hid (ciR p q n a b = -1) := if_neg (by rw [h1]; decide)
    rw [h1] at HOK
    clear h1
    generalize ciR p q n a b = r at *
    go_enter Try.func26, Try.ntmps26
    go_wp2_with fail
    refine (HOK.out _).mono ?_
    rintro e w' ⟨rfl, rfl⟩
    go_wp2_with fail
    go_ret
    exact ⟨ret_int HV.out.symm, rfl⟩
  have HV : Hid (ciR p q n a b = (ciTo p.toNat q.toNat a b n.toNat : Int)) := if_pos h1
  rw [h1] at HOK
  obtain ⟨P, Q, N, rfl, rfl, rfl, q1, q2, p1, n1, n2⟩ := gp_parts h1
  rw [Int.toNat_natCast, Int.toNat_natCast, Int.toNat_natCast] at HV
  clear h1
  have HST := Lib.hid (ci_step P Q a b)
  have HLE := Lib.hid (ciTo_le P Q a b)
  have H0 : Hid (ciTo P Q a b 0 = 0) := rfl
  have HDP : Hid (∀ k, dpN P Q k = k * P % Q) := fun k => rfl
  generalize ciR (P : Int) Q N a b = r at *
  generalize ciTo P Q a b = T at *
  generalize dpN P Q = D at *
  go_enter Try.func26, Try.ntmps26
  go_wp2_with fail
  refine (HOK.out _).mono ?_
  rintro e w' ⟨rfl, rfl⟩
  go_wp2_with fail
  go_loopw [11, 12] (fun cv iv w' => ∃ k c : Nat, k ≤ N ∧ c = T k ∧ cv = .int .i64 (c : Int) ∧ iv = .int .i64 (k : Int) ∧ w = w') (fun _ iv _ => N - (intOf iv).toNat)
  case atStart => exact ⟨0, 0, Nat.zero_le _, H0.out.symm, rfl, rfl, rfl⟩
  case round =>
    obtain ⟨k, c, hk, hc, rfl, rfl, rfl⟩ := hrel
    have hcb : c ≤ k := by rw [hc]; exact HLE.out k
    have HC := Lib.hid hc
    clear hc
    by_cases hlt : k < N
    · have hlt' : (k : Int) < (N : Int) := by omega
      have HS := Lib.hid (HST.out k)
      rw [← HC.out] at HS
      have hm := mul_1000 (i := (k : Int)) (p := (P : Int)) (by omega) (by omega) (by omega) (by omega)
      have hdm := HDP.out k
      obtain ⟨z, hz⟩ : ∃ z : Nat, z = k * P := ⟨_, rfl⟩
      have hzi : (z : Int) = (k : Int) * (P : Int) := by rw [hz, Int.natCast_mul]
      rw [← hz] at hdm
      rw [← hzi] at hm
      have e1 : wrap64 ((k : Int) * (P : Int)) = (z : Int) := by rw [← hzi]; exact IntWalk.wrap64_in _ (by omega)
      have hq0 : ¬ (Q : Int) = 0 := by omega
      have hq0' : ¬ Q = 0 := by omega
      have htm : (z : Int).tmod (Q : Int) = (D k : Int) := by rw [hdm]; rfl
      have hem : (z : Int) % (Q : Int) = (D k : Int) := by rw [hdm]; rfl
      have hdb : D k < Q := by rw [hdm]; exact Nat.mod_lt _ (by omega)
      clear hz hzi hdm
      generalize D k = d at *
      cases hx : (decide (a ≤ (d : Int)) && decide ((d : Int) ≤ b))
      · have HX := Lib.hid hx
        rw [hx, if_neg (by decide)] at HS
        clear hx
        go_wp2_with fail
        refine (specIn _ _ _ _).mono ?_
        rintro e w' ⟨rfl, rfl⟩
        rw [HX.out]
        go_wp2_with fail
        go_roundw
        case rel => exact ⟨k + 1, c, by omega, HS.out.symm, rfl, by go_num, by trivial⟩
        case measure => simp [intOf]; omega
      · have HX := Lib.hid hx
        rw [hx, if_pos rfl] at HS
        clear hx
        go_wp2_with fail
        refine (specIn _ _ _ _).mono ?_
        rintro e w' ⟨rfl, rfl⟩
        rw [HX.out]
        go_wp2_with fail
        go_roundw
        case rel => exact ⟨k + 1, c + 1, by omega, HS.out.symm, by go_num, by go_num, by trivial⟩
        case measure => simp [intOf]; omega
    · have hkn : k = N := by omega
      subst hkn
      have hlt' : ¬ (k : Int) < (k : Int) := by omega
      have HR : Hid ((c : Int) = r) := by show _ = _; rw [HV.out, HC.out]
      go_wp2_with fail
      go_ret
      exact ⟨ret_int HR.out, rfl⟩
end Go.Proofs.Ytcdchieielpahaa
