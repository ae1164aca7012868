/- Plain facts on decimal digits: what a text of digits counts; an int is found again from its text. No program in it. -/
import Derived.Test.YtpocfbhbllphdaaDoorBase
import Derived.Lib.ItoaNum
import Derived.Lib.AtoiAllCases
namespace Go.Proofs.YtpocfbhbllphdaaDoor
open Go.RowKit

theorem bytes_ext {a b : ByteArray} (h : a.toList = b.toList) : a = b := by
  rw [ByteArray.toList_eq, ByteArray.toList_eq] at h
  exact ByteArray.ext (Array.toList_inj.1 h)

def dgB (c : UInt8) : Bool := decide (48 ≤ c.toNat) && decide (c.toNat ≤ 57)
def valF (acc : Nat) : List UInt8 → Nat
  | [] => acc
  | c :: r => valF (acc * 10 + (c.toNat - 48)) r
theorem valF_snoc (l : List UInt8) (c : UInt8) : ∀ acc, valF acc (l ++ [c]) = valF acc l * 10 + (c.toNat - 48) := by
  induction l with
  | nil => intro acc; rfl
  | cons b r ih => intro acc; exact ih _
theorem valF_ge : ∀ (l : List UInt8) (acc : Nat), acc ≤ valF acc l
  | [], acc => Nat.le_refl _
  | c :: r, acc => Nat.le_trans (by omega) (valF_ge r (acc * 10 + (c.toNat - 48)))
theorem valF_append (l r : List UInt8) : ∀ acc, valF acc (l ++ r) = valF (valF acc l) r := by
  induction l with
  | nil => intro acc; rfl
  | cons b t ih => intro acc; exact ih _
theorem valF_take (l : List UInt8) (k : Nat) : valF 0 (l.take k) ≤ valF 0 l := by
  conv => rhs; rw [← List.take_append_drop k l, valF_append]
  exact valF_ge _ _
theorem dec_step {u : Nat} (h : ¬ u < 10) : Lib.decDigits u = Lib.decDigits (u / 10) ++ [UInt8.ofNat (48 + u % 10)] := by rw [Lib.decDigits, dif_neg h]
theorem digit_val {d : Nat} (h : d < 10) : (UInt8.ofNat (48 + d)).toNat = 48 + d := by rw [UInt8.toNat_ofNat']; omega
theorem dec_all : ∀ (u : Nat), (∀ c ∈ Lib.decDigits u, dgB c = true) ∧ valF 0 (Lib.decDigits u) = u ∧ Lib.decDigits u ≠ [] := by
  intro u
  induction u using Nat.strongRecOn with
  | _ u ih =>
    by_cases h : u < 10
    · rw [Lib.decDigits_one h]
      refine ⟨fun c hc => ?_, ?_, by simp⟩
      · simp only [List.mem_singleton] at hc
        subst hc
        simp only [dgB, digit_val h, Bool.and_eq_true, decide_eq_true_eq]
        omega
      · show 0 * 10 + ((UInt8.ofNat (48 + u)).toNat - 48) = u
        rw [digit_val h]
        omega
    · obtain ⟨i1, i2, _⟩ := ih (u / 10) (by omega)
      rw [dec_step h]
      refine ⟨fun c hc => ?_, ?_, by simp⟩
      · rcases List.mem_append.1 hc with hc | hc
        · exact i1 c hc
        · simp only [List.mem_singleton] at hc
          subst hc
          simp only [dgB, digit_val (show u % 10 < 10 by omega), Bool.and_eq_true, decide_eq_true_eq]
          omega
      · rw [valF_snoc, i2, digit_val (by omega)]
        omega
theorem dec_short : ∀ (k u : Nat), u < 10 ^ (k + 1) → (Lib.decDigits u).length ≤ k + 1
  | 0, u, h => by rw [Lib.decDigits_one (by omega)]; simp
  | k + 1, u, h => by
    by_cases h1 : u < 10
    · rw [Lib.decDigits_one h1]; simp
    · rw [dec_step h1, List.length_append]
      have := dec_short k (u / 10) (by rw [Nat.pow_succ] at h; omega)
      simp only [List.length_singleton]
      omega
theorem dec_head (u : Nat) : ∃ c r, Lib.decDigits u = c :: r ∧ 48 ≤ c.toNat ∧ c.toNat ≤ 57 := by
  obtain ⟨h1, _, h3⟩ := dec_all u
  cases hd : Lib.decDigits u with
  | nil => exact absurd hd h3
  | cons c r =>
    have := h1 c (by rw [hd]; exact List.mem_cons_self ..)
    simp only [dgB, Bool.and_eq_true, decide_eq_true_eq] at this
    exact ⟨c, r, rfl, this⟩

theorem itoa_neg {n : Int} (h : n < 0) : Lib.itoa n = 45 :: Lib.decDigits n.natAbs := by unfold Lib.itoa; rw [if_pos h]
theorem itoa_pos {n : Int} (h : ¬ n < 0) : Lib.itoa n = Lib.decDigits n.toNat := by unfold Lib.itoa; rw [if_neg h]
def itoaS (n : Int) : ByteArray := ⟨(Lib.itoa n).toArray⟩
theorem itoaS_list (n : Int) : (itoaS n).data.toList = Lib.itoa n := by simp [itoaS]

def InR (n : Int) : Prop := -9223372036854775808 ≤ n ∧ n ≤ 9223372036854775807

theorem parse_digits : ∀ (l : List UInt8) (acc : Nat), (∀ c ∈ l, dgB c = true) → valF acc l < 18446744073709551616 → Lib.parseUint10 acc l = .ok (valF acc l)
  | [], acc, _, _ => rfl
  | c :: r, acc, hd, hv => by
    have hc := hd c (List.mem_cons_self ..)
    simp only [dgB, Bool.and_eq_true, decide_eq_true_eq] at hc
    have hge := valF_ge r (acc * 10 + (c.toNat - 48))
    have hv' : valF (acc * 10 + (c.toNat - 48)) r < 18446744073709551616 := hv
    rw [Lib.parseUint10, if_pos hc, if_neg (by omega), if_neg (by omega)]
    exact parse_digits r _ (fun b hb => hd b (List.mem_cons_of_mem _ hb)) hv

theorem atoi_itoa (n : Int) (h : InR n) : Lib.atoiAll (Lib.itoa n) = .ok n := by
  obtain ⟨h0, h1⟩ := h
  by_cases hn : n < 0
  · obtain ⟨a1, a2, a3⟩ := dec_all n.natAbs
    rw [itoa_neg hn, Lib.atoiAll_minus]
    unfold Lib.parseMag
    rw [if_neg a3, parse_digits _ 0 a1 (by rw [a2]; omega), a2]
    unfold Lib.signed
    simp only
    rw [if_neg (by omega)]
    congr 1
    omega
  · obtain ⟨a1, a2, a3⟩ := dec_all n.toNat
    rw [itoa_pos hn]
    obtain ⟨c, r, hd, hc1, hc2⟩ := dec_head n.toNat
    rw [hd, Lib.atoiAll_plain c r (by omega) (by omega), ← hd]
    unfold Lib.parseMag
    rw [if_neg a3, parse_digits _ 0 a1 (by rw [a2]; omega), a2]
    unfold Lib.signless
    simp only
    rw [if_neg (by omega)]
    congr 1
    omega
theorem itoaS_inj {n m : Int} (hn : InR n) (hm : InR m) (h : itoaS n = itoaS m) : n = m := by
  have e : Lib.itoa n = Lib.itoa m := by rw [← itoaS_list, ← itoaS_list, h]
  have a := atoi_itoa n hn
  rw [e, atoi_itoa m hm] at a
  injection a with a
  exact a.symm

/-- what ParseInt is to return: the int whose text s is, and true; else 0 and false -/
def Pres (s : ByteArray) (n : Int) (b : Bool) : Prop := (b = true ∧ InR n ∧ itoaS n = s) ∨ (b = false ∧ n = 0 ∧ ∀ m, InR m → itoaS m ≠ s)
theorem Pres_one {s : ByteArray} {n m : Int} {b c : Bool} (h : Pres s n b) (k : Pres s m c) : n = m ∧ b = c := by
  rcases h with ⟨rfl, h1, h2⟩ | ⟨rfl, rfl, h2⟩ <;> rcases k with ⟨rfl, k1, k2⟩ | ⟨rfl, rfl, k2⟩
  · exact ⟨itoaS_inj h1 k1 (h2.trans k2.symm), rfl⟩
  · exact absurd h2 (k2 n h1)
  · exact absurd k2 (h2 m k1)
  · exact ⟨rfl, rfl⟩
end Go.Proofs.YtpocfbhbllphdaaDoor
