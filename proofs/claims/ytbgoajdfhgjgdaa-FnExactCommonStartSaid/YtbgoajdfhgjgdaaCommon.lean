/- CommonStart of the model. Condition: texts of at most 2^20 bytes. -/
import Derived.Test.YtbgoajdfhgjgdaaWordOk
import Derived.Deep.QuietTactic
import Derived.BigQuiet
namespace Go.Proofs.Ytbgoajdfhgjgdaa
open Go.RowKit

/-- how many bytes at their beginnings two texts share -/
def lcp : List UInt8 → List UInt8 → Nat
  | a :: l, b :: m => if a = b then lcp l m + 1 else 0
  | _, _ => 0
theorem lcp_eq : ∀ (n : Nat) (l m : List UInt8), l.take n = m.take n → n ≤ l.length → n ≤ m.length → (n = l.length ∨ n = m.length ∨ ∀ a b, l[n]? = some a → m[n]? = some b → a ≠ b) → lcp l m = n
  | 0, l, m, _, _, _, h => by
    match l, m, h with
    | [], _, _ => rfl
    | _ :: _, [], _ => rfl
    | a :: l, b :: m, h =>
      have hab : a ≠ b := by
        rcases h with h | h | h
        · simp at h
        · simp at h
        · exact h a b rfl rfl
      show (if a = b then lcp l m + 1 else 0) = 0
      rw [if_neg hab]
  | n + 1, l, m, ht, hl, hm, h => by
    match l, m, ht, hl, hm, h with
    | a :: l, b :: m, ht, hl, hm, h =>
      rw [List.take_succ_cons, List.take_succ_cons] at ht
      injection ht with h1 h2
      show (if a = b then lcp l m + 1 else 0) = n + 1
      rw [if_pos h1, lcp_eq n l m h2 (by simpa using hl) (by simpa using hm) (by simpa using h)]
/-- what CommonStart is to return -/
def commonR (s t : ByteArray) : Int := if wordB s = true ∧ wordB t = true then (lcp s.data.toList t.data.toList : Int) else -1

theorem at_some (s : ByteArray) (k : Nat) (h : k < s.size) : s.data.toList[k]? = some s[k] := List.getElem?_eq_getElem (by simpa using h)

set_option maxHeartbeats 1000000 in
theorem specCommonStart (s t : ByteArray) (w : World) (_ : s.size ≤ 1048576) (_ : t.size ≤ 1048576) :
    Calls Try.prog 30 #[.string s, .string t] w fun e w' => e = .returned (.int .i64 (commonR s t)) ∧ ∃ n, w' = w.drewN n := by
  by_cases h1 : wordB s = true
  · by_cases h2 : wordB t = true
    · have hr : commonR s t = lcp s.data.toList t.data.toList := if_pos ⟨h1, h2⟩
      have HR := Lib.hid hr
      have l1 := word_size h1
      have l2 := word_size h2
      have HL : Hid (s.data.toList.length = s.size ∧ t.data.toList.length = t.size) := ⟨by simp, by simp⟩
      clear hr
      go_enter Try.func30, Try.ntmps30
      go_wp2_with fail
      refine (specWordOk s _).mono ?_
      rintro e w' ⟨rfl, rfl⟩
      go_wp2_with fail
      refine (specWordOk t _).mono ?_
      rintro e w' ⟨rfl, rfl⟩
      go_wp2_with fail
      go_loopw [5] (fun i w' => ∃ (k n : Nat), k ≤ s.size ∧ k ≤ t.size ∧ i = .int .i64 k ∧ s.data.toList.take k = t.data.toList.take k ∧ w' = w.drewN n) (fun i _ => s.size - (intOf i).toNat)
      case atStart => exact ⟨0, 0, by omega, by omega, rfl, rfl, rfl⟩
      case round =>
        obtain ⟨k, n, hk1, hk2, rfl, ht, rfl⟩ := hrel
        have HT := Lib.hid ht
        clear ht
        by_cases c1 : k < s.size
        · have d1 : decide ((k : Int) < s.size) = true := by simp; omega
          by_cases c2 : k < t.size
          · have d2 : decide ((k : Int) < t.size) = true := by simp; omega
            by_cases he : s[k] = t[k]
            · have hb : ((s[k].toNat : Int) == (t[k].toNat : Int)) = true := by rw [he]; simp
              have HN : Hid (s.data.toList.take (k + 1) = t.data.toList.take (k + 1)) := by
                show s.data.toList.take (k + 1) = t.data.toList.take (k + 1)
                rw [take_snoc s k c1, take_snoc t k c2, HT.out, he]
              clear he
              go_wp2_with fail
              go_quiet (fail)
              go_wp2_with fail
              go_roundw
              case rel => exact ⟨k + 1, _, by omega, by omega, by go_num, HN.out, rfl⟩
              case measure => simp [intOf]; omega
            · have hb : ((s[k].toNat : Int) == (t[k].toNat : Int)) = false := by
                rw [beq_eq_false_iff_ne]
                intro h
                exact he (UInt8.toNat_inj.1 (by omega))
              have hv : lcp s.data.toList t.data.toList = k := lcp_eq k _ _ HT.out (by rw [HL.out.1]; omega) (by rw [HL.out.2]; omega) (.inr (.inr (fun a b ha hb => by
                rw [at_some s k c1] at ha
                rw [at_some t k c2] at hb
                injection ha with ha
                injection hb with hb
                subst ha; subst hb
                exact he)))
              have HV := Lib.hid hv
              clear hv he
              go_wp2_with fail
              go_quiet (fail)
              go_wp2_with fail
              go_ret
              exact ⟨ret_int (by rw [HR.out, HV.out]), _, World.drewN_drewN ..⟩
          · have d2 : decide ((k : Int) < t.size) = false := by simp; omega
            have hv : lcp s.data.toList t.data.toList = k := lcp_eq k _ _ HT.out (by rw [HL.out.1]; omega) (by rw [HL.out.2]; omega) (.inr (.inl (by rw [HL.out.2]; omega)))
            have HV := Lib.hid hv
            clear hv
            go_wp2_with fail
            go_quiet (fail)
            go_wp2_with fail
            go_ret
            exact ⟨ret_int (by rw [HR.out, HV.out]), _, World.drewN_drewN ..⟩
        · have d1 : decide ((k : Int) < s.size) = false := by simp; omega
          have hv : lcp s.data.toList t.data.toList = k := lcp_eq k _ _ HT.out (by rw [HL.out.1]; omega) (by rw [HL.out.2]; omega) (.inl (by rw [HL.out.1]; omega))
          have HV := Lib.hid hv
          clear hv
          go_wp2_with fail
          go_quiet (fail)
          go_wp2_with fail
          go_ret
          exact ⟨ret_int (by rw [HR.out, HV.out]), _, World.drewN_drewN ..⟩
    · have hr : commonR s t = -1 := if_neg (fun h => h2 h.2)
      have HR := Lib.hid hr
      have h2' : wordB t = false := by simpa using h2
      clear hr h2
      go_enter Try.func30, Try.ntmps30
      go_wp2_with fail
      refine (specWordOk s _).mono ?_
      rintro e w' ⟨rfl, rfl⟩
      go_wp2_with fail
      refine (specWordOk t _).mono ?_
      rintro e w' ⟨rfl, rfl⟩
      go_wp2_with fail
      go_ret
      exact ⟨ret_int HR.out.symm, 0, rfl⟩
  · have hr : commonR s t = -1 := if_neg (fun h => h1 h.1)
    have HR := Lib.hid hr
    have h1' : wordB s = false := by simpa using h1
    clear hr h1
    go_enter Try.func30, Try.ntmps30
    go_wp2_with fail
    refine (specWordOk s _).mono ?_
    rintro e w' ⟨rfl, rfl⟩
    go_wp2_with fail
    go_ret
    exact ⟨ret_int HR.out.symm, 0, rfl⟩
end Go.Proofs.Ytbgoajdfhgjgdaa
