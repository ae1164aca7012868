/- Texts put together. -/
import Derived.Test.YtgfhconcmoepcaaMgb21
import Derived.Test.YtgfhconcmoepcaaMgb2
import Derived.Test.YtgfhconcmoepcaaMgb8
import Derived.BigQuiet
import Derived.Laws.EntriesVeiled
/- The program's two closures that call each other: what they return while nothing more is to be found out. Conditions: what is known lies in memory. -/
namespace Go.Proofs.Ytgfhconcmoepcaa
open Go.RowKit

/-- what the closures have captured, and the numbers that are known -/
structure KmpAt (s : ByteArray) (p1 p3 p4 p5 g k cp : Nat) (w : World) : Prop where
  c1 : w.cell? ⟨p1, 0, none⟩ = some (.string s)
  c3 : w.cell? ⟨p3, 0, none⟩ = some (.func (.func 97) #[] #[.pointer (some ⟨p5, 0, none⟩), .pointer (some ⟨p4, 0, none⟩), .pointer (some ⟨p1, 0, none⟩)])
  c4 : w.cell? ⟨p4, 0, none⟩ = some (.func (.func 98) #[] #[.pointer (some ⟨p1, 0, none⟩), .pointer (some ⟨p4, 0, none⟩), .pointer (some ⟨p3, 0, none⟩)])
  c5 : w.cell? ⟨p5, 0, none⟩ = some (.slice (some ⟨g, 0, none⟩) k cp)
  ck : ∀ i, i < k → w.cell? ⟨g, i, none⟩ = some (.int .i64 ((brN (ltO s) i : Nat) : Int))
theorem KmpAt.drewN {s : ByteArray} {p1 p3 p4 p5 g k cp : Nat} {w : World} (h : KmpAt s p1 p3 p4 p5 g k cp w) (n : Nat) : KmpAt s p1 p3 p4 p5 g k cp (w.drewN n) := ⟨h.c1, h.c3, h.c4, h.c5, h.ck⟩

set_option maxHeartbeats 400000 in
theorem implLongestAt (s : ByteArray) (p1 p3 p4 p5 g k cp n : Nat) (w : World) (h : KmpAt s p1 p3 p4 p5 g k cp w) (hn : n < k) (_hk : k ≤ 1048576) :
    Calls Try.prog 97 #[.int .i64 (n : Int), .pointer (some ⟨p5, 0, none⟩), .pointer (some ⟨p4, 0, none⟩), .pointer (some ⟨p1, 0, none⟩)] w fun e w' => e = .returned (.int .i64 ((brN (ltO s) n : Nat) : Int)) ∧ w' = w := by
  have c5 := h.c5
  have ck := h.ck n hn
  clear h
  generalize brN (ltO s) n = r at ck ⊢
  go_enter Try.func97, Try.ntmps97
  go_wp2_with fail
  go_loopw [6] (fun i w' => i = .int .i64 (k : Int) ∧ w = w') (fun _ _ => 0)
  case atStart => exact ⟨rfl, rfl⟩
  case round =>
    obtain ⟨rfl, rfl⟩ := hrel
    have hlt : ¬ (k : Int) ≤ (n : Int) := by omega
    go_wp2_with fail
    go_ret
    exact ⟨rfl, rfl⟩

set_option maxHeartbeats 1000000 in
theorem implWider (s : ByteArray) (m p1 p3 p4 p5 g k cp : Nat) (hm : m < s.size) (hk : k ≤ 1048576) : ∀ (b : Nat) (w : World), b < k → BrAt (ltO s) m b → Tops (ltO s) m b → KmpAt s p1 p3 p4 p5 g k cp w →
    Calls Try.prog 98 #[.int .i64 (b : Int), .int .u8 (s[m].toNat : Int), .pointer (some ⟨p1, 0, none⟩), .pointer (some ⟨p4, 0, none⟩), .pointer (some ⟨p3, 0, none⟩)] w fun e w' => e = .returned (.int .i64 ((brN (ltO s) (m + 1) : Nat) : Int)) ∧ ∃ n, w' = w.drewN n := by
  intro b
  induction b using Nat.strongRecOn with
  | ind b IH =>
    intro w hbk hb ht h
    have hbs : b < s.size := by have := hb.1; omega
    have hx : ∀ w : World, (Instr.index 54 (.string s) (.int .i64 (b : Int))).run Try.prog w = .ok (.int .u8 (s[b].toNat : Int)) w := fun w => index_at Try.underlying54 s b b w hbs rfl
    have c1 := h.c1
    have c3 := h.c3
    have c4 := h.c4
    by_cases he : s[b] = s[m]
    · have HV := Lib.hid (br_hit hb ht ((same_at s b m hbs hm).2 he))
      have hq : ((s[b].toNat : Int) == (s[m].toNat : Int)) = true := (num_same _ _).2 he
      clear he ht h hb IH
      generalize (s[b].toNat : Int) = x at hx hq
      generalize (s[m].toNat : Int) = y at hq ⊢
      generalize brN (ltO s) (m + 1) = r at HV ⊢
      go_enter Try.func98, Try.ntmps98
      go_wp2_with fail
      go_ret
      exact ⟨by rw [HV.out]; rfl, 0, rfl⟩
    · have hne : ltO s b ≠ ltO s m := fun e => he ((same_at s b m hbs hm).1 e)
      have hq : ((s[b].toNat : Int) == (s[m].toNat : Int)) = false := (num_other _ _).2 he
      by_cases h0 : b = 0
      · have HV : Hid (brN (ltO s) (m + 1) = 0) := by
          subst h0
          exact br_none ht hne
        have hz : ((b : Int) == 0) = true := by rw [beq_iff_eq]; omega
        clear he ht h hb IH hne h0 hbk
        generalize (s[b].toNat : Int) = x at hx hq
        generalize (s[m].toNat : Int) = y at hq ⊢
        generalize brN (ltO s) (m + 1) = r at HV ⊢
        go_enter Try.func98, Try.ntmps98
        go_wp2_with fail
        go_ret
        exact ⟨by rw [HV.out]; rfl, 0, rfl⟩
      · have hd := br_down hb ht (by omega) hne
        have hlt := brN_lt (c := ltO s) (show 1 ≤ b by omega)
        have HL := Lib.hid (fun n => implLongestAt s p1 p3 p4 p5 g k cp b (w.drewN n) (h.drewN n) hbk hk)
        have HI := Lib.hid (fun n => IH (brN (ltO s) b) hlt (w.drewN n) (by omega) hd.1 hd.2 (h.drewN n))
        have h0' : ¬ (b : Int) = 0 := by omega
        clear he ht h hb IH hne hd hlt
        generalize (s[b].toNat : Int) = x at hx hq
        generalize (s[m].toNat : Int) = y at hq HI ⊢
        generalize brN (ltO s) (m + 1) = r at HI ⊢
        generalize brN (ltO s) b = b2 at HL HI
        go_enter Try.func98, Try.ntmps98
        go_wp2_with fail
        go_quiet (first
          | exact Calls.quiet_of_same (HL.out _)
          | exact Calls.quiet_of (HI.out _))
        go_wp2_with fail
        go_ret
        exact ⟨rfl, _, rfl⟩
end Go.Proofs.Ytgfhconcmoepcaa
