/- Texts put together. -/
import Derived.Test.YtiikledbflgejaaMgC3
import Derived.Test.YtiikledbflgejaaChecked
import Derived.Deep.QuietTactic
import Derived.BigQuiet
import Derived.Test.YtiikledbflgejaaMgC2
import Derived.OwnWalk
import Derived.Lib.SmallJoins
/- SubstOk of the model, and what it asks of each image. Conditions: lengths of at most 2^20. -/
namespace Go.Proofs.Ytiikledbflgejaa
open Go.RowKit
end Go.Proofs.Ytiikledbflgejaa

/- The laws' own helpers on slices of ints: eqIntS, markIntS, heldIntS, as contracts. Conditions: lengths as Go has them. -/
namespace Go.Proofs.Ytiikledbflgejaa
open Go.RowKit

def ints (l : List Int) : List Value := l.map (Value.int .i64)
theorem ints_length (l : List Int) : (ints l).length = l.length := by simp [ints]
theorem ints_snoc (l : List Int) (x : Int) : ints (l ++ [x]) = ints l ++ [.int .i64 x] := by simp [ints]
theorem ints_at {w : World} {b off : Nat} {l : List Int} (h : ∀ (i : Nat) u, (ints l)[i]? = some u → w.cell? ⟨b, off + i, none⟩ = some u) (k : Nat) (hk : k < l.length) : w.cell? ⟨b, off + k, none⟩ = some (.int .i64 l[k]) :=
  h k _ (by simp [ints, hk])
theorem int_info : (Try.prog.info? 3).map (fun i => (i.zero, i.size, i.bytes)) = some (some (.int .i64 0), 1, 8) := by kernel_rfl

/-- the n numbers from k on -/
def upto (k : Int) (n : Nat) : List Int := (List.range n).map fun (i : Nat) => k + (i : Int)
theorem upto_length (k : Int) (n : Nat) : (upto k n).length = n := by simp [upto]
theorem upto_at (k : Int) (n i : Nat) (h : i < n) : (upto k n)[i]'(by simpa [upto] using h) = k + i := by simp [upto]
theorem upto_succ (k : Int) (n : Nat) : ints (upto k (n + 1)) = ints (upto k n) ++ [.int .i64 (k + n)] := by simp [upto, ints, List.range_succ]

end Go.Proofs.Ytiikledbflgejaa

/- Chapter 12 of the model: l11Ok, l11Arc, ReturnTime, CountIn, NearestTo. No condition. -/
namespace Go.Proofs.Ytiikledbflgejaa
open Go.RowKit Go.Lib
theorem mul_1000 {i p : Int} (h1 : 0 ≤ i) (h2 : i ≤ 1000) (h3 : 0 ≤ p) (h4 : p ≤ 1000) : 0 ≤ i * p ∧ i * p ≤ 1000000 := by
  have a1 : i * p ≤ 1000 * p := Int.mul_le_mul_of_nonneg_right h2 h3
  exact ⟨Int.mul_nonneg h1 h3, by omega⟩
theorem rt_step (p q a b f : Int) (i m : Nat) : (inA p q a b f i = true → rtTo p q a b f i (m + 1) = i) ∧ (inA p q a b f i = false → rtTo p q a b f i (m + 1) = rtTo p q a b f (i + 1) m) :=
  ⟨fun h => if_pos h, fun h => if_neg (by rw [h]; decide)⟩

theorem ci_step (p q : Nat) (a b : Int) (k : Nat) : ciTo p q a b (k + 1) = ciTo p q a b k + if (decide (a ≤ (dpN p q k : Int)) && decide ((dpN p q k : Int) ≤ b)) = true then 1 else 0 := rfl
end Go.Proofs.Ytiikledbflgejaa

/- The laws' helpers on an argument that is a slice of ints: szIntS bounds it, toIntS copies it; and the argument opened to the list that it holds. -/
namespace Go.Proofs.Ytiikledbflgejaa
open Go.ChangeShapes Go.WideShapes Go.RowKit

theorem cellsOf_int : Try.prog.cellsOf 3 = 1 := by kernel_rfl
/-- a slice of ints that came in, opened -/
theorem ints_cell {H : Type} {enc : TypeId × Value → H} {P : Program} {w : World} {base fuel : Nat} {t e : TypeId} {v : Value} {y : DataW H × List MemPlace} (ht : P.underlying t = some (.slice e)) (he : P.underlying e = some (.int .i64)) (hc : P.cellsOf e = 1)
    (hf : DataW.trod enc P w base (fun _ => true) true fuel t [v] = some y) : ∃ l : List Int, Lst w v (ints l) ∧ ∀ z ∈ l, (Lit.int .i64 z).wf = true := by
  obtain ⟨A, ln, cp, hv⟩ := Joins.slice_form ht hf
  injection hv with hv _
  subst hv
  rcases open_ints ht he hc hf with ⟨hcs, _⟩ | ⟨a, len, cap, ss, hcs, _, hl, hm, hlen, _, hcell, hwf⟩
  · simp at hcs
    obtain ⟨rfl, rfl, rfl⟩ := hcs
    exact ⟨[], ⟨none, 0, by simp [ints], by simp [ints], by simp [maxLen], .inl rfl⟩, by simp⟩
  · simp at hcs
    obtain ⟨rfl, rfl, rfl⟩ := hcs
    simp at hlen
    refine ⟨ss.take ln, ?_, fun z hz => hwf z (List.mem_of_mem_take hz)⟩
    refine ⟨some a, cp, by simp [ints, hlen, Nat.min_eq_left hl], by simp [ints, hlen]; omega, hm, ?_⟩
    by_cases h0 : ln = 0
    · subst h0
      exact .inl (by simp [ints])
    · obtain ⟨b, off, spot⟩ := a
      have h1 := hcell 0 (by omega)
      have hspot : spot = none := by simpa [Addr.add] using World.cell?_spot h1
      subst hspot
      refine .inr ⟨b, off, rfl, fun i u hu => ?_⟩
      have hi : i < ln := by
        have := (List.getElem?_eq_some_iff.1 hu).1
        simp [ints, hlen] at this
        omega
      have h2 := hcell i (by omega)
      rw [Addr.add_lit] at h2
      rw [h2]
      simp [ints, hi] at hu
      obtain ⟨x, hx, rfl⟩ := hu
      simp [List.getD, hx]

def szI (left : Int) (n : Nat) : Int := if left < n then -1 else left - n
end Go.Proofs.Ytiikledbflgejaa
