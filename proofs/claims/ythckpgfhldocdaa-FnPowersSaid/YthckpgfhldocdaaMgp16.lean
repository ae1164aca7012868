/- Texts put together. -/
import Derived.Test.YthckpgfhldocdaaMgp10
import Derived.Test.YthckpgfhldocdaaMgp7
import Derived.Test.YthckpgfhldocdaaMgp9
import Derived.Test.YthckpgfhldocdaaChecked
import Derived.Test.YthckpgfhldocdaaMgp8
import Derived.Test.YthckpgfhldocdaaMgp12
import Derived.Deep.QuietTactic
import Derived.BigQuiet
/- A struct of one slice of strings as a result; small facts on new rows. No condition. -/
namespace Go.Proofs.Ythckpgfhldocdaa
open Go.RowKit

/-- a struct of one slice of strings, and whether there is one -/
def SubSaid (r : List ByteArray) (ok : Bool) (w : World) (e : Ending) (w' : World) : Prop := ∃ v, e = .returned (.tuple #[.agg #[v], .bool ok]) ∧ w'.ownsRow w.heap.size 9 1 v r.length (strs r) ∧ Below w.heap.size w w'
theorem cell_one (w : World) (e : TypeId) (y : Value) (j : Nat) (u : Value) (hu : [y][j]? = some u) : (w.alloc (.cells #[y] e)).cell? ((⟨w.heap.size, 0, none⟩ : Addr).add j) = some u := by
  rcases j with _ | j
  · simp at hu
    subst hu
    rw [Addr.add_lit, World.cell?_alloc_at _ _ _ _ (by simp)]
    rfl
  · simp at hu
theorem build_zero (w : World) : (Instr.build 34 #[]).run Try.prog w = .ok (.agg #[.slice none 0 0]) w := run_build w _ _ _ (by kernel_rfl)
theorem build_sub (A : Option Addr) (n c : Nat) (w : World) : (Instr.build 34 #[(0, .slice A n c)]).run Try.prog w = .ok (.agg #[.slice A n c]) w := run_build w _ _ _ (by kernel_rfl)
end Go.Proofs.Ythckpgfhldocdaa

/- Join of the model. Condition: the elements and their number together at most 2^20, the separator too. -/
namespace Go.Proofs.Ythckpgfhldocdaa
open Go.RowKit
end Go.Proofs.Ythckpgfhldocdaa

/- SplitAny and SplitLines of the model and of the program return the same list of strings in a row of their own. Condition: texts of at most 2^20 bytes. -/
namespace Go.Proofs.Ythckpgfhldocdaa
open Go.RowKit
end Go.Proofs.Ythckpgfhldocdaa

/- FormatSubst, ParseSubst and NamedSubst of the model. Conditions: lengths of at most 2^20. -/
namespace Go.Proofs.Ythckpgfhldocdaa
open Go.RowKit

/-- what FormatSubst is to return -/
def fmtR (l : List ByteArray) : ByteArray := if substB l = true then joinS l ⟨#[44]⟩ else ⟨#[]⟩
theorem total_of_all : ∀ (l : List ByteArray) (m : Nat), (∀ x ∈ l, x.size ≤ m) → totalS l ≤ m * l.length
  | [], _, _ => by simp [totalS]
  | x :: l, m, h => by
    have h1 := h x (List.mem_cons_self ..)
    have h2 := total_of_all l m (fun y hy => h y (List.mem_cons_of_mem _ hy))
    unfold totalS at h2 ⊢
    rw [List.map_cons, List.sum_cons, List.length_cons, Nat.mul_succ]
    omega
theorem subst_total {l : List ByteArray} (h : substB l = true) : l.length + totalS l ≤ 36 := by
  obtain ⟨_, h4, hi⟩ := subst_parts h
  have := total_of_all l 8 (fun x hx => by
    obtain ⟨k, hk, rfl⟩ := List.mem_iff_getElem.1 hx
    exact (img_parts (hi k hk)).2.1)
  omega

/-- what ParseSubst is to return -/
noncomputable def parseOk (t : ByteArray) : Bool := decide (t.size ≤ 40) && (substB (splitL t ⟨#[44]⟩) && decide (fmtR (splitL t ⟨#[44]⟩) = t))
noncomputable def parseSub (t : ByteArray) : List ByteArray := if parseOk t = true then splitL t ⟨#[44]⟩ else []

theorem parseSub_le (t : ByteArray) : (parseSub t).length ≤ 41 := by
  unfold parseSub; split
  · rename_i h
    have h1 := splitL_length t ⟨#[44]⟩
    have h2 : t.size ≤ 40 := by
      unfold parseOk at h
      rw [Bool.and_eq_true] at h
      simpa using h.1
    omega
  · simp

end Go.Proofs.Ythckpgfhldocdaa
