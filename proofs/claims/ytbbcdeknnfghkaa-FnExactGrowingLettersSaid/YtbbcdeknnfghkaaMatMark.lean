/- markIntSS and heldIntSS: numbers laid into the rows of a matrix of the call's own, and found there again. -/
import Derived.Test.YtbbcdeknnfghkaaMatOwn
namespace Go.Proofs.Ytbbcdeknnfghkaa
open Go.RowKit

/-- consecutive numbers from k on, in rows of these lengths -/
def marksM (k : Int) : List Nat → List (List Int)
  | [] => []
  | n :: ns => upto k n :: marksM (k + n) ns
def sumN (ns : List Nat) : Nat := ns.sum
theorem marksM_length (ns : List Nat) : ∀ k, (marksM k ns).length = ns.length := by
  induction ns with
  | nil => intro k; rfl
  | cons n ns ih => intro k; simp [marksM, ih]
theorem marksM_at (ns : List Nat) : ∀ (k : Int) (i : Nat) (h : i < ns.length), (marksM k ns)[i]'(by rw [marksM_length]; exact h) = upto (k + sumN (ns.take i)) ns[i] := by
  induction ns with
  | nil => intro k i h; simp at h
  | cons n ns ih =>
    intro k i h
    cases i with
    | zero => simp [marksM, sumN]
    | succ i =>
      have := ih (k + n) i (by simpa using h)
      simp only [marksM, List.getElem_cons_succ, List.take_succ_cons, sumN, List.sum_cons] at this ⊢
      rw [this]
      congr 1
      omega
theorem sumN_take (ns : List Nat) (i : Nat) (h : i < ns.length) : sumN (ns.take (i + 1)) = sumN (ns.take i) + ns[i] := by
  unfold sumN
  rw [List.take_succ_eq_append_getElem h, List.sum_append]
  simp
theorem sumN_take_le (ns : List Nat) (i : Nat) : sumN (ns.take i) ≤ sumN ns := by
  unfold sumN
  conv => rhs; rw [← List.take_append_drop i ns, List.sum_append]
  omega

/-- w' is w with new blocks, and writes to blocks from lo to hi alone -/
def KeepsOut (lo hi : Nat) (w w' : World) : Prop :=
  w'.os = w.os ∧ w'.tape = w.tape ∧ w'.output = w.output ∧ w.heap.size ≤ w'.heap.size ∧ ∀ i, i < w.heap.size → (i < lo ∨ hi ≤ i) → w'.heap[i]? = w.heap[i]?
theorem KeepsOut.refl (lo hi : Nat) (w : World) : KeepsOut lo hi w w := ⟨rfl, rfl, rfl, Nat.le_refl _, fun _ _ _ => rfl⟩
theorem KeepsOut.trans {lo hi : Nat} {a b c : World} (h : KeepsOut lo hi a b) (k : KeepsOut lo hi b c) : KeepsOut lo hi a c :=
  ⟨k.1.trans h.1, k.2.1.trans h.2.1, k.2.2.1.trans h.2.2.1, Nat.le_trans h.2.2.2.1 k.2.2.2.1, fun i hi ho => (k.2.2.2.2 i (Nat.lt_of_lt_of_le hi h.2.2.2.1) ho).trans (h.2.2.2.2 i hi ho)⟩
theorem KeepsOut.of_grown {lo hi : Nat} {w w' : World} {row : Option Nat} (h : w.grownBy w' row) (hr : ∀ k, row = some k → lo ≤ k ∧ k < hi) : KeepsOut lo hi w w' :=
  ⟨h.os, h.tape, h.output, h.size, fun i hi ho => h.block i hi (fun e => by have := hr i e.symm; omega)⟩
theorem KeepsOut.below {lo hi B : Nat} {a w w' : World} (h : Below B a w) (k : KeepsOut lo hi w w') (hB : B ≤ w.heap.size) (hl : B ≤ lo) : Below B a w' :=
  ⟨k.1.trans h.os, k.2.1.trans h.tape, k.2.2.1.trans h.output, Nat.le_trans h.size k.2.2.2.1, fun i hi => (k.2.2.2.2 i (by omega) (.inl (by omega))).trans (h.block i hi)⟩
theorem KeepsOut.own {lo hi B n size : Nat} {w w' : World} {e : TypeId} {v : Value} {xs : List Value} (h : w.ownsRow B e size v n xs) (k : KeepsOut lo hi w w') (hne : ∀ j, v.ownBlock = some j → j < lo ∨ hi ≤ j) : w'.ownsRow B e size v n xs := by
  refine ⟨h.1, h.2.imp id ?_⟩
  rintro ⟨g, cap, cur, rfl, h2, h3, h4⟩
  refine ⟨g, cap, cur, rfl, h2, ?_, h4⟩
  rw [k.2.2.2.2 g (Array.getElem?_eq_some_iff.1 h3).1 (hne g rfl)]
  exact h3

end Go.Proofs.Ytbbcdeknnfghkaa
