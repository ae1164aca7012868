/- What the lines of a text are. No program in it. -/
import Derived.Test.YtgekhijjeojhaaaSplitP
namespace Go.Proofs.Ytgekhijjeojhaaa
open Go.RowKit

def nl : ByteArray := ⟨#[10]⟩
theorem splitL_pos (s y : ByteArray) : 0 < (splitL s y).length := by unfold splitL; simp
/-- the lines: without the last part if it is empty -/
noncomputable def linesL (s : ByteArray) : List ByteArray :=
  if (s.extract (splitTo s nl s.size).2 s.size).toList = [] then (splitTo s nl s.size).1 else splitL s nl
theorem linesL_le (s : ByteArray) : (linesL s).length ≤ s.size + 1 := by
  have := splitTo_le s nl s.size
  unfold linesL splitL
  split
  · omega
  · simp; omega
/-- what a slice's beginning owns -/
theorem own_init {w : World} {B : Nat} {e : TypeId} {g cap : Nat} {n : Nat} {xs ys : List Value} (h : w.ownsRow B e 1 (.slice (some ⟨g, 0, none⟩) n cap) n (xs ++ ys)) (m : Nat) (hm : xs.length = m) (hmn : m ≤ n) :
    w.ownsRow B e 1 (.slice (some ⟨g, 0, none⟩) m cap) m xs := by
  refine ⟨by omega, .inr ?_⟩
  rcases h.2 with ⟨h', _⟩ | ⟨g', cap', cur, h', hb, hg, hnc, hcm, hcs, htake⟩
  · simp at h'
  · simp only [Value.slice.injEq, Option.some.injEq, Addr.mk.injEq, and_true, true_and] at h'
    obtain ⟨rfl, rfl⟩ := h'
    refine ⟨g, cap, cur, rfl, hb, hg, by omega, hcm, hcs, ?_⟩
    have : (cur.toList.take (n * 1)).take (m * 1) = (xs ++ ys).take (m * 1) := by rw [htake]
    rw [List.take_take, Nat.min_eq_left (by omega), Nat.mul_one, List.take_left' hm] at this
    rw [Nat.mul_one]
    exact this
end Go.Proofs.Ytgekhijjeojhaaa
