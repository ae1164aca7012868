/- Texts put together. -/
import Derived.Test.YtfcbfflkajlhnaaMgC13
import Derived.Test.YtfcbfflkajlhnaaMgC19
import Derived.IntWalk
import Derived.Test.YtfcbfflkajlhnaaMgC16
import Derived.Test.YtfcbfflkajlhnaaMgC18
/- ReachedBy of the model. Conditions: lengths of at most 2^20. -/
namespace Go.Proofs.Ytfcbfflkajlhnaa
open Go.RowKit

def boolsV (s : List Bool) : List Value := s.map Value.bool
theorem bool_info : (Try.prog.info? 4).map (fun i => (i.zero, i.size, i.bytes)) = some (some (.bool false), 1, 1) := by kernel_rfl
theorem own_bool_at {w : World} {B g cp n : Nat} {s : List Bool} (h : w.ownsRow B 4 1 (.slice (some ⟨g, 0, none⟩) n cp) n (boolsV s)) (hl : s.length = n) (k : Nat) (hk : k < n) : w.cell? ⟨g, k, none⟩ = some (.bool (got s k)) := by
  rw [h.cellAt k (by omega)]
  simp [boolsV, got, List.getD, List.getElem?_eq_getElem (show k < s.length by omega)]
theorem boolsV_set (s : List Bool) (k : Nat) : (boolsV s).set k (.bool true) = boolsV (s.set k true) := by unfold boolsV; rw [List.map_set]
theorem letterN_slice (P : Program) {t : TypeId} (ht : P.underlying t = some .string) (k : Nat) (hk : k ≤ 3) (w : World) :
    (Instr.slice t (.string ⟨#[97, 98, 99, 100]⟩) (some (.int .i64 (k : Int))) (some (.int .i64 ((k : Int) + 1))) none).run P w = .ok (.string ⟨#[letterN k]⟩) w := by
  have h4 : ((⟨#[97, 98, 99, 100]⟩ : ByteArray).size : Int) = 4 := rfl
  rw [run_slice_string (P := P) w t ⟨#[97, 98, 99, 100]⟩ .i64 .i64 (k : Int) ((k : Int) + 1) ht (by omega) (by omega) (by omega)]
  rcases (show k = 0 ∨ k = 1 ∨ k = 2 ∨ k = 3 by omega) with e | e | e | e <;> subst e <;> rfl
def outS (s : Nat → Bool) (j : Nat) : ByteArray := ⟨(outTo s j).toArray⟩
theorem outS_yes {s : Nat → Bool} {j : Nat} (h : s j = true) : outS s j ++ ⟨#[letterN j]⟩ = outS s (j + 1) := by
  apply bytes_ext
  rw [ByteArray.toList_eq, ByteArray.toList_eq]
  show (outS s j ++ ⟨#[letterN j]⟩).data.toList = (outTo s j ++ if s j = true then [letterN j] else [])
  rw [if_pos h, ByteArray.data_append]
  simp [outS]
theorem outS_no {s : Nat → Bool} {j : Nat} (h : s j = false) : outS s (j + 1) = outS s j := by
  unfold outS
  show (ByteArray.mk (outTo s j ++ if s j = true then [letterN j] else []).toArray) = _
  rw [h]
  simp
theorem outTo_length (s : Nat → Bool) : ∀ j, (outTo s j).length ≤ j
  | 0 => Nat.le_refl _
  | j + 1 => by
    have := outTo_length s j
    show (outTo s j ++ if s j = true then [letterN j] else []).length ≤ j + 1
    rw [List.length_append]
    split
    · simp; omega
    · simp; omega
theorem outS_size (s : Nat → Bool) (j : Nat) : (outS s j).size ≤ j := by
  have := outTo_length s j
  show (outTo s j).toArray.size ≤ j
  simpa using this

end Go.Proofs.Ytfcbfflkajlhnaa

/- Growing letters of the model. Conditions: lengths of at most 2^20. -/
namespace Go.Proofs.Ytfcbfflkajlhnaa
open Go.RowKit

theorem growB_at {l : List ByteArray} {k : Nat} (hk : k < l.length) : growB l k = (decide (1 < l[k].size) && decide (firstN l k = k)) := by
  unfold growB; rw [getD_l hk]
end Go.Proofs.Ytfcbfflkajlhnaa
