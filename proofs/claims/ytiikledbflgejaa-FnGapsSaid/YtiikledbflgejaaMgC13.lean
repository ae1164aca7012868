/- Texts put together. -/
import Derived.Test.YtiikledbflgejaaMgC7
import Derived.Test.YtiikledbflgejaaMgC12
import Derived.IntWalk
import Derived.Test.YtiikledbflgejaaMgC10
/- CountAfter of the model. Conditions: lengths of at most 2^20. -/
namespace Go.Proofs.Ytiikledbflgejaa
open Go.RowKit

/-- a matrix whose rows have one length, cell by cell -/
theorem mat_rect {w : World} {v : Value} {m : List (List Int)} {c : Nat} (h : Mat w v m) (hr : ∀ i (hi : i < m.length), m[i].length = c) (h0 : 0 < m.length) (hc : 0 < c) : ∃ b off cap, v = .slice (some ⟨b, off, none⟩) m.length cap ∧ ∀ k, k < m.length → ∃ b2 off2 cap2, w.cell? ⟨b, off + k, none⟩ = some (.slice (some ⟨b2, off2, none⟩) c cap2) ∧ ∀ j, j < c → w.cell? ⟨b2, off2 + j, none⟩ = some (.int .i64 (at2 m k j)) := by
  obtain ⟨b, off, cap, e, q1, q2, hrow⟩ := mat_rows h h0
  refine ⟨b, off, cap, e, fun k hk => ?_⟩
  obtain ⟨u, g1, ⟨A, cap2, e2, c1, c2, h2⟩⟩ := hrow k hk
  rw [ints_length, hr k hk] at e2
  replace h2 := h2.resolve_left (by
    intro e
    have := congrArg List.length e
    rw [ints_length, hr k hk] at this
    simp only [List.length_nil] at this
    omega)
  obtain ⟨b2, off2, rfl, h2⟩ := h2
  refine ⟨b2, off2, cap2, by rw [g1, e2], fun j hj => ?_⟩
  have hj' : j < m[k].length := by rw [hr k hk]; exact hj
  rw [at2_eq m k j hk hj']
  exact ints_at h2 j hj'
/-- a new slice of ints, and whether there is one -/
def IntsSaid (r : List Int) (ok : Bool) (w : World) (e : Ending) (w' : World) : Prop := ∃ v, e = .returned (.tuple #[v, .bool ok]) ∧ w'.ownsRow w.heap.size 3 1 v r.length (ints r) ∧ Below w.heap.size w w'
theorem intsSaid_no {r : List Int} {ok : Bool} {w w' : World} (h1 : r = []) (h2 : ok = false) (hb : Below w.heap.size w w') : IntsSaid r ok w (.returned (.tuple #[.slice none 0 0, .bool false])) w' :=
  ⟨_, by rw [h2], by rw [h1]; exact World.ownsRow_nil _ _ _ _, hb⟩
theorem own_ints_at {w : World} {B g cp n : Nat} {l : List Int} (h : w.ownsRow B 3 1 (.slice (some ⟨g, 0, none⟩) n cp) n (ints l)) (hl : l.length = n) (k : Nat) (hk : k < n) : w.cell? ⟨g, k, none⟩ = some (.int .i64 (l.getD k 0)) := by
  rw [h.cellAt k (by omega)]
  simp [ints, List.getD, List.getElem?_eq_getElem (show k < l.length by omega)]

theorem ints_one' (l : List Int) : ∀ u ∈ ints l, u.oneCell' = true := by
  intro u hu
  simp only [ints, List.mem_map] at hu
  obtain ⟨x, _, rfl⟩ := hu
  rfl

end Go.Proofs.Ytiikledbflgejaa

/- l04Letter and LengthAfter of the model. Conditions: lengths of at most 2^20. -/
namespace Go.Proofs.Ytiikledbflgejaa
open Go.RowKit
end Go.Proofs.Ytiikledbflgejaa

/- ReachedBy of the model. Conditions: lengths of at most 2^20. -/
namespace Go.Proofs.Ytiikledbflgejaa
open Go.RowKit

def boolsV (s : List Bool) : List Value := s.map Value.bool
theorem bool_info : (Try.prog.info? 4).map (fun i => (i.zero, i.size, i.bytes)) = some (some (.bool false), 1, 1) := by kernel_rfl
theorem own_bool_at {w : World} {B g cp n : Nat} {s : List Bool} (h : w.ownsRow B 4 1 (.slice (some ⟨g, 0, none⟩) n cp) n (boolsV s)) (hl : s.length = n) (k : Nat) (hk : k < n) : w.cell? ⟨g, k, none⟩ = some (.bool (got s k)) := by
  rw [h.cellAt k (by omega)]
  simp [boolsV, got, List.getD, List.getElem?_eq_getElem (show k < s.length by omega)]
theorem boolsV_set (s : List Bool) (k : Nat) : (boolsV s).set k (.bool true) = boolsV (s.set k true) := by unfold boolsV; rw [List.map_set]
theorem letterN_slice (P : Program) {t : TypeId} (ht : P.underlying t = some .string) (k : Nat) (hk : k ≤ 3) (w : World) :
    (Instr.slice t (.string ⟨#[97, 98, 99, 100]⟩) (some (.int .i64 (k : Int))) (some (.int .i64 ((k : Int) + 1))) none).run P w = .ok (.string ⟨#[letterN k]⟩) w := by
  have h4 : ((⟨#[97, 98, 99, 100]⟩ : ByteArray).size : Int) = 4 := rfl
  rw [run_slice_string (P := P) w t ⟨#[97, 98, 99, 100]⟩ .i64 .i64 (k : Int) ((k : Int) + 1) ht (by omega) (by omega) (by omega)]
  rcases (show k = 0 ∨ k = 1 ∨ k = 2 ∨ k = 3 by omega) with e | e | e | e <;> subst e <;> rfl
def outS (s : Nat → Bool) (j : Nat) : ByteArray := ⟨(outTo s j).toArray⟩
theorem outS_yes {s : Nat → Bool} {j : Nat} (h : s j = true) : outS s j ++ ⟨#[letterN j]⟩ = outS s (j + 1) := by
  apply bytes_ext
  rw [ByteArray.toList_eq, ByteArray.toList_eq]
  show (outS s j ++ ⟨#[letterN j]⟩).data.toList = (outTo s j ++ if s j = true then [letterN j] else [])
  rw [if_pos h, ByteArray.data_append]
  simp [outS]
theorem outS_no {s : Nat → Bool} {j : Nat} (h : s j = false) : outS s (j + 1) = outS s j := by
  unfold outS
  show (ByteArray.mk (outTo s j ++ if s j = true then [letterN j] else []).toArray) = _
  rw [h]
  simp
theorem outTo_length (s : Nat → Bool) : ∀ j, (outTo s j).length ≤ j
  | 0 => Nat.le_refl _
  | j + 1 => by
    have := outTo_length s j
    show (outTo s j ++ if s j = true then [letterN j] else []).length ≤ j + 1
    rw [List.length_append]
    split
    · simp; omega
    · simp; omega
theorem outS_size (s : Nat → Bool) (j : Nat) : (outS s j).size ≤ j := by
  have := outTo_length s j
  show (outTo s j).toArray.size ≤ j
  simpa using this

end Go.Proofs.Ytiikledbflgejaa

/- Growing letters of the model. Conditions: lengths of at most 2^20. -/
namespace Go.Proofs.Ytiikledbflgejaa
open Go.RowKit

theorem growB_at {l : List ByteArray} {k : Nat} (hk : k < l.length) : growB l k = (decide (1 < l[k].size) && decide (firstN l k = k)) := by
  unfold growB; rw [getD_l hk]
end Go.Proofs.Ytiikledbflgejaa
