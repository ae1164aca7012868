/- Texts put together. -/
import Derived.Test.YtcdchieielpahaaChecked
import Derived.Test.YtcdchieielpahaaMgC5
import Derived.Laws.IdiomStrings
import Derived.Test.YtcdchieielpahaaMgC9
import Derived.Test.YtcdchieielpahaaMgC11
import Derived.Test.YtcdchieielpahaaMgC10
import Derived.IntWalk
import Derived.Test.YtcdchieielpahaaMgC16
import Derived.Test.YtcdchieielpahaaMgC12
/- A row of bytes of the call's own: its conversion to a text. -/
namespace Go.Proofs.Ytcdchieielpahaa
open Go.RowKit

def byteCells (l : List UInt8) : List Value := l.map fun b => .int .u8 (b.toNat : Int)
theorem byteCells_length (l : List UInt8) : (byteCells l).length = l.length := by simp [byteCells]
theorem byteCells_snoc (l : List UInt8) (b : UInt8) : byteCells (l ++ [b]) = byteCells l ++ [.int .u8 (b.toNat : Int)] := by simp [byteCells]
theorem byteCells_one (l : List UInt8) : ∀ u ∈ byteCells l, u.oneCell' = true := by
  intro u hu
  simp only [byteCells, List.mem_map] at hu
  obtain ⟨b, _, rfl⟩ := hu
  rfl
theorem u8_info : (Try.prog.info? 5).map (fun i => (i.zero, i.size, i.bytes)) = some (some (.int .u8 0), 1, 1) := by kernel_rfl
theorem conv_own_to {ts : TypeId} (hts : Try.prog.underlying ts = some .string) {w : World} {B n : Nat} {v : Value} {l : List UInt8} (h : w.ownsRow B 5 1 v n (byteCells l)) :
    (convert 33 ts v).run Try.prog w = .ok (.string ⟨l.toArray⟩) w := by
  have hl := h.1
  rw [Nat.mul_one, byteCells_length] at hl
  subst hl
  rcases h.2 with ⟨rfl, hn⟩ | ⟨g, cap, cur, rfl, _, _, _, _, _, _⟩
  · have e := List.eq_nil_of_length_eq_zero hn
    subst e
    rw [run_convert_bytes_string w _ _ _ none 0 0 Try.underlying33 Try.underlying5 hts]
    simp [Conv.bytesToString]
    rfl
  · refine run_convert_bytes_back w _ _ _ _ _ l Try.underlying33 Try.underlying5 hts (fun j hj => ?_)
    exact h.cells (g := g) rfl j _ (by simp [byteCells, hj])
theorem conv_own {w : World} {B n : Nat} {v : Value} {l : List UInt8} (h : w.ownsRow B 5 1 v n (byteCells l)) :
    (convert 33 9 v).run Try.prog w = .ok (.string ⟨l.toArray⟩) w := conv_own_to Try.underlying9 h
/-- one more byte of L laid over the old cells zs -/
theorem byteCells_set (L : List UInt8) (zs : List Value) (k : Nat) (hk : k < L.length) (hz : zs.length = L.length) :
    (byteCells (L.take k) ++ zs.drop k).set k (.int .u8 (L[k].toNat : Int)) = byteCells (L.take (k + 1)) ++ zs.drop (k + 1) := by
  have hd : zs.drop k = zs[k]'(by omega) :: zs.drop (k + 1) := List.drop_eq_getElem_cons _
  have hlk : (byteCells (L.take k)).length = k := by rw [byteCells_length, List.length_take]; omega
  rw [List.take_succ_eq_append_getElem hk, hd, List.set_append_right _ _ (by omega), hlk, Nat.sub_self, List.set_cons_zero, byteCells_snoc, List.append_assoc]
  rfl
theorem byteCells_get (L : List UInt8) (zs : List Value) (k : Nat) (hk : k < L.length) (hz : zs.length = L.length) : ∃ u, (byteCells (L.take k) ++ zs.drop k)[k]? = some u :=
  ⟨(byteCells (L.take k) ++ zs.drop k)[k]'(by rw [List.length_append, byteCells_length, List.length_take, List.length_drop]; omega), List.getElem?_eq_getElem _⟩
theorem byteCells_end (L : List UInt8) (zs : List Value) (hz : zs.length = L.length) : byteCells (L.take L.length) ++ zs.drop L.length = byteCells L := by
  rw [List.take_length, List.drop_of_length_le (by omega), List.append_nil]

set_option maxRecDepth 100000 in
/-- a text turned into a new row of bytes -/
theorem conv_text (w : World) (s : ByteArray) {ts : TypeId} (hts : Try.prog.underlying ts = some .string) :
    ∃ c wc, (convert ts 33 (.string s)).run Try.prog w = .ok (.slice (some ⟨w.heap.size, 0, none⟩) s.size c) wc ∧ Below w.heap.size w wc ∧ w.heap.size < wc.heap.size ∧ ∀ (j : Nat) (u : Value), (byteCells s.data.toList)[j]? = some u → wc.cell? ⟨w.heap.size, j, none⟩ = some u := by
  refine ⟨_, _, run_bytes_of_string w _ _ 5 s hts Try.underlying33 Try.underlying5, ((Below.refl _ _).drew).alloc (Nat.le_refl _) _, by simp, fun j u hu => ?_⟩
  have hj : j < s.data.size := by
    have := (List.getElem?_eq_some_iff.1 hu).1
    rw [byteCells_length] at this
    simpa using this
  have e : u = .int .u8 (s.data[j].toNat : Int) := by
    simp only [byteCells, List.getElem?_map, Option.map_eq_some_iff] at hu
    obtain ⟨a, ha, rfl⟩ := hu
    rw [Array.getElem?_toList, Array.getElem?_eq_getElem hj] at ha
    injection ha with ha
    rw [ha]
  rw [e, ← bytesRow_at s (grownCap w s.size 0 5) j hj]
  exact cell_of_row _ w.heap.size j (bytesRow s (grownCap w s.size 0 5)) 5 ((bytesRow s (grownCap w s.size 0 5)).size, (bytesRow s (grownCap w s.size 0 5)).size + 1) (by simp [World.alloc, World.drew, -World.alloc_eq, -World.drew_eq])
end Go.Proofs.Ytcdchieielpahaa

/- What the model makes of a word under a substitution. Condition: the substitution and the word are valid. -/
namespace Go.Proofs.Ytcdchieielpahaa
open Go.RowKit

def ApplySaid (l : List ByteArray) (s : ByteArray) (w : World) (e : Ending) (w' : World) : Prop :=
  Below w.heap.size w w' ∧ ∃ r : ByteArray, e = .returned (.string r) ∧ r.size ≤ 408 ∧ ((applyL l s.data.toList).length ≤ 400 → r = ⟨(applyL l s.data.toList).toArray⟩) ∧ (400 < (applyL l s.data.toList).length → 400 < r.size)

theorem lst_at {w : World} {v : Value} {l : List ByteArray} (h : Lst w v (strs l)) (h0 : 0 < l.length) : ∃ b off cap, v = .slice (some ⟨b, off, none⟩) l.length cap ∧ ∀ k (hk : k < l.length), w.cell? ⟨b, off + k, none⟩ = some (.string l[k]) := by
  obtain ⟨A, cap, h1, _, _, h2⟩ := h
  rw [strs_length] at h1
  rcases h2 with h2 | ⟨b, off, rfl, h2⟩
  · have := congrArg List.length h2
    rw [strs_length] at this
    simp only [List.length_nil] at this
    omega
  · exact ⟨b, off, cap, h1, fun k hk => strs_at h2 k hk⟩

end Go.Proofs.Ytcdchieielpahaa

/- l04Matrix and MatrixOf of the model. Conditions: lengths of at most 2^20. -/
namespace Go.Proofs.Ytcdchieielpahaa
open Go.RowKit
theorem matR_sum (l : List ByteArray) : sumN ((matR l).map List.length) ≤ 16 := by
  have h1 := matR_le l
  have h2 := sum_rect (m := matR l) (c := 4) (fun x hx => by
    unfold matR at hx
    split at hx
    · rename_i h
      obtain ⟨i, hi, rfl⟩ := List.mem_iff_getElem.1 hx
      rw [matL_at, rowL_length]
      exact (subst_parts h).2.1
    · simp at hx)
  omega
end Go.Proofs.Ytcdchieielpahaa

/- CountAfter of the model. Conditions: lengths of at most 2^20. -/
namespace Go.Proofs.Ytcdchieielpahaa
open Go.RowKit

/-- a matrix whose rows have one length, cell by cell -/
theorem mat_rect {w : World} {v : Value} {m : List (List Int)} {c : Nat} (h : Mat w v m) (hr : ∀ i (hi : i < m.length), m[i].length = c) (h0 : 0 < m.length) (hc : 0 < c) : ∃ b off cap, v = .slice (some ⟨b, off, none⟩) m.length cap ∧ ∀ k, k < m.length → ∃ b2 off2 cap2, w.cell? ⟨b, off + k, none⟩ = some (.slice (some ⟨b2, off2, none⟩) c cap2) ∧ ∀ j, j < c → w.cell? ⟨b2, off2 + j, none⟩ = some (.int .i64 (at2 m k j)) := by
  obtain ⟨b, off, cap, e, q1, q2, hrow⟩ := mat_rows h h0
  refine ⟨b, off, cap, e, fun k hk => ?_⟩
  obtain ⟨u, g1, ⟨A, cap2, e2, c1, c2, h2⟩⟩ := hrow k hk
  rw [ints_length, hr k hk] at e2
  replace h2 := h2.resolve_left (by
    intro e
    have := congrArg List.length e
    rw [ints_length, hr k hk] at this
    simp only [List.length_nil] at this
    omega)
  obtain ⟨b2, off2, rfl, h2⟩ := h2
  refine ⟨b2, off2, cap2, by rw [g1, e2], fun j hj => ?_⟩
  have hj' : j < m[k].length := by rw [hr k hk]; exact hj
  rw [at2_eq m k j hk hj']
  exact ints_at h2 j hj'
/-- a new slice of ints, and whether there is one -/
def IntsSaid (r : List Int) (ok : Bool) (w : World) (e : Ending) (w' : World) : Prop := ∃ v, e = .returned (.tuple #[v, .bool ok]) ∧ w'.ownsRow w.heap.size 3 1 v r.length (ints r) ∧ Below w.heap.size w w'
theorem intsSaid_no {r : List Int} {ok : Bool} {w w' : World} (h1 : r = []) (h2 : ok = false) (hb : Below w.heap.size w w') : IntsSaid r ok w (.returned (.tuple #[.slice none 0 0, .bool false])) w' :=
  ⟨_, by rw [h2], by rw [h1]; exact World.ownsRow_nil _ _ _ _, hb⟩
theorem own_ints_at {w : World} {B g cp n : Nat} {l : List Int} (h : w.ownsRow B 3 1 (.slice (some ⟨g, 0, none⟩) n cp) n (ints l)) (hl : l.length = n) (k : Nat) (hk : k < n) : w.cell? ⟨g, k, none⟩ = some (.int .i64 (l.getD k 0)) := by
  rw [h.cellAt k (by omega)]
  simp [ints, List.getD, List.getElem?_eq_getElem (show k < l.length by omega)]

theorem ints_one' (l : List Int) : ∀ u ∈ ints l, u.oneCell' = true := by
  intro u hu
  simp only [ints, List.mem_map] at hu
  obtain ⟨x, _, rfl⟩ := hu
  rfl

end Go.Proofs.Ytcdchieielpahaa
