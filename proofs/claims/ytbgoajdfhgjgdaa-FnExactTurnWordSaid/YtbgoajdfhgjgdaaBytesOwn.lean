/- A row of bytes of the call's own: its conversion to a text. -/
import Derived.Test.YtbgoajdfhgjgdaaChecked
import Derived.Test.YtbgoajdfhgjgdaaLst
import Derived.Laws.IdiomStrings
namespace Go.Proofs.Ytbgoajdfhgjgdaa
open Go.RowKit

def byteCells (l : List UInt8) : List Value := l.map fun b => .int .u8 (b.toNat : Int)
theorem byteCells_length (l : List UInt8) : (byteCells l).length = l.length := by simp [byteCells]
theorem byteCells_snoc (l : List UInt8) (b : UInt8) : byteCells (l ++ [b]) = byteCells l ++ [.int .u8 (b.toNat : Int)] := by simp [byteCells]
theorem u8_info : (Try.prog.info? 5).map (fun i => (i.zero, i.size, i.bytes)) = some (some (.int .u8 0), 1, 1) := by kernel_rfl
theorem conv_own_to {ts : TypeId} (hts : Try.prog.underlying ts = some .string) {w : World} {B n : Nat} {v : Value} {l : List UInt8} (h : w.ownsRow B 5 1 v n (byteCells l)) :
    (convert 44 ts v).run Try.prog w = .ok (.string ⟨l.toArray⟩) w := by
  have hl := h.1
  rw [Nat.mul_one, byteCells_length] at hl
  subst hl
  rcases h.2 with ⟨rfl, hn⟩ | ⟨g, cap, cur, rfl, _, _, _, _, _, _⟩
  · have e := List.eq_nil_of_length_eq_zero hn
    subst e
    rw [run_convert_bytes_string w _ _ _ none 0 0 Try.underlying44 Try.underlying5 hts]
    simp [Conv.bytesToString]
    rfl
  · refine run_convert_bytes_back w _ _ _ _ _ l Try.underlying44 Try.underlying5 hts (fun j hj => ?_)
    exact h.cells (g := g) rfl j _ (by simp [byteCells, hj])
theorem conv_own {w : World} {B n : Nat} {v : Value} {l : List UInt8} (h : w.ownsRow B 5 1 v n (byteCells l)) :
    (convert 44 9 v).run Try.prog w = .ok (.string ⟨l.toArray⟩) w := conv_own_to Try.underlying9 h
/-- one more byte of L laid over the old cells zs -/
theorem byteCells_set (L : List UInt8) (zs : List Value) (k : Nat) (hk : k < L.length) (hz : zs.length = L.length) :
    (byteCells (L.take k) ++ zs.drop k).set k (.int .u8 (L[k].toNat : Int)) = byteCells (L.take (k + 1)) ++ zs.drop (k + 1) := by
  have hd : zs.drop k = zs[k]'(by omega) :: zs.drop (k + 1) := List.drop_eq_getElem_cons _
  have hlk : (byteCells (L.take k)).length = k := by rw [byteCells_length, List.length_take]; omega
  rw [List.take_succ_eq_append_getElem hk, hd, List.set_append_right _ _ (by omega), hlk, Nat.sub_self, List.set_cons_zero, byteCells_snoc, List.append_assoc]
  rfl
theorem byteCells_get (L : List UInt8) (zs : List Value) (k : Nat) (hk : k < L.length) (hz : zs.length = L.length) : ∃ u, (byteCells (L.take k) ++ zs.drop k)[k]? = some u :=
  ⟨(byteCells (L.take k) ++ zs.drop k)[k]'(by rw [List.length_append, byteCells_length, List.length_take, List.length_drop]; omega), List.getElem?_eq_getElem _⟩
theorem byteCells_end (L : List UInt8) (zs : List Value) (hz : zs.length = L.length) : byteCells (L.take L.length) ++ zs.drop L.length = byteCells L := by
  rw [List.take_length, List.drop_of_length_le (by omega), List.append_nil]
end Go.Proofs.Ytbgoajdfhgjgdaa
