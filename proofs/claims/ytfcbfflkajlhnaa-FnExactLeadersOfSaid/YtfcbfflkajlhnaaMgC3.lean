/- Texts put together. -/
import Derived.Test.YtfcbfflkajlhnaaMgC2
import Derived.Lib.Join
import Derived.Test.YtfcbfflkajlhnaaChecked
import Derived.Test.YtfcbfflkajlhnaaMgC1
/- What Join is to give. No program in it. -/
namespace Go.Proofs.Ytfcbfflkajlhnaa
open Go.RowKit

def joinS (xs : List ByteArray) (sep : ByteArray) : ByteArray := ⟨(Lib.join (xs.map (·.data.toList)) sep.data.toList).toArray⟩

def totalS (l : List ByteArray) : Nat := (l.map ByteArray.size).sum
theorem totalS_succ (l : List ByteArray) (k : Nat) (h : k < l.length) : totalS (l.take (k + 1)) = totalS (l.take k) + l[k].size := by
  unfold totalS
  rw [List.take_succ_eq_append_getElem h, List.map_append, List.sum_append]
  simp only [List.map_cons, List.map_nil, List.sum_cons, List.sum_nil, Nat.add_zero]
theorem joinS_nil (sep : ByteArray) : joinS [] sep = ⟨#[]⟩ := rfl
theorem joinS_one (x sep : ByteArray) : joinS [x] sep = x := by
  obtain ⟨⟨x⟩⟩ := x
  simp [joinS, Lib.join_one]
theorem joinS_first (l : List ByteArray) (sep : ByteArray) (k : Nat) (h0 : k = 0) (h : k < l.length) : joinS (l.take (k + 1)) sep = joinS (l.take k) sep ++ l[k] := by
  subst h0
  cases l with
  | nil => simp at h
  | cons x r =>
    show joinS [x] sep = joinS [] sep ++ x
    rw [joinS_one, joinS_nil]
    apply ByteArray.ext
    simp [ByteArray.data_append]
theorem bytes_eq (s : ByteArray) : s = ⟨s.data.toList.toArray⟩ := by obtain ⟨⟨l⟩⟩ := s; rfl
theorem joinS_next (l : List ByteArray) (sep : ByteArray) (k : Nat) (h0 : 0 < k) (h : k < l.length) : joinS (l.take (k + 1)) sep = joinS (l.take k) sep ++ sep ++ l[k] := by
  cases l with
  | nil => simp at h
  | cons x r =>
    obtain ⟨j, rfl⟩ : ∃ j, k = j + 1 := ⟨k - 1, by omega⟩
    have hj : j < r.length := by simpa using h
    have hr : (r.map (·.data.toList))[j]? = some r[j].data.toList := by simp [hj]
    have e1 : ((x :: r).take (j + 1 + 1)).map (·.data.toList) = x.data.toList :: (r.map (·.data.toList)).take (j + 1) := by simp [List.map_take]
    have e2 : ((x :: r).take (j + 1)).map (·.data.toList) = x.data.toList :: (r.map (·.data.toList)).take j := by simp [List.map_take]
    unfold joinS
    rw [e1, e2, Lib.join_cons, Lib.join_cons, Lib.joinTail_take_succ _ _ _ _ hr]
    rw [List.getElem_cons_succ]
    generalize r[j] = z
    obtain ⟨⟨z⟩⟩ := z
    obtain ⟨⟨p⟩⟩ := sep
    rw [show (ByteArray.mk { toList := p }) = ByteArray.mk p.toArray from rfl, show (ByteArray.mk { toList := z }) = ByteArray.mk z.toArray from rfl, ByteArray.mk_append_mk, ByteArray.mk_append_mk]
    simp only [List.append_assoc]
theorem lens_total (l : List ByteArray) : Lib.lens (l.map (·.data.toList)) = totalS l := by
  unfold Lib.lens totalS
  rw [List.map_map]
  congr 1
theorem joinS_size (l : List ByteArray) (sep : ByteArray) : (joinS l sep).size ≤ totalS l + l.length * sep.size := by
  cases l with
  | nil => exact Nat.zero_le _
  | cons x r =>
    have h1 : (joinS (x :: r) sep).size = x.size + (sep.size * r.length + totalS r) := by
      show (Lib.join _ _).toArray.size = _
      rw [List.size_toArray, List.map_cons, Lib.join_cons, List.length_append, Lib.joinTail_length, lens_total, List.length_map]
      rfl
    have h2 : totalS (x :: r) = x.size + totalS r := by simp [totalS]
    rw [h1, h2, List.length_cons, Nat.succ_mul, Nat.mul_comm]
    omega
theorem totalS_take (l : List ByteArray) (k : Nat) : totalS (l.take k) ≤ totalS l := by
  rw [← lens_total, ← lens_total, List.map_take]
  exact Lib.lens_take_le _ _
theorem joinS_small (l : List ByteArray) (sep : ByteArray) (h1 : l.length + totalS l ≤ 1048576) (h2 : sep.size ≤ 1048576) (k : Nat) : (joinS (l.take k) sep).size ≤ 1099512676352 := by
  have a := joinS_size (l.take k) sep
  have b := totalS_take l k
  have c : (l.take k).length * sep.size ≤ 1048576 * 1048576 := Nat.mul_le_mul (by rw [List.length_take]; omega) h2
  omega
end Go.Proofs.Ytfcbfflkajlhnaa

/- A closed fact on the type string: its zero, its size. -/
namespace Go.Proofs.Ytfcbfflkajlhnaa
theorem str_info : (Try.prog.info? 9).map (fun i => (i.zero, i.size, i.bytes)) = some (some (.string ⟨#[]⟩), 1, 16) := by kernel_rfl
theorem cellsOf_str : Try.prog.cellsOf 9 = 1 := by kernel_rfl
end Go.Proofs.Ytfcbfflkajlhnaa
