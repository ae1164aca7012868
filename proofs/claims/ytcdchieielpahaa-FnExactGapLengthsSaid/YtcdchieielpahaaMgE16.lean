/- Texts put together. -/
import Derived.Test.YtcdchieielpahaaChecked
import Derived.Test.YtcdchieielpahaaMgE5
import Derived.Deep.RegionWith
import Derived.Deep.RegionHeld3
import Derived.Deep.QuietTactic
import Derived.BigQuiet
import Derived.Deep.Draws
import Derived.Lib.Join
import Derived.SliceStrings
/- The laws' own helpers on slices of strings: markText, markStringS, heldStringS, eqStringS, as contracts. Conditions: lengths as Go has them. -/
namespace Go.Proofs.Ytcdchieielpahaa
open Go.RowKit

/-- decimal digits, the last first laid; the fuel is above the number -/
def decF : Nat → Nat → List UInt8 → List UInt8
  | 0, _, out => out
  | f + 1, k, out => if k = 0 then out else decF f (k / 10) (UInt8.ofNat (48 + k % 10) :: out)
theorem decF_zero (f : Nat) (out : List UInt8) : decF f 0 out = out := by cases f <;> simp [decF]
def markL (k : Int) : List UInt8 := if k ≤ 0 then [109, 48] else 109 :: decF 20 k.toNat []
def markS (k : Int) : ByteArray := ⟨(markL k).toArray⟩

/-- the n marks from k on -/
def marks (k : Int) (n : Nat) : List ByteArray := (List.range n).map fun (i : Nat) => markS (k + (i : Int))
theorem marks_length (k : Int) (n : Nat) : (marks k n).length = n := by simp [marks]
theorem marks_at (k : Int) (n i : Nat) (h : i < n) : (marks k n)[i]'(by simpa [marks] using h) = markS (k + i) := by simp [marks]
theorem marks_succ (k : Int) (n : Nat) : strs (marks k (n + 1)) = strs (marks k n) ++ [.string (markS (k + n))] := by simp [marks, strs, List.range_succ]

end Go.Proofs.Ytcdchieielpahaa

/- What Join is to give. No program in it. -/
namespace Go.Proofs.Ytcdchieielpahaa
open Go.RowKit

def joinS (xs : List ByteArray) (sep : ByteArray) : ByteArray := ⟨(Lib.join (xs.map (·.data.toList)) sep.data.toList).toArray⟩

def totalS (l : List ByteArray) : Nat := (l.map ByteArray.size).sum
theorem totalS_succ (l : List ByteArray) (k : Nat) (h : k < l.length) : totalS (l.take (k + 1)) = totalS (l.take k) + l[k].size := by
  unfold totalS
  rw [List.take_succ_eq_append_getElem h, List.map_append, List.sum_append]
  simp only [List.map_cons, List.map_nil, List.sum_cons, List.sum_nil, Nat.add_zero]
theorem joinS_nil (sep : ByteArray) : joinS [] sep = ⟨#[]⟩ := rfl
theorem joinS_one (x sep : ByteArray) : joinS [x] sep = x := by
  obtain ⟨⟨x⟩⟩ := x
  simp [joinS, Lib.join_one]
theorem joinS_first (l : List ByteArray) (sep : ByteArray) (k : Nat) (h0 : k = 0) (h : k < l.length) : joinS (l.take (k + 1)) sep = joinS (l.take k) sep ++ l[k] := by
  subst h0
  cases l with
  | nil => simp at h
  | cons x r =>
    show joinS [x] sep = joinS [] sep ++ x
    rw [joinS_one, joinS_nil]
    apply ByteArray.ext
    simp [ByteArray.data_append]
theorem bytes_eq (s : ByteArray) : s = ⟨s.data.toList.toArray⟩ := by obtain ⟨⟨l⟩⟩ := s; rfl
theorem joinS_next (l : List ByteArray) (sep : ByteArray) (k : Nat) (h0 : 0 < k) (h : k < l.length) : joinS (l.take (k + 1)) sep = joinS (l.take k) sep ++ sep ++ l[k] := by
  cases l with
  | nil => simp at h
  | cons x r =>
    obtain ⟨j, rfl⟩ : ∃ j, k = j + 1 := ⟨k - 1, by omega⟩
    have hj : j < r.length := by simpa using h
    have hr : (r.map (·.data.toList))[j]? = some r[j].data.toList := by simp [hj]
    have e1 : ((x :: r).take (j + 1 + 1)).map (·.data.toList) = x.data.toList :: (r.map (·.data.toList)).take (j + 1) := by simp [List.map_take]
    have e2 : ((x :: r).take (j + 1)).map (·.data.toList) = x.data.toList :: (r.map (·.data.toList)).take j := by simp [List.map_take]
    unfold joinS
    rw [e1, e2, Lib.join_cons, Lib.join_cons, Lib.joinTail_take_succ _ _ _ _ hr]
    rw [List.getElem_cons_succ]
    generalize r[j] = z
    obtain ⟨⟨z⟩⟩ := z
    obtain ⟨⟨p⟩⟩ := sep
    rw [show (ByteArray.mk { toList := p }) = ByteArray.mk p.toArray from rfl, show (ByteArray.mk { toList := z }) = ByteArray.mk z.toArray from rfl, ByteArray.mk_append_mk, ByteArray.mk_append_mk]
    simp only [List.append_assoc]
theorem lens_total (l : List ByteArray) : Lib.lens (l.map (·.data.toList)) = totalS l := by
  unfold Lib.lens totalS
  rw [List.map_map]
  congr 1
theorem joinS_size (l : List ByteArray) (sep : ByteArray) : (joinS l sep).size ≤ totalS l + l.length * sep.size := by
  cases l with
  | nil => exact Nat.zero_le _
  | cons x r =>
    have h1 : (joinS (x :: r) sep).size = x.size + (sep.size * r.length + totalS r) := by
      show (Lib.join _ _).toArray.size = _
      rw [List.size_toArray, List.map_cons, Lib.join_cons, List.length_append, Lib.joinTail_length, lens_total, List.length_map]
      rfl
    have h2 : totalS (x :: r) = x.size + totalS r := by simp [totalS]
    rw [h1, h2, List.length_cons, Nat.succ_mul, Nat.mul_comm]
    omega
theorem totalS_take (l : List ByteArray) (k : Nat) : totalS (l.take k) ≤ totalS l := by
  rw [← lens_total, ← lens_total, List.map_take]
  exact Lib.lens_take_le _ _
theorem joinS_small (l : List ByteArray) (sep : ByteArray) (h1 : l.length + totalS l ≤ 1048576) (h2 : sep.size ≤ 1048576) (k : Nat) : (joinS (l.take k) sep).size ≤ 1099512676352 := by
  have a := joinS_size (l.take k) sep
  have b := totalS_take l k
  have c : (l.take k).length * sep.size ≤ 1048576 * 1048576 := Nat.mul_le_mul (by rw [List.length_take]; omega) h2
  omega
end Go.Proofs.Ytcdchieielpahaa

/- A closed fact on the type string: its zero, its size. -/
namespace Go.Proofs.Ytcdchieielpahaa
theorem str_info : (Try.prog.info? 9).map (fun i => (i.zero, i.size, i.bytes)) = some (some (.string ⟨#[]⟩), 1, 16) := by kernel_rfl
theorem cellsOf_str : Try.prog.cellsOf 9 = 1 := by kernel_rfl
end Go.Proofs.Ytcdchieielpahaa

/- The laws' helpers on an argument that is a slice of strings: szStringS bounds it, toStringS copies it; and the argument opened to the list that it holds. -/
namespace Go.Proofs.Ytcdchieielpahaa
open Go.ChangeShapes Go.WideShapes Go.RowKit

theorem lst_arg {H : Type} {enc : TypeId × Value → H} {P : Program} {w : World} {base : Nat} {r : Reach} {b0 : Nat} {t e : TypeId} {v : Value} {d : DataW H} {ps : List MemPlace} (ht : P.underlying t = some (.slice e)) (he : P.underlying e = some .string) (hc : P.cellsOf e = 1)
    (hval : Value.okWide P w r b0 t v) (h : DataW.Trod enc P w base (fun _ => true) true t v d ps) : ∃ l : List ByteArray, Lst w v (strs l) ∧ ∀ x ∈ l, x.size ≤ maxLen := by
  obtain ⟨fuel, hf⟩ := h
  have hcells : v.cells = #[v] ∨ v.cells ≠ #[v] := Classical.em _
  obtain ⟨A, ln, cp, rfl⟩ : ∃ A ln cp, v = .slice A ln cp := by
    simp only [Value.okWide, ht, Cell.okWide] at hval
    cases v <;> simp_all [Cell.ok]
  rcases open_strings ht he hc hf with ⟨hcs, _⟩ | ⟨a, len, cap, ss, hcs, _, hl, hm, hlen, _, hcell, hss⟩
  · simp [Value.cells] at hcs
    obtain ⟨rfl, rfl, rfl⟩ := hcs
    exact ⟨[], ⟨none, 0, by simp [strs], by simp [strs], by simp [maxLen], .inl rfl⟩, by simp⟩
  · simp [Value.cells] at hcs
    obtain ⟨rfl, rfl, rfl⟩ := hcs
    simp at hlen
    refine ⟨ss.take ln, ?_, fun x hx => hss x (List.mem_of_mem_take hx)⟩
    refine ⟨some a, cp, by simp [strs, hlen, Nat.min_eq_left hl], by simp [strs, hlen]; omega, hm, ?_⟩
    by_cases h0 : ln = 0
    · subst h0
      exact .inl (by simp [strs])
    · obtain ⟨b, off, spot⟩ := a
      have h1 := hcell 0 (by omega)
      have hspot : spot = none := by simpa [Addr.add] using World.cell?_spot h1
      subst hspot
      refine .inr ⟨b, off, rfl, fun i u hu => ?_⟩
      have hi : i < ln := by
        have := (List.getElem?_eq_some_iff.1 hu).1
        simp [strs, hlen] at this
        omega
      have h2 := hcell i (by omega)
      rw [Addr.add_lit] at h2
      rw [h2]
      simp [strs, hi] at hu
      obtain ⟨x, hx, rfl⟩ := hu
      simp [List.getD, hx]

/-- what szStringS says: a bound on all that the slice holds, or -1 -/
def SzSaid (l : List ByteArray) (left : Int) (w : World) (e : Ending) (w' : World) : Prop :=
  w = w' ∧ ∃ r : Int, e = .returned (.int .i64 r) ∧ -1 ≤ r ∧ r ≤ left ∧ (0 ≤ r → (l.length : Int) + totalS l + r = left)

end Go.Proofs.Ytcdchieielpahaa
