/- Texts put together. -/
import Derived.Test.YtcdchieielpahaaChecked
import Derived.Test.YtcdchieielpahaaMgC5
import Derived.Test.YtcdchieielpahaaMgC15
import Derived.SliceStrings
import Derived.Lib.SmallJoins
import Derived.Test.YtcdchieielpahaaMgC10
/- A closed fact on the type string: its zero, its size. -/
namespace Go.Proofs.Ytcdchieielpahaa
theorem str_info : (Try.prog.info? 9).map (fun i => (i.zero, i.size, i.bytes)) = some (some (.string ⟨#[]⟩), 1, 16) := by kernel_rfl
theorem cellsOf_str : Try.prog.cellsOf 9 = 1 := by kernel_rfl
end Go.Proofs.Ytcdchieielpahaa

/- The laws' helpers on an argument that is a slice of strings: szStringS bounds it, toStringS copies it; and the argument opened to the list that it holds. -/
namespace Go.Proofs.Ytcdchieielpahaa
open Go.ChangeShapes Go.WideShapes Go.RowKit

theorem lst_arg {H : Type} {enc : TypeId × Value → H} {P : Program} {w : World} {base : Nat} {r : Reach} {b0 : Nat} {t e : TypeId} {v : Value} {d : DataW H} {ps : List MemPlace} (ht : P.underlying t = some (.slice e)) (he : P.underlying e = some .string) (hc : P.cellsOf e = 1)
    (hval : Value.okWide P w r b0 t v) (h : DataW.Trod enc P w base (fun _ => true) true t v d ps) : ∃ l : List ByteArray, Lst w v (strs l) ∧ ∀ x ∈ l, x.size ≤ maxLen := by
  obtain ⟨fuel, hf⟩ := h
  have hcells : v.cells = #[v] ∨ v.cells ≠ #[v] := Classical.em _
  obtain ⟨A, ln, cp, rfl⟩ : ∃ A ln cp, v = .slice A ln cp := by
    simp only [Value.okWide, ht, Cell.okWide] at hval
    cases v <;> simp_all [Cell.ok]
  rcases open_strings ht he hc hf with ⟨hcs, _⟩ | ⟨a, len, cap, ss, hcs, _, hl, hm, hlen, _, hcell, hss⟩
  · simp [Value.cells] at hcs
    obtain ⟨rfl, rfl, rfl⟩ := hcs
    exact ⟨[], ⟨none, 0, by simp [strs], by simp [strs], by simp [maxLen], .inl rfl⟩, by simp⟩
  · simp [Value.cells] at hcs
    obtain ⟨rfl, rfl, rfl⟩ := hcs
    simp at hlen
    refine ⟨ss.take ln, ?_, fun x hx => hss x (List.mem_of_mem_take hx)⟩
    refine ⟨some a, cp, by simp [strs, hlen, Nat.min_eq_left hl], by simp [strs, hlen]; omega, hm, ?_⟩
    by_cases h0 : ln = 0
    · subst h0
      exact .inl (by simp [strs])
    · obtain ⟨b, off, spot⟩ := a
      have h1 := hcell 0 (by omega)
      have hspot : spot = none := by simpa [Addr.add] using World.cell?_spot h1
      subst hspot
      refine .inr ⟨b, off, rfl, fun i u hu => ?_⟩
      have hi : i < ln := by
        have := (List.getElem?_eq_some_iff.1 hu).1
        simp [strs, hlen] at this
        omega
      have h2 := hcell i (by omega)
      rw [Addr.add_lit] at h2
      rw [h2]
      simp [strs, hi] at hu
      obtain ⟨x, hx, rfl⟩ := hu
      simp [List.getD, hx]

/-- what szStringS says: a bound on all that the slice holds, or -1 -/
def SzSaid (l : List ByteArray) (left : Int) (w : World) (e : Ending) (w' : World) : Prop :=
  w = w' ∧ ∃ r : Int, e = .returned (.int .i64 r) ∧ -1 ≤ r ∧ r ≤ left ∧ (0 ≤ r → (l.length : Int) + totalS l + r = left)

end Go.Proofs.Ytcdchieielpahaa

/- The laws' helpers on an argument that is a struct of one slice of strings: bounded, copied, compared, marked; and the argument opened to the list that it holds. -/
namespace Go.Proofs.Ytcdchieielpahaa
open Go.ChangeShapes Go.WideShapes Go.RowKit

theorem array1 {α : Type} {cs : Array α} (h : cs.size = 1) : ∃ c0, cs = #[c0] := by
  obtain ⟨l⟩ := cs
  match l, h with
  | [c0], _ => exact ⟨c0, rfl⟩

theorem lst_cell {H : Type} {enc : TypeId × Value → H} {P : Program} {w : World} {base fuel : Nat} {t e : TypeId} {v : Value} {y : DataW H × List MemPlace} (ht : P.underlying t = some (.slice e)) (he : P.underlying e = some .string) (hc : P.cellsOf e = 1)
    (hf : DataW.trod enc P w base (fun _ => true) true fuel t [v] = some y) : ∃ l : List ByteArray, Lst w v (strs l) ∧ ∀ x ∈ l, x.size ≤ maxLen := by
  obtain ⟨A, ln, cp, hv⟩ := Joins.slice_form ht hf
  injection hv with hv _
  subst hv
  rcases open_strings ht he hc hf with ⟨hcs, _⟩ | ⟨a, len, cap, ss, hcs, _, hl, hm, hlen, _, hcell, hss⟩
  · simp at hcs
    obtain ⟨rfl, rfl, rfl⟩ := hcs
    exact ⟨[], ⟨none, 0, by simp [strs], by simp [strs], by simp [maxLen], .inl rfl⟩, by simp⟩
  · simp at hcs
    obtain ⟨rfl, rfl, rfl⟩ := hcs
    simp at hlen
    refine ⟨ss.take ln, ?_, fun x hx => hss x (List.mem_of_mem_take hx)⟩
    refine ⟨some a, cp, by simp [strs, hlen, Nat.min_eq_left hl], by simp [strs, hlen]; omega, hm, ?_⟩
    by_cases h0 : ln = 0
    · subst h0
      exact .inl (by simp [strs])
    · obtain ⟨b, off, spot⟩ := a
      have h1 := hcell 0 (by omega)
      have hspot : spot = none := by simpa [Addr.add] using World.cell?_spot h1
      subst hspot
      refine .inr ⟨b, off, rfl, fun i u hu => ?_⟩
      have hi : i < ln := by
        have := (List.getElem?_eq_some_iff.1 hu).1
        simp [strs, hlen] at this
        omega
      have h2 := hcell i (by omega)
      rw [Addr.add_lit] at h2
      rw [h2]
      simp [strs, hi] at hu
      obtain ⟨x, hx, rfl⟩ := hu
      simp [List.getD, hx]

/-- a struct of one field, a slice of strings, opened -/
theorem subst_arg {H : Type} {enc : TypeId × Value → H} {P : Program} {w : World} {base : Nat} {r : Reach} {b0 : Nat} {t e : TypeId} {f0 : Field} {v : Value} {d : DataW H} {ps : List MemPlace} (hs : P.underlying t = some (.struct #[f0])) (hC : P.cellsOf t = 1) (ho : f0.offset = 0) (h1 : P.cellsOf f0.type = 1)
    (ht : P.underlying f0.type = some (.slice e)) (he : P.underlying e = some .string) (hc : P.cellsOf e = 1)
    (hval : Value.okWide P w r b0 t v) (h : DataW.Trod enc P w base (fun _ => true) true t v d ps) : ∃ (u : Value) (l : List ByteArray), v = .agg #[u] ∧ Lst w u (strs l) ∧ ∀ x ∈ l, x.size ≤ maxLen := by
  obtain ⟨cs, rfl, hsz⟩ := okWide_struct hs hval
  obtain ⟨c0, rfl⟩ := array1 (hsz.trans hC)
  obtain ⟨fuel, hf⟩ := h
  obtain ⟨xs, n, _, _, hl, hlen, hf0⟩ := DataW.trod_struct hs hf
  have h0 := hf0 0 f0 rfl
  rw [ho, h1] at h0
  obtain ⟨y0, hy0⟩ : ∃ y0, xs[0]? = some y0 := ⟨xs[0]'(by simp at hlen; omega), List.getElem?_eq_getElem _⟩
  rw [hy0] at h0
  obtain ⟨l, hl1, hl2⟩ := lst_cell ht he hc (y := y0) (by simpa [Value.cells] using h0)
  exact ⟨c0, l, rfl, hl1, hl2⟩

/-- what szSubst says: a bound on all that the struct holds, or -1 -/
def SzSub (l : List ByteArray) (left : Int) (w : World) (e : Ending) (w' : World) : Prop :=
  Below w.heap.size w w' ∧ ∃ r : Int, e = .returned (.int .i64 r) ∧ -1 ≤ r ∧ r ≤ left ∧ (0 ≤ r → (l.length : Int) + totalS l + r = left)

theorem sz_use {l : List ByteArray} {r left : Int} (h : (l.length : Int) + totalS l + r = left) (h0 : 0 ≤ r) (h1 : left ≤ 1048576) : l.length ≤ 1048576 ∧ ∀ x ∈ l, x.size ≤ 1048576 := by
  refine ⟨by omega, fun x hx => ?_⟩
  obtain ⟨k, hk, rfl⟩ := List.mem_iff_getElem.1 hx
  have a := totalS_succ l k hk
  have b := totalS_take l (k + 1)
  omega
end Go.Proofs.Ytcdchieielpahaa

/- For the laws over ints and matrices: the helpers' contracts with one kind of end; arguments opened. -/
namespace Go.Proofs.Ytcdchieielpahaa
open Go.ChangeShapes Go.WideShapes Go.RowKit

theorem eqIntS_b (l : List Int) (v1 v2 : Value) (w : World) (h1 : Lst w v1 (ints l)) (h2 : Lst w v2 (ints l)) :
    Calls Try.prog 13 #[v1, v2] w fun e w' => e = .returned (.bool true) ∧ Below w.heap.size w w' :=
  (eqIntS_same l v1 v2 w h1 h2).mono (by rintro e w' ⟨h, n, rfl⟩; exact ⟨h, below_drewN (Below.refl _ _) n⟩)
theorem heldIntS_b (v : Value) (k : Int) (n : Nat) (w : World) (hk : 0 ≤ k) (hkn : k + n ≤ 9223372036854775807) (h1 : Lst w v (ints (upto k n))) :
    Calls Try.prog 15 #[v, .int .i64 k] w fun e w' => e = .returned (.int .i64 (k + n)) ∧ Below w.heap.size w w' :=
  (heldIntS_marks v k n w hk hkn h1).mono (by rintro e w' ⟨h, n, rfl⟩; exact ⟨h, below_drewN (Below.refl _ _) n⟩)
theorem len_le_sumN : ∀ {m : List (List Int)} {x : List Int}, x ∈ m → x.length ≤ sumN (m.map List.length)
  | y :: m, x, h => by
    unfold sumN
    rw [List.map_cons, List.sum_cons]
    rcases List.mem_cons.1 h with rfl | h
    · omega
    · have := len_le_sumN h
      unfold sumN at this
      omega
theorem szM_use {m : List (List Int)} {r left : Int} (h : (m.length : Int) + sumN (lens m) + r = left) (h0 : 0 ≤ r) (h1 : left ≤ 1048576) : m.length ≤ 1048576 ∧ (∀ x ∈ m, x.length ≤ 1048576) ∧ sumN (m.map List.length) ≤ 1048576 := by
  have e : sumN (lens m) = sumN (m.map List.length) := rfl
  rw [e] at h
  exact ⟨by omega, fun x hx => by have := len_le_sumN hx; omega, by omega⟩
theorem KeepsOut.cell {lo hi : Nat} {w w' : World} {a : Nat} {u : Value} (k : KeepsOut lo hi w w') (h : w.cell? ⟨a, 0, none⟩ = some u) (hne : a < lo ∨ hi ≤ a) : w'.cell? ⟨a, 0, none⟩ = some u := by
  have hlt := World.block_lt_of_cell? w _ h
  have e := k.2.2.2.2 a hlt hne
  rw [← h]
  unfold World.cell?
  rw [e]
theorem KeepsOut.size {lo hi : Nat} {w w' : World} (k : KeepsOut lo hi w w') : w.heap.size ≤ w'.heap.size := k.2.2.2.1
theorem ints_arg {H : Type} {enc : TypeId × Value → H} {P : Program} {w : World} {base : Nat} {r : Reach} {b0 : Nat} {t e : TypeId} {v : Value} {d : DataW H} {ps : List MemPlace} (ht : P.underlying t = some (.slice e)) (he : P.underlying e = some (.int .i64)) (hc : P.cellsOf e = 1)
    (hval : Value.okWide P w r b0 t v) (h : DataW.Trod enc P w base (fun _ => true) true t v d ps) : ∃ l : List Int, Lst w v (ints l) ∧ ∀ z ∈ l, (Lit.int .i64 z).wf = true := by
  obtain ⟨A, ln, cp, rfl⟩ := okWide_slice ht hval
  obtain ⟨fuel, hf⟩ := h
  exact ints_cell (y := (d, ps)) ht he hc hf
theorem mat_arg {H : Type} {enc : TypeId × Value → H} {P : Program} {w : World} {base : Nat} {r : Reach} {b0 : Nat} {t e q : TypeId} {v : Value} {d : DataW H} {ps : List MemPlace} (ht : P.underlying t = some (.slice e)) (he : P.underlying e = some (.slice q)) (hq : P.underlying q = some (.int .i64)) (ce : P.cellsOf e = 1) (cq : P.cellsOf q = 1)
    (hval : Value.okWide P w r b0 t v) (h : DataW.Trod enc P w base (fun _ => true) true t v d ps) : ∃ m : List (List Int), Mat w v m ∧ (∀ r ∈ m, ∀ z ∈ r, (Lit.int .i64 z).wf = true) ∧ m.length ≤ 9223372036854775807 := by
  obtain ⟨A, ln, cp, rfl⟩ := okWide_slice ht hval
  obtain ⟨fuel, hf⟩ := h
  exact mat_cell (y := (d, ps)) ht he hq ce cq hf
theorem sum_rect : ∀ {m : List (List Int)} {c : Nat}, (∀ x ∈ m, x.length ≤ c) → sumN (m.map List.length) ≤ c * m.length
  | [], _, _ => by simp [sumN]
  | y :: m, c, h => by
    have h1 := h y (List.mem_cons_self ..)
    have h2 := sum_rect (m := m) (c := c) (fun x hx => h x (List.mem_cons_of_mem _ hx))
    unfold sumN at h2 ⊢
    rw [List.map_cons, List.sum_cons, List.length_cons, Nat.mul_succ]
    omega
end Go.Proofs.Ytcdchieielpahaa
