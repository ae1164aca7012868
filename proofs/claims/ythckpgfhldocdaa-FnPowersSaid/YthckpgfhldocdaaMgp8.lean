/- Texts put together. -/
import Derived.Test.YthckpgfhldocdaaMgp7
import Derived.OwnWalk
import Derived.Deep.Matrix
import Derived.Test.YthckpgfhldocdaaChecked
import Derived.Test.YthckpgfhldocdaaMgp2
import Derived.Deep.RegionWith
import Derived.Deep.RegionHeld3
import Derived.Deep.QuietTactic
import Derived.BigQuiet
import Derived.Deep.Draws
import Derived.Lib.Join
/- A slice of slices of ints that the call builds by append, row by row. -/
namespace Go.Proofs.Ythckpgfhldocdaa
open Go.RowKit

theorem own_ne {w : World} {B B' : Nat} {e e' : TypeId} {v v' : Value} {n n' : Nat} {xs xs' : List Value} (h : w.ownsRow B e 1 v n xs) (h' : w.ownsRow B' e' 1 v' n' xs') (hne : e ≠ e') (k : Nat) (hk : v.ownBlock = some k) (hk' : v'.ownBlock = some k) : False := by
  rcases h.2 with ⟨rfl, _⟩ | ⟨g, cap, cur, rfl, _, hg, _⟩
  · simp [Value.ownBlock] at hk
  · rcases h'.2 with ⟨rfl, _⟩ | ⟨g', cap', cur', rfl, _, hg', _⟩
    · simp [Value.ownBlock] at hk'
    · simp only [Value.ownBlock, Option.some.injEq] at hk hk'
      subst hk; subst hk'
      rw [hg] at hg'
      injection hg' with hg'
      injection hg' with _ he
      exact hne he

theorem RowsTo.grown {w w' : World} {B : Nat} {us : List Value} {m : List (List Int)} {row : Option Nat} (h : RowsTo w B us m) (hg : w.grownBy w' row) (hne : ∀ i (hi : i < us.length) k, us[i].ownBlock = some k → row = some k → False) : RowsTo w' B us m :=
  ⟨h.1, fun i a b => own_apart (h.2.1 i a b) hg (hne i a), h.2.2⟩

/-- append of one element that the walk has just laid; the row alone has turned -/
theorem wpList_append1g {P : Program} (w : World) {ops : Array Oper} {rest : List Oper} {o : Oper} {a : Act} {Q : Exit → Act → World → Prop} (hgd : o.guard = none) (s x : Operand) (t : TypeId)
    (ho : o.op = .call { callee := .builtin .append, args := #[s, x], argTypes := #[t, t] })
    (base : Nat) (e : TypeId) (i : TypeInfo) (z : Value) (bytes : Nat) (ht : P.underlying t = some (.slice e)) (hi : P.info? e = some i) (hz : i.zero = some z)
    (hsize : i.size = 1) (hby : i.bytes = bytes) (hzs : z.cells.size = 1)
    (v : Value) (n : Nat) (xs : List Value) (hs : a.eval s = v) (hown : w.ownsRow base e 1 v n xs)
    (y : Value) (hy : y.oneCell' = true) (hx : a.eval x = .slice (some ⟨w.heap.size, 0, none⟩) 1 1)
    (h63 : n + 1 ≤ maxLen) (hbytes : (n + 1) * bytes ≤ 140737488355328) (hbase : base ≤ w.heap.size)
    (h : ∀ v' w', w'.ownsRow base e 1 v' (n + 1) (xs ++ [y]) → w.grownBy w' v.ownBlock → wpList P ops Q rest (a.put o.dst v') w') :
    wpList P ops Q (o :: rest) a (w.alloc (.cells #[y] e)) := by
  refine wpList_append_own _ hgd s x t ho base e i z 1 bytes ht hi hz hsize hby hzs (by decide) v n xs hs (hown.alloc _) ⟨w.heap.size, 0, none⟩ 1 1 [y] hx rfl ?_ ?_ h63 hbytes (by simp; omega) ?_
  · intro j u hu
    rcases j with _ | j
    · simp at hu
      subst hu
      rw [Addr.add_lit, World.cell?_alloc_at _ _ _ _ (by simp)]
      rfl
    · simp at hu
  · intro u hu
    simp at hu
    subst hu
    exact hy
  · intro v' w' h1 h2 _
    exact h v' w' h1 (grown_trans (World.grownBy_alloc _ _ _) h2)

/-- what is written into other blocks does not reach it -/
theorem OwnMat.keeps {w w' : World} {B S lo hi : Nat} {v : Value} {m : List (List Int)} (h : OwnMat w B S v m) (k : KeepsOut lo hi w w') (hne : hi ≤ B) : OwnMat w' B S v m := by
  obtain ⟨t0, vs, h1, h2, h3, h4⟩ := h
  exact ⟨t0, vs, h1, KeepsOut.own h2 k (fun j hj => .inr (by have := (h2.lt j hj).1; omega)), fun i a b => by obtain ⟨te, h⟩ := h3 i a b; exact ⟨te, KeepsOut.own h k (fun j hj => .inr (by have := (h.lt j hj).1; omega))⟩, h4⟩

/-- append to a row of the call's own, as one step of a region that draws; the row alone turns -/
theorem step_own_g {P : Program} {ops : Array Oper} {o : Oper} {a : Act} {w : World} {K : Act → World → Prop} {Q : Exit → Act → World → Prop} {E : Prop}
    (hg : o.guard = none) (s x : Operand) (t : TypeId) (hop : o.op = Op.call { callee := Callee.builtin Builtin.append, args := #[s, x], argTypes := #[t, t] })
    (base : Nat) (e : TypeId) (i : TypeInfo) (z : Value) (bytes : Nat) (h1 : P.underlying t = some (.slice e)) (h2 : P.info? e = some i) (h3 : i.zero = some z) (h4 : i.size = 1) (h5 : i.bytes = bytes) (h6 : z.cells.size = 1)
    (v : Value) (n : Nat) (xs : List Value) (hs : a.eval s = v) (hown : w.ownsRow base e 1 v n xs)
    (ad : Addr) (m c : Nat) (news : List Value) (hx : a.eval x = .slice (some ad) m c) (hn : news.length = m) (hc : ∀ j u, news[j]? = some u → w.cell? (ad.add j) = some u) (h1c : ∀ u ∈ news, u.oneCell' = true)
    (b1 : n + m ≤ maxLen) (b2 : (n + m) * bytes ≤ 140737488355328) (hb : base ≤ w.heap.size)
    (hK : ∀ v' w', w'.ownsRow base e 1 v' (n + m) (xs ++ news) → w.grownBy w' v.ownBlock → K (a.put o.dst v') w') :
    if Region.wanted o (yielded ops a.tmps) = true then Oper.wp P o a w K Q else E := by
  have hw : Region.wanted o (yielded ops a.tmps) = true := by simp [Region.wanted, hg]
  rw [if_pos hw]
  obtain ⟨v', w', hrun, r1, r2, _⟩ := run_append_own (P := P) w base t o.type e i z 1 bytes h1 h2 h3 h4 h5 h6 (by decide) v n xs hown ad m c news (by rw [hn, Nat.mul_one]) hc h1c b1 b2 hb
  unfold Oper.wp
  simp [execOp, hop, resolve, invoke, builtin, hs, hx, hrun, Result.andThen]
  exact hK v' w' r1 r2
theorem own_made0 (w : World) (B : Nat) (e : TypeId) (hB : B ≤ w.heap.size) : (w.alloc (.cells #[] e)).ownsRow B e 1 (.slice (some ⟨w.heap.size, 0, none⟩) 0 0) 0 [] :=
  World.ownsRow_made (e := e) (size := 1) w #[] 0 hB (by simp [maxLen]) (by simp)
/-- s[k:] -/
theorem slice_from {P : Program} {t e : TypeId} (ht : P.underlying t = some (.slice e)) (hz : ∀ w, (sizeOf (P.elem t)).run P w = .ok 1 w) (b off n cap k : Nat) (hk : k ≤ n) (hn : n ≤ cap) : ∃ X, (∀ w, (Instr.slice t (.slice (some ⟨b, off, none⟩) n cap) (some (.int .i64 (k : Int))) none none).run P w = .ok (.slice (some X) (n - k) (cap - k)) w) ∧ (k < n → X = ⟨b, off + k, none⟩) := by
  have ht' : P.underlying t = some (.slice (P.elem t)) := by
    have : P.elem t = e := by simp [Program.elem, ht]
    rw [this]; exact ht
  refine ⟨if cap = k then ⟨b, off, none⟩ else (⟨b, off, none⟩ : Addr).add (k * 1), fun w => ?_, fun h => ?_⟩
  · rw [run_slice_l (P := P) w t _ _ _ ht' .i64 k (by omega) (by omega), hz w]
    simp only [Result.andThen, sliced, Int.toNat_natCast]
    by_cases hc : cap = k
    · rw [if_pos hc, if_pos hc]
    · rw [if_neg hc, if_neg hc]
      rfl
  · rw [if_neg (by omega), Nat.mul_one, Addr.add_lit]
/-- s[:k] -/
theorem slice_upto {P : Program} {t e : TypeId} (ht : P.underlying t = some (.slice e)) (hz : ∀ w, (sizeOf (P.elem t)).run P w = .ok 1 w) (b off n cap k : Nat) (hk : k ≤ n) (hn : n ≤ cap) : ∃ X, (∀ w, (Instr.slice t (.slice (some ⟨b, off, none⟩) n cap) none (some (.int .i64 (k : Int))) none).run P w = .ok (.slice (some X) k cap) w) ∧ X = ⟨b, off, none⟩ := by
  have ht' : P.underlying t = some (.slice (P.elem t)) := by
    have : P.elem t = e := by simp [Program.elem, ht]
    rw [this]; exact ht
  refine ⟨⟨b, off, none⟩, fun w => ?_, rfl⟩
  rw [run_slice_h (P := P) w t _ _ _ ht' .i64 k (by omega) (by omega), hz w]
  simp only [Result.andThen, sliced, Int.toNat_natCast]
  by_cases hc : cap = 0
  · rw [if_pos hc]; simp
  · rw [if_neg hc]
    simp [Addr.add]
end Go.Proofs.Ythckpgfhldocdaa

/- szIntSS: a bound on all that a slice of slices of ints holds. -/
namespace Go.Proofs.Ythckpgfhldocdaa
open Go.ChangeShapes Go.WideShapes Go.RowKit

def lens (m : List (List Int)) : List Nat := m.map List.length
theorem lens_at (m : List (List Int)) (j : Nat) (h : j < m.length) (h' : j < (lens m).length) : (lens m)[j] = m[j].length := by simp [lens]
/-- what szIntSS says -/
def SzMat (m : List (List Int)) (left : Int) (w : World) (e : Ending) (w' : World) : Prop :=
  w = w' ∧ ∃ r : Int, e = .returned (.int .i64 r) ∧ -1 ≤ r ∧ r ≤ left ∧ (0 ≤ r → (m.length : Int) + sumN (lens m) + r = left)
theorem szI_neg {left : Int} {n : Nat} (h : left < n) : szI left n = -1 := if_pos h
theorem szI_pos {left : Int} {n : Nat} (h : ¬ left < n) : szI left n = left - n := if_neg h

/-- a slice of slices of ints that came in, opened -/
theorem mat_cell {H : Type} {enc : TypeId × Value → H} {P : Program} {w : World} {base fuel : Nat} {t e q : TypeId} {v : Value} {y : DataW H × List MemPlace} (ht : P.underlying t = some (.slice e)) (he : P.underlying e = some (.slice q)) (hq : P.underlying q = some (.int .i64)) (ce : P.cellsOf e = 1) (cq : P.cellsOf q = 1)
    (hf : DataW.trod enc P w base (fun _ => true) true fuel t [v] = some y) : ∃ m : List (List Int), Mat w v m ∧ (∀ r ∈ m, ∀ z ∈ r, (Lit.int .i64 z).wf = true) ∧ m.length ≤ 9223372036854775807 := by
  rcases Deep.open_int_rows ht he hq ce cq hf with ⟨hcs, _⟩ | ⟨a, len, cap, A, L, C, Z, hcs, _, hl, hm, _, hrow⟩
  · simp at hcs
    subst hcs
    exact ⟨[], ⟨[], ⟨none, 0, by simp, by simp, by simp [maxLen], .inl rfl⟩, rfl, fun i h => absurd h (by simp)⟩, by simp, by simp⟩
  · simp at hcs
    subst hcs
    have hml : ((List.range len).map fun r => (Z r).take (L r)).length = len := by simp
    refine ⟨(List.range len).map fun r => (Z r).take (L r), ⟨(List.range len).map fun r => Value.slice (A r) (L r) (C r), ?_, by simp, fun i h h' => ?_⟩, fun r hr z hz => ?_, by simp; unfold maxLen at hm; omega⟩
    · refine ⟨some a, cap, by simp, by simpa using hl, hm, ?_⟩
      by_cases h0 : len = 0
      · subst h0
        exact .inl (by simp)
      · obtain ⟨b, off, spot⟩ := a
        have h1 := (hrow 0 (by omega)).1
        have hspot : spot = none := by simpa [Addr.add] using World.cell?_spot h1
        subst hspot
        refine .inr ⟨b, off, rfl, fun i u hu => ?_⟩
        have hi : i < len := by
          have := (List.getElem?_eq_some_iff.1 hu).1
          simpa using this
        have h2 := (hrow i (by omega)).1
        rw [Addr.add_lit] at h2
        rw [h2]
        simp [hi] at hu
        rw [hu]
    · have hi : i < len := by simpa using h'
      obtain ⟨_, hLC, hCm, hZ, _, hAn, hcell⟩ := hrow i (by omega)
      simp only [List.getElem_map, List.getElem_range]
      refine ⟨A i, C i, by simp [ints, hZ, Nat.min_eq_left hLC], by simp [ints, hZ, Nat.min_eq_left hLC]; exact hLC, hCm, ?_⟩
      by_cases h0 : L i = 0
      · exact .inl (by simp [ints, h0])
      · rcases hA : A i with _ | ⟨b, off, spot⟩
        · have := hAn hA
          omega
        · have h1 := (hcell _ hA).2 0 (by omega)
          have hspot : spot = none := by simpa [Addr.add] using World.cell?_spot h1
          subst hspot
          refine .inr ⟨b, off, rfl, fun c u hu => ?_⟩
          have hc : c < L i := by
            have := (List.getElem?_eq_some_iff.1 hu).1
            simp [ints, hZ, Nat.min_eq_left hLC] at this
            omega
          have h2 := (hcell _ hA).2 c (by omega)
          rw [Addr.add_lit] at h2
          rw [h2]
          simp [ints, hc] at hu
          obtain ⟨x, hx, rfl⟩ := hu
          simp [List.getD, hx]
    · obtain ⟨i, hi, rfl⟩ := List.mem_map.1 hr
      have hi' : i < len := by simpa using hi
      exact (hrow i (by omega)).2.2.2.2.1 z (List.mem_of_mem_take hz)
end Go.Proofs.Ythckpgfhldocdaa

/- The laws' own helpers on slices of strings: markText, markStringS, heldStringS, eqStringS, as contracts. Conditions: lengths as Go has them. -/
namespace Go.Proofs.Ythckpgfhldocdaa
open Go.RowKit

/-- decimal digits, the last first laid; the fuel is above the number -/
def decF : Nat → Nat → List UInt8 → List UInt8
  | 0, _, out => out
  | f + 1, k, out => if k = 0 then out else decF f (k / 10) (UInt8.ofNat (48 + k % 10) :: out)
theorem decF_zero (f : Nat) (out : List UInt8) : decF f 0 out = out := by cases f <;> simp [decF]
def markL (k : Int) : List UInt8 := if k ≤ 0 then [109, 48] else 109 :: decF 20 k.toNat []
def markS (k : Int) : ByteArray := ⟨(markL k).toArray⟩

/-- the n marks from k on -/
def marks (k : Int) (n : Nat) : List ByteArray := (List.range n).map fun (i : Nat) => markS (k + (i : Int))
theorem marks_length (k : Int) (n : Nat) : (marks k n).length = n := by simp [marks]
theorem marks_at (k : Int) (n i : Nat) (h : i < n) : (marks k n)[i]'(by simpa [marks] using h) = markS (k + i) := by simp [marks]
theorem marks_succ (k : Int) (n : Nat) : strs (marks k (n + 1)) = strs (marks k n) ++ [.string (markS (k + n))] := by simp [marks, strs, List.range_succ]

end Go.Proofs.Ythckpgfhldocdaa

/- What Join is to give. No program in it. -/
namespace Go.Proofs.Ythckpgfhldocdaa
open Go.RowKit

def joinS (xs : List ByteArray) (sep : ByteArray) : ByteArray := ⟨(Lib.join (xs.map (·.data.toList)) sep.data.toList).toArray⟩

def totalS (l : List ByteArray) : Nat := (l.map ByteArray.size).sum
theorem totalS_succ (l : List ByteArray) (k : Nat) (h : k < l.length) : totalS (l.take (k + 1)) = totalS (l.take k) + l[k].size := by
  unfold totalS
  rw [List.take_succ_eq_append_getElem h, List.map_append, List.sum_append]
  simp only [List.map_cons, List.map_nil, List.sum_cons, List.sum_nil, Nat.add_zero]
theorem joinS_nil (sep : ByteArray) : joinS [] sep = ⟨#[]⟩ := rfl
theorem joinS_one (x sep : ByteArray) : joinS [x] sep = x := by
  obtain ⟨⟨x⟩⟩ := x
  simp [joinS, Lib.join_one]
theorem joinS_first (l : List ByteArray) (sep : ByteArray) (k : Nat) (h0 : k = 0) (h : k < l.length) : joinS (l.take (k + 1)) sep = joinS (l.take k) sep ++ l[k] := by
  subst h0
  cases l with
  | nil => simp at h
  | cons x r =>
    show joinS [x] sep = joinS [] sep ++ x
    rw [joinS_one, joinS_nil]
    apply ByteArray.ext
    simp [ByteArray.data_append]
theorem bytes_eq (s : ByteArray) : s = ⟨s.data.toList.toArray⟩ := by obtain ⟨⟨l⟩⟩ := s; rfl
theorem joinS_next (l : List ByteArray) (sep : ByteArray) (k : Nat) (h0 : 0 < k) (h : k < l.length) : joinS (l.take (k + 1)) sep = joinS (l.take k) sep ++ sep ++ l[k] := by
  cases l with
  | nil => simp at h
  | cons x r =>
    obtain ⟨j, rfl⟩ : ∃ j, k = j + 1 := ⟨k - 1, by omega⟩
    have hj : j < r.length := by simpa using h
    have hr : (r.map (·.data.toList))[j]? = some r[j].data.toList := by simp [hj]
    have e1 : ((x :: r).take (j + 1 + 1)).map (·.data.toList) = x.data.toList :: (r.map (·.data.toList)).take (j + 1) := by simp [List.map_take]
    have e2 : ((x :: r).take (j + 1)).map (·.data.toList) = x.data.toList :: (r.map (·.data.toList)).take j := by simp [List.map_take]
    unfold joinS
    rw [e1, e2, Lib.join_cons, Lib.join_cons, Lib.joinTail_take_succ _ _ _ _ hr]
    rw [List.getElem_cons_succ]
    generalize r[j] = z
    obtain ⟨⟨z⟩⟩ := z
    obtain ⟨⟨p⟩⟩ := sep
    rw [show (ByteArray.mk { toList := p }) = ByteArray.mk p.toArray from rfl, show (ByteArray.mk { toList := z }) = ByteArray.mk z.toArray from rfl, ByteArray.mk_append_mk, ByteArray.mk_append_mk]
    simp only [List.append_assoc]
theorem lens_total (l : List ByteArray) : Lib.lens (l.map (·.data.toList)) = totalS l := by
  unfold Lib.lens totalS
  rw [List.map_map]
  congr 1
theorem joinS_size (l : List ByteArray) (sep : ByteArray) : (joinS l sep).size ≤ totalS l + l.length * sep.size := by
  cases l with
  | nil => exact Nat.zero_le _
  | cons x r =>
    have h1 : (joinS (x :: r) sep).size = x.size + (sep.size * r.length + totalS r) := by
      show (Lib.join _ _).toArray.size = _
      rw [List.size_toArray, List.map_cons, Lib.join_cons, List.length_append, Lib.joinTail_length, lens_total, List.length_map]
      rfl
    have h2 : totalS (x :: r) = x.size + totalS r := by simp [totalS]
    rw [h1, h2, List.length_cons, Nat.succ_mul, Nat.mul_comm]
    omega
theorem totalS_take (l : List ByteArray) (k : Nat) : totalS (l.take k) ≤ totalS l := by
  rw [← lens_total, ← lens_total, List.map_take]
  exact Lib.lens_take_le _ _
theorem joinS_small (l : List ByteArray) (sep : ByteArray) (h1 : l.length + totalS l ≤ 1048576) (h2 : sep.size ≤ 1048576) (k : Nat) : (joinS (l.take k) sep).size ≤ 1099512676352 := by
  have a := joinS_size (l.take k) sep
  have b := totalS_take l k
  have c : (l.take k).length * sep.size ≤ 1048576 * 1048576 := Nat.mul_le_mul (by rw [List.length_take]; omega) h2
  omega
end Go.Proofs.Ythckpgfhldocdaa
