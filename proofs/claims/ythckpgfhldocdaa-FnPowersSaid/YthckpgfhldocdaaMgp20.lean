/- Texts put together. -/
import Derived.Test.YthckpgfhldocdaaMgp4
import Derived.Test.YthckpgfhldocdaaMgp2
import Derived.Test.YthckpgfhldocdaaMgp19
import Derived.Lib.SlicesCompact
import Derived.Test.YthckpgfhldocdaaMgp8
import Derived.Maps.AppendAt
import Derived.Test.YthckpgfhldocdaaMgp14
/- A list of texts, sorted and with neighbors that are equal struck out, is the ascending list of its texts, each once; a row of texts turned by the library's two. -/
namespace Go.Proofs.Ythckpgfhldocdaa
open Go.RowKit

abbrev toBA (l : List UInt8) : ByteArray := ⟨l.toArray⟩
theorem less_lt (a b : ByteArray) : lessB a b = true ↔ a.data.toList < b.data.toList := by
  unfold lessB
  rw [bytesLess_eq, ByteArray.toList_eq, ByteArray.toList_eq, decide_eq_true_eq]
theorem lt_ne {a b : List UInt8} (h : a ≤ b) (hne : a ≠ b) : a < b := by
  rcases bl_tri a b with k | k | k
  · rwa [bytesLess_eq, decide_eq_true_eq] at k
  · exact absurd k hne
  · rw [bytesLess_eq, decide_eq_true_eq] at k
    exact absurd k (List.not_lt.2 h)
theorem cells_map (ys : List (List UInt8)) : ys.map encStr = strs (ys.map toBA) := by
  unfold strs
  rw [List.map_map]
  rfl

/-! ### the library's Compact of an ascending list -/
section
variable {d : Array (List UInt8)}
theorem cp_mem (d : Array (List UInt8)) (x : List UInt8) : ∀ m, x ∈ Lib.compactUpTo d m ↔ ∃ j, j < m ∧ d[j]! = x
  | 0 => by simp [Lib.compactUpTo]
  | m + 1 => by
    rw [Lib.compactUpTo_succ, List.mem_append, cp_mem d x m]
    by_cases hk : Lib.keeps d m = true
    · rw [if_pos hk, List.mem_singleton]
      constructor
      · rintro (⟨j, a, b⟩ | rfl)
        · exact ⟨j, by omega, b⟩
        · exact ⟨m, by omega, rfl⟩
      · rintro ⟨j, a, b⟩
        by_cases e : j = m
        · subst e; exact .inr b.symm
        · exact .inl ⟨j, by omega, b⟩
    · rw [if_neg hk]
      constructor
      · rintro (⟨j, a, b⟩ | h)
        · exact ⟨j, by omega, b⟩
        · cases h
      · rintro ⟨j, a, b⟩
        left
        by_cases e : j = m
        · subst e
          have hk' : ¬ (j = 0 ∨ d[j]! ≠ d[j - 1]!) := by simpa [Lib.keeps] using hk
          rw [not_or, Classical.not_not] at hk'
          exact ⟨j - 1, by omega, by rw [← hk'.2]; exact b⟩
        · exact ⟨j, by omega, b⟩
theorem cp_asc (hs : ∀ i j, i < j → j < d.size → d[i]! ≤ d[j]!) : ∀ m, m ≤ d.size → (Lib.compactUpTo d m).Pairwise (· < ·)
  | 0, _ => by simp [Lib.compactUpTo]
  | m + 1, hm => by
    rw [Lib.compactUpTo_succ]
    have ih := cp_asc hs m (by omega)
    by_cases hk : Lib.keeps d m = true
    · rw [if_pos hk]
      refine List.pairwise_append.2 ⟨ih, List.pairwise_singleton _ _, fun a ha b hb => ?_⟩
      rw [List.mem_singleton] at hb
      subst hb
      obtain ⟨j, hj, rfl⟩ := (cp_mem d a m).1 ha
      have hk' : m = 0 ∨ d[m]! ≠ d[m - 1]! := by simpa [Lib.keeps] using hk
      have hne := hk'.resolve_left (by omega)
      have h1 : d[m - 1]! ≤ d[m]! := hs (m - 1) m (by omega) (by omega)
      have h2 : d[m - 1]! < d[m]! := lt_ne h1 (Ne.symm hne)
      by_cases e : j = m - 1
      · rw [e]; exact h2
      · exact List.lt_of_le_of_lt (hs j (m - 1) (by omega) (by omega)) h2
    · rw [if_neg hk, List.append_nil]
      exact ih
end
theorem sort_le (ss : List (List UInt8)) : (ss.mergeSort fun x y => decide (x ≤ y)).Pairwise (· ≤ ·) := by
  have := List.pairwise_mergeSort (le := fun x y : List UInt8 => decide (x ≤ y)) (fun a b c h k => by simp only [decide_eq_true_eq] at h k ⊢; exact List.le_trans h k) (fun a b => by simp only [Bool.or_eq_true, decide_eq_true_eq]; exact List.le_total a b) ss
  simpa using this
theorem sort_mem (ss : List (List UInt8)) (x : List UInt8) : x ∈ (ss.mergeSort fun x y => decide (x ≤ y)) ↔ x ∈ ss := (List.mergeSort_perm ss _).mem_iff
/-- sorted and compacted -/
theorem sorted_eq {l m : List ByteArray} (hm : Asc m) (h : ∀ x, x ∈ l ↔ x ∈ m) : (Lib.compact ((l.map (·.data.toList)).mergeSort fun x y => decide (x ≤ y))).map toBA = m := by
  have hp := sort_le (l.map (·.data.toList))
  have hmem := sort_mem (l.map (·.data.toList))
  generalize (l.map (·.data.toList)).mergeSort (fun x y => decide (x ≤ y)) = zs at hp hmem
  have hs : ∀ i j, i < j → j < zs.toArray.size → zs.toArray[i]! ≤ zs.toArray[j]! := by
    intro i j hij hj
    have hj' : j < zs.length := by simpa using hj
    have := List.pairwise_iff_getElem.1 hp i j (by omega) hj' hij
    rw [getElem!_pos _ i (by simp; omega), getElem!_pos _ j (by simp; omega)]
    simpa using this
  have ha := cp_asc hs zs.length (by simp)
  refine asc_ext ?_ hm fun x => ?_
  · refine List.pairwise_map.2 (ha.imp fun {a b} h => ?_)
    exact (less_lt _ _).2 (by simpa using h)
  · rw [← h x, List.mem_map]
    have key : ∀ y : List UInt8, y ∈ Lib.compact zs ↔ y ∈ zs := by
      intro y
      unfold Lib.compact
      rw [cp_mem]
      constructor
      · rintro ⟨j, hj, rfl⟩
        rw [getElem!_pos _ j (by simpa using hj)]
        simp
      · intro hy
        obtain ⟨j, hj, rfl⟩ := List.mem_iff_getElem.1 hy
        exact ⟨j, hj, by rw [getElem!_pos _ j (by simpa using hj)]; simp⟩
    constructor
    · rintro ⟨y, hy, rfl⟩
      rw [key, hmem, List.mem_map] at hy
      obtain ⟨z, hz, rfl⟩ := hy
      exact hz
    · intro hx
      exact ⟨x.data.toList, by rw [key, hmem, List.mem_map]; exact ⟨x, hx, rfl⟩, rfl⟩

/-! ### a row of one's own under the library's words -/
section
variable {w : World} {B g n cap : Nat} {T : TypeId} {l : List ByteArray}
theorem own_holds (h : w.ownsRow B T 1 (.slice (some ⟨g, 0, none⟩) n cap) n (strs l)) : Sort.Holds encStr w g 0 (l.map (·.data.toList)).toArray := by
  have hl := h.1
  rw [strs_length, Nat.mul_one] at hl
  intro j hj
  have hj' : j < l.length := by simpa using hj
  refine ⟨?_, h.frozenAt _⟩
  rw [Nat.zero_add, h.cellAt j (by omega)]
  simp [strs, hj', encStr]
theorem own_lt (h : w.ownsRow B T 1 (.slice (some ⟨g, 0, none⟩) n cap) n (strs l)) : B ≤ g ∧ g < w.heap.size := h.lt g rfl
theorem own_put (h : w.ownsRow B T 1 (.slice (some ⟨g, 0, none⟩) n cap) n (strs l)) (ys : List (List UInt8)) (hy : ys.length = n) (q : Nat) (os : Array Obj) :
    (Sort.grow (Sort.putRow encStr (Sort.ahead w q) g 0 ys.toArray) os).ownsRow B T 1 (.slice (some ⟨g, 0, none⟩) n cap) n (strs (ys.map toBA)) ∧ Below B w (Sort.grow (Sort.putRow encStr (Sort.ahead w q) g 0 ys.toArray) os) := by
  have hl := own_lt h
  have hsz : (Sort.putRow encStr (Sort.ahead w q) g 0 ys.toArray).heap.size = w.heap.size := by rw [Sort.size_putRow]; rfl
  have hold : ∀ k, k < w.heap.size → (Sort.grow (Sort.putRow encStr (Sort.ahead w q) g 0 ys.toArray) os).heap[k]? = (w.heap.modify g (Sort.onCells (Sort.putCells encStr 0 ys.toArray)))[k]? := by
    intro k hk
    show (_ ++ os)[k]? = _
    rw [Array.getElem?_append_left (by rw [hsz]; exact hk)]
    rfl
  refine ⟨⟨by rw [strs_length, List.length_map]; omega, ?_⟩, ⟨rfl, rfl, rfl, ?_, fun k hk => ?_⟩⟩
  · rcases h.2 with ⟨h', _⟩ | ⟨g', cap', cur, h', hb, hg, h1, h2, h3, h4⟩
    · simp at h'
    · injection h' with ha hn hc
      injection ha with ha
      injection ha with ha
      subst ha; subst hc
      refine .inr ⟨g, cap, Sort.putCells encStr 0 ys.toArray cur, rfl, hb, ?_, h1, h2, ?_, ?_⟩
      · rw [hold g hl.2, Array.getElem?_modify, if_pos rfl, hg]
        rfl
      · simp [Sort.putCells, h3]
      · apply List.ext_getElem?
        intro i
        rw [← cells_map, List.getElem?_take]
        split
        · next hi =>
          have hi' : i < ys.length := by omega
          have hic : i < cur.size := by omega
          simp [Sort.putCells, hi', hic]
        · next hi =>
          rw [List.getElem?_eq_none (by simp; omega)]
  · show w.heap.size ≤ (_ ++ os).size
    rw [Array.size_append, hsz]; omega
  · rw [hold k (by omega), Array.getElem?_modify, if_neg (by omega)]
theorem own_less {m : Nat} {xs : List Value} (h : w.ownsRow B T 1 (.slice (some ⟨g, 0, none⟩) n cap) n xs) (hm : m ≤ n) : w.ownsRow B T 1 (.slice (some ⟨g, 0, none⟩) m cap) m (xs.take m) := by
  have hl := h.1
  rcases h.2 with ⟨h', _⟩ | ⟨g', cap', cur, h', hb, hg, h1, h2, h3, h4⟩
  · simp at h'
  · injection h' with ha hn hc
    injection ha with ha
    injection ha with ha
    subst ha; subst hc
    refine ⟨by rw [List.length_take]; omega, .inr ⟨g, cap, cur, rfl, hb, hg, by omega, h2, h3, ?_⟩⟩
    rw [← h4, List.take_take]
    congr 1
    omega
end
end Go.Proofs.Ythckpgfhldocdaa

/- append of one element that the walk has just laid, and where the new slice lies: so that a row read meanwhile is seen to stay. -/
namespace Go.Proofs.Ythckpgfhldocdaa
open Go.RowKit

theorem wpList_append1p {P : Program} (w : World) {ops : Array Oper} {rest : List Oper} {o : Oper} {a : Act} {Q : Exit → Act → World → Prop} (hgd : o.guard = none) (s x : Operand) (t : TypeId)
    (ho : o.op = .call { callee := .builtin .append, args := #[s, x], argTypes := #[t, t] })
    (base : Nat) (e : TypeId) (i : TypeInfo) (z : Value) (bytes : Nat) (ht : P.underlying t = some (.slice e)) (hi : P.info? e = some i) (hz : i.zero = some z)
    (hsize : i.size = 1) (hby : i.bytes = bytes) (hzs : z.cells.size = 1)
    (v : Value) (n : Nat) (xs : List Value) (hs : a.eval s = v) (hown : w.ownsRow base e 1 v n xs)
    (y : Value) (hy : y.oneCell' = true) (hx : a.eval x = .slice (some ⟨w.heap.size, 0, none⟩) 1 1)
    (h63 : n + 1 ≤ maxLen) (hbytes : (n + 1) * bytes ≤ 140737488355328) (hbase : base ≤ w.heap.size)
    (h : ∀ v' w', w'.ownsRow base e 1 v' (n + 1) (xs ++ [y]) → w.grownBy w' v.ownBlock → (v'.ownBlock = v.ownBlock ∨ v'.ownBlock = some (w.heap.size + 1)) → wpList P ops Q rest (a.put o.dst v') w') :
    wpList P ops Q (o :: rest) a (w.alloc (.cells #[y] e)) := by
  refine wpList_append_own_at _ hgd s x t ho base e i z 1 bytes ht hi hz hsize hby hzs (by decide) v n xs hs (hown.alloc _) ⟨w.heap.size, 0, none⟩ 1 1 [y] hx rfl ?_ ?_ h63 hbytes (by simp; omega) ?_
  · intro j u hu
    rcases j with _ | j
    · simp at hu
      subst hu
      rw [Addr.add_lit, World.cell?_alloc_at _ _ _ _ (by simp)]
      rfl
    · simp at hu
  · intro u hu
    simp at hu
    subst hu
    exact hy
  · intro v' w' h1 h2 _ h4
    simp only [World.size_alloc] at h4
    exact h v' w' h1 (grown_trans (World.grownBy_alloc _ _ _) h2) h4
/-- a slice that lies in block B or in none before S -/
def Away (B S : Nat) (v : Value) : Prop := ∀ k, v.ownBlock = some k → k = B ∨ S ≤ k
theorem Away.next {B S : Nat} {v v' : Value} {w : World} (h : Away B S v) (hS : S ≤ w.heap.size) (h2 : v'.ownBlock = v.ownBlock ∨ v'.ownBlock = some (w.heap.size + 1)) : Away B S v' := by
  intro k hk
  rcases h2 with e | e
  · exact h k (by rw [← e]; exact hk)
  · rw [e] at hk
    injection hk with hk
    exact .inr (by omega)
/-- a row that lies between them stays -/
theorem Away.keeps {B S L : Nat} {v : Value} {w w' : World} {e : TypeId} {u : Value} {n : Nat} {xs : List Value} (h : Away B S v) (hg : w.grownBy w' v.ownBlock) (hu : w.ownsRow L e 1 u n xs) (hB : B < L) (hS : ∀ k, u.ownBlock = some k → k < S) : w'.ownsRow L e 1 u n xs := by
  refine own_apart hu hg (fun k hk hk2 => ?_)
  have h1 := (hu.lt k hk).1
  have h2 := hS k hk
  rcases h k hk2 with h3 | h3 <;> omega
end Go.Proofs.Ythckpgfhldocdaa

/- The longest part with a period, and what is read off from it. No program in it. -/
namespace Go.Proofs.Ythckpgfhldocdaa
open Go.RowKit

/-! ### the longest part with a period -/
/-- behind i places: the longest row of letters that agree with those p further on, and the row there -/
def lpTo (s : ByteArray) (p : Nat) : Nat → Nat × Nat
  | 0 => (0, 0)
  | i + 1 =>
    let y := lpTo s p i
    let r := if s.data.toList[i]? = s.data.toList[i + p]? then y.2 + 1 else 0
    (max y.1 r, r)
def lpN (s : ByteArray) (p : Nat) : Nat := (lpTo s p (s.size - p)).1
theorem lp_yes {s : ByteArray} {p i : Nat} (h : s.data.toList[i]? = s.data.toList[i + p]?) : lpTo s p (i + 1) = (max (lpTo s p i).1 ((lpTo s p i).2 + 1), (lpTo s p i).2 + 1) := by
  show (max (lpTo s p i).1 (if s.data.toList[i]? = s.data.toList[i + p]? then (lpTo s p i).2 + 1 else 0), if s.data.toList[i]? = s.data.toList[i + p]? then (lpTo s p i).2 + 1 else 0) = _
  rw [if_pos h]
theorem lp_no {s : ByteArray} {p i : Nat} (h : ¬ s.data.toList[i]? = s.data.toList[i + p]?) : lpTo s p (i + 1) = ((lpTo s p i).1, 0) := by
  show (max (lpTo s p i).1 (if s.data.toList[i]? = s.data.toList[i + p]? then (lpTo s p i).2 + 1 else 0), if s.data.toList[i]? = s.data.toList[i + p]? then (lpTo s p i).2 + 1 else 0) = _
  rw [if_neg h, Nat.max_eq_left (Nat.zero_le _)]
theorem lp_le (s : ByteArray) (p : Nat) : ∀ i, (lpTo s p i).1 ≤ i ∧ (lpTo s p i).2 ≤ i
  | 0 => ⟨Nat.le_refl _, Nat.le_refl _⟩
  | i + 1 => by
    have := lp_le s p i
    by_cases h : s.data.toList[i]? = s.data.toList[i + p]?
    · rw [lp_yes h]
      exact ⟨by show max _ _ ≤ _; omega, by show _ + 1 ≤ _; omega⟩
    · rw [lp_no h]
      exact ⟨by show (lpTo s p i).1 ≤ _; omega, Nat.zero_le _⟩
theorem lpN_le (s : ByteArray) (p : Nat) : lpN s p ≤ s.size - p := (lp_le s p _).1
theorem lp_spec (s : ByteArray) (p : Nat) : ∀ i,
    ((∀ j, i - (lpTo s p i).2 ≤ j → j < i → s.data.toList[j]? = s.data.toList[j + p]?) ∧ ((lpTo s p i).2 < i → ¬ s.data.toList[i - (lpTo s p i).2 - 1]? = s.data.toList[i - (lpTo s p i).2 - 1 + p]?)) ∧
    ((∃ k, k + (lpTo s p i).1 ≤ i ∧ ∀ j, j < (lpTo s p i).1 → s.data.toList[k + j]? = s.data.toList[k + j + p]?) ∧ ∀ k m, k + m ≤ i → (∀ j, j < m → s.data.toList[k + j]? = s.data.toList[k + j + p]?) → m ≤ (lpTo s p i).1)
  | 0 => ⟨⟨fun j _ h => absurd h (by omega), fun h => absurd h (by omega)⟩, ⟨0, Nat.le_refl _, fun j h => absurd (show j < 0 from h) (by omega)⟩, fun k m h _ => by show m ≤ 0; omega⟩
  | i + 1 => by
    obtain ⟨⟨a, b⟩, ⟨k0, c, d⟩, e⟩ := lp_spec s p i
    obtain ⟨l1, l2⟩ := lp_le s p i
    by_cases h : s.data.toList[i]? = s.data.toList[i + p]?
    · rw [lp_yes h]
      generalize lpTo s p i = y at a b c d e l1 l2
      have hrun : ∀ j, i + 1 - (y.2 + 1) ≤ j → j < i + 1 → s.data.toList[j]? = s.data.toList[j + p]? := fun j h1 h2 => by
        by_cases hj : j = i
        · subst hj; exact h
        · exact a j (by omega) (by omega)
      have hmax : ∀ k m, k + m ≤ i + 1 → (∀ j, j < m → s.data.toList[k + j]? = s.data.toList[k + j + p]?) → m ≤ max y.1 (y.2 + 1) := fun k m hk hm => by
        by_cases hki : k + m ≤ i
        · have := e k m hki hm
          omega
        · by_cases hr : m ≤ y.2 + 1
          · omega
          · exfalso
            refine b (by omega) ?_
            have := hm (i - y.2 - 1 - k) (by omega)
            rwa [show k + (i - y.2 - 1 - k) = i - y.2 - 1 by omega] at this
      refine ⟨⟨hrun, fun hl => ?_⟩, ?_, hmax⟩
      · show ¬ s.data.toList[i + 1 - (y.2 + 1) - 1]? = _
        have hl' : y.2 + 1 < i + 1 := hl
        rw [show i + 1 - (y.2 + 1) - 1 = i - y.2 - 1 by omega]
        exact b (by omega)
      · by_cases hm : y.1 < y.2 + 1
        · refine ⟨i - y.2, by show _ + max _ _ ≤ _; omega, fun j hj => ?_⟩
          have hj' : j < max y.1 (y.2 + 1) := hj
          exact hrun _ (by omega) (by omega)
        · refine ⟨k0, by show _ + max _ _ ≤ _; omega, fun j hj => ?_⟩
          have hj' : j < max y.1 (y.2 + 1) := hj
          exact d j (by omega)
    · rw [lp_no h]
      generalize lpTo s p i = y at a b c d e l1 l2
      refine ⟨⟨fun j h1 h2 => ?_, fun _ => ?_⟩, ⟨k0, by show k0 + y.1 ≤ _; omega, d⟩, fun k m hk hm => ?_⟩
      · have h1' : i + 1 - 0 ≤ j := h1
        omega
      · show ¬ s.data.toList[i + 1 - 0 - 1]? = s.data.toList[i + 1 - 0 - 1 + p]?
        rw [show i + 1 - 0 - 1 = i by omega]
        exact h
      · by_cases hki : k + m ≤ i ∨ m = 0
        · by_cases hm0 : m = 0
          · rw [hm0]; exact Nat.zero_le _
          · exact e k m (by omega) hm
        · exfalso
          refine h ?_
          have := hm (i - k) (by omega)
          rwa [show k + (i - k) = i by omega] at this
theorem run_swap {s : ByteArray} {m p i : Nat} : RunAt s m p i ↔ i + p + m ≤ s.size ∧ ∀ j, j < m → s.data.toList[i + j]? = s.data.toList[i + j + p]? := by
  unfold RunAt
  constructor
  · rintro ⟨h1, h2⟩
    exact ⟨h1, fun j hj => by rw [h2 j hj]; congr 1; omega⟩
  · rintro ⟨h1, h2⟩
    exact ⟨h1, fun j hj => by rw [h2 j hj]; congr 1; omega⟩
theorem lp_run {s : ByteArray} {p : Nat} (hp : p ≤ s.size) : (∃ i, RunAt s (lpN s p) p i) ∧ ∀ m i, RunAt s m p i → m ≤ lpN s p := by
  obtain ⟨_, ⟨k, c, d⟩, e⟩ := lp_spec s p (s.size - p)
  refine ⟨⟨k, run_swap.2 ⟨?_, d⟩⟩, fun m i h => ?_⟩
  · have c' : k + lpN s p ≤ s.size - p := c
    omega
  · obtain ⟨h1, h2⟩ := run_swap.1 h
    exact e i m (by omega) h2
/-- a repetition is there exactly if some period lasts for so long -/
theorem rep_lp (s : ByteArray) (n e : Nat) : repB s n e = true ↔ ∃ p, 1 ≤ p ∧ p ≤ s.size ∧ n * p + e ≤ lpN s p := by
  rw [repB_iff]
  constructor
  · rintro ⟨p, h1, i, h2⟩
    have hp : p ≤ s.size := by have := h2.1; omega
    exact ⟨p, h1, hp, (lp_run hp).2 _ _ h2⟩
  · rintro ⟨p, h1, h2, h3⟩
    obtain ⟨i, hi⟩ := (lp_run h2).1
    exact ⟨p, h1, i, pz_less hi h3⟩
theorem per_lp {s : ByteArray} {p : Nat} (hp : p ≤ s.size) : PerAt s p ↔ p + lpN s p = s.size := by
  have hle := lpN_le s p
  constructor
  · intro h
    have := (lp_run hp).2 (s.size - p) 0 (run_swap.2 ⟨by omega, fun j hj => by rw [Nat.zero_add]; exact h j (by omega)⟩)
    omega
  · intro h i hi
    obtain ⟨k, hk⟩ := (lp_run hp).1
    obtain ⟨h1, h2⟩ := run_swap.1 hk
    have hk0 : k = 0 := by omega
    subst hk0
    have := h2 i (by omega)
    rwa [Nat.zero_add] at this
theorem lr_lp (s : ByteArray) : ∀ k, lrTo s (k + 1) = ((lpTo s 1 k).1 + 1, (lpTo s 1 k).2 + 1)
  | 0 => by rw [lr_no (by omega)]; rfl
  | k + 1 => by
    have ih := lr_lp s k
    by_cases h : s.data.toList[k]? = s.data.toList[k + 1]?
    · rw [lr_yes (by omega) (by rw [Nat.add_sub_cancel]; exact h.symm), lp_yes h, ih]
      show (max ((lpTo s 1 k).1 + 1) ((lpTo s 1 k).2 + 1 + 1), (lpTo s 1 k).2 + 1 + 1) = (max (lpTo s 1 k).1 ((lpTo s 1 k).2 + 1) + 1, (lpTo s 1 k).2 + 1 + 1)
      congr 1
      omega
    · rw [lr_no (by rw [Nat.add_sub_cancel]; exact fun hh => h hh.2.symm), lp_no h, ih]
      show (max ((lpTo s 1 k).1 + 1) 1, 1) = ((lpTo s 1 k).1 + 1, 0 + 1)
      congr 1
      omega
theorem lr_one {s : ByteArray} (h : 1 ≤ s.size) : (lrTo s s.size).1 = 1 + lpN s 1 := by
  obtain ⟨k, hk⟩ : ∃ k, s.size = k + 1 := ⟨s.size - 1, by omega⟩
  unfold lpN
  rw [hk, lr_lp, Nat.add_sub_cancel]
  show (lpTo s 1 k).1 + 1 = _
  omega

/-! ### the greatest exponent -/
def gpTo (s : ByteArray) : Nat → Nat × Nat
  | 0 => (1, 1)
  | k + 1 => if (gpTo s k).1 * (k + 1) < (k + 1 + lpN s (k + 1)) * (gpTo s k).2 then (k + 1 + lpN s (k + 1), k + 1) else gpTo s k
theorem gp_yes {s : ByteArray} {k : Nat} (h : (gpTo s k).1 * (k + 1) < (k + 1 + lpN s (k + 1)) * (gpTo s k).2) : gpTo s (k + 1) = (k + 1 + lpN s (k + 1), k + 1) := if_pos h
theorem gp_no {s : ByteArray} {k : Nat} (h : ¬ (gpTo s k).1 * (k + 1) < (k + 1 + lpN s (k + 1)) * (gpTo s k).2) : gpTo s (k + 1) = gpTo s k := if_neg h
theorem gp_le (s : ByteArray) (hs : 1 ≤ s.size) : ∀ k, k ≤ s.size → (gpTo s k).1 ≤ s.size ∧ (gpTo s k).2 ≤ s.size ∧ 1 ≤ (gpTo s k).2
  | 0, _ => ⟨hs, hs, Nat.le_refl _⟩
  | k + 1, hk => by
    have ih := gp_le s hs k (by omega)
    have := lpN_le s (k + 1)
    by_cases h : (gpTo s k).1 * (k + 1) < (k + 1 + lpN s (k + 1)) * (gpTo s k).2
    · rw [gp_yes h]
      exact ⟨by show k + 1 + lpN s (k + 1) ≤ _; omega, hk, by show 1 ≤ k + 1; omega⟩
    · rw [gp_no h]
      exact ih
theorem frac_lt {a b c d e f : Nat} (h1 : a * d ≤ c * b) (h2 : c * f < e * d) (hb : 1 ≤ b) : a * f < e * b := by
  have e1 : a * d * f ≤ c * b * f := Nat.mul_le_mul_right f h1
  have e2 : c * f * b < e * d * b := Nat.mul_lt_mul_of_pos_right h2 (by omega)
  refine Nat.lt_of_mul_lt_mul_right (a := d) ?_
  calc a * f * d = a * d * f := Nat.mul_right_comm a f d
    _ ≤ c * b * f := e1
    _ = c * f * b := Nat.mul_right_comm c b f
    _ < e * d * b := e2
    _ = e * b * d := Nat.mul_right_comm e d b
theorem gp_spec (s : ByteArray) : ∀ k, 1 ≤ k → (1 ≤ (gpTo s k).2 ∧ (gpTo s k).2 ≤ k) ∧ (gpTo s k).1 = (gpTo s k).2 + lpN s (gpTo s k).2 ∧ (∀ q, 1 ≤ q → q ≤ k → (q + lpN s q) * (gpTo s k).2 ≤ (gpTo s k).1 * q) ∧ ∀ q, 1 ≤ q → q < (gpTo s k).2 → (q + lpN s q) * (gpTo s k).2 < (gpTo s k).1 * q
  | 0, h => absurd h (by omega)
  | 1, _ => by
    have hg : gpTo s 1 = (1 + lpN s 1, 1) := by
      by_cases h : (gpTo s 0).1 * (0 + 1) < (0 + 1 + lpN s (0 + 1)) * (gpTo s 0).2
      · exact gp_yes h
      · rw [show gpTo s 1 = gpTo s 0 from gp_no h]
        have h' : ¬ 1 * (0 + 1) < (0 + 1 + lpN s (0 + 1)) * 1 := h
        have h0 : lpN s 1 = 0 := by
          simp only [Nat.zero_add, Nat.mul_one] at h'
          omega
        show (1, 1) = _
        rw [h0]
    rw [hg]
    refine ⟨⟨Nat.le_refl _, Nat.le_refl _⟩, rfl, fun q h1 h2 => ?_, fun q h1 h2 => ?_⟩
    · have : q = 1 := by omega
      subst this
      exact Nat.le_refl _
    · have h2' : q < 1 := h2
      omega
  | k + 2, _ => by
    obtain ⟨⟨a1, a2⟩, b, c, d⟩ := gp_spec s (k + 1) (by omega)
    by_cases h : (gpTo s (k + 1)).1 * (k + 1 + 1) < (k + 1 + 1 + lpN s (k + 1 + 1)) * (gpTo s (k + 1)).2
    · rw [show gpTo s (k + 2) = _ from gp_yes h]
      generalize gpTo s (k + 1) = y at a1 a2 b c d h
      have hall : ∀ q, 1 ≤ q → q ≤ k + 1 → (q + lpN s q) * (k + 2) < (k + 2 + lpN s (k + 2)) * q := fun q h1 h2 => frac_lt (c q h1 h2) h h1
      refine ⟨⟨by show 1 ≤ k + 2; omega, Nat.le_refl _⟩, rfl, fun q h1 h2 => ?_, fun q h1 h2 => ?_⟩
      · by_cases hq : q = k + 2
        · subst hq; exact Nat.le_refl _
        · exact Nat.le_of_lt (hall q h1 (by omega))
      · have h2' : q < k + 2 := h2
        exact hall q h1 (by omega)
    · rw [show gpTo s (k + 2) = _ from gp_no h]
      refine ⟨⟨a1, by omega⟩, b, fun q h1 h2 => ?_, d⟩
      by_cases hq : q = k + 2
      · subst hq
        exact Nat.le_of_not_lt h
      · exact c q h1 (by omega)
def GexFirst (s : ByteArray) (x : Nat × Nat) : Prop := ∀ m i, 1 ≤ m → m < x.1 → i + m ≤ s.size → m * x.2 < x.1 * perN (s.extract i (i + m))
theorem gexRow_first {s : ByteArray} {n : Nat} (hn : 1 ≤ n) {y : Nat × Nat} (hy : GexGot s y) (ht : ∀ m i, 1 ≤ m → m < n → i + m ≤ s.size → GexTop s y m i) (hf : GexFirst s y) : ∀ k, k + n ≤ s.size + 1 → GexFirst s (gexRow s n y k)
  | 0, _ => hf
  | k + 1, hk => by
    have ih := gexRow_first hn hy ht hf k (by omega)
    obtain ⟨a, b, _⟩ := gexRow_spec hn hy ht k (by omega)
    by_cases hc : (gexRow s n y k).1 * perN (s.extract k (k + n)) < n * (gexRow s n y k).2
    · rw [gexRow_yes hc]
      intro m i h1 h2 h3
      exact frac_lt (b m i h1 h2 h3) hc (perN_le _).1
    · rw [gexRow_no hc]
      exact ih
theorem gexTo_first {s : ByteArray} (h0 : 1 ≤ s.size) : ∀ n, n + 1 ≤ s.size → GexFirst s (gexTo s n)
  | 0, _ => fun m i h1 h2 _ => absurd (show m < 1 from h2) (by omega)
  | n + 1, hn => by
    obtain ⟨a, b⟩ := gexTo_spec h0 n (by omega)
    exact gexRow_first (n := n + 2) (by omega) a b (gexTo_first h0 n (by omega)) (s.size + 1 - (n + 2)) (by omega)
theorem gex_gp {s : ByteArray} (h0 : 1 ≤ s.size) : gexTo s (s.size - 1) = gpTo s s.size := by
  obtain ⟨⟨a1, a2, i, a3, a4⟩, b⟩ := gexTo_spec h0 (s.size - 1) (by omega)
  have hf := gexTo_first h0 (s.size - 1) (by omega)
  obtain ⟨⟨c1, c2⟩, d, e, f⟩ := gp_spec s s.size h0
  generalize gexTo s (s.size - 1) = x at *
  generalize gpTo s s.size = y at *
  obtain ⟨n, p⟩ := x
  obtain ⟨L, P⟩ := y
  simp only at a1 a2 a3 a4 b c1 c2 d e f
  have hz := pz_size s i n a3
  obtain ⟨hp1, hp2⟩ := pz_per (s := s.extract i (i + n)) (by omega)
  rw [← a4] at hp1 hp2
  have hpn : p ≤ n := by
    have h := per_size (s.extract i (i + n))
    rw [hz] at h
    exact hp2 n a1 h
  have hrun : RunAt s (n - p) p i := (pz_run s (n - p) p i (by omega)).2 (by rw [show p + (n - p) = n by omega]; exact hp1)
  have hnp := (lp_run (s := s) (p := p) (by omega)).2 _ _ hrun
  have hA : n * P ≤ L * p := Nat.le_trans (Nat.mul_le_mul_right P (show n ≤ p + lpN s p by omega)) (e p a2 (by omega))
  obtain ⟨j, hj⟩ := (lp_run (s := s) (p := P) c2).1
  have hLs : j + L ≤ s.size := by have := hj.1; omega
  have hper := (pz_run s (lpN s P) P j (by have := hj.1; omega)).1 hj
  rw [← d] at hper
  have hzL := pz_size s j L hLs
  have hq := (pz_per (s := s.extract j (j + L)) (by omega)).2 P c1 hper
  have hT : L * p ≤ n * perN (s.extract j (j + L)) := b L j (by omega) (by omega) hLs
  have hB : L * p ≤ n * P := Nat.le_trans hT (Nat.mul_le_mul_left n hq)
  have hE : n * P = L * p := by omega
  have hnL : n ≤ L := by
    by_cases hh : L < n
    · have h1 : L * p < n * perN (s.extract j (j + L)) := hf L j (by omega) hh hLs
      have h2 : n * perN (s.extract j (j + L)) ≤ n * P := Nat.mul_le_mul_left n hq
      omega
    · omega
  have hPp : P ≤ p := by
    by_cases hh : p < P
    · have h1 := f p a2 hh
      have h2 : n * P ≤ (p + lpN s p) * P := Nat.mul_le_mul_right P (by omega)
      omega
    · omega
  have h1 : n * P ≤ L * P := Nat.mul_le_mul_right P hnL
  have h2 : L * P ≤ L * p := Nat.mul_le_mul_left L hPp
  have h3 : n * P = L * P := by omega
  have h4 : L * P = L * p := by omega
  have e1 : n = L := Nat.eq_of_mul_eq_mul_right (by omega) h3
  have e2 : P = p := Nat.eq_of_mul_eq_mul_left (by omega) h4
  rw [e1, e2]
end Go.Proofs.Ythckpgfhldocdaa

/- Words without squares: the square at an end, the words with a letter more. No program in it. -/
namespace Go.Proofs.Ythckpgfhldocdaa
open Go.RowKit

/-! ### the square at an end -/
theorem ex_ex (s : ByteArray) (a b e : Nat) (h : b ≤ e) : (s.extract 0 e).extract a b = s.extract a b := by
  apply bytes_ext
  rw [ByteArray.toList_eq, ByteArray.toList_eq, ByteArray.data_extract, ByteArray.data_extract, ByteArray.data_extract, Array.toList_extract, Array.toList_extract, Array.toList_extract, List.extract_eq_take_drop, List.extract_eq_take_drop, List.extract_eq_take_drop, List.drop_zero, List.drop_take, List.take_take]
  congr 1
  omega
theorem end_pre {s : ByteArray} {e h : Nat} (he : e ≤ s.size) : SqEnd (s.extract 0 e) (s.extract 0 e).size h ↔ SqEnd s e h := by
  have hz : (s.extract 0 e).size = e := by rw [ByteArray.size_extract]; omega
  rw [hz]
  unfold SqEnd
  rw [ex_ex s _ _ e (Nat.sub_le _ _), ex_ex s _ _ e (Nat.le_refl _), hz]
  constructor
  · rintro ⟨a, b, _, d⟩; exact ⟨a, b, he, d⟩
  · rintro ⟨a, b, _, d⟩; exact ⟨a, b, Nat.le_refl _, d⟩
/-- the half of the shortest square at the end, 0 if there is none -/
noncomputable def heN (s : ByteArray) : Nat := if firstP (SqEnd s s.size) 1 (s.size / 2) ≤ s.size / 2 then firstP (SqEnd s s.size) 1 (s.size / 2) else 0
theorem he_at {s : ByteArray} {h : Nat} (h1 : SqEnd s s.size h) (h2 : ∀ r, 1 ≤ r → r < h → ¬ SqEnd s s.size r) : heN s = h := by
  have e1 : firstP (SqEnd s s.size) 1 (s.size / 2) = h := firstP_eq _ _ _ h1.1 (by have := h1.2.1; omega) h2 h1
  unfold heN
  rw [e1, if_pos (by have := h1.2.1; omega)]
theorem he_none {s : ByteArray} (h : ∀ r, ¬ SqEnd s s.size r) : heN s = 0 := by
  have e1 : firstP (SqEnd s s.size) 1 (s.size / 2) = 1 + s.size / 2 := firstP_none _ _ (fun r _ _ => h r)
  unfold heN
  rw [e1, if_neg (by omega)]
theorem he_spec (s : ByteArray) : (heN s = 0 ∧ ∀ r, ¬ SqEnd s s.size r) ∨ (1 ≤ heN s ∧ SqEnd s s.size (heN s) ∧ ∀ r, r < heN s → ¬ SqEnd s s.size r) := by
  by_cases hn : ∃ h, SqEnd s s.size h
  · obtain ⟨h, hh⟩ := hn
    obtain ⟨p1, p2⟩ := firstP_spec (P := SqEnd s s.size) (s.size / 2) 1 ⟨h, hh.1, by have := hh.2.1; omega, hh⟩
    have hmin : ∀ r, r < firstP (SqEnd s s.size) 1 (s.size / 2) → ¬ SqEnd s s.size r := fun r hr hsq => by have := p2 r hsq.1 hsq; omega
    have := he_at p1 (fun r _ hr => hmin r hr)
    rw [this]
    exact .inr ⟨p1.1, p1, hmin⟩
  · exact .inl ⟨he_none fun r hr => hn ⟨r, hr⟩, fun r hr => hn ⟨r, hr⟩⟩
theorem he_le (s : ByteArray) : heN s ≤ s.size := by
  rcases he_spec s with ⟨h, _⟩ | ⟨_, h, _⟩
  · omega
  · have := h.2.1; omega
theorem suffix_end {s : ByteArray} {n : Nat} (h1 : 1 ≤ n) (h2 : 2 * n ≤ s.size) : Lib.hasSuffix (s.extract 0 (s.size - n)).data.toList (s.extract (s.size - n) s.size).data.toList = true ↔ SqEnd s s.size n := by
  have z1 : (s.extract 0 (s.size - n)).size = s.size - n := by rw [ByteArray.size_extract]; omega
  have z2 : (s.extract (s.size - n) s.size).size = n := by rw [ByteArray.size_extract]; omega
  rw [← Lib.hasSuffix_raw, z1, z2, ex_ex s _ _ _ (Nat.le_refl _), decide_eq_true (show n ≤ s.size - n by omega), Bool.true_and, beq_iff_eq]
  unfold SqEnd
  rw [show s.size - n - n = s.size - 2 * n by omega]
  constructor
  · intro h; exact ⟨h1, h2, Nat.le_refl _, bytes_ext h⟩
  · rintro ⟨_, _, _, h⟩; rw [h]
/-- what FirstSquare finds at the first end with a square -/
theorem fsq_he {s : ByteArray} {e : Nat} (hw : wordB s = true) (he : e ≤ s.size) (h1 : 1 ≤ heN (s.extract 0 e)) (h2 : ∀ e', e' < e → heN (s.extract 0 e') = 0) : fsqR1 s = (e : Int) ∧ fsqR2 s = (heN (s.extract 0 e) : Int) := by
  rcases he_spec (s.extract 0 e) with ⟨h, _⟩ | ⟨_, a, b⟩
  · omega
  · refine fsq_found hw ((end_pre he).1 a) (fun e' he' h' hh => ?_) (fun h' hh' hh => b h' hh' ((end_pre he).2 hh))
    rcases he_spec (s.extract 0 e') with ⟨_, c⟩ | ⟨c, _⟩
    · exact c h' ((end_pre (by omega)).2 hh)
    · have := h2 e' he'; omega
theorem fsq_no {s : ByteArray} (h2 : ∀ e', e' ≤ s.size → heN (s.extract 0 e') = 0) : fsqR1 s = -1 ∧ fsqR2 s = -1 := by
  refine fsq_none fun e h hh => ?_
  have he := hh.2.2.1
  rcases he_spec (s.extract 0 e) with ⟨_, c⟩ | ⟨c, _⟩
  · exact c h ((end_pre he).2 hh)
  · have := h2 e he; omega

/-! ### a letter more -/
/-- the words with one more of the first j letters that have no square -/
noncomputable def sflTo (s : ByteArray) : Nat → List ByteArray
  | 0 => []
  | j + 1 => if freeR (s ++ ⟨#[letterN j]⟩) 1 0 = true then sflTo s j ++ [s ++ ⟨#[letterN j]⟩] else sflTo s j
theorem sfl_yes {s : ByteArray} {j : Nat} (h : freeR (s ++ ⟨#[letterN j]⟩) 1 0 = true) : sflTo s (j + 1) = sflTo s j ++ [s ++ ⟨#[letterN j]⟩] := if_pos h
theorem sfl_no {s : ByteArray} {j : Nat} (h : freeR (s ++ ⟨#[letterN j]⟩) 1 0 = false) : sflTo s (j + 1) = sflTo s j := if_neg (by rw [h]; decide)
theorem sfl_len (s : ByteArray) : ∀ j, (sflTo s j).length ≤ j
  | 0 => Nat.le_refl _
  | j + 1 => by
    have ih := sfl_len s j
    cases h : freeR (s ++ ⟨#[letterN j]⟩) 1 0
    · rw [sfl_no h]; omega
    · rw [sfl_yes h, List.length_append]
      show _ + 1 ≤ _
      omega
theorem sfl_mem (s : ByteArray) : ∀ j x, x ∈ sflTo s j → x.size = s.size + 1 ∧ freeR x 1 0 = true
  | 0, x, h => by cases h
  | j + 1, x, hx => by
    have ih := sfl_mem s j x
    cases h : freeR (s ++ ⟨#[letterN j]⟩) 1 0
    · rw [sfl_no h] at hx; exact ih hx
    · rw [sfl_yes h, List.mem_append, List.mem_singleton] at hx
      rcases hx with hx | rfl
      · exact ih hx
      · exact ⟨more_size s j, h⟩
theorem word_pre {s x : ByteArray} (h : s.data.toList <+: x.data.toList) (hw : wordB x = true) : wordB s = true := by
  have hz : s.size ≤ x.size := by have := h.length_le; simpa using this
  unfold wordB at hw ⊢
  rw [Bool.and_eq_true, decide_eq_true_eq, List.all_eq_true] at hw ⊢
  exact ⟨by omega, fun c hc => hw.2 c (h.subset hc)⟩
theorem word_more {s : ByteArray} {j : Nat} (hw : wordB s = true) (hs : s.size < 400) (hj : j ≤ 3) : wordB (s ++ ⟨#[letterN j]⟩) = true := by
  have hz := more_size s j
  unfold wordB at hw ⊢
  rw [Bool.and_eq_true, decide_eq_true_eq, List.all_eq_true] at hw ⊢
  refine ⟨by omega, fun c hc => ?_⟩
  rw [ByteArray.data_append, Array.toList_append, List.mem_append] at hc
  rcases hc with hc | hc
  · exact hw.2 c hc
  · have : c = letterN j := by simpa using hc
    rw [this]
    rcases (show j = 0 ∨ j = 1 ∨ j = 2 ∨ j = 3 by omega) with e | e | e | e <;> subst e <;> rfl
theorem free_word {s : ByteArray} {n e : Nat} (h : freeR s n e = true) : wordB s = true := by
  unfold freeR at h
  rw [Bool.and_eq_true] at h
  exact h.1
theorem more_free {s : ByteArray} {j : Nat} (h : freeR (s ++ ⟨#[letterN j]⟩) 1 0 = true) : freeR s 1 0 = true :=
  free_pre (more_pre s _) (word_pre (more_pre s _) (free_word h)) h
theorem free_more {s : ByteArray} {j : Nat} (h : freeR s 1 0 = true) : freeR (s ++ ⟨#[letterN j]⟩) 1 0 = extB s j := by
  cases hb : extB s j
  · cases hf : freeR (s ++ ⟨#[letterN j]⟩) 1 0
    · rfl
    · exfalso
      unfold extB at hb
      rw [free_word hf, Bool.true_and, Bool.not_eq_false'] at hb
      obtain ⟨p, hp⟩ := (endsB_iff _).1 hb
      unfold freeR at hf
      rw [Bool.and_eq_true, Bool.not_eq_true'] at hf
      rw [(pz_rep1 _).2 ⟨_, p, ((pz_end _ _ p).1 hp).2.2⟩] at hf
      cases hf.2
  · exact ext_free h hb
theorem sfl_none {s : ByteArray} (h : freeR s 1 0 = false) : ∀ j, sflTo s j = []
  | 0 => rfl
  | j + 1 => by
    cases hf : freeR (s ++ ⟨#[letterN j]⟩) 1 0
    · rw [sfl_no hf]; exact sfl_none h j
    · rw [more_free hf] at h; cases h
/-- the first of them is what ExtendSquareFree is to return -/
theorem ext_sfl (s : ByteArray) : extR s = (sflTo s 3).headD ⟨#[]⟩ := by
  cases h : freeR s 1 0
  · rw [sfl_none h]
    unfold extR
    rw [h]
    rfl
  · have hx : extR s = extF s 0 3 := if_pos h
    rw [hx]
    cases h0 : extB s 0
    · have e1 : sflTo s 1 = [] := sfl_no (by rw [free_more h, h0])
      rw [show extF s 0 3 = extF s 1 2 from extF_no h0]
      cases h1 : extB s 1
      · have e2 : sflTo s 2 = [] := by rw [show sflTo s 2 = sflTo s 1 from sfl_no (by rw [free_more h, h1]), e1]
        rw [show extF s 1 2 = extF s 2 1 from extF_no h1]
        cases h2 : extB s 2
        · rw [show sflTo s 3 = sflTo s 2 from sfl_no (by rw [free_more h, h2]), e2, show extF s 2 1 = extF s 3 0 from extF_no h2]
          rfl
        · rw [show sflTo s 3 = _ from sfl_yes (by rw [free_more h, h2]), e2, show extF s 2 1 = _ from extF_yes h2]
          rfl
      · have e2 : sflTo s 2 = [s ++ ⟨#[letterN 1]⟩] := by rw [show sflTo s 2 = _ from sfl_yes (by rw [free_more h, h1]), e1]; rfl
        rw [show extF s 1 2 = _ from extF_yes h1]
        cases h2 : freeR (s ++ ⟨#[letterN 2]⟩) 1 0
        · rw [show sflTo s 3 = sflTo s 2 from sfl_no h2, e2]; rfl
        · rw [show sflTo s 3 = _ from sfl_yes h2, e2]; rfl
    · have e1 : sflTo s 1 = [s ++ ⟨#[letterN 0]⟩] := sfl_yes (by rw [free_more h, h0])
      rw [show extF s 0 3 = _ from extF_yes h0]
      cases h1 : freeR (s ++ ⟨#[letterN 1]⟩) 1 0
      · have e2 : sflTo s 2 = sflTo s 1 := sfl_no h1
        cases h2 : freeR (s ++ ⟨#[letterN 2]⟩) 1 0
        · rw [show sflTo s 3 = sflTo s 2 from sfl_no h2, e2, e1]; rfl
        · rw [show sflTo s 3 = _ from sfl_yes h2, e2, e1]; rfl
      · have e2 : sflTo s 2 = sflTo s 1 ++ [s ++ ⟨#[letterN 1]⟩] := sfl_yes h1
        cases h2 : freeR (s ++ ⟨#[letterN 2]⟩) 1 0
        · rw [show sflTo s 3 = sflTo s 2 from sfl_no h2, e2, e1]; rfl
        · rw [show sflTo s 3 = _ from sfl_yes h2, e2, e1]; rfl
/-- the sum over the first i of a list -/
noncomputable def csum (L k : Nat) : List ByteArray → Nat
  | [] => 0
  | x :: l => cntW L k x + csum L k l
theorem csum_append (L k : Nat) : ∀ l m, csum L k (l ++ m) = csum L k l + csum L k m
  | [], m => by show csum L k m = 0 + _; omega
  | x :: l, m => by
    show cntW L k x + csum L k (l ++ m) = cntW L k x + csum L k l + csum L k m
    rw [csum_append L k l m]
    omega
theorem csum_snoc (L k : Nat) (l : List ByteArray) (i : Nat) (h : i < l.length) : csum L k (l.take (i + 1)) = csum L k (l.take i) + cntW L k l[i] := by
  rw [List.take_succ_eq_append_getElem h, csum_append]
  rfl
theorem csum_le (L k : Nat) (hL : L ≤ 3) : ∀ l : List ByteArray, csum L k l ≤ l.length * 3 ^ k
  | [] => Nat.zero_le _
  | x :: l => by
    have h1 := cntW_le L hL k x
    have h2 := csum_le L k hL l
    show cntW L k x + csum L k l ≤ (l.length + 1) * 3 ^ k
    rw [Nat.succ_mul]
    omega
/-- the count is the sum over the words with a letter more -/
theorem cnt_sfl {s : ByteArray} (L k : Nat) (hL : L ≤ 3) (h : freeR s 1 0 = true) (hs : s.size < 400) : cntW L (k + 1) s = csum L k (sflTo s L) := by
  show sumJ (fun j => if endsB (s ++ ⟨#[letterN j]⟩) = true then 0 else cntW L k (s ++ ⟨#[letterN j]⟩)) L = _
  have : ∀ j, j ≤ 3 → sumJ (fun j => if endsB (s ++ ⟨#[letterN j]⟩) = true then 0 else cntW L k (s ++ ⟨#[letterN j]⟩)) j = csum L k (sflTo s j) := by
    intro j
    induction j with
    | zero => intro _; rfl
    | succ j ih =>
      intro hj
      show sumJ _ j + (if endsB (s ++ ⟨#[letterN j]⟩) = true then 0 else cntW L k (s ++ ⟨#[letterN j]⟩)) = _
      rw [ih (by omega)]
      have hf := free_more (j := j) h
      unfold extB at hf
      rw [word_more (free_word h) hs (by omega), Bool.true_and] at hf
      cases he : endsB (s ++ ⟨#[letterN j]⟩)
      · rw [he] at hf
        rw [sfl_yes hf, csum_append, if_neg (by decide)]
        rfl
      · rw [he] at hf
        rw [sfl_no hf, if_pos rfl]
        rfl
  exact this L hL
/-- the first letters of the alphabet -/
def abcN (L : Nat) : ByteArray := (⟨#[97, 98, 99]⟩ : ByteArray).extract 0 L
theorem abc_size {L : Nat} (h : L ≤ 3) : (abcN L).size = L := by
  unfold abcN
  rw [ByteArray.size_extract]
  have : (⟨#[97, 98, 99]⟩ : ByteArray).size = 3 := rfl
  omega
theorem abc_at {L j : Nat} (h : L ≤ 3) (hj : j < (abcN L).size) : (abcN L)[j] = letterN j := by
  rw [abc_size h] at hj
  rcases (show (L = 1 ∧ j = 0) ∨ (L = 2 ∧ j = 0) ∨ (L = 2 ∧ j = 1) ∨ (L = 3 ∧ j = 0) ∨ (L = 3 ∧ j = 1) ∨ (L = 3 ∧ j = 2) by omega) with ⟨rfl, rfl⟩ | ⟨rfl, rfl⟩ | ⟨rfl, rfl⟩ | ⟨rfl, rfl⟩ | ⟨rfl, rfl⟩ | ⟨rfl, rfl⟩ <;> rfl
theorem letter_code {j : Nat} (h : j ≤ 2) : Utf8.encode ((letterN j).toNat : Int) = ⟨#[letterN j]⟩ := by
  rcases (show j = 0 ∨ j = 1 ∨ j = 2 by omega) with e | e | e <;> subst e <;> decide
end Go.Proofs.Ythckpgfhldocdaa
