/- Texts put together. -/
import Derived.Test.YtefdciaijjgieaaMgE7
import Derived.Test.YtefdciaijjgieaaMgE1
import Derived.Test.YtefdciaijjgieaaMgE14
import Derived.Lib.SlicesCompact
import Derived.Test.YtefdciaijjgieaaMgE4
import Derived.Maps.AppendAt
import Derived.Test.YtefdciaijjgieaaMgE13
import Derived.Test.YtefdciaijjgieaaMgE10
/- A list of texts, sorted and with neighbors that are equal struck out, is the ascending list of its texts, each once; a row of texts turned by the library's two. -/
namespace Go.Proofs.Ytefdciaijjgieaa
open Go.RowKit

abbrev toBA (l : List UInt8) : ByteArray := ⟨l.toArray⟩
theorem less_lt (a b : ByteArray) : lessB a b = true ↔ a.data.toList < b.data.toList := by
  unfold lessB
  rw [bytesLess_eq, ByteArray.toList_eq, ByteArray.toList_eq, decide_eq_true_eq]
theorem lt_ne {a b : List UInt8} (h : a ≤ b) (hne : a ≠ b) : a < b := by
  rcases bl_tri a b with k | k | k
  · rwa [bytesLess_eq, decide_eq_true_eq] at k
  · exact absurd k hne
  · rw [bytesLess_eq, decide_eq_true_eq] at k
    exact absurd k (List.not_lt.2 h)
theorem cells_map (ys : List (List UInt8)) : ys.map encStr = strs (ys.map toBA) := by
  unfold strs
  rw [List.map_map]
  rfl

/-! ### the library's Compact of an ascending list -/
section
variable {d : Array (List UInt8)}
theorem cp_mem (d : Array (List UInt8)) (x : List UInt8) : ∀ m, x ∈ Lib.compactUpTo d m ↔ ∃ j, j < m ∧ d[j]! = x
  | 0 => by simp [Lib.compactUpTo]
  | m + 1 => by
    rw [Lib.compactUpTo_succ, List.mem_append, cp_mem d x m]
    by_cases hk : Lib.keeps d m = true
    · rw [if_pos hk, List.mem_singleton]
      constructor
      · rintro (⟨j, a, b⟩ | rfl)
        · exact ⟨j, by omega, b⟩
        · exact ⟨m, by omega, rfl⟩
      · rintro ⟨j, a, b⟩
        by_cases e : j = m
        · subst e; exact .inr b.symm
        · exact .inl ⟨j, by omega, b⟩
    · rw [if_neg hk]
      constructor
      · rintro (⟨j, a, b⟩ | h)
        · exact ⟨j, by omega, b⟩
        · cases h
      · rintro ⟨j, a, b⟩
        left
        by_cases e : j = m
        · subst e
          have hk' : ¬ (j = 0 ∨ d[j]! ≠ d[j - 1]!) := by simpa [Lib.keeps] using hk
          rw [not_or, Classical.not_not] at hk'
          exact ⟨j - 1, by omega, by rw [← hk'.2]; exact b⟩
        · exact ⟨j, by omega, b⟩
theorem cp_asc (hs : ∀ i j, i < j → j < d.size → d[i]! ≤ d[j]!) : ∀ m, m ≤ d.size → (Lib.compactUpTo d m).Pairwise (· < ·)
  | 0, _ => by simp [Lib.compactUpTo]
  | m + 1, hm => by
    rw [Lib.compactUpTo_succ]
    have ih := cp_asc hs m (by omega)
    by_cases hk : Lib.keeps d m = true
    · rw [if_pos hk]
      refine List.pairwise_append.2 ⟨ih, List.pairwise_singleton _ _, fun a ha b hb => ?_⟩
      rw [List.mem_singleton] at hb
      subst hb
      obtain ⟨j, hj, rfl⟩ := (cp_mem d a m).1 ha
      have hk' : m = 0 ∨ d[m]! ≠ d[m - 1]! := by simpa [Lib.keeps] using hk
      have hne := hk'.resolve_left (by omega)
      have h1 : d[m - 1]! ≤ d[m]! := hs (m - 1) m (by omega) (by omega)
      have h2 : d[m - 1]! < d[m]! := lt_ne h1 (Ne.symm hne)
      by_cases e : j = m - 1
      · rw [e]; exact h2
      · exact List.lt_of_le_of_lt (hs j (m - 1) (by omega) (by omega)) h2
    · rw [if_neg hk, List.append_nil]
      exact ih
end
theorem sort_le (ss : List (List UInt8)) : (ss.mergeSort fun x y => decide (x ≤ y)).Pairwise (· ≤ ·) := by
  have := List.pairwise_mergeSort (le := fun x y : List UInt8 => decide (x ≤ y)) (fun a b c h k => by simp only [decide_eq_true_eq] at h k ⊢; exact List.le_trans h k) (fun a b => by simp only [Bool.or_eq_true, decide_eq_true_eq]; exact List.le_total a b) ss
  simpa using this
theorem sort_mem (ss : List (List UInt8)) (x : List UInt8) : x ∈ (ss.mergeSort fun x y => decide (x ≤ y)) ↔ x ∈ ss := (List.mergeSort_perm ss _).mem_iff
/-- sorted and compacted -/
theorem sorted_eq {l m : List ByteArray} (hm : Asc m) (h : ∀ x, x ∈ l ↔ x ∈ m) : (Lib.compact ((l.map (·.data.toList)).mergeSort fun x y => decide (x ≤ y))).map toBA = m := by
  have hp := sort_le (l.map (·.data.toList))
  have hmem := sort_mem (l.map (·.data.toList))
  generalize (l.map (·.data.toList)).mergeSort (fun x y => decide (x ≤ y)) = zs at hp hmem
  have hs : ∀ i j, i < j → j < zs.toArray.size → zs.toArray[i]! ≤ zs.toArray[j]! := by
    intro i j hij hj
    have hj' : j < zs.length := by simpa using hj
    have := List.pairwise_iff_getElem.1 hp i j (by omega) hj' hij
    rw [getElem!_pos _ i (by simp; omega), getElem!_pos _ j (by simp; omega)]
    simpa using this
  have ha := cp_asc hs zs.length (by simp)
  refine asc_ext ?_ hm fun x => ?_
  · refine List.pairwise_map.2 (ha.imp fun {a b} h => ?_)
    exact (less_lt _ _).2 (by simpa using h)
  · rw [← h x, List.mem_map]
    have key : ∀ y : List UInt8, y ∈ Lib.compact zs ↔ y ∈ zs := by
      intro y
      unfold Lib.compact
      rw [cp_mem]
      constructor
      · rintro ⟨j, hj, rfl⟩
        rw [getElem!_pos _ j (by simpa using hj)]
        simp
      · intro hy
        obtain ⟨j, hj, rfl⟩ := List.mem_iff_getElem.1 hy
        exact ⟨j, hj, by rw [getElem!_pos _ j (by simpa using hj)]; simp⟩
    constructor
    · rintro ⟨y, hy, rfl⟩
      rw [key, hmem, List.mem_map] at hy
      obtain ⟨z, hz, rfl⟩ := hy
      exact hz
    · intro hx
      exact ⟨x.data.toList, by rw [key, hmem, List.mem_map]; exact ⟨x, hx, rfl⟩, rfl⟩

/-! ### a row of one's own under the library's words -/
section
variable {w : World} {B g n cap : Nat} {T : TypeId} {l : List ByteArray}
theorem own_holds (h : w.ownsRow B T 1 (.slice (some ⟨g, 0, none⟩) n cap) n (strs l)) : Sort.Holds encStr w g 0 (l.map (·.data.toList)).toArray := by
  have hl := h.1
  rw [strs_length, Nat.mul_one] at hl
  intro j hj
  have hj' : j < l.length := by simpa using hj
  refine ⟨?_, h.frozenAt _⟩
  rw [Nat.zero_add, h.cellAt j (by omega)]
  simp [strs, hj', encStr]
theorem own_lt (h : w.ownsRow B T 1 (.slice (some ⟨g, 0, none⟩) n cap) n (strs l)) : B ≤ g ∧ g < w.heap.size := h.lt g rfl
theorem own_put (h : w.ownsRow B T 1 (.slice (some ⟨g, 0, none⟩) n cap) n (strs l)) (ys : List (List UInt8)) (hy : ys.length = n) (q : Nat) (os : Array Obj) :
    (Sort.grow (Sort.putRow encStr (Sort.ahead w q) g 0 ys.toArray) os).ownsRow B T 1 (.slice (some ⟨g, 0, none⟩) n cap) n (strs (ys.map toBA)) ∧ Below B w (Sort.grow (Sort.putRow encStr (Sort.ahead w q) g 0 ys.toArray) os) := by
  have hl := own_lt h
  have hsz : (Sort.putRow encStr (Sort.ahead w q) g 0 ys.toArray).heap.size = w.heap.size := by rw [Sort.size_putRow]; rfl
  have hold : ∀ k, k < w.heap.size → (Sort.grow (Sort.putRow encStr (Sort.ahead w q) g 0 ys.toArray) os).heap[k]? = (w.heap.modify g (Sort.onCells (Sort.putCells encStr 0 ys.toArray)))[k]? := by
    intro k hk
    show (_ ++ os)[k]? = _
    rw [Array.getElem?_append_left (by rw [hsz]; exact hk)]
    rfl
  refine ⟨⟨by rw [strs_length, List.length_map]; omega, ?_⟩, ⟨rfl, rfl, rfl, ?_, fun k hk => ?_⟩⟩
  · rcases h.2 with ⟨h', _⟩ | ⟨g', cap', cur, h', hb, hg, h1, h2, h3, h4⟩
    · simp at h'
    · injection h' with ha hn hc
      injection ha with ha
      injection ha with ha
      subst ha; subst hc
      refine .inr ⟨g, cap, Sort.putCells encStr 0 ys.toArray cur, rfl, hb, ?_, h1, h2, ?_, ?_⟩
      · rw [hold g hl.2, Array.getElem?_modify, if_pos rfl, hg]
        rfl
      · simp [Sort.putCells, h3]
      · apply List.ext_getElem?
        intro i
        rw [← cells_map, List.getElem?_take]
        split
        · next hi =>
          have hi' : i < ys.length := by omega
          have hic : i < cur.size := by omega
          simp [Sort.putCells, hi', hic]
        · next hi =>
          rw [List.getElem?_eq_none (by simp; omega)]
  · show w.heap.size ≤ (_ ++ os).size
    rw [Array.size_append, hsz]; omega
  · rw [hold k (by omega), Array.getElem?_modify, if_neg (by omega)]
theorem own_less {m : Nat} {xs : List Value} (h : w.ownsRow B T 1 (.slice (some ⟨g, 0, none⟩) n cap) n xs) (hm : m ≤ n) : w.ownsRow B T 1 (.slice (some ⟨g, 0, none⟩) m cap) m (xs.take m) := by
  have hl := h.1
  rcases h.2 with ⟨h', _⟩ | ⟨g', cap', cur, h', hb, hg, h1, h2, h3, h4⟩
  · simp at h'
  · injection h' with ha hn hc
    injection ha with ha
    injection ha with ha
    subst ha; subst hc
    refine ⟨by rw [List.length_take]; omega, .inr ⟨g, cap, cur, rfl, hb, hg, by omega, h2, h3, ?_⟩⟩
    rw [← h4, List.take_take]
    congr 1
    omega
end
end Go.Proofs.Ytefdciaijjgieaa

/- append of one element that the walk has just laid, and where the new slice lies: so that a row read meanwhile is seen to stay. -/
namespace Go.Proofs.Ytefdciaijjgieaa
open Go.RowKit

theorem wpList_append1p {P : Program} (w : World) {ops : Array Oper} {rest : List Oper} {o : Oper} {a : Act} {Q : Exit → Act → World → Prop} (hgd : o.guard = none) (s x : Operand) (t : TypeId)
    (ho : o.op = .call { callee := .builtin .append, args := #[s, x], argTypes := #[t, t] })
    (base : Nat) (e : TypeId) (i : TypeInfo) (z : Value) (bytes : Nat) (ht : P.underlying t = some (.slice e)) (hi : P.info? e = some i) (hz : i.zero = some z)
    (hsize : i.size = 1) (hby : i.bytes = bytes) (hzs : z.cells.size = 1)
    (v : Value) (n : Nat) (xs : List Value) (hs : a.eval s = v) (hown : w.ownsRow base e 1 v n xs)
    (y : Value) (hy : y.oneCell' = true) (hx : a.eval x = .slice (some ⟨w.heap.size, 0, none⟩) 1 1)
    (h63 : n + 1 ≤ maxLen) (hbytes : (n + 1) * bytes ≤ 140737488355328) (hbase : base ≤ w.heap.size)
    (h : ∀ v' w', w'.ownsRow base e 1 v' (n + 1) (xs ++ [y]) → w.grownBy w' v.ownBlock → (v'.ownBlock = v.ownBlock ∨ v'.ownBlock = some (w.heap.size + 1)) → wpList P ops Q rest (a.put o.dst v') w') :
    wpList P ops Q (o :: rest) a (w.alloc (.cells #[y] e)) := by
  refine wpList_append_own_at _ hgd s x t ho base e i z 1 bytes ht hi hz hsize hby hzs (by decide) v n xs hs (hown.alloc _) ⟨w.heap.size, 0, none⟩ 1 1 [y] hx rfl ?_ ?_ h63 hbytes (by simp; omega) ?_
  · intro j u hu
    rcases j with _ | j
    · simp at hu
      subst hu
      rw [Addr.add_lit, World.cell?_alloc_at _ _ _ _ (by simp)]
      rfl
    · simp at hu
  · intro u hu
    simp at hu
    subst hu
    exact hy
  · intro v' w' h1 h2 _ h4
    simp only [World.size_alloc] at h4
    exact h v' w' h1 (grown_trans (World.grownBy_alloc _ _ _) h2) h4
/-- a slice that lies in block B or in none before S -/
def Away (B S : Nat) (v : Value) : Prop := ∀ k, v.ownBlock = some k → k = B ∨ S ≤ k
theorem Away.next {B S : Nat} {v v' : Value} {w : World} (h : Away B S v) (hS : S ≤ w.heap.size) (h2 : v'.ownBlock = v.ownBlock ∨ v'.ownBlock = some (w.heap.size + 1)) : Away B S v' := by
  intro k hk
  rcases h2 with e | e
  · exact h k (by rw [← e]; exact hk)
  · rw [e] at hk
    injection hk with hk
    exact .inr (by omega)
/-- a row that lies between them stays -/
theorem Away.keeps {B S L : Nat} {v : Value} {w w' : World} {e : TypeId} {u : Value} {n : Nat} {xs : List Value} (h : Away B S v) (hg : w.grownBy w' v.ownBlock) (hu : w.ownsRow L e 1 u n xs) (hB : B < L) (hS : ∀ k, u.ownBlock = some k → k < S) : w'.ownsRow L e 1 u n xs := by
  refine own_apart hu hg (fun k hk hk2 => ?_)
  have h1 := (hu.lt k hk).1
  have h2 := hS k hk
  rcases h k hk2 with h3 | h3 <;> omega
end Go.Proofs.Ytefdciaijjgieaa

/- Chapter 8 of the model: FirstSquare, l07Ends. Conditions: lengths of at most 2^20. -/
namespace Go.Proofs.Ytefdciaijjgieaa
open Go.RowKit Go.Lib

/-- a square with halves of h letters ends at e -/
def SqEnd (s : ByteArray) (e h : Nat) : Prop := 1 ≤ h ∧ 2 * h ≤ e ∧ e ≤ s.size ∧ s.extract (e - 2 * h) (e - h) = s.extract (e - h) e
theorem firstP_none {P : Nat → Prop} : ∀ (k p : Nat), (∀ r, p ≤ r → r < p + k → ¬ P r) → firstP P p k = p + k
  | 0, _, _ => rfl
  | k + 1, p, h => by
    unfold firstP
    rw [@decide_eq_false _ (Classical.propDecidable _) (h p (Nat.le_refl _) (by omega)), if_neg (by decide), firstP_none k (p + 1) (fun r a b => h r (by omega) (by omega))]
    omega
noncomputable def fsqE (s : ByteArray) : Nat := firstP (fun e => ∃ h, SqEnd s e h) 0 (s.size + 1)
noncomputable def fsqH (s : ByteArray) : Nat := firstP (SqEnd s (fsqE s)) 1 s.size
noncomputable def fsqB (s : ByteArray) : Bool := wordB s && decide (fsqE s ≤ s.size)
/-- what FirstSquare is to return -/
noncomputable def fsqR1 (s : ByteArray) : Int := if fsqB s = true then (fsqE s : Int) else -1
noncomputable def fsqR2 (s : ByteArray) : Int := if fsqB s = true then (fsqH s : Int) else -1
theorem fsq_found {s : ByteArray} {e h : Nat} (hw : wordB s = true) (h1 : SqEnd s e h) (h2 : ∀ e', e' < e → ∀ h', ¬ SqEnd s e' h') (h3 : ∀ h', h' < h → ¬ SqEnd s e h') : fsqR1 s = (e : Int) ∧ fsqR2 s = (h : Int) := by
  have e1 : fsqE s = e := firstP_eq _ _ _ (Nat.zero_le _) (by have := h1.2.2.1; omega) (fun r _ hr => fun ⟨h', hh⟩ => h2 r hr h' hh) ⟨h, h1⟩
  have e2 : fsqH s = h := by
    unfold fsqH
    rw [e1]
    exact firstP_eq _ _ _ h1.1 (by have := h1.2.1; have := h1.2.2.1; omega) (fun r _ hr => h3 r hr) h1
  have e3 : fsqB s = true := by unfold fsqB; rw [hw, e1, decide_eq_true h1.2.2.1]; rfl
  unfold fsqR1 fsqR2
  rw [if_pos e3, if_pos e3, e1, e2]
  exact ⟨rfl, rfl⟩
theorem fsq_none {s : ByteArray} (h : ∀ e h', ¬ SqEnd s e h') : fsqR1 s = -1 ∧ fsqR2 s = -1 := by
  have e1 : fsqE s = 0 + (s.size + 1) := firstP_none _ _ (fun r _ _ => fun ⟨h', hh⟩ => h r h' hh)
  have e3 : fsqB s = false := by unfold fsqB; rw [e1, decide_eq_false (by omega), Bool.and_false]
  unfold fsqR1 fsqR2
  rw [e3]
  exact ⟨rfl, rfl⟩
theorem fsq_word {s : ByteArray} (h : wordB s = false) : fsqR1 s = -1 ∧ fsqR2 s = -1 := by
  have e3 : fsqB s = false := by unfold fsqB; rw [h]; rfl
  unfold fsqR1 fsqR2
  rw [e3]
  exact ⟨rfl, rfl⟩
noncomputable def endsB (s : ByteArray) : Bool := @decide (∃ h, SqEnd s s.size h) (Classical.propDecidable _)
theorem endsB_iff (s : ByteArray) : endsB s = true ↔ ∃ h, SqEnd s s.size h := by unfold endsB; simp

set_option maxHeartbeats 1000000 in
theorem specEnds (s : ByteArray) (w : World) (hs : s.size ≤ 1048576) :
    Calls Try.prog 66 #[.string s] w fun e w' => e = .returned (.bool (endsB s)) ∧ Below w.heap.size w w' := by
  have HY : Hid (∀ h, SqEnd s s.size h → endsB s = true) := fun h hh => (endsB_iff s).2 ⟨h, hh⟩
  have HNO : Hid ((∀ h, ¬ SqEnd s s.size h) → endsB s = false) := fun hh => by
    cases hb : endsB s
    · rfl
    · obtain ⟨h, h2⟩ := (endsB_iff s).1 hb
      exact absurd h2 (hh h)
  generalize endsB s = rb at HY HNO
  go_enter Try.func66, Try.ntmps66
  go_wp2_with fail
  go_loopw [3] (fun hv w' => ∃ j : Nat, j ≤ s.size ∧ hv = .int .i64 ((j : Int) + 1) ∧ (∀ h, h ≤ j → ¬ SqEnd s s.size h) ∧ Below w.heap.size w w') (fun hv _ => s.size + 2 - (intOf hv).toNat)
  case atStart => exact ⟨0, by omega, rfl, fun h hh hq => by have := hq.1; omega, Below.refl _ _⟩
  case round =>
    obtain ⟨j, hj, rfl, hno, hb⟩ := hrel
    obtain ⟨wj, rfl⟩ : ∃ y : World, y = wr := ⟨_, rfl⟩
    have HN := Lib.hid hno
    have HB := Lib.hid hb
    clear hno hb
    by_cases hle : 2 * (j + 1) ≤ s.size
    · have q1 : IntKind.i64.wrap (2 * ((j : Int) + 1)) = 2 * ((j : Int) + 1) := IntWalk.i64_in _ (by omega)
      have q2 : IntKind.i64.wrap ((s.size : Int) - 2 * ((j : Int) + 1)) = (s.size : Int) - 2 * ((j : Int) + 1) := IntWalk.i64_in _ (by omega)
      have q3 : IntKind.i64.wrap ((s.size : Int) - ((j : Int) + 1)) = (s.size : Int) - ((j : Int) + 1) := IntWalk.i64_in _ (by omega)
      have hs1 : ∀ w : World, (Instr.slice 9 (.string s) (some (.int .i64 ((s.size : Int) - 2 * ((j : Int) + 1)))) (some (.int .i64 ((s.size : Int) - ((j : Int) + 1)))) none).run Try.prog w = .ok (.string (s.extract (s.size - 2 * (j + 1)) (s.size - (j + 1)))) w := fun w => slice_gen Try.underlying9 s _ _ _ _ w (by omega) (by omega) (by omega) (by omega)
      have hs2 : ∀ w : World, (Instr.slice 9 (.string s) (some (.int .i64 ((s.size : Int) - ((j : Int) + 1)))) none none).run Try.prog w = .ok (.string (s.extract (s.size - (j + 1)) s.size)) w := fun w => by
        rw [run_slice_string_from_if (P := Try.prog) w 9 s .i64 ((s.size : Int) - ((j : Int) + 1)) Try.underlying9, if_pos ⟨by omega, by omega⟩]
        rw [show ((s.size : Int) - ((j : Int) + 1)).toNat = s.size - (j + 1) by omega]
      by_cases hc : s.extract (s.size - 2 * (j + 1)) (s.size - (j + 1)) = s.extract (s.size - (j + 1)) s.size
      · have HRB : Hid (rb = true) := HY.out (j + 1) ⟨by omega, hle, Nat.le_refl _, hc⟩
        have bq := eq_bytes hc
        clear hc
        generalize s.extract (s.size - 2 * (j + 1)) (s.size - (j + 1)) = x1 at hs1 bq
        generalize s.extract (s.size - (j + 1)) s.size = x2 at hs2 bq
        go_wp2_with fail
        go_region
        go_wp2_with fail
        go_ret
        exact ⟨ret_bool HRB.out.symm, below_drewN HB.out 1⟩
      · have HN2 : Hid (∀ h, h ≤ j + 1 → ¬ SqEnd s s.size h) := fun h hh hq => by
          by_cases e : h = j + 1
          · subst e; exact hc hq.2.2.2
          · exact HN.out h (by omega) hq
        have bq := ne_bytes hc
        clear hc
        generalize s.extract (s.size - 2 * (j + 1)) (s.size - (j + 1)) = x1 at hs1 bq
        generalize s.extract (s.size - (j + 1)) s.size = x2 at hs2 bq
        go_wp2_with fail
        go_region
        go_wp2_with fail
        go_roundw
        case rel => exact ⟨j + 1, by omega, by go_num, HN2.out, below_drewN HB.out 1⟩
        case measure => simp [intOf]; omega
    · have HRB : Hid (rb = false) := HNO.out fun h hq => by
        by_cases e : h ≤ j
        · exact HN.out h e hq
        · have := hq.2.1; omega
      go_wp2_with fail
      go_ret
      exact ⟨ret_bool HRB.out.symm, HB.out⟩

set_option maxHeartbeats 1000000 in
theorem specFirstSquare (s : ByteArray) (w : World) (_ : s.size ≤ 1048576) :
    Calls Try.prog 41 #[.string s] w fun e w' => e = .returned (.tuple #[.int .i64 (fsqR1 s), .int .i64 (fsqR2 s)]) ∧ Below w.heap.size w w' := by
  cases hw : wordB s
  · have HW := Lib.hid hw
    obtain ⟨v1, v2⟩ := fsq_word hw
    rw [v1, v2]
    clear hw v1 v2
    go_enter Try.func41, Try.ntmps41
    go_wp2_with fail
    refine (specWordOk s _).mono ?_
    rintro e w' ⟨rfl, rfl⟩
    rw [HW.out]
    go_wp2_with fail
    go_ret2
    exact ⟨rfl, Below.refl _ _⟩
  · have HW := Lib.hid hw
    have h4 := word_size hw
    have HY := Lib.hid (fun e h => fsq_found (s := s) (e := e) (h := h) hw)
    have HNO := Lib.hid (fsq_none (s := s))
    clear hw
    generalize fsqR1 s = r1 at HY HNO ⊢
    generalize fsqR2 s = r2 at HY HNO ⊢
    go_enter Try.func41, Try.ntmps41
    go_wp2_with fail
    refine (specWordOk s _).mono ?_
    rintro e w' ⟨rfl, rfl⟩
    rw [HW.out]
    go_wp2_with fail
    go_loopw [4] (fun ev w' => ∃ e : Nat, e ≤ s.size + 2 ∧ 2 ≤ e ∧ ev = .int .i64 (e : Int) ∧ (∀ e', e' < e → ∀ h, ¬ SqEnd s e' h) ∧ Below w.heap.size w w') (fun ev _ => s.size + 3 - (intOf ev).toNat)
    case atStart => exact ⟨2, by omega, by omega, rfl, fun e' a h hq => by have := hq.1; have := hq.2.1; omega, Below.refl _ _⟩
    case round =>
      obtain ⟨e, he1, he2, rfl, hno, hb⟩ := hrel
      obtain ⟨wo, rfl⟩ : ∃ y : World, y = wr := ⟨_, rfl⟩
      have HN := Lib.hid hno
      have HB := Lib.hid hb
      clear hno hb
      by_cases hes : e ≤ s.size
      · go_wp2_with fail
        go_loopw [5] (fun hv w' => ∃ j : Nat, 2 * j ≤ e ∧ hv = .int .i64 ((j : Int) + 1) ∧ (∀ h, h ≤ j → ¬ SqEnd s e h) ∧ Below w.heap.size w w') (fun hv _ => s.size + 2 - (intOf hv).toNat)
        case atStart => exact ⟨0, by omega, rfl, fun h hh hq => by have := hq.1; omega, HB.out⟩
        case round =>
          obtain ⟨j, hj, rfl, hno, hb⟩ := hrel
          obtain ⟨wj, rfl⟩ : ∃ y : World, y = wr := ⟨_, rfl⟩
          have HNJ := Lib.hid hno
          have HBJ := Lib.hid hb
          clear hno hb
          by_cases hle : 2 * (j + 1) ≤ e
          · have q1 : IntKind.i64.wrap (2 * ((j : Int) + 1)) = 2 * ((j : Int) + 1) := IntWalk.i64_in _ (by omega)
            have q2 : IntKind.i64.wrap ((e : Int) - 2 * ((j : Int) + 1)) = (e : Int) - 2 * ((j : Int) + 1) := IntWalk.i64_in _ (by omega)
            have q3 : IntKind.i64.wrap ((e : Int) - ((j : Int) + 1)) = (e : Int) - ((j : Int) + 1) := IntWalk.i64_in _ (by omega)
            have hs1 : ∀ w : World, (Instr.slice 9 (.string s) (some (.int .i64 ((e : Int) - 2 * ((j : Int) + 1)))) (some (.int .i64 ((e : Int) - ((j : Int) + 1)))) none).run Try.prog w = .ok (.string (s.extract (e - 2 * (j + 1)) (e - (j + 1)))) w := fun w => slice_gen Try.underlying9 s _ _ _ _ w (by omega) (by omega) (by omega) (by omega)
            have hs2 : ∀ w : World, (Instr.slice 9 (.string s) (some (.int .i64 ((e : Int) - ((j : Int) + 1)))) (some (.int .i64 (e : Int))) none).run Try.prog w = .ok (.string (s.extract (e - (j + 1)) e)) w := fun w => slice_gen Try.underlying9 s _ _ _ _ w (by omega) (by omega) (by omega) (by omega)
            by_cases hc : s.extract (e - 2 * (j + 1)) (e - (j + 1)) = s.extract (e - (j + 1)) e
            · have HRB := Lib.hid (HY.out e (j + 1) ⟨by omega, hle, hes, hc⟩ HN.out (fun h hh => HNJ.out h (by omega)))
              have bq := eq_bytes hc
              clear hc
              generalize s.extract (e - 2 * (j + 1)) (e - (j + 1)) = x1 at hs1 bq
              generalize s.extract (e - (j + 1)) e = x2 at hs2 bq
              go_wp2_with fail
              go_region
              go_wp2_with fail
              go_ret2
              exact ⟨by rw [HRB.out.1, HRB.out.2]; rfl, below_drewN HBJ.out 1⟩
            · have HN2 : Hid (∀ h, h ≤ j + 1 → ¬ SqEnd s e h) := fun h hh hq => by
                by_cases e0 : h = j + 1
                · subst e0; exact hc hq.2.2.2
                · exact HNJ.out h (by omega) hq
              have bq := ne_bytes hc
              clear hc
              generalize s.extract (e - 2 * (j + 1)) (e - (j + 1)) = x1 at hs1 bq
              generalize s.extract (e - (j + 1)) e = x2 at hs2 bq
              go_wp2_with fail
              go_region
              go_wp2_with fail
              go_roundw
              case rel => exact ⟨j + 1, by omega, by go_num, HN2.out, below_drewN HBJ.out 1⟩
              case measure => simp [intOf]; omega
          · have HE : Hid (∀ e', e' < e + 1 → ∀ h, ¬ SqEnd s e' h) := fun e' a h hq => by
              by_cases e0 : e' = e
              · subst e0
                by_cases hh : h ≤ j
                · exact HNJ.out h hh hq
                · have := hq.2.1; omega
              · exact HN.out e' (by omega) h hq
            go_wp2_with fail
            go_roundw
            case rel => exact ⟨e + 1, by omega, by omega, by go_num, HE.out, HBJ.out⟩
            case measure => simp [intOf]; omega
      · have HRB := Lib.hid (HNO.out fun e' h hq => by
          by_cases hh : e' < e
          · exact HN.out e' hh h hq
          · have := hq.2.2.1; omega)
        go_wp2_with fail
        go_ret2
        exact ⟨by rw [HRB.out.1, HRB.out.2]; rfl, HB.out⟩
end Go.Proofs.Ytefdciaijjgieaa

/- Chapter 8 of the model: GreatestExponent. Conditions: lengths of at most 2^20. -/
namespace Go.Proofs.Ytefdciaijjgieaa
open Go.RowKit Go.Lib

noncomputable def gexRow (s : ByteArray) (n : Nat) (y : Nat × Nat) : Nat → Nat × Nat
  | 0 => y
  | i + 1 => if (gexRow s n y i).1 * perN (s.extract i (i + n)) < n * (gexRow s n y i).2 then (n, perN (s.extract i (i + n))) else gexRow s n y i
/-- behind the factors of 1 to n + 1 letters: the length and the least period of the best -/
noncomputable def gexTo (s : ByteArray) : Nat → Nat × Nat
  | 0 => (1, 1)
  | n + 1 => gexRow s (n + 2) (gexTo s n) (s.size + 1 - (n + 2))
def gexOk (s : ByteArray) : Bool := wordB s && (decide (1 ≤ s.size) && decide (s.size ≤ 60))
/-- what GreatestExponent is to return -/
noncomputable def gexR (s : ByteArray) : Nat × Nat := if gexOk s = true then gexTo s (s.size - 1) else (0, 0)
theorem firstP_le {P : Nat → Prop} : ∀ (k p : Nat), p ≤ firstP P p k ∧ firstP P p k ≤ p + k
  | 0, p => ⟨Nat.le_refl _, Nat.le_refl _⟩
  | k + 1, p => by
    have := firstP_le (P := P) k (p + 1)
    unfold firstP
    split <;> omega
theorem perN_le (s : ByteArray) : 1 ≤ perN s ∧ perN s ≤ s.size + 1 := by
  have := firstP_le (P := PerAt s) s.size 1
  unfold perN
  omega
theorem gexRow_le (s : ByteArray) (n : Nat) (hn : n ≤ 60) (y : Nat × Nat) (hy : y.1 ≤ 61 ∧ y.2 ≤ 61) : ∀ i, (gexRow s n y i).1 ≤ 61 ∧ (gexRow s n y i).2 ≤ 61
  | 0 => hy
  | i + 1 => by
    have ih := gexRow_le s n hn y hy i
    unfold gexRow
    split
    · have := perN_le (s.extract i (i + n))
      have hz : (s.extract i (i + n)).size ≤ n := by rw [ByteArray.size_extract]; omega
      exact ⟨by show n ≤ 61; omega, by show perN _ ≤ 61; omega⟩
    · exact ih
theorem gexTo_le (s : ByteArray) : ∀ n, n ≤ 59 → (gexTo s n).1 ≤ 61 ∧ (gexTo s n).2 ≤ 61
  | 0, _ => ⟨by show 1 ≤ 61; omega, by show 1 ≤ 61; omega⟩
  | n + 1, h => gexRow_le s (n + 2) (by omega) _ (gexTo_le s n (by omega)) _
theorem gexRow_yes {s : ByteArray} {n i : Nat} {y : Nat × Nat} (h : (gexRow s n y i).1 * perN (s.extract i (i + n)) < n * (gexRow s n y i).2) : gexRow s n y (i + 1) = (n, perN (s.extract i (i + n))) := if_pos h
theorem gexRow_no {s : ByteArray} {n i : Nat} {y : Nat × Nat} (h : ¬ (gexRow s n y i).1 * perN (s.extract i (i + n)) < n * (gexRow s n y i).2) : gexRow s n y (i + 1) = gexRow s n y i := if_neg h
theorem mul_small {a b : Nat} (h1 : a ≤ 61) (h2 : b ≤ 61) : a * b ≤ 3721 := Nat.le_trans (Nat.mul_le_mul h1 h2) (by omega)

set_option maxHeartbeats 1000000 in
theorem specGreatestExponent (s : ByteArray) (w : World) (_ : s.size ≤ 1048576) :
    Calls Try.prog 39 #[.string s] w fun e w' => e = .returned (.tuple #[.int .i64 ((gexR s).1 : Int), .int .i64 ((gexR s).2 : Int)]) ∧ Below w.heap.size w w' := by
  cases hw : wordB s
  · have HW := Lib.hid hw
    have hv : gexR s = (0, 0) := by unfold gexR gexOk; rw [hw]; rfl
    rw [hv]
    clear hw hv
    go_enter Try.func39, Try.ntmps39
    go_wp2_with fail
    refine (specWordOk s _).mono ?_
    rintro e w' ⟨rfl, rfl⟩
    rw [HW.out]
    go_wp2_with fail
    go_ret2
    exact ⟨rfl, Below.refl _ _⟩
  · have HW := Lib.hid hw
    by_cases hin : 1 ≤ s.size ∧ s.size ≤ 60
    · obtain ⟨hs1, hs60⟩ := hin
      have HV : Hid (gexR s = gexTo s (s.size - 1)) := if_pos (by unfold gexOk; rw [hw, decide_eq_true hs1, decide_eq_true hs60]; rfl)
      have d1 : decide ((1 : Int) ≤ (s.size : Int)) = true := by simp; omega
      have d2 : decide ((s.size : Int) ≤ (60 : Int)) = true := by simp; omega
      have HTL := Lib.hid (gexTo_le s)
      clear hw
      rw [HV.out]
      go_enter Try.func39, Try.ntmps39
      go_wp2_with fail
      refine (specWordOk s _).mono ?_
      rintro e w' ⟨rfl, rfl⟩
      rw [HW.out]
      go_wp2_with fail
      refine (specIn _ _ _ _).mono ?_
      rintro e w' ⟨rfl, rfl⟩
      go_wp2_with fail
      go_loopw [4, 5, 6] (fun av bv nv w' => ∃ n : Nat, n + 1 ≤ s.size ∧ nv = .int .i64 ((n : Int) + 2) ∧ av = .int .i64 ((gexTo s n).1 : Int) ∧ bv = .int .i64 ((gexTo s n).2 : Int) ∧ Below w.heap.size w w') (fun _ _ nv _ => s.size + 3 - (intOf nv).toNat)
      case atStart => exact ⟨0, by omega, rfl, rfl, rfl, Below.refl _ _⟩
      case round =>
        obtain ⟨n, hn, rfl, rfl, rfl, hb⟩ := hrel
        obtain ⟨wo, rfl⟩ : ∃ y : World, y = wr := ⟨_, rfl⟩
        have HB := Lib.hid hb
        have htl := HTL.out n (by omega)
        clear hb
        by_cases hns : n + 2 ≤ s.size
        · have HRL := Lib.hid (gexRow_le s (n + 2) (by omega) (gexTo s n) htl)
          have dn : decide ((n : Int) + 2 ≤ (s.size : Int)) = true := by simp; omega
          have HNX : Hid (gexTo s (n + 1) = gexRow s (n + 2) (gexTo s n) (s.size + 1 - (n + 2))) := rfl
          go_wp2_with fail
          go_loopw [4, 5, 7] (fun av bv iv w' => ∃ i : Nat, i + (n + 2) ≤ s.size + 1 ∧ iv = .int .i64 (i : Int) ∧ av = .int .i64 ((gexRow s (n + 2) (gexTo s n) i).1 : Int) ∧ bv = .int .i64 ((gexRow s (n + 2) (gexTo s n) i).2 : Int) ∧ Below w.heap.size w w') (fun _ _ iv _ => s.size + 1 - (intOf iv).toNat)
          case atStart => exact ⟨0, by omega, rfl, rfl, rfl, HB.out⟩
          case round =>
            obtain ⟨i, hi, rfl, rfl, rfl, hb⟩ := hrel
            obtain ⟨wi, rfl⟩ : ∃ y : World, y = wr := ⟨_, rfl⟩
            have HBI := Lib.hid hb
            clear hb
            obtain ⟨z1, z2⟩ := HRL.out i
            by_cases hin : i + (n + 2) ≤ s.size
            · have hsl : ∀ w : World, (Instr.slice 9 (.string s) (some (.int .i64 (i : Int))) (some (.int .i64 ((i : Int) + ((n : Int) + 2)))) none).run Try.prog w = .ok (.string (s.extract i (i + (n + 2)))) w := fun w => slice_gen Try.underlying9 s _ _ _ _ w rfl (by omega) (by omega) (by omega)
              have hpz : (s.extract i (i + (n + 2))).size = n + 2 := by rw [ByteArray.size_extract]; omega
              have hpl := perN_le (s.extract i (i + (n + 2)))
              have HPER := Lib.hid (fun w => specPeriod (s.extract i (i + (n + 2))) w (by omega) (by omega))
              have HYES := Lib.hid (fun h => gexRow_yes (s := s) (n := n + 2) (i := i) (y := gexTo s n) h)
              have HNO := Lib.hid (fun h => gexRow_no (s := s) (n := n + 2) (i := i) (y := gexTo s n) h)
              generalize perN (s.extract i (i + (n + 2))) = p at hpl HPER HYES HNO
              generalize s.extract i (i + (n + 2)) = pt at hsl hpz hpl HPER
              generalize haz : (gexRow s (n + 2) (gexTo s n) i).1 = a at z1 HYES HNO ⊢
              generalize hbz : (gexRow s (n + 2) (gexTo s n) i).2 = b at z2 HYES HNO ⊢
              have HAZ := Lib.hid haz
              have HBZ := Lib.hid hbz
              clear haz hbz
              have m1 : ((n : Int) + 2) * (b : Int) = (((n + 2) * b : Nat) : Int) := by push_cast; rfl
              have m2 : (a : Int) * (p : Int) = ((a * p : Nat) : Int) := by push_cast; rfl
              have l1 := mul_small (a := n + 2) (b := b) (by omega) z2
              have l2 := mul_small (a := a) (b := p) z1 (by omega)
              by_cases hc : a * p < (n + 2) * b
              · have HZ := Lib.hid (HYES.out hc)
                have dc : decide (((a * p : Nat) : Int) < (((n + 2) * b : Nat) : Int)) = true := by simp only [decide_eq_true_eq]; omega
                clear HYES HNO
                generalize (n + 2) * b = nb at m1 l1 hc dc
                generalize a * p = ap at m2 l2 hc dc
                go_wp2_with fail
                refine (HPER.out _).mono ?_
                rintro e wp ⟨rfl, hb⟩
                have HBP : Hid (Below w.heap.size w wp) := HBI.out.trans (hb.mono HBI.out.size)
                clear hb
                go_wp2_with fail
                go_roundw
                case rel => exact ⟨i + 1, by omega, by go_num, by rw [HZ.out]; exact int_val (by show _ = ((n + 2 : Nat) : Int); omega), by rw [HZ.out], HBP.out⟩
                case measure => simp [intOf]; omega
              · have HZ := Lib.hid (HNO.out hc)
                have dc : decide (((a * p : Nat) : Int) < (((n + 2) * b : Nat) : Int)) = false := by simp only [decide_eq_false_iff_not]; omega
                clear HYES HNO
                generalize (n + 2) * b = nb at m1 l1 hc dc
                generalize a * p = ap at m2 l2 hc dc
                go_wp2_with fail
                refine (HPER.out _).mono ?_
                rintro e wp ⟨rfl, hb⟩
                have HBP : Hid (Below w.heap.size w wp) := HBI.out.trans (hb.mono HBI.out.size)
                clear hb
                go_wp2_with fail
                go_roundw
                case rel => exact ⟨i + 1, by omega, by go_num, by rw [HZ.out, HAZ.out], by rw [HZ.out, HBZ.out], HBP.out⟩
                case measure => simp [intOf]; omega
            · have hii : i = s.size + 1 - (n + 2) := by omega
              have HQ : Hid (gexTo s (n + 1) = gexRow s (n + 2) (gexTo s n) i) := by show _ = _; rw [HNX.out, hii]
              clear hii
              go_wp2_with fail
              go_roundw
              case rel => exact ⟨n + 1, by omega, by go_num, by rw [HQ.out], by rw [HQ.out], HBI.out⟩
              case measure => simp [intOf]; omega
        · have HNN : Hid (s.size - 1 = n) := by show s.size - 1 = n; omega
          go_wp2_with fail
          go_ret2
          exact ⟨by rw [HNN.out]; rfl, HB.out⟩
    · have hv : gexR s = (0, 0) := by
        unfold gexR gexOk
        rw [hw]
        by_cases h1 : 1 ≤ s.size
        · rw [decide_eq_true h1, decide_eq_false (show ¬ s.size ≤ 60 by omega)]; rfl
        · rw [decide_eq_false h1]; rfl
      have dq : (decide ((1 : Int) ≤ (s.size : Int)) && decide ((s.size : Int) ≤ (60 : Int))) = false := by simp; omega
      rw [hv]
      clear hw hv
      go_enter Try.func39, Try.ntmps39
      go_wp2_with fail
      refine (specWordOk s _).mono ?_
      rintro e w' ⟨rfl, rfl⟩
      rw [HW.out]
      go_wp2_with fail
      refine (specIn _ _ _ _).mono ?_
      rintro e w' ⟨rfl, rfl⟩
      rw [dq]
      go_wp2_with fail
      go_ret2
      exact ⟨rfl, Below.refl _ _⟩
end Go.Proofs.Ytefdciaijjgieaa
