/- Texts put together. -/
import Derived.Test.YtiikledbflgejaaMgC2
import Derived.Test.YtiikledbflgejaaMgC4
import Derived.Test.YtiikledbflgejaaMgC3
import Derived.Test.YtiikledbflgejaaMgC1
import Derived.Test.YtiikledbflgejaaMgC19
import Derived.Lib.SlicesCompact
import Derived.Lib.RowBridge
import Derived.Test.YtiikledbflgejaaMgC17
/- Numbers sorted, each once: the mathematics, a row of numbers turned by the library's two, and the program's sortedOnce. -/
namespace Go.Proofs.Ytiikledbflgejaa
open Go.RowKit

section
variable {d : Array Int}
theorem cpI_mem (d : Array Int) (x : Int) : ∀ m, x ∈ Lib.compactUpTo d m ↔ ∃ j, j < m ∧ d[j]! = x
  | 0 => by simp [Lib.compactUpTo]
  | m + 1 => by
    rw [Lib.compactUpTo_succ, List.mem_append, cpI_mem d x m]
    by_cases hk : Lib.keeps d m = true
    · rw [if_pos hk, List.mem_singleton]
      constructor
      · rintro (⟨j, a, b⟩ | rfl)
        · exact ⟨j, by omega, b⟩
        · exact ⟨m, by omega, rfl⟩
      · rintro ⟨j, a, b⟩
        by_cases e : j = m
        · subst e; exact .inr b.symm
        · exact .inl ⟨j, by omega, b⟩
    · rw [if_neg hk]
      constructor
      · rintro (⟨j, a, b⟩ | h)
        · exact ⟨j, by omega, b⟩
        · cases h
      · rintro ⟨j, a, b⟩
        left
        by_cases e : j = m
        · subst e
          have hk' : ¬ (j = 0 ∨ d[j]! ≠ d[j - 1]!) := by simpa [Lib.keeps] using hk
          rw [not_or, Classical.not_not] at hk'
          exact ⟨j - 1, by omega, by rw [← hk'.2]; exact b⟩
        · exact ⟨j, by omega, b⟩
theorem cpI_asc (hs : ∀ i j, i < j → j < d.size → d[i]! ≤ d[j]!) : ∀ m, m ≤ d.size → (Lib.compactUpTo d m).Pairwise (· < ·)
  | 0, _ => by simp [Lib.compactUpTo]
  | m + 1, hm => by
    rw [Lib.compactUpTo_succ]
    have ih := cpI_asc hs m (by omega)
    by_cases hk : Lib.keeps d m = true
    · rw [if_pos hk]
      refine List.pairwise_append.2 ⟨ih, List.pairwise_singleton _ _, fun a ha b hb => ?_⟩
      rw [List.mem_singleton] at hb
      subst hb
      obtain ⟨j, hj, rfl⟩ := (cpI_mem d a m).1 ha
      have hk' : m = 0 ∨ d[m]! ≠ d[m - 1]! := by simpa [Lib.keeps] using hk
      have hne := hk'.resolve_left (by omega)
      have h1 : d[m - 1]! ≤ d[m]! := hs (m - 1) m (by omega) (by omega)
      have h2 : d[m - 1]! < d[m]! := by omega
      by_cases e : j = m - 1
      · rw [e]; exact h2
      · exact Int.lt_of_le_of_lt (hs j (m - 1) (by omega) (by omega)) h2
    · rw [if_neg hk, List.append_nil]
      exact ih
end
theorem sortI_le (ss : List Int) : (ss.mergeSort fun x y => decide (x ≤ y)).Pairwise (· ≤ ·) := by
  have := List.pairwise_mergeSort (le := fun x y : Int => decide (x ≤ y)) (fun a b c h k => by simp only [decide_eq_true_eq] at h k ⊢; exact Int.le_trans h k) (fun a b => by simp only [Bool.or_eq_true, decide_eq_true_eq]; exact Int.le_total a b) ss
  simpa using this
theorem sortI_mem (ss : List Int) (x : Int) : x ∈ (ss.mergeSort fun x y => decide (x ≤ y)) ↔ x ∈ ss := (List.mergeSort_perm ss _).mem_iff
/-- sorted and compacted -/
theorem sortedI_eq {l m : List Int} (hm : AscI m) (h : ∀ x, x ∈ l ↔ x ∈ m) : Lib.compact (l.mergeSort fun x y => decide (x ≤ y)) = m := by
  have hp := sortI_le l
  have hmem := sortI_mem l
  generalize l.mergeSort (fun x y => decide (x ≤ y)) = zs at hp hmem
  have hs : ∀ i j, i < j → j < zs.toArray.size → zs.toArray[i]! ≤ zs.toArray[j]! := by
    intro i j hij hj
    have hj' : j < zs.length := by simpa using hj
    have := List.pairwise_iff_getElem.1 hp i j (by omega) hj' hij
    rw [getElem!_pos _ i (by simp; omega), getElem!_pos _ j (by simp; omega)]
    simpa using this
  have ha := cpI_asc hs zs.length (by simp)
  refine ascI_ext ha hm fun x => ?_
  rw [← h x, ← hmem x]
  show x ∈ Lib.compactUpTo zs.toArray zs.length ↔ _
  rw [cpI_mem]
  constructor
  · rintro ⟨j, hj, rfl⟩
    rw [getElem!_pos _ j (by simpa using hj)]
    simp
  · intro hy
    obtain ⟨j, hj, rfl⟩ := List.mem_iff_getElem.1 hy
    exact ⟨j, hj, by rw [getElem!_pos _ j (by simpa using hj)]; simp⟩

/-! ### a row of one's own under the library's words -/
section
variable {w : World} {B g n cap : Nat} {T : TypeId} {l : List Int}
theorem own_holdsI (h : w.ownsRow B T 1 (.slice (some ⟨g, 0, none⟩) n cap) n (ints l)) : Sort.Holds (Value.int .i64) w g 0 l.toArray := by
  have hl := h.1
  rw [ints_length, Nat.mul_one] at hl
  intro j hj
  have hj' : j < l.length := by simpa using hj
  refine ⟨?_, h.frozenAt _⟩
  rw [Nat.zero_add, h.cellAt j (by omega)]
  simp [ints, hj']
theorem own_ltI (h : w.ownsRow B T 1 (.slice (some ⟨g, 0, none⟩) n cap) n (ints l)) : B ≤ g ∧ g < w.heap.size := h.lt g rfl
theorem own_capI {xs : List Value} (h : w.ownsRow B T 1 (.slice (some ⟨g, 0, none⟩) n cap) n xs) : n ≤ cap := by
  rcases h.2 with ⟨h', _⟩ | ⟨g', cap', cur, h', hb, hg, h1, h2, h3, h4⟩
  · simp at h'
  · injection h' with ha hn hc
    omega
theorem own_putI (h : w.ownsRow B T 1 (.slice (some ⟨g, 0, none⟩) n cap) n (ints l)) (ys : List Int) (hy : ys.length = n) (q : Nat) (os : Array Obj) :
    (Sort.grow (Sort.putRow (Value.int .i64) (Sort.ahead w q) g 0 ys.toArray) os).ownsRow B T 1 (.slice (some ⟨g, 0, none⟩) n cap) n (ints ys) ∧ Below B w (Sort.grow (Sort.putRow (Value.int .i64) (Sort.ahead w q) g 0 ys.toArray) os) := by
  have hl := own_ltI h
  have hsz : (Sort.putRow (Value.int .i64) (Sort.ahead w q) g 0 ys.toArray).heap.size = w.heap.size := by rw [Sort.size_putRow]; rfl
  have hold : ∀ k, k < w.heap.size → (Sort.grow (Sort.putRow (Value.int .i64) (Sort.ahead w q) g 0 ys.toArray) os).heap[k]? = (w.heap.modify g (Sort.onCells (Sort.putCells (Value.int .i64) 0 ys.toArray)))[k]? := by
    intro k hk
    show (_ ++ os)[k]? = _
    rw [Array.getElem?_append_left (by rw [hsz]; exact hk)]
    rfl
  refine ⟨⟨by rw [ints_length]; omega, ?_⟩, ⟨rfl, rfl, rfl, ?_, fun k hk => ?_⟩⟩
  · rcases h.2 with ⟨h', _⟩ | ⟨g', cap', cur, h', hb, hg, h1, h2, h3, h4⟩
    · simp at h'
    · injection h' with ha hn hc
      injection ha with ha
      injection ha with ha
      subst ha; subst hc
      refine .inr ⟨g, cap, Sort.putCells (Value.int .i64) 0 ys.toArray cur, rfl, hb, ?_, h1, h2, ?_, ?_⟩
      · rw [hold g hl.2, Array.getElem?_modify, if_pos rfl, hg]
        rfl
      · simp [Sort.putCells, h3]
      · apply List.ext_getElem?
        intro i
        rw [ints, List.getElem?_take]
        split
        · next hi =>
          have hi' : i < ys.length := by omega
          have hic : i < cur.size := by omega
          simp [Sort.putCells, hi', hic]
        · next hi =>
          rw [List.getElem?_eq_none (by simp; omega)]
  · show w.heap.size ≤ (_ ++ os).size
    rw [Array.size_append, hsz]; omega
  · rw [hold k (by omega), Array.getElem?_modify, if_neg (by omega)]
theorem own_lessI {m : Nat} {xs : List Value} (h : w.ownsRow B T 1 (.slice (some ⟨g, 0, none⟩) n cap) n xs) (hm : m ≤ n) : w.ownsRow B T 1 (.slice (some ⟨g, 0, none⟩) m cap) m (xs.take m) := by
  have hl := h.1
  rcases h.2 with ⟨h', _⟩ | ⟨g', cap', cur, h', hb, hg, h1, h2, h3, h4⟩
  · simp at h'
  · injection h' with ha hn hc
    injection ha with ha
    injection ha with ha
    subst ha; subst hc
    refine ⟨by rw [List.length_take]; omega, .inr ⟨g, cap, cur, rfl, hb, hg, by omega, h2, h3, ?_⟩⟩
    rw [← h4, List.take_take]
    congr 1
    omega
end

set_option maxRecDepth 100000 in
set_option maxHeartbeats 1000000 in
theorem implSortedOnce (l m : List Int) (v : Value) (B : Nat) (w : World) (ho : w.ownsRow B 3 1 v l.length (ints l)) (hl : l.length ≤ 100000) (hm : AscI m) (hmem : ∀ x, x ∈ l ↔ x ∈ m) :
    Calls Try.prog 16 #[v] w fun e w' => ∃ v', e = .returned v' ∧ w'.ownsRow B 3 1 v' m.length (ints m) ∧ Below B w w' := by
  obtain ⟨A, cp, rfl⟩ := own_slice ho
  by_cases h0 : l.length = 0
  · have hl0 : l = [] := List.length_eq_zero_iff.1 h0
    subst hl0
    have hm0 : m = [] := by
      cases m with
      | nil => rfl
      | cons a r => exact absurd ((hmem a).2 (List.mem_cons_self ..)) (by simp)
    subst hm0
    have HO := Lib.hid ho
    clear ho hm hmem
    rw [List.length_nil] at HO ⊢
    have HS := Lib.hid (fun w => Try.slices_Sort_int_none A cp w)
    have HC := Lib.hid (fun w => Try.slices_Compact_int_empty A cp w)
    go_enter Try.func16, Try.ntmps16
    go_wp2_with fail
    refine (HS.out _).mono ?_
    rintro e w' ⟨rfl, rfl⟩
    go_wp2_with fail
    refine (HC.out _).mono ?_
    rintro e w' ⟨rfl, rfl⟩
    go_wp2_with fail
    go_ret
    exact ⟨_, rfl, HO.out, Below.refl _ _⟩
  · obtain ⟨g, cp', hA, _⟩ := own_some ho (by omega)
    injection hA with hA hn hc
    subst hA; subst hc
    have hlt := own_ltI ho
    have hcap := own_capI ho
    have HS := Lib.hid (Try.slices_Sort_int g 0 cp l w (own_holdsI ho) hlt.2 (by omega))
    have HFIN0 : Hid (Lib.compact (l.mergeSort fun x y => decide (x ≤ y)) = m) := sortedI_eq hm hmem
    have HO := Lib.hid ho
    clear ho hm hmem
    go_enter Try.func16, Try.ntmps16
    go_wp2_with fail
    refine HS.out.mono ?_
    rintro e w4 ⟨rfl, q4, os4, rfl⟩
    obtain ⟨zs, hzs⟩ : ∃ zs, l.mergeSort (fun x y => decide (x ≤ y)) = zs := ⟨_, rfl⟩
    have hzl : zs.length = l.length := by rw [← hzs, List.length_mergeSort]
    rw [hzs] at HFIN0 ⊢
    obtain ⟨ho4, hb4⟩ := own_putI HO.out zs hzl q4 os4
    obtain ⟨W4, hW4⟩ : ∃ W4, Sort.grow (Sort.putRow (Value.int .i64) (Sort.ahead w q4) g 0 zs.toArray) os4 = W4 := ⟨_, rfl⟩
    rw [hW4] at ho4 hb4 ⊢
    have HCOM := Try.slices_Compact_int g 0 cp zs W4 (own_holdsI ho4) (by omega) (by omega)
    rw [hzl] at HCOM
    have hcl := Lib.compact_length_le zs
    have HC := Lib.hid HCOM
    have HO4 := Lib.hid ho4
    have HB4 : Hid (Below B w W4) := hb4
    have HFIN : Hid (Lib.compact zs = m) := HFIN0.out
    have HZL := Lib.hid hzl
    have HCL := Lib.hid hcl
    clear HS HO hW4 ho4 hb4 HCOM hzs hzl hcl HFIN0
    generalize Lib.compact zs = cs at HC HFIN HCL
    go_wp2_with fail
    refine HC.out.mono ?_
    rintro e w5 ⟨rfl, q5, rfl⟩
    have hcl := HCL.out
    have hzl := HZL.out
    obtain ⟨ho5, hb5⟩ := own_putI HO4.out (cs ++ List.replicate (l.length - cs.length) 0) (by rw [List.length_append, List.length_replicate]; omega) q5 #[]
    rw [Sort.grow_empty] at ho5 hb5
    obtain ⟨W5, hW5⟩ : ∃ W5, Sort.putRow (Value.int .i64) (Sort.ahead W4 q5) g 0 (cs ++ List.replicate (l.length - cs.length) 0).toArray = W5 := ⟨_, rfl⟩
    rw [hW5] at ho5 hb5 ⊢
    have ho6 := own_lessI ho5 (m := cs.length) (by omega)
    have htk : (ints (cs ++ List.replicate (l.length - cs.length) 0)).take cs.length = ints m := by
      rw [ints, List.map_append, List.take_left' (by simp), HFIN.out]
      rfl
    rw [htk, HFIN.out] at ho6
    have HB5 : Hid (Below B w W5) := HB4.out.trans hb5
    have HO6 := Lib.hid ho6
    rw [HFIN.out]
    clear hW5 ho5 hb5 ho6 htk hcl hzl
    go_wp2_with fail
    go_ret
    exact ⟨_, rfl, HO6.out, HB5.out⟩
end Go.Proofs.Ytiikledbflgejaa

/- The program's ReturnTimes. No condition. -/
namespace Go.Proofs.Ytiikledbflgejaa
open Go.RowKit Go.Lib

theorem rtTo_found (p q a b f : Int) : ∀ (m i k : Nat), i ≤ k → k < i + m → inA p q a b f k = true → (i : Int) ≤ rtTo p q a b f i m ∧ rtTo p q a b f i m ≤ (k : Int)
  | 0, i, k, h1, h2, _ => by omega
  | m + 1, i, k, h1, h2, h3 => by
    cases hc : inA p q a b f i
    · rw [(rt_step p q a b f i m).2 hc]
      have hne : i ≠ k := fun e => by rw [e, h3] at hc; cases hc
      have := rtTo_found p q a b f m (i + 1) k (by omega) (by omega) h3
      omega
    · rw [(rt_step p q a b f i m).1 hc]
      omega
theorem rtTo_none (p q a b f : Int) (h : ∀ k : Nat, inA p q a b f k = false) : ∀ (m i : Nat), rtTo p q a b f i m = -1
  | 0, _ => rfl
  | m + 1, i => by rw [(rt_step p q a b f i m).2 (h i)]; exact rtTo_none p q a b f h m (i + 1)
theorem ar_parts {p q a b : Int} (h : arOk p q a b = true) : (1 ≤ q ∧ q ≤ 1000) ∧ (0 ≤ p ∧ p ≤ q - 1) ∧ (0 ≤ a ∧ a ≤ q - 1) ∧ (0 ≤ b ∧ b ≤ q - 1) := by
  unfold arOk at h
  simp only [Bool.and_eq_true, decide_eq_true_eq] at h
  exact h
theorem rt_pos {p q a b f : Int} (h : arOk p q a b = true) (h1 : a ≤ f) (h2 : f ≤ b) : 1 ≤ rtT p q a b f ∧ rtT p q a b f ≤ 1000 := by
  obtain ⟨hq, hp, ha, hb⟩ := ar_parts h
  have hok : rtOkF p q a b f = true := by unfold rtOkF; rw [h]; simp; omega
  have hv : rtT p q a b f = rtTo p q a b f 1 1000 := if_pos hok
  rw [hv]
  have hin : inA p q a b f q.toNat = true := by
    have e : (f + ((q.toNat : Nat) : Int) * p) % q = f := by
      rw [Int.toNat_of_nonneg (by omega), Int.mul_comm, Int.add_mul_emod_self_right]
      exact Int.emod_eq_of_lt (by omega) (by omega)
    unfold inA
    rw [e]
    simp
    omega
  have := rtTo_found p q a b f 1000 1 q.toNat (by omega) (by omega) hin
  omega
theorem rt_neg {p q a b : Int} (h : (arOk p q a b && decide (a ≤ b)) = false) : rtT p q a b a = -1 := by
  cases h1 : arOk p q a b
  · exact if_neg (by unfold rtOkF; rw [h1, Bool.false_and]; simp)
  · rw [h1, Bool.true_and, decide_eq_false_iff_not] at h
    unfold rtT
    split
    · refine rtTo_none p q a b a (fun k => ?_) _ _
      unfold inA
      simp
      omega
    · rfl
/-- the times from k places, in their order -/
def rtL (p q a b : Int) : Nat → List Int
  | 0 => []
  | k + 1 => rtL p q a b k ++ [rtT p q a b (a + (k : Int))]
theorem rtL_len (p q a b : Int) : ∀ k, (rtL p q a b k).length = k
  | 0 => rfl
  | k + 1 => by unfold rtL; rw [List.length_append, rtL_len p q a b k]; rfl
theorem rtL_mem {p q a b : Int} (h : arOk p q a b = true) (x : Int) : ∀ k : Nat, a + (k : Int) ≤ b + 1 → (x ∈ rtL p q a b k ↔ x ∈ rsTo p q a b k)
  | 0, _ => Iff.rfl
  | k + 1, hk => by
    have ih := rtL_mem h x k (by omega)
    have hp := rt_pos (f := a + (k : Int)) h (by omega) (by omega)
    have e : rsTo p q a b (k + 1) = inI (rsTo p q a b k) (rtT p q a b (a + (k : Int))) := if_pos (by omega)
    rw [e, inI_mem, ← ih]
    show x ∈ rtL p q a b k ++ _ ↔ _
    rw [List.mem_append, List.mem_singleton]
    exact or_comm

set_option maxRecDepth 100000 in
set_option maxHeartbeats 1000000 in
theorem implReturnTimes (p q a b : Int) (w : World) :
    Calls Try.prog 11 #[.int .i64 p, .int .i64 q, .int .i64 a, .int .i64 b] w fun e w' => ∃ v, e = .returned v ∧ w'.ownsRow w.heap.size 3 1 v (rsR p q a b).length (ints (rsR p q a b)) ∧ Below w.heap.size w w' := by
  obtain ⟨i0, hi0, hz0, hz1, hz2⟩ := info_parts int_info
  have HRT := Lib.hid (fun f w => implReturnTime p q a b f w)
  have hnil : ∀ (w' : World), w'.ownsRow w.heap.size 3 1 (.slice none 0 0) 0 [] := fun w' => ⟨rfl, .inl ⟨rfl, rfl⟩⟩
  cases hok : (arOk p q a b && decide (a ≤ b))
  · have HV : Hid (rsR p q a b = []) := if_neg (by rw [hok]; simp)
    have HN := Lib.hid (rt_neg hok)
    clear hok
    generalize rsR p q a b = R at *
    obtain rfl : R = [] := HV.out
    go_enter Try.func11, Try.ntmps11
    go_wp2_with fail
    refine (HRT.out _ _).mono ?_
    rintro e w1 ⟨rfl, hb⟩
    rw [HN.out]
    go_wp2_with fail
    go_ret
    exact ⟨_, rfl, hnil _, hb⟩
  · have HV : Hid (rsR p q a b = rsTo p q a b (b - a + 1).toNat) := if_pos hok
    rw [Bool.and_eq_true, decide_eq_true_eq] at hok
    obtain ⟨hok, hab⟩ := hok
    obtain ⟨hq, hp, ha, hb⟩ := ar_parts hok
    have HP := Lib.hid (fun f => rt_pos (f := f) hok)
    have HM : Hid (∀ x, x ∈ rtL p q a b (b - a + 1).toNat ↔ x ∈ rsR p q a b) := fun x => by rw [HV.out]; exact rtL_mem hok x _ (by omega)
    have HA : Hid (AscI (rsR p q a b)) := by show AscI _; rw [HV.out]; exact rsTo_asc _ _ _ _ _
    obtain ⟨K, hK⟩ : ∃ K, K = (b - a + 1).toNat := ⟨_, rfl⟩
    rw [← hK] at HM
    have hKb : b + 1 - a = (K : Int) := by omega
    have hK1 : K ≤ 1000 := by omega
    have HL := Lib.hid (rtL_len p q a b)
    have HN : Hid (∀ k, rtL p q a b (k + 1) = rtL p q a b k ++ [rtT p q a b (a + (k : Int))]) := fun k => rfl
    have H0 : Hid (rtL p q a b 0 = []) := rfl
    have HSO := Lib.hid (implSortedOnce (rtL p q a b K) (rsR p q a b))
    have ha1 := HP.out a (Int.le_refl _) hab
    clear hok HV hK
    generalize rsR p q a b = R at *
    generalize rtL p q a b = T at *
    generalize rtT p q a b = F at *
    go_enter Try.func11, Try.ntmps11
    go_wp2_with fail
    refine (HRT.out _ _).mono ?_
    rintro e w1 ⟨rfl, hb1⟩
    have HB1 := Lib.hid hb1
    have hsz1 := hb1.size
    have hne : ¬ F a = -1 := by omega
    have hbe : (F a == -1) = false := by simpa using hne
    clear hb1
    go_wp2_with fail
    clear hbe
    go_loopw [9, 10] (fun lv iv w' => ∃ k : Nat, k ≤ K ∧ iv = .int .i64 (a + (k : Int)) ∧ (∃ A cp, lv = .slice A k cp) ∧ w'.ownsRow w1.heap.size 3 1 lv k (ints (T k)) ∧ Below w1.heap.size w1 w') (fun _ iv _ => K - (RowKit.intOf iv - a).toNat)
    case atStart =>
      refine ⟨0, Nat.zero_le _, by go_num, ⟨_, _, rfl⟩, ?_, Below.refl _ _⟩
      rw [H0.out]
      exact ⟨rfl, .inl ⟨rfl, rfl⟩⟩
    case round =>
      obtain ⟨k, hk, rfl, ⟨A3, cp3, rfl⟩, ho3, hb3⟩ := hrel
      have HO3 := Lib.hid ho3
      have HB3 := Lib.hid hb3
      have hbz := hb3.size
      clear ho3 hb3
      by_cases hlt : k < K
      · have hlt' : a + (k : Int) ≤ b := by omega
        have hx := HP.out (a + (k : Int)) (by omega) (by omega)
        have HN1 := Lib.hid (HN.out k)
        have HRK := Lib.hid (HRT.out (a + (k : Int)))
        generalize F (a + (k : Int)) = x at *
        go_wp2_with fail
        refine (HRK.out _).mono ?_
        rintro e w4 ⟨rfl, hb4⟩
        have HB4 : Hid (Below w1.heap.size w1 w4) := HB3.out.trans (hb4.mono hbz)
        have HO4 := Lib.hid (own_below HO3.out hb4)
        have hsz4 := HB4.out.size
        clear hb4
        go_wp2_with (at_builtin
                     refine wpList_append1 _ rfl (.tmp 24) (.tmp 31) _ rfl w1.heap.size 3 i0 _ 8 Try.underlying24 hi0 hz0 hz1 hz2 rfl (.slice A3 k cp3) k (ints (T k)) rfl HO4.out (.int .i64 x) rfl rfl (by unfold maxLen; omega) (by omega) hsz4 ?_
                     intro v' w5 hown5 hbel5)
        have ho5 : w5.ownsRow w1.heap.size 3 1 v' (k + 1) (ints (T (k + 1))) := by rw [HN1.out, ints_snoc]; exact hown5
        obtain ⟨A5, cp5, rfl⟩ := own_slice ho5
        go_roundw
        case rel => exact ⟨k + 1, by omega, by go_num, ⟨A5, cp5, rfl⟩, ho5, HB4.out.trans hbel5⟩
        case measure => simp [RowKit.intOf]; omega
      · have hkK : k = K := by omega
        subst hkK
        have hlt' : ¬ a + (k : Int) ≤ b := by omega
        have hSO := Lib.hid (HSO.out (.slice A3 k cp3) w1.heap.size wr (by rw [HL.out]; exact HO3.out) (by rw [HL.out]; omega) HA.out HM.out)
        go_wp2_with fail
        refine hSO.out.mono ?_
        rintro e w6 ⟨v6, rfl, ho6, hb6⟩
        have HO6 := Lib.hid (own_mono ho6 hsz1)
        have HB6 : Hid (Below w.heap.size w w6) := HB1.out.trans ((HB3.out.trans hb6).mono hsz1)
        obtain ⟨A6, cp6, rfl⟩ := own_slice ho6
        clear ho6 hb6
        go_wp2_with fail
        go_ret
        exact ⟨_, rfl, HO6.out, HB6.out⟩
end Go.Proofs.Ytiikledbflgejaa
