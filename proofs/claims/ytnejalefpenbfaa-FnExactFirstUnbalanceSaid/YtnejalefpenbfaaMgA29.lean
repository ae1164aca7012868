/- Texts put together. -/
import Derived.Test.YtnejalefpenbfaaMgA7
import Derived.Test.YtnejalefpenbfaaMgA1
import Derived.Test.YtnejalefpenbfaaMgA16
import Derived.Lib.SlicesCompact
import Derived.Test.YtnejalefpenbfaaMgA25
import Derived.Test.YtnejalefpenbfaaMgA2
import Derived.Test.YtnejalefpenbfaaMgA28
import Derived.Test.YtnejalefpenbfaaMgA9
import Derived.Test.YtnejalefpenbfaaMgA15
/- A list of texts, sorted and with neighbors that are equal struck out, is the ascending list of its texts, each once; a row of texts turned by the library's two. -/
namespace Go.Proofs.Ytnejalefpenbfaa
open Go.RowKit

abbrev toBA (l : List UInt8) : ByteArray := ⟨l.toArray⟩
theorem less_lt (a b : ByteArray) : lessB a b = true ↔ a.data.toList < b.data.toList := by
  unfold lessB
  rw [bytesLess_eq, ByteArray.toList_eq, ByteArray.toList_eq, decide_eq_true_eq]
theorem lt_ne {a b : List UInt8} (h : a ≤ b) (hne : a ≠ b) : a < b := by
  rcases bl_tri a b with k | k | k
  · rwa [bytesLess_eq, decide_eq_true_eq] at k
  · exact absurd k hne
  · rw [bytesLess_eq, decide_eq_true_eq] at k
    exact absurd k (List.not_lt.2 h)
theorem cells_map (ys : List (List UInt8)) : ys.map encStr = strs (ys.map toBA) := by
  unfold strs
  rw [List.map_map]
  rfl

/-! ### the library's Compact of an ascending list -/
section
variable {d : Array (List UInt8)}
theorem cp_mem (d : Array (List UInt8)) (x : List UInt8) : ∀ m, x ∈ Lib.compactUpTo d m ↔ ∃ j, j < m ∧ d[j]! = x
  | 0 => by simp [Lib.compactUpTo]
  | m + 1 => by
    rw [Lib.compactUpTo_succ, List.mem_append, cp_mem d x m]
    by_cases hk : Lib.keeps d m = true
    · rw [if_pos hk, List.mem_singleton]
      constructor
      · rintro (⟨j, a, b⟩ | rfl)
        · exact ⟨j, by omega, b⟩
        · exact ⟨m, by omega, rfl⟩
      · rintro ⟨j, a, b⟩
        by_cases e : j = m
        · subst e; exact .inr b.symm
        · exact .inl ⟨j, by omega, b⟩
    · rw [if_neg hk]
      constructor
      · rintro (⟨j, a, b⟩ | h)
        · exact ⟨j, by omega, b⟩
        · cases h
      · rintro ⟨j, a, b⟩
        left
        by_cases e : j = m
        · subst e
          have hk' : ¬ (j = 0 ∨ d[j]! ≠ d[j - 1]!) := by simpa [Lib.keeps] using hk
          rw [not_or, Classical.not_not] at hk'
          exact ⟨j - 1, by omega, by rw [← hk'.2]; exact b⟩
        · exact ⟨j, by omega, b⟩
theorem cp_asc (hs : ∀ i j, i < j → j < d.size → d[i]! ≤ d[j]!) : ∀ m, m ≤ d.size → (Lib.compactUpTo d m).Pairwise (· < ·)
  | 0, _ => by simp [Lib.compactUpTo]
  | m + 1, hm => by
    rw [Lib.compactUpTo_succ]
    have ih := cp_asc hs m (by omega)
    by_cases hk : Lib.keeps d m = true
    · rw [if_pos hk]
      refine List.pairwise_append.2 ⟨ih, List.pairwise_singleton _ _, fun a ha b hb => ?_⟩
      rw [List.mem_singleton] at hb
      subst hb
      obtain ⟨j, hj, rfl⟩ := (cp_mem d a m).1 ha
      have hk' : m = 0 ∨ d[m]! ≠ d[m - 1]! := by simpa [Lib.keeps] using hk
      have hne := hk'.resolve_left (by omega)
      have h1 : d[m - 1]! ≤ d[m]! := hs (m - 1) m (by omega) (by omega)
      have h2 : d[m - 1]! < d[m]! := lt_ne h1 (Ne.symm hne)
      by_cases e : j = m - 1
      · rw [e]; exact h2
      · exact List.lt_of_le_of_lt (hs j (m - 1) (by omega) (by omega)) h2
    · rw [if_neg hk, List.append_nil]
      exact ih
end
theorem sort_le (ss : List (List UInt8)) : (ss.mergeSort fun x y => decide (x ≤ y)).Pairwise (· ≤ ·) := by
  have := List.pairwise_mergeSort (le := fun x y : List UInt8 => decide (x ≤ y)) (fun a b c h k => by simp only [decide_eq_true_eq] at h k ⊢; exact List.le_trans h k) (fun a b => by simp only [Bool.or_eq_true, decide_eq_true_eq]; exact List.le_total a b) ss
  simpa using this
theorem sort_mem (ss : List (List UInt8)) (x : List UInt8) : x ∈ (ss.mergeSort fun x y => decide (x ≤ y)) ↔ x ∈ ss := (List.mergeSort_perm ss _).mem_iff
/-- sorted and compacted -/
theorem sorted_eq {l m : List ByteArray} (hm : Asc m) (h : ∀ x, x ∈ l ↔ x ∈ m) : (Lib.compact ((l.map (·.data.toList)).mergeSort fun x y => decide (x ≤ y))).map toBA = m := by
  have hp := sort_le (l.map (·.data.toList))
  have hmem := sort_mem (l.map (·.data.toList))
  generalize (l.map (·.data.toList)).mergeSort (fun x y => decide (x ≤ y)) = zs at hp hmem
  have hs : ∀ i j, i < j → j < zs.toArray.size → zs.toArray[i]! ≤ zs.toArray[j]! := by
    intro i j hij hj
    have hj' : j < zs.length := by simpa using hj
    have := List.pairwise_iff_getElem.1 hp i j (by omega) hj' hij
    rw [getElem!_pos _ i (by simp; omega), getElem!_pos _ j (by simp; omega)]
    simpa using this
  have ha := cp_asc hs zs.length (by simp)
  refine asc_ext ?_ hm fun x => ?_
  · refine List.pairwise_map.2 (ha.imp fun {a b} h => ?_)
    exact (less_lt _ _).2 (by simpa using h)
  · rw [← h x, List.mem_map]
    have key : ∀ y : List UInt8, y ∈ Lib.compact zs ↔ y ∈ zs := by
      intro y
      unfold Lib.compact
      rw [cp_mem]
      constructor
      · rintro ⟨j, hj, rfl⟩
        rw [getElem!_pos _ j (by simpa using hj)]
        simp
      · intro hy
        obtain ⟨j, hj, rfl⟩ := List.mem_iff_getElem.1 hy
        exact ⟨j, hj, by rw [getElem!_pos _ j (by simpa using hj)]; simp⟩
    constructor
    · rintro ⟨y, hy, rfl⟩
      rw [key, hmem, List.mem_map] at hy
      obtain ⟨z, hz, rfl⟩ := hy
      exact hz
    · intro hx
      exact ⟨x.data.toList, by rw [key, hmem, List.mem_map]; exact ⟨x, hx, rfl⟩, rfl⟩

/-! ### a row of one's own under the library's words -/
section
variable {w : World} {B g n cap : Nat} {T : TypeId} {l : List ByteArray}
theorem own_holds (h : w.ownsRow B T 1 (.slice (some ⟨g, 0, none⟩) n cap) n (strs l)) : Sort.Holds encStr w g 0 (l.map (·.data.toList)).toArray := by
  have hl := h.1
  rw [strs_length, Nat.mul_one] at hl
  intro j hj
  have hj' : j < l.length := by simpa using hj
  refine ⟨?_, h.frozenAt _⟩
  rw [Nat.zero_add, h.cellAt j (by omega)]
  simp [strs, hj', encStr]
theorem own_lt (h : w.ownsRow B T 1 (.slice (some ⟨g, 0, none⟩) n cap) n (strs l)) : B ≤ g ∧ g < w.heap.size := h.lt g rfl
theorem own_put (h : w.ownsRow B T 1 (.slice (some ⟨g, 0, none⟩) n cap) n (strs l)) (ys : List (List UInt8)) (hy : ys.length = n) (q : Nat) (os : Array Obj) :
    (Sort.grow (Sort.putRow encStr (Sort.ahead w q) g 0 ys.toArray) os).ownsRow B T 1 (.slice (some ⟨g, 0, none⟩) n cap) n (strs (ys.map toBA)) ∧ Below B w (Sort.grow (Sort.putRow encStr (Sort.ahead w q) g 0 ys.toArray) os) := by
  have hl := own_lt h
  have hsz : (Sort.putRow encStr (Sort.ahead w q) g 0 ys.toArray).heap.size = w.heap.size := by rw [Sort.size_putRow]; rfl
  have hold : ∀ k, k < w.heap.size → (Sort.grow (Sort.putRow encStr (Sort.ahead w q) g 0 ys.toArray) os).heap[k]? = (w.heap.modify g (Sort.onCells (Sort.putCells encStr 0 ys.toArray)))[k]? := by
    intro k hk
    show (_ ++ os)[k]? = _
    rw [Array.getElem?_append_left (by rw [hsz]; exact hk)]
    rfl
  refine ⟨⟨by rw [strs_length, List.length_map]; omega, ?_⟩, ⟨rfl, rfl, rfl, ?_, fun k hk => ?_⟩⟩
  · rcases h.2 with ⟨h', _⟩ | ⟨g', cap', cur, h', hb, hg, h1, h2, h3, h4⟩
    · simp at h'
    · injection h' with ha hn hc
      injection ha with ha
      injection ha with ha
      subst ha; subst hc
      refine .inr ⟨g, cap, Sort.putCells encStr 0 ys.toArray cur, rfl, hb, ?_, h1, h2, ?_, ?_⟩
      · rw [hold g hl.2, Array.getElem?_modify, if_pos rfl, hg]
        rfl
      · simp [Sort.putCells, h3]
      · apply List.ext_getElem?
        intro i
        rw [← cells_map, List.getElem?_take]
        split
        · next hi =>
          have hi' : i < ys.length := by omega
          have hic : i < cur.size := by omega
          simp [Sort.putCells, hi', hic]
        · next hi =>
          rw [List.getElem?_eq_none (by simp; omega)]
  · show w.heap.size ≤ (_ ++ os).size
    rw [Array.size_append, hsz]; omega
  · rw [hold k (by omega), Array.getElem?_modify, if_neg (by omega)]
theorem own_less {m : Nat} {xs : List Value} (h : w.ownsRow B T 1 (.slice (some ⟨g, 0, none⟩) n cap) n xs) (hm : m ≤ n) : w.ownsRow B T 1 (.slice (some ⟨g, 0, none⟩) m cap) m (xs.take m) := by
  have hl := h.1
  rcases h.2 with ⟨h', _⟩ | ⟨g', cap', cur, h', hb, hg, h1, h2, h3, h4⟩
  · simp at h'
  · injection h' with ha hn hc
    injection ha with ha
    injection ha with ha
    subst ha; subst hc
    refine ⟨by rw [List.length_take]; omega, .inr ⟨g, cap, cur, rfl, hb, hg, by omega, h2, h3, ?_⟩⟩
    rw [← h4, List.take_take]
    congr 1
    omega
end
end Go.Proofs.Ytnejalefpenbfaa

/- The texts of a set of factors, ascending, each once. Condition: the set has at most 400 keys. -/
namespace Go.Proofs.Ytnejalefpenbfaa
open Go.RowKit

/-- what has been collected: the texts of the keys that are no longer to come -/
def Got (L M : List FK) (xs : List ByteArray) : Prop := xs.length + M.length = L.length ∧ ∀ x, x ∈ xs ↔ ∃ p ∈ L, p ∉ M ∧ p.1 = x
theorem got_start (L : List FK) : Got L L [] := ⟨by simp, fun x => by simp; intro p z hp hn; exact absurd hp hn⟩
theorem got_step {L M M' : List FK} {xs : List ByteArray} {p : FK} (h : Got L M xs) (hp : p ∈ L) (hpM : p ∈ M) (hM : Dels M' M p) (hl : M'.length + 1 = M.length) : Got L M' (xs ++ [p.1]) := by
  refine ⟨by have := h.1; simp; omega, fun x => ?_⟩
  rw [List.mem_append, h.2, List.mem_singleton]
  constructor
  · rintro (⟨q, hq, hn, e⟩ | e)
    · exact ⟨q, hq, fun hh => hn ((hM q).1 hh).1, e⟩
    · exact ⟨p, hp, fun hh => ((hM p).1 hh).2 rfl, e.symm⟩
  · rintro ⟨q, hq, hn, e⟩
    by_cases hqp : q = p
    · subst hqp; exact .inr e.symm
    · exact .inl ⟨q, hq, fun hh => hn ((hM q).2 ⟨hh, hqp⟩), e⟩
theorem got_end {L : List FK} {xs : List ByteArray} (h : Got L [] xs) : xs.length = L.length ∧ ∀ x, x ∈ xs ↔ ∃ z, (x, z) ∈ L := by
  refine ⟨by have := h.1; simpa using this, fun x => ?_⟩
  rw [h.2]
  constructor
  · rintro ⟨p, hp, _, rfl⟩
    exact ⟨p.2, hp⟩
  · rintro ⟨z, hz⟩
    exact ⟨_, hz, by simp, rfl⟩

set_option maxRecDepth 100000 in
set_option maxHeartbeats 1000000 in
theorem implSorted (L : List FK) (b : Nat) (m : List ByteArray) (w : World) (h : FSet w b L) (hl : L.length ≤ 400) (hm : Asc m) (hmem : ∀ x, x ∈ m ↔ ∃ z, (x, z) ∈ L) :
    Calls Try.prog 53 #[.map (some b)] w fun e w' => ∃ v, e = .returned v ∧ w'.ownsRow w.heap.size 9 1 v m.length (strs m) ∧ Below w.heap.size w w' := by
  obtain ⟨i0, hi0, hz0, hz1, hz2⟩ := info_parts str_info
  have HF := Lib.hid h
  have HM := Lib.hid hm
  have HMEM := Lib.hid hmem
  clear h hm hmem
  go_enter Try.func53, Try.ntmps53
  go_wp2_with (first
    | (at_len; refine wp_mapLen _ rfl _ tSet rfl uSet b L _ rfl HF.out ?_)
    | (at_make; refine wpList_make_own _ rfl _ _ 50 rfl w.heap.size 9 i0 (.string ⟨#[]⟩) 1 Try.underlying50 hi0 hz0 hz1 .i64 .i64 _ L.length rfl rfl rfl (by rw [hz2]; omega) (by unfold maxLen; omega) (Nat.le_refl _) ?_; intro w1 ho1 hg1)
    | (at_range; refine wp_range _ rfl _ tSet rfl fk_law uSet b L _ rfl (HF.out.kept hg1 (by simp)) ?_; intro w2 hF2 hg2 hs2))
  go_frame
  have hb1 : Below w.heap.size w w1 := (Below.refl _ _).grown hg1 (Nat.le_refl _) (fun k hk => by cases hk)
  have hb2 : Below w.heap.size w w2 := hb1.grown hg2 hb1.size (fun k hk => by cases hk)
  have ho2 := own_apart ho1 hg2 (fun k _ hk => by cases hk)
  have hlt1 := (ho1.lt _ rfl).2
  have HF2 := Lib.hid hF2
  have HB2 := Lib.hid hb2
  have HO2 := Lib.hid ho2
  have HGS := Lib.hid (got_start L)
  have hbw := HF.out.lt
  clear hF2 hb1 hb2 ho2 ho1 hg1 hg2
  go_loopw [3] (fun o w' => ∃ M xs, FRange Try.prog fK 4 w' b w1.heap.size L (fun _ => .bool true) M ∧ Got L M xs ∧ o = .slice (some ⟨w.heap.size, 0, none⟩) xs.length L.length ∧ w'.ownsRow w.heap.size 9 1 o xs.length (strs xs) ∧ Below w.heap.size w w') (fun _ w' => w'.rangeLeft b w1.heap.size)
  case atStart => exact ⟨L, [], HF2.out, HGS.out, rfl, HO2.out, HB2.out⟩
  case round =>
    obtain ⟨M, xs, hF, hG, rfl, ho, hb⟩ := hrel
    have HFR := Lib.hid hF
    have HG := Lib.hid hG
    have HO := Lib.hid ho
    have HB := Lib.hid hb
    clear hF hG ho hb HO2 HB2 HF2
    go_wp2_with (at_next; refine wp_step _ rfl _ rfl fT fk_law b w1.heap.size L _ M rfl HFR.out (fun _ => .bool true) vv_bool ?_ ?_)
    · intro hM0
      subst hM0
      obtain ⟨hxl, hxm⟩ := got_end HG.out
      have hlt3 := own_lt HO.out
      have hss : (xs.map (·.data.toList)).length = xs.length := by rw [List.length_map]
      have HSORT := (Try.slices_Sort_string w.heap.size 0 L.length (xs.map (·.data.toList)) wr (own_holds HO.out) hlt3.2 (by omega))
      rw [hss] at HSORT
      have HS := Lib.hid HSORT
      have HHS := Lib.hid hss
      have HFIN0 : Hid ((Lib.compact ((xs.map (·.data.toList)).mergeSort fun x y => decide (x ≤ y))).map toBA = m) := sorted_eq HM.out (fun x => by rw [hxm, HMEM.out])
      have hx4 : xs.length ≤ 400 := by omega
      have hxL : xs.length ≤ L.length := by omega
      clear HSORT hss hxm hxl HG
      go_wp2_with fail
      refine HS.out.mono ?_
      rintro e w4 ⟨rfl, q4, os4, rfl⟩
      obtain ⟨zs, hzs⟩ : ∃ zs, (xs.map (·.data.toList)).mergeSort (fun x y => decide (x ≤ y)) = zs := ⟨_, rfl⟩
      have hzl : zs.length = xs.length := by rw [← hzs, List.length_mergeSort, HHS.out]
      rw [hzs] at HFIN0 ⊢
      obtain ⟨ho4, hb4⟩ := own_put HO.out zs hzl q4 os4
      obtain ⟨W4, hW4⟩ : ∃ W4, Sort.grow (Sort.putRow encStr (Sort.ahead wr q4) w.heap.size 0 zs.toArray) os4 = W4 := ⟨_, rfl⟩
      rw [hW4] at ho4 hb4 ⊢
      have hzz : (zs.map toBA).map (·.data.toList) = zs := by
        rw [List.map_map]
        exact List.map_id' zs
      have hH4 := own_holds ho4
      rw [hzz] at hH4
      have HCOM := Try.slices_Compact_string w.heap.size 0 L.length zs W4 hH4 (by omega) (by omega)
      rw [hzl] at HCOM
      have hcl := Lib.compact_length_le zs
      have HC := Lib.hid HCOM
      have HO4 := Lib.hid ho4
      have HB4 : Hid (Below w.heap.size w W4) := HB.out.trans hb4
      have HFIN : Hid ((Lib.compact zs).map toBA = m) := HFIN0.out
      have HZL := Lib.hid hzl
      have HCL := Lib.hid hcl
      clear hW4 ho4 hb4 hzz hH4 HCOM hzs hzl hcl HFIN0
      generalize Lib.compact zs = cs at HC HFIN HCL
      go_wp2_with fail
      refine HC.out.mono ?_
      rintro e w5 ⟨rfl, q5, rfl⟩
      have hcl := HCL.out
      have hzl := HZL.out
      obtain ⟨ho5, hb5⟩ := own_put HO4.out (cs ++ List.replicate (xs.length - cs.length) []) (by rw [List.length_append, List.length_replicate]; omega) q5 #[]
      rw [Sort.grow_empty] at ho5 hb5
      obtain ⟨W5, hW5⟩ : ∃ W5, Sort.putRow encStr (Sort.ahead W4 q5) w.heap.size 0 (cs ++ List.replicate (xs.length - cs.length) []).toArray = W5 := ⟨_, rfl⟩
      rw [hW5] at ho5 hb5 ⊢
      have ho6 := own_less ho5 (m := cs.length) (by omega)
      have htk : (strs ((cs ++ List.replicate (xs.length - cs.length) []).map toBA)).take cs.length = strs m := by
        rw [List.map_append, strs, List.map_append, List.take_left' (by simp), HFIN.out]
        rfl
      rw [htk] at ho6
      have hlen : cs.length = m.length := by rw [← HFIN.out, List.length_map]
      rw [hlen] at ho6
      have HB5 : Hid (Below w.heap.size w W5) := HB4.out.trans hb5
      have HO6 := Lib.hid ho6
      rw [hlen]
      clear hW5 ho5 hb5 ho6 htk hlen hcl hzl
      go_wp2_with fail
      go_ret
      exact ⟨_, rfl, HO6.out, HB5.out⟩
    · intro f z M' w3 hp hM' hl' hF3 hlt hg3 hs3 hen
      have HF3 := Lib.hid hF3
      have HM' := Lib.hid hM'
      have hpL := HFR.out.sub _ hp
      have hlen : xs.length + 1 ≤ L.length := by have := HG.out.1; omega
      have HG2 := Lib.hid (got_step HG.out hpL hp hM' hl')
      have hb3 : Below w.heap.size w w3 := HB.out.grown hg3 HB.out.size (fun k hk => by injection hk with hk; omega)
      have ho3 := (own_apart HO.out hg3 (fun k h1 h2 => by have e1 : w.heap.size = k := Option.some.inj h1; have e2 : w1.heap.size = k := Option.some.inj h2; omega))
      have ho4 := (ho3.alloc (.cells #[.string f, .int .u8 z] 63)).alloc (.cells #[.string f] 9)
      have hc4 : ∀ (j : Nat) u, [Value.string f][j]? = some u → ((w3.alloc (.cells #[.string f, .int .u8 z] 63)).alloc (.cells #[.string f] 9)).cell? ((⟨wr.heap.size + 1, 0, none⟩ : Addr).add j) = some u := by
        intro j u hu
        rcases j with _ | j
        · simp at hu
          subst hu
          rw [Addr.add_lit, World.cell?_alloc_at _ _ _ _ (by simp [hs3])]
          rfl
        · simp at hu
      have HO4 := Lib.hid ho4
      have HC4 := Lib.hid hc4
      have HB3 := Lib.hid hb3
      have HLT := Lib.hid hlt
      clear hF3 hM' hg3 hb3 ho3 ho4 hc4 hlt HG hp hpL
      go_wp2_with (at_builtin
                   refine wpList_append_fits _ rfl (.tmp 14) (.tmp 17) _ rfl w.heap.size 9 i0 1 Try.underlying50 hi0 hz1 w.heap.size xs.length L.length (strs xs) rfl HO4.out ⟨wr.heap.size + 1, 0, none⟩ 1 1 [.string f] rfl rfl HC4.out (by intro u hu; simp at hu; subst hu; rfl) (by omega) ?_
                   intro w5 ho5 hg5)
      go_roundw
      case rel =>
        refine ⟨M', xs ++ [f], ((HF3.out.alloc _).alloc _).kept hg5 (by simp; omega) (by simp; omega), HG2.out, ?_, ?_, ?_⟩
        · simp
        · rw [strs_snoc, List.length_append]; exact ho5
        · exact ((HB3.out.alloc HB3.out.size _).alloc (by simp; have := HB3.out.size; omega) _).grown hg5 (by simp; have := HB3.out.size; omega) (fun k hk => by injection hk with hk; omega)
      case measure =>
        rw [rangeLeft_kept ((HF3.out.alloc _).alloc _) hg5 (by simp; omega) (by simp; omega), rangeLeft_kept (HF3.out.alloc _) (World.grownBy_alloc _ _ none) (by simp) (by simp), rangeLeft_kept HF3.out (World.grownBy_alloc _ _ none) (by simp) (by simp)]
        exact HLT.out
end Go.Proofs.Ytnejalefpenbfaa

/- The program's FactorsOf, ComplexityOf, FollowersOf, LeadersOf, RightSpecial, LeftSpecial. Conditions: lengths of at most 2^20. -/
namespace Go.Proofs.Ytnejalefpenbfaa
open Go.RowKit

theorem fct_ok {s : ByteArray} {n : Int} (h : fctOk s n = true) : s.size ≤ 400 ∧ 1 ≤ n ∧ n ≤ 400 := by
  unfold fctOk at h
  simp only [Bool.and_eq_true, decide_eq_true_eq] at h
  exact ⟨word_size h.1, h.2⟩

set_option maxHeartbeats 400000 in
theorem implFactorsOf (s : ByteArray) (n : Int) (w : World) (hs : s.size ≤ 1048576) :
    Calls Try.prog 43 #[.string s, .int .i64 n] w fun e w' => ∃ v, e = .returned v ∧ w'.ownsRow w.heap.size 9 1 v (fctR s n).length (strs (fctR s n)) ∧ Below w.heap.size w w' := by
  cases hok : fctOk s n
  · have HV : Hid (fctR s n = []) := by show fctR s n = []; unfold fctR; rw [hok]; rfl
    have HOK := Lib.hid hok
    clear hok
    go_enter Try.func43, Try.ntmps43
    go_wp2_with fail
    refine (implCanHave s n _ hs).mono ?_
    rintro e w1 ⟨rfl, hb1⟩
    have HB := Lib.hid hb1
    rw [HOK.out]
    clear hb1
    go_wp2_with fail
    go_ret
    refine ⟨_, rfl, ?_, HB.out⟩
    rw [HV.out]
    exact World.ownsRow_nil _ _ _ _
  · obtain ⟨h4, h1, h2⟩ := fct_ok hok
    obtain ⟨m, rfl⟩ : ∃ m : Nat, n = m := ⟨n.toNat, by omega⟩
    have HV : Hid (fctR s m = fctL s m) := if_pos hok
    have HOK := Lib.hid hok
    have HF := Lib.hid (fun w => implFactors s m w h4 (by omega) (by omega))
    clear hok
    go_enter Try.func43, Try.ntmps43
    go_wp2_with fail
    refine (implCanHave s m _ hs).mono ?_
    rintro e w1 ⟨rfl, hb1⟩
    have HB := Lib.hid hb1
    rw [HOK.out]
    clear hb1
    go_wp2_with fail
    refine (HF.out _).mono ?_
    rintro e w2 ⟨L, rfl, hF, hL, hl, hb⟩
    have HB2 : Hid (Below w.heap.size w w2) := HB.out.trans (hb.mono HB.out.size)
    have HS := Lib.hid (implSorted L w1.heap.size (fctL s m) w2 hF hl (facTo_asc _ _ _) (facS_mem hL))
    clear hF hL hl hb
    go_wp2_with fail
    refine HS.out.mono ?_
    rintro e w3 ⟨v, rfl, ho, hb⟩
    have HO := Lib.hid (own_mono ho HB2.out.size)
    have HB3 : Hid (Below w.heap.size w w3) := HB2.out.trans (hb.mono HB2.out.size)
    obtain ⟨A, cp, rfl⟩ := own_slice ho
    clear ho hb
    go_wp2_with fail
    go_ret
    refine ⟨_, rfl, ?_, HB3.out⟩
    rw [HV.out]
    exact HO.out

end Go.Proofs.Ytnejalefpenbfaa

/- IsFactor of the program. Conditions: texts of at most 2^20 bytes; the library's own variable holds an integer. -/
namespace Go.Proofs.Ytnejalefpenbfaa
open Go.RowKit

theorem ext_list (s : ByteArray) (i n : Nat) : (s.extract i (i + n)).data.toList = (s.data.toList.drop i).take n := by
  rw [Lib.extract_data]
  rw [Nat.add_sub_cancel_left]
theorem occ_at (s f : ByteArray) (i : Nat) (hi : i ≤ s.size) : Lib.occAt s.data.toList f.data.toList i = true ↔ At s f i := by
  unfold Lib.occAt At
  rw [List.isPrefixOf_iff_prefix, List.prefix_iff_eq_take]
  have hsl : s.data.toList.length = s.size := by simp
  have hfl : f.data.toList.length = f.size := by simp
  constructor
  · intro h
    have hl := congrArg List.length h
    rw [List.length_take, List.length_drop, hsl, hfl] at hl
    refine ⟨by omega, ?_⟩
    apply bytes_ext
    rw [ByteArray.toList_eq, ByteArray.toList_eq, ext_list, ← hfl]
    exact h.symm
  · rintro ⟨_, h⟩
    rw [hfl, ← ext_list, h]
theorem contains_has (s f : ByteArray) : Lib.contains s.data.toList f.data.toList = hasR s f := by
  have hsl : s.data.toList.length = s.size := by simp
  unfold Lib.contains hasR
  rcases Lib.index_spec s.data.toList f.data.toList with ⟨h1, h2⟩ | ⟨i, h1, h2, h3, _⟩
  · rw [h1, @decide_eq_false _ (Classical.propDecidable _)]
    · rfl
    · rintro ⟨i, hi⟩
      have := h2 i (by have := hi.1; omega)
      rw [(occ_at s f i (by have := hi.1; omega)).2 hi] at this
      cases this
  · rw [h1, @decide_eq_true _ (Classical.propDecidable _) ⟨i, (occ_at s f i (by omega)).1 h3⟩]
    simp

theorem implIsFactor (s f : ByteArray) (m : Int) (w : World) (hm : w.cell? ⟨0, 0, none⟩ = some (.int .i64 m)) (hs : s.size ≤ 1048576) (hf : f.size ≤ 1048576) :
    Calls Try.prog 44 #[.string s, .string f] w fun e w' => e = .returned (.bool (factR s f)) ∧ Below w.heap.size w w' := by
  have HR : Hid (factR s f = (wordB s && (wordB f && hasR s f))) := rfl
  have HM := Lib.hid hm
  clear hm
  cases h1 : wordB s
  · go_enter Try.func44, Try.ntmps44
    go_wp2_with fail
    refine (implWordOk s _ hs).mono ?_
    rintro e w1 ⟨rfl, hb1⟩
    go_wp2_with fail
    go_ret
    exact ⟨ret_bool (by rw [HR.out, h1]; rfl), hb1⟩
  · cases h2 : wordB f
    · go_enter Try.func44, Try.ntmps44
      go_wp2_with fail
      refine (implWordOk s _ hs).mono ?_
      rintro e w1 ⟨rfl, hb1⟩
      go_wp2_with fail
      refine (implWordOk f _ hf).mono ?_
      rintro e w2 ⟨rfl, hb2⟩
      go_wp2_with fail
      go_ret
      exact ⟨ret_bool (by rw [HR.out, h1, h2]; rfl), hb1.trans (hb2.mono hb1.size)⟩
    · go_enter Try.func44, Try.ntmps44
      go_wp2_with fail
      refine (implWordOk s _ hs).mono ?_
      rintro e w1 ⟨rfl, hb1⟩
      go_wp2_with fail
      refine (implWordOk f _ hf).mono ?_
      rintro e w2 ⟨rfl, hb2⟩
      go_wp2_with fail
      have hb := hb1.trans (hb2.mono hb1.size)
      refine (Try.strings_Contains s f m _ (by omega) ((hb.cell (World.block_lt_of_cell? w _ HM.out)).trans HM.out)).mono ?_
      rintro e w3 ⟨rfl, rfl⟩
      go_wp2_with fail
      go_ret
      exact ⟨ret_bool (by rw [HR.out, h1, h2, contains_has]; rfl), hb⟩
end Go.Proofs.Ytnejalefpenbfaa
