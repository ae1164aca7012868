/- Texts put together. -/
import Derived.Test.YtjmijedfmiplfaaMgA3
import Derived.Deep.Matrix
import Derived.Test.YtjmijedfmiplfaaMgA1
import Derived.Deep.RegionLaw
import Derived.OwnWalk
/- markIntSS and heldIntSS: numbers laid into the rows of a matrix of the call's own, and found there again. -/
namespace Go.Proofs.Ytjmijedfmiplfaa
open Go.RowKit

/-- consecutive numbers from k on, in rows of these lengths -/
def marksM (k : Int) : List Nat → List (List Int)
  | [] => []
  | n :: ns => upto k n :: marksM (k + n) ns
def sumN (ns : List Nat) : Nat := ns.sum
theorem marksM_length (ns : List Nat) : ∀ k, (marksM k ns).length = ns.length := by
  induction ns with
  | nil => intro k; rfl
  | cons n ns ih => intro k; simp [marksM, ih]
theorem marksM_at (ns : List Nat) : ∀ (k : Int) (i : Nat) (h : i < ns.length), (marksM k ns)[i]'(by rw [marksM_length]; exact h) = upto (k + sumN (ns.take i)) ns[i] := by
  induction ns with
  | nil => intro k i h; simp at h
  | cons n ns ih =>
    intro k i h
    cases i with
    | zero => simp [marksM, sumN]
    | succ i =>
      have := ih (k + n) i (by simpa using h)
      simp only [marksM, List.getElem_cons_succ, List.take_succ_cons, sumN, List.sum_cons] at this ⊢
      rw [this]
      congr 1
      omega
theorem sumN_take (ns : List Nat) (i : Nat) (h : i < ns.length) : sumN (ns.take (i + 1)) = sumN (ns.take i) + ns[i] := by
  unfold sumN
  rw [List.take_succ_eq_append_getElem h, List.sum_append]
  simp
theorem sumN_take_le (ns : List Nat) (i : Nat) : sumN (ns.take i) ≤ sumN ns := by
  unfold sumN
  conv => rhs; rw [← List.take_append_drop i ns, List.sum_append]
  omega

set_option maxHeartbeats 400000 in
theorem heldIntSS_marks (v : Value) (k : Int) (ns : List Nat) (w : World) (hk : 0 ≤ k) (hkn : k + sumN ns ≤ 1099511627776) (hn : ns.length ≤ 1048576) (h1 : Mat w v (marksM k ns)) :
    Calls Try.prog 24 #[v, .int .i64 k] w fun e w' => e = .returned (.int .i64 (k + sumN ns)) ∧ ∃ n, w' = w.drewN n := by
  by_cases hl : ns = []
  · subst hl
    obtain ⟨A, cap, rfl⟩ := mat_slice h1
    go_enter Try.func24, Try.ntmps24
    go_wp2
    refine wp_loop_rounds 1 ?_
    rw [rounds_succ]
    go_wp2
    go_ret
    exact ⟨ret_int (by simp [sumN]), 0, rfl⟩
  have hpos : 0 < ns.length := List.length_pos_iff.2 hl
  obtain ⟨b, off, cp, rfl, q1, q2, r1⟩ := mat_rows h1 (by rw [marksM_length]; exact hpos)
  have H1 : Hid (∀ i (hi : i < ns.length), ∃ u, w.cell? ⟨b, off + i, none⟩ = some u ∧ Lst w u (ints (upto (k + sumN (ns.take i)) ns[i]))) := fun i hi => by
    obtain ⟨u, g, l⟩ := r1 i (by rw [marksM_length]; exact hi)
    rw [marksM_at ns k i hi] at l
    exact ⟨u, g, l⟩
  rw [marksM_length] at q1 ⊢
  clear r1 h1 hl q1 q2
  go_enter Try.func24, Try.ntmps24
  go_wp2
  go_loopw [1, 5] (fun q i w' => ∃ (j n : Nat), j ≤ ns.length ∧ i = .int .i64 j ∧ q = .int .i64 (k + sumN (ns.take j)) ∧ w' = w.drewN n) (fun _ i _ => ns.length - (intOf i).toNat)
  case atStart => exact ⟨0, 0, by omega, rfl, by simp [sumN], rfl⟩
  case round =>
    obtain ⟨j, n, hj, rfl, rfl, rfl⟩ := hrel
    by_cases hlt : j < ns.length
    · obtain ⟨u, g1, lu⟩ := H1.out j hlt
      have HL := Lib.hid lu
      have hs1 := sumN_take ns j hlt
      have hs2 := sumN_take_le ns (j + 1)
      have hge : ¬ (k + (sumN (ns.take j) : Int) + (ns[j] : Int) < 0) := by omega
      have hb1 : 0 ≤ k + (sumN (ns.take j) : Int) := by omega
      have hb2 : k + (sumN (ns.take j) : Int) + ns[j] ≤ 9223372036854775807 := by omega
      have HS := Lib.hid hs1
      clear lu hs1
      go_wp2_with fail
      refine (heldIntS_marks u (k + sumN (ns.take j)) ns[j] _ hb1 hb2 (HL.out.drewN n)).mono ?_
      rintro e w3 ⟨rfl, n3, rfl⟩
      go_wp2_with fail
      go_roundw
      case rel => exact ⟨j + 1, _, by omega, by go_num, by rw [HS.out]; congr 1; omega, rfl⟩
      case measure => simp [intOf]; omega
    · have hjn : j = ns.length := by omega
      subst hjn
      rw [List.take_length]
      go_wp2_with fail
      go_ret
      exact ⟨rfl, n, rfl⟩

/-- w' is w with new blocks, and writes to blocks from lo to hi alone -/
def KeepsOut (lo hi : Nat) (w w' : World) : Prop :=
  w'.os = w.os ∧ w'.tape = w.tape ∧ w'.output = w.output ∧ w.heap.size ≤ w'.heap.size ∧ ∀ i, i < w.heap.size → (i < lo ∨ hi ≤ i) → w'.heap[i]? = w.heap[i]?
theorem KeepsOut.refl (lo hi : Nat) (w : World) : KeepsOut lo hi w w := ⟨rfl, rfl, rfl, Nat.le_refl _, fun _ _ _ => rfl⟩
theorem KeepsOut.trans {lo hi : Nat} {a b c : World} (h : KeepsOut lo hi a b) (k : KeepsOut lo hi b c) : KeepsOut lo hi a c :=
  ⟨k.1.trans h.1, k.2.1.trans h.2.1, k.2.2.1.trans h.2.2.1, Nat.le_trans h.2.2.2.1 k.2.2.2.1, fun i hi ho => (k.2.2.2.2 i (Nat.lt_of_lt_of_le hi h.2.2.2.1) ho).trans (h.2.2.2.2 i hi ho)⟩
theorem KeepsOut.of_grown {lo hi : Nat} {w w' : World} {row : Option Nat} (h : w.grownBy w' row) (hr : ∀ k, row = some k → lo ≤ k ∧ k < hi) : KeepsOut lo hi w w' :=
  ⟨h.os, h.tape, h.output, h.size, fun i hi ho => h.block i hi (fun e => by have := hr i e.symm; omega)⟩
theorem KeepsOut.below {lo hi B : Nat} {a w w' : World} (h : Below B a w) (k : KeepsOut lo hi w w') (hB : B ≤ w.heap.size) (hl : B ≤ lo) : Below B a w' :=
  ⟨k.1.trans h.os, k.2.1.trans h.tape, k.2.2.1.trans h.output, Nat.le_trans h.size k.2.2.2.1, fun i hi => (k.2.2.2.2 i (by omega) (.inl (by omega))).trans (h.block i hi)⟩
theorem KeepsOut.own {lo hi B n size : Nat} {w w' : World} {e : TypeId} {v : Value} {xs : List Value} (h : w.ownsRow B e size v n xs) (k : KeepsOut lo hi w w') (hne : ∀ j, v.ownBlock = some j → j < lo ∨ hi ≤ j) : w'.ownsRow B e size v n xs := by
  refine ⟨h.1, h.2.imp id ?_⟩
  rintro ⟨g, cap, cur, rfl, h2, h3, h4⟩
  refine ⟨g, cap, cur, rfl, h2, ?_, h4⟩
  rw [k.2.2.2.2 g (Array.getElem?_eq_some_iff.1 h3).1 (hne g rfl)]
  exact h3

set_option maxHeartbeats 1000000 in
theorem markIntSS_own (B S : Nat) (v : Value) (k : Int) (m : List (List Int)) (w : World) (hk : 0 ≤ k) (hkn : k + sumN (m.map List.length) ≤ 1099511627776) (hn : m.length ≤ 1048576) (h1 : OwnMat w B S v m) :
    Calls Try.prog 23 #[v, .int .i64 k] w fun e w' => e = .returned (.int .i64 (k + sumN (m.map List.length))) ∧ OwnMat w' B S v (marksM k (m.map List.length)) ∧ KeepsOut B S w w' := by
  obtain ⟨t0, vs, hvl, ho, hrows, hdis, hap, hvS⟩ := h1
  have hml : (m.map List.length).length = m.length := by simp
  have hat : ∀ i (h : i < m.length) (h' : i < (m.map List.length).length), (m.map List.length)[i] = m[i].length := fun i h h' => by simp
  generalize hns : m.map List.length = ns at hkn hml hat ⊢
  clear hns
  by_cases hl : m.length = 0
  · have hns0 : ns = [] := List.eq_nil_of_length_eq_zero (by omega)
    have hm0 : m = [] := List.eq_nil_of_length_eq_zero hl
    subst hns0; subst hm0
    obtain ⟨A, cp, rfl⟩ := own_slice ho
    have HALL : Hid (OwnMat w B S (.slice A 0 cp) []) := ⟨t0, vs, hvl, ho, hrows, hdis, hap, hvS⟩
    clear ho hrows hdis hap hvS hat
    go_enter Try.func23, Try.ntmps23
    go_wp2
    refine wp_loop_rounds 1 ?_
    rw [rounds_succ]
    go_wp2
    go_ret
    exact ⟨ret_int (by simp [sumN]), HALL.out, KeepsOut.refl _ _ _⟩
  obtain ⟨g, cp, rfl, _⟩ := own_some ho (by omega)
  have hgB := (ho.lt g rfl).1
  have hgS := hvS g rfl
  have HO := Lib.hid ho
  have HROWS := Lib.hid hrows
  have HDIS := Lib.hid hdis
  have HAP := Lib.hid hap
  have HVL := Lib.hid hvl
  have HML := Lib.hid hml
  have HAT := Lib.hid hat
  clear ho hrows hdis hap hvS hvl hml hat
  go_enter Try.func23, Try.ntmps23
  go_wp2
  go_loopw [1, 5] (fun q i w' => ∃ (j : Nat), j ≤ m.length ∧ i = .int .i64 j ∧ q = .int .i64 (k + sumN (ns.take j)) ∧ w'.ownsRow B t0 1 (.slice (some ⟨g, 0, none⟩) m.length cp) m.length vs ∧
    (∀ i (h : i < vs.length) (h' : i < m.length) (h2 : i < ns.length), ∃ te, w'.ownsRow B te 1 vs[i] m[i].length (if i < j then ints (upto (k + sumN (ns.take i)) ns[i]) else ints m[i])) ∧ KeepsOut B S w w') (fun _ i _ => m.length - (intOf i).toNat)
  case atStart => exact ⟨0, by omega, rfl, by simp [sumN], HO.out, fun i h h' h2 => by simpa using HROWS.out i h h', KeepsOut.refl _ _ _⟩
  case round =>
    obtain ⟨j, hj, rfl, rfl, hoj, hrj, hkj⟩ := hrel
    by_cases hlt : j < m.length
    · have hjv : j < vs.length := by have := HVL.out; omega
      have hjn : j < ns.length := by have := HML.out; omega
      obtain ⟨te, hrow⟩ := hrj j hjv hlt hjn
      rw [if_neg (Nat.lt_irrefl j)] at hrow
      have g1 : wr.cell? ⟨g, j, none⟩ = some vs[j] := (hoj.cellAt j (by omega)).trans (List.getElem?_eq_getElem hjv)
      have hs1 := sumN_take ns j hjn
      have hs2 := sumN_take_le ns (j + 1)
      have hle := HAT.out j hlt hjn
      have hb1 : 0 ≤ k + (sumN (ns.take j) : Int) := by omega
      have hb2 : k + (sumN (ns.take j) : Int) + (m[j].length : Int) ≤ 9223372036854775807 := by omega
      have HS := Lib.hid hs1
      have HLE := Lib.hid hle
      have HRW := Lib.hid hrow
      have HOJ := Lib.hid hoj
      have HRJ := Lib.hid hrj
      have HKJ := Lib.hid hkj
      clear hs1 hle hrow hoj hrj hkj
      go_wp2_with fail
      refine (markIntS_own B vs[j] (k + sumN (ns.take j)) m[j].length _ _ hb1 hb2 HRW.out).mono ?_
      rintro e w3 ⟨rfl, ho3, hg3⟩
      have hnot : ∀ x, vs[j].ownBlock = some x → x ≠ g := fun x hx e => (HAP.out j hjv x hx).1 (by rw [e]; rfl)
      have hin : ∀ x, vs[j].ownBlock = some x → B ≤ x ∧ x < S := fun x hx => ⟨(HRW.out.lt x hx).1, (HAP.out j hjv x hx).2⟩
      have HO3 : Hid (w3.ownsRow B t0 1 (.slice (some ⟨g, 0, none⟩) m.length cp) m.length vs) := own_apart HOJ.out hg3 (fun x h1 h2 => hnot x h2 (by simpa [Value.ownBlock] using h1.symm))
      have HR3 : Hid (∀ i (h : i < vs.length) (h' : i < m.length) (h2 : i < ns.length), ∃ te, w3.ownsRow B te 1 vs[i] m[i].length (if i < j + 1 then ints (upto (k + sumN (ns.take i)) ns[i]) else ints m[i])) := fun i h h' h2 => by
        by_cases e : i = j
        · subst e
          rw [if_pos (Nat.lt_succ_self _), HLE.out]
          exact ⟨te, ho3⟩
        · obtain ⟨te', hr'⟩ := HRJ.out i h h' h2
          refine ⟨te', ?_⟩
          have hr'' := own_apart hr' hg3 (fun x h1 h3 => e (HDIS.out i j h hjv x h1 h3))
          by_cases e2 : i < j
          · rw [if_pos e2] at hr''
            rw [if_pos (by omega)]
            exact hr''
          · rw [if_neg e2] at hr''
            rw [if_neg (by omega)]
            exact hr''
      have HK3 : Hid (KeepsOut B S w w3) := HKJ.out.trans (KeepsOut.of_grown hg3 hin)
      clear ho3 hg3 hnot hin
      go_wp2_with fail
      go_roundw
      case rel => exact ⟨j + 1, by omega, by go_num, by rw [HS.out, HLE.out]; congr 1; omega, HO3.out, HR3.out, HK3.out⟩
      case measure => simp [intOf]; omega
    · have hjn : j = m.length := by omega
      subst hjn
      have HOJ := Lib.hid hoj
      have HRJ := Lib.hid hrj
      have HKJ := Lib.hid hkj
      have hns : ns.take m.length = ns := List.take_of_length_le (by rw [HML.out]; exact Nat.le_refl _)
      rw [hns]
      clear hoj hrj hkj hns
      go_wp2_with fail
      go_ret
      have hMl : (marksM k ns).length = m.length := by rw [marksM_length]; exact HML.out
      refine ⟨rfl, ⟨t0, vs, by rw [hMl]; exact HVL.out, by rw [hMl]; exact HOJ.out, fun i h h' => ?_, HDIS.out, HAP.out, fun x hx => by simp [Value.ownBlock] at hx; omega⟩, HKJ.out⟩
      have h2 : i < ns.length := by rw [← marksM_length ns k]; exact h'
      have h3 : i < m.length := by rw [← HML.out]; exact h2
      obtain ⟨te, hr'⟩ := HRJ.out i h h3 h2
      rw [if_pos h3] at hr'
      refine ⟨te, ?_⟩
      rw [marksM_at ns k i h2, upto_length, HAT.out i h3 h2]
      rw [HAT.out i h3 h2] at hr'
      exact hr'
end Go.Proofs.Ytjmijedfmiplfaa

/- szIntSS: a bound on all that a slice of slices of ints holds. -/
namespace Go.Proofs.Ytjmijedfmiplfaa
open Go.ChangeShapes Go.WideShapes Go.RowKit

def lens (m : List (List Int)) : List Nat := m.map List.length
theorem lens_at (m : List (List Int)) (j : Nat) (h : j < m.length) (h' : j < (lens m).length) : (lens m)[j] = m[j].length := by simp [lens]
/-- what szIntSS says -/
def SzMat (m : List (List Int)) (left : Int) (w : World) (e : Ending) (w' : World) : Prop :=
  w = w' ∧ ∃ r : Int, e = .returned (.int .i64 r) ∧ -1 ≤ r ∧ r ≤ left ∧ (0 ≤ r → (m.length : Int) + sumN (lens m) + r = left)
theorem szI_neg {left : Int} {n : Nat} (h : left < n) : szI left n = -1 := if_pos h
theorem szI_pos {left : Int} {n : Nat} (h : ¬ left < n) : szI left n = left - n := if_neg h

/-- a slice of slices of ints that came in, opened -/
theorem mat_cell {H : Type} {enc : TypeId × Value → H} {P : Program} {w : World} {base fuel : Nat} {t e q : TypeId} {v : Value} {y : DataW H × List MemPlace} (ht : P.underlying t = some (.slice e)) (he : P.underlying e = some (.slice q)) (hq : P.underlying q = some (.int .i64)) (ce : P.cellsOf e = 1) (cq : P.cellsOf q = 1)
    (hf : DataW.trod enc P w base (fun _ => true) true fuel t [v] = some y) : ∃ m : List (List Int), Mat w v m ∧ (∀ r ∈ m, ∀ z ∈ r, (Lit.int .i64 z).wf = true) ∧ m.length ≤ 9223372036854775807 := by
  rcases Deep.open_int_rows ht he hq ce cq hf with ⟨hcs, _⟩ | ⟨a, len, cap, A, L, C, Z, hcs, _, hl, hm, _, hrow⟩
  · simp at hcs
    subst hcs
    exact ⟨[], ⟨[], ⟨none, 0, by simp, by simp, by simp [maxLen], .inl rfl⟩, rfl, fun i h => absurd h (by simp)⟩, by simp, by simp⟩
  · simp at hcs
    subst hcs
    have hml : ((List.range len).map fun r => (Z r).take (L r)).length = len := by simp
    refine ⟨(List.range len).map fun r => (Z r).take (L r), ⟨(List.range len).map fun r => Value.slice (A r) (L r) (C r), ?_, by simp, fun i h h' => ?_⟩, fun r hr z hz => ?_, by simp; unfold maxLen at hm; omega⟩
    · refine ⟨some a, cap, by simp, by simpa using hl, hm, ?_⟩
      by_cases h0 : len = 0
      · subst h0
        exact .inl (by simp)
      · obtain ⟨b, off, spot⟩ := a
        have h1 := (hrow 0 (by omega)).1
        have hspot : spot = none := by simpa [Addr.add] using World.cell?_spot h1
        subst hspot
        refine .inr ⟨b, off, rfl, fun i u hu => ?_⟩
        have hi : i < len := by
          have := (List.getElem?_eq_some_iff.1 hu).1
          simpa using this
        have h2 := (hrow i (by omega)).1
        rw [Addr.add_lit] at h2
        rw [h2]
        simp [hi] at hu
        rw [hu]
    · have hi : i < len := by simpa using h'
      obtain ⟨_, hLC, hCm, hZ, _, hAn, hcell⟩ := hrow i (by omega)
      simp only [List.getElem_map, List.getElem_range]
      refine ⟨A i, C i, by simp [ints, hZ, Nat.min_eq_left hLC], by simp [ints, hZ, Nat.min_eq_left hLC]; exact hLC, hCm, ?_⟩
      by_cases h0 : L i = 0
      · exact .inl (by simp [ints, h0])
      · rcases hA : A i with _ | ⟨b, off, spot⟩
        · have := hAn hA
          omega
        · have h1 := (hcell _ hA).2 0 (by omega)
          have hspot : spot = none := by simpa [Addr.add] using World.cell?_spot h1
          subst hspot
          refine .inr ⟨b, off, rfl, fun c u hu => ?_⟩
          have hc : c < L i := by
            have := (List.getElem?_eq_some_iff.1 hu).1
            simp [ints, hZ, Nat.min_eq_left hLC] at this
            omega
          have h2 := (hcell _ hA).2 c (by omega)
          rw [Addr.add_lit] at h2
          rw [h2]
          simp [ints, hc] at hu
          obtain ⟨x, hx, rfl⟩ := hu
          simp [List.getD, hx]
    · obtain ⟨i, hi, rfl⟩ := List.mem_map.1 hr
      have hi' : i < len := by simpa using hi
      exact (hrow i (by omega)).2.2.2.2.1 z (List.mem_of_mem_take hz)
end Go.Proofs.Ytjmijedfmiplfaa

/- append to a row of the call's own, as one step of a region that draws its order. No program in it. -/
namespace Go.Proofs.Ytjmijedfmiplfaa
open Go.RowKit

theorem step_own {P : Program} {ops : Array Oper} {o : Oper} {a : Act} {w : World} {K : Act → World → Prop} {Q : Exit → Act → World → Prop} {E : Prop}
    (hg : o.guard = none) (s x : Operand) (t : TypeId) (hop : o.op = Op.call { callee := Callee.builtin Builtin.append, args := #[s, x], argTypes := #[t, t] })
    (base : Nat) (e : TypeId) (i : TypeInfo) (z : Value) (bytes : Nat) (h1 : P.underlying t = some (.slice e)) (h2 : P.info? e = some i) (h3 : i.zero = some z) (h4 : i.size = 1) (h5 : i.bytes = bytes) (h6 : z.cells.size = 1)
    (v : Value) (n : Nat) (xs : List Value) (hs : a.eval s = v) (hown : w.ownsRow base e 1 v n xs)
    (ad : Addr) (m c : Nat) (news : List Value) (hx : a.eval x = .slice (some ad) m c) (hn : news.length = m) (hc : ∀ j u, news[j]? = some u → w.cell? (ad.add j) = some u) (h1c : ∀ u ∈ news, u.oneCell' = true)
    (b1 : n + m ≤ maxLen) (b2 : (n + m) * bytes ≤ 140737488355328) (hb : base ≤ w.heap.size)
    (hK : ∀ v' w', w'.ownsRow base e 1 v' (n + m) (xs ++ news) → Below base w w' → K (a.put o.dst v') w') :
    if Region.wanted o (yielded ops a.tmps) = true then Oper.wp P o a w K Q else E := by
  have hw : Region.wanted o (yielded ops a.tmps) = true := by simp [Region.wanted, hg]
  rw [if_pos hw]
  obtain ⟨v', w', hrun, r1, r2, _⟩ := run_append_own (P := P) w base t o.type e i z 1 bytes h1 h2 h3 h4 h5 h6 (by decide) v n xs hown ad m c news (by rw [hn, Nat.mul_one]) hc h1c b1 b2 hb
  unfold Oper.wp
  simp [execOp, hop, resolve, invoke, builtin, hs, hx, hrun, Result.andThen]
  exact hK v' w' r1 ((Below.refl _ _).grown r2 hb (fun k hk => (hown.lt k hk).1))
end Go.Proofs.Ytjmijedfmiplfaa

/- A slice of slices of ints that the call builds by append, row by row. -/
namespace Go.Proofs.Ytjmijedfmiplfaa
open Go.RowKit

theorem own_ne {w : World} {B B' : Nat} {e e' : TypeId} {v v' : Value} {n n' : Nat} {xs xs' : List Value} (h : w.ownsRow B e 1 v n xs) (h' : w.ownsRow B' e' 1 v' n' xs') (hne : e ≠ e') (k : Nat) (hk : v.ownBlock = some k) (hk' : v'.ownBlock = some k) : False := by
  rcases h.2 with ⟨rfl, _⟩ | ⟨g, cap, cur, rfl, _, hg, _⟩
  · simp [Value.ownBlock] at hk
  · rcases h'.2 with ⟨rfl, _⟩ | ⟨g', cap', cur', rfl, _, hg', _⟩
    · simp [Value.ownBlock] at hk'
    · simp only [Value.ownBlock, Option.some.injEq] at hk hk'
      subst hk; subst hk'
      rw [hg] at hg'
      injection hg' with hg'
      injection hg' with _ he
      exact hne he

theorem RowsTo.grown {w w' : World} {B : Nat} {us : List Value} {m : List (List Int)} {row : Option Nat} (h : RowsTo w B us m) (hg : w.grownBy w' row) (hne : ∀ i (hi : i < us.length) k, us[i].ownBlock = some k → row = some k → False) : RowsTo w' B us m :=
  ⟨h.1, fun i a b => own_apart (h.2.1 i a b) hg (hne i a), h.2.2⟩

/-- the rows that have been appended -/
def GrowMat (w : World) (B : Nat) (o : Value) (us : List Value) (m : List (List Int)) : Prop :=
  w.ownsRow B 22 1 o us.length us ∧ RowsTo w B us m
theorem GrowMat.below {w w' : World} {B : Nat} {o : Value} {us : List Value} {m : List (List Int)} (h : GrowMat w B o us m) (hb : Below w.heap.size w w') : GrowMat w' B o us m := ⟨own_below h.1 hb, h.2.below hb⟩
theorem GrowMat.drewN {w : World} {B : Nat} {o : Value} {us : List Value} {m : List (List Int)} (h : GrowMat w B o us m) (n : Nat) : GrowMat (w.drewN n) B o us m := h
/-- one row more -/
theorem GrowMat.snoc {w w1 w2 : World} {B : Nat} {o o' u : Value} {us : List Value} {m : List (List Int)} (h : GrowMat w B o us m) (hb : Below w.heap.size w w1) (hB : B ≤ w.heap.size) (hk : us.length < m.length)
    (hu : w1.ownsRow w.heap.size 3 1 u m[us.length].length (ints m[us.length]))
    (ho : w2.ownsRow B 22 1 o' (us.length + 1) (us ++ [u])) (hg : w1.grownBy w2 o.ownBlock) : GrowMat w2 B o' (us ++ [u]) m := by
  have h1 := h.2.snoc hb hB hk hu
  have h2 := own_below h.1 hb
  refine ⟨by simpa using ho, h1.grown hg (fun i hi k e1 e2 => ?_)⟩
  exact own_ne (h1.2.1 i hi (by have := h1.1; omega)) h2 (by decide) k e1 e2
/-- all rows are there -/
theorem GrowMat.own {w : World} {B : Nat} {o : Value} {us : List Value} {m : List (List Int)} (h : GrowMat w B o us m) (hl : us.length = m.length) : OwnMat w B w.heap.size o m := by
  obtain ⟨h1, h2⟩ := h
  refine ⟨22, us, hl, by rw [← hl]; exact h1, fun i a b => ⟨3, h2.2.1 i a b⟩, h2.2.2, fun i a k e => ⟨fun h' => ?_, ((h2.2.1 i a (by omega)).lt k e).2⟩, fun k e => (h1.lt k e).2⟩
  exact own_ne (h2.2.1 i a (by omega)) h1 (by decide) k e h'

/-- append of one element that the walk has just laid; the row alone has turned -/
theorem wpList_append1g {P : Program} (w : World) {ops : Array Oper} {rest : List Oper} {o : Oper} {a : Act} {Q : Exit → Act → World → Prop} (hgd : o.guard = none) (s x : Operand) (t : TypeId)
    (ho : o.op = .call { callee := .builtin .append, args := #[s, x], argTypes := #[t, t] })
    (base : Nat) (e : TypeId) (i : TypeInfo) (z : Value) (bytes : Nat) (ht : P.underlying t = some (.slice e)) (hi : P.info? e = some i) (hz : i.zero = some z)
    (hsize : i.size = 1) (hby : i.bytes = bytes) (hzs : z.cells.size = 1)
    (v : Value) (n : Nat) (xs : List Value) (hs : a.eval s = v) (hown : w.ownsRow base e 1 v n xs)
    (y : Value) (hy : y.oneCell' = true) (hx : a.eval x = .slice (some ⟨w.heap.size, 0, none⟩) 1 1)
    (h63 : n + 1 ≤ maxLen) (hbytes : (n + 1) * bytes ≤ 140737488355328) (hbase : base ≤ w.heap.size)
    (h : ∀ v' w', w'.ownsRow base e 1 v' (n + 1) (xs ++ [y]) → w.grownBy w' v.ownBlock → wpList P ops Q rest (a.put o.dst v') w') :
    wpList P ops Q (o :: rest) a (w.alloc (.cells #[y] e)) := by
  refine wpList_append_own _ hgd s x t ho base e i z 1 bytes ht hi hz hsize hby hzs (by decide) v n xs hs (hown.alloc _) ⟨w.heap.size, 0, none⟩ 1 1 [y] hx rfl ?_ ?_ h63 hbytes (by simp; omega) ?_
  · intro j u hu
    rcases j with _ | j
    · simp at hu
      subst hu
      rw [Addr.add_lit, World.cell?_alloc_at _ _ _ _ (by simp)]
      rfl
    · simp at hu
  · intro u hu
    simp at hu
    subst hu
    exact hy
  · intro v' w' h1 h2 _
    exact h v' w' h1 (grown_trans (World.grownBy_alloc _ _ _) h2)

theorem OwnMat.nil (w : World) (B S : Nat) : OwnMat w B S (.slice none 0 0) [] :=
  ⟨22, [], rfl, World.ownsRow_nil _ _ _ _, fun i h => absurd h (by simp), fun i j h => absurd h (by simp), fun i h => absurd h (by simp), fun k hk => by cases hk⟩
/-- what is written into other blocks does not reach it -/
theorem OwnMat.keeps {w w' : World} {B S lo hi : Nat} {v : Value} {m : List (List Int)} (h : OwnMat w B S v m) (k : KeepsOut lo hi w w') (hne : hi ≤ B) : OwnMat w' B S v m := by
  obtain ⟨t0, vs, h1, h2, h3, h4⟩ := h
  exact ⟨t0, vs, h1, KeepsOut.own h2 k (fun j hj => .inr (by have := (h2.lt j hj).1; omega)), fun i a b => by obtain ⟨te, h⟩ := h3 i a b; exact ⟨te, KeepsOut.own h k (fun j hj => .inr (by have := (h.lt j hj).1; omega))⟩, h4⟩

/-- append to a row of the call's own, as one step of a region that draws; the row alone turns -/
theorem step_own_g {P : Program} {ops : Array Oper} {o : Oper} {a : Act} {w : World} {K : Act → World → Prop} {Q : Exit → Act → World → Prop} {E : Prop}
    (hg : o.guard = none) (s x : Operand) (t : TypeId) (hop : o.op = Op.call { callee := Callee.builtin Builtin.append, args := #[s, x], argTypes := #[t, t] })
    (base : Nat) (e : TypeId) (i : TypeInfo) (z : Value) (bytes : Nat) (h1 : P.underlying t = some (.slice e)) (h2 : P.info? e = some i) (h3 : i.zero = some z) (h4 : i.size = 1) (h5 : i.bytes = bytes) (h6 : z.cells.size = 1)
    (v : Value) (n : Nat) (xs : List Value) (hs : a.eval s = v) (hown : w.ownsRow base e 1 v n xs)
    (ad : Addr) (m c : Nat) (news : List Value) (hx : a.eval x = .slice (some ad) m c) (hn : news.length = m) (hc : ∀ j u, news[j]? = some u → w.cell? (ad.add j) = some u) (h1c : ∀ u ∈ news, u.oneCell' = true)
    (b1 : n + m ≤ maxLen) (b2 : (n + m) * bytes ≤ 140737488355328) (hb : base ≤ w.heap.size)
    (hK : ∀ v' w', w'.ownsRow base e 1 v' (n + m) (xs ++ news) → w.grownBy w' v.ownBlock → K (a.put o.dst v') w') :
    if Region.wanted o (yielded ops a.tmps) = true then Oper.wp P o a w K Q else E := by
  have hw : Region.wanted o (yielded ops a.tmps) = true := by simp [Region.wanted, hg]
  rw [if_pos hw]
  obtain ⟨v', w', hrun, r1, r2, _⟩ := run_append_own (P := P) w base t o.type e i z 1 bytes h1 h2 h3 h4 h5 h6 (by decide) v n xs hown ad m c news (by rw [hn, Nat.mul_one]) hc h1c b1 b2 hb
  unfold Oper.wp
  simp [execOp, hop, resolve, invoke, builtin, hs, hx, hrun, Result.andThen]
  exact hK v' w' r1 r2
theorem own_made0 (w : World) (B : Nat) (e : TypeId) (hB : B ≤ w.heap.size) : (w.alloc (.cells #[] e)).ownsRow B e 1 (.slice (some ⟨w.heap.size, 0, none⟩) 0 0) 0 [] :=
  World.ownsRow_made (e := e) (size := 1) w #[] 0 hB (by simp [maxLen]) (by simp)
theorem sizeOf_int (w : World) : (sizeOf (Try.prog.elem 22)).run Try.prog w = .ok 1 w := by kernel_rfl
theorem sizeOf_ints (w : World) : (sizeOf (Try.prog.elem 31)).run Try.prog w = .ok 1 w := by kernel_rfl
/-- s[k:] -/
theorem slice_from {P : Program} {t e : TypeId} (ht : P.underlying t = some (.slice e)) (hz : ∀ w, (sizeOf (P.elem t)).run P w = .ok 1 w) (b off n cap k : Nat) (hk : k ≤ n) (hn : n ≤ cap) : ∃ X, (∀ w, (Instr.slice t (.slice (some ⟨b, off, none⟩) n cap) (some (.int .i64 (k : Int))) none none).run P w = .ok (.slice (some X) (n - k) (cap - k)) w) ∧ (k < n → X = ⟨b, off + k, none⟩) := by
  have ht' : P.underlying t = some (.slice (P.elem t)) := by
    have : P.elem t = e := by simp [Program.elem, ht]
    rw [this]; exact ht
  refine ⟨if cap = k then ⟨b, off, none⟩ else (⟨b, off, none⟩ : Addr).add (k * 1), fun w => ?_, fun h => ?_⟩
  · rw [run_slice_l (P := P) w t _ _ _ ht' .i64 k (by omega) (by omega), hz w]
    simp only [Result.andThen, sliced, Int.toNat_natCast]
    by_cases hc : cap = k
    · rw [if_pos hc, if_pos hc]
    · rw [if_neg hc, if_neg hc]
      rfl
  · rw [if_neg (by omega), Nat.mul_one, Addr.add_lit]
/-- s[:k] -/
theorem slice_upto {P : Program} {t e : TypeId} (ht : P.underlying t = some (.slice e)) (hz : ∀ w, (sizeOf (P.elem t)).run P w = .ok 1 w) (b off n cap k : Nat) (hk : k ≤ n) (hn : n ≤ cap) : ∃ X, (∀ w, (Instr.slice t (.slice (some ⟨b, off, none⟩) n cap) none (some (.int .i64 (k : Int))) none).run P w = .ok (.slice (some X) k cap) w) ∧ X = ⟨b, off, none⟩ := by
  have ht' : P.underlying t = some (.slice (P.elem t)) := by
    have : P.elem t = e := by simp [Program.elem, ht]
    rw [this]; exact ht
  refine ⟨⟨b, off, none⟩, fun w => ?_, rfl⟩
  rw [run_slice_h (P := P) w t _ _ _ ht' .i64 k (by omega) (by omega), hz w]
  simp only [Result.andThen, sliced, Int.toNat_natCast]
  by_cases hc : cap = 0
  · rw [if_pos hc]; simp
  · rw [if_neg hc]
    simp [Addr.add]
end Go.Proofs.Ytjmijedfmiplfaa
