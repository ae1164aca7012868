/- Texts put together. -/
import Derived.Test.YtfcbfflkajlhnaaMgC6
import Derived.Deep.Matrix
/- markIntSS and heldIntSS: numbers laid into the rows of a matrix of the call's own, and found there again. -/
namespace Go.Proofs.Ytfcbfflkajlhnaa
open Go.RowKit

/-- consecutive numbers from k on, in rows of these lengths -/
def marksM (k : Int) : List Nat → List (List Int)
  | [] => []
  | n :: ns => upto k n :: marksM (k + n) ns
def sumN (ns : List Nat) : Nat := ns.sum
theorem marksM_length (ns : List Nat) : ∀ k, (marksM k ns).length = ns.length := by
  induction ns with
  | nil => intro k; rfl
  | cons n ns ih => intro k; simp [marksM, ih]
theorem marksM_at (ns : List Nat) : ∀ (k : Int) (i : Nat) (h : i < ns.length), (marksM k ns)[i]'(by rw [marksM_length]; exact h) = upto (k + sumN (ns.take i)) ns[i] := by
  induction ns with
  | nil => intro k i h; simp at h
  | cons n ns ih =>
    intro k i h
    cases i with
    | zero => simp [marksM, sumN]
    | succ i =>
      have := ih (k + n) i (by simpa using h)
      simp only [marksM, List.getElem_cons_succ, List.take_succ_cons, sumN, List.sum_cons] at this ⊢
      rw [this]
      congr 1
      omega
theorem sumN_take (ns : List Nat) (i : Nat) (h : i < ns.length) : sumN (ns.take (i + 1)) = sumN (ns.take i) + ns[i] := by
  unfold sumN
  rw [List.take_succ_eq_append_getElem h, List.sum_append]
  simp
theorem sumN_take_le (ns : List Nat) (i : Nat) : sumN (ns.take i) ≤ sumN ns := by
  unfold sumN
  conv => rhs; rw [← List.take_append_drop i ns, List.sum_append]
  omega

set_option maxHeartbeats 400000 in
theorem heldIntSS_marks (v : Value) (k : Int) (ns : List Nat) (w : World) (hk : 0 ≤ k) (hkn : k + sumN ns ≤ 1099511627776) (hn : ns.length ≤ 1048576) (h1 : Mat w v (marksM k ns)) :
    Calls Try.prog 60 #[v, .int .i64 k] w fun e w' => e = .returned (.int .i64 (k + sumN ns)) ∧ ∃ n, w' = w.drewN n := by
  by_cases hl : ns = []
  · subst hl
    obtain ⟨A, cap, rfl⟩ := mat_slice h1
    go_enter Try.func60, Try.ntmps60
    go_wp2
    refine wp_loop_rounds 1 ?_
    rw [rounds_succ]
    go_wp2
    go_ret
    exact ⟨ret_int (by simp [sumN]), 0, rfl⟩
  have hpos : 0 < ns.length := List.length_pos_iff.2 hl
  obtain ⟨b, off, cp, rfl, q1, q2, r1⟩ := mat_rows h1 (by rw [marksM_length]; exact hpos)
  have H1 : Hid (∀ i (hi : i < ns.length), ∃ u, w.cell? ⟨b, off + i, none⟩ = some u ∧ Lst w u (ints (upto (k + sumN (ns.take i)) ns[i]))) := fun i hi => by
    obtain ⟨u, g, l⟩ := r1 i (by rw [marksM_length]; exact hi)
    rw [marksM_at ns k i hi] at l
    exact ⟨u, g, l⟩
  rw [marksM_length] at q1 ⊢
  clear r1 h1 hl q1 q2
  go_enter Try.func60, Try.ntmps60
  go_wp2
  go_loopw [1, 5] (fun q i w' => ∃ (j n : Nat), j ≤ ns.length ∧ i = .int .i64 j ∧ q = .int .i64 (k + sumN (ns.take j)) ∧ w' = w.drewN n) (fun _ i _ => ns.length - (intOf i).toNat)
  case atStart => exact ⟨0, 0, by omega, rfl, by simp [sumN], rfl⟩
  case round =>
    obtain ⟨j, n, hj, rfl, rfl, rfl⟩ := hrel
    by_cases hlt : j < ns.length
    · obtain ⟨u, g1, lu⟩ := H1.out j hlt
      have HL := Lib.hid lu
      have hs1 := sumN_take ns j hlt
      have hs2 := sumN_take_le ns (j + 1)
      have hge : ¬ (k + (sumN (ns.take j) : Int) + (ns[j] : Int) < 0) := by omega
      have hb1 : 0 ≤ k + (sumN (ns.take j) : Int) := by omega
      have hb2 : k + (sumN (ns.take j) : Int) + ns[j] ≤ 9223372036854775807 := by omega
      have HS := Lib.hid hs1
      clear lu hs1
      go_wp2_with fail
      refine (heldIntS_marks u (k + sumN (ns.take j)) ns[j] _ hb1 hb2 (HL.out.drewN n)).mono ?_
      rintro e w3 ⟨rfl, n3, rfl⟩
      go_wp2_with fail
      go_roundw
      case rel => exact ⟨j + 1, _, by omega, by go_num, by rw [HS.out]; congr 1; omega, rfl⟩
      case measure => simp [intOf]; omega
    · have hjn : j = ns.length := by omega
      subst hjn
      rw [List.take_length]
      go_wp2_with fail
      go_ret
      exact ⟨rfl, n, rfl⟩

/-- w' is w with new blocks, and writes to blocks from lo to hi alone -/
def KeepsOut (lo hi : Nat) (w w' : World) : Prop :=
  w'.os = w.os ∧ w'.tape = w.tape ∧ w'.output = w.output ∧ w.heap.size ≤ w'.heap.size ∧ ∀ i, i < w.heap.size → (i < lo ∨ hi ≤ i) → w'.heap[i]? = w.heap[i]?
theorem KeepsOut.refl (lo hi : Nat) (w : World) : KeepsOut lo hi w w := ⟨rfl, rfl, rfl, Nat.le_refl _, fun _ _ _ => rfl⟩
theorem KeepsOut.trans {lo hi : Nat} {a b c : World} (h : KeepsOut lo hi a b) (k : KeepsOut lo hi b c) : KeepsOut lo hi a c :=
  ⟨k.1.trans h.1, k.2.1.trans h.2.1, k.2.2.1.trans h.2.2.1, Nat.le_trans h.2.2.2.1 k.2.2.2.1, fun i hi ho => (k.2.2.2.2 i (Nat.lt_of_lt_of_le hi h.2.2.2.1) ho).trans (h.2.2.2.2 i hi ho)⟩
theorem KeepsOut.of_grown {lo hi : Nat} {w w' : World} {row : Option Nat} (h : w.grownBy w' row) (hr : ∀ k, row = some k → lo ≤ k ∧ k < hi) : KeepsOut lo hi w w' :=
  ⟨h.os, h.tape, h.output, h.size, fun i hi ho => h.block i hi (fun e => by have := hr i e.symm; omega)⟩
theorem KeepsOut.below {lo hi B : Nat} {a w w' : World} (h : Below B a w) (k : KeepsOut lo hi w w') (hB : B ≤ w.heap.size) (hl : B ≤ lo) : Below B a w' :=
  ⟨k.1.trans h.os, k.2.1.trans h.tape, k.2.2.1.trans h.output, Nat.le_trans h.size k.2.2.2.1, fun i hi => (k.2.2.2.2 i (by omega) (.inl (by omega))).trans (h.block i hi)⟩
theorem KeepsOut.own {lo hi B n size : Nat} {w w' : World} {e : TypeId} {v : Value} {xs : List Value} (h : w.ownsRow B e size v n xs) (k : KeepsOut lo hi w w') (hne : ∀ j, v.ownBlock = some j → j < lo ∨ hi ≤ j) : w'.ownsRow B e size v n xs := by
  refine ⟨h.1, h.2.imp id ?_⟩
  rintro ⟨g, cap, cur, rfl, h2, h3, h4⟩
  refine ⟨g, cap, cur, rfl, h2, ?_, h4⟩
  rw [k.2.2.2.2 g (Array.getElem?_eq_some_iff.1 h3).1 (hne g rfl)]
  exact h3

set_option maxHeartbeats 1000000 in
theorem markIntSS_own (B S : Nat) (v : Value) (k : Int) (m : List (List Int)) (w : World) (hk : 0 ≤ k) (hkn : k + sumN (m.map List.length) ≤ 1099511627776) (hn : m.length ≤ 1048576) (h1 : OwnMat w B S v m) :
    Calls Try.prog 59 #[v, .int .i64 k] w fun e w' => e = .returned (.int .i64 (k + sumN (m.map List.length))) ∧ OwnMat w' B S v (marksM k (m.map List.length)) ∧ KeepsOut B S w w' := by
  obtain ⟨t0, vs, hvl, ho, hrows, hdis, hap, hvS⟩ := h1
  have hml : (m.map List.length).length = m.length := by simp
  have hat : ∀ i (h : i < m.length) (h' : i < (m.map List.length).length), (m.map List.length)[i] = m[i].length := fun i h h' => by simp
  generalize hns : m.map List.length = ns at hkn hml hat ⊢
  clear hns
  by_cases hl : m.length = 0
  · have hns0 : ns = [] := List.eq_nil_of_length_eq_zero (by omega)
    have hm0 : m = [] := List.eq_nil_of_length_eq_zero hl
    subst hns0; subst hm0
    obtain ⟨A, cp, rfl⟩ := own_slice ho
    have HALL : Hid (OwnMat w B S (.slice A 0 cp) []) := ⟨t0, vs, hvl, ho, hrows, hdis, hap, hvS⟩
    clear ho hrows hdis hap hvS hat
    go_enter Try.func59, Try.ntmps59
    go_wp2
    refine wp_loop_rounds 1 ?_
    rw [rounds_succ]
    go_wp2
    go_ret
    exact ⟨ret_int (by simp [sumN]), HALL.out, KeepsOut.refl _ _ _⟩
  obtain ⟨g, cp, rfl, _⟩ := own_some ho (by omega)
  have hgB := (ho.lt g rfl).1
  have hgS := hvS g rfl
  have HO := Lib.hid ho
  have HROWS := Lib.hid hrows
  have HDIS := Lib.hid hdis
  have HAP := Lib.hid hap
  have HVL := Lib.hid hvl
  have HML := Lib.hid hml
  have HAT := Lib.hid hat
  clear ho hrows hdis hap hvS hvl hml hat
  go_enter Try.func59, Try.ntmps59
  go_wp2
  go_loopw [1, 5] (fun q i w' => ∃ (j : Nat), j ≤ m.length ∧ i = .int .i64 j ∧ q = .int .i64 (k + sumN (ns.take j)) ∧ w'.ownsRow B t0 1 (.slice (some ⟨g, 0, none⟩) m.length cp) m.length vs ∧
    (∀ i (h : i < vs.length) (h' : i < m.length) (h2 : i < ns.length), ∃ te, w'.ownsRow B te 1 vs[i] m[i].length (if i < j then ints (upto (k + sumN (ns.take i)) ns[i]) else ints m[i])) ∧ KeepsOut B S w w') (fun _ i _ => m.length - (intOf i).toNat)
  case atStart => exact ⟨0, by omega, rfl, by simp [sumN], HO.out, fun i h h' h2 => by simpa using HROWS.out i h h', KeepsOut.refl _ _ _⟩
  case round =>
    obtain ⟨j, hj, rfl, rfl, hoj, hrj, hkj⟩ := hrel
    by_cases hlt : j < m.length
    · have hjv : j < vs.length := by have := HVL.out; omega
      have hjn : j < ns.length := by have := HML.out; omega
      obtain ⟨te, hrow⟩ := hrj j hjv hlt hjn
      rw [if_neg (Nat.lt_irrefl j)] at hrow
      have g1 : wr.cell? ⟨g, j, none⟩ = some vs[j] := (hoj.cellAt j (by omega)).trans (List.getElem?_eq_getElem hjv)
      have hs1 := sumN_take ns j hjn
      have hs2 := sumN_take_le ns (j + 1)
      have hle := HAT.out j hlt hjn
      have hb1 : 0 ≤ k + (sumN (ns.take j) : Int) := by omega
      have hb2 : k + (sumN (ns.take j) : Int) + (m[j].length : Int) ≤ 9223372036854775807 := by omega
      have HS := Lib.hid hs1
      have HLE := Lib.hid hle
      have HRW := Lib.hid hrow
      have HOJ := Lib.hid hoj
      have HRJ := Lib.hid hrj
      have HKJ := Lib.hid hkj
      clear hs1 hle hrow hoj hrj hkj
      go_wp2_with fail
      refine (markIntS_own B vs[j] (k + sumN (ns.take j)) m[j].length _ _ hb1 hb2 HRW.out).mono ?_
      rintro e w3 ⟨rfl, ho3, hg3⟩
      have hnot : ∀ x, vs[j].ownBlock = some x → x ≠ g := fun x hx e => (HAP.out j hjv x hx).1 (by rw [e]; rfl)
      have hin : ∀ x, vs[j].ownBlock = some x → B ≤ x ∧ x < S := fun x hx => ⟨(HRW.out.lt x hx).1, (HAP.out j hjv x hx).2⟩
      have HO3 : Hid (w3.ownsRow B t0 1 (.slice (some ⟨g, 0, none⟩) m.length cp) m.length vs) := own_apart HOJ.out hg3 (fun x h1 h2 => hnot x h2 (by simpa [Value.ownBlock] using h1.symm))
      have HR3 : Hid (∀ i (h : i < vs.length) (h' : i < m.length) (h2 : i < ns.length), ∃ te, w3.ownsRow B te 1 vs[i] m[i].length (if i < j + 1 then ints (upto (k + sumN (ns.take i)) ns[i]) else ints m[i])) := fun i h h' h2 => by
        by_cases e : i = j
        · subst e
          rw [if_pos (Nat.lt_succ_self _), HLE.out]
          exact ⟨te, ho3⟩
        · obtain ⟨te', hr'⟩ := HRJ.out i h h' h2
          refine ⟨te', ?_⟩
          have hr'' := own_apart hr' hg3 (fun x h1 h3 => e (HDIS.out i j h hjv x h1 h3))
          by_cases e2 : i < j
          · rw [if_pos e2] at hr''
            rw [if_pos (by omega)]
            exact hr''
          · rw [if_neg e2] at hr''
            rw [if_neg (by omega)]
            exact hr''
      have HK3 : Hid (KeepsOut B S w w3) := HKJ.out.trans (KeepsOut.of_grown hg3 hin)
      clear ho3 hg3 hnot hin
      go_wp2_with fail
      go_roundw
      case rel => exact ⟨j + 1, by omega, by go_num, by rw [HS.out, HLE.out]; congr 1; omega, HO3.out, HR3.out, HK3.out⟩
      case measure => simp [intOf]; omega
    · have hjn : j = m.length := by omega
      subst hjn
      have HOJ := Lib.hid hoj
      have HRJ := Lib.hid hrj
      have HKJ := Lib.hid hkj
      have hns : ns.take m.length = ns := List.take_of_length_le (by rw [HML.out]; exact Nat.le_refl _)
      rw [hns]
      clear hoj hrj hkj hns
      go_wp2_with fail
      go_ret
      have hMl : (marksM k ns).length = m.length := by rw [marksM_length]; exact HML.out
      refine ⟨rfl, ⟨t0, vs, by rw [hMl]; exact HVL.out, by rw [hMl]; exact HOJ.out, fun i h h' => ?_, HDIS.out, HAP.out, fun x hx => by simp [Value.ownBlock] at hx; omega⟩, HKJ.out⟩
      have h2 : i < ns.length := by rw [← marksM_length ns k]; exact h'
      have h3 : i < m.length := by rw [← HML.out]; exact h2
      obtain ⟨te, hr'⟩ := HRJ.out i h h3 h2
      rw [if_pos h3] at hr'
      refine ⟨te, ?_⟩
      rw [marksM_at ns k i h2, upto_length, HAT.out i h3 h2]
      rw [HAT.out i h3 h2] at hr'
      exact hr'
end Go.Proofs.Ytfcbfflkajlhnaa

/- szIntSS: a bound on all that a slice of slices of ints holds. -/
namespace Go.Proofs.Ytfcbfflkajlhnaa
open Go.ChangeShapes Go.WideShapes Go.RowKit

def lens (m : List (List Int)) : List Nat := m.map List.length
theorem lens_at (m : List (List Int)) (j : Nat) (h : j < m.length) (h' : j < (lens m).length) : (lens m)[j] = m[j].length := by simp [lens]
/-- what szIntSS says -/
def SzMat (m : List (List Int)) (left : Int) (w : World) (e : Ending) (w' : World) : Prop :=
  w = w' ∧ ∃ r : Int, e = .returned (.int .i64 r) ∧ -1 ≤ r ∧ r ≤ left ∧ (0 ≤ r → (m.length : Int) + sumN (lens m) + r = left)
theorem szI_neg {left : Int} {n : Nat} (h : left < n) : szI left n = -1 := if_pos h
theorem szI_pos {left : Int} {n : Nat} (h : ¬ left < n) : szI left n = left - n := if_neg h

/-- a slice of slices of ints that came in, opened -/
theorem mat_cell {H : Type} {enc : TypeId × Value → H} {P : Program} {w : World} {base fuel : Nat} {t e q : TypeId} {v : Value} {y : DataW H × List MemPlace} (ht : P.underlying t = some (.slice e)) (he : P.underlying e = some (.slice q)) (hq : P.underlying q = some (.int .i64)) (ce : P.cellsOf e = 1) (cq : P.cellsOf q = 1)
    (hf : DataW.trod enc P w base (fun _ => true) true fuel t [v] = some y) : ∃ m : List (List Int), Mat w v m ∧ (∀ r ∈ m, ∀ z ∈ r, (Lit.int .i64 z).wf = true) ∧ m.length ≤ 9223372036854775807 := by
  rcases Deep.open_int_rows ht he hq ce cq hf with ⟨hcs, _⟩ | ⟨a, len, cap, A, L, C, Z, hcs, _, hl, hm, _, hrow⟩
  · simp at hcs
    subst hcs
    exact ⟨[], ⟨[], ⟨none, 0, by simp, by simp, by simp [maxLen], .inl rfl⟩, rfl, fun i h => absurd h (by simp)⟩, by simp, by simp⟩
  · simp at hcs
    subst hcs
    have hml : ((List.range len).map fun r => (Z r).take (L r)).length = len := by simp
    refine ⟨(List.range len).map fun r => (Z r).take (L r), ⟨(List.range len).map fun r => Value.slice (A r) (L r) (C r), ?_, by simp, fun i h h' => ?_⟩, fun r hr z hz => ?_, by simp; unfold maxLen at hm; omega⟩
    · refine ⟨some a, cap, by simp, by simpa using hl, hm, ?_⟩
      by_cases h0 : len = 0
      · subst h0
        exact .inl (by simp)
      · obtain ⟨b, off, spot⟩ := a
        have h1 := (hrow 0 (by omega)).1
        have hspot : spot = none := by simpa [Addr.add] using World.cell?_spot h1
        subst hspot
        refine .inr ⟨b, off, rfl, fun i u hu => ?_⟩
        have hi : i < len := by
          have := (List.getElem?_eq_some_iff.1 hu).1
          simpa using this
        have h2 := (hrow i (by omega)).1
        rw [Addr.add_lit] at h2
        rw [h2]
        simp [hi] at hu
        rw [hu]
    · have hi : i < len := by simpa using h'
      obtain ⟨_, hLC, hCm, hZ, _, hAn, hcell⟩ := hrow i (by omega)
      simp only [List.getElem_map, List.getElem_range]
      refine ⟨A i, C i, by simp [ints, hZ, Nat.min_eq_left hLC], by simp [ints, hZ, Nat.min_eq_left hLC]; exact hLC, hCm, ?_⟩
      by_cases h0 : L i = 0
      · exact .inl (by simp [ints, h0])
      · rcases hA : A i with _ | ⟨b, off, spot⟩
        · have := hAn hA
          omega
        · have h1 := (hcell _ hA).2 0 (by omega)
          have hspot : spot = none := by simpa [Addr.add] using World.cell?_spot h1
          subst hspot
          refine .inr ⟨b, off, rfl, fun c u hu => ?_⟩
          have hc : c < L i := by
            have := (List.getElem?_eq_some_iff.1 hu).1
            simp [ints, hZ, Nat.min_eq_left hLC] at this
            omega
          have h2 := (hcell _ hA).2 c (by omega)
          rw [Addr.add_lit] at h2
          rw [h2]
          simp [ints, hc] at hu
          obtain ⟨x, hx, rfl⟩ := hu
          simp [List.getD, hx]
    · obtain ⟨i, hi, rfl⟩ := List.mem_map.1 hr
      have hi' : i < len := by simpa using hi
      exact (hrow i (by omega)).2.2.2.2.1 z (List.mem_of_mem_take hz)
end Go.Proofs.Ytfcbfflkajlhnaa
