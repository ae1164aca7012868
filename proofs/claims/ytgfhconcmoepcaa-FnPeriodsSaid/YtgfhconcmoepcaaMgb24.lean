/- Texts put together. -/
import Derived.Test.YtgfhconcmoepcaaMgb22
import Derived.Test.YtgfhconcmoepcaaMgb23
import Derived.Deep.RegionHeld3
import Derived.Deep.RegionLawGrows
/- The program's closure that finds out more: the longest borders of all beginnings up to n, kept in a slice of its own. Conditions: its memory is as longestBorder has laid it. -/
namespace Go.Proofs.Ytgfhconcmoepcaa
open Go.RowKit

/-- what the closures have captured; the numbers that are known lie in a row of their own, as does the variable that holds it -/
structure KmpOwn (s : ByteArray) (p1 p3 p4 p5 B k : Nat) (A : Option Addr) (cp : Nat) (w : World) : Prop where
  b1 : p1 < B
  b3 : p3 < B
  b4 : p4 < B
  c1 : w.cell? ⟨p1, 0, none⟩ = some (.string s)
  c3 : w.cell? ⟨p3, 0, none⟩ = some (.func (.func 97) #[] #[.pointer (some ⟨p5, 0, none⟩), .pointer (some ⟨p4, 0, none⟩), .pointer (some ⟨p1, 0, none⟩)])
  c4 : w.cell? ⟨p4, 0, none⟩ = some (.func (.func 98) #[] #[.pointer (some ⟨p1, 0, none⟩), .pointer (some ⟨p4, 0, none⟩), .pointer (some ⟨p3, 0, none⟩)])
  row : w.ownsRow B 3 1 (.slice A k cp) k (ints (knL (ltO s) k))
  var : w.ownsRow B 24 1 (.slice (some ⟨p5, 0, none⟩) 1 1) 1 [.slice A k cp]
section
variable {s : ByteArray} {p1 p3 p4 p5 B k cp : Nat} {A : Option Addr} {w w' : World}
theorem KmpOwn.c5 (h : KmpOwn s p1 p3 p4 p5 B k A cp w) : w.cell? ⟨p5, 0, none⟩ = some (.slice A k cp) := h.var.cellAt 0 (by omega)
theorem KmpOwn.f5 (h : KmpOwn s p1 p3 p4 p5 B k A cp w) : w.frozen? ⟨p5, 0, none⟩ = false := h.var.frozenAt 0
theorem KmpOwn.at (h : KmpOwn s p1 p3 p4 p5 B k A cp w) (hk : 0 < k) : ∃ g, A = some ⟨g, 0, none⟩ ∧ KmpAt s p1 p3 p4 p5 g k cp w := by
  obtain ⟨g, cp', he, _⟩ := own_some h.row hk
  injection he with he _ he2
  subst he
  refine ⟨g, rfl, h.c1, h.c3, h.c4, h.c5, fun i hi => ?_⟩
  rw [World.ownsRow.cellAt h.row i (by omega)]
  unfold ints
  rw [List.getElem?_map, knL_at hi]
  rfl
theorem KmpOwn.drewN (h : KmpOwn s p1 p3 p4 p5 B k A cp w) (n : Nat) : KmpOwn s p1 p3 p4 p5 B k A cp (w.drewN n) := ⟨h.b1, h.b3, h.b4, h.c1, h.c3, h.c4, h.row, h.var⟩
theorem KmpOwn.below (h : KmpOwn s p1 p3 p4 p5 B k A cp w) (hb : Below w.heap.size w w') : KmpOwn s p1 p3 p4 p5 B k A cp w' :=
  ⟨h.b1, h.b3, h.b4, (hb.cell (World.block_lt_of_cell? w _ h.c1)).trans h.c1, (hb.cell (World.block_lt_of_cell? w _ h.c3)).trans h.c3, (hb.cell (World.block_lt_of_cell? w _ h.c4)).trans h.c4, own_below h.row hb, own_below h.var hb⟩
/-- append to the row, and the variable still holds the old one -/
theorem KmpOwn.var_stays (h : KmpOwn s p1 p3 p4 p5 B k A cp w) (hg : w.grownBy w' (Value.slice A k cp).ownBlock) : w'.ownsRow B 24 1 (.slice (some ⟨p5, 0, none⟩) 1 1) 1 [.slice A k cp] :=
  own_apart h.var hg (fun q a b => own_ne h.var h.row (by decide) q a b)
/-- the variable is set to a longer row -/
theorem KmpOwn.next {A' : Option Addr} {cp' : Nat} (h : KmpOwn s p1 p3 p4 p5 B k A cp w) (hg : w.grownBy w' (Value.slice A k cp).ownBlock) (hr : w'.ownsRow B 3 1 (.slice A' (k + 1) cp') (k + 1) (ints (knL (ltO s) (k + 1)))) (hB : B ≤ w.heap.size) :
    KmpOwn s p1 p3 p4 p5 B (k + 1) A' cp' (w'.setCell ⟨p5, 0, none⟩ (.slice A' (k + 1) cp')) := by
  have hv := h.var_stays hg
  have hb : Below B w w' := (Below.refl _ _).grown hg hB (fun q hq => (h.row.lt q hq).1)
  have hp5 := (hv.lt p5 rfl).1
  have hbs := hb.setCell (p := ⟨p5, 0, none⟩) hp5 (.slice A' (k + 1) cp')
  refine ⟨h.b1, h.b3, h.b4, (hbs.cell (p := ⟨p1, 0, none⟩) h.b1).trans h.c1, (hbs.cell (p := ⟨p3, 0, none⟩) h.b3).trans h.c3, (hbs.cell (p := ⟨p4, 0, none⟩) h.b4).trans h.c4, ?_, ?_⟩
  · refine own_setCell2 hr (fun q hq e => ?_) _
    exact own_ne hr hv (by decide) q hq (by rw [e]; rfl)
  · exact (hv.stored 0 (.slice A' (k + 1) cp')).1
end

/-- append to a row of the call's own, as one step of a region that draws; the old cells still stand where they stood -/
theorem step_own_k {P : Program} {ops : Array Oper} {o : Oper} {a : Act} {w : World} {K : Act → World → Prop} {Q : Exit → Act → World → Prop} {E : Prop}
    (hg : o.guard = none) (s x : Operand) (t : TypeId) (hop : o.op = Op.call { callee := Callee.builtin Builtin.append, args := #[s, x], argTypes := #[t, t] })
    (base : Nat) (e : TypeId) (i : TypeInfo) (z : Value) (bytes : Nat) (h1 : P.underlying t = some (.slice e)) (h2 : P.info? e = some i) (h3 : i.zero = some z) (h4 : i.size = 1) (h5 : i.bytes = bytes) (h6 : z.cells.size = 1)
    (g n cap : Nat) (xs : List Value) (hs : a.eval s = .slice (some ⟨g, 0, none⟩) n cap) (hown : w.ownsRow base e 1 (.slice (some ⟨g, 0, none⟩) n cap) n xs)
    (ad : Addr) (m c : Nat) (news : List Value) (hx : a.eval x = .slice (some ad) m c) (hn : news.length = m) (hc : ∀ j u, news[j]? = some u → w.cell? (ad.add j) = some u) (h1c : ∀ u ∈ news, u.oneCell' = true)
    (b1 : n + m ≤ maxLen) (b2 : (n + m) * bytes ≤ 140737488355328) (hb : base ≤ w.heap.size)
    (hK : ∀ v' w', w'.ownsRow base e 1 v' (n + m) (xs ++ news) → w.grownBy w' (some g) → (∀ j u, xs[j]? = some u → w'.cell? ⟨g, j, none⟩ = some u) → K (a.put o.dst v') w') :
    if Region.wanted o (yielded ops a.tmps) = true then Oper.wp P o a w K Q else E := by
  by_cases hroom : n + m ≤ cap
  · have hw : Region.wanted o (yielded ops a.tmps) = true := by simp [Region.wanted, hg]
    rw [if_pos hw]
    obtain ⟨w', hrun, r1, r2⟩ := run_append_fits (P := P) w base t o.type e i 1 h1 h2 h4 g n cap xs hown ad m c news (by rw [hn, Nat.mul_one]) hc h1c hroom
    unfold Oper.wp
    simp [execOp, hop, resolve, invoke, builtin, hs, hx, hrun, Result.andThen]
    refine hK _ w' r1 r2 (fun j u hu => ?_)
    have hj := (List.getElem?_eq_some_iff.1 hu).1
    have hl := r1.1
    rw [List.length_append] at hl
    rw [r1.cellAt j (by omega), List.getElem?_append_left hj]
    exact hu
  · refine step_append_grows hg s x t hop e i z 1 bytes h1 h2 h3 h4 h5 h6 (by decide) (some ⟨g, 0, none⟩) n cap xs hs (fun e => by cases e) (by have := hown.1; omega) (fun b hb j u hu => ?_) ad m c news hx (by omega) hc h1c (by omega) b1 b2 ?_
    · injection hb with hb
      subst hb
      exact hown.cells (g := g) rfl j u hu
    · intro v' w' r1 r2
      refine hK v' w' (own_mono r1 hb) ⟨r2.os, r2.tape, r2.output, r2.size, fun i hi _ => r2.block i hi (by simp)⟩ (fun j u hu => ?_)
      have := hown.cells (g := g) rfl j u hu
      rw [Addr.add_lit, Nat.zero_add] at this
      exact r2.cell (a := ⟨g, j, none⟩) this (by simp)

/-- the numbers up to n are known -/
def KmpTo (s : ByteArray) (p1 p3 p4 p5 B n : Nat) (w : World) : Prop := ∃ k A cp, n < k ∧ k ≤ 1048576 ∧ KmpOwn s p1 p3 p4 p5 B k A cp w

set_option maxRecDepth 100000 in
set_option maxHeartbeats 1000000 in
theorem implLongestAll (s : ByteArray) (p1 p3 p4 p5 B k cp n : Nat) (A : Option Addr) (w : World) (h : KmpOwn s p1 p3 p4 p5 B k A cp w) (hk : 2 ≤ k) (hks : k ≤ 1048576) (hn : n ≤ s.size) (hs : s.size ≤ 1048575) (hB : B ≤ w.heap.size) :
    Calls Try.prog 97 #[.int .i64 (n : Int), .pointer (some ⟨p5, 0, none⟩), .pointer (some ⟨p4, 0, none⟩), .pointer (some ⟨p1, 0, none⟩)] w fun e w' => e = .returned (.int .i64 ((brN (ltO s) n : Nat) : Int)) ∧ KmpTo s p1 p3 p4 p5 B n w' ∧ Below B w w' := by
  obtain ⟨i0, hi0, hz0, hz1, hz2⟩ := info_parts int_info
  have c5 := h.c5
  have HK := Lib.hid h
  clear h
  go_enter Try.func97, Try.ntmps97
  go_wp2_with fail
  clear c5
  go_loopw [6] (fun i wr => ∃ (m : Nat) (A' : Option Addr) (cp' : Nat), 1 ≤ m ∧ m + 1 ≤ 1048576 ∧ i = .int .i64 ((m : Int) + 1) ∧ KmpOwn s p1 p3 p4 p5 B (m + 1) A' cp' wr ∧ Below B w wr) (fun i _ => n + 1 - (intOf i).toNat)
  case atStart =>
    obtain ⟨m, rfl⟩ : ∃ m, k = m + 1 := ⟨k - 1, by omega⟩
    exact ⟨m, A, cp, by omega, hks, rfl, HK.out, Below.refl _ _⟩
  case round =>
    obtain ⟨m, A', cp', hm1, hm2, rfl, hko, hb⟩ := hrel
    obtain ⟨g, rfl, hat⟩ := hko.at (by omega)
    have HKO := Lib.hid hko
    have HB := Lib.hid hb
    have c5 := hko.c5
    have hBr : B ≤ wr.heap.size := by have := hb.size; omega
    by_cases hlt : (m : Int) + 1 ≤ (n : Int)
    · have c1 := hko.c1
      have c4 := hko.c4
      have ck := hat.ck m (by omega)
      have hms : m < s.size := by omega
      have e1 : IntKind.i64.wrap ((m : Int) + 1 - 1) = (m : Int) := by rw [IntWalk.i64_in _ (by omega)]; omega
      have hmi : (m : Int) < (m : Int) + 1 := by omega
      have e2 : IntKind.i64.wrap (m : Int) = (m : Int) := IntWalk.i64_in _ (by omega)
      have hx : ∀ w : World, (Instr.index 54 (.string s) (.int .i64 (m : Int))).run Try.prog w = .ok (.int .u8 (s[m].toNat : Int)) w := fun w => index_at Try.underlying54 s m m w hms rfl
      have hbl := brN_lt (c := ltO s) hm1
      have HW := Lib.hid (fun q => implWider s m p1 p3 p4 p5 g (m + 1) cp' hms (by omega) (brN (ltO s) m) (wr.drewN q) (by omega) (brN_ok hm1) (tops_start _ _) (hat.drewN q))
      have HN := Lib.hid (knL_next (ltO s) (m + 1))
      have HBM : Hid ((ints (knL (ltO s) (m + 1)))[m]? = some (.int .i64 ((brN (ltO s) m : Nat) : Int))) := by show _ = _; unfold ints; rw [List.getElem?_map, knL_at (by omega)]; rfl
      clear hko hat hb hbl
      generalize brN (ltO s) m = b at ck HW HBM
      generalize (s[m].toNat : Int) = x at hx HW
      generalize brN (ltO s) (m + 1) = r at HW HN
      go_wp2_with fail
      have HP5 := Lib.hid (HKO.out.var.lt p5 rfl)
      have p5lt : p5 < wr.heap.size := HP5.out.2
      have p1lt : p1 < wr.heap.size := World.block_lt_of_cell? wr _ c1
      have p4lt : p4 < wr.heap.size := World.block_lt_of_cell? wr _ c4
      have glt : g < wr.heap.size := World.block_lt_of_cell? wr _ ck
      have n1 : p1 ≠ p5 := by have := HKO.out.b1; have := HP5.out.1; omega
      have n4 : p4 ≠ p5 := by have := HKO.out.b4; have := HP5.out.1; omega
      have ng : g ≠ p5 := fun e => own_ne HKO.out.row HKO.out.var (by decide) g rfl (by rw [e]; rfl)
      have n1' := n1.symm
      have n4' := n4.symm
      have ng' := ng.symm
      refine wp_region_pop (L := ?popA) (o := ?popB) (S := (fun w' => w'.cell? ⟨p5, 0, none⟩ = some (.slice (some ⟨g, 0, none⟩) (m + 1) cp') ∧ w'.cell? ⟨p1, 0, none⟩ = some (.string s) ∧ w'.cell? ⟨p4, 0, none⟩ = some (.func (.func 98) #[] #[.pointer (some ⟨p1, 0, none⟩), .pointer (some ⟨p4, 0, none⟩), .pointer (some ⟨p3, 0, none⟩)]) ∧ w'.cell? ⟨g, m, none⟩ = some (.int .i64 (b : Int)))) (by kernel_rfl) ?popL rfl ?popo (by kernel_rfl) ?popS (fun hHeld => ?popr)
      case popL => simp only [List.dropLast]; rfl
      case popo => simp only [List.getLast?_cons_cons, List.getLast?_singleton]; rfl
      case popS => exact ⟨c5, c1, c4, ck⟩
      refine wpAnyH_take (i := 0) (v := ?take0v) (by simp only [List.getElem?_toArray, List.getElem?_cons_zero]; rfl) (by kernel_rfl) (by kernel_rfl) (by kernel_rfl) (by exact fun _ _ _ h => h) (Or.inl ⟨by rfl, ?take0y⟩) (by assumption) ?take0r
      case take0y => (intro w hSw; (try dsimp only at hSw); go_simp; try with_reducible rfl)
      try simp only [Act.put, List.setIfInBounds_toArray, List.set_cons_zero, List.set_cons_succ]
      refine wpAnyH_take (i := 1) (v := ?take1v) (by simp only [List.getElem?_toArray, List.getElem?_cons_zero, List.getElem?_cons_succ]; rfl) (by kernel_rfl) (by kernel_rfl) (by kernel_rfl) (by exact fun _ _ _ h => h) (Or.inl ⟨by rfl, ?take1y⟩) (by assumption) ?take1r
      case take1y => (intro w hSw; (try dsimp only at hSw); go_simp; try with_reducible rfl)
      try simp only [Act.put, List.setIfInBounds_toArray, List.set_cons_zero, List.set_cons_succ]
      refine wpAnyH_take (i := 2) (v := ?take2v) (by simp only [List.getElem?_toArray, List.getElem?_cons_zero, List.getElem?_cons_succ]; rfl) (by kernel_rfl) (by kernel_rfl) (by kernel_rfl) (by exact fun _ _ _ h => h) (Or.inl ⟨by rfl, ?take2y⟩) (by assumption) ?take2r
      case take2y => (intro w hSw; (try dsimp only at hSw); go_simp; try with_reducible rfl)
      try simp only [Act.put, List.setIfInBounds_toArray, List.set_cons_zero, List.set_cons_succ]
      refine wpAnyH_take (i := 3) (v := ?take3v) (by simp only [List.getElem?_toArray, List.getElem?_cons_zero, List.getElem?_cons_succ]; rfl) (by kernel_rfl) (by kernel_rfl) (by kernel_rfl) (by exact fun _ _ _ h => h) (Or.inl ⟨by rfl, ?take3y⟩) (by assumption) ?take3r
      case take3y => (intro w hSw; (try dsimp only at hSw); go_simp; try with_reducible rfl)
      try simp only [Act.put, List.setIfInBounds_toArray, List.set_cons_zero, List.set_cons_succ]
      refine wpAnyH_take (i := 4) (v := ?take4v) (by simp only [List.getElem?_toArray, List.getElem?_cons_zero, List.getElem?_cons_succ]; rfl) (by kernel_rfl) (by kernel_rfl) (by kernel_rfl) (by exact fun _ _ _ h => h) (Or.inl ⟨by rfl, ?take4y⟩) (by assumption) ?take4r
      case take4y => (intro w hSw; (try dsimp only at hSw); go_simp; try with_reducible rfl)
      try simp only [Act.put, List.setIfInBounds_toArray, List.set_cons_zero, List.set_cons_succ]
      refine wpAnyH_take (i := 5) (v := ?take5v) (by simp only [List.getElem?_toArray, List.getElem?_cons_zero, List.getElem?_cons_succ]; rfl) (by kernel_rfl) (by kernel_rfl) (by kernel_rfl) (by exact fun _ _ _ h => h) (Or.inl ⟨by rfl, ?take5y⟩) (by assumption) ?take5r
      case take5y => (intro w hSw; (try dsimp only at hSw); go_simp; try with_reducible rfl)
      try simp only [Act.put, List.setIfInBounds_toArray, List.set_cons_zero, List.set_cons_succ]
      refine wpAnyH_take (i := 6) (v := ?take6v) (by simp only [List.getElem?_toArray, List.getElem?_cons_zero, List.getElem?_cons_succ]; rfl) (by kernel_rfl) (by kernel_rfl) (by kernel_rfl) (by exact fun _ _ _ h => h) (Or.inl ⟨by rfl, ?take6y⟩) (by assumption) ?take6r
      case take6y => (intro w hSw; (try dsimp only at hSw); go_simp; try with_reducible rfl)
      try simp only [Act.put, List.setIfInBounds_toArray, List.set_cons_zero, List.set_cons_succ]
      refine wpAnyH_take (i := 7) (v := ?take7v) (by simp only [List.getElem?_toArray, List.getElem?_cons_zero, List.getElem?_cons_succ]; rfl) (by kernel_rfl) (by kernel_rfl) (by kernel_rfl) (by exact fun _ _ _ h => h) (Or.inl ⟨by rfl, ?take7y⟩) (by assumption) ?take7r
      case take7y => (intro w hSw; (try dsimp only at hSw); go_simp; try with_reducible rfl)
      try simp only [Act.put, List.setIfInBounds_toArray, List.set_cons_zero, List.set_cons_succ]
      refine wpAnyH_take (i := 8) (v := ?take8v) (by simp only [List.getElem?_toArray, List.getElem?_cons_zero, List.getElem?_cons_succ]; rfl) (by kernel_rfl) (by kernel_rfl) (by kernel_rfl) (by exact fun _ _ _ h => h) (Or.inl ⟨by rfl, ?take8y⟩) (by assumption) ?take8r
      case take8y => (intro w hSw; (try dsimp only at hSw); go_simp; try with_reducible rfl)
      try simp only [Act.put, List.setIfInBounds_toArray, List.set_cons_zero, List.set_cons_succ]
      refine wpAnyH_take (i := 9) (v := ?take9v) (by simp only [List.getElem?_toArray, List.getElem?_cons_zero, List.getElem?_cons_succ]; rfl) (by kernel_rfl) (by kernel_rfl) (by kernel_rfl) (by exact fun _ _ _ h => h) (Or.inl ⟨by rfl, ?take9y⟩) (by assumption) ?take9r
      case take9y => (intro w hSw; (try dsimp only at hSw); go_simp; try with_reducible rfl)
      try simp only [Act.put, List.setIfInBounds_toArray, List.set_cons_zero, List.set_cons_succ]
      refine wpAnyH_take (i := 10) (v := ?take10v) (by simp only [List.getElem?_toArray, List.getElem?_cons_zero, List.getElem?_cons_succ]; rfl) (by kernel_rfl) (by kernel_rfl) (by kernel_rfl) (by exact fun _ _ _ h => h) (Or.inl ⟨by rfl, ?take10y⟩) (by assumption) ?take10r
      case take10y => (intro w hSw; (try dsimp only at hSw); go_simp; try with_reducible rfl)
      try simp only [Act.put, List.setIfInBounds_toArray, List.set_cons_zero, List.set_cons_succ]
      refine wpAnyH_ready (rs := [11]) (by kernel_rfl) (by simp) ?_
      refine AllReadyH.cons (by simp only [List.getElem?_toArray, List.getElem?_cons_zero, List.getElem?_cons_succ]; rfl) (fun K hK => ?_) AllReadyH.nil
      go_simp
      go_at_call 98
      refine (HW.out 1).mono ?_
      rintro e w2 ⟨rfl, hq⟩
      have HK2 : Hid (KmpOwn s p1 p3 p4 p5 B (m + 1) (some ⟨g, 0, none⟩) cp' w2) := by
        obtain ⟨q, rfl⟩ := hq
        exact (HKO.out.drewN 1).drewN q
      have HB2 : Hid (Below B w w2) := by
        obtain ⟨q, rfl⟩ := hq
        exact below_drewN (below_drewN HB.out 1) q
      replace ck : w2.cell? ⟨g, m, none⟩ = some (.int .i64 (b : Int)) := by
        obtain ⟨q, rfl⟩ := hq
        exact ck
      replace c5 := HK2.out.c5
      replace c1 := HK2.out.c1
      replace c4 := HK2.out.c4
      replace p5lt : p5 < w2.heap.size := World.block_lt_of_cell? w2 _ c5
      replace p1lt : p1 < w2.heap.size := World.block_lt_of_cell? w2 _ c1
      replace p4lt : p4 < w2.heap.size := World.block_lt_of_cell? w2 _ c4
      replace glt : g < w2.heap.size := World.block_lt_of_cell? w2 _ ck
      have hz2' : B ≤ w2.heap.size := by have := HB2.out.size; omega
      clear hq hHeld
      go_wp2_with fail
      refine hK.out _ _ ⟨c5, c1, c4, ck⟩ (fun hHeld => ?_)
      clear hK K
      try simp only [Act.put, List.setIfInBounds_toArray, List.set_cons_zero, List.set_cons_succ]
      refine wpAnyH_ready (rs := [12]) (by kernel_rfl) (by simp) ?_
      refine AllReadyH.cons (by simp only [List.getElem?_toArray, List.getElem?_cons_zero, List.getElem?_cons_succ]; rfl) (fun K hK => ?_) AllReadyH.nil
      go_simp
      refine hK.out _ _ ?_ (fun hHeld2 => ?_)
      · refine ⟨?_, ?_, ?_, ?_⟩ <;> go_simp
      clear hK K hHeld
      try simp only [Act.put, List.setIfInBounds_toArray, List.set_cons_zero, List.set_cons_succ]
      refine wpAnyH_ready (rs := [13]) (by kernel_rfl) (by simp) ?_
      refine AllReadyH.cons (by simp only [List.getElem?_toArray, List.getElem?_cons_zero, List.getElem?_cons_succ]; rfl) (fun K hK => ?_) AllReadyH.nil
      refine step_own_k rfl (.tmp 14) (.tmp 26) 24 rfl B 3 i0 _ 8 Try.underlying24 hi0 hz0 hz1 hz2 rfl g (m + 1) cp' (ints (knL (ltO s) (m + 1))) (by simp [Act.eval]) (HK2.out.row.alloc _) ⟨w2.heap.size, 0, none⟩ 1 1 [.int .i64 (r : Int)] (by simp [Act.eval]) rfl (fun j u hu => cell_one _ _ _ j u hu) (fun u hu => by simp at hu; subst hu; rfl) (by unfold maxLen; omega) (by omega) (by simp; omega) ?_
      intro v3 w3 hown3 hgr3 hkp3
      have HG3 := Lib.hid (grown_trans (World.grownBy_alloc _ _ _) hgr3)
      have HR3 : Hid (w3.ownsRow B 3 1 v3 (m + 1 + 1) (ints (knL (ltO s) (m + 1 + 1)))) := by
        rw [HN.out, ints_snoc]
        exact hown3
      obtain ⟨A3, cp3, rfl⟩ := own_slice HR3.out
      have HV3 := Lib.hid (HK2.out.var_stays HG3.out)
      have HB3 : Hid (Below B w2 w3) := (Below.refl _ _).grown HG3.out hz2' (fun q hq => (HK2.out.row.lt q hq).1)
      replace c5 := HV3.out.cellAt 0 (by omega)
      have f53 := HV3.out.frozenAt 0
      replace c1 : w3.cell? ⟨p1, 0, none⟩ = some (.string s) := (HB3.out.cell (p := ⟨p1, 0, none⟩) HK2.out.b1).trans c1
      replace c4 := (HB3.out.cell (p := ⟨p4, 0, none⟩) HK2.out.b4).trans c4
      replace ck : w3.cell? ⟨g, m, none⟩ = some (.int .i64 (b : Int)) := hkp3 m _ HBM.out
      clear hown3 hgr3 hkp3
      refine hK.out _ _ ⟨c5, c1, c4, ck⟩ (fun hHeld => ?_)
      clear hK K hHeld2
      try simp only [Act.put, List.setIfInBounds_toArray, List.set_cons_zero, List.set_cons_succ]
      refine wpAnyH_done (by kernel_rfl) ?_ _
      clear hHeld
      unfold LastQ
      go_simp
      go_wp2_with fail
      go_roundw
      case rel =>
        have hn3 := HK2.out.next HG3.out HR3.out hz2'
        refine ⟨m + 1, A3, cp3, by omega, by omega, by go_num, hn3, ?_⟩
        exact (HB2.out.grown HG3.out hz2' (fun q hq => (HK2.out.row.lt q hq).1)).setCell (HV3.out.lt p5 rfl).1 _
      case measure => simp [intOf]; omega
    · have ck := hat.ck n (by omega)
      clear hko hat hb
      generalize hr : brN (ltO s) n = r at ck
      have HR := Lib.hid hr
      clear hr
      go_wp2_with fail
      go_ret
      exact ⟨by rw [HR.out]; rfl, ⟨_, _, _, by omega, hm2, HKO.out⟩, HB.out⟩
end Go.Proofs.Ytgfhconcmoepcaa
