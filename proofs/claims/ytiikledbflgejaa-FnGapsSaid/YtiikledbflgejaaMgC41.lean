/- Texts put together. -/
import Derived.Test.YtiikledbflgejaaMgC38
import Derived.Test.YtiikledbflgejaaMgC40
/- FnGaps: in company, from the draw of the arc on. -/
namespace Go.Proofs.Ytiikledbflgejaa
open Go.Conc Go.RowKit Go.ChangeShapes Go.WideShapes Go.ChangeAt

section
variable {P : Program} {Fin : Goroutine → World → Prop} {b : Frame} {a : Act} {k : List Item} {cs : List Frame} {w : World}
theorem Can.opI {ops : Array Oper} {i : Nat} {rest : List Nat} {o : Oper} {x y : Int} (hb : b.kind = .normal) (ho : ops[i]? = some o)
    (hw : Region.wanted o (yielded ops a.tmps) = true) (hr : ∀ w, (execOp a.eval o).run P w = .ok (.value (.int .i64 x)) w) (he : ∀ w, (execOp a.eval o).events P w #[] = #[]) (hxy : x = y) (h : Can P Fin (G (b.at (a.put o.dst (.int .i64 y)) (.inRegion ops rest :: k)) cs) w) :
    Can P Fin (G (b.at a (.inRegion ops (i :: rest) :: k)) cs) w := by
  subst hxy
  exact Can.op hb ho hw hr he h
theorem Can.opB {ops : Array Oper} {i : Nat} {rest : List Nat} {o : Oper} {x y : Bool} (hb : b.kind = .normal) (ho : ops[i]? = some o)
    (hw : Region.wanted o (yielded ops a.tmps) = true) (hr : ∀ w, (execOp a.eval o).run P w = .ok (.value (.bool x)) w) (he : ∀ w, (execOp a.eval o).events P w #[] = #[]) (hxy : x = y) (h : Can P Fin (G (b.at (a.put o.dst (.bool y)) (.inRegion ops rest :: k)) cs) w) :
    Can P Fin (G (b.at a (.inRegion ops (i :: rest) :: k)) cs) w := by
  subst hxy
  exact Can.op hb ho hw hr he h
theorem Can.rem {ops : Array Oper} {i : Nat} {rest : List Nat} {o : Oper} {X Y : Operand} {x y z : Int} {t t' : TypeId} (hb : b.kind = .normal) (ho : ops[i]? = some o)
    (hw : Region.wanted o (yielded ops a.tmps) = true) (hop : o.op = .binOp .rem t X Y t') (hX : a.eval X = .int .i64 x) (hY : a.eval Y = .int .i64 y) (hy : y ≠ 0) (hz : x.tmod y = z) (h : Can P Fin (G (b.at (a.put o.dst (.int .i64 z)) (.inRegion ops rest :: k)) cs) w) :
    Can P Fin (G (b.at a (.inRegion ops (i :: rest) :: k)) cs) w := by
  have e : execOp a.eval o = (do pure (.value (.int .i64 z))) := by
    unfold execOp
    simp [hop, hX, hY, binOp_rem, Op.intDiv, hy, hz, eqGuard]
  exact Can.op hb ho hw (fun w => by rw [e]; rfl) (fun w => by rw [e]; rfl) h
theorem Can.condT {c : Operand} {x y : Code} {t : Bool} (hc : a.eval c = .bool t) (ht : t = true) (h : Can P Fin (G (b.at a (.code x :: k)) cs) w) : Can P Fin (G (b.at a (.code (.cond c x y) :: k)) cs) w := by
  subst ht
  exact Can.silent rfl (fun _ => stepG_cond hc) h
end

theorem size_name : (Try.f4.name == "runtime.NumGoroutine") = false := by kernel_rfl
theorem size_body : ∃ c, Try.f4.body = some c := ⟨_, rfl⟩
theorem c_size (vc : Value) (zs : List Int) (c lo hi : Int) (W : World) (hz : IsBytes zs) (hl : Lst W vc (bytesV zs)) (h0 : 0 ≤ c) (h1 : c ≤ 1048576) (h2 : 0 ≤ lo) (h3 : lo ≤ hi) (h4 : hi ≤ lo + 98) (h5 : lo ≤ 1000) :
    CCalls Try.prog 4 #[vc, .int .i64 c, .int .i64 lo, .int .i64 hi] W fun v w' => (∃ x : Int, v = .int .i64 x ∧ lo ≤ x ∧ x ≤ hi) ∧ Bl W.heap.size W w' :=
  (CCalls.of closedS noEarlyS (by kernel_rfl) (R := fun v w' => (∃ x : Int, v = .int .i64 x ∧ lo ≤ x ∧ x ≤ hi) ∧ Bl W.heap.size W w')
    (fun τ d => (makeSize_gen vc zs c lo hi (tp W τ d) hz hl h0 h1 h2 h3 h4 h5).mono fun e w' ⟨x, he, g1, g2, hb⟩ => ⟨_, he, ⟨x, rfl, g1, g2⟩, Bl.tp' (Bl.ofBelow hb)⟩)).mono fun v w' ⟨τ, d, h, hb⟩ => ⟨h, hb.un⟩
theorem rts_name : (Try.f11.name == "runtime.NumGoroutine") = false := by kernel_rfl
theorem rts_body : ∃ c, Try.f11.body = some c := ⟨_, rfl⟩
theorem c_rts (p q x y : Int) (W : World) :
    CCalls Try.prog 11 #[.int .i64 p, .int .i64 q, .int .i64 x, .int .i64 y] W fun v w' => w'.ownsRow W.heap.size 3 1 v (rsR p q x y).length (ints (rsR p q x y)) ∧ Bl W.heap.size W w' :=
  (CCalls.of closedS noEarlyS (by kernel_rfl) (R := fun v w' => w'.ownsRow W.heap.size 3 1 v (rsR p q x y).length (ints (rsR p q x y)) ∧ Bl W.heap.size W w')
    (fun τ d => (implReturnTimes p q x y (tp W τ d)).mono fun e w' ⟨v, he, ho, hb⟩ => ⟨v, he, ho, Bl.tp' (Bl.ofBelow hb)⟩)).mono fun v w' ⟨τ, d, h, hb⟩ => ⟨h, hb.un⟩
theorem rtm_name : (Try.f12.name == "runtime.NumGoroutine") = false := by kernel_rfl
theorem rtm_body : ∃ c, Try.f12.body = some c := ⟨_, rfl⟩
theorem c_rtm (p q x y f : Int) (W : World) :
    CCalls Try.prog 12 #[.int .i64 p, .int .i64 q, .int .i64 x, .int .i64 y, .int .i64 f] W fun v w' => v = .int .i64 (rtT p q x y f) ∧ Bl W.heap.size W w' :=
  (CCalls.of closedS noEarlyS (by kernel_rfl) (R := fun v w' => v = .int .i64 (rtT p q x y f) ∧ Bl W.heap.size W w')
    (fun τ d => (implReturnTime p q x y f (tp W τ d)).mono fun e w' ⟨he, hb⟩ => ⟨_, he, rfl, Bl.tp' (Bl.ofBelow hb)⟩)).mono fun v w' ⟨τ, d, h, hb⟩ => ⟨h, hb.un⟩
theorem has_name : (Try.f9.name == "runtime.NumGoroutine") = false := by kernel_rfl
theorem has_body : ∃ c, Try.f9.body = some c := ⟨_, rfl⟩
theorem c_has (l : List Int) (v : Value) (x : Int) (W : World) (h : Lst W v (ints l)) :
    CCalls Try.prog 9 #[v, .int .i64 x] W fun r w' => r = .bool (decide (x ∈ l)) ∧ Bl W.heap.size W w' :=
  (CCalls.of closedS noEarlyS (by kernel_rfl) (R := fun r w' => r = .bool (decide (x ∈ l)) ∧ Bl W.heap.size W w')
    (fun τ d => (hasC l v x (tp W τ d) h).mono fun e w' ⟨he, hw⟩ => ⟨_, he, rfl, by rw [← hw]; exact ⟨rfl, rfl, rfl, Nat.le_refl _, fun _ _ => rfl⟩⟩)).mono fun r w' ⟨τ, d, h, hb⟩ => ⟨h, hb.un⟩

set_option maxRecDepth 100000 in
set_option maxHeartbeats 4000000 in
theorem gap_r24 (vc vq vp vn vX vG vL vlo vhi : Value) (A : Option Addr) (m c : Nat) (h1 : 1 ≤ m) (h2 : m ≤ 3) (N0 : Nat) (W0 w : World) (hb : Bl N0 W0 w) (a : Act) (ha : gA23 vc vq vp vn vX vG vL vlo vhi (.slice A m c) a) :
    gC14.wp Try.prog (fun e a' w' => e = .normal ∧ gA24 vc vq vp vn vX vG vL vlo vhi (.slice A m c) a' ∧ Bl N0 W0 w') a w := by
  obtain ⟨u, rfl⟩ := ha
  have HB := Lib.hid hb
  have d1 : ¬ (m : Int) < 1 := by omega
  have d2 : ¬ (3 : Int) < (m : Int) := by omega
  clear hb h1 h2
  simp only [gC14, gT14, gT13, gT12, gT11, gT10, gT9, gT8, gT7, gT6, gT5, gT4, gT3, gT2, gT1, gT0, Try.f3, Option.getD_some]
  go_wp2_with fail
  exact ⟨gA24_of rfl, HB.out⟩

set_option maxRecDepth 100000 in
set_option maxHeartbeats 8000000 in
theorem gap_tail (p q n : Nat) (hq1 : 1 ≤ q) (hq60 : q ≤ 60) (hpq : p < q) (hn1 : 1 ≤ n) (hn40 : n ≤ 40) (zs : List Int) (hz : IsBytes zs) (vc vX vG vL : Value) (N0 : Nat) (W0 w : World) (hl : Lst w vc (bytesV zs)) (hbl : Bl N0 W0 w) (hN : N0 ≤ w.heap.size) (a : Act) (ha : gA19 vc (.int .i64 (q : Int)) (.int .i64 (p : Int)) (.int .i64 (n : Int)) vX vG vL a) :
    CWp Try.prog gT11 (fun e a' w' => (e = .ret ∧ a'.defers = [] ∧ a'.tmps[2]? = some (.bool true)) ∧ Bl N0 W0 w') a w := by
  intro Fin b k cs hk hK
  obtain ⟨u, rfl⟩ := ha
  have ew : IntKind.i64.wrap ((q : Int) - 1) = (q : Int) - 1 := IntWalk.i64_in _ (by omega)
  obtain ⟨cz0, hcz0⟩ := size_body
  obtain ⟨ct0, hct0⟩ := rts_body
  obtain ⟨cr0, hcr0⟩ := rtm_body
  obtain ⟨ch0, hch0⟩ := has_body
  rw [gT11_eq]
  refine Can.seq ?_
  simp only [gC11, gT11, gT10, gT9, gT8, gT7, gT6, gT5, gT4, gT3, gT2, gT1, gT0, Try.f3, Option.getD_some]
  refine Can.region (l := [0, 1, 2, 3, 4]) rfl ?_
  refine Can.op hk rfl rfl (fun _ => rfl) (fun _ => rfl) ?_
  refine Can.op hk rfl rfl (fun _ => rfl) (fun _ => rfl) ?_
  refine Can.opI hk rfl rfl (fun _ => rfl) (fun _ => rfl) (ew) ?_
  walk_nrm
  refine Can.call hk rfl rfl (run_direct rfl rfl Try.func4 hcz0 size_name (by simp [Act.eval])) (c_size vc zs 3 0 ((q : Int) - 1) w hz hl (by omega) (by omega) (by omega) (by omega) (by omega) (by omega)) fun v wa hR => ?_
  obtain ⟨⟨x, rfl, g1, g2⟩, hb1⟩ := hR
  obtain ⟨low, rfl⟩ : ∃ low : Nat, x = low := ⟨x.toNat, by omega⟩
  have hlow : low < q := by omega
  clear g1 g2
  walk_nrm
  refine Can.op hk rfl rfl (fun _ => rfl) (fun _ => rfl) ?_
  walk_nrm
  refine Can.regionEnd ?_
  have HBa : Bl N0 W0 wa := hbl.trans (hb1.mono hN)
  have hla : Lst wa vc (bytesV zs) := Lst.bl hl hb1
  have hNa : N0 ≤ wa.heap.size := Nat.le_trans hN hb1.size
  clear hb1
  rw [gT12_eq]
  refine Can.seq ?_
  simp only [gC12, gT12, gT11, gT10, gT9, gT8, gT7, gT6, gT5, gT4, gT3, gT2, gT1, gT0, Try.f3, Option.getD_some]
  refine Can.region (l := [0, 1, 2, 3, 4, 5]) rfl ?_
  refine Can.op hk rfl rfl (fun _ => rfl) (fun _ => rfl) ?_
  refine Can.op hk rfl rfl (fun _ => rfl) (fun _ => rfl) ?_
  refine Can.op hk rfl rfl (fun _ => rfl) (fun _ => rfl) ?_
  refine Can.opI hk rfl rfl (fun _ => rfl) (fun _ => rfl) (ew) ?_
  walk_nrm
  refine Can.call hk rfl rfl (run_direct rfl rfl Try.func4 hcz0 size_name (by simp [Act.eval])) (c_size vc zs 4 (low : Int) ((q : Int) - 1) wa hz hla (by omega) (by omega) (by omega) (by omega) (by omega) (by omega)) fun v wb hR => ?_
  obtain ⟨⟨x, rfl, g1, g2⟩, hb1⟩ := hR
  obtain ⟨high, rfl⟩ : ∃ high : Nat, x = high := ⟨x.toNat, by omega⟩
  have hhigh : low ≤ high ∧ high < q := by omega
  clear g1 g2
  walk_nrm
  refine Can.op hk rfl rfl (fun _ => rfl) (fun _ => rfl) ?_
  walk_nrm
  refine Can.regionEnd ?_
  have HBb : Bl N0 W0 wb := HBa.trans (hb1.mono hNa)
  have hlb : Lst wb vc (bytesV zs) := Lst.bl hla hb1
  have hNb : N0 ≤ wb.heap.size := Nat.le_trans hNa hb1.size
  clear hb1
  obtain ⟨⟨hr1, hr2⟩, _, hr3⟩ := rs_says (p := p) (low := low) (high := high) hq1 (by omega) hpq hhigh.1 hhigh.2
  obtain ⟨cx, cy, cz, hc1, hc2, hc3, hc4⟩ := ci_parts (p := p) (n := n) hq1 (by omega) hpq hn1 (by omega) hhigh.1 hhigh.2
  have hca := ci_whole (p := p) (n := n) hq1 (by omega) hpq hn1 (by omega)
  rw [gT13_eq]
  refine Can.seq ?_
  simp only [gC13, gT13, gT12, gT11, gT10, gT9, gT8, gT7, gT6, gT5, gT4, gT3, gT2, gT1, gT0, Try.f3, Option.getD_some]
  refine Can.region (l := [0, 1, 2, 3, 4, 5]) rfl ?_
  refine Can.op hk rfl rfl (fun _ => rfl) (fun _ => rfl) ?_
  refine Can.op hk rfl rfl (fun _ => rfl) (fun _ => rfl) ?_
  refine Can.op hk rfl rfl (fun _ => rfl) (fun _ => rfl) ?_
  refine Can.op hk rfl rfl (fun _ => rfl) (fun _ => rfl) ?_
  walk_nrm
  refine Can.call hk rfl rfl (run_direct rfl rfl Try.func11 hct0 rts_name (by simp [Act.eval])) (c_rts (p : Int) (q : Int) (low : Int) (high : Int) wb) fun vT wc hR => ?_
  obtain ⟨ho, hb1⟩ := hR
  generalize rsR (p : Int) (q : Int) (low : Int) (high : Int) = T at *
  have hTc : Lst wc vT (ints T) := Lst.of_own ho
  obtain ⟨AT, cT, rfl⟩ := own_slice ho
  have HBc : Bl N0 W0 wc := HBb.trans (hb1.mono hNb)
  have hlc : Lst wc vc (bytesV zs) := Lst.bl hlb hb1
  have hNc : N0 ≤ wc.heap.size := Nat.le_trans hNb hb1.size
  clear hb1 ho
  walk_nrm
  refine Can.op hk rfl rfl (fun _ => rfl) (fun _ => rfl) ?_
  walk_nrm
  refine Can.regionEnd ?_
  rw [gT14_eq]
  refine Can.seq ?_
  refine (CWp.of (c := gC14) (R := fun e a' w' => e = .normal ∧ gA24 vc (.int .i64 (q : Int)) (.int .i64 (p : Int)) (.int .i64 (n : Int)) vX vG vL (.int .i64 (low : Int)) (.int .i64 (high : Int)) (.slice AT T.length cT) a' ∧ Bl wc.heap.size wc w') closedS noEarlyS (by kernel_rfl) rfl (fun τ d => gap_r24 _ _ _ _ _ _ _ _ _ AT T.length cT hr1 hr2 wc.heap.size wc (tp wc τ d) ⟨rfl, rfl, rfl, Nat.le_refl _, fun _ _ => rfl⟩ _ (gA23_of rfl)) (fun e a w h => .inl h.1)) Fin _ _ cs hk ?_
  rintro e a' wc2 ⟨τ1, d1, rfl, ⟨u', rfl⟩, hb1⟩
  replace hb1 := hb1.un
  replace hTc := Lst.bl hTc hb1
  replace hlc := Lst.bl hlc hb1
  replace HBc := HBc.trans (hb1.mono hNc)
  replace hNc := Nat.le_trans hNc hb1.size
  clear hb1
  show Can Try.prog Fin (G (Frame.at _ _ (.code gT15 :: _)) cs) wc2
  rw [gT15_eq]
  refine Can.seq ?_
  simp only [gC15, gT15, gT14, gT13, gT12, gT11, gT10, gT9, gT8, gT7, gT6, gT5, gT4, gT3, gT2, gT1, gT0, Try.f3, Option.getD_some]
  refine Can.region (l := [0, 1, 2, 3, 4]) rfl ?_
  refine Can.op hk rfl rfl (fun _ => rfl) (fun _ => rfl) ?_
  refine Can.op hk rfl rfl (fun _ => rfl) (fun _ => rfl) ?_
  refine Can.op hk rfl rfl (fun _ => rfl) (fun _ => rfl) ?_
  walk_nrm
  refine Can.call hk rfl rfl (run_direct rfl rfl Try.func4 hcz0 size_name (by simp [Act.eval])) (c_size vc zs 5 (low : Int) (high : Int) wc2 hz hlc (by omega) (by omega) (by omega) (by omega) (by omega) (by omega)) fun v wd hR => ?_
  obtain ⟨⟨x, rfl, g1, g2⟩, hb1⟩ := hR
  obtain ⟨fr, rfl⟩ : ∃ fr : Nat, x = fr := ⟨x.toNat, by omega⟩
  have hfr : low ≤ fr ∧ fr ≤ high := by omega
  clear g1 g2
  walk_nrm
  refine Can.op hk rfl rfl (fun _ => rfl) (fun _ => rfl) ?_
  walk_nrm
  refine Can.regionEnd ?_
  have HBd : Bl N0 W0 wd := HBc.trans (hb1.mono hNc)
  have hTd : Lst wd _ (ints T) := Lst.bl hTc hb1
  have hNd : N0 ≤ wd.heap.size := Nat.le_trans hNc hb1.size
  clear hb1
  obtain ⟨m1, m2, m3, m4⟩ := hr3 fr hfr.1 hfr.2
  have hcall := c_rtm (p : Int) (q : Int) (low : Int) (high : Int) (fr : Int) wd
  generalize rtT (p : Int) (q : Int) (low : Int) (high : Int) (fr : Int) = r at *
  obtain ⟨rn, rfl⟩ : ∃ rn : Nat, r = rn := ⟨r.toNat, by omega⟩
  have hmr : rn * p ≤ 1000 * 60 := Nat.mul_le_mul (by omega) (by omega)
  obtain ⟨zr, hzr⟩ : ∃ z : Nat, z = rn * p := ⟨_, rfl⟩
  have ezr : (rn : Int) * (p : Int) = (zr : Int) := by rw [hzr]; rfl
  rw [← hzr] at hmr
  rw [ezr] at m3 m4
  have mr : IntKind.i64.wrap ((rn : Int) * (p : Int)) = (zr : Int) := by
    rw [ezr]
    exact IntWalk.i64_in _ (by omega)
  have mr2 : IntKind.i64.wrap ((fr : Int) + (zr : Int)) = (fr : Int) + (zr : Int) := IntWalk.i64_in _ (by omega)
  clear ezr hzr
  have tr : ((fr : Int) + (zr : Int)).tmod (q : Int) = ((fr : Int) + (zr : Int)) % (q : Int) := Int.tmod_eq_emod_of_nonneg (Int.add_nonneg (Int.natCast_nonneg _) (Int.natCast_nonneg _))
  generalize ((fr : Int) + (zr : Int)) % (q : Int) = y at *
  have z2 : (q : Int) ≠ 0 := by omega
  rw [gT16_eq]
  refine Can.seq ?_
  simp only [gC16, gT16, gT15, gT14, gT13, gT12, gT11, gT10, gT9, gT8, gT7, gT6, gT5, gT4, gT3, gT2, gT1, gT0, Try.f3, Option.getD_some]
  refine Can.region (l := [0, 1, 2, 3, 4, 5, 6]) rfl ?_
  refine Can.op hk rfl rfl (fun _ => rfl) (fun _ => rfl) ?_
  refine Can.op hk rfl rfl (fun _ => rfl) (fun _ => rfl) ?_
  refine Can.op hk rfl rfl (fun _ => rfl) (fun _ => rfl) ?_
  refine Can.op hk rfl rfl (fun _ => rfl) (fun _ => rfl) ?_
  refine Can.op hk rfl rfl (fun _ => rfl) (fun _ => rfl) ?_
  walk_nrm
  refine Can.call hk rfl rfl (run_direct rfl rfl Try.func12 hcr0 rtm_name (by simp [Act.eval])) hcall fun v we hR => ?_
  obtain ⟨rfl, hb1⟩ := hR
  have HBe : Bl N0 W0 we := HBd.trans (hb1.mono hNd)
  have hTe : Lst we _ (ints T) := Lst.bl hTd hb1
  have hNe : N0 ≤ we.heap.size := Nat.le_trans hNd hb1.size
  clear hb1 hcall
  walk_nrm
  refine Can.op hk rfl rfl (fun _ => rfl) (fun _ => rfl) ?_
  walk_nrm
  refine Can.regionEnd ?_
  rw [gT17_eq]
  refine Can.seq ?_
  simp only [gC17, gT17, gT16, gT15, gT14, gT13, gT12, gT11, gT10, gT9, gT8, gT7, gT6, gT5, gT4, gT3, gT2, gT1, gT0, Try.f3, Option.getD_some]
  refine Can.region (l := [0, 1, 2, 3, 4, 5, 6, 7, 8, 9, 10, 11, 12, 13, 14, 15, 16, 17, 18, 19, 20, 21, 22, 23, 24, 25, 26, 27, 28, 29, 30, 31, 32, 33, 34, 35, 36, 37, 38, 39, 40, 41, 42, 43, 44, 45, 46, 47, 48, 49, 50, 51, 52, 53, 54, 55, 56, 57, 58, 59, 60, 61]) rfl ?_
  refine Can.op hk rfl rfl (fun _ => rfl) (fun _ => rfl) ?_
  refine Can.op hk rfl rfl (fun _ => rfl) (fun _ => rfl) ?_
  walk_nrm
  refine Can.call hk rfl rfl (run_direct rfl rfl Try.func9 hch0 has_name (by simp [Act.eval])) (c_has T _ (rn : Int) we hTe) fun v wf hR => ?_
  obtain ⟨rfl, hb1⟩ := hR
  have HBf : Bl N0 W0 wf := HBe.trans (hb1.mono hNe)
  have hNf : N0 ≤ wf.heap.size := Nat.le_trans hNe hb1.size
  rw [decide_eq_true m1]
  clear hb1
  walk_nrm
  refine Can.op hk rfl rfl (fun _ => rfl) (fun _ => rfl) ?_
  walk_nrm
  refine Can.op hk rfl rfl (fun _ => rfl) (fun _ => rfl) ?_
  refine Can.op hk rfl rfl (fun _ => rfl) (fun _ => rfl) ?_
  refine Can.op hk rfl rfl (fun _ => rfl) (fun _ => rfl) ?_
  refine Can.opI hk rfl rfl (fun _ => rfl) (fun _ => rfl) (mr) ?_
  walk_nrm
  refine Can.opI hk rfl rfl (fun _ => rfl) (fun _ => rfl) (mr2) ?_
  walk_nrm
  refine Can.op hk rfl rfl (fun _ => rfl) (fun _ => rfl) ?_
  walk_nrm
  refine Can.rem hk rfl rfl rfl rfl rfl z2 tr ?_
  walk_nrm
  refine Can.op hk rfl rfl (fun _ => rfl) (fun _ => rfl) ?_
  refine Can.opB hk rfl rfl (fun _ => rfl) (fun _ => rfl) (show decide ((low : Int) ≤ y) = true from decide_eq_true (by omega)) ?_
  walk_nrm
  refine Can.op hk rfl rfl (fun _ => rfl) (fun _ => rfl) ?_
  walk_nrm
  refine Can.op hk rfl rfl (fun _ => rfl) (fun _ => rfl) ?_
  walk_nrm
  refine Can.op hk rfl rfl (fun _ => rfl) (fun _ => rfl) ?_
  refine Can.op hk rfl rfl (fun _ => rfl) (fun _ => rfl) ?_
  refine Can.op hk rfl rfl (fun _ => rfl) (fun _ => rfl) ?_
  refine Can.opI hk rfl rfl (fun _ => rfl) (fun _ => rfl) (mr) ?_
  walk_nrm
  refine Can.opI hk rfl rfl (fun _ => rfl) (fun _ => rfl) (mr2) ?_
  walk_nrm
  refine Can.op hk rfl rfl (fun _ => rfl) (fun _ => rfl) ?_
  walk_nrm
  refine Can.rem hk rfl rfl rfl rfl rfl z2 tr ?_
  walk_nrm
  refine Can.op hk rfl rfl (fun _ => rfl) (fun _ => rfl) ?_
  refine Can.opB hk rfl rfl (fun _ => rfl) (fun _ => rfl) (show decide (y ≤ (high : Int)) = true from decide_eq_true (by omega)) ?_
  walk_nrm
  refine Can.op hk rfl rfl (fun _ => rfl) (fun _ => rfl) ?_
  walk_nrm
  refine Can.op hk rfl rfl (fun _ => rfl) (fun _ => rfl) ?_
  walk_nrm
  refine Can.op hk rfl rfl (fun _ => rfl) (fun _ => rfl) ?_
  refine Can.op hk rfl rfl (fun _ => rfl) (fun _ => rfl) ?_
  refine Can.op hk rfl rfl (fun _ => rfl) (fun _ => rfl) ?_
  refine Can.op hk rfl rfl (fun _ => rfl) (fun _ => rfl) ?_
  walk_nrm
  refine Can.opI hk rfl rfl (fun _ => rfl) (fun _ => rfl) (ew) ?_
  walk_nrm
  refine Can.call hk rfl rfl (run_direct rfl rfl Try.func13 cnt_body cnt_name (by simp [Act.eval])) (cCountIn (p : Int) (q : Int) (n : Int) 0 ((q : Int) - 1) wf) fun v wg hR => ?_
  obtain ⟨rfl, hb1⟩ := hR
  have HBg : Bl N0 W0 wg := HBf.trans (hb1.mono hNf)
  have hNg : N0 ≤ wg.heap.size := Nat.le_trans hNf hb1.size
  rw [hca]
  clear hb1
  walk_nrm
  refine Can.op hk rfl rfl (fun _ => rfl) (fun _ => rfl) ?_
  walk_nrm
  refine Can.opB hk rfl rfl (fun _ => rfl) (fun _ => rfl) (show ((n : Int) == (n : Int)) = true from by rw [beq_iff_eq]) ?_
  walk_nrm
  refine Can.op hk rfl rfl (fun _ => rfl) (fun _ => rfl) ?_
  walk_nrm
  refine Can.op hk rfl rfl (fun _ => rfl) (fun _ => rfl) ?_
  walk_nrm
  refine Can.op hk rfl rfl (fun _ => rfl) (fun _ => rfl) ?_
  refine Can.op hk rfl rfl (fun _ => rfl) (fun _ => rfl) ?_
  refine Can.op hk rfl rfl (fun _ => rfl) (fun _ => rfl) ?_
  refine Can.op hk rfl rfl (fun _ => rfl) (fun _ => rfl) ?_
  refine Can.op hk rfl rfl (fun _ => rfl) (fun _ => rfl) ?_
  walk_nrm
  refine Can.call hk rfl rfl (run_direct rfl rfl Try.func13 cnt_body cnt_name (by simp [Act.eval])) (cCountIn (p : Int) (q : Int) (n : Int) (low : Int) (high : Int) wg) fun v wh hR => ?_
  obtain ⟨rfl, hb1⟩ := hR
  have HBh : Bl N0 W0 wh := HBg.trans (hb1.mono hNg)
  have hNh : N0 ≤ wh.heap.size := Nat.le_trans hNg hb1.size
  rw [hc1]
  clear hb1
  walk_nrm
  refine Can.op hk rfl rfl (fun _ => rfl) (fun _ => rfl) ?_
  refine Can.op hk rfl rfl (fun _ => rfl) (fun _ => rfl) ?_
  refine Can.op hk rfl rfl (fun _ => rfl) (fun _ => rfl) ?_
  refine Can.op hk rfl rfl (fun _ => rfl) (fun _ => rfl) ?_
  walk_nrm
  refine Can.opI hk rfl rfl (fun _ => rfl) (fun _ => rfl) (show IntKind.i64.wrap ((low : Int) - 1) = (low : Int) - 1 from IntWalk.i64_in _ (by omega)) ?_
  walk_nrm
  refine Can.call hk rfl rfl (run_direct rfl rfl Try.func13 cnt_body cnt_name (by simp [Act.eval])) (cCountIn (p : Int) (q : Int) (n : Int) 0 ((low : Int) - 1) wh) fun v wi hR => ?_
  obtain ⟨rfl, hb1⟩ := hR
  have HBi : Bl N0 W0 wi := HBh.trans (hb1.mono hNh)
  have hNi : N0 ≤ wi.heap.size := Nat.le_trans hNh hb1.size
  rw [hc2]
  clear hb1
  walk_nrm
  refine Can.opI hk rfl rfl (fun _ => rfl) (fun _ => rfl) (show IntKind.i64.wrap ((cx : Int) + (cy : Int)) = (cx : Int) + (cy : Int) from IntWalk.i64_in _ (by omega)) ?_
  walk_nrm
  refine Can.op hk rfl rfl (fun _ => rfl) (fun _ => rfl) ?_
  refine Can.op hk rfl rfl (fun _ => rfl) (fun _ => rfl) ?_
  refine Can.op hk rfl rfl (fun _ => rfl) (fun _ => rfl) ?_
  refine Can.op hk rfl rfl (fun _ => rfl) (fun _ => rfl) ?_
  walk_nrm
  refine Can.opI hk rfl rfl (fun _ => rfl) (fun _ => rfl) (show IntKind.i64.wrap ((high : Int) + 1) = (high : Int) + 1 from IntWalk.i64_in _ (by omega)) ?_
  walk_nrm
  refine Can.op hk rfl rfl (fun _ => rfl) (fun _ => rfl) ?_
  walk_nrm
  refine Can.opI hk rfl rfl (fun _ => rfl) (fun _ => rfl) (ew) ?_
  walk_nrm
  refine Can.call hk rfl rfl (run_direct rfl rfl Try.func13 cnt_body cnt_name (by simp [Act.eval])) (cCountIn (p : Int) (q : Int) (n : Int) ((high : Int) + 1) ((q : Int) - 1) wi) fun v wj hR => ?_
  obtain ⟨rfl, hb1⟩ := hR
  have HBj : Bl N0 W0 wj := HBi.trans (hb1.mono hNi)
  have hNj : N0 ≤ wj.heap.size := Nat.le_trans hNi hb1.size
  rw [hc3]
  clear hb1
  walk_nrm
  refine Can.opI hk rfl rfl (fun _ => rfl) (fun _ => rfl) (show IntKind.i64.wrap ((cx : Int) + (cy : Int) + (cz : Int)) = (n : Int) from by rw [show (cx : Int) + (cy : Int) + (cz : Int) = (n : Int) by omega]; exact IntWalk.i64_in _ (by omega)) ?_
  walk_nrm
  refine Can.op hk rfl rfl (fun _ => rfl) (fun _ => rfl) ?_
  walk_nrm
  refine Can.opB hk rfl rfl (fun _ => rfl) (fun _ => rfl) (show ((n : Int) == (n : Int)) = true from by rw [beq_iff_eq]) ?_
  walk_nrm
  refine Can.op hk rfl rfl (fun _ => rfl) (fun _ => rfl) ?_
  walk_nrm
  refine Can.op hk rfl rfl (fun _ => rfl) (fun _ => rfl) ?_
  walk_nrm
  refine Can.regionEnd ?_
  rw [gT18_eq]
  refine (CWp.of (c := .ret) (R := fun e a' w => (e = .ret ∧ a'.defers = [] ∧ a'.tmps[2]? = some (.bool true)) ∧ Bl N0 W0 w) closedS noEarlyS rfl rfl (fun τ d => ?_) (fun e a w h => .inr h.1.1)) Fin _ _ cs hk ?_
  · have HBt : Bl N0 W0 (tp wj τ d) := HBj.trans ⟨rfl, rfl, rfl, Nat.le_refl _, fun _ _ => rfl⟩
    generalize tp wj τ d = wx at *
    go_wp2_with fail
  · rintro e a' w' ⟨τ, d, h, hb⟩
    exact hK e a' w' ⟨h, hb.un⟩
end Go.Proofs.Ytiikledbflgejaa
