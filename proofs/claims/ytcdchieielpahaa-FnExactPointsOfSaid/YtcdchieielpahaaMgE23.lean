/- Texts put together. -/
import Derived.Test.YtcdchieielpahaaMgE7
import Derived.Test.YtcdchieielpahaaMgE8
import Derived.Test.YtcdchieielpahaaMgE22
import Derived.Test.YtcdchieielpahaaMgE17
import Derived.Test.YtcdchieielpahaaMgE5
import Derived.Conc.LeavingOf
/- The program's PointsOf, GapsOf, GapLengths, in company. No condition. -/
namespace Go.Proofs.Ytcdchieielpahaa
open Go.Conc Go.RowKit Go.Lib

theorem CCalls.mono {P : Program} {f : FuncId} {args : Array Value} {w : World} {R R' : Value → World → Prop} (h : CCalls P f args w R) (hr : ∀ v w', R v w' → R' v w') : CCalls P f args w R' :=
  fun Fin cs hK => h Fin cs fun fr v w' hR => hK fr v w' (hr _ _ hR)
theorem cSortedOnce (l m : List Int) (v : Value) (B : Nat) (W : World) (ho : W.ownsRow B 3 1 v l.length (ints l)) (hl : l.length ≤ 100000) (hm : AscI m) (hmem : ∀ x, x ∈ l ↔ x ∈ m) :
    CCalls Try.prog 32 #[v] W fun v' w' => w'.ownsRow B 3 1 v' m.length (ints m) ∧ Bl B W w' :=
  (CCalls.of closedS noEarlyS (by kernel_rfl) (R := fun v' w' => w'.ownsRow B 3 1 v' m.length (ints m) ∧ Bl B W w')
    (fun τ d => (implSortedOnce l m v B (tp W τ d) (own_tp ho τ d) hl hm hmem).mono fun e w' ⟨v', he, ho', hb⟩ => ⟨v', he, ho', Bl.tp' (Bl.ofBelow hb)⟩)).mono fun v' w' ⟨τ, d, ho', hb⟩ => ⟨ho', hb.un⟩
theorem srt_name : (Try.f32.name == "runtime.NumGoroutine") = false := by kernel_rfl
theorem srt_body : ∃ c, Try.f32.body = some c := ⟨_, rfl⟩

/-! ### the points -/
theorem ptTo_mem (P Q M : Nat) (x : Int) : ∀ k, x ∈ ptTo P Q M k ↔ ∃ j : Nat, j < k ∧ ptB P Q M j = true ∧ x = (j : Int)
  | 0 => by simp [ptTo]
  | k + 1 => by
    have ih := ptTo_mem P Q M x k
    unfold ptTo
    by_cases hk : ptB P Q M k = true
    · rw [if_pos hk, List.mem_append, ih, List.mem_singleton]
      constructor
      · rintro (⟨j, h1, h2, h3⟩ | h)
        · exact ⟨j, by omega, h2, h3⟩
        · exact ⟨k, by omega, hk, h⟩
      · rintro ⟨j, h1, h2, h3⟩
        by_cases e : j = k
        · subst e; exact .inr h3
        · exact .inl ⟨j, by omega, h2, h3⟩
    · rw [if_neg hk, ih]
      constructor
      · rintro ⟨j, h1, h2, h3⟩
        exact ⟨j, by omega, h2, h3⟩
      · rintro ⟨j, h1, h2, h3⟩
        have e : j ≠ k := fun e => hk (e ▸ h2)
        exact ⟨j, by omega, h2, h3⟩
theorem ptTo_asc (P Q M : Nat) : ∀ k, AscI (ptTo P Q M k)
  | 0 => List.Pairwise.nil
  | k + 1 => by
    unfold ptTo
    split
    · refine List.pairwise_append.2 ⟨ptTo_asc P Q M k, List.pairwise_singleton _ _, fun a ha b hb => ?_⟩
      rw [List.mem_singleton] at hb
      have := (ptTo_range P Q M k a ha).2
      omega
    · exact ptTo_asc P Q M k
theorem ptR_asc (p q n : Int) : AscI (ptR p q n) := by
  unfold ptR
  split
  · exact ptTo_asc _ _ _ _
  · exact List.Pairwise.nil
theorem mu_pt (p q n : Int) (x : Int) : x ∈ muR p q n ↔ x ∈ ptR p q n := by
  cases h1 : gpOk p q n
  · have e1 : muR p q n = [] := if_neg (by rw [h1]; decide)
    have e2 : ptR p q n = [] := if_neg (by rw [h1]; decide)
    rw [e1, e2]
  · have e2 : ptR p q n = ptTo p.toNat q.toNat n.toNat q.toNat := if_pos h1
    obtain ⟨P, Q, M, rfl, rfl, rfl, hQ1, hQ2, hPQ, hM1, hM2⟩ := gp_parts h1
    rw [e2, muR_at h1, Int.toNat_natCast, Int.toNat_natCast, Int.toNat_natCast, ptTo_mem, List.mem_map]
    constructor
    · rintro ⟨i, hi, rfl⟩
      exact ⟨dpN P Q i, dp_lt hQ1 i, ptB_iff.2 ⟨i, List.mem_range.1 hi, rfl⟩, rfl⟩
    · rintro ⟨j, h2, h3, rfl⟩
      obtain ⟨i, hi, h4⟩ := ptB_iff.1 h3
      exact ⟨i, List.mem_range.2 hi, by rw [← h4]; rfl⟩
theorem muR_le (p q n : Int) : (muR p q n).length ≤ 400 := by
  cases h1 : gpOk p q n
  · have e1 : muR p q n = [] := if_neg (by rw [h1]; decide)
    rw [e1]; exact Nat.zero_le _
  · obtain ⟨P, Q, M, rfl, rfl, rfl, hQ1, hQ2, hPQ, hM1, hM2⟩ := gp_parts h1
    rw [muR_len h1]; exact hM2
/-- the first point is 0 -/
theorem ptTo_head (P Q M : Nat) (hM : 1 ≤ M) : ∀ k, (ptTo P Q M (k + 1)).getD 0 0 = 0
  | 0 => by
    have hb : ptB P Q M 0 = true := ptB_iff.2 ⟨0, hM, dp_zero P Q⟩
    unfold ptTo
    rw [if_pos hb]
    rfl
  | k + 1 => by
    have ih := ptTo_head P Q M hM k
    have e : ptTo P Q M (k + 1 + 1) = if ptB P Q M (k + 1) = true then ptTo P Q M (k + 1) ++ [((k + 1 : Nat) : Int)] else ptTo P Q M (k + 1) := rfl
    rw [e]
    split
    · have hne : 0 < (ptTo P Q M (k + 1)).length := by
        have hb : ptB P Q M 0 = true := ptB_iff.2 ⟨0, hM, dp_zero P Q⟩
        exact List.length_pos_of_mem ((ptTo_mem P Q M 0 (k + 1)).2 ⟨0, by omega, hb, rfl⟩)
      rw [List.getD_eq_getElem?_getD, List.getElem?_append_left hne, ← List.getD_eq_getElem?_getD]
      exact ih
    · exact ih
theorem ptR_head (p q n : Int) (h : 0 < (ptR p q n).length) : (ptR p q n).getD 0 0 = 0 := by
  cases h1 : gpOk p q n
  · have e2 : ptR p q n = [] := if_neg (by rw [h1]; decide)
    rw [e2] at h
    exact absurd h (by simp)
  · have e2 : ptR p q n = ptTo p.toNat q.toNat n.toNat q.toNat := if_pos h1
    obtain ⟨P, Q, M, rfl, rfl, rfl, hQ1, hQ2, hPQ, hM1, hM2⟩ := gp_parts h1
    rw [e2, Int.toNat_natCast, Int.toNat_natCast, Int.toNat_natCast]
    obtain ⟨k, rfl⟩ : ∃ k, Q = k + 1 := ⟨Q - 1, by omega⟩
    exact ptTo_head P (k + 1) M hM1 k
theorem glTo_mem (l : List Int) (x : Int) : ∀ k, x ∈ glTo l k ↔ ∃ j, j < k ∧ l.getD j 0 = x
  | 0 => by simp [glTo]
  | k + 1 => by
    show x ∈ inI (glTo l k) (l.getD k 0) ↔ _
    rw [inI_mem, glTo_mem l x k]
    constructor
    · rintro (h | ⟨j, h1, h2⟩)
      · exact ⟨k, by omega, h.symm⟩
      · exact ⟨j, by omega, h2⟩
    · rintro ⟨j, h1, h2⟩
      by_cases e : j = k
      · subst e; exact .inl h2.symm
      · exact .inr ⟨j, by omega, h2⟩
theorem gl_mem (l : List Int) (x : Int) : x ∈ l ↔ x ∈ glTo l l.length := by
  rw [glTo_mem]
  constructor
  · intro h
    obtain ⟨j, hj, rfl⟩ := List.mem_iff_getElem.1 h
    exact ⟨j, hj, by rw [List.getD_eq_getElem?_getD, List.getElem?_eq_getElem hj]; rfl⟩
  · rintro ⟨j, hj, rfl⟩
    exact getD_mem hj


noncomputable def ptsBody : Code := Try.f12.body.getD .skip
noncomputable def ptsC0 : Code := match ptsBody with | .seq a _ => a | _ => .skip
noncomputable def ptsT1 : Code := match ptsBody with | .seq _ r => r | _ => .skip
noncomputable def ptsOps1 : Array Oper := match ptsT1 with | .seq (.region _ ops _) _ => ops | _ => #[]
noncomputable def ptsT2 : Code := match ptsT1 with | .seq _ r => r | _ => .skip
theorem ptsBody_eq : ptsBody = .seq ptsC0 (.seq (.region 1 ptsOps1 false) ptsT2) := by
  simp only [ptsC0, ptsOps1, ptsT2, ptsT1, ptsBody, Try.f12, Option.getD_some]

set_option maxRecDepth 100000 in
set_option maxHeartbeats 2000000 in
theorem c_pts (p q n : Int) (W : World) : CCalls Try.prog 12 #[.int .i64 p, .int .i64 q, .int .i64 n] W fun v w' => w'.ownsRow W.heap.size 3 1 v (ptR p q n).length (ints (ptR p q n)) ∧ Bl W.heap.size W w' := by
  intro Fin cs hK
  have henter : Frame.enter Try.prog 12 #[.int .i64 p, .int .i64 q, .int .i64 n] .normal = ({ (default : Frame) with fn := 12, kind := .normal } : Frame).at ⟨#[.int .i64 p, .int .i64 q, .int .i64 n, undef, undef, undef, undef, undef, undef, undef, undef, undef], []⟩ [.code ptsBody] := by
    simp [Frame.enter, Frame.at, Try.func12, ptsBody, Try.f12]
  rw [henter, ptsBody_eq]
  have leave := can_leave (cs := cs) Try.func12 (t := 6) (by simp [Try.f12]) hK
  refine Can.silent rfl (fun _ => stepG_seq) ?_
  refine (CWp.of (c := ptsC0) (R := fun e a' w => e = .normal ∧ a' = ⟨#[.int .i64 p, .int .i64 q, .int .i64 n, undef, undef, undef, .slice none 0 0, undef, undef, undef, undef, undef], []⟩ ∧ Bl W.heap.size W w)
    closedS noEarlyS (by kernel_rfl) rfl (fun τ d => ?_) (fun e a w h => .inl h.1)) Fin _ _ cs rfl ?_
  · simp only [ptsC0, ptsBody, Try.f12, Option.getD_some]
    go_wp2_with fail
    exact ⟨rfl, rfl, rfl, Nat.le_refl _, fun _ _ => rfl⟩
  rintro e a' w0 ⟨τ0, d0, rfl, rfl, hb0⟩
  replace hb0 := hb0.un
  show Can Try.prog Fin (G (Frame.at _ _ (.code (.seq (.region 1 ptsOps1 false) ptsT2) :: [])) cs) w0
  refine Can.silent rfl (fun _ => stepG_seq) ?_
  refine Can.silent rfl (fun _ => stepG_region) ?_
  have hrange : List.range ptsOps1.size = [0, 1, 2, 3, 4, 5] := by simp [ptsOps1, ptsT1, ptsBody, Try.f12, List.range, List.range.loop]
  rw [hrange]
  simp only [ptsOps1, ptsT1, ptsBody, Try.f12, Option.getD_some]
  refine Can.op rfl rfl rfl (fun _ => rfl) (fun _ => rfl) ?_
  refine Can.op rfl rfl rfl (fun _ => rfl) (fun _ => rfl) ?_
  refine Can.op rfl rfl rfl (fun _ => rfl) (fun _ => rfl) ?_
  walk_nrm
  refine Can.call rfl rfl rfl (run_direct rfl rfl Try.func33 mul_body mul_name (by simp [Act.eval])) (cMultiplesOf p q n w0) fun v w1 hR => ?_
  obtain ⟨hb1, ho, hnil⟩ := hR
  walk_nrm
  obtain ⟨sc, hsc⟩ := srt_body
  refine Can.call rfl rfl rfl (run_direct rfl rfl Try.func32 hsc srt_name (by simp [Act.eval])) (cSortedOnce (muR p q n) (ptR p q n) v w0.heap.size w1 ho (Nat.le_trans (muR_le p q n) (by omega)) (ptR_asc p q n) (mu_pt p q n)) fun v2 w2 hR => ?_
  obtain ⟨ho2, hb2⟩ := hR
  walk_nrm
  refine Can.op rfl rfl rfl (fun _ => rfl) (fun _ => rfl) ?_
  walk_nrm
  refine Can.silent rfl (fun _ => stepG_region_end) ?_
  have hb : Bl W.heap.size W w2 := hb0.trans ((hb1.trans hb2).mono hb0.size)
  have hown : w2.ownsRow W.heap.size 3 1 v2 (ptR p q n).length (ints (ptR p q n)) := own_mono ho2 hb0.size
  refine (CWp.of (R := fun e a' w => (e = .ret ∧ a'.defers = [] ∧ a'.tmps[6]? = some v2) ∧ (w.ownsRow W.heap.size 3 1 v2 (ptR p q n).length (ints (ptR p q n)) ∧ Bl W.heap.size W w)) closedS noEarlyS (c := ptsT2) (by kernel_rfl) rfl (fun τ d => ?_) (fun e a w h => .inr h.1.1)) Fin _ _ cs rfl ?_
  · have hbt : Bl W.heap.size W (tp w2 τ d) := hb.trans ⟨rfl, rfl, rfl, Nat.le_refl _, fun _ _ => rfl⟩
    have hot := own_tp hown τ d
    generalize tp w2 τ d = wx at *
    simp only [ptsT2, ptsT1, ptsBody, Try.f12, Option.getD_some]
    go_wp2_with fail
  rintro e a' w3 ⟨τ2, d2, ⟨rfl, hd, hv⟩, ho3, hb3⟩
  exact fun todo => leave a' todo w3 _ hd hv ⟨ho3, hb3.un⟩
theorem pts_name : (Try.f12.name == "runtime.NumGoroutine") = false := by kernel_rfl
theorem pts_body : Try.f12.body = some ptsBody := by simp only [ptsBody, Try.f12, Option.getD_some]
end Go.Proofs.Ytcdchieielpahaa

/- The laws' helpers over rows of numbers, in company. -/
namespace Go.Proofs.Ytcdchieielpahaa
open Go.Conc Go.RowKit Go.Lib

/-- 'KeepsOut', on whatever tape -/
def KO (lo hi : Nat) (W w : World) : Prop := KeepsOut lo hi W (tp w W.tape w.drawn)
theorem Bl.keeps {N lo hi : Nat} {A w w' : World} (h : Bl N A w) (k : KO lo hi w w') (hN : N ≤ w.heap.size) (hl : N ≤ lo) : Bl N A w' :=
  ⟨k.1.trans h.os, rfl, k.2.2.1.trans h.output, Nat.le_trans h.size k.2.2.2.1, fun i hi => (k.2.2.2.2 i (by show i < w.heap.size; omega) (.inl (by omega))).trans (h.block i hi)⟩
theorem Lst.bl {w w' : World} {v : Value} {xs : List Value} (h : Lst w v xs) (hb : Bl w.heap.size w w') : Lst w' v xs := Lst.below (w' := tp w' w.tape w'.drawn) h hb
theorem own_bl {w w' : World} {B s : Nat} {e : TypeId} {v : Value} {n : Nat} {xs : List Value} (h : w.ownsRow B e s v n xs) (hb : Bl w.heap.size w w') : w'.ownsRow B e s v n xs := own_below (w' := tp w' w.tape w'.drawn) h hb

theorem cEqI (l : List Int) (v1 v2 : Value) (W : World) (h1 : Lst W v1 (ints l)) (h2 : Lst W v2 (ints l)) : CCalls Try.prog 13 #[v1, v2] W fun v w' => v = .bool true ∧ Bl W.heap.size W w' :=
  (CCalls.of closedS noEarlyS (by kernel_rfl) (R := fun v w' => v = .bool true ∧ Bl W.heap.size W w')
    (fun τ d => (eqIntS_b l v1 v2 (tp W τ d) h1 h2).mono fun e w' ⟨he, hb⟩ => ⟨_, he, rfl, Bl.tp' (Bl.ofBelow hb)⟩)).mono fun v w' ⟨τ, d, hv, hb⟩ => ⟨hv, hb.un⟩
theorem cHeldI (v : Value) (k : Int) (n : Nat) (W : World) (hk : 0 ≤ k) (hkn : k + n ≤ 9223372036854775807) (h1 : Lst W v (ints (upto k n))) : CCalls Try.prog 15 #[v, .int .i64 k] W fun r w' => r = .int .i64 (k + n) ∧ Bl W.heap.size W w' :=
  (CCalls.of closedS noEarlyS (by kernel_rfl) (R := fun r w' => r = .int .i64 (k + n) ∧ Bl W.heap.size W w')
    (fun τ d => (heldIntS_b v k n (tp W τ d) hk hkn h1).mono fun e w' ⟨he, hb⟩ => ⟨_, he, rfl, Bl.tp' (Bl.ofBelow hb)⟩)).mono fun v w' ⟨τ, d, hv, hb⟩ => ⟨hv, hb.un⟩
theorem cMarkI (B T : Nat) (v : Value) (k : Int) (n : Nat) (xs : List Value) (W : World) (hk : 0 ≤ k) (hkn : k + n ≤ 9223372036854775807) (hown : W.ownsRow B 3 1 v n xs) (hT : ∀ j, v.ownBlock = some j → j < T) :
    CCalls Try.prog 14 #[v, .int .i64 k] W fun r w' => r = .int .i64 (k + n) ∧ w'.ownsRow B 3 1 v n (ints (upto k n)) ∧ KO B T W w' :=
  (CCalls.of closedS noEarlyS (by kernel_rfl) (R := fun r w' => r = .int .i64 (k + n) ∧ w'.ownsRow B 3 1 v n (ints (upto k n)) ∧ KO B T W w')
    (fun τ d => (markIntS_own B v k n xs (tp W τ d) hk hkn hown).mono fun e w' ⟨he, ho, hg⟩ => ⟨_, he, rfl, ho, by
      have hk : KeepsOut B T (tp W τ d) w' := KeepsOut.of_grown hg (fun k hk => ⟨(hown.lt k hk).1, hT k hk⟩)
      exact ⟨hk.1, rfl, hk.2.2.1, hk.2.2.2.1, hk.2.2.2.2⟩⟩)).mono fun v w' ⟨τ, d, hv, ho, hk⟩ => ⟨hv, ho, hk⟩
theorem eqI_name : (Try.f13.name == "runtime.NumGoroutine") = false := by kernel_rfl
theorem heldI_name : (Try.f15.name == "runtime.NumGoroutine") = false := by kernel_rfl
theorem markI_name : (Try.f14.name == "runtime.NumGoroutine") = false := by kernel_rfl
theorem eqI_body : ∃ c, Try.f13.body = some c := ⟨_, rfl⟩
theorem heldI_body : ∃ c, Try.f15.body = some c := ⟨_, rfl⟩
theorem markI_body : ∃ c, Try.f14.body = some c := ⟨_, rfl⟩

section
variable {P : Program} {Fin : Goroutine → World → Prop} {b : Frame} {a : Act} {k : List Item} {cs : List Frame} {w : World}
theorem Can.region {id : Nat} {ops : Array Oper} {l : List Nat} (hl : List.range ops.size = l) (h : Can P Fin (G (b.at a (.inRegion ops l :: k)) cs) w) : Can P Fin (G (b.at a (.code (.region id ops false) :: k)) cs) w := by
  subst hl
  exact Can.silent rfl (fun _ => stepG_region) h
theorem Can.regionEnd {ops : Array Oper} (h : Can P Fin (G (b.at a k) cs) w) : Can P Fin (G (b.at a (.inRegion ops [] :: k)) cs) w := Can.silent rfl (fun _ => stepG_region_end) h
theorem Can.seq {x y : Code} (h : Can P Fin (G (b.at a (.code x :: .code y :: k)) cs) w) : Can P Fin (G (b.at a (.code (.seq x y) :: k)) cs) w := Can.silent rfl (fun _ => stepG_seq) h
theorem Can.skip (h : Can P Fin (G (b.at a k) cs) w) : Can P Fin (G (b.at a (.code .skip :: k)) cs) w := Can.silent rfl (fun _ => stepG_skip) h
theorem Can.condF {c : Operand} {x : Code} {t : Bool} (hc : a.eval c = .bool t) (ht : t = false) (h : Can P Fin (G (b.at a k) cs) w) : Can P Fin (G (b.at a (.code (.cond c x .skip) :: k)) cs) w := by
  subst ht
  exact Can.silent rfl (fun _ => stepG_cond hc) (Can.skip h)
end
end Go.Proofs.Ytcdchieielpahaa

/- The row's step for a law that starts goroutines that only leave: from the walk in company. No project text. -/
namespace Go.Proofs.Ytcdchieielpahaa
open Go.Conc Go.ChangeShapes Go.WideShapes Go.ChangeAt

section
variable {H : Type} {enc : TypeId × Value → H}

theorem post_tp {P : Program} {f : Func} {s : ChangeSpec} {W w : World} {args : Array Value} {v : Value} {τ : Tp} {d : Nat} (h : s.post enc P f false true false false W args v (tp w τ d)) : s.post enc P f false true false false W args v w := by
  obtain ⟨ds, gs, before, pr, pa, pv, h1, h2, h3, h4, h5, h6⟩ := h
  exact ⟨ds, gs, before, pr, pa, pv, h1, h2.of_heap (by rfl), h3.of_heap (by rfl), h4.of_heap (by rfl), h5, fun ha => by cases ha⟩

theorem lawLiftedG {C : Checked} {os : Os} {f : FuncId} {fn : Func} {s : ChangeSpec} {tb : TypeId}
    (own : ownKnob C.prog.godebug = none) (started : os.Started) (noInit : C.prog.inits.idxOf? f = none) (hfn : C.prog.funcs[f]? = some fn)
    (hl : laidOutB C.prog = true) (hts : fn.params.toList.all (fun t => C.prog.readableRec t && decide (t < C.prog.types.size)) = true) (hres : fn.resultTypes = #[tb]) (htb : C.prog.underlying tb = some .bool)
    (hsv : s.vars = []) (hsp : ∀ ds : List (DataW H), ds.length = fn.params.size → s.fn H ds = { results := [.lit (.bool true)], args := ds })
    (witness : ∃ (w : World) (tape : Tape) (i : Input), w.os = os ∧ (w.forCall tape i).Shaped C.prog ∧ i.vars = [] ∧ Input.okWide C.prog (w.forCall tape i) .any w.heap.size f i ∧
      s.pre6 enc C.prog fn [] false (w.forCall tape i).memory i.args ∧ ({} : Assume).holds C.prog (lone (Frame.enter C.prog f i.args .normal) [] (w.forCall tape i)))
    (walk : ∀ (W : World) (base : Nat) (args : Array Value) (ds : List (DataW H)) (p : List MemPlace),
      (∀ (j : Nat) t v, fn.params[j]? = some t → args[j]? = some v → Value.okWide C.prog W .any base t v) →
      DataW.TrodAll enc C.prog W 0 (fun _ => true) true fn.params.toList args.toList ds p → (∀ x ∈ p, x.block < W.heap.size) →
      CCalls C.prog f args W fun v W' => v = .bool true ∧ Bl W.heap.size W W') :
    ReturnsInLeavingWide {} C os f .any (s.pre6 enc C.prog fn [] false) (s.post enc C.prog fn false true false false) := by
  refine returnsInLeavingWide_of_change_sized own started hfn witness ?_
  intro W base args ds gs before hval hW _ _ _
  have hW' := hW
  obtain ⟨p, q, hA, hV, rfl, _, _⟩ := hW
  rw [hsv] at hV
  obtain ⟨rfl, rfl⟩ := trodVars_none hV
  have hlen : ds.length = fn.params.size := by simpa using trodAll_length hA
  have hc := walk W base args ds p hval hA (fun x hx => hW'.lt x (by simpa using hx))
  obtain ⟨M, last, o, w', t', h1, h2, h3, h4⟩ := run_of_can (Post := fun v w => ∃ d, v = .bool true ∧ Bl W.heap.size W (w.at d)) (fun v w d ⟨d', hv, hb⟩ => ⟨d', hv, hb.at d'⟩) noInit (can_of_ccalls hc)
  refine ⟨M, last, o, w', t', h1, h2, h3, h4.mono ?_⟩
  rintro v ⟨d', rfl, hb⟩
  refine post_tp (τ := W.tape) (d := W.drawn) (lawPost hl (fun t ht => ?_) hres htb hsv (by rw [List.append_nil]; exact hsp ds hlen) hW' ⟨hb.os, rfl, hb.output, hb.size, hb.block⟩)
  have := List.all_eq_true.1 hts t ht
  simpa using this
end
end Go.Proofs.Ytcdchieielpahaa

/- The program's GapsOf and GapLengths, in company. No condition. -/
namespace Go.Proofs.Ytcdchieielpahaa
open Go.Conc Go.RowKit Go.Lib

noncomputable def gpsBody : Code := Try.f17.body.getD .skip
noncomputable def gpsC0 : Code := match gpsBody with | .seq a _ => a | _ => .skip
noncomputable def gpsT1 : Code := match gpsBody with | .seq _ r => r | _ => .skip
noncomputable def gpsOps1 : Array Oper := match gpsT1 with | .seq (.region _ ops _) _ => ops | _ => #[]
noncomputable def gpsT2 : Code := match gpsT1 with | .seq _ r => r | _ => .skip
theorem gpsBody_eq : gpsBody = .seq gpsC0 (.seq (.region 1 gpsOps1 false) gpsT2) := by
  simp only [gpsC0, gpsOps1, gpsT2, gpsT1, gpsBody, Try.f17, Option.getD_some]

set_option maxRecDepth 100000 in
set_option maxHeartbeats 2000000 in
theorem gps_rest (p q n : Int) (l : List Int) (N : Nat) (v u12 u13 u14 : Value) (w : World) (ho : w.ownsRow N 3 1 v l.length (ints l)) (hl : l.length ≤ 1000) (hx : ∀ x ∈ l, 0 ≤ x ∧ x < q ∧ q ≤ 1000) (h0 : 0 < l.length → l.getD 0 0 = 0) :
    gpsT2.wp Try.prog (fun e a' w' => e = .ret ∧ a'.defers = [] ∧ ∃ v', a'.tmps[6]? = some v' ∧ w'.ownsRow w.heap.size 3 1 v' l.length (ints (dsTo q l l.length)) ∧ Below w.heap.size w w') ⟨#[.int .i64 p, .int .i64 q, .int .i64 n, undef, undef, undef, .slice none 0 0, v, undef, undef, undef, undef, u12, u13, u14, v, undef, undef, undef, undef, undef, undef, undef, undef, undef, undef, undef, undef, undef, undef, undef, undef, undef, undef, undef, undef, undef, undef, undef, undef, undef, undef], []⟩ w := by
  obtain ⟨i0, hi0, hz0, hz1, hz2⟩ := info_parts int_info
  obtain ⟨A, cp, rfl⟩ := own_slice ho
  have HO := Lib.hid ho
  have HX := Lib.hid hx
  have HH := Lib.hid h0
  have HNX := Lib.hid (ds_next q l)
  have H0 : Hid (dsTo q l 0 = []) := rfl
  clear ho hx h0
  generalize dsTo q l = T at *
  simp only [gpsT2, gpsT1, gpsBody, Try.f17, Option.getD_some]
  go_wp2_with fail
  go_loopw [8, 18] (fun lv iv w' => ∃ k : Nat, k ≤ l.length ∧ iv = .int .i64 (k : Int) ∧ (∃ A cp, lv = .slice A k cp) ∧ w'.ownsRow w.heap.size 3 1 lv k (ints (T k)) ∧ Below w.heap.size w w') (fun _ iv _ => l.length - (intOf iv).toNat)
  case atStart =>
    refine ⟨0, Nat.zero_le _, rfl, ⟨_, _, rfl⟩, ?_, Below.refl _ _⟩
    rw [H0.out]
    exact ⟨rfl, .inl ⟨rfl, rfl⟩⟩
  case round =>
    obtain ⟨k, hk, rfl, ⟨A3, cp3, rfl⟩, ho3, hb3⟩ := hrel
    have HO3 := Lib.hid ho3
    have HB3 := Lib.hid hb3
    have hbz := hb3.size
    clear ho3 hb3
    by_cases hlt : k < l.length
    · obtain ⟨g, cp', he, _⟩ := own_some HO.out (by omega)
      injection he with he _ he2
      subst he; subst he2
      have hgl := (HO.out.lt g rfl).2
      have hlt' : (k : Int) < (l.length : Int) := by omega
      have ck : wr.cell? ⟨g, k, none⟩ = some (.int .i64 (l.getD k 0)) := (HB3.out.cell (p := ⟨g, k, none⟩) hgl).trans ((World.ownsRow.cellAt HO.out k (by omega)).trans (ints_getD hlt))
      have bk := HX.out _ (getD_mem hlt)
      have HN := Lib.hid (HNX.out k)
      by_cases hnx : k + 1 < l.length
      · have ck1 : wr.cell? ⟨g, k + 1, none⟩ = some (.int .i64 (l.getD (k + 1) 0)) := (HB3.out.cell (p := ⟨g, k + 1, none⟩) hgl).trans ((World.ownsRow.cellAt HO.out (k + 1) (by omega)).trans (ints_getD hnx))
        have bk1 := HX.out _ (getD_mem hnx)
        rw [if_pos hnx] at HN
        have hnx' : (k : Int) + 1 < (l.length : Int) := by omega
        generalize l.getD (k + 1) 0 = y at *
        generalize l.getD k 0 = x at *
        go_wp2_with (at_builtin
                     refine wpList_append1 _ rfl (.tmp 34) (.tmp 38) _ rfl w.heap.size 3 i0 _ 8 Try.underlying22 hi0 hz0 hz1 hz2 rfl (.slice A3 k cp3) k (ints (T k)) rfl HO3.out (.int .i64 (y - x)) rfl rfl (by unfold maxLen; omega) (by omega) hbz ?_
                     intro v' w4 hown4 hbel4)
        have ho4 : w4.ownsRow w.heap.size 3 1 v' (k + 1) (ints (T (k + 1))) := by rw [HN.out, ints_snoc]; exact hown4
        obtain ⟨A5, cp5, rfl⟩ := own_slice ho4
        go_roundw
        case rel => exact ⟨k + 1, by omega, by go_num, ⟨A5, cp5, rfl⟩, ho4, HB3.out.trans hbel4⟩
        case measure => simp [intOf]; omega
      · rw [if_neg hnx, HH.out (by omega), Int.add_zero] at HN
        have hnx' : ¬ (k : Int) + 1 < (l.length : Int) := by omega
        generalize l.getD k 0 = x at *
        go_wp2_with (at_builtin
                     refine wpList_append1 _ rfl (.tmp 34) (.tmp 38) _ rfl w.heap.size 3 i0 _ 8 Try.underlying22 hi0 hz0 hz1 hz2 rfl (.slice A3 k cp3) k (ints (T k)) rfl HO3.out (.int .i64 (q - x)) rfl rfl (by unfold maxLen; omega) (by omega) hbz ?_
                     intro v' w4 hown4 hbel4)
        have ho4 : w4.ownsRow w.heap.size 3 1 v' (k + 1) (ints (T (k + 1))) := by rw [HN.out, ints_snoc]; exact hown4
        obtain ⟨A5, cp5, rfl⟩ := own_slice ho4
        go_roundw
        case rel => exact ⟨k + 1, by omega, by go_num, ⟨A5, cp5, rfl⟩, ho4, HB3.out.trans hbel4⟩
        case measure => simp [intOf]; omega
    · have hkl : k = l.length := by omega
      subst hkl
      have hlt' : ¬ (l.length : Int) < (l.length : Int) := by omega
      go_wp2_with fail
      exact ⟨HO3.out, HB3.out⟩

set_option maxRecDepth 100000 in
set_option maxHeartbeats 2000000 in
theorem c_gps (p q n : Int) (W : World) : CCalls Try.prog 17 #[.int .i64 p, .int .i64 q, .int .i64 n] W fun v w' => w'.ownsRow W.heap.size 3 1 v (gpR p q n).length (ints (gpR p q n)) ∧ Bl W.heap.size W w' := by
  intro Fin cs hK
  have henter : Frame.enter Try.prog 17 #[.int .i64 p, .int .i64 q, .int .i64 n] .normal = ({ (default : Frame) with fn := 17, kind := .normal } : Frame).at ⟨#[.int .i64 p, .int .i64 q, .int .i64 n, undef, undef, undef, undef, undef, undef, undef, undef, undef, undef, undef, undef, undef, undef, undef, undef, undef, undef, undef, undef, undef, undef, undef, undef, undef, undef, undef, undef, undef, undef, undef, undef, undef, undef, undef, undef, undef, undef, undef], []⟩ [.code gpsBody] := by
    simp [Frame.enter, Frame.at, Try.func17, gpsBody, Try.f17]
  rw [henter, gpsBody_eq]
  have leave := can_leave (cs := cs) Try.func17 (t := 6) (by simp [Try.f17]) hK
  refine Can.silent rfl (fun _ => stepG_seq) ?_
  refine (CWp.of (c := gpsC0) (R := fun e a' w => e = .normal ∧ a' = ⟨#[.int .i64 p, .int .i64 q, .int .i64 n, undef, undef, undef, .slice none 0 0, undef, undef, undef, undef, undef, undef, undef, undef, undef, undef, undef, undef, undef, undef, undef, undef, undef, undef, undef, undef, undef, undef, undef, undef, undef, undef, undef, undef, undef, undef, undef, undef, undef, undef, undef], []⟩ ∧ Bl W.heap.size W w)
    closedS noEarlyS (by kernel_rfl) rfl (fun τ d => ?_) (fun e a w h => .inl h.1)) Fin _ _ cs rfl ?_
  · simp only [gpsC0, gpsBody, Try.f17, Option.getD_some]
    go_wp2_with fail
    exact ⟨rfl, rfl, rfl, Nat.le_refl _, fun _ _ => rfl⟩
  rintro e a' w0 ⟨τ0, d0, rfl, rfl, hb0⟩
  replace hb0 := hb0.un
  show Can Try.prog Fin (G (Frame.at _ _ (.code (.seq (.region 1 gpsOps1 false) gpsT2) :: [])) cs) w0
  refine Can.silent rfl (fun _ => stepG_seq) ?_
  refine Can.silent rfl (fun _ => stepG_region) ?_
  have hrange : List.range gpsOps1.size = [0, 1, 2, 3, 4] := by simp [gpsOps1, gpsT1, gpsBody, Try.f17, List.range, List.range.loop]
  rw [hrange]
  simp only [gpsOps1, gpsT1, gpsBody, Try.f17, Option.getD_some]
  refine Can.op rfl rfl rfl (fun _ => rfl) (fun _ => rfl) ?_
  refine Can.op rfl rfl rfl (fun _ => rfl) (fun _ => rfl) ?_
  refine Can.op rfl rfl rfl (fun _ => rfl) (fun _ => rfl) ?_
  walk_nrm
  refine Can.call rfl rfl rfl (run_direct rfl rfl Try.func12 pts_body pts_name (by simp [Act.eval])) (c_pts p q n w0) fun v w1 hR => ?_
  obtain ⟨ho, hb1⟩ := hR
  walk_nrm
  refine Can.op rfl rfl rfl (fun _ => rfl) (fun _ => rfl) ?_
  walk_nrm
  refine Can.silent rfl (fun _ => stepG_region_end) ?_
  have hb : Bl W.heap.size W w1 := hb0.trans (hb1.mono hb0.size)
  have hrest := fun τ d => gps_rest p q n (ptR p q n) w0.heap.size v (.int .i64 p) (.int .i64 q) (.int .i64 n) (tp w1 τ d) (own_tp ho τ d) (pt_facts p q n).1 (pt_facts p q n).2 (ptR_head p q n)
  have hlen : (gpR p q n).length = (ptR p q n).length := ds_len _ _ _
  refine (CWp.of (R := fun e a' w => e = .ret ∧ a'.defers = [] ∧ ∃ v', a'.tmps[6]? = some v' ∧ w.ownsRow W.heap.size 3 1 v' (gpR p q n).length (ints (gpR p q n)) ∧ Bl W.heap.size W w) closedS noEarlyS (c := gpsT2) (by kernel_rfl) rfl (fun τ d => wp_mono (hrest τ d) (fun e a' w ⟨h1, h2, v', h3, h4, h5⟩ => ⟨h1, h2, v', h3, ?_, ?_⟩)) (fun e a w h => .inr h.1)) Fin _ _ cs rfl ?_
  · rw [hlen]
    exact own_mono h4 hb.size
  · exact hb.trans ((Bl.tp' (Bl.ofBelow h5)).mono hb.size)
  rintro e a' w2 ⟨τ2, d2, rfl, hd, v', hv, ho2, hb2⟩
  exact fun todo => leave a' todo w2 _ hd hv ⟨ho2, hb2.un⟩
theorem gps_name : (Try.f17.name == "runtime.NumGoroutine") = false := by kernel_rfl
theorem gps_body : Try.f17.body = some gpsBody := by simp only [gpsBody, Try.f17, Option.getD_some]

noncomputable def glnBody : Code := Try.f19.body.getD .skip
noncomputable def glnC0 : Code := match glnBody with | .seq a _ => a | _ => .skip
noncomputable def glnT1 : Code := match glnBody with | .seq _ r => r | _ => .skip
noncomputable def glnOps1 : Array Oper := match glnT1 with | .seq (.region _ ops _) _ => ops | _ => #[]
noncomputable def glnT2 : Code := match glnT1 with | .seq _ r => r | _ => .skip
theorem glnBody_eq : glnBody = .seq glnC0 (.seq (.region 1 glnOps1 false) glnT2) := by
  simp only [glnC0, glnOps1, glnT2, glnT1, glnBody, Try.f19, Option.getD_some]

set_option maxRecDepth 100000 in
set_option maxHeartbeats 2000000 in
theorem c_gln (p q n : Int) (W : World) : CCalls Try.prog 19 #[.int .i64 p, .int .i64 q, .int .i64 n] W fun v w' => w'.ownsRow W.heap.size 3 1 v (glnR p q n).length (ints (glnR p q n)) ∧ Bl W.heap.size W w' := by
  intro Fin cs hK
  have henter : Frame.enter Try.prog 19 #[.int .i64 p, .int .i64 q, .int .i64 n] .normal = ({ (default : Frame) with fn := 19, kind := .normal } : Frame).at ⟨#[.int .i64 p, .int .i64 q, .int .i64 n, undef, undef, undef, undef, undef, undef, undef, undef, undef], []⟩ [.code glnBody] := by
    simp [Frame.enter, Frame.at, Try.func19, glnBody, Try.f19]
  rw [henter, glnBody_eq]
  have leave := can_leave (cs := cs) Try.func19 (t := 6) (by simp [Try.f19]) hK
  refine Can.silent rfl (fun _ => stepG_seq) ?_
  refine (CWp.of (c := glnC0) (R := fun e a' w => e = .normal ∧ a' = ⟨#[.int .i64 p, .int .i64 q, .int .i64 n, undef, undef, undef, .slice none 0 0, undef, undef, undef, undef, undef], []⟩ ∧ Bl W.heap.size W w)
    closedS noEarlyS (by kernel_rfl) rfl (fun τ d => ?_) (fun e a w h => .inl h.1)) Fin _ _ cs rfl ?_
  · simp only [glnC0, glnBody, Try.f19, Option.getD_some]
    go_wp2_with fail
    exact ⟨rfl, rfl, rfl, Nat.le_refl _, fun _ _ => rfl⟩
  rintro e a' w0 ⟨τ0, d0, rfl, rfl, hb0⟩
  replace hb0 := hb0.un
  show Can Try.prog Fin (G (Frame.at _ _ (.code (.seq (.region 1 glnOps1 false) glnT2) :: [])) cs) w0
  refine Can.silent rfl (fun _ => stepG_seq) ?_
  refine Can.silent rfl (fun _ => stepG_region) ?_
  have hrange : List.range glnOps1.size = [0, 1, 2, 3, 4, 5] := by simp [glnOps1, glnT1, glnBody, Try.f19, List.range, List.range.loop]
  rw [hrange]
  simp only [glnOps1, glnT1, glnBody, Try.f19, Option.getD_some]
  refine Can.op rfl rfl rfl (fun _ => rfl) (fun _ => rfl) ?_
  refine Can.op rfl rfl rfl (fun _ => rfl) (fun _ => rfl) ?_
  refine Can.op rfl rfl rfl (fun _ => rfl) (fun _ => rfl) ?_
  walk_nrm
  refine Can.call rfl rfl rfl (run_direct rfl rfl Try.func17 gps_body gps_name (by simp [Act.eval])) (c_gps p q n w0) fun v w1 hR => ?_
  obtain ⟨ho, hb1⟩ := hR
  walk_nrm
  obtain ⟨sc, hsc⟩ := srt_body
  refine Can.call rfl rfl rfl (run_direct rfl rfl Try.func32 hsc srt_name (by simp [Act.eval])) (cSortedOnce (gpR p q n) (glnR p q n) v w0.heap.size w1 ho (Nat.le_trans (gpR_len p q n) (by omega)) (glTo_asc _ _) (gl_mem _)) fun v2 w2 hR => ?_
  obtain ⟨ho2, hb2⟩ := hR
  walk_nrm
  refine Can.op rfl rfl rfl (fun _ => rfl) (fun _ => rfl) ?_
  walk_nrm
  refine Can.silent rfl (fun _ => stepG_region_end) ?_
  have hb : Bl W.heap.size W w2 := hb0.trans ((hb1.trans hb2).mono hb0.size)
  have hown : w2.ownsRow W.heap.size 3 1 v2 (glnR p q n).length (ints (glnR p q n)) := own_mono ho2 hb0.size
  refine (CWp.of (R := fun e a' w => (e = .ret ∧ a'.defers = [] ∧ a'.tmps[6]? = some v2) ∧ (w.ownsRow W.heap.size 3 1 v2 (glnR p q n).length (ints (glnR p q n)) ∧ Bl W.heap.size W w)) closedS noEarlyS (c := glnT2) (by kernel_rfl) rfl (fun τ d => ?_) (fun e a w h => .inr h.1.1)) Fin _ _ cs rfl ?_
  · have hbt : Bl W.heap.size W (tp w2 τ d) := hb.trans ⟨rfl, rfl, rfl, Nat.le_refl _, fun _ _ => rfl⟩
    have hot := own_tp hown τ d
    generalize tp w2 τ d = wx at *
    simp only [glnT2, glnT1, glnBody, Try.f19, Option.getD_some]
    go_wp2_with fail
  rintro e a' w3 ⟨τ2, d2, ⟨rfl, hd, hv⟩, ho3, hb3⟩
  exact fun todo => leave a' todo w3 _ hd hv ⟨ho3, hb3.un⟩
theorem gln_name : (Try.f19.name == "runtime.NumGoroutine") = false := by kernel_rfl
theorem gln_body : Try.f19.body = some glnBody := by simp only [glnBody, Try.f19, Option.getD_some]
end Go.Proofs.Ytcdchieielpahaa
