/- Texts put together. -/
import Derived.Test.YtcdchieielpahaaMgE4
import Derived.Laws.AppendOwn
import Derived.Conc.AppendEvents2
import Derived.OwnWalk
import Derived.Laws.NewBlocks
import Derived.Below
import Derived.WalkKit
import Derived.ProofKit
import Derived.OpenShut
import Derived.Carry
import Derived.Lib.Hide
import Derived.Deep.Draws
import Derived.Test.YtcdchieielpahaaChecked
import Derived.Deep.QuietTactic
import Derived.BigQuiet
/- The program's multiplesOf, from its go statement to the receive that finds the channel closed: what it has received lies in a row of its own. Conditions: at most 400 points. -/
namespace Go.Proofs.Ytcdchieielpahaa
open Go.Conc Go.RowKit

noncomputable def mulBody : Code := Try.f33.body.getD .skip
noncomputable def mulT3 : Code := match mulBody with | .seq _ (.seq _ r) => r | _ => .skip
noncomputable def mulT4 : Code := match mulT3 with | .seq _ r => r | _ => .skip
noncomputable def mulT5 : Code := match mulT4 with | .seq _ r => r | _ => .skip
noncomputable def mulOps4 : Array Oper := match mulT4 with | .seq (.region _ ops _) _ => ops | _ => #[]
noncomputable def mulL : Code := match mulT5 with | .seq _ (.seq (.seq _ (.block _ (.loop c))) _) => c | _ => .skip
noncomputable def mulEnd : Code := match mulT5 with | .seq _ (.seq _ r) => r | _ => .skip
noncomputable def mulOps7 : Array Oper := match mulL with | .seq (.region _ ops _) _ => ops | _ => #[]
noncomputable def mulL2 : Code := match mulL with | .seq _ r => r | _ => .skip
def mulB : Frame := { (default : Frame) with fn := 33, kind := .normal }

/-- what the receiver knows of the world: W: as it was at the go statement; c: the channel's block -/
structure MF (c : Nat) (W : World) (out : Value) (xs : List Value) (w : World) : Prop where
  own : w.ownsRow (c + 1) 3 1 out xs.length xs
  below : Below c W w
  size : c + 1 ≤ w.heap.size
  nil0 : xs = [] → out = .slice none 0 0

theorem MF.aside {c : Nat} {W : World} {out : Value} {xs : List Value} {w w₁ : World} (h : MF c W out xs w) (ha : Aside c w w₁) : MF c W out xs w₁ := by
  refine ⟨⟨h.own.1, ?_⟩, ⟨ha.os.trans h.below.os, ha.tape.trans h.below.tape, ha.output.trans h.below.output, by rw [ha.size]; exact h.below.size, fun k hk => (ha.block k (by omega)).trans (h.below.block k hk)⟩, by rw [ha.size]; exact h.size, h.nil0⟩
  rcases h.own.2 with h0 | ⟨g, cp, cur, e, hg, hh, r⟩
  · exact .inl h0
  · exact .inr ⟨g, cp, cur, e, hg, (ha.block g (by omega)).trans hh, r⟩
theorem MF.alloc {c : Nat} {W : World} {out : Value} {xs : List Value} {w : World} (h : MF c W out xs w) (o : Obj) : MF c W out xs (w.alloc o) :=
  ⟨h.own.alloc o, h.below.alloc (by have := h.size; omega) o, by have := h.size; simp; omega, h.nil0⟩
theorem MF.grown {c : Nat} {W : World} {out out' : Value} {xs xs' : List Value} {w w' : World} (h : MF c W out xs w) (hg : w.grownBy w' out.ownBlock) (ho : w'.ownsRow (c + 1) 3 1 out' xs'.length xs') (hn : xs' ≠ []) : MF c W out' xs' w' :=
  ⟨ho, h.below.grown hg (by have := h.size; omega) (fun k hk => by have := (h.own.lt k hk).1; omega), Nat.le_trans h.size hg.size, fun e => absurd e hn⟩

theorem da_same {c : Nat} {w : World} {es : Array Event} (h : ∀ e ∈ es, EvA MM e) : DA c TT MM w w es := ⟨id, rfl, h⟩
theorem da_none {c : Nat} {w : World} : DA c TT MM w w #[] := da_same (by simp)
theorem da_below {c : Nat} {w w' : World} {es : Array Event} (h : Below (c + 1) w w') (he : ∀ e ∈ es, EvA MM e) : DA c TT MM w w' es := ⟨fun _ => trivial, h.block c (by omega), he⟩

theorem mul_int_info : (Try.prog.info? 3).map (fun i => (i.zero, i.size, i.bytes)) = some (some (.int .i64 0), 1, 8) := by kernel_rfl

/-- 'append(s, x...)', by what it yields and by what it lists -/
theorem upon_app {P : Program} {o : Oper} {a : Act} {K : Act → World → Prop} {w w' : World} {v xv v' : Value} (s x : Operand) (t : TypeId)
    (ho : o.op = .call { callee := .builtin .append, args := #[s, x], argTypes := #[t, t] }) (hs : a.eval s = v) (hx : a.eval x = xv) (hr : (Builtin.append_ #[t, t] o.type #[v, xv]).run P w = .ok v' w') (h : K (a.put o.dst v') w') : uponK o a K ((execOp a.eval o).run P w) := by
  unfold execOp
  simp only [ho, resolve, invoke, builtin, Sem.run_bind, Sem.run_pure, Result.andThen_ok, List.map_toArray, List.map_cons, List.map_nil, hs, hx, hr]
  exact h
theorem evs_app {P : Program} {o : Oper} {a : Act} {w : World} {v xv : Value} (s x : Operand) (t : TypeId)
    (ho : o.op = .call { callee := .builtin .append, args := #[s, x], argTypes := #[t, t] }) (hs : a.eval s = v) (hx : a.eval x = xv) (es : Array Event) : (execOp a.eval o).events P w es = (Builtin.append_ #[t, t] o.type #[v, xv]).events P w es := by
  unfold execOp
  simp only [ho, resolve, invoke, builtin, Sem.events_bind, Sem.run_pure, Sem.events_pure, Result.evThen_ok, List.map_toArray, List.map_cons, List.map_nil, hs, hx]
  cases (Builtin.append_ #[t, t] o.type #[v, xv]).run P w <;> rfl

/-- the slots that stay while it receives -/
structure MS where
  p : Value
  q : Value
  n : Value
  u3 : Value
  u4 : Value
  u5 : Value
  u6 : Value
  u10 : Value
  u11 : Value
  u12 : Value
  u13 : Value
  u14 : Value
  u15 : Value
  u16 : Value
  u17 : Value
  u18 : Value
  u19 : Value
  u20 : Value
  u21 : Value
  u22 : Value
  u36 : Value

section
variable (c : Nat) (W : World) (s : MS) (cs : List Frame)

/-- at the receive ([0, 1]); behind it ([1]: slot 29 holds what came) -/
noncomputable def mulAt (out : Value) (u9 u29 u30 u31 u32 u33 u34 u35 : Value) (rest : List Nat) : Goroutine :=
  G (mulB.at ⟨#[s.p, s.q, s.n, s.u3, s.u4, s.u5, s.u6, .chan (some c), out, u9, s.u10, s.u11, s.u12, s.u13, s.u14, s.u15, s.u16, s.u17, s.u18, s.u19, s.u20, s.u21, s.u22, .chan (some c), .chan (some c), s.p, s.q, s.n, .chan (some c), u29, u30, u31, u32, u33, u34, u35, s.u36], []⟩ [.inRegion mulOps7 rest, .code mulL2, .inLoop mulL, .inBlock 0, .code mulEnd]) cs

set_option maxRecDepth 100000 in
theorem mul_round (Stop : Goroutine → World → Prop) (n₀ : Nat) (out : Value) (xs : List Value) (x : Int) (u9 u30 u31 u32 u33 u34 u35 : Value) (w : World) (hF : MF c W out xs w) (hlen : (xs.length + 1) * 8 ≤ 140737488355328)
    (next : ∀ (out' : Value) (u9 u29 u30 u31 u32 u33 u34 u35 : Value) w', MF c W out' (xs ++ [.int .i64 x]) w' → Goes Try.prog true (Aside c) (DA c TT MM) Stop n₀ (mulAt c s cs out' u9 u29 u30 u31 u32 u33 u34 u35 [0, 1]) w') :
    Goes Try.prog true (Aside c) (DA c TT MM) Stop (n₀ + 22) (mulAt c s cs out u9 (.tuple #[.int .i64 x, .bool true]) u30 u31 u32 u33 u34 u35 [1]) w := by
  simp only [mulAt, mulOps7, mulL2, mulL, mulEnd, mulT5, mulT4, mulT3, mulBody, Try.f33, Option.getD_some] at next ⊢
  repeat (first | a_ctl hF MF.aside da_none | a_op hF MF.aside [] da_same (by simp))
  a_cond true hF MF.aside da_none
  repeat (first | a_ctl hF MF.aside da_none | a_op hF MF.aside [] da_same (by simp))
  -- a new block of one cell
  refine Goes.step rfl (fun w₁ h₁ => ?_)
  replace hF := MF.aside hF h₁
  clear h₁
  refine goes_oper_k rfl rfl (by decide) (fun K hK => ?_)
  go_simp
  refine hK _ _ ⟨da_below ((Below.refl _ _).alloc hF.size _) (fun e he => ?_), ?_⟩
  · have hm := mem_listed he
    simp [go_sem] at hm
  clear hK K
  have hsz := hF.size
  have hnew : (w₁.alloc (.cells #[.int .i64 x] 3)).cell? ⟨w₁.heap.size, 0, none⟩ = some (.int .i64 x) := by
    rw [World.cell?_alloc_at _ _ _ _ rfl]; rfl
  replace hF := hF.alloc (.cells #[.int .i64 x] 3)
  -- append
  refine Goes.step rfl (fun w₂ h₂ => ?_)
  replace hF := MF.aside hF h₂
  replace hnew : w₂.cell? ⟨w₁.heap.size, 0, none⟩ = some (.int .i64 x) := (World.cell?_of_block (h₂.block _ (by simp; omega))).trans hnew
  clear h₂
  obtain ⟨i0, hi, hz0, hz1, hz2⟩ := info_parts mul_int_info
  have hnews : ∀ j u, [Value.int .i64 x][j]? = some u → w₂.cell? ((⟨w₁.heap.size, 0, none⟩ : Addr).add j) = some u := by
    intro j u hj
    match j, hj with
    | 0, hj => simp at hj; subst hj; simpa [Addr.add] using hnew
  have h1 : ∀ u ∈ [Value.int .i64 x], u.oneCell' = true := by intro u hu; simp at hu; subst hu; rfl
  have h63 : xs.length + 1 ≤ maxLen := by simp only [maxLen]; omega
  obtain ⟨out', w₃, hr, hown', hgrow, _⟩ := run_append_own (P := Try.prog) w₂ (c + 1) 22 22 3 i0 (.int .i64 0) 1 8 Try.underlying22 hi hz0 hz1 hz2 rfl (by decide) out xs.length xs hF.own ⟨w₁.heap.size, 0, none⟩ 1 1 [.int .i64 x] rfl hnews h1 h63 hlen hF.size
  have hevs := events_append_own (P := Try.prog) w₂ (c + 1) 22 22 3 i0 (.int .i64 0) 1 8 Try.underlying22 hi hz0 hz1 hz2 out xs.length xs hF.own ⟨w₁.heap.size, 0, none⟩ 1 1 [.int .i64 x] rfl hnews h1 h63 hlen
  refine goes_oper_k rfl rfl (by decide) (fun K hK => ?_)
  refine upon_app (.tmp 32) (.tmp 34) 22 rfl rfl rfl hr (hK _ _ ⟨da_below ((Below.refl _ _).grown hgrow hF.size (fun k hk => (hF.own.lt k hk).1)) (fun e he => ?_), ?_⟩)
  · have hm := mem_listed he
    rw [evs_app (.tmp 32) (.tmp 34) 22 rfl rfl rfl] at hm
    rcases hevs e hm with ⟨ad, h2, h3⟩ | ⟨ad, h2, h3⟩ | ⟨m, rfl, hn⟩
    · exact ⟨fun m => by rw [h2]; simp, fun hw => by rw [h3] at hw; cases hw⟩
    · exact ⟨fun m => by rw [h2]; simp, fun _ => ⟨ad, h2⟩⟩
    · exact ⟨fun m' h' => (by cases h'; exact hn), fun hw => (by cases hw)⟩
  clear hK K
  replace hF : MF c W out' (xs ++ [.int .i64 x]) w₃ := hF.grown hgrow (by simpa using hown') (by simp)
  clear hr hown' hgrow hevs hnews hnew
  repeat (first | a_ctl hF MF.aside da_none | a_op hF MF.aside [] da_same (by simp))
  exact next _ _ _ _ _ _ _ _ _ _ hF

set_option maxRecDepth 100000 in
/-- from behind the go statement to the first receive -/
theorem mul_first (Stop : Goroutine → World → Prop) (n₀ : Nat) (u8 u9 u28 u29 u30 u31 u32 u33 u34 u35 : Value) (w : World) (hF : MF c W (.slice none 0 0) [] w)
    (next : ∀ (u9 u29 u30 u31 u32 u33 u34 u35 : Value) w', MF c W (.slice none 0 0) [] w' → Goes Try.prog true (Aside c) (DA c TT MM) Stop n₀ (mulAt c s cs (.slice none 0 0) u9 u29 u30 u31 u32 u33 u34 u35 [0, 1]) w') :
    Goes Try.prog true (Aside c) (DA c TT MM) Stop (n₀ + 14) (G (mulB.at ⟨#[s.p, s.q, s.n, s.u3, s.u4, s.u5, s.u6, .chan (some c), u8, u9, s.u10, s.u11, s.u12, s.u13, s.u14, s.u15, s.u16, s.u17, s.u18, s.u19, s.u20, s.u21, s.u22, .chan (some c), .chan (some c), s.p, s.q, s.n, u28, u29, u30, u31, u32, u33, u34, u35, s.u36], []⟩ [.inRegion mulOps4 [], .code mulT5]) cs) w := by
  simp only [mulAt, mulOps4, mulOps7, mulL2, mulL, mulEnd, mulT5, mulT4, mulT3, mulBody, Try.f33, Option.getD_some] at next ⊢
  repeat (first | a_ctl hF MF.aside da_none | a_op hF MF.aside [] da_same (by simp))
  exact next _ _ _ _ _ _ _ _ _ hF

theorem mul_comm (out u9 u29 u30 u31 u32 u33 u34 u35 : Value) (w : World) : stepG Try.prog true (mulAt c s cs out u9 u29 u30 u31 u32 u33 u34 u35 [0, 1]) w =
    .comm (core (mulAt c s cs out u9 u29 u30 u31 u32 u33 u34 u35 [0, 1])) #[rcase c (.int .i64 0)] true (.recv true) w #[] := by
  simp only [mulAt, mulOps7, mulL, mulT5, mulT4, mulT3, mulBody, Try.f33, Option.getD_some, core_G]
  rw [stepG_comm (cases := #[rcase c (.int .i64 0)]) (blocking := true) (shape := .recv true) (w' := w) rfl rfl (by decide) (by simp [go_sem, rcase])]
  simp [listed, go_sem, seen]
theorem mul_served (out u9 u29 u30 u31 u32 u33 u34 u35 : Value) (v : Value) : Conc.served (core (mulAt c s cs out u9 u29 u30 u31 u32 u33 u34 u35 [0, 1])) v = mulAt c s cs out u9 v u30 u31 u32 u33 u34 u35 [1] := by
  simp only [mulAt, mulOps7, mulL, mulT5, mulT4, mulT3, mulBody, Try.f33, Option.getD_some, core_G, served_G]
  rfl

theorem mulsV_length (p q : Nat) : ∀ (m k : Nat), (mulsV p q k m).length = m
  | 0, _ => rfl
  | m + 1, k => by simp [mulsV, mulsV_length p q m]
theorem mulsV_snoc (p q : Nat) : ∀ (m k : Nat), mulsV p q k (m + 1) = mulsV p q k m ++ [.int .i64 (((k + m) * p % q : Nat) : Int)]
  | 0, k => by simp [mulsV]
  | m + 1, k => by
    have := mulsV_snoc p q m (k + 1)
    simp only [mulsV] at this ⊢
    rw [this]
    simp [Nat.add_assoc, Nat.add_comm 1 m]

/-- behind the receive that found the channel closed -/
def MulFin (p q n : Nat) (g : Goroutine) (w : World) : Prop :=
  ∃ out u9 u30 u31 u32 u33 u34 u35, g = mulAt c s cs out u9 (.tuple #[.int .i64 0, .bool false]) u30 u31 u32 u33 u34 u35 [1] ∧ MF c W out (mulsV p q 0 n) w

theorem mul_from (p q n : Nat) (hn : n ≤ 400) : ∀ (m k : Nat), k + m = n → ∀ (out u9 u29 u30 u31 u32 u33 u34 u35 : Value) (w : World), MF c W out (mulsV p q 0 k) w →
    StopA Try.prog c TT MM (.int .i64 0) (MulFin c W s cs p q n) (mulsV p q k m) (mulAt c s cs out u9 u29 u30 u31 u32 u33 u34 u35 [0, 1]) w := by
  intro m
  induction m with
  | zero =>
    intro k hk out u9 u29 u30 u31 u32 u33 u34 u35 w hF
    obtain rfl : k = n := by omega
    refine ⟨rfl, #[], mul_comm c s cs out u9 u29 u30 u31 u32 u33 u34 u35 w, by simp, fun w₂ h₂ => ?_⟩
    simp only [mul_served]
    exact ⟨out, u9, u30, u31, u32, u33, u34, u35, rfl, hF.aside h₂⟩
  | succ m ih =>
    intro k hk out u9 u29 u30 u31 u32 u33 u34 u35 w hF
    refine ⟨rfl, #[], mul_comm c s cs out u9 u29 u30 u31 u32 u33 u34 u35 w, by simp, fun w₂ h₂ => ?_⟩
    simp only [mul_served]
    refine (recvs_iff ..).2 ⟨0 + 22, mul_round c W s cs _ 0 out _ _ u9 u30 u31 u32 u33 u34 u35 w₂ (hF.aside h₂) (by rw [mulsV_length]; omega) fun out' u9 u29 u30 u31 u32 u33 u34 u35 w' hF' => Goes.stop fun w₁ h₁ => ih (k + 1) (by omega) out' u9 u29 u30 u31 u32 u33 u34 u35 w₁ ?_⟩
    have e := mulsV_snoc p q k 0
    rw [Nat.zero_add] at e
    rw [e]
    exact hF'.aside h₁

/-- the receiver's script -/
theorem mul_recvs (p q n : Nat) (hn : n ≤ 400) (u8 u9 u28 u29 u30 u31 u32 u33 u34 u35 : Value) (w : World) (hF : MF c W (.slice none 0 0) [] w) :
    Recvs Try.prog c TT MM (.int .i64 0) (MulFin c W s cs p q n) (mulsV p q 0 n) (G (mulB.at ⟨#[s.p, s.q, s.n, s.u3, s.u4, s.u5, s.u6, .chan (some c), u8, u9, s.u10, s.u11, s.u12, s.u13, s.u14, s.u15, s.u16, s.u17, s.u18, s.u19, s.u20, s.u21, s.u22, .chan (some c), .chan (some c), s.p, s.q, s.n, u28, u29, u30, u31, u32, u33, u34, u35, s.u36], []⟩ [.inRegion mulOps4 [], .code mulT5]) cs) w :=
  (recvs_iff ..).2 ⟨0 + 14, mul_first c W s cs _ 0 u8 u9 u28 u29 u30 u31 u32 u33 u34 u35 w hF fun u9 u29 u30 u31 u32 u33 u34 u35 w' hF' => Goes.stop fun w₁ h₁ =>
    mul_from c W s cs p q n hn n 0 (by omega) _ u9 u29 u30 u31 u32 u33 u34 u35 w₁ (hF'.aside h₁)⟩
end
end Go.Proofs.Ytcdchieielpahaa

/- What every law's row has in common: from 'the call returns true and nothing old has turned' to the row. No condition. -/
namespace Go.Proofs.Ytcdchieielpahaa
open Go.ChangeShapes Go.WideShapes Go.ChangeAt Go.RowKit

theorem ret_bool {a b : Bool} (h : a = b) : Ending.returned (.bool a) = .returned (.bool b) := by rw [h]
theorem ret_str {a b : ByteArray} (h : a = b) : Ending.returned (.string a) = .returned (.string b) := by rw [h]
theorem ret_int {a b : Int} (h : a = b) : Ending.returned (.int .i64 a) = .returned (.int .i64 b) := by rw [h]
theorem below_drewN {B : Nat} {a w : World} (h : Below B a w) (n : Nat) : Below B a (w.drewN n) := ⟨h.os, h.tape, h.output, h.size, h.block⟩

/-- a one-byte slice turned into a string -/
theorem run_conv_at {P : Program} (w : World) (src dst e : TypeId) (hs : P.underlying src = some (.slice e)) (he : P.underlying e = some (.int .u8)) (hd : P.underlying dst = some .string) (g : Nat) (b : Int) (hc : w.cell? ⟨g, 0, none⟩ = some (.int .u8 b)) :
    (convert src dst (.slice (some ⟨g, 0, none⟩) 1 1)).run P w = .ok (.string ⟨[UInt8.ofNat b.toNat].toArray⟩) w := by
  rw [run_convert_bytes_string _ src dst e _ _ _ hs he hd, run_bytesToString _ _ _ _ [b] ?_]
  · rfl
  · simp [loadCells, go_sem, hc]
/-- a new one-byte slice turned into a string -/
theorem run_conv1 {P : Program} (w : World) (src dst e : TypeId) (hs : P.underlying src = some (.slice e)) (he : P.underlying e = some (.int .u8)) (hd : P.underlying dst = some .string) (b : Int) :
    (convert src dst (.slice (some ⟨w.heap.size, 0, none⟩) 1 1)).run P (w.alloc (.cells #[.int .u8 b] e)) = .ok (.string ⟨[UInt8.ofNat b.toNat].toArray⟩) (w.alloc (.cells #[.int .u8 b] e)) :=
  run_conv_at _ src dst e hs he hd _ b (by rw [World.cell?_alloc_at _ _ _ _ rfl]; rfl)

theorem bytes_ext {a b : ByteArray} (h : a.toList = b.toList) : a = b := by
  rw [ByteArray.toList_eq, ByteArray.toList_eq] at h
  exact ByteArray.ext (Array.toList_inj.1 h)

theorem wf_bounds {n : Int} (h : (Lit.int .i64 n).wf = true) : -9223372036854775808 ≤ n ∧ n ≤ 9223372036854775807 := by
  simp [Lit.wf, IntKind.min, IntKind.max, IntKind.signed, IntKind.bits] at h
  exact h

theorem own_drewN {w : World} {B : Nat} {e : TypeId} {size : Nat} {v : Value} {n : Nat} {xs : List Value} (h : w.ownsRow B e size v n xs) (k : Nat) : (w.drewN k).ownsRow B e size v n xs := h

theorem below_iter (w : World) (s : ByteArray) (k : Nat) : Below w.heap.size w (w.iter s k) := (Below.refl _ _).alloc (Nat.le_refl _) _

/-- append of one element: the walk has just laid the new element into a block of its own. -/
theorem wpList_append1 {P : Program} (w : World) {ops : Array Oper} {rest : List Oper} {o : Oper} {a : Act} {Q : Exit → Act → World → Prop} (hgd : o.guard = none) (s x : Operand) (t : TypeId)
    (ho : o.op = .call { callee := .builtin .append, args := #[s, x], argTypes := #[t, t] })
    (base : Nat) (e : TypeId) (i : TypeInfo) (z : Value) (bytes : Nat) (ht : P.underlying t = some (.slice e)) (hi : P.info? e = some i) (hz : i.zero = some z)
    (hsize : i.size = 1) (hby : i.bytes = bytes) (hzs : z.cells.size = 1)
    (v : Value) (n : Nat) (xs : List Value) (hs : a.eval s = v) (hown : w.ownsRow base e 1 v n xs)
    (y : Value) (hy : y.oneCell' = true) (hx : a.eval x = .slice (some ⟨w.heap.size, 0, none⟩) 1 1)
    (h63 : n + 1 ≤ maxLen) (hbytes : (n + 1) * bytes ≤ 140737488355328) (hbase : base ≤ w.heap.size)
    (h : ∀ v' w', w'.ownsRow base e 1 v' (n + 1) (xs ++ [y]) → Below base w w' → wpList P ops Q rest (a.put o.dst v') w') :
    wpList P ops Q (o :: rest) a (w.alloc (.cells #[y] e)) := by
  refine wpList_append_own _ hgd s x t ho base e i z 1 bytes ht hi hz hsize hby hzs (by decide) v n xs hs (hown.alloc _) ⟨w.heap.size, 0, none⟩ 1 1 [y] hx rfl ?_ ?_ h63 hbytes (by simp; omega) ?_
  · intro j u hu
    rcases j with _ | j
    · simp at hu
      subst hu
      rw [Addr.add_lit, World.cell?_alloc_at _ _ _ _ (by simp)]
      rfl
    · simp at hu
  · intro u hu
    simp at hu
    subst hu
    exact hy
  · intro v' w' h1 h2 _
    refine h v' w' h1 ?_
    have hb : Below base w (w.alloc (.cells #[y] e)) := (Below.refl _ _).alloc hbase _
    exact hb.grown h2 (by simp; omega) (fun k hk => (hown.lt k hk).1)

section
variable {H : Type} {enc : TypeId × Value → H} {P : Program}

/-- The arguments' reading, in a world in which nothing old has turned. -/
theorem trodAll_later (hl : laidOutB P = true) {W W' : World} (hb : Below W.heap.size W W') {sp : Nat → Bool} :
    ∀ (ts : List TypeId) (vs : List Value) (ds : List (DataW H)) (ps : List MemPlace), (∀ t ∈ ts, P.readableRec t = true ∧ t < P.types.size) →
      DataW.TrodAll enc P W 0 (fun _ => true) true ts vs ds ps → (∀ x ∈ ps, x.block < W.heap.size) → (∀ x ∈ ps, sp x.block = true) → DataW.TrodAll enc P W' 0 sp true ts vs ds ps
  | [], vs, ds, ps, _, h, _, _ => by
    obtain ⟨rfl, rfl, rfl⟩ := trodAll_nil h
    rfl
  | t :: ts, vs, ds, ps, hr, h, hlt, hsp => by
    obtain ⟨v, vs', d, ds', p, q, rfl, rfl, rfl, hd, hrest⟩ := trodAll_cons h
    refine ⟨p, q, ?_, ?_, rfl⟩
    · exact WideElems.Trod_stays hl (hr t (List.mem_cons_self ..)).1 (hr t (List.mem_cons_self ..)).2 hd (fun x hx => hb.same (hlt x (List.mem_append_left _ hx))) (fun x hx => hsp x (List.mem_append_left _ hx))
    · exact trodAll_later hl hb ts vs' ds' q (fun u hu => hr u (List.mem_cons_of_mem _ hu)) hrest (fun x hx => hlt x (List.mem_append_right _ hx)) (fun x hx => hsp x (List.mem_append_right _ hx))

theorem trodAll_length {w : World} {base : Nat} {sp : Nat → Bool} {held : Bool} : ∀ {ts : List TypeId} {vs : List Value} {ds : List (DataW H)} {ps : List MemPlace}, DataW.TrodAll enc P w base sp held ts vs ds ps → ds.length = ts.length
  | [], _, _, _, h => by
    obtain ⟨_, rfl, _⟩ := trodAll_nil h
    rfl
  | _ :: _, _, _, _, h => by
    obtain ⟨_, _, _, ds', _, q, _, rfl, _, _, hr⟩ := trodAll_cons h
    simp [trodAll_length hr]

/-- A law's post: it returned true, nothing old has turned. -/
theorem lawPost {f : Func} {s : ChangeSpec} {W W' : World} {args : Array Value} {ds gs : List (DataW H)} {before : List MemPlace} {tb : TypeId}
    (hl : laidOutB P = true) (hts : ∀ t ∈ f.params.toList, P.readableRec t = true ∧ t < P.types.size) (hres : f.resultTypes = #[tb]) (htb : P.underlying tb = some .bool)
    (hsv : s.vars = []) (hsp : s.fn H (ds ++ gs) = { results := [.lit (.bool true)], args := ds })
    (hW : DataW.Whole enc P f.params.toList s.vars false W args.toList ds gs before) (hb : Below W.heap.size W W') :
    s.post enc P f false true false false W args (.bool true) W' := by
  have hlt : ∀ p ∈ before, p.block < W.heap.size := fun p hp => hW.lt p hp
  have hW0 := hW
  obtain ⟨p, q, hA, hV, rfl, _, _⟩ := hW
  rw [hsv] at hV
  obtain ⟨rfl, rfl⟩ := trodVars_none hV
  simp only [List.append_nil] at hW0 hlt hsp ⊢
  refine ⟨ds, [], p, [], p, [], hW0, ?_, ?_, ?_, ?_, fun h => by cases h⟩
  · rw [List.append_nil, hsp, hres]
    exact trodAll_mk1 (shut_bool htb true)
  · rw [List.append_nil, hsp]
    exact trodAll_later hl hb _ _ _ _ hts hA hlt (fun x hx => by simpa using hlt x hx)
  · rw [List.append_nil, hsp, hsv]
    rfl
  · exact World.keptBut_mono (fun x hx => ⟨hx, .inr (.inl hx)⟩) (hb.frame (· ∈ p))

/-- The row's step for a law whose row has no condition and lists no variable. -/
theorem lawLifted {C : Checked} {os : Os} {f : FuncId} {fn : Func} {s : ChangeSpec} {tb : TypeId}
    (own : ownKnob C.prog.godebug = none) (started : os.Started) (noInit : C.prog.inits.idxOf? f = none) (hfn : C.prog.funcs[f]? = some fn)
    (hl : laidOutB C.prog = true) (hts : fn.params.toList.all (fun t => C.prog.readableRec t && decide (t < C.prog.types.size)) = true) (hres : fn.resultTypes = #[tb]) (htb : C.prog.underlying tb = some .bool)
    (hsv : s.vars = []) (hsp : ∀ ds : List (DataW H), ds.length = fn.params.size → s.fn H ds = { results := [.lit (.bool true)], args := ds })
    (witness : ∃ (w : World) (tape : Tape) (i : Input), w.os = os ∧ (w.forCall tape i).Shaped C.prog ∧ i.vars = [] ∧ Input.okWide C.prog (w.forCall tape i) .any w.heap.size f i ∧
      s.pre6 enc C.prog fn [] false (w.forCall tape i).memory i.args ∧ ({} : Assume).holds C.prog (lone (Frame.enter C.prog f i.args .normal) [] (w.forCall tape i)))
    (walk : ∀ (W : World) (base : Nat) (args : Array Value) (ds : List (DataW H)) (p : List MemPlace),
      (∀ (j : Nat) t v, fn.params[j]? = some t → args[j]? = some v → Value.okWide C.prog W .any base t v) →
      DataW.TrodAll enc C.prog W 0 (fun _ => true) true fn.params.toList args.toList ds p → (∀ x ∈ p, x.block < W.heap.size) →
      Calls C.prog f args W fun e W' => e = .returned (.bool true) ∧ Below W.heap.size W W') :
    ReturnsInHanded {} C os f .any (s.pre6 enc C.prog fn [] false) (s.post enc C.prog fn false true false false) := by
  refine returnsInHanded_of_change own started noInit hfn witness ?_
  intro W base args ds gs before hval hW _ _
  have hW' := hW
  obtain ⟨p, q, hA, hV, rfl, _, _⟩ := hW
  rw [hsv] at hV
  obtain ⟨rfl, rfl⟩ := trodVars_none hV
  have hlen : ds.length = fn.params.size := by
    have h2 : ∀ (ts : List TypeId) (vs : List Value) (ds : List (DataW H)) (ps : List MemPlace), DataW.TrodAll enc C.prog W 0 (fun _ => true) true ts vs ds ps → ds.length = ts.length := by
      intro ts
      induction ts with
      | nil => intro vs ds ps h; obtain ⟨_, rfl, _⟩ := trodAll_nil h; rfl
      | cons t ts ih => intro vs ds ps h; obtain ⟨_, _, _, ds', _, q, _, rfl, _, _, hr⟩ := trodAll_cons h; simp [ih _ _ _ hr]
    simpa using h2 _ _ _ _ hA
  refine (walk W base args ds p hval hA (fun x hx => hW'.lt x (by simpa using hx))).mono fun e W' ⟨he, hb⟩ => ⟨_, he, ?_⟩
  refine lawPost hl (fun t ht => ?_) hres htb hsv (by rw [List.append_nil]; exact hsp ds hlen) hW' hb
  have := List.all_eq_true.1 hts t ht
  simpa using this
end
end Go.Proofs.Ytcdchieielpahaa

/- Slices that read as lists; frames. No program in it. -/
namespace Go.Proofs.Ytcdchieielpahaa
open Go.RowKit

/-- 'v' is a slice whose elements are xs (one cell each), wherever it lies. -/
def Lst (w : World) (v : Value) (xs : List Value) : Prop :=
  ∃ A cap, v = .slice A xs.length cap ∧ xs.length ≤ cap ∧ cap ≤ maxLen ∧ (xs = [] ∨ ∃ b off, A = some ⟨b, off, none⟩ ∧ ∀ (i : Nat) u, xs[i]? = some u → w.cell? ⟨b, off + i, none⟩ = some u)
theorem Lst.keep {w w' : World} {v : Value} {xs : List Value} (h : Lst w v xs) (hk : ∀ b o u, v.ownBlock = some b → w.cell? ⟨b, o, none⟩ = some u → w'.cell? ⟨b, o, none⟩ = some u) : Lst w' v xs := by
  obtain ⟨A, cap, rfl, h1, h2, h3⟩ := h
  refine ⟨A, cap, rfl, h1, h2, ?_⟩
  rcases h3 with h3 | ⟨b, off, rfl, h3⟩
  · exact .inl h3
  · exact .inr ⟨b, off, rfl, fun i u hu => hk _ _ _ rfl (h3 i u hu)⟩
theorem Lst.below {w w' : World} {v : Value} {xs : List Value} (h : Lst w v xs) (hb : Below w.heap.size w w') : Lst w' v xs :=
  h.keep fun _ _ _ _ hc => (hb.cell (World.block_lt_of_cell? w _ hc)).trans hc
theorem Lst.grown {w w' : World} {v : Value} {xs : List Value} {row : Option Nat} (h : Lst w v xs) (hg : w.grownBy w' row) (hne : v.ownBlock = none ∨ v.ownBlock ≠ row) : Lst w' v xs :=
  h.keep fun b o u hb hc => hg.cell hc (by
    rcases hne with hne | hne
    · rw [hb] at hne; cases hne
    · rw [hb] at hne; exact hne)
theorem Lst.drewN {w : World} {v : Value} {xs : List Value} (h : Lst w v xs) (n : Nat) : Lst (w.drewN n) v xs := h
theorem Lst.of_own {w : World} {B : Nat} {e : TypeId} {v : Value} {n : Nat} {xs : List Value} (h : w.ownsRow B e 1 v n xs) : Lst w v xs := by
  have hl := h.1
  rw [Nat.mul_one] at hl
  subst hl
  rcases h.2 with ⟨rfl, hn⟩ | ⟨g, cap, cur, rfl, _, _, hnc, hcm, _, _⟩
  · exact ⟨none, 0, by rw [hn], by omega, by simp [maxLen], .inl (List.eq_nil_of_length_eq_zero hn)⟩
  · refine ⟨_, cap, rfl, hnc, hcm, .inr ⟨g, 0, rfl, fun i u hu => ?_⟩⟩
    have := h.cells (g := g) rfl i u hu
    rwa [Addr.add_lit] at this

def strs (l : List ByteArray) : List Value := l.map Value.string
theorem strs_length (l : List ByteArray) : (strs l).length = l.length := by simp [strs]
theorem strs_snoc (l : List ByteArray) (x : ByteArray) : strs (l ++ [x]) = strs l ++ [.string x] := by simp [strs]
theorem strs_at {w : World} {b off : Nat} {l : List ByteArray} (h : ∀ (i : Nat) u, (strs l)[i]? = some u → w.cell? ⟨b, off + i, none⟩ = some u) (k : Nat) (hk : k < l.length) : w.cell? ⟨b, off + k, none⟩ = some (.string l[k]) :=
  h k _ (by simp [strs, hk])
theorem take_eq_succ {α : Type} {l m : List α} {k : Nat} (h : l.take k = m.take k) (hl : k < l.length) (hm : k < m.length) (he : l[k] = m[k]) : l.take (k + 1) = m.take (k + 1) := by
  rw [List.take_succ_eq_append_getElem hl, List.take_succ_eq_append_getElem hm, h, he]
theorem grown_of_below {a w : World} (h : Below a.heap.size a w) (row : Option Nat) : a.grownBy w row := ⟨h.os, h.tape, h.output, h.size, fun i hi _ => h.block i hi⟩
theorem grown_trans {a b c : World} {row : Option Nat} (h : a.grownBy b row) (k : b.grownBy c row) : a.grownBy c row :=
  ⟨k.os.trans h.os, k.tape.trans h.tape, k.output.trans h.output, Nat.le_trans h.size k.size, fun i hi hne => (k.block i (Nat.lt_of_lt_of_le hi h.size) hne).trans (h.block i hi hne)⟩
theorem own_mono {w : World} {B B' : Nat} {e : TypeId} {size : Nat} {v : Value} {n : Nat} {xs : List Value} (h : w.ownsRow B e size v n xs) (hb : B' ≤ B) : w.ownsRow B' e size v n xs := by
  refine ⟨h.1, h.2.imp id ?_⟩
  rintro ⟨g, cap, cur, h1, h2, h3⟩
  exact ⟨g, cap, cur, h1, Nat.le_trans hb h2, h3⟩
theorem own_setCell {w : World} {B : Nat} {e : TypeId} {size : Nat} {v : Value} {n : Nat} {xs : List Value} (h : w.ownsRow B e size v n xs) {a : Addr} (ha : a.block < B) (u : Value) : (w.setCell a u).ownsRow B e size v n xs := by
  refine ⟨h.1, h.2.imp id ?_⟩
  rintro ⟨g, cap, cur, h1, h2, h3, h4⟩
  exact ⟨g, cap, cur, h1, h2, by rw [Below.heap_setCell _ _ _ _ (by omega)]; exact h3, h4⟩
theorem own_setCell2 {w : World} {B : Nat} {e : TypeId} {size : Nat} {v : Value} {n : Nat} {xs : List Value} (h : w.ownsRow B e size v n xs) {a : Addr} (ha : ∀ k, v.ownBlock = some k → k ≠ a.block) (u : Value) : (w.setCell a u).ownsRow B e size v n xs := by
  refine ⟨h.1, h.2.imp id ?_⟩
  rintro ⟨g, cap, cur, rfl, h2, h3, h4⟩
  exact ⟨g, cap, cur, rfl, h2, by rw [Below.heap_setCell _ _ _ _ (ha g rfl)]; exact h3, h4⟩
/-- what lay below reads as before and is as free to write -/
theorem below_reads {W w : World} {B : Nat} (h : Below B W w) : (∀ b o, b < B → w.cell? ⟨b, o, none⟩ = W.cell? ⟨b, o, none⟩) ∧ (∀ b o, b < B → w.frozen? ⟨b, o, none⟩ = W.frozen? ⟨b, o, none⟩) :=
  ⟨fun _ _ hb => h.cell hb, fun _ _ hb => h.frozen hb⟩
theorem own_slice {w : World} {B : Nat} {e : TypeId} {size : Nat} {v : Value} {n : Nat} {xs : List Value} (h : w.ownsRow B e size v n xs) : ∃ A cap, v = .slice A n cap := by
  rcases h.2 with ⟨h1, rfl⟩ | ⟨g, cap, cur, h1, _⟩
  · exact ⟨_, _, h1⟩
  · exact ⟨_, _, h1⟩
theorem lst_slice {w : World} {v : Value} {xs : List Value} (h : Lst w v xs) : ∃ A cap, v = .slice A xs.length cap := by
  obtain ⟨A, cap, h1, _⟩ := h
  exact ⟨A, cap, h1⟩
theorem own_below {w w' : World} {B : Nat} {e : TypeId} {size : Nat} {v : Value} {n : Nat} {xs : List Value} (h : w.ownsRow B e size v n xs) (hb : Below w.heap.size w w') : w'.ownsRow B e size v n xs :=
  h.kept (grown_of_below hb none) (by cases v.ownBlock <;> simp)
/-- a list that lies in no written row stays -/
theorem Lst.grown2 {w w' : World} {v : Value} {xs : List Value} {row : Option Nat} (h : Lst w v xs) (hg : w.grownBy w' row) (hne : xs = [] ∨ ∀ k, v.ownBlock = some k → row ≠ some k) : Lst w' v xs := by
  obtain ⟨A, cap, rfl, h1, h2, h3⟩ := h
  refine ⟨A, cap, rfl, h1, h2, ?_⟩
  rcases h3 with h3 | ⟨b, off, rfl, h3⟩
  · exact .inl h3
  · by_cases hx : xs = []
    · exact .inl hx
    · exact .inr ⟨b, off, rfl, fun i u hu => hg.cell (h3 i u hu) (fun e => (hne.resolve_left hx) b rfl e.symm)⟩
/-- where a list lies -/
theorem lst_lt {w : World} {v : Value} {xs : List Value} (h : Lst w v xs) : xs = [] ∨ ∀ k, v.ownBlock = some k → k < w.heap.size := by
  obtain ⟨A, cap, rfl, _, _, h3⟩ := h
  rcases h3 with h3 | ⟨b, off, rfl, h3⟩
  · exact .inl h3
  · by_cases hx : xs = []
    · exact .inl hx
    · refine .inr fun k hk => ?_
      injection hk with hk
      subst hk
      obtain ⟨u, hu⟩ : ∃ u, xs[0]? = some u := ⟨xs[0]'(List.length_pos_iff.2 hx), List.getElem?_eq_getElem _⟩
      exact World.block_lt_of_cell? _ _ (h3 0 u hu)
theorem grown_cell {w w' : World} {row : Option Nat} {a : Nat} {u : Value} (hg : w.grownBy w' row) (hc : w.cell? ⟨a, 0, none⟩ = some u) (hne : row ≠ some a) : w'.cell? ⟨a, 0, none⟩ = some u :=
  hg.cell hc (fun e => hne e.symm)
theorem own_apart {w w' : World} {B : Nat} {e : TypeId} {size : Nat} {v : Value} {n : Nat} {xs : List Value} {row : Option Nat} (h : w.ownsRow B e size v n xs) (hg : w.grownBy w' row) (hne : ∀ k, v.ownBlock = some k → row = some k → False) : w'.ownsRow B e size v n xs :=
  h.kept hg (by
    rcases hv : v.ownBlock with _ | k
    · exact .inl rfl
    · exact .inr fun h' => hne k hv h'.symm)
theorem own_some {w : World} {B : Nat} {e : TypeId} {v : Value} {n : Nat} {xs : List Value} (h : w.ownsRow B e 1 v n xs) (hn : 0 < n) : ∃ g cap, v = .slice (some ⟨g, 0, none⟩) n cap ∧ n ≤ cap := by
  rcases h.2 with ⟨_, h'⟩ | ⟨g, cap, cur, h', _, _, hnc, _⟩
  · omega
  · exact ⟨g, cap, h', hnc⟩
end Go.Proofs.Ytcdchieielpahaa

/- The laws' own helpers on slices of ints: eqIntS, markIntS, heldIntS, as contracts. Conditions: lengths as Go has them. -/
namespace Go.Proofs.Ytcdchieielpahaa
open Go.RowKit

def ints (l : List Int) : List Value := l.map (Value.int .i64)
theorem ints_length (l : List Int) : (ints l).length = l.length := by simp [ints]
theorem ints_snoc (l : List Int) (x : Int) : ints (l ++ [x]) = ints l ++ [.int .i64 x] := by simp [ints]
theorem ints_at {w : World} {b off : Nat} {l : List Int} (h : ∀ (i : Nat) u, (ints l)[i]? = some u → w.cell? ⟨b, off + i, none⟩ = some u) (k : Nat) (hk : k < l.length) : w.cell? ⟨b, off + k, none⟩ = some (.int .i64 l[k]) :=
  h k _ (by simp [ints, hk])
theorem int_info : (Try.prog.info? 3).map (fun i => (i.zero, i.size, i.bytes)) = some (some (.int .i64 0), 1, 8) := by kernel_rfl

/-- Two lists of ints that are the same: eqIntS says so. -/
theorem eqIntS_same (l : List Int) (v1 v2 : Value) (w : World) (h1 : Lst w v1 (ints l)) (h2 : Lst w v2 (ints l)) :
    Calls Try.prog 13 #[v1, v2] w fun e w' => e = .returned (.bool true) ∧ ∃ n, w' = w.drewN n := by
  obtain ⟨A, c, rfl, hc1, hc2, h1⟩ := h1
  obtain ⟨A', c', rfl, hc1', hc2', h2⟩ := h2
  rw [ints_length] at hc1 hc1'
  rw [ints_length]
  have hmax : l.length ≤ 9223372036854775807 := by unfold maxLen at hc2; omega
  clear hc2 hc2' hc1 hc1'
  have hnn : ((l.length : Int) != (l.length : Int)) = false := by simp
  by_cases hl : l = []
  · subst hl
    go_enter Try.func13, Try.ntmps13
    go_wp2
    refine wp_loop_rounds 1 ?_
    rw [rounds_succ]
    go_wp2
    go_ret
    exact ⟨rfl, 0, rfl⟩
  replace h1 := h1.resolve_left (by simp [ints, hl])
  replace h2 := h2.resolve_left (by simp [ints, hl])
  obtain ⟨b, off, rfl, h1⟩ := h1
  obtain ⟨b', off', rfl, h2⟩ := h2
  have hpos : 0 < l.length := List.length_pos_iff.2 hl
  have H1 := Lib.hid (ints_at h1)
  have H2 := Lib.hid (ints_at h2)
  clear h1 h2 hl
  go_enter Try.func13, Try.ntmps13
  go_wp2
  go_loopw [5] (fun i w' => ∃ (k n : Nat), k ≤ l.length ∧ i = .int .i64 k ∧ w' = w.drewN n) (fun i _ => l.length - (intOf i).toNat)
  case atStart => exact ⟨0, 0, by omega, rfl, rfl⟩
  case round =>
    obtain ⟨k, n, hk, rfl, rfl⟩ := hrel
    by_cases hlt : k < l.length
    · have g1 := H1.out k hlt
      have g2 := H2.out k hlt
      have gb : (l[k] != l[k]) = false := by simp
      go_wp2
      go_quiet (fail)
      go_wp2
      go_roundw
      case rel => exact ⟨k + 1, _, by omega, by go_num, rfl⟩
      case measure => simp [intOf]; omega
    · go_wp2
      go_ret
      exact ⟨rfl, n, rfl⟩

/-- the n numbers from k on -/
def upto (k : Int) (n : Nat) : List Int := (List.range n).map fun (i : Nat) => k + (i : Int)
theorem upto_length (k : Int) (n : Nat) : (upto k n).length = n := by simp [upto]
theorem upto_at (k : Int) (n i : Nat) (h : i < n) : (upto k n)[i]'(by simpa [upto] using h) = k + i := by simp [upto]
theorem upto_succ (k : Int) (n : Nat) : ints (upto k (n + 1)) = ints (upto k n) ++ [.int .i64 (k + n)] := by simp [upto, ints, List.range_succ]

/-- A slice of such numbers: heldIntS counts them. -/
theorem heldIntS_marks (v : Value) (k : Int) (n : Nat) (w : World) (hk : 0 ≤ k) (hkn : k + n ≤ 9223372036854775807) (h1 : Lst w v (ints (upto k n))) :
    Calls Try.prog 15 #[v, .int .i64 k] w fun e w' => e = .returned (.int .i64 (k + n)) ∧ ∃ m, w' = w.drewN m := by
  obtain ⟨A, c, rfl, hc1, hc2, h1⟩ := h1
  rw [ints_length, upto_length] at hc1
  rw [ints_length, upto_length]
  unfold maxLen at hc2
  have hmax : n ≤ 9223372036854775807 := by omega
  clear hc2 hc1
  by_cases hl : n = 0
  · subst hl
    go_enter Try.func15, Try.ntmps15
    go_wp2
    refine wp_loop_rounds 1 ?_
    rw [rounds_succ]
    go_wp2
    go_ret
    exact ⟨ret_int (by simp), 0, rfl⟩
  replace h1 := h1.resolve_left (by
    intro e
    have := congrArg List.length e
    rw [ints_length, upto_length] at this
    exact hl this)
  obtain ⟨b, off, rfl, h1⟩ := h1
  have H1 : Hid (∀ i, i < n → w.cell? ⟨b, off + i, none⟩ = some (.int .i64 (k + i))) := fun i hi => by
    have := ints_at h1 i (by rw [upto_length]; exact hi)
    rwa [upto_at _ _ _ hi] at this
  clear h1
  go_enter Try.func15, Try.ntmps15
  go_wp2
  go_loopw [1, 5] (fun q i w' => ∃ (j m : Nat), j ≤ n ∧ i = .int .i64 j ∧ q = .int .i64 (k + j) ∧ w' = w.drewN m) (fun _ i _ => n - (intOf i).toNat)
  case atStart => exact ⟨0, 0, by omega, rfl, by simp, rfl⟩
  case round =>
    obtain ⟨j, m, hj, rfl, rfl, rfl⟩ := hrel
    by_cases hlt : j < n
    · have g1 := H1.out j hlt
      have hkj : k + (j : Int) ≤ 9223372036854775806 := by omega
      have hkj0 : 0 ≤ k + (j : Int) := by omega
      have gb : ((k + (j : Int)) != (k + (j : Int))) = false := by simp
      go_wp2
      try go_quiet (fail)
      go_wp2
      go_roundw
      case rel => exact ⟨j + 1, _, by omega, by go_num, by rw [show k + (j : Int) + 1 = k + ((j + 1 : Nat) : Int) from by omega], rfl⟩
      case measure => simp [intOf]; omega
    · have hjn : j = n := by omega
      subst hjn
      go_wp2
      go_ret
      exact ⟨rfl, m, rfl⟩

/-- A slice of the call's own: markIntS lays the numbers into it. -/
theorem markIntS_own {te : TypeId} (B : Nat) (v : Value) (k : Int) (n : Nat) (xs : List Value) (w : World) (hk : 0 ≤ k) (hkn : k + n ≤ 9223372036854775807) (hown : w.ownsRow B te 1 v n xs) :
    Calls Try.prog 14 #[v, .int .i64 k] w fun e w' => e = .returned (.int .i64 (k + n)) ∧ w'.ownsRow B te 1 v n (ints (upto k n)) ∧ w.grownBy w' v.ownBlock := by
  have hlen := hown.1
  rw [Nat.mul_one] at hlen
  rcases hown.2 with ⟨rfl, rfl⟩ | ⟨g, cap, cur, rfl, hBg, hg, hnc, hcm, _, _⟩
  · have hx : xs = [] := List.eq_nil_of_length_eq_zero hlen
    subst hx
    go_enter Try.func14, Try.ntmps14
    go_wp2
    refine wp_loop_rounds 1 ?_
    rw [rounds_succ]
    go_wp2
    go_ret
    exact ⟨ret_int (by simp), hown, World.grownBy.refl _ _⟩
  have hmax : n ≤ 9223372036854775807 := by unfold maxLen at hcm; omega
  clear hcm hnc hg
  have HX := Lib.hid hlen
  clear hlen
  go_enter Try.func14, Try.ntmps14
  go_wp2
  go_loopw [1, 5] (fun q i w' => ∃ (j : Nat), j ≤ n ∧ i = .int .i64 j ∧ q = .int .i64 (k + j) ∧ w'.ownsRow B te 1 (.slice (some ⟨g, 0, none⟩) n cap) n (ints (upto k j) ++ xs.drop j) ∧ w.grownBy w' (some g)) (fun _ i _ => n - (intOf i).toNat)
  case atStart => exact ⟨0, by omega, rfl, by simp, by simpa [upto, ints] using hown, World.grownBy.refl _ _⟩
  case round =>
    obtain ⟨j, hj, rfl, rfl, ho, hgr⟩ := hrel
    by_cases hlt : j < n
    · have hkj : k + (j : Int) ≤ 9223372036854775806 := by omega
      have hkj0 : 0 ≤ k + (j : Int) := by omega
      have hcell : ∃ u, (ints (upto k j) ++ xs.drop j)[j]? = some u := ⟨(ints (upto k j) ++ xs.drop j)[j]'(by rw [List.length_append, ints_length, upto_length, List.length_drop, HX.out]; omega), List.getElem?_eq_getElem _⟩
      obtain ⟨u, hu⟩ := hcell
      have hset : (ints (upto k j) ++ xs.drop j).set j (.int .i64 (k + j)) = ints (upto k (j + 1)) ++ xs.drop (j + 1) := by
        have hd : xs.drop j = xs[j]'(by rw [HX.out]; exact hlt) :: xs.drop (j + 1) := List.drop_eq_getElem_cons _
        rw [upto_succ, hd, List.set_append_right _ _ (by rw [ints_length, upto_length]; exact Nat.le_refl _), ints_length, upto_length, Nat.sub_self, List.set_cons_zero, List.append_assoc]
        rfl
      have HS := Lib.hid hset
      have g2 := (ho.cellAt j (by omega)).trans hu
      have g3 := ho.frozenAt j
      clear hset hu
      go_wp2
      go_roundw
      case rel =>
        refine ⟨j + 1, by omega, by go_num, by rw [show k + (j : Int) + 1 = k + ((j + 1 : Nat) : Int) from by omega], ?_, ?_⟩
        · have := (ho.stored j (.int .i64 (k + j))).1
          rwa [HS.out] at this
        · exact grown_trans hgr (ho.stored j (.int .i64 (k + j))).2
      case measure => simp [intOf]; omega
    · have hjn : j = n := by omega
      subst hjn
      go_wp2
      go_ret
      rw [List.drop_of_length_le (by rw [HX.out]; exact Nat.le_refl _), List.append_nil] at ho
      exact ⟨rfl, ho, hgr⟩
end Go.Proofs.Ytcdchieielpahaa
