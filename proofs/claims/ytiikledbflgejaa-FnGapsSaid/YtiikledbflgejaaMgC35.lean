/- Texts put together. -/
import Derived.Test.YtiikledbflgejaaMgC34
import Derived.Test.YtiikledbflgejaaChecked
import Derived.KernelRfl
import Derived.Conc.PipeWords
import Derived.IntWalk
import Derived.Laws.AppendOwn
import Derived.Conc.AppendEvents2
import Derived.OwnWalk
import Derived.Laws.NewBlocks
import Derived.Below
import Derived.Test.YtiikledbflgejaaMgC19
import Derived.Test.YtiikledbflgejaaMgC2
import Derived.Conc.LoneCalls
import Derived.Conc.WalkWords
/- The plain functions of this seat. -/
namespace Go.Proofs.Ytiikledbflgejaa

/-- functions that neither start nor send nor receive, nor call one that does -/
def plainL : List Nat := [4, 8, 9, 11, 12, 14, 15, 16, 18, 19, 20, 21, 22, 23, 24, 25, 26, 28, 29, 30, 31, 32, 33, 34, 35, 36, 37, 38, 39, 40, 41, 42, 43, 44, 45, 46, 47]
def plainS : FuncId → Bool := fun g => plainL.contains g
theorem closedS : Closed Try.prog plainS := closed_of _ plainL (by kernel_rfl)
theorem noEarlyS : NoEarly Try.prog := noEarly_of (by kernel_rfl) (by kernel_rfl)
end Go.Proofs.Ytiikledbflgejaa

/- The program's sendMultiples, as a goroutine of its own: it sends the n points i * p % q, one after the other, closes the channel, and only leaves behind that. Conditions: 1 ≤ q ≤ 1000, p < q, n ≤ 400. -/
namespace Go.Proofs.Ytiikledbflgejaa
open Go.Conc Go.RowKit

/-- the points i * p % q from i = k on, m of them -/
def mulsV (p q : Nat) : Nat → Nat → List Value
  | _, 0 => []
  | k, m + 1 => .int .i64 ((k * p % q : Nat) : Int) :: mulsV p q (k + 1) m

noncomputable def sndBody : Code := Try.f27.body.getD .skip
noncomputable def sndL : Code := match sndBody with | .seq (.seq _ (.block _ (.loop c))) _ => c | _ => .skip
noncomputable def sndR : Code := match sndBody with | .seq _ r => r | _ => .skip
noncomputable def sndL4 : Code := match sndL with | .seq _ (.seq _ (.seq _ r)) => r | _ => .skip
noncomputable def sndOps3 : Array Oper := match sndL with | .seq _ (.seq _ (.seq (.block _ (.seq _ (.region _ ops _))) _)) => ops | _ => #[]
noncomputable def sndOps5 : Array Oper := match sndR with | .region _ ops _ => ops | _ => #[]
def sndB : Frame := { (default : Frame) with fn := 27, kind := .deferred }
/-- the lowest frame, its one call taken off it -/
noncomputable def sndBot : Frame := { (default : Frame) with fn := Try.prog.funcs.size, defers := [], mode := .panicking [goexitEntry] }

section
variable (c p q n : Nat)

noncomputable def sndHead (k : Nat) (u8 u11 u12 u13 u14 u15 u16 u17 u18 u19 u20 : Value) : Goroutine :=
  G (sndB.at ⟨#[.chan (some c), .int .i64 (p : Int), .int .i64 (q : Int), .int .i64 (n : Int), undef, undef, undef, undef, u8, .int .i64 (n : Int), .int .i64 (k : Int), u11, u12, u13, u14, u15, u16, u17, u18, u19, u20], []⟩ [.code sndL, .inLoop sndL, .inBlock 0, .code sndR]) [sndBot]
noncomputable def sndAt (k : Nat) (v : Value) (u8 u11 u12 u14 u15 u16 u17 u19 u20 : Value) (rest : List Nat) : Goroutine :=
  G (sndB.at ⟨#[.chan (some c), .int .i64 (p : Int), .int .i64 (q : Int), .int .i64 (n : Int), undef, undef, undef, undef, u8, .int .i64 (n : Int), .int .i64 (k : Int), u11, u12, .chan (some c), u14, u15, u16, u17, v, u19, u20], []⟩ [.inRegion sndOps3 rest, .inBlock 1, .code sndL4, .inLoop sndL, .inBlock 0, .code sndR]) [sndBot]
noncomputable def sndShut (u8 u11 u12 u13 u14 u15 u16 u17 u18 u19 : Value) (rest : List Nat) : Goroutine :=
  G (sndB.at ⟨#[.chan (some c), .int .i64 (p : Int), .int .i64 (q : Int), .int .i64 (n : Int), undef, undef, undef, undef, u8, .int .i64 (n : Int), .int .i64 (n : Int), u11, u12, u13, u14, u15, u16, u17, u18, u19, .chan (some c)], []⟩ [.inRegion sndOps5 rest]) [sndBot]

set_option maxRecDepth 100000 in
theorem snd_send (Stop : Goroutine → World → Prop) (n₀ k : Nat) (hk : k < n) (hn : n ≤ 400) (hp : p < q) (hq : q ≤ 1000) (u8 u11 u12 u13 u14 u15 u16 u17 u18 u19 u20 : Value) (w : World)
    (next : ∀ (u8 u11 u12 u14 u15 u16 u17 u19 u20 : Value) w', Goes Try.prog false (fun _ _ => True) (DB AllL) Stop n₀ (sndAt c p q n k (.int .i64 ((k * p % q : Nat) : Int)) u8 u11 u12 u14 u15 u16 u17 u19 u20 [6]) w') :
    Goes Try.prog false (fun _ _ => True) (DB AllL) Stop (n₀ + 21) (sndHead c p q n k u8 u11 u12 u13 u14 u15 u16 u17 u18 u19 u20) w := by
  have hlt : (k : Int) < (n : Int) := by omega
  have hm : k * p ≤ 400 * 1000 := Nat.mul_le_mul (by omega) (by omega)
  have hme : ((k * p : Nat) : Int) = (k : Int) * (p : Int) := Int.natCast_mul _ _
  have e1 : IntKind.i64.wrap ((k : Int) * (p : Int)) = ((k * p : Nat) : Int) := by rw [← hme]; exact IntWalk.i64_in _ (by omega)
  have q0 : ¬ (q : Int) = 0 := by omega
  have e3 : ((k * p : Nat) : Int).tmod (q : Int) = ((k * p % q : Nat) : Int) := rfl
  have q0' : ¬ q = 0 := by omega
  have e4 : ((k * p : Nat) : Int) % (q : Int) = ((k * p % q : Nat) : Int) := rfl
  clear hme
  simp only [sndHead, sndAt, sndOps3, sndL4, sndL, sndR, sndBody, Try.f27, Option.getD_some] at next ⊢
  generalize hrr : k * p % q = y at *
  generalize hmm : k * p = z at *
  clear hrr hmm
  repeat (first | b_ctl | b_op [] (by simp))
  b_cond true
  repeat (first | b_ctl | b_op [] (by simp))
  exact next ..

set_option maxRecDepth 100000 in
theorem snd_next (Stop : Goroutine → World → Prop) (n₀ k : Nat) (hk : k < n) (hn : n ≤ 400) (v : Value) (u8 u11 u12 u14 u15 u16 u17 u19 u20 : Value) (w : World)
    (next : ∀ (u8 u11 u12 u13 u14 u15 u16 u17 u18 u19 u20 : Value) w', Goes Try.prog false (fun _ _ => True) (DB AllL) Stop n₀ (sndHead c p q n (k + 1) u8 u11 u12 u13 u14 u15 u16 u17 u18 u19 u20) w') :
    Goes Try.prog false (fun _ _ => True) (DB AllL) Stop (n₀ + 7) (sndAt c p q n k v u8 u11 u12 u14 u15 u16 u17 u19 u20 []) w := by
  have hwr : IntKind.i64.wrap ((k : Int) + 1) = ((k + 1 : Nat) : Int) := IntWalk.i64_in _ (by omega)
  simp only [sndHead, sndAt, sndOps3, sndL4, sndL, sndR, sndBody, Try.f27, Option.getD_some] at next ⊢
  repeat (first | b_ctl | b_op [] (by simp))
  exact next ..

set_option maxRecDepth 100000 in
theorem snd_shut (Stop : Goroutine → World → Prop) (n₀ : Nat) (u8 u11 u12 u13 u14 u15 u16 u17 u18 u19 u20 : Value) (w : World)
    (next : ∀ (u8 u11 u12 u13 u14 u15 u16 u17 u18 u19 : Value) w', Goes Try.prog false (fun _ _ => True) (DB AllL) Stop n₀ (sndShut c p q n u8 u11 u12 u13 u14 u15 u16 u17 u18 u19 [1]) w') :
    Goes Try.prog false (fun _ _ => True) (DB AllL) Stop (n₀ + 9) (sndHead c p q n n u8 u11 u12 u13 u14 u15 u16 u17 u18 u19 u20) w := by
  simp only [sndHead, sndShut, sndOps5, sndL, sndR, sndBody, Try.f27, Option.getD_some] at next ⊢
  repeat (first | b_ctl | b_op [] (by simp))
  b_cond false
  b_exit
  repeat (first | b_ctl | b_op [] (by simp))
  exact next ..

set_option maxRecDepth 100000 in
theorem snd_entry (Stop : Goroutine → World → Prop) (n₀ : Nat) (w : World)
    (next : ∀ (u8 u11 u12 u13 u14 u15 u16 u17 u18 u19 u20 : Value) w', Goes Try.prog false (fun _ _ => True) (DB AllL) Stop n₀ (sndHead c p q n 0 u8 u11 u12 u13 u14 u15 u16 u17 u18 u19 u20) w') :
    Goes Try.prog false (fun _ _ => True) (DB AllL) Stop (n₀ + 8) (G (sndB.at ⟨#[.chan (some c), .int .i64 (p : Int), .int .i64 (q : Int), .int .i64 (n : Int), undef, undef, undef, undef, undef, undef, undef, undef, undef, undef, undef, undef, undef, undef, undef, undef, undef], []⟩ [.code sndBody]) [sndBot]) w := by
  have e0 : ((0 : Nat) : Int) = 0 := rfl
  simp only [sndHead, sndL, sndR, sndBody, Try.f27, Option.getD_some, e0] at next ⊢
  repeat (first | b_ctl | b_op [] (by simp))
  exact next ..

theorem snd_at (k : Nat) (v : Value) (vs : List Value) (u8 u11 u12 u14 u15 u16 u17 u19 u20 : Value) (next : SendsC Try.prog c vs (sndAt c p q n k v u8 u11 u12 u14 u15 u16 u17 u19 u20 [])) :
    AtSend Try.prog c TT AllL v (SendsC Try.prog c vs) (sndAt c p q n k v u8 u11 u12 u14 u15 u16 u17 u19 u20 [6]) := by
  simp only [sndAt, sndOps3, sndL, sndBody, Try.f27, Option.getD_some] at next ⊢
  exact atSend_of (x := .tmp 13) (y := .tmp 18) rfl rfl (by decide) rfl rfl rfl next

theorem snd_quits (u8 u11 u12 u13 u14 u15 u16 u17 u18 u19 : Value) : QuitsIn Try.prog 4 (sndShut c p q n u8 u11 u12 u13 u14 u15 u16 u17 u18 u19 []) := by
  simp only [sndShut]
  refine .inr ⟨rfl, _, fun w => stepG_region_end, ?_⟩
  refine .inr ⟨rfl, _, fun w => stepG_end, ?_⟩
  refine .inr ⟨rfl, G sndBot [], fun w => ?_, ?_⟩
  · simp [G, stepG, unwind, doReturn, results, Frame.at, sndB, sndBot, Try.func27, Try.f27, seen, GStep.after, goexitEntry]
  refine .inr ⟨rfl, { G sndBot [] with status := .finished }, fun w => ?_, rfl⟩
  simp [G, stepG, unwind, sndBot, goexitEntry, Frame.catches]
  rfl

theorem snd_close (u8 u11 u12 u13 u14 u15 u16 u17 u18 u19 : Value) : AtCloseC Try.prog c (sndShut c p q n u8 u11 u12 u13 u14 u15 u16 u17 u18 u19 [1]) := by
  refine ⟨rfl, ?_, sndShut c p q n u8 u11 u12 u13 u14 u15 u16 u17 u18 u19 [], 4, fun w s r tm hc => ?_, snd_quits c p q n ..⟩
  · simp [mayWake, sndShut, sndOps5, sndR, sndBody, Try.f27, G, Frame.at]
  · simp only [sndShut, sndOps5, sndR, sndBody, Try.f27, Option.getD_some]
    have hr := run_close_open (P := Try.prog) #[50] 0 hc
    have he := events_close_open (P := Try.prog) (es := #[]) #[50] 0 hc
    rw [stepG_value (v := .tuple #[]) (w' := w.shut c s r tm) rfl rfl (by decide) (by simp [go_sem, hr, World.shut])]
    have hl : ∀ a o, (execOp a.eval o).events Try.prog w #[] = #[⟨.obj c, false, true⟩, ⟨.obj c, true, true⟩] → listed Try.prog sndB.fn a o w = #[⟨.obj c, false, true⟩, ⟨.obj c, true, true⟩] := by
      intro a o h
      unfold listed
      rw [h]
      exact seen_eq (by simp [sndB, Try.func27, Try.f27]) (by simp)
    rw [hl _ _ (by simp [go_sem, he])]
    rfl

theorem snd_from (hn : n ≤ 400) (hp : p < q) (hq : q ≤ 1000) : ∀ (m k : Nat), k + m = n →
    ∃ n', ∀ (u8 u11 u12 u13 u14 u15 u16 u17 u18 u19 u20 : Value) (w : World), Goes Try.prog false (fun _ _ => True) (DB AllL) (StopC Try.prog c (mulsV p q k m)) n' (sndHead c p q n k u8 u11 u12 u13 u14 u15 u16 u17 u18 u19 u20) w := by
  intro m
  induction m with
  | zero =>
    intro k hk
    obtain rfl : k = n := by omega
    exact ⟨0 + 9, fun u8 u11 u12 u13 u14 u15 u16 u17 u18 u19 u20 w => snd_shut c p q k _ 0 u8 u11 u12 u13 u14 u15 u16 u17 u18 u19 u20 w fun u8 u11 u12 u13 u14 u15 u16 u17 u18 u19 _ => Goes.stop fun _ _ => snd_close c p q k u8 u11 u12 u13 u14 u15 u16 u17 u18 u19⟩
  | succ m ih =>
    intro k hk
    obtain ⟨n₁, h₁⟩ := ih (k + 1) (by omega)
    refine ⟨0 + 21, fun u8 u11 u12 u13 u14 u15 u16 u17 u18 u19 u20 w => snd_send c p q n _ 0 k (by omega) hn hp hq u8 u11 u12 u13 u14 u15 u16 u17 u18 u19 u20 w fun u8 u11 u12 u14 u15 u16 u17 u19 u20 _ => Goes.stop fun _ _ => snd_at c p q n k _ _ u8 u11 u12 u14 u15 u16 u17 u19 u20 ?_⟩
    exact (sendsC_iff ..).2 ⟨n₁ + 7, snd_next c p q n _ n₁ k (by omega) hn _ u8 u11 u12 u14 u15 u16 u17 u19 u20 default h₁⟩

/-- the call that the go statement holds -/
def sndCall : Deferred := { target := .fn (.func 27) #[], args := #[.chan (some c), .int .i64 (p : Int), .int .i64 (q : Int), .int .i64 (n : Int)] }
theorem snd_born (w : World) : stepG Try.prog false (born Try.prog (sndCall c p q n)) w =
    .go (G (sndB.at ⟨#[.chan (some c), .int .i64 (p : Int), .int .i64 (q : Int), .int .i64 (n : Int), undef, undef, undef, undef, undef, undef, undef, undef, undef, undef, undef, undef, undef, undef, undef, undef, undef], []⟩ [.code sndBody]) [sndBot]) w #[] := by
  simp [born, sndCall, stepG, unwind, callDeferred, invoke, callFunc, Try.func27, Try.f27, seen, GStep.after, G, Frame.enter, Frame.at, sndB, sndBot, sndBody]

/-- from its birth on -/
theorem snd_all (hn : n ≤ 400) (hp : p < q) (hq : q ≤ 1000) : SendsC Try.prog c (mulsV p q 0 n) (born Try.prog (sndCall c p q n)) := by
  obtain ⟨n₁, h₁⟩ := snd_from c p q n hn hp hq n 0 (by omega)
  refine (sendsC_iff ..).2 ⟨n₁ + 8 + 1, Goes.step rfl fun w₁ _ => ?_⟩
  rw [snd_born]
  exact ⟨⟨rfl, by simp⟩, snd_entry c p q n _ n₁ w₁ h₁⟩
end
end Go.Proofs.Ytiikledbflgejaa

/- The program's multiplesOf, from its go statement to the receive that finds the channel closed: what it has received lies in a row of its own. Conditions: at most 400 points. -/
namespace Go.Proofs.Ytiikledbflgejaa
open Go.Conc Go.RowKit

noncomputable def mulBody : Code := Try.f17.body.getD .skip
noncomputable def mulT3 : Code := match mulBody with | .seq _ (.seq _ r) => r | _ => .skip
noncomputable def mulT4 : Code := match mulT3 with | .seq _ r => r | _ => .skip
noncomputable def mulT5 : Code := match mulT4 with | .seq _ r => r | _ => .skip
noncomputable def mulOps4 : Array Oper := match mulT4 with | .seq (.region _ ops _) _ => ops | _ => #[]
noncomputable def mulL : Code := match mulT5 with | .seq _ (.seq (.seq _ (.block _ (.loop c))) _) => c | _ => .skip
noncomputable def mulEnd : Code := match mulT5 with | .seq _ (.seq _ r) => r | _ => .skip
noncomputable def mulOps7 : Array Oper := match mulL with | .seq (.region _ ops _) _ => ops | _ => #[]
noncomputable def mulL2 : Code := match mulL with | .seq _ r => r | _ => .skip
def mulB : Frame := { (default : Frame) with fn := 17, kind := .normal }

/-- what the receiver knows of the world: W: as it was at the go statement; c: the channel's block -/
structure MF (c : Nat) (W : World) (out : Value) (xs : List Value) (w : World) : Prop where
  own : w.ownsRow (c + 1) 3 1 out xs.length xs
  below : Below c W w
  size : c + 1 ≤ w.heap.size
  nil0 : xs = [] → out = .slice none 0 0

theorem MF.aside {c : Nat} {W : World} {out : Value} {xs : List Value} {w w₁ : World} (h : MF c W out xs w) (ha : Conc.Aside c w w₁) : MF c W out xs w₁ := by
  refine ⟨⟨h.own.1, ?_⟩, ⟨ha.os.trans h.below.os, ha.tape.trans h.below.tape, ha.output.trans h.below.output, by rw [ha.size]; exact h.below.size, fun k hk => (ha.block k (by omega)).trans (h.below.block k hk)⟩, by rw [ha.size]; exact h.size, h.nil0⟩
  rcases h.own.2 with h0 | ⟨g, cp, cur, e, hg, hh, r⟩
  · exact .inl h0
  · exact .inr ⟨g, cp, cur, e, hg, (ha.block g (by omega)).trans hh, r⟩
theorem MF.alloc {c : Nat} {W : World} {out : Value} {xs : List Value} {w : World} (h : MF c W out xs w) (o : Obj) : MF c W out xs (w.alloc o) :=
  ⟨h.own.alloc o, h.below.alloc (by have := h.size; omega) o, by have := h.size; simp; omega, h.nil0⟩
theorem MF.grown {c : Nat} {W : World} {out out' : Value} {xs xs' : List Value} {w w' : World} (h : MF c W out xs w) (hg : w.grownBy w' out.ownBlock) (ho : w'.ownsRow (c + 1) 3 1 out' xs'.length xs') (hn : xs' ≠ []) : MF c W out' xs' w' :=
  ⟨ho, h.below.grown hg (by have := h.size; omega) (fun k hk => by have := (h.own.lt k hk).1; omega), Nat.le_trans h.size hg.size, fun e => absurd e hn⟩

theorem da_same {c : Nat} {w : World} {es : Array Event} (h : ∀ e ∈ es, EvA MM e) : DA c TT MM w w es := ⟨id, rfl, h⟩
theorem da_none {c : Nat} {w : World} : DA c TT MM w w #[] := da_same (by simp)
theorem da_below {c : Nat} {w w' : World} {es : Array Event} (h : Below (c + 1) w w') (he : ∀ e ∈ es, EvA MM e) : DA c TT MM w w' es := ⟨fun _ => trivial, h.block c (by omega), he⟩

theorem mul_int_info : (Try.prog.info? 3).map (fun i => (i.zero, i.size, i.bytes)) = some (some (.int .i64 0), 1, 8) := by kernel_rfl

/-- 'append(s, x...)', by what it yields and by what it lists -/
theorem upon_app {P : Program} {o : Oper} {a : Act} {K : Act → World → Prop} {w w' : World} {v xv v' : Value} (s x : Operand) (t : TypeId)
    (ho : o.op = .call { callee := .builtin .append, args := #[s, x], argTypes := #[t, t] }) (hs : a.eval s = v) (hx : a.eval x = xv) (hr : (Builtin.append_ #[t, t] o.type #[v, xv]).run P w = .ok v' w') (h : K (a.put o.dst v') w') : uponK o a K ((execOp a.eval o).run P w) := by
  unfold execOp
  simp only [ho, resolve, invoke, builtin, Sem.run_bind, Sem.run_pure, Result.andThen_ok, List.map_toArray, List.map_cons, List.map_nil, hs, hx, hr]
  exact h
theorem evs_app {P : Program} {o : Oper} {a : Act} {w : World} {v xv : Value} (s x : Operand) (t : TypeId)
    (ho : o.op = .call { callee := .builtin .append, args := #[s, x], argTypes := #[t, t] }) (hs : a.eval s = v) (hx : a.eval x = xv) (es : Array Event) : (execOp a.eval o).events P w es = (Builtin.append_ #[t, t] o.type #[v, xv]).events P w es := by
  unfold execOp
  simp only [ho, resolve, invoke, builtin, Sem.events_bind, Sem.run_pure, Sem.events_pure, Result.evThen_ok, List.map_toArray, List.map_cons, List.map_nil, hs, hx]
  cases (Builtin.append_ #[t, t] o.type #[v, xv]).run P w <;> rfl

/-- the slots that stay while it receives -/
structure MS where
  p : Value
  q : Value
  n : Value
  u3 : Value
  u4 : Value
  u5 : Value
  u6 : Value
  u10 : Value
  u11 : Value
  u12 : Value
  u13 : Value
  u14 : Value
  u15 : Value
  u16 : Value
  u17 : Value
  u18 : Value
  u19 : Value
  u20 : Value
  u21 : Value
  u22 : Value
  u36 : Value

section
variable (c : Nat) (W : World) (s : MS) (cs : List Frame)

/-- at the receive ([0, 1]); behind it ([1]: slot 29 holds what came) -/
noncomputable def mulAt (out : Value) (u9 u29 u30 u31 u32 u33 u34 u35 : Value) (rest : List Nat) : Goroutine :=
  G (mulB.at ⟨#[s.p, s.q, s.n, s.u3, s.u4, s.u5, s.u6, .chan (some c), out, u9, s.u10, s.u11, s.u12, s.u13, s.u14, s.u15, s.u16, s.u17, s.u18, s.u19, s.u20, s.u21, s.u22, .chan (some c), .chan (some c), s.p, s.q, s.n, .chan (some c), u29, u30, u31, u32, u33, u34, u35, s.u36], []⟩ [.inRegion mulOps7 rest, .code mulL2, .inLoop mulL, .inBlock 0, .code mulEnd]) cs

set_option maxRecDepth 100000 in
theorem mul_round (Stop : Goroutine → World → Prop) (n₀ : Nat) (out : Value) (xs : List Value) (x : Int) (u9 u30 u31 u32 u33 u34 u35 : Value) (w : World) (hF : MF c W out xs w) (hlen : (xs.length + 1) * 8 ≤ 140737488355328)
    (next : ∀ (out' : Value) (u9 u29 u30 u31 u32 u33 u34 u35 : Value) w', MF c W out' (xs ++ [.int .i64 x]) w' → Goes Try.prog true (Conc.Aside c) (DA c TT MM) Stop n₀ (mulAt c s cs out' u9 u29 u30 u31 u32 u33 u34 u35 [0, 1]) w') :
    Goes Try.prog true (Conc.Aside c) (DA c TT MM) Stop (n₀ + 22) (mulAt c s cs out u9 (.tuple #[.int .i64 x, .bool true]) u30 u31 u32 u33 u34 u35 [1]) w := by
  simp only [mulAt, mulOps7, mulL2, mulL, mulEnd, mulT5, mulT4, mulT3, mulBody, Try.f17, Option.getD_some] at next ⊢
  repeat (first | a_ctl hF MF.aside da_none | a_op hF MF.aside [] da_same (by simp))
  a_cond true hF MF.aside da_none
  repeat (first | a_ctl hF MF.aside da_none | a_op hF MF.aside [] da_same (by simp))
  -- a new block of one cell
  refine Goes.step rfl (fun w₁ h₁ => ?_)
  replace hF := MF.aside hF h₁
  clear h₁
  refine goes_oper_k rfl rfl (by decide) (fun K hK => ?_)
  go_simp
  refine hK _ _ ⟨da_below ((Below.refl _ _).alloc hF.size _) (fun e he => ?_), ?_⟩
  · have hm := mem_listed he
    simp [go_sem] at hm
  clear hK K
  have hsz := hF.size
  have hnew : (w₁.alloc (.cells #[.int .i64 x] 3)).cell? ⟨w₁.heap.size, 0, none⟩ = some (.int .i64 x) := by
    rw [World.cell?_alloc_at _ _ _ _ rfl]; rfl
  replace hF := hF.alloc (.cells #[.int .i64 x] 3)
  -- append
  refine Goes.step rfl (fun w₂ h₂ => ?_)
  replace hF := MF.aside hF h₂
  replace hnew : w₂.cell? ⟨w₁.heap.size, 0, none⟩ = some (.int .i64 x) := (World.cell?_of_block (h₂.block _ (by simp; omega))).trans hnew
  clear h₂
  obtain ⟨i0, hi, hz0, hz1, hz2⟩ := info_parts mul_int_info
  have hnews : ∀ j u, [Value.int .i64 x][j]? = some u → w₂.cell? ((⟨w₁.heap.size, 0, none⟩ : Addr).add j) = some u := by
    intro j u hj
    match j, hj with
    | 0, hj => simp at hj; subst hj; simpa [Addr.add] using hnew
  have h1 : ∀ u ∈ [Value.int .i64 x], u.oneCell' = true := by intro u hu; simp at hu; subst hu; rfl
  have h63 : xs.length + 1 ≤ maxLen := by simp only [maxLen]; omega
  obtain ⟨out', w₃, hr, hown', hgrow, _⟩ := run_append_own (P := Try.prog) w₂ (c + 1) 24 24 3 i0 (.int .i64 0) 1 8 Try.underlying24 hi hz0 hz1 hz2 rfl (by decide) out xs.length xs hF.own ⟨w₁.heap.size, 0, none⟩ 1 1 [.int .i64 x] rfl hnews h1 h63 hlen hF.size
  have hevs := events_append_own (P := Try.prog) w₂ (c + 1) 24 24 3 i0 (.int .i64 0) 1 8 Try.underlying24 hi hz0 hz1 hz2 out xs.length xs hF.own ⟨w₁.heap.size, 0, none⟩ 1 1 [.int .i64 x] rfl hnews h1 h63 hlen
  refine goes_oper_k rfl rfl (by decide) (fun K hK => ?_)
  refine upon_app (.tmp 32) (.tmp 34) 24 rfl rfl rfl hr (hK _ _ ⟨da_below ((Below.refl _ _).grown hgrow hF.size (fun k hk => (hF.own.lt k hk).1)) (fun e he => ?_), ?_⟩)
  · have hm := mem_listed he
    rw [evs_app (.tmp 32) (.tmp 34) 24 rfl rfl rfl] at hm
    rcases hevs e hm with ⟨ad, h2, h3⟩ | ⟨ad, h2, h3⟩ | ⟨m, rfl, hn⟩
    · exact ⟨fun m => by rw [h2]; simp, fun hw => by rw [h3] at hw; cases hw⟩
    · exact ⟨fun m => by rw [h2]; simp, fun _ => ⟨ad, h2⟩⟩
    · exact ⟨fun m' h' => (by cases h'; exact hn), fun hw => (by cases hw)⟩
  clear hK K
  replace hF : MF c W out' (xs ++ [.int .i64 x]) w₃ := hF.grown hgrow (by simpa using hown') (by simp)
  clear hr hown' hgrow hevs hnews hnew
  repeat (first | a_ctl hF MF.aside da_none | a_op hF MF.aside [] da_same (by simp))
  exact next _ _ _ _ _ _ _ _ _ _ hF

set_option maxRecDepth 100000 in
/-- from behind the go statement to the first receive -/
theorem mul_first (Stop : Goroutine → World → Prop) (n₀ : Nat) (u8 u9 u28 u29 u30 u31 u32 u33 u34 u35 : Value) (w : World) (hF : MF c W (.slice none 0 0) [] w)
    (next : ∀ (u9 u29 u30 u31 u32 u33 u34 u35 : Value) w', MF c W (.slice none 0 0) [] w' → Goes Try.prog true (Conc.Aside c) (DA c TT MM) Stop n₀ (mulAt c s cs (.slice none 0 0) u9 u29 u30 u31 u32 u33 u34 u35 [0, 1]) w') :
    Goes Try.prog true (Conc.Aside c) (DA c TT MM) Stop (n₀ + 14) (G (mulB.at ⟨#[s.p, s.q, s.n, s.u3, s.u4, s.u5, s.u6, .chan (some c), u8, u9, s.u10, s.u11, s.u12, s.u13, s.u14, s.u15, s.u16, s.u17, s.u18, s.u19, s.u20, s.u21, s.u22, .chan (some c), .chan (some c), s.p, s.q, s.n, u28, u29, u30, u31, u32, u33, u34, u35, s.u36], []⟩ [.inRegion mulOps4 [], .code mulT5]) cs) w := by
  simp only [mulAt, mulOps4, mulOps7, mulL2, mulL, mulEnd, mulT5, mulT4, mulT3, mulBody, Try.f17, Option.getD_some] at next ⊢
  repeat (first | a_ctl hF MF.aside da_none | a_op hF MF.aside [] da_same (by simp))
  exact next _ _ _ _ _ _ _ _ _ hF

theorem mul_comm (out u9 u29 u30 u31 u32 u33 u34 u35 : Value) (w : World) : stepG Try.prog true (mulAt c s cs out u9 u29 u30 u31 u32 u33 u34 u35 [0, 1]) w =
    .comm (core (mulAt c s cs out u9 u29 u30 u31 u32 u33 u34 u35 [0, 1])) #[rcase c (.int .i64 0)] true (.recv true) w #[] := by
  simp only [mulAt, mulOps7, mulL, mulT5, mulT4, mulT3, mulBody, Try.f17, Option.getD_some, core_G]
  rw [stepG_comm (cases := #[rcase c (.int .i64 0)]) (blocking := true) (shape := .recv true) (w' := w) rfl rfl (by decide) (by simp [go_sem, rcase])]
  simp [listed, go_sem, seen]
theorem mul_served (out u9 u29 u30 u31 u32 u33 u34 u35 : Value) (v : Value) : Conc.served (core (mulAt c s cs out u9 u29 u30 u31 u32 u33 u34 u35 [0, 1])) v = mulAt c s cs out u9 v u30 u31 u32 u33 u34 u35 [1] := by
  simp only [mulAt, mulOps7, mulL, mulT5, mulT4, mulT3, mulBody, Try.f17, Option.getD_some, core_G, served_G]
  rfl

theorem mulsV_length (p q : Nat) : ∀ (m k : Nat), (mulsV p q k m).length = m
  | 0, _ => rfl
  | m + 1, k => by simp [mulsV, mulsV_length p q m]
theorem mulsV_snoc (p q : Nat) : ∀ (m k : Nat), mulsV p q k (m + 1) = mulsV p q k m ++ [.int .i64 (((k + m) * p % q : Nat) : Int)]
  | 0, k => by simp [mulsV]
  | m + 1, k => by
    have := mulsV_snoc p q m (k + 1)
    simp only [mulsV] at this ⊢
    rw [this]
    simp [Nat.add_assoc, Nat.add_comm 1 m]

/-- behind the receive that found the channel closed -/
def MulFin (p q n : Nat) (g : Goroutine) (w : World) : Prop :=
  ∃ out u9 u30 u31 u32 u33 u34 u35, g = mulAt c s cs out u9 (.tuple #[.int .i64 0, .bool false]) u30 u31 u32 u33 u34 u35 [1] ∧ MF c W out (mulsV p q 0 n) w

theorem mul_from (p q n : Nat) (hn : n ≤ 400) : ∀ (m k : Nat), k + m = n → ∀ (out u9 u29 u30 u31 u32 u33 u34 u35 : Value) (w : World), MF c W out (mulsV p q 0 k) w →
    StopA Try.prog c TT MM (.int .i64 0) (MulFin c W s cs p q n) (mulsV p q k m) (mulAt c s cs out u9 u29 u30 u31 u32 u33 u34 u35 [0, 1]) w := by
  intro m
  induction m with
  | zero =>
    intro k hk out u9 u29 u30 u31 u32 u33 u34 u35 w hF
    obtain rfl : k = n := by omega
    refine ⟨rfl, #[], mul_comm c s cs out u9 u29 u30 u31 u32 u33 u34 u35 w, by simp, fun w₂ h₂ => ?_⟩
    simp only [mul_served]
    exact ⟨out, u9, u30, u31, u32, u33, u34, u35, rfl, hF.aside h₂⟩
  | succ m ih =>
    intro k hk out u9 u29 u30 u31 u32 u33 u34 u35 w hF
    refine ⟨rfl, #[], mul_comm c s cs out u9 u29 u30 u31 u32 u33 u34 u35 w, by simp, fun w₂ h₂ => ?_⟩
    simp only [mul_served]
    refine (recvs_iff ..).2 ⟨0 + 22, mul_round c W s cs _ 0 out _ _ u9 u30 u31 u32 u33 u34 u35 w₂ (hF.aside h₂) (by rw [mulsV_length]; omega) fun out' u9 u29 u30 u31 u32 u33 u34 u35 w' hF' => Goes.stop fun w₁ h₁ => ih (k + 1) (by omega) out' u9 u29 u30 u31 u32 u33 u34 u35 w₁ ?_⟩
    have e := mulsV_snoc p q k 0
    rw [Nat.zero_add] at e
    rw [e]
    exact hF'.aside h₁

/-- the receiver's script -/
theorem mul_recvs (p q n : Nat) (hn : n ≤ 400) (u8 u9 u28 u29 u30 u31 u32 u33 u34 u35 : Value) (w : World) (hF : MF c W (.slice none 0 0) [] w) :
    Recvs Try.prog c TT MM (.int .i64 0) (MulFin c W s cs p q n) (mulsV p q 0 n) (G (mulB.at ⟨#[s.p, s.q, s.n, s.u3, s.u4, s.u5, s.u6, .chan (some c), u8, u9, s.u10, s.u11, s.u12, s.u13, s.u14, s.u15, s.u16, s.u17, s.u18, s.u19, s.u20, s.u21, s.u22, .chan (some c), .chan (some c), s.p, s.q, s.n, u28, u29, u30, u31, u32, u33, u34, u35, s.u36], []⟩ [.inRegion mulOps4 [], .code mulT5]) cs) w :=
  (recvs_iff ..).2 ⟨0 + 14, mul_first c W s cs _ 0 u8 u9 u28 u29 u30 u31 u32 u33 u34 u35 w hF fun u9 u29 u30 u31 u32 u33 u34 u35 w' hF' => Goes.stop fun w₁ h₁ =>
    mul_from c W s cs p q n hn n 0 (by omega) _ u9 u29 u30 u31 u32 u33 u34 u35 w₁ (hF'.aside h₁)⟩
end
end Go.Proofs.Ytiikledbflgejaa

/- The program's multiplesOf in company: with fine arguments its points in a row of its own, in their order; otherwise nothing. No condition. -/
namespace Go.Proofs.Ytiikledbflgejaa
open Go.Conc Go.RowKit

/-- 'Below', on whatever tape -/
def Bl (N : Nat) (W w : World) : Prop := Below N W (tp w W.tape w.drawn)
theorem Bl.of {N : Nat} {W w : World} {τ τ' : Tp} {d d' : Nat} (h : Below N (tp W τ d) (tp w τ' d')) : Bl N W w := ⟨h.os, rfl, h.output, h.size, h.block⟩
theorem Bl.at {N : Nat} {W w : World} (h : Bl N W w) (d : Nat) : Bl N W (w.at d) := ⟨h.os, rfl, h.output, h.size, h.block⟩
theorem Bl.refl (N : Nat) (W : World) : Bl N W W := ⟨rfl, rfl, rfl, Nat.le_refl _, fun _ _ => rfl⟩
theorem Bl.trans {N : Nat} {A B C : World} (h : Bl N A B) (k : Bl N B C) : Bl N A C := ⟨k.os.trans h.os, rfl, k.output.trans h.output, Nat.le_trans h.size k.size, fun b hb => (k.block b hb).trans (h.block b hb)⟩
theorem Bl.mono {N M : Nat} {A B : World} (h : Bl N A B) (hm : M ≤ N) : Bl M A B := ⟨h.os, rfl, h.output, h.size, fun b hb => h.block b (Nat.lt_of_lt_of_le hb hm)⟩
theorem Bl.ofBelow {N : Nat} {W w : World} (h : Below N W w) : Bl N W w := ⟨h.os, rfl, h.output, h.size, h.block⟩
theorem Bl.tp {N : Nat} {W w : World} (h : Bl N W w) (τ : Tp) (d : Nat) : Bl N (tp W τ d) w := ⟨h.os, rfl, h.output, h.size, h.block⟩
theorem Bl.tp' {N : Nat} {W w : World} {τ : Tp} {d : Nat} (h : Bl N (Go.Proofs.Ytiikledbflgejaa.tp W τ d) w) : Bl N W w := ⟨h.os, rfl, h.output, h.size, h.block⟩

/-- valid: the list of its points; else nothing -/
def muR (p q n : Int) : List Int := if gpOk p q n = true then (List.range n.toNat).map fun i => ((i * p.toNat % q.toNat : Nat) : Int) else []

/-- the call's answer -/
def MulPost (p q n : Int) (W : World) (v : Value) (w' : World) : Prop :=
  Bl W.heap.size W w' ∧ w'.ownsRow W.heap.size 3 1 v (muR p q n).length (ints (muR p q n)) ∧ (muR p q n = [] → v = .slice none 0 0)
def mulS (p q n : Value) (u10 u11 u12 u13 u14 u15 u16 u17 u18 u19 u20 u21 u22 : Value) : MS :=
  ⟨p, q, n, undef, undef, undef, .slice none 0 0, u10, u11, u12, u13, u14, u15, u16, u17, u18, u19, u20, u21, u22, undef⟩

noncomputable def mulC0 : Code := match mulBody with | .seq a _ => a | _ => .skip
noncomputable def mulC1 : Code := match mulBody with | .seq _ (.seq a _) => a | _ => .skip
noncomputable def mulC3 : Code := match mulT3 with | .seq a _ => a | _ => .skip

/-- behind the test -/
def MulA (p q n : Int) (W : World) (e : Exit) (a : Act) (w : World) : Prop :=
  Bl W.heap.size W w ∧ ∃ u10 u11 u12 u13 u14 u15 u16 u17 u18 u19 u20 u21 u22 : Value,
    a = ⟨#[.int .i64 p, .int .i64 q, .int .i64 n, undef, undef, undef, .slice none 0 0, undef, undef, undef, u10, u11, u12, u13, u14, u15, u16, u17, u18, u19, u20, u21, u22, undef, undef, undef, undef, undef, undef, undef, undef, undef, undef, undef, undef, undef, undef], []⟩ ∧
    ((gpOk p q n = true ∧ e = .normal) ∨ (gpOk p q n = false ∧ e = .ret))

set_option maxRecDepth 100000 in
set_option maxHeartbeats 1000000 in
theorem mul_test (p q n : Int) (W : World) :
    mulC1.wp Try.prog (MulA p q n W) ⟨#[.int .i64 p, .int .i64 q, .int .i64 n, undef, undef, undef, .slice none 0 0, undef, undef, undef, undef, undef, undef, undef, undef, undef, undef, undef, undef, undef, undef, undef, undef, undef, undef, undef, undef, undef, undef, undef, undef, undef, undef, undef, undef, undef, undef], []⟩ W := by
  have HV : Hid (gpOk p q n = (cirB q [p] && (decide (1 ≤ n) && decide (n ≤ 400)))) := by
    show _ = _
    rw [Bool.eq_iff_iff]
    simp [gpOk, cirB, onB]
    omega
  have HC : Hid (∀ w : World, w.cell? ⟨W.heap.size, 0, none⟩ = some (.int .i64 p) → Calls Try.prog 21 #[.int .i64 q, .slice (some ⟨W.heap.size, 0, none⟩) 1 1] w fun e w' => e = .returned (.bool (cirB q [p])) ∧ w = w') := fun w h =>
    implIsCircle q [p] W.heap.size 1 w (by simp) (by intro j hj; simp at hj; subst hj; exact h)
  have hnew : (W.alloc (.cells #[.int .i64 p] 3)).cell? ⟨W.heap.size, 0, none⟩ = some (.int .i64 p) := by
    rw [World.cell?_alloc_at _ _ _ _ rfl]; rfl
  have HN := Lib.hid hnew
  clear hnew
  have HB : Hid (Bl W.heap.size W (W.alloc (.cells #[.int .i64 p] 3))) := Bl.ofBelow ((Below.refl _ _).alloc (Nat.le_refl _) _)
  simp only [mulC1, mulBody, Try.f17, Option.getD_some]
  cases hcb : cirB q [p]
  · have HV1 : Hid (gpOk p q n = false) := by show _ = _; rw [HV.out, hcb, Bool.false_and]
    go_wp2_with fail
    refine (HC.out _ HN.out).mono ?_
    rintro e w' ⟨rfl, rfl⟩
    rw [hcb]
    clear hcb
    go_wp2_with fail
    exact ⟨HB.out, _, _, _, _, _, _, _, _, _, _, _, _, _, rfl, .inr ⟨HV1.out, rfl⟩⟩
  · have HV1 : Hid (gpOk p q n = (decide (1 ≤ n) && decide (n ≤ 400))) := by show _ = _; rw [HV.out, hcb, Bool.true_and]
    by_cases h1 : n < 1
    · have HV2 : Hid (gpOk p q n = false) := by show _ = _; rw [HV1.out]; simp; omega
      go_wp2_with fail
      refine (HC.out _ HN.out).mono ?_
      rintro e w' ⟨rfl, rfl⟩
      rw [hcb]
      clear hcb
      go_wp2_with fail
      exact ⟨HB.out, _, _, _, _, _, _, _, _, _, _, _, _, _, rfl, .inr ⟨HV2.out, rfl⟩⟩
    · by_cases h2 : n > 400
      · have HV2 : Hid (gpOk p q n = false) := by show _ = _; rw [HV1.out]; simp; omega
        go_wp2_with fail
        refine (HC.out _ HN.out).mono ?_
        rintro e w' ⟨rfl, rfl⟩
        rw [hcb]
        clear hcb
        go_wp2_with fail
        exact ⟨HB.out, _, _, _, _, _, _, _, _, _, _, _, _, _, rfl, .inr ⟨HV2.out, rfl⟩⟩
      · have HV2 : Hid (gpOk p q n = true) := by show _ = _; rw [HV1.out]; simp; omega
        go_wp2_with fail
        refine (HC.out _ HN.out).mono ?_
        rintro e w' ⟨rfl, rfl⟩
        rw [hcb]
        clear hcb
        go_wp2_with fail
        exact ⟨HB.out, _, _, _, _, _, _, _, _, _, _, _, _, _, rfl, .inl ⟨HV2.out, rfl⟩⟩

theorem Bl.un {N : Nat} {W w : World} {τ : Tp} {d : Nat} (h : Bl N W (Go.Proofs.Ytiikledbflgejaa.tp w τ d)) : Bl N W w := ⟨h.os, rfl, h.output, h.size, h.block⟩

/-- one operation that yields a value in whatever world -/
theorem Can.op {P : Program} {Fin : Goroutine → World → Prop} {b : Frame} {a : Act} {k : List Item} {cs : List Frame} {w : World} {ops : Array Oper} {i : Nat} {rest : List Nat} {o : Oper} {v : Value} (hb : b.kind = .normal) (ho : ops[i]? = some o)
    (hw : Region.wanted o (yielded ops a.tmps) = true) (hr : ∀ w, (execOp a.eval o).run P w = .ok (.value v) w) (he : ∀ w, (execOp a.eval o).events P w #[] = #[]) (h : Can P Fin (G (b.at (a.put o.dst v) (.inRegion ops rest :: k)) cs) w) :
    Can P Fin (G (b.at a (.inRegion ops (i :: rest) :: k)) cs) w := by
  refine Can.silent rfl (fun w => ?_) h
  rw [stepG_value (v := v) (w' := w) ho hw (by rw [hb]; simp) (hr w)]
  unfold listed
  rw [he w, seen_none]

theorem mulsV_ints (p q : Nat) : ∀ (m k : Nat), mulsV p q k m = ints ((List.range m).map fun i => (((k + i) * p % q : Nat) : Int)) := by
  intro m
  induction m with
  | zero => exact fun k => rfl
  | succ m ih =>
    intro k
    rw [mulsV_snoc, ih k, List.range_succ, List.map_append]
    simp [ints]

set_option maxRecDepth 100000 in
set_option maxHeartbeats 2000000 in
theorem cMultiplesOf (p q n : Int) (W : World) : CCalls Try.prog 17 #[.int .i64 p, .int .i64 q, .int .i64 n] W (MulPost p q n W) := by
  intro Fin cs hK
  have henter : Frame.enter Try.prog 17 #[.int .i64 p, .int .i64 q, .int .i64 n] .normal = mulB.at ⟨#[.int .i64 p, .int .i64 q, .int .i64 n, undef, undef, undef, undef, undef, undef, undef, undef, undef, undef, undef, undef, undef, undef, undef, undef, undef, undef, undef, undef, undef, undef, undef, undef, undef, undef, undef, undef, undef, undef, undef, undef, undef, undef], []⟩ [.code mulBody] := by
    simp [Frame.enter, Frame.at, Try.func17, mulB, mulBody, Try.f17]
  rw [henter]
  -- its return
  have leave : ∀ (a : Act) (todo : List Item) (w' : World) (v : Value), a.defers = [] → a.tmps[6]? = some v → MulPost p q n W v w' → Can Try.prog Fin (G { mulB.at a todo with mode := .returning } cs) w' := fun a todo w' v hd hv hR =>
    hK _ v w' hR ⟨rfl, hd, rfl, Try.f17, Try.func17, by
      rw [show (mulB.at a todo).tmps = a.tmps from rfl]
      have hres : Try.f17.results = #[.tmp 6] := by simp [Try.f17]
      rw [results_tmp hres]
      simp [Array.getD_eq_getD_getElem?, hv]⟩ rfl
  have hbody : mulBody = .seq mulC0 (.seq mulC1 mulT3) := by simp only [mulC0, mulC1, mulT3, mulBody, Try.f17, Option.getD_some]
  have hT3 : mulT3 = .seq mulC3 mulT4 := by simp only [mulC3, mulT4, mulT3, mulBody, Try.f17, Option.getD_some]
  rw [hbody]
  refine Can.silent rfl (fun _ => stepG_seq) ?_
  refine (CWp.of (c := mulC0) (R := fun e a w => e = .normal ∧ a = ⟨#[.int .i64 p, .int .i64 q, .int .i64 n, undef, undef, undef, .slice none 0 0, undef, undef, undef, undef, undef, undef, undef, undef, undef, undef, undef, undef, undef, undef, undef, undef, undef, undef, undef, undef, undef, undef, undef, undef, undef, undef, undef, undef, undef, undef], []⟩ ∧ Bl W.heap.size W w)
    closedS noEarlyS (by kernel_rfl) rfl (fun τ d => ?_) (fun e a w h => .inl h.1)) Fin mulB _ cs rfl ?_
  · simp only [mulC0, mulBody, Try.f17, Option.getD_some]
    go_wp2_with fail
    exact ⟨rfl, rfl, rfl, Nat.le_refl _, fun _ _ => rfl⟩
  rintro e a w0 ⟨τ0, d0, rfl, rfl, hb0⟩
  replace hb0 := hb0.un
  clear τ0 d0
  refine Can.silent rfl (fun _ => stepG_seq) ?_
  refine (CWp.of (c := mulC1) (R := fun e a w => MulA p q n w0 e a w) closedS noEarlyS (by kernel_rfl) rfl (fun τ d => wp_mono (mul_test p q n (tp w0 τ d)) (fun e a w h => ⟨Bl.tp' h.1, h.2⟩)) (fun e a w h => ?_)) Fin mulB _ cs rfl ?_
  · obtain ⟨_, _, _, _, _, _, _, _, _, _, _, _, _, _, _, h | h⟩ := h
    · exact .inl h.2
    · exact .inr h.2
  rintro e a w1 ⟨τ1, d1, hb1, u10, u11, u12, u13, u14, u15, u16, u17, u18, u19, u20, u21, u22, rfl, ⟨hok, rfl⟩ | ⟨hok, rfl⟩⟩
  rotate_left
  · -- nothing
    intro todo
    have hm : muR p q n = [] := if_neg (by rw [hok]; decide)
    refine leave _ todo w1 (.slice none 0 0) rfl rfl ⟨hb0.trans (hb1.un.mono hb0.size), ?_, fun _ => rfl⟩
    rw [hm]
    exact World.ownsRow_nil _ _ _ _
  have hb1' : Bl W.heap.size W w1 := hb0.trans (hb1.un.mono hb0.size)
  clear hb0 hb1
  obtain ⟨P, Q, M, rfl, rfl, rfl, hQ1, hQ2, hPQ, hM1, hM2⟩ := gp_parts hok
  show Can Try.prog Fin (G (mulB.at _ (.code mulT3 :: [])) cs) w1
  rw [hT3]
  refine Can.silent rfl (fun _ => stepG_seq) ?_
  -- the channel
  have hmc : ∀ w : World, (Instr.makeChan 43 (.int .i64 0)).run Try.prog w = .ok (.chan (some w.heap.size)) (w.alloc (.chan 0 #[] false 0 0 false)) := fun w => by
    obtain ⟨i, hi, hb⟩ : ∃ i, Try.prog.info? 3 = some i ∧ i.bytes = 8 := by
      have h : (Try.prog.info? 3).map (·.bytes) = some 8 := by kernel_rfl
      obtain ⟨i, hi, hb⟩ := Option.map_eq_some_iff.1 h
      exact ⟨i, hi, hb⟩
    simpa using run_makeChan (P := Try.prog) (w := w) Try.underlying43 hi .i64 0 (by omega) (by rw [hb]; omega)
  refine (CWp.of (c := mulC3) (R := fun e a w => e = .normal ∧ a = ⟨#[.int .i64 (P : Int), .int .i64 (Q : Int), .int .i64 (M : Int), undef, undef, undef, .slice none 0 0, .chan (some w1.heap.size), undef, undef, u10, u11, u12, u13, u14, u15, u16, u17, u18, u19, u20, u21, u22, .chan (some w1.heap.size), undef, undef, undef, undef, undef, undef, undef, undef, undef, undef, undef, undef, undef], []⟩ ∧
    Bl w1.heap.size w1 w ∧ w.heap[w1.heap.size]? = some (.chan 0 #[] false 0 0 false) ∧ w.heap.size = w1.heap.size + 1) closedS noEarlyS (by kernel_rfl) rfl (fun τ d => ?_) (fun e a w h => .inl h.1)) Fin mulB _ cs rfl ?_
  · simp only [mulC3, mulT3, mulBody, Try.f17, Option.getD_some]
    go_wp2_with fail
    exact ⟨rfl, Bl.tp' (τ := τ) (d := d) (Bl.ofBelow ((Below.refl w1.heap.size (tp w1 τ d)).alloc (Nat.le_refl _) _)), heap_alloc_new _ _, rfl⟩
  rintro e a w2 ⟨τ2, d2, rfl, rfl, hb2, hch, hsz⟩
  replace hb2 := hb2.un
  replace hch : w2.heap[w1.heap.size]? = some (.chan 0 #[] false 0 0 false) := hch
  replace hsz : w2.heap.size = w1.heap.size + 1 := hsz
  clear hmc
  have hT4 : mulT4 = .seq (.region 4 mulOps4 false) mulT5 := by simp only [mulT4, mulOps4, mulT5, mulT3, mulBody, Try.f17, Option.getD_some]
  have hrange : List.range mulOps4.size = [0, 1, 2, 3, 4] := by simp [mulOps4, mulT4, mulT3, mulBody, Try.f17, List.range, List.range.loop]
  show Can Try.prog Fin (G (mulB.at _ (.code mulT4 :: [])) cs) w2
  rw [hT4]
  refine Can.silent rfl (fun _ => stepG_seq) ?_
  refine Can.silent rfl (fun _ => stepG_region) ?_
  rw [hrange]
  generalize hc : w1.heap.size = c at *
  have hR := mul_recvs c w2 (mulS (.int .i64 (P : Int)) (.int .i64 (Q : Int)) (.int .i64 (M : Int)) u10 u11 u12 u13 u14 u15 u16 u17 u18 u19 u20 u21 u22) cs P Q M hM2 undef undef undef undef undef undef undef undef undef undef w2
    ⟨World.ownsRow_nil _ _ _ _, Below.refl _ _, by omega, fun _ => rfl⟩
  have hEnd : ∀ (g : Goroutine) (w : World), MulFin c w2 (mulS (.int .i64 (P : Int)) (.int .i64 (Q : Int)) (.int .i64 (M : Int)) u10 u11 u12 u13 u14 u15 u16 u17 u18 u19 u20 u21 u22) cs P Q M g w → Can Try.prog Fin g w := by
    rintro g w3 ⟨out, u9, u30, u31, u32, u33, u34, u35, rfl, hF⟩
    have hm : muR (P : Int) (Q : Int) (M : Int) = (List.range M).map fun i => ((i * P % Q : Nat) : Int) := if_pos hok
    have hml : mulsV P Q 0 M = ints (muR (P : Int) (Q : Int) (M : Int)) := by
      rw [mulsV_ints, hm]
      simp
    have hpost : MulPost (P : Int) (Q : Int) (M : Int) W out w3 := by
      have hso := hb1'.size
      have hso : W.heap.size ≤ w1.heap.size := hso
      refine ⟨hb1'.trans ((hb2.trans (Bl.ofBelow hF.below)).mono (by omega)), ?_, fun h => hF.nil0 (by rw [hml, h]; rfl)⟩
      have ho := hF.own
      rw [hml] at ho
      have hle : (ints (muR (P : Int) (Q : Int) (M : Int))).length = (muR (P : Int) (Q : Int) (M : Int)).length := by simp [ints]
      rw [hle] at ho
      obtain ⟨o1, o2⟩ := ho
      exact ⟨o1, o2.imp id fun ⟨g, cp, cur, e, hg, r⟩ => ⟨g, cp, cur, e, by omega, r⟩⟩
    have hl := fun (a : Act) (todo : List Item) (hd : a.defers = []) (hv : a.tmps[6]? = some out) => leave a todo w3 out hd hv hpost
    simp only [mulAt, mulOps7, mulL2, mulL, mulEnd, mulT5, mulT4, mulT3, mulBody, mulS, Try.f17, Option.getD_some]
    refine Can.op rfl rfl rfl (fun _ => rfl) (fun _ => rfl) ?_
    walk_nrm
    refine Can.silent rfl (fun _ => stepG_region_end) ?_
    refine Can.silent rfl (fun _ => stepG_seq) ?_
    refine Can.silent rfl (fun _ => stepG_cond (t := false) rfl) ?_
    refine Can.silent rfl (fun _ => stepG_exit (k' := [.code mulEnd]) (by simp only [mulEnd, mulT5, mulT4, mulT3, mulBody, Try.f17, Option.getD_some]; rfl)) ?_
    simp only [mulEnd, mulT5, mulT4, mulT3, mulBody, Try.f17, Option.getD_some]
    refine Can.silent rfl (fun _ => stepG_seq) ?_
    refine Can.silent rfl (fun _ => stepG_region) ?_
    simp only [List.size_toArray, List.length_cons, List.length_nil, Nat.reduceAdd, Nat.zero_add, List.range, List.range.loop]
    refine Can.op rfl rfl rfl (fun _ => rfl) (fun _ => rfl) ?_
    walk_nrm
    refine Can.op rfl rfl rfl (fun _ => rfl) (fun _ => rfl) ?_
    walk_nrm
    refine Can.silent rfl (fun _ => stepG_region_end) ?_
    refine Can.silent rfl (fun _ => stepG_ret') ?_
    exact hl _ _ rfl rfl
  have hgo := Can.phase (P := Try.prog) (Fin := Fin) (g := G (mulB.at ⟨#[.int .i64 (P : Int), .int .i64 (Q : Int), .int .i64 (M : Int), undef, undef, undef, .slice none 0 0, .chan (some c), undef, undef, u10, u11, u12, u13, u14, u15, u16, u17, u18, u19, u20, u21, u22, .chan (some c), .chan (some c), .int .i64 (P : Int), .int .i64 (Q : Int), .int .i64 (M : Int), undef, undef, undef, undef, undef, undef, undef, undef, undef], []⟩ [.inRegion mulOps4 [4], .code mulT5]) cs)
    rfl (fun w => ?_) hch hR (snd_all c P Q M hM2 hPQ hQ2) hEnd
  rotate_left
  · simp only [mulS, mulOps4, mulT4, mulT3, mulBody, Try.f17, Option.getD_some]
    rw [stepG_spawn (d := sndCall c P Q M) (w' := w) (f := .func 27) (c := #[]) rfl rfl (by decide) (by simp [go_sem, sndCall, Deferred.ofValue]) rfl]
    simp [listed, go_sem, seen, Deferred.ofValue]
    rfl
  simp only [mulOps4, mulT4, mulT3, mulBody, Try.f17, Option.getD_some] at hgo ⊢
  refine Can.op rfl rfl rfl (fun _ => rfl) (fun _ => rfl) ?_
  refine Can.op rfl rfl rfl (fun _ => rfl) (fun _ => rfl) ?_
  refine Can.op rfl rfl rfl (fun _ => rfl) (fun _ => rfl) ?_
  refine Can.op rfl rfl rfl (fun _ => rfl) (fun _ => rfl) ?_
  walk_nrm
  exact hgo
theorem mul_name : (Try.f17.name == "runtime.NumGoroutine") = false := by kernel_rfl
theorem mul_body : Try.f17.body = some mulBody := by simp only [mulBody, Try.f17, Option.getD_some]
end Go.Proofs.Ytiikledbflgejaa
