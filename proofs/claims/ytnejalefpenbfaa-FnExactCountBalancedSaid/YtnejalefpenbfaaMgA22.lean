/- Texts put together. -/
import Derived.Test.YtnejalefpenbfaaMgA3
import Derived.Test.YtnejalefpenbfaaMgA1
import Derived.Deep.WholeRow
import Derived.Deep.MidRow
import Derived.Laws.CopyOwn
import Derived.Test.YtnejalefpenbfaaRows
import Derived.Lib.Hide
import Derived.OwnWalk
import Derived.Test.YtnejalefpenbfaaMgA16
import Derived.IntWalk
import Derived.Deep.RegionWith
import Derived.Deep.RegionLaw
import Derived.BigRegion
import Derived.Test.YtnejalefpenbfaaMgA14
import Derived.Test.YtnejalefpenbfaaMgA19
/- Squares and rows of the program as cells of an array: 17 and 4 of them. -/
namespace Go.Proofs.Ytnejalefpenbfaa
open Go.RowKit

/-- the cells of a square: its size, its four rows -/
def sqA (n : Int) (f : Nat → Nat → Int) : Array Value := #[.int .i64 n,
  .int .i64 (f 0 0), .int .i64 (f 0 1), .int .i64 (f 0 2), .int .i64 (f 0 3),
  .int .i64 (f 1 0), .int .i64 (f 1 1), .int .i64 (f 1 2), .int .i64 (f 1 3),
  .int .i64 (f 2 0), .int .i64 (f 2 1), .int .i64 (f 2 2), .int .i64 (f 2 3),
  .int .i64 (f 3 0), .int .i64 (f 3 1), .int .i64 (f 3 2), .int .i64 (f 3 3)]
def rowA (c : Nat → Int) : Array Value := #[.int .i64 (c 0), .int .i64 (c 1), .int .i64 (c 2), .int .i64 (c 3)]
theorem sqA_size (n : Int) (f : Nat → Nat → Int) : (sqA n f).size = 17 := rfl
theorem rowA_size (c : Nat → Int) : (rowA c).size = 4 := rfl
theorem four_cases {k : Nat} (h : k < 4) : k = 0 ∨ k = 1 ∨ k = 2 ∨ k = 3 := by omega
theorem sqA_get (n : Int) (f : Nat → Nat → Int) (i k : Nat) (hi : i < 4) (hk : k < 4) : (sqA n f)[1 + i * 4 + k]? = some (.int .i64 (f i k)) := by
  rcases four_cases hi with rfl | rfl | rfl | rfl <;> rcases four_cases hk with rfl | rfl | rfl | rfl <;> rfl
theorem rowA_get (c : Nat → Int) (k : Nat) (hk : k < 4) : (rowA c)[k]? = some (.int .i64 (c k)) := by
  rcases four_cases hk with rfl | rfl | rfl | rfl <;> rfl
def upd2 (f : Nat → Nat → Int) (i k : Nat) (x : Int) : Nat → Nat → Int := fun a b => if a = i ∧ b = k then x else f a b
def upd1 (c : Nat → Int) (k : Nat) (x : Int) : Nat → Int := fun a => if a = k then x else c a
theorem sqA_set (n : Int) (f : Nat → Nat → Int) (i k : Nat) (x : Int) (hi : i < 4) (hk : k < 4) : (sqA n f).toList.set (1 + i * 4 + k) (.int .i64 x) = (sqA n (upd2 f i k x)).toList := by
  rcases four_cases hi with rfl | rfl | rfl | rfl <;> rcases four_cases hk with rfl | rfl | rfl | rfl <;> rfl
theorem rowA_set (c : Nat → Int) (k : Nat) (x : Int) (hk : k < 4) : (rowA c).toList.set k (.int .i64 x) = (rowA (upd1 c k x)).toList := by
  rcases four_cases hk with rfl | rfl | rfl | rfl <;> rfl
theorem sqA_congr {n : Int} {f g : Nat → Nat → Int} (h : ∀ i k, i < 4 → k < 4 → f i k = g i k) : sqA n f = sqA n g := by
  simp [sqA, h]
theorem rowA_congr {c d : Nat → Int} (h : ∀ k, k < 4 → c k = d k) : rowA c = rowA d := by
  simp [rowA, h]

/-- a block of the call's own that holds these cells, whole -/
def Arr (w : World) (B : Nat) (T : TypeId) (b : Nat) (c : Array Value) : Prop :=
  w.ownsRow B T 1 (.slice (some ⟨b, 0, none⟩) c.size c.size) c.size c.toList
theorem Arr.cell {w : World} {B : Nat} {T : TypeId} {b : Nat} {c : Array Value} (h : Arr w B T b c) (k : Nat) (u : Value) (hu : c[k]? = some u) : w.cell? ⟨b, k, none⟩ = some u := by
  have hk : k < c.size := (Array.getElem?_eq_some_iff.1 hu).1
  have h2 := World.ownsRow.cellAt h k (by omega)
  rw [h2]
  simpa using hu
theorem Arr.frozen {w : World} {B : Nat} {T : TypeId} {b : Nat} {c : Array Value} (h : Arr w B T b c) (k : Nat) : w.frozen? ⟨b, k, none⟩ = false :=
  World.ownsRow.frozenAt h k
theorem Arr.made (w : World) (B : Nat) (T : TypeId) (c : Array Value) (hB : B ≤ w.heap.size) (hm : c.size ≤ maxLen) : Arr (w.alloc (.cells c T)) B T w.heap.size c :=
  World.ownsRow_lit w c c.size hB hm (by omega)
theorem Arr.alloc {w : World} {B : Nat} {T : TypeId} {b : Nat} {c : Array Value} (h : Arr w B T b c) (o : Obj) : Arr (w.alloc o) B T b c := World.ownsRow.alloc h o
theorem Arr.below {w w' : World} {B : Nat} {T : TypeId} {b : Nat} {c : Array Value} (h : Arr w B T b c) (hb : Below w.heap.size w w') : Arr w' B T b c := own_below h hb
theorem Arr.lt {w : World} {B : Nat} {T : TypeId} {b : Nat} {c : Array Value} (h : Arr w B T b c) : B ≤ b ∧ b < w.heap.size := World.ownsRow.lt h b rfl
theorem Arr.set {w : World} {B : Nat} {T : TypeId} {b : Nat} {c c' : Array Value} (h : Arr w B T b c) (k : Nat) (u : Value) (hc : c.toList.set k u = c'.toList) : Arr (w.setCell ⟨b, k, none⟩ u) B T b c' := by
  have hs : c'.size = c.size := by
    have := congrArg List.length hc
    simpa using this.symm
  have := (World.ownsRow.stored h k u).1
  rw [hc] at this
  unfold Arr
  rw [hs]
  exact this
theorem Arr.other {w : World} {B : Nat} {T : TypeId} {b : Nat} {c : Array Value} (h : Arr w B T b c) {a : Addr} (ha : a.block ≠ b) (u : Value) : Arr (w.setCell a u) B T b c :=
  own_setCell2 h (fun k hk => by simp [Value.ownBlock] at hk; omega) u
theorem Arr.load {P : Program} {w : World} {B : Nat} {T : TypeId} {b : Nat} {c : Array Value} (h : Arr w B T b c) (n : Nat) (hn : c.size = n) :
    (loadCellsFrom ⟨b, 0, none⟩ 0 n #[]).run P w = .ok c w := by
  subst hn
  have := run_loadCells_list (P := P) w ⟨b, 0, none⟩ c.toList (fun j v hv => by
    have hadd : (⟨b, 0, none⟩ : Addr).add j = ⟨b, j, none⟩ := by unfold Addr.add; split <;> simp_all
    rw [hadd]
    exact h.cell j v (by simpa using hv))
  simpa [loadCells] using this
theorem Arr.heap {w : World} {B : Nat} {T : TypeId} {b : Nat} {c : Array Value} (h : Arr w B T b c) : w.heap[b]? = some (.cells c T (0, 0)) := by
  rcases h.2 with ⟨h', _⟩ | ⟨g', cap', cur, h', hb, hg, hnc, hcm, hcs, htake⟩
  · simp at h'
  · simp only [Value.slice.injEq, Option.some.injEq, Addr.mk.injEq, and_true, true_and] at h'
    obtain ⟨rfl, rfl⟩ := h'
    have e : cur.toList = c.toList := by
      rw [← htake, List.take_of_length_le]
      simp only [Array.length_toList]
      omega
    rw [hg, Array.toList_inj.1 e]
theorem Arr.row {w : World} {B : Nat} {T : TypeId} {b : Nat} {c c' : Array Value} (h : Arr w B T b c) (hs : c'.size = c.size) : Arr (w.setRow b c') B T b c' := by
  rcases h.2 with ⟨h', _⟩ | ⟨g', cap', cur, h', hb, hg, hnc, hcm, hcs, htake⟩
  · simp at h'
  · simp only [Value.slice.injEq, Option.some.injEq, Addr.mk.injEq, and_true, true_and] at h'
    obtain ⟨rfl, rfl⟩ := h'
    refine ⟨by simp, .inr ⟨b, c'.size, c', rfl, hb, setRow_heap w b _ _ T _ h.heap, Nat.le_refl _, by omega, by omega, ?_⟩⟩
    rw [List.take_of_length_le]
    simp
theorem Arr.store {P : Program} {w : World} {B : Nat} {T : TypeId} {b : Nat} {c c' : Array Value} (h : Arr w B T b c) (hs : c'.size = c.size) (hi : (P.info? T).map (·.size) = some c'.size) (h1 : c'.all (·.oneCell') = true) :
    (storeCells ⟨b, 0, none⟩ c'.toList 0).run P w = .ok () (w.setRow b c') := by
  have := run_storeVar_row (P := P) w b T T c c' h.heap hi hs.symm h1
  cases hq : P.info? T with
  | none => simp [hq] at hi
  | some i =>
    have hs : c'.size = i.size := by simp [hq] at hi; omega
    simpa [storeVar, sizeOf, typeInfo, hq, Value.cells, hs] using this
theorem Arr.otherRow {w : World} {B : Nat} {T : TypeId} {b : Nat} {c : Array Value} (h : Arr w B T b c) {g : Nat} (hg : g ≠ b) (cs : Array Value) : Arr (w.setRow g cs) B T b c := by
  refine World.ownsRow.kept h (row := some g) ⟨rfl, rfl, rfl, by simp, fun k _ hk => setRow_other w g k cs (fun e => hk (by rw [e]))⟩ (.inr ?_)
  intro e
  exact hg (by simpa [Value.ownBlock] using e.symm)
theorem sqA_one (n : Int) (f : Nat → Nat → Int) : (sqA n f).all (·.oneCell') = true := by simp [sqA, Value.oneCell']
theorem rowA_one (c : Nat → Int) : (rowA c).all (·.oneCell') = true := by simp [rowA, Value.oneCell']
/-- the first j numbers of c, then 0 -/
def upTo (c : Nat → Int) (j : Nat) : Nat → Int := fun a => if a < j then c a else 0
theorem upTo_succ (c : Nat → Int) (j : Nat) : upd1 (upTo c j) j (c j) = upTo c (j + 1) := by
  funext a
  unfold upd1 upTo
  by_cases h : a = j
  · subst h; simp
  · have e : (a < j + 1) ↔ a < j := by omega
    simp [h, e]
theorem rowA_upTo (c : Nat → Int) : rowA (upTo c 4) = rowA c := rfl
/-- what a load and a store of a whole array or struct of that type ask of the program -/
def RowType (P : Program) (T : TypeId) (n : Nat) : Prop := ∃ d, P.underlying T = some d ∧ d.isRow = true ∧ (P.info? T).map (·.size) = some n
theorem load_arr {P : Program} {w : World} {ops : Array Oper} {rest : List Oper} {op : Oper} {a : Act} {Q : Exit → Act → World → Prop} (hgd : op.guard = none) (ty : TypeId) (x : Operand) (ho : op.op = .load ty x)
    (b B : Nat) (T : TypeId) (c : Array Value) (hx : a.eval x = .pointer (some ⟨b, 0, none⟩)) (hc : Arr w B T b c) (n : Nat) (ht : RowType P ty n) (hn : c.size = n)
    (h : wpList P ops Q rest (a.put op.dst (.agg c)) w) : wpList P ops Q (op :: rest) a w := by
  obtain ⟨d, hu, hd, hi⟩ := ht
  refine wpList_load_mid hgd ty x ho b 0 hx c.toList d (fun j v hv => ?_) hu hd (by simpa [hn] using hi) (by simpa using h)
  rw [Nat.zero_add]
  exact hc.cell j v (by simpa using hv)
/-- the rows of a square, all at once -/
theorem load_part {P : Program} {w : World} {ops : Array Oper} {rest : List Oper} {op : Oper} {a : Act} {Q : Exit → Act → World → Prop} (hgd : op.guard = none) (ty : TypeId) (x : Operand) (ho : op.op = .load ty x)
    (b o B : Nat) (T : TypeId) (c c' : Array Value) (hx : a.eval x = .pointer (some ⟨b, o, none⟩)) (hc : Arr w B T b c) (n : Nat) (ht : RowType P ty n) (hn : c'.size = n)
    (hp : ∀ j v, c'[j]? = some v → c[o + j]? = some v)
    (h : wpList P ops Q rest (a.put op.dst (.agg c')) w) : wpList P ops Q (op :: rest) a w := by
  obtain ⟨d, hu, hd, hi⟩ := ht
  refine wpList_load_mid hgd ty x ho b o hx c'.toList d (fun j v hv => ?_) hu hd (by simpa [hn] using hi) (by simpa using h)
  exact hc.cell _ v (hp j v (by simpa using hv))
theorem store_arr {P : Program} {w : World} {ops : Array Oper} {rest : List Oper} {op : Oper} {a : Act} {Q : Exit → Act → World → Prop} (hgd : op.guard = none) (T : TypeId) (x y : Operand) (ho : op.op = .store T x y)
    (b B : Nat) (c c' : Array Value) (hx : a.eval x = .pointer (some ⟨b, 0, none⟩)) (hy : a.eval y = .agg c') (hc : Arr w B T b c) (n : Nat) (ht : RowType P T n) (hn : c'.size = n) (hs : c'.size = c.size) (h1 : c'.all (·.oneCell') = true)
    (h : wpList P ops Q rest (a.put op.dst undef) (w.setRow b c')) : wpList P ops Q (op :: rest) a w := by
  obtain ⟨d, hu, hd, hi⟩ := ht
  refine wpList_plain hgd fun _ hK => ?_
  unfold Oper.wp execOp
  have := run_storeVar_row (P := P) w b T T c c' hc.heap (by rw [hi, hn]) hs.symm h1
  simp only [ho, hx, hy, Instr.storeAt, Instr.sureAddr, Sem.run_bind, Sem.run_pure, Result.andThen_ok, this]
  exact hK _ _ h
/-- the block that was made last is overwritten -/
theorem store_new {P : Program} {w : World} {ops : Array Oper} {rest : List Oper} {op : Oper} {a : Act} {Q : Exit → Act → World → Prop} (hgd : op.guard = none) (T : TypeId) (x y : Operand) (ho : op.op = .store T x y)
    (b : Nat) (c c' : Array Value) (hb : w.heap.size = b) (hx : a.eval x = .pointer (some ⟨b, 0, none⟩)) (hy : a.eval y = .agg c') (n : Nat) (ht : RowType P T n) (hn : c'.size = n) (hs : c'.size = c.size) (h1 : c'.all (·.oneCell') = true)
    (h : wpList P ops Q rest (a.put op.dst undef) (w.alloc (.cells c' T))) : wpList P ops Q (op :: rest) a (w.alloc (.cells c T)) := by
  subst hb
  obtain ⟨d, hu, hd, hi⟩ := ht
  refine wpList_plain hgd fun _ hK => ?_
  unfold Oper.wp execOp
  have := run_storeVar_new (P := P) w T c c' (by rw [hi, hn]) hs.symm h1
  simp only [ho, hx, hy, Instr.storeAt, Instr.sureAddr, Sem.run_bind, Sem.run_pure, Result.andThen_ok, this]
  exact hK _ _ h
theorem below_drew {B : Nat} {w0 w : World} (hb : Below B w0 w) : Below B w0 w.drew := hb.drew
theorem below_row {B g : Nat} {w0 w : World} (hb : Below B w0 w) (hg : B ≤ g) (cs : Array Value) : Below B w0 (w.setRow g cs) := below_setRow hb hg cs
/-- the result variable in a block of its own -/
theorem result_arr {P : Program} {w : World} {B : Nat} {T : TypeId} {b n : Nat} {c : Array Value} (ty : TypeId) (hc : Arr w B T b c) (ht : RowType P ty n) (hn : c.size = n) :
    (loadVar ty ⟨b, 0, none⟩).run P w = .ok (.agg c) w := by
  obtain ⟨d, hu, hd, hi⟩ := ht
  exact run_loadVar_row w b T ty c (0, 0) d hc.heap hu (by cases d <;> simp_all) (by rw [hi, hn])
/-- a function whose one result is an array or a struct in a variable -/
theorem post_arr {P : Program} {fn : Func} {R : Ending → World → Prop} {a : Act} {w : World} {B : Nat} {T : TypeId} {b n p : Nat} {c : Array Value} (ty : TypeId) (hr : fn.results = #[.cell p ty]) (hp : a.tmps.getD p undef = .pointer (some ⟨b, 0, none⟩))
    (hc : Arr w B T b c) (ht : RowType P ty n) (hn : c.size = n) (hd : a.defers = []) (h : R (.returned (.agg c)) w) : bodyPost P fn R .ret a w := by
  refine bodyPost_ret (v := .agg c) ?_ hd h
  have hp' : a.tmps[p]?.getD undef = .pointer (some ⟨b, 0, none⟩) := by rw [← Array.getD_eq_getD_getElem?]; exact hp
  simp only [results, hr]
  simp [asAddr, hp', result_arr (P := P) ty hc ht hn]
/-- the sixteen numbers of a square, row by row -/
def rowsA (f : Nat → Nat → Int) : Array Value := #[.int .i64 (f 0 0), .int .i64 (f 0 1), .int .i64 (f 0 2), .int .i64 (f 0 3), .int .i64 (f 1 0), .int .i64 (f 1 1), .int .i64 (f 1 2), .int .i64 (f 1 3), .int .i64 (f 2 0), .int .i64 (f 2 1), .int .i64 (f 2 2), .int .i64 (f 2 3), .int .i64 (f 3 0), .int .i64 (f 3 1), .int .i64 (f 3 2), .int .i64 (f 3 3)]
theorem rowPart (n : Int) (f : Nat → Nat → Int) (j : Nat) (v : Value) (h : (rowsA f)[j]? = some v) : (sqA n f)[1 + j]? = some v := by
  have e : (sqA n f).toList.tail = (rowsA f).toList := rfl
  rw [← Array.getElem?_toList] at h ⊢
  rw [← e] at h
  rw [Nat.add_comm]
  simpa using h
theorem index_row {w : World} {ops : Array Oper} {rest : List Oper} {op : Oper} {a : Act} {Q : Exit → Act → World → Prop} (hgd : op.guard = none) (T : TypeId) (hT : Try.prog.underlying T = some (.array 4 3)) (x y : Operand) (ho : op.op = .index T x y)
    (c : Nat → Int) (i : Nat) (hx : a.eval x = .agg (rowA c)) (hy : a.eval y = .int .i64 i) (hi : i < 4)
    (h : wpList Try.prog ops Q rest (a.put op.dst (.int .i64 (c i))) w) : wpList Try.prog ops Q (op :: rest) a w := by
  refine wpList_plain hgd fun _ hK => ?_
  unfold Oper.wp execOp
  have : (Instr.index T (.agg (rowA c)) (.int .i64 i)).run Try.prog w = .ok (.int .i64 (c i)) w := by
    rcases four_cases hi with rfl | rfl | rfl | rfl <;> (simp [Instr.index, asIntOf, run_underlying hT, part, rowA]; try rfl)
  simp only [ho, hx, hy, this, Sem.run_bind, Result.andThen_ok]
  exact hK _ _ h
end Go.Proofs.Ytnejalefpenbfaa

/- The program's compareRatios, and the library's MaxFunc and MinFunc over a row of ratios. Conditions: small numbers, at least one ratio. -/
namespace Go.Proofs.Ytnejalefpenbfaa
open Go.RowKit Go.Lib

theorem mul_500 {x y : Int} (hx : -500 ≤ x) (hx2 : x ≤ 500) (hy : -500 ≤ y) (hy2 : y ≤ 500) : -250000 ≤ x * y ∧ x * y ≤ 250000 := by
  have h1 : (x * y).natAbs ≤ 500 * 500 := by
    rw [Int.natAbs_mul]
    exact Nat.mul_le_mul (by omega) (by omega)
  omega

set_option maxHeartbeats 1000000 in
theorem implCompare (a b c d : Int) (w : World) (ha : -500 ≤ a ∧ a ≤ 500) (hb : -500 ≤ b ∧ b ≤ 500) (hc : -500 ≤ c ∧ c ≤ 500) (hd : -500 ≤ d ∧ d ≤ 500) :
    Calls Try.prog 38 #[.agg #[.int .i64 a, .int .i64 b], .agg #[.int .i64 c, .int .i64 d]] w fun e w' => e = .returned (.int .i64 (Lib.compareInt (a * d) (c * b))) ∧ Below w.heap.size w w' := by
  have m1 := mul_500 ha.1 ha.2 hd.1 hd.2
  have m2 := mul_500 hc.1 hc.2 hb.1 hb.2
  obtain ⟨x, hx⟩ : ∃ z, z = a * d := ⟨_, rfl⟩
  obtain ⟨y, hy⟩ : ∃ z, z = c * b := ⟨_, rfl⟩
  rw [← hx] at m1 ⊢
  rw [← hy] at m2 ⊢
  have e1 : IntKind.i64.wrap (a * d) = x := by rw [← hx]; exact IntWalk.i64_in _ (by omega)
  have e2 : IntKind.i64.wrap (c * b) = y := by rw [← hy]; exact IntWalk.i64_in _ (by omega)
  have e3 : wrap64 (a * d) = x := by rw [← hx]; exact IntWalk.wrap64_in _ (by omega)
  have e4 : wrap64 (c * b) = y := by rw [← hy]; exact IntWalk.wrap64_in _ (by omega)
  clear hx hy
  have HC := Lib.hid (fun w => Try.cmp_Compare_int x y w)
  have HB : Hid (Below w.heap.size w ((w.alloc (.cells #[.int .i64 a, .int .i64 b] 46)).alloc (.cells #[.int .i64 c, .int .i64 d] 46))) := ((Below.refl _ _).alloc (Nat.le_refl _) _).alloc (by simp) _
  go_enter Try.func38, Try.ntmps38
  go_wp2_with fail
  refine (HC.out _).mono ?_
  rintro e w' ⟨rfl, rfl⟩
  go_wp2_with fail
  go_ret
  exact ⟨rfl, HB.out⟩

theorem rat_ty : RowType Try.prog 46 2 := ⟨_, Try.underlying46, rfl, by kernel_rfl⟩
def ratA (r : Int × Int) : Array Value := #[.int .i64 r.1, .int .i64 r.2]
/-- the first one of the greatest ratios, of the first i + 1 -/
def mxTo (f : Nat → Int × Int) : Nat → Int × Int
  | 0 => f 0
  | i + 1 => if (mxTo f i).1 * (f (i + 1)).2 < (f (i + 1)).1 * (mxTo f i).2 then f (i + 1) else mxTo f i
def mnTo (f : Nat → Int × Int) : Nat → Int × Int
  | 0 => f 0
  | i + 1 => if (f (i + 1)).1 * (mnTo f i).2 < (mnTo f i).1 * (f (i + 1)).2 then f (i + 1) else mnTo f i
theorem mxTo_is (f : Nat → Int × Int) : ∀ i, ∃ j, j ≤ i ∧ mxTo f i = f j
  | 0 => ⟨0, Nat.le_refl _, rfl⟩
  | i + 1 => by
    obtain ⟨j, hj, e⟩ := mxTo_is f i
    unfold mxTo
    split
    · exact ⟨i + 1, Nat.le_refl _, rfl⟩
    · exact ⟨j, by omega, e⟩
theorem mnTo_is (f : Nat → Int × Int) : ∀ i, ∃ j, j ≤ i ∧ mnTo f i = f j
  | 0 => ⟨0, Nat.le_refl _, rfl⟩
  | i + 1 => by
    obtain ⟨j, hj, e⟩ := mnTo_is f i
    unfold mnTo
    split
    · exact ⟨i + 1, Nat.le_refl _, rfl⟩
    · exact ⟨j, by omega, e⟩
/-- ratios of small numbers in a row of memory -/
def Rats (w : World) (g n : Nat) (f : Nat → Int × Int) : Prop := ∀ j, j < n → w.cell? ⟨g, j * 2, none⟩ = some (.int .i64 (f j).1) ∧ w.cell? ⟨g, j * 2 + 1, none⟩ = some (.int .i64 (f j).2)
theorem Rats.below {w w' : World} {g n S : Nat} {f : Nat → Int × Int} (h : Rats w g n f) (hg : g < S) (hb : Below S w w') : Rats w' g n f := fun j hj =>
  ⟨(hb.cell (p := ⟨g, j * 2, none⟩) hg).trans (h j hj).1, (hb.cell (p := ⟨g, j * 2 + 1, none⟩) hg).trans (h j hj).2⟩
theorem load_rat {P : Program} {w : World} {ops : Array Oper} {rest : List Oper} {op : Oper} {a : Act} {Q : Exit → Act → World → Prop} (hgd : op.guard = none) (ty : TypeId) (x : Operand) (ho : op.op = .load ty x)
    (b o : Nat) (r : Int × Int) (hx : a.eval x = .pointer (some ⟨b, o, none⟩)) (h1 : w.cell? ⟨b, o, none⟩ = some (.int .i64 r.1)) (h2 : w.cell? ⟨b, o + 1, none⟩ = some (.int .i64 r.2)) (ht : RowType P ty 2)
    (h : wpList P ops Q rest (a.put op.dst (.agg (ratA r))) w) : wpList P ops Q (op :: rest) a w := by
  obtain ⟨d, hu, hd, hi⟩ := ht
  refine wpList_load_mid hgd ty x ho b o hx (ratA r).toList d (fun j v hv => ?_) hu hd (by simpa [ratA] using hi) (by simpa using h)
  rcases j with _ | _ | j
  · simp [ratA] at hv
    subst hv
    exact h1
  · simp [ratA] at hv
    subst hv
    exact h2
  · simp [ratA] at hv
/-- all are small -/
def Smalls (n : Nat) (f : Nat → Int × Int) : Prop := ∀ j, j < n → (-500 ≤ (f j).1 ∧ (f j).1 ≤ 500) ∧ (-500 ≤ (f j).2 ∧ (f j).2 ≤ 500)

set_option maxRecDepth 100000 in
set_option maxHeartbeats 1000000 in
theorem implMaxFunc (f : Nat → Int × Int) (g n cp : Nat) (w : World) (hn : 1 ≤ n ∧ n ≤ 1000) (hR : Rats w g n f) (hS : Smalls n f) :
    Calls Try.prog 37 #[.slice (some ⟨g, 0, none⟩) n cp, .func (.func 38) #[] #[]] w fun e w' => e = .returned (.agg (ratA (mxTo f (n - 1)))) ∧ Below w.heap.size w w' := by
  obtain ⟨hn1, hn2⟩ := hn
  obtain ⟨N, hN⟩ : ∃ N, N = n - 1 := ⟨_, rfl⟩
  rw [← hN]
  have HR := Lib.hid hR
  have HS := Lib.hid hS
  have h00 := hR 0 (by omega)
  have hgw := World.block_lt_of_cell? w _ h00.1
  have hn0 : ¬ (n : Int) < 1 := by omega
  have HA0 : Hid (Arr (w.alloc (.cells #[.int .i64 0, .int .i64 0] 46)) w.heap.size 46 w.heap.size (ratA (0, 0))) := Arr.made w _ _ (ratA (0, 0)) (Nat.le_refl _) (by simp [ratA, maxLen])
  clear hR hS
  go_enter Try.func37, Try.ntmps37
  go_wp2_with fail
  go_loopw [6] (fun iv wr => ∃ i : Nat, i < n ∧ iv = .int .i64 ((i : Int) + 1) ∧ Arr wr w.heap.size 46 w.heap.size (ratA (0, 0)) ∧ Arr wr w.heap.size 46 (w.heap.size + 1) (ratA (mxTo f i)) ∧ Below w.heap.size w wr) (fun iv _ => n + 1 - (intOf iv).toNat)
  case atStart =>
    refine ⟨0, by omega, rfl, HA0.out.alloc _, ?_, ((Below.refl _ _).alloc (Nat.le_refl _) _).alloc (by simp) _⟩
    have := Arr.made (w.alloc (.cells #[.int .i64 0, .int .i64 0] 46)) w.heap.size 46 (ratA (f 0)) (by simp) (by simp [ratA, maxLen])
    simp only [World.size_alloc] at this
    exact this
  case round =>
    obtain ⟨i, hi, rfl, ha1, ha2, hb⟩ := hrel
    obtain ⟨wo, rfl⟩ : ∃ y : World, y = wr := ⟨_, rfl⟩
    have HA1 := Lib.hid ha1
    have HA2 := Lib.hid ha2
    have HB := Lib.hid hb
    clear ha1 ha2 hb
    by_cases hlt : i + 1 < n
    · have hlt' : (i : Int) + 1 < (n : Int) := by omega
      obtain ⟨r1, r2⟩ := HR.out.below hgw HB.out (i + 1) hlt
      have hp : (0 : Int) ≤ (i : Int) + 1 := by omega
      obtain ⟨k, hk, hm⟩ := mxTo_is f i
      have s1 := HS.out (i + 1) hlt
      have s2 := HS.out k (by omega)
      rw [← hm] at s2
      have HC := Lib.hid (fun w => implCompare (f (i + 1)).1 (f (i + 1)).2 (mxTo f i).1 (mxTo f i).2 w s1.1 s1.2 s2.1 s2.2)
      have HN : Hid (mxTo f (i + 1) = if (mxTo f i).1 * (f (i + 1)).2 < (f (i + 1)).1 * (mxTo f i).2 then f (i + 1) else mxTo f i) := rfl
      obtain ⟨v, hv⟩ : ∃ v, v = Lib.compareInt ((f (i + 1)).1 * (mxTo f i).2) ((mxTo f i).1 * (f (i + 1)).2) := ⟨_, rfl⟩
      rw [← hv] at HC
      have hv1 : (mxTo f i).1 * (f (i + 1)).2 < (f (i + 1)).1 * (mxTo f i).2 ↔ 0 < v := by
        rw [hv]
        unfold Lib.compareInt
        split
        · omega
        · split <;> omega
      by_cases hc : 0 < v
      · rw [if_pos (hv1.2 hc)] at HN
        clear hm hv hv1 s1 s2
        generalize hM : mxTo f i = m at *
        generalize hX : f (i + 1) = x at *
        obtain ⟨x1, x2⟩ := x
        obtain ⟨m1, m2⟩ := m
        have c1 : wo.cell? ⟨w.heap.size + 1, 0, none⟩ = some (.int .i64 m1) := HA2.out.cell 0 _ rfl
        have c2 : wo.cell? ⟨w.heap.size + 1, 1, none⟩ = some (.int .i64 m2) := HA2.out.cell 1 _ rfl
        go_wp2_with fail
        go_region_with (go_at_call 38; refine (HC.out _).mono ?_; rintro e w' ⟨rfl, hb⟩)
        all_goals
          have HBW : Hid (Below wo.heap.size wo w') := ((Below.refl wo.heap.size wo).drew).trans hb
          clear hb
          have d1 : w'.cell? ⟨g, (i + 1) * 2, none⟩ = some (.int .i64 x1) := (HBW.out.cell (p := ⟨g, (i + 1) * 2, none⟩) (by have := HB.out.size; simp; omega)).trans r1
          have d2 : w'.cell? ⟨g, (i + 1) * 2 + 1, none⟩ = some (.int .i64 x2) := (HBW.out.cell (p := ⟨g, (i + 1) * 2 + 1, none⟩) (by have := HB.out.size; simp; omega)).trans r2
          have HA3 := Lib.hid (HA1.out.below HBW.out)
          have HA4 := Lib.hid (HA2.out.below HBW.out)
          have HB3 := Lib.hid (HB.out.trans (HBW.out.mono HB.out.size))
          clear r1 r2 c1 c2
          have e1 : w'.cell? ⟨w.heap.size + 1, 0, none⟩ = some (.int .i64 m1) := HA4.out.cell 0 _ rfl
          have e2 : w'.cell? ⟨w.heap.size + 1, 1, none⟩ = some (.int .i64 m2) := HA4.out.cell 1 _ rfl
          have f1 := HA4.out.frozen 0
          have f2 := HA4.out.frozen 1
          go_wp2_with fail
          go_roundw
          case rel => exact ⟨i + 1, hlt, by go_num, (HA3.out.other (by simp) _).other (by simp) _, by rw [HN.out]; exact (HA4.out.set 0 (.int .i64 x1) (c' := ratA (x1, m2)) rfl).set 1 (.int .i64 x2) (c' := ratA (x1, x2)) rfl, (HB3.out.setCell (by simp) _).setCell (by simp) _⟩
          case measure => simp [intOf]; omega
      · rw [if_neg (fun h => hc (hv1.1 h))] at HN
        clear hm hv hv1 s1 s2
        generalize hM : mxTo f i = m at *
        generalize hX : f (i + 1) = x at *
        obtain ⟨x1, x2⟩ := x
        obtain ⟨m1, m2⟩ := m
        have c1 : wo.cell? ⟨w.heap.size + 1, 0, none⟩ = some (.int .i64 m1) := HA2.out.cell 0 _ rfl
        have c2 : wo.cell? ⟨w.heap.size + 1, 1, none⟩ = some (.int .i64 m2) := HA2.out.cell 1 _ rfl
        go_wp2_with fail
        go_region_with (go_at_call 38; refine (HC.out _).mono ?_; rintro e w' ⟨rfl, hb⟩)
        all_goals
          have HBW : Hid (Below wo.heap.size wo w') := ((Below.refl wo.heap.size wo).drew).trans hb
          clear hb
          have HA3 := Lib.hid (HA1.out.below HBW.out)
          have HA4 := Lib.hid (HA2.out.below HBW.out)
          have HB3 := Lib.hid (HB.out.trans (HBW.out.mono HB.out.size))
          clear r1 r2 c1 c2
          go_wp2_with fail
          go_roundw
          case rel => exact ⟨i + 1, hlt, by go_num, HA3.out, by rw [HN.out]; exact HA4.out, HB3.out⟩
          case measure => simp [intOf]; omega
    · have hlt' : ¬ (i : Int) + 1 < (n : Int) := by omega
      have he : N = i := by omega
      subst he
      clear hN
      have hs := (HA2.out.lt).2
      generalize hM : mxTo f N = m at *
      obtain ⟨m1, m2⟩ := m
      have c1 : wo.cell? ⟨w.heap.size + 1, 0, none⟩ = some (.int .i64 m1) := HA2.out.cell 0 _ rfl
      have c2 : wo.cell? ⟨w.heap.size + 1, 1, none⟩ = some (.int .i64 m2) := HA2.out.cell 1 _ rfl
      have e1 : wo.cell? ⟨w.heap.size, 0, none⟩ = some (.int .i64 0) := HA1.out.cell 0 _ rfl
      have e2 : wo.cell? ⟨w.heap.size, 1, none⟩ = some (.int .i64 0) := HA1.out.cell 1 _ rfl
      have f1 := HA1.out.frozen 0
      have f2 := HA1.out.frozen 1
      go_wp2_with fail
      refine post_arr 46 rfl rfl ((HA1.out.set 0 (.int .i64 m1) (c' := ratA (m1, 0)) rfl).set 1 (.int .i64 m2) (c' := ratA (m1, m2)) rfl) rat_ty rfl rfl ⟨rfl, ?_⟩
      exact (HB.out.setCell (by simp) _).setCell (by simp) _

set_option maxRecDepth 100000 in
set_option maxHeartbeats 1000000 in
theorem implMinFunc (f : Nat → Int × Int) (g n cp : Nat) (w : World) (hn : 1 ≤ n ∧ n ≤ 1000) (hR : Rats w g n f) (hS : Smalls n f) :
    Calls Try.prog 39 #[.slice (some ⟨g, 0, none⟩) n cp, .func (.func 38) #[] #[]] w fun e w' => e = .returned (.agg (ratA (mnTo f (n - 1)))) ∧ Below w.heap.size w w' := by
  obtain ⟨hn1, hn2⟩ := hn
  obtain ⟨N, hN⟩ : ∃ N, N = n - 1 := ⟨_, rfl⟩
  rw [← hN]
  have HR := Lib.hid hR
  have HS := Lib.hid hS
  have h00 := hR 0 (by omega)
  have hgw := World.block_lt_of_cell? w _ h00.1
  have hn0 : ¬ (n : Int) < 1 := by omega
  have HA0 : Hid (Arr (w.alloc (.cells #[.int .i64 0, .int .i64 0] 46)) w.heap.size 46 w.heap.size (ratA (0, 0))) := Arr.made w _ _ (ratA (0, 0)) (Nat.le_refl _) (by simp [ratA, maxLen])
  clear hR hS
  go_enter Try.func39, Try.ntmps39
  go_wp2_with fail
  go_loopw [6] (fun iv wr => ∃ i : Nat, i < n ∧ iv = .int .i64 ((i : Int) + 1) ∧ Arr wr w.heap.size 46 w.heap.size (ratA (0, 0)) ∧ Arr wr w.heap.size 46 (w.heap.size + 1) (ratA (mnTo f i)) ∧ Below w.heap.size w wr) (fun iv _ => n + 1 - (intOf iv).toNat)
  case atStart =>
    refine ⟨0, by omega, rfl, HA0.out.alloc _, ?_, ((Below.refl _ _).alloc (Nat.le_refl _) _).alloc (by simp) _⟩
    have := Arr.made (w.alloc (.cells #[.int .i64 0, .int .i64 0] 46)) w.heap.size 46 (ratA (f 0)) (by simp) (by simp [ratA, maxLen])
    simp only [World.size_alloc] at this
    exact this
  case round =>
    obtain ⟨i, hi, rfl, ha1, ha2, hb⟩ := hrel
    obtain ⟨wo, rfl⟩ : ∃ y : World, y = wr := ⟨_, rfl⟩
    have HA1 := Lib.hid ha1
    have HA2 := Lib.hid ha2
    have HB := Lib.hid hb
    clear ha1 ha2 hb
    by_cases hlt : i + 1 < n
    · have hlt' : (i : Int) + 1 < (n : Int) := by omega
      obtain ⟨r1, r2⟩ := HR.out.below hgw HB.out (i + 1) hlt
      have hp : (0 : Int) ≤ (i : Int) + 1 := by omega
      obtain ⟨k, hk, hm⟩ := mnTo_is f i
      have s1 := HS.out (i + 1) hlt
      have s2 := HS.out k (by omega)
      rw [← hm] at s2
      have HC := Lib.hid (fun w => implCompare (f (i + 1)).1 (f (i + 1)).2 (mnTo f i).1 (mnTo f i).2 w s1.1 s1.2 s2.1 s2.2)
      have HN : Hid (mnTo f (i + 1) = if (f (i + 1)).1 * (mnTo f i).2 < (mnTo f i).1 * (f (i + 1)).2 then f (i + 1) else mnTo f i) := rfl
      obtain ⟨v, hv⟩ : ∃ v, v = Lib.compareInt ((f (i + 1)).1 * (mnTo f i).2) ((mnTo f i).1 * (f (i + 1)).2) := ⟨_, rfl⟩
      rw [← hv] at HC
      have hv1 : (f (i + 1)).1 * (mnTo f i).2 < (mnTo f i).1 * (f (i + 1)).2 ↔ v < 0 := by
        rw [hv]
        unfold Lib.compareInt
        split
        · omega
        · split <;> omega
      by_cases hc : v < 0
      · rw [if_pos (hv1.2 hc)] at HN
        clear hm hv hv1 s1 s2
        generalize hM : mnTo f i = m at *
        generalize hX : f (i + 1) = x at *
        obtain ⟨x1, x2⟩ := x
        obtain ⟨m1, m2⟩ := m
        have c1 : wo.cell? ⟨w.heap.size + 1, 0, none⟩ = some (.int .i64 m1) := HA2.out.cell 0 _ rfl
        have c2 : wo.cell? ⟨w.heap.size + 1, 1, none⟩ = some (.int .i64 m2) := HA2.out.cell 1 _ rfl
        go_wp2_with fail
        go_region_with (go_at_call 38; refine (HC.out _).mono ?_; rintro e w' ⟨rfl, hb⟩)
        all_goals
          have HBW : Hid (Below wo.heap.size wo w') := ((Below.refl wo.heap.size wo).drew).trans hb
          clear hb
          have d1 : w'.cell? ⟨g, (i + 1) * 2, none⟩ = some (.int .i64 x1) := (HBW.out.cell (p := ⟨g, (i + 1) * 2, none⟩) (by have := HB.out.size; simp; omega)).trans r1
          have d2 : w'.cell? ⟨g, (i + 1) * 2 + 1, none⟩ = some (.int .i64 x2) := (HBW.out.cell (p := ⟨g, (i + 1) * 2 + 1, none⟩) (by have := HB.out.size; simp; omega)).trans r2
          have HA3 := Lib.hid (HA1.out.below HBW.out)
          have HA4 := Lib.hid (HA2.out.below HBW.out)
          have HB3 := Lib.hid (HB.out.trans (HBW.out.mono HB.out.size))
          clear r1 r2 c1 c2
          have e1 : w'.cell? ⟨w.heap.size + 1, 0, none⟩ = some (.int .i64 m1) := HA4.out.cell 0 _ rfl
          have e2 : w'.cell? ⟨w.heap.size + 1, 1, none⟩ = some (.int .i64 m2) := HA4.out.cell 1 _ rfl
          have f1 := HA4.out.frozen 0
          have f2 := HA4.out.frozen 1
          go_wp2_with fail
          go_roundw
          case rel => exact ⟨i + 1, hlt, by go_num, (HA3.out.other (by simp) _).other (by simp) _, by rw [HN.out]; exact (HA4.out.set 0 (.int .i64 x1) (c' := ratA (x1, m2)) rfl).set 1 (.int .i64 x2) (c' := ratA (x1, x2)) rfl, (HB3.out.setCell (by simp) _).setCell (by simp) _⟩
          case measure => simp [intOf]; omega
      · rw [if_neg (fun h => hc (hv1.1 h))] at HN
        clear hm hv hv1 s1 s2
        generalize hM : mnTo f i = m at *
        generalize hX : f (i + 1) = x at *
        obtain ⟨x1, x2⟩ := x
        obtain ⟨m1, m2⟩ := m
        have c1 : wo.cell? ⟨w.heap.size + 1, 0, none⟩ = some (.int .i64 m1) := HA2.out.cell 0 _ rfl
        have c2 : wo.cell? ⟨w.heap.size + 1, 1, none⟩ = some (.int .i64 m2) := HA2.out.cell 1 _ rfl
        go_wp2_with fail
        go_region_with (go_at_call 38; refine (HC.out _).mono ?_; rintro e w' ⟨rfl, hb⟩)
        all_goals
          have HBW : Hid (Below wo.heap.size wo w') := ((Below.refl wo.heap.size wo).drew).trans hb
          clear hb
          have HA3 := Lib.hid (HA1.out.below HBW.out)
          have HA4 := Lib.hid (HA2.out.below HBW.out)
          have HB3 := Lib.hid (HB.out.trans (HBW.out.mono HB.out.size))
          clear r1 r2 c1 c2
          go_wp2_with fail
          go_roundw
          case rel => exact ⟨i + 1, hlt, by go_num, HA3.out, by rw [HN.out]; exact HA4.out, HB3.out⟩
          case measure => simp [intOf]; omega
    · have hlt' : ¬ (i : Int) + 1 < (n : Int) := by omega
      have he : N = i := by omega
      subst he
      clear hN
      have hs := (HA2.out.lt).2
      generalize hM : mnTo f N = m at *
      obtain ⟨m1, m2⟩ := m
      have c1 : wo.cell? ⟨w.heap.size + 1, 0, none⟩ = some (.int .i64 m1) := HA2.out.cell 0 _ rfl
      have c2 : wo.cell? ⟨w.heap.size + 1, 1, none⟩ = some (.int .i64 m2) := HA2.out.cell 1 _ rfl
      have e1 : wo.cell? ⟨w.heap.size, 0, none⟩ = some (.int .i64 0) := HA1.out.cell 0 _ rfl
      have e2 : wo.cell? ⟨w.heap.size, 1, none⟩ = some (.int .i64 0) := HA1.out.cell 1 _ rfl
      have f1 := HA1.out.frozen 0
      have f2 := HA1.out.frozen 1
      go_wp2_with fail
      refine post_arr 46 rfl rfl ((HA1.out.set 0 (.int .i64 m1) (c' := ratA (m1, 0)) rfl).set 1 (.int .i64 m2) (c' := ratA (m1, m2)) rfl) rat_ty rfl rfl ⟨rfl, ?_⟩
      exact (HB.out.setCell (by simp) _).setCell (by simp) _
end Go.Proofs.Ytnejalefpenbfaa

/- Slopes: the first of the greatest ratios is in lowest terms, and is what the model finds. No program in it. -/
namespace Go.Proofs.Ytnejalefpenbfaa

theorem cross_lt {a b c d e g : Int} (hb : 0 < b) (hd : 0 < d) (hg : 0 < g) (h1 : a * d ≤ c * b) (h2 : c * g < e * d) : a * g < e * b := by
  have h3 : a * d * g ≤ c * b * g := Int.mul_le_mul_of_nonneg_right h1 (by omega)
  have h4 : c * g * b < e * d * b := Int.mul_lt_mul_of_pos_right h2 hb
  have h5 : a * g * d < e * b * d := by
    rw [show a * g * d = a * d * g by grind, show e * b * d = e * d * b by grind]
    have : c * b * g = c * g * b := by grind
    omega
  exact Int.lt_of_mul_lt_mul_right h5 (by omega)
theorem cross_le {a b c d e g : Int} (hb : 0 < b) (hd : 0 < d) (hg : 0 < g) (h1 : a * d ≤ c * b) (h2 : c * g ≤ e * d) : a * g ≤ e * b := by
  have h3 : a * d * g ≤ c * b * g := Int.mul_le_mul_of_nonneg_right h1 (by omega)
  have h4 : c * g * b ≤ e * d * b := Int.mul_le_mul_of_nonneg_right h2 (by omega)
  have h5 : a * g * d ≤ e * b * d := by
    rw [show a * g * d = a * d * g by grind, show e * b * d = e * d * b by grind]
    have : c * b * g = c * g * b := by grind
    omega
  exact Int.le_of_mul_le_mul_right h5 hd
theorem mxTo_first {f : Nat → Int × Int} (hf : ∀ j, 0 < (f j).2) : ∀ k, ∃ p, p ≤ k ∧ mxTo f k = f p ∧ (∀ q, q < p → (f q).1 * (f p).2 < (f p).1 * (f q).2) ∧ ∀ q, q ≤ k → (f q).1 * (f p).2 ≤ (f p).1 * (f q).2
  | 0 => ⟨0, Nat.le_refl _, rfl, fun q h => absurd h (by omega), fun q h => by rw [show q = 0 by omega]; exact Int.le_refl _⟩
  | k + 1 => by
    obtain ⟨p, hp, e, h1, h2⟩ := mxTo_first hf k
    unfold mxTo
    rw [e]
    split
    next hc =>
      have h3 : ∀ q, q < k + 1 → (f q).1 * (f (k + 1)).2 < (f (k + 1)).1 * (f q).2 := fun q hq => cross_lt (hf q) (hf p) (hf (k + 1)) (h2 q (by omega)) hc
      refine ⟨k + 1, Nat.le_refl _, rfl, h3, fun q hq => ?_⟩
      by_cases e2 : q = k + 1
      · rw [e2]; exact Int.le_refl _
      · exact Int.le_of_lt (h3 q (by omega))
    next hc =>
      refine ⟨p, by omega, rfl, h1, fun q hq => ?_⟩
      by_cases e2 : q = k + 1
      · rw [e2]; omega
      · exact h2 q (by omega)
theorem mnTo_first {f : Nat → Int × Int} (hf : ∀ j, 0 < (f j).2) : ∀ k, ∃ p, p ≤ k ∧ mnTo f k = f p ∧ (∀ q, q < p → (f p).1 * (f q).2 < (f q).1 * (f p).2) ∧ ∀ q, q ≤ k → (f p).1 * (f q).2 ≤ (f q).1 * (f p).2
  | 0 => ⟨0, Nat.le_refl _, rfl, fun q h => absurd h (by omega), fun q h => by rw [show q = 0 by omega]; exact Int.le_refl _⟩
  | k + 1 => by
    obtain ⟨p, hp, e, h1, h2⟩ := mnTo_first hf k
    unfold mnTo
    rw [e]
    split
    next hc =>
      have h3 : ∀ q, q < k + 1 → (f (k + 1)).1 * (f q).2 < (f q).1 * (f (k + 1)).2 := fun q hq => by
        have h4 := h2 q (by omega)
        -- - f q <= - f p < - f (k + 1)
        have := cross_lt (a := -(f q).1) (b := (f q).2) (c := -(f p).1) (d := (f p).2) (e := -(f (k + 1)).1) (g := (f (k + 1)).2) (hf q) (hf p) (hf (k + 1)) (by rw [Int.neg_mul, Int.neg_mul]; omega) (by rw [Int.neg_mul, Int.neg_mul]; omega)
        rw [Int.neg_mul, Int.neg_mul] at this
        omega
      refine ⟨k + 1, Nat.le_refl _, rfl, h3, fun q hq => ?_⟩
      by_cases e2 : q = k + 1
      · rw [e2]; exact Int.le_refl _
      · exact Int.le_of_lt (h3 q (by omega))
    next hc =>
      refine ⟨p, by omega, rfl, h1, fun q hq => ?_⟩
      by_cases e2 : q = k + 1
      · rw [e2]; omega
      · exact h2 q (by omega)

theorem cb_mul_le {x : Nat → Bool} {N m : Nat} {j : Int} (h : ∀ t, t + m ≤ N → (cbN x t m : Int) ≤ j) : ∀ (d i : Nat), i + d * m ≤ N → (cbN x i (d * m) : Int) ≤ d * j
  | 0, i, _ => by
    rw [Nat.zero_mul]
    show ((0 : Nat) : Int) ≤ ((0 : Nat) : Int) * j
    rw [Int.natCast_zero, Int.zero_mul]
    exact Int.le_refl _
  | d + 1, i, hi => by
    rw [Nat.succ_mul] at hi ⊢
    have h1 := cb_mul_le h d i (by omega)
    have h2 := h (i + d * m) (by omega)
    have h3 : ((d + 1 : Nat) : Int) * j = (d : Int) * j + j := by rw [Int.natCast_add, Int.add_mul]; simp
    rw [cb_split, h3]
    omega
theorem cb_mul_ge {x : Nat → Bool} {N m : Nat} {j : Int} (h : ∀ t, t + m ≤ N → j ≤ (cbN x t m : Int)) : ∀ (d i : Nat), i + d * m ≤ N → d * j ≤ (cbN x i (d * m) : Int)
  | 0, i, _ => by
    rw [Nat.zero_mul]
    show ((0 : Nat) : Int) * j ≤ ((0 : Nat) : Int)
    rw [Int.natCast_zero, Int.zero_mul]
    exact Int.le_refl _
  | d + 1, i, hi => by
    rw [Nat.succ_mul] at hi ⊢
    have h1 := cb_mul_ge h d i (by omega)
    have h2 := h (i + d * m) (by omega)
    have h3 : ((d + 1 : Nat) : Int) * j = (d : Int) * j + j := by rw [Int.natCast_add, Int.add_mul]; simp
    rw [cb_split, h3]
    omega

/-- the ratios of the length j + 1 -/
def loF (s : ByteArray) (j : Nat) : Int × Int := ((hgN s (j + 1) : Int) - 1, ((j + 1 : Nat) : Int))
def upF (s : ByteArray) (j : Nat) : Int × Int := ((lwN s (j + 1) : Int) + 1, ((j + 1 : Nat) : Int))
theorem slTo_pick (s : ByteArray) : ∀ k, slTo s (k + 1) = (mxTo (loF s) k, mnTo (upF s) k)
  | 0 => by
    have h1 : lwN s 1 ≤ 1 := (sp_le s 1 _).1
    unfold slTo
    have e0 : slTo s 0 = ((-1, 1), (2, 1)) := rfl
    rw [e0]
    dsimp only
    show (_, _) = (((hgN s 1 : Int) - 1, ((0 + 1 : Nat) : Int)), ((lwN s 1 : Int) + 1, ((0 + 1 : Nat) : Int)))
    congr 1
    · split
      · rfl
      next hc =>
        have hc2 : ¬ ((-1 : Int) * 1 < ((hgN s 1 : Int) - 1) * 1) := hc
        have : hgN s 1 = 0 := by omega
        rw [this]
        rfl
    · split
      · rfl
      next hc =>
        have hc2 : ¬ (((lwN s 1 : Int) + 1) * 1 < 2 * 1) := hc
        have : lwN s 1 = 1 := by omega
        rw [this]
        rfl
  | k + 1 => by
    have ih := slTo_pick s k
    unfold slTo
    rw [ih]
    rfl
theorem gcd_parts {a : Int} {n : Nat} (hn : 0 < n) : ∃ (d m : Nat) (j : Int), d = Nat.gcd a.natAbs n ∧ 0 < d ∧ n = d * m ∧ 0 < m ∧ a = d * j := by
  obtain ⟨u, hu⟩ : Nat.gcd a.natAbs n ∣ a.natAbs := Nat.gcd_dvd_left _ _
  obtain ⟨m, hm⟩ : Nat.gcd a.natAbs n ∣ n := Nat.gcd_dvd_right _ _
  have hd : 0 < Nat.gcd a.natAbs n := Nat.gcd_pos_of_pos_right _ hn
  have hm0 : 0 < m := by
    refine Nat.pos_of_ne_zero fun e => ?_
    rw [e, Nat.mul_zero] at hm
    omega
  generalize Nat.gcd a.natAbs n = d at *
  have hu2 : ((a.natAbs : Nat) : Int) = (d : Int) * (u : Int) := by rw [hu, Int.natCast_mul]
  by_cases h : 0 ≤ a
  · exact ⟨d, m, u, rfl, hd, hm, hm0, by rw [← hu2]; omega⟩
  · exact ⟨d, m, -u, rfl, hd, hm, hm0, by rw [Int.mul_neg, ← hu2]; omega⟩
theorem lo_lowest {s : ByteArray} {k : Nat} (hk : k + 1 ≤ s.size) : Nat.gcd (mxTo (loF s) k).1.natAbs (mxTo (loF s) k).2.natAbs = 1 := by
  obtain ⟨p, hp, e, h1, _⟩ := mxTo_first (f := loF s) (fun j => by show (0 : Int) < ((j + 1 : Nat) : Int); omega) k
  rw [e]
  show Nat.gcd ((hgN s (p + 1) : Int) - 1).natAbs (p + 1) = 1
  obtain ⟨d, m, j, hd, hd0, hn, hm0, ha⟩ := gcd_parts (a := (hgN s (p + 1) : Int) - 1) (n := p + 1) (by omega)
  rw [← hd]
  refine Classical.byContradiction fun hne => ?_
  have hd2 : 2 ≤ d := by omega
  have hmp : m < p + 1 := by
    have : 2 * m ≤ d * m := Nat.mul_le_mul_right _ hd2
    omega
  obtain ⟨q, rfl⟩ : ∃ q, m = q + 1 := ⟨m - 1, by omega⟩
  have hq := h1 q (by omega)
  have hq2 : ((hgN s (q + 1) : Int) - 1) * ((p + 1 : Nat) : Int) < ((hgN s (p + 1) : Int) - 1) * ((q + 1 : Nat) : Int) := hq
  rw [ha, hn, Int.natCast_mul] at hq2
  have hlt : (hgN s (q + 1) : Int) - 1 < j := by
    have h3 : ((hgN s (q + 1) : Int) - 1) * ((d : Int) * ((q + 1 : Nat) : Int)) < j * ((d : Int) * ((q + 1 : Nat) : Int)) := by
      rw [show j * ((d : Int) * ((q + 1 : Nat) : Int)) = (d : Int) * j * ((q + 1 : Nat) : Int) by grind]
      exact hq2
    refine Int.lt_of_mul_lt_mul_right h3 (Int.mul_nonneg ?_ ?_) <;> omega
  obtain ⟨_, i, hi, hmx⟩ := sp_some s (p + 1) (s.size + 1 - (p + 1)) (by omega)
  have hall : ∀ t, t + (q + 1) ≤ s.size → (cbN (bX s) t (q + 1) : Int) ≤ j := fun t ht => by
    have h4 := (sp_all s (q + 1) (s.size + 1 - (q + 1)) t (by omega)).2
    have h5 : hgN s (q + 1) = spHi s (q + 1) (s.size + 1 - (q + 1)) := rfl
    omega
  have h6 := cb_mul_le hall d i (by rw [← hn]; omega)
  rw [← hn] at h6
  have h7 : hgN s (p + 1) = spHi s (p + 1) (s.size + 1 - (p + 1)) := rfl
  omega
theorem up_lowest {s : ByteArray} {k : Nat} (hk : k + 1 ≤ s.size) : Nat.gcd (mnTo (upF s) k).1.natAbs (mnTo (upF s) k).2.natAbs = 1 := by
  obtain ⟨p, hp, e, h1, _⟩ := mnTo_first (f := upF s) (fun j => by show (0 : Int) < ((j + 1 : Nat) : Int); omega) k
  rw [e]
  show Nat.gcd ((lwN s (p + 1) : Int) + 1).natAbs (p + 1) = 1
  obtain ⟨d, m, j, hd, hd0, hn, hm0, ha⟩ := gcd_parts (a := (lwN s (p + 1) : Int) + 1) (n := p + 1) (by omega)
  rw [← hd]
  refine Classical.byContradiction fun hne => ?_
  have hd2 : 2 ≤ d := by omega
  have hmp : m < p + 1 := by
    have : 2 * m ≤ d * m := Nat.mul_le_mul_right _ hd2
    omega
  obtain ⟨q, rfl⟩ : ∃ q, m = q + 1 := ⟨m - 1, by omega⟩
  have hq := h1 q (by omega)
  have hq2 : ((lwN s (p + 1) : Int) + 1) * ((q + 1 : Nat) : Int) < ((lwN s (q + 1) : Int) + 1) * ((p + 1 : Nat) : Int) := hq
  rw [ha, hn, Int.natCast_mul] at hq2
  have hlt : j < (lwN s (q + 1) : Int) + 1 := by
    have h3 : j * ((d : Int) * ((q + 1 : Nat) : Int)) < ((lwN s (q + 1) : Int) + 1) * ((d : Int) * ((q + 1 : Nat) : Int)) := by
      rw [show j * ((d : Int) * ((q + 1 : Nat) : Int)) = (d : Int) * j * ((q + 1 : Nat) : Int) by grind]
      exact hq2
    refine Int.lt_of_mul_lt_mul_right h3 (Int.mul_nonneg ?_ ?_) <;> omega
  obtain ⟨⟨i, hi, hmx⟩, _⟩ := sp_some s (p + 1) (s.size + 1 - (p + 1)) (by omega)
  have hall : ∀ t, t + (q + 1) ≤ s.size → j ≤ (cbN (bX s) t (q + 1) : Int) := fun t ht => by
    have h4 := (sp_all s (q + 1) (s.size + 1 - (q + 1)) t (by omega)).1
    have h5 : lwN s (q + 1) = spLo s (q + 1) (s.size + 1 - (q + 1)) := rfl
    omega
  have h6 := cb_mul_ge hall d i (by rw [← hn]; omega)
  rw [← hn] at h6
  have h7 : lwN s (p + 1) = spLo s (p + 1) (s.size + 1 - (p + 1)) := rfl
  omega
theorem slR_pick {s : ByteArray} {k : Nat} (hok : slOk s = true) (hk : s.size = k + 1) : slR s = ((mxTo (loF s) k).1, (mxTo (loF s) k).2, (mnTo (upF s) k).1, (mnTo (upF s) k).2) := by
  unfold slR
  rw [if_pos hok, hk, slTo_pick]
  dsimp only
  rw [lo_lowest (by omega), up_lowest (by omega)]
  simp
end Go.Proofs.Ytnejalefpenbfaa

/- What FnPeriods' calls return, in the form that the walk wants: borders and periods, the root. No program in it. -/
namespace Go.Proofs.Ytnejalefpenbfaa
open Go.RowKit

theorem py_list {s : ByteArray} (hw : wordB s = true) (h : 1 ≤ s.size) : peR s = ((boR s).reverse.map fun x => (s.size : Int) - x) ++ [(s.size : Int)] := by
  have e1 : peR s = peTo s s.size := if_pos hw
  have e2 : boR s = boTo s (s.size - 1) := if_pos hw
  rw [e1, e2, per_last h, per_bor]
theorem py_len {s : ByteArray} (hw : wordB s = true) : (1 ≤ s.size → (peR s).length = (boR s).length + 1) ∧ (s.size = 0 → (peR s).length = 0) := by
  constructor
  · intro h
    rw [py_list hw h, List.length_append, List.length_map, List.length_reverse]
    rfl
  · intro h
    have e1 : peR s = peTo s s.size := if_pos hw
    rw [e1, h]
    rfl
/-- each period is what its border leaves -/
theorem py_at {s : ByteArray} (hw : wordB s = true) (h : 1 ≤ s.size) {i : Nat} (hi : i < (peR s).length) : (∀ hb : i < (boR s).length, (peR s)[i] + (boR s)[(boR s).length - 1 - i] = (s.size : Int)) ∧ (i = (boR s).length → (peR s)[i] = (s.size : Int)) := by
  have hl := py_list hw h
  simp only [hl] at hi ⊢
  constructor
  · intro hb
    rw [List.getElem_append_left (by rw [List.length_map, List.length_reverse]; exact hb), List.getElem_map, List.getElem_reverse]
    omega
  · intro hb
    rw [List.getElem_append_right (by rw [List.length_map, List.length_reverse]; omega)]
    simp
theorem py_up {s : ByteArray} (hw : wordB s = true) {i j : Nat} (hij : i < j) (hj : j < (peR s).length) : (peR s)[i] < (peR s)[j] := by
  have e1 : peR s = peTo s s.size := if_pos hw
  have := peTo_asc s s.size
  rw [← e1] at this
  exact List.pairwise_iff_getElem.1 this i j (by omega) hj hij
theorem py_is {s : ByteArray} (hw : wordB s = true) {i : Nat} (hi : i < (peR s).length) : ∃ p : Nat, (peR s)[i] = p ∧ 1 ≤ p ∧ p ≤ s.size ∧ PerAt s p := by
  have e1 : peR s = peTo s s.size := if_pos hw
  have hm := List.getElem_mem hi
  exact peTo_mem.1 (e1 ▸ hm)
theorem py_fine {s : ByteArray} (hw : wordB s = true) {i j : Nat} (hi : i < (peR s).length) (hj : j < (peR s).length) : afR s (peR s)[i] (peR s)[j] = true := by
  obtain ⟨p, e1, a1, a2, a3⟩ := py_is hw hi
  obtain ⟨q, e2, b1, b2, b3⟩ := py_is hw hj
  rw [e1, e2]
  exact af_yes hw a1 a2 b1 b2 a3 b3
theorem py_least {s : ByteArray} (hw : wordB s = true) (h : 1 ≤ s.size) : ∃ hp : 0 < (peR s).length, perR s = (peR s)[0] := by
  have hp : 0 < (peR s).length := by rw [(py_len hw).1 h]; omega
  refine ⟨hp, ?_⟩
  obtain ⟨p, e, a1, a2, a3⟩ := py_is hw hp
  obtain ⟨q1, q2⟩ := pz_per h
  have hl := perN_le s
  have hps := q2 s.size h (per_size s)
  have h1 : perR s = (perN s : Int) := by unfold perR; rw [if_pos hw, if_neg (by omega)]
  have hm : ((perN s : Nat) : Int) ∈ peR s := by
    have e1 : peR s = peTo s s.size := if_pos hw
    rw [e1]
    exact peTo_mem.2 ⟨perN s, rfl, hl.1, hps, q1⟩
  obtain ⟨j, hj, hje⟩ := List.mem_iff_getElem.1 hm
  have h2 := q2 p a1 a3
  rw [h1, e]
  by_cases h0 : j = 0
  · subst h0
    rw [e] at hje
    omega
  · have := py_up hw (show 0 < j by omega) hj
    rw [e, hje] at this
    omega
/-- the root written so many times; it is no power -/
theorem py_root {s : ByteArray} (hw : wordB s = true) (h : 1 ≤ s.size) : ∃ k : Nat, rtK s = k ∧ 1 ≤ k ∧ k ≤ s.size ∧ timesB (rtR s) k = s ∧ prmR (rtR s) = true ∧ (rtN s = s.size ↔ k = 1) := by
  obtain ⟨⟨a1, a2⟩, b, c, d⟩ := rt_spec h
  have hok : rtOk s = true := by unfold rtOk; rw [hw, decide_eq_true h]; rfl
  have e1 : rtR s = s.extract 0 (rtN s) := if_pos hok
  have e2 : rtK s = ((s.size / rtN s : Nat) : Int) := if_pos hok
  have hd : s.size / rtN s * rtN s = s.size := Nat.div_mul_cancel (Nat.dvd_of_mod_eq_zero a1)
  have hz : (s.extract 0 (rtN s)).size = rtN s := by rw [ByteArray.size_extract]; omega
  have hk1 : 1 ≤ s.size / rtN s := by
    rcases Nat.eq_zero_or_pos (s.size / rtN s) with e | e
    · rw [e, Nat.zero_mul] at hd; omega
    · exact e
  refine ⟨s.size / rtN s, e2, hk1, Nat.div_le_self _ _, by rw [e1]; exact rt_whole h, ?_, ?_⟩
  · have hrw : wordB (s.extract 0 (rtN s)) = true := by
      unfold wordB at hw ⊢
      rw [Bool.and_eq_true, decide_eq_true_eq, List.all_eq_true] at hw ⊢
      refine ⟨by omega, fun c hc => hw.2 c ?_⟩
      rw [ByteArray.data_extract, Array.toList_extract, List.extract_eq_take_drop] at hc
      exact List.mem_of_mem_drop (List.mem_of_mem_take hc)
    have hok2 : rtOk (s.extract 0 (rtN s)) = true := by unfold rtOk; rw [hrw, decide_eq_true (show 1 ≤ (s.extract 0 (rtN s)).size by omega)]; rfl
    have e3 : rtK (s.extract 0 (rtN s)) = (((s.extract 0 (rtN s)).size / rtN (s.extract 0 (rtN s)) : Nat) : Int) := if_pos hok2
    unfold prmR
    rw [e1, e3, rt_root h, hz, Nat.div_self (by omega)]
    rfl
  · constructor
    · intro e
      rw [e, Nat.div_self (by omega)]
    · intro e
      rw [e, Nat.one_mul] at hd
      exact hd
/-- the least shift: a Lyndon word exactly if the word is no power; it is not behind the word, and one of its shifts -/
theorem py_shift {s : ByteArray} (hw : wordB s = true) (h : 1 ≤ s.size) : ∃ k : Nat, lsR s = k ∧ k < s.size ∧ (LynAt (rotS s k) ↔ rtN s = s.size) ∧ ¬ lessB s (rotS s k) = true := by
  refine ⟨lsTo s s.size, if_pos (by rw [hw, decide_eq_true h]; rfl), ls_lt h, ls_lyn h, ?_⟩
  have := ls_least s s.size 0 (by omega)
  rwa [rot_zero] at this
theorem py_part {s : ByteArray} (hw : wordB s = true) (i j : Nat) : wordB (s.extract i j) = true := by
  unfold wordB at hw ⊢
  rw [Bool.and_eq_true, decide_eq_true_eq, List.all_eq_true] at hw
  rw [Bool.and_eq_true, decide_eq_true_eq, List.all_eq_true]
  refine ⟨by rw [ByteArray.size_extract]; omega, fun c hc => hw.2 c ?_⟩
  rw [ByteArray.data_extract, Array.toList_extract, List.extract_eq_take_drop] at hc
  exact List.mem_of_mem_drop (List.mem_of_mem_take hc)
theorem lyTo_word {s : ByteArray} (hw : wordB s = true) : ∀ f i, ∀ x ∈ lyTo s i f, wordB x = true
  | 0, i, x, h => by cases h
  | f + 1, i, x, h => by
    by_cases hi : i < s.size
    · have e : lyTo s i (f + 1) = s.extract i (i + lyLen s i (s.size - i)) :: lyTo s (i + lyLen s i (s.size - i)) f := if_pos hi
      rw [e] at h
      rcases List.mem_cons.1 h with rfl | h
      · exact py_part hw _ _
      · exact lyTo_word hw f _ x h
    · have e : lyTo s i (f + 1) = [] := if_neg hi
      rw [e] at h
      cases h
theorem lyTo_few (s : ByteArray) : ∀ f i, (lyTo s i f).length ≤ f
  | 0, _ => Nat.le_refl _
  | f + 1, i => by
    by_cases hi : i < s.size
    · have e : lyTo s i (f + 1) = s.extract i (i + lyLen s i (s.size - i)) :: lyTo s (i + lyLen s i (s.size - i)) f := if_pos hi
      have := lyTo_few s f (i + lyLen s i (s.size - i))
      rw [e, List.length_cons]
      omega
    · have e : lyTo s i (f + 1) = [] := if_neg hi
      rw [e]
      exact Nat.zero_le _
/-- the parts: Lyndon words that make the word, none behind the one before it -/
theorem py_parts {s : ByteArray} (hw : wordB s = true) : flatB (lyP s) = s ∧ (∀ x ∈ lyP s, lyR x = true ∧ wordB x = true) ∧ (∀ q (h : q + 1 < (lyP s).length), ¬ lessB (lyP s)[q] (lyP s)[q + 1] = true) ∧ (lyP s).length ≤ s.size ∧ lyR s = decide ((lyP s).length = 1) := by
  have e : lyP s = lyTo s 0 s.size := if_pos hw
  obtain ⟨a, b⟩ := lyTo_spec s s.size 0 (Nat.zero_le _) (by omega)
  have c := lyTo_down s s.size 0 (Nat.zero_le _) (by omega)
  have hwhole : s.extract 0 s.size = s := by
    refine pl_ext (by rw [ByteArray.size_extract]; omega) fun i hi => ?_
    rw [ByteArray.size_extract] at hi
    have := pz_list s 0 s.size i (by omega)
    rwa [Nat.zero_add, Nat.zero_add] at this
  have hw2 := lyTo_word hw s.size 0
  have hf := lyTo_few s s.size 0
  have ho := fun h => lyTo_one (s := s) h
  refine ⟨by rw [e, a, hwhole], fun x hx => ?_, fun q h => ?_, by rw [e]; exact hf, ?_⟩
  · rw [e] at hx
    have h1 := hw2 x hx
    unfold lyR
    rw [h1, (lyB_iff x).2 (b x hx)]
    exact ⟨rfl, rfl⟩
  · simp only [e] at h ⊢
    exact c q h
  · rw [e]
    unfold lyR
    rw [hw, Bool.true_and, Bool.eq_iff_iff, lyB_iff, decide_eq_true_eq]
    by_cases h : 1 ≤ s.size
    · exact (ho h).symm
    · constructor
      · intro hh
        exact absurd hh.1 h
      · intro hh
        omega
end Go.Proofs.Ytnejalefpenbfaa
