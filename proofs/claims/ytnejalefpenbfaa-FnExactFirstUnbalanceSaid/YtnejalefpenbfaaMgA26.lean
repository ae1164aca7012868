/- Texts put together. -/
import Derived.Test.YtnejalefpenbfaaMgA25
import Derived.Deep.DeepCutAuto
import Derived.Deep.RegionWith
import Derived.Test.YtnejalefpenbfaaMgA3
import Derived.Test.YtnejalefpenbfaaMgA4
import Derived.Test.YtnejalefpenbfaaMgA5
import Derived.Test.YtnejalefpenbfaaMgA16
import Derived.Test.YtnejalefpenbfaaMgA6
import Derived.Test.YtnejalefpenbfaaMgA10
/- Marks of the program's squares, and the square of ones. -/
namespace Go.Proofs.Ytnejalefpenbfaa
open Go.RowKit
theorem sqA_zero (n : Int) (f : Nat → Nat → Int) : (sqA n f)[0]? = some (.int .i64 n) := rfl
/-- the seventeen cells of a square, one by one -/
theorem Arr.cells17 {w : World} {B : Nat} {T : TypeId} {b : Nat} {n : Int} {f : Nat → Nat → Int} (h : Arr w B T b (sqA n f)) : w.cell? ⟨b, 0, none⟩ = some (.int .i64 n) ∧ w.cell? ⟨b, 1, none⟩ = some (.int .i64 (f 0 0)) ∧ w.cell? ⟨b, 2, none⟩ = some (.int .i64 (f 0 1)) ∧ w.cell? ⟨b, 3, none⟩ = some (.int .i64 (f 0 2)) ∧ w.cell? ⟨b, 4, none⟩ = some (.int .i64 (f 0 3)) ∧ w.cell? ⟨b, 5, none⟩ = some (.int .i64 (f 1 0)) ∧ w.cell? ⟨b, 6, none⟩ = some (.int .i64 (f 1 1)) ∧ w.cell? ⟨b, 7, none⟩ = some (.int .i64 (f 1 2)) ∧ w.cell? ⟨b, 8, none⟩ = some (.int .i64 (f 1 3)) ∧ w.cell? ⟨b, 9, none⟩ = some (.int .i64 (f 2 0)) ∧ w.cell? ⟨b, 10, none⟩ = some (.int .i64 (f 2 1)) ∧ w.cell? ⟨b, 11, none⟩ = some (.int .i64 (f 2 2)) ∧ w.cell? ⟨b, 12, none⟩ = some (.int .i64 (f 2 3)) ∧ w.cell? ⟨b, 13, none⟩ = some (.int .i64 (f 3 0)) ∧ w.cell? ⟨b, 14, none⟩ = some (.int .i64 (f 3 1)) ∧ w.cell? ⟨b, 15, none⟩ = some (.int .i64 (f 3 2)) ∧ w.cell? ⟨b, 16, none⟩ = some (.int .i64 (f 3 3)) :=
  ⟨h.cell 0 _ rfl, h.cell 1 _ rfl, h.cell 2 _ rfl, h.cell 3 _ rfl, h.cell 4 _ rfl, h.cell 5 _ rfl, h.cell 6 _ rfl, h.cell 7 _ rfl, h.cell 8 _ rfl, h.cell 9 _ rfl, h.cell 10 _ rfl, h.cell 11 _ rfl, h.cell 12 _ rfl, h.cell 13 _ rfl, h.cell 14 _ rfl, h.cell 15 _ rfl, h.cell 16 _ rfl⟩
/-- the square while column by column is laid: the columns before k, and of column k the numbers before i -/
def colsTo (D : Nat → Nat → Int) (k i : Nat) : Nat → Nat → Int := fun a c => if c < k ∨ (c = k ∧ a < i) then D a c else 0
theorem colsTo_succ (D : Nat → Nat → Int) (k i : Nat) : upd2 (colsTo D k i) i k (D i k) = colsTo D k (i + 1) := by
  funext a c
  unfold upd2 colsTo
  by_cases h : a = i ∧ c = k
  · obtain ⟨rfl, rfl⟩ := h
    simp
  · rw [if_neg h]
    have e : (c < k ∨ (c = k ∧ a < i)) ↔ (c < k ∨ (c = k ∧ a < i + 1)) := by omega
    simp only [e]
theorem colsTo_next (D : Nat → Nat → Int) (n : Int) (k : Nat) : sqA n (colsTo D k 4) = sqA n (colsTo D (k + 1) 0) := by
  refine sqA_congr fun a c ha hc => ?_
  unfold colsTo
  have e : (c < k ∨ (c = k ∧ a < 4)) ↔ (c < k + 1 ∨ (c = k + 1 ∧ a < 0)) := by omega
  simp only [e]
theorem colsTo_zero (D : Nat → Nat → Int) : colsTo D 0 0 = fun _ _ => 0 := by
  funext a c
  unfold colsTo
  rw [if_neg (by omega)]
theorem colsTo_end (D : Nat → Nat → Int) (n : Nat) : colsTo D n 0 = fun a c => if c < n then D a c else 0 := by
  funext a c
  unfold colsTo
  have e : (c < n ∨ (c = n ∧ a < 0)) ↔ c < n := by omega
  simp only [e]
/-- 1 for each number that is at least 1, else the number itself -/
def markF (f : Nat → Nat → Int) : Nat → Nat → Int := fun a c => if 1 < f a c then 1 else f a c
/-- the square while row by row is marked: the rows before i, and of row i the numbers before k -/
def rowsTo (D f : Nat → Nat → Int) (i k : Nat) : Nat → Nat → Int := fun a c => if a < i ∨ (a = i ∧ c < k) then D a c else f a c
theorem rowsTo_succ (D f : Nat → Nat → Int) (i k : Nat) : upd2 (rowsTo D f i k) i k (D i k) = rowsTo D f i (k + 1) := by
  funext a c
  unfold upd2 rowsTo
  by_cases h : a = i ∧ c = k
  · obtain ⟨rfl, rfl⟩ := h
    simp
  · rw [if_neg h]
    have e : (a < i ∨ (a = i ∧ c < k)) ↔ (a < i ∨ (a = i ∧ c < k + 1)) := by omega
    simp only [e]
theorem rowsTo_next (D f : Nat → Nat → Int) (n : Int) (i : Nat) : sqA n (rowsTo D f i 4) = sqA n (rowsTo D f (i + 1) 0) := by
  refine sqA_congr fun a c ha hc => ?_
  unfold rowsTo
  have e : (a < i ∨ (a = i ∧ c < 4)) ↔ (a < i + 1 ∨ (a = i + 1 ∧ c < 0)) := by omega
  simp only [e]
theorem rowsTo_zero (D f : Nat → Nat → Int) : rowsTo D f 0 0 = f := by
  funext a c
  unfold rowsTo
  rw [if_neg (by omega)]
theorem rowsTo_end (D f : Nat → Nat → Int) (n : Int) : sqA n (rowsTo D f 4 0) = sqA n D := by
  refine sqA_congr fun a c ha hc => ?_
  unfold rowsTo
  rw [if_pos (by omega)]

/-- 1 in the first n rows and columns -/
def onesF (n : Nat) : Nat → Nat → Int := fun a c => if a < n ∧ c < n then 1 else 0
def colOne (n : Nat) : Nat → Nat → Int := fun _ c => if c < n then 1 else 0
theorem ones_next (n i : Nat) : sqA n (rowsTo (colOne n) (fun _ _ => 0) i n) = sqA n (rowsTo (colOne n) (fun _ _ => 0) (i + 1) 0) := by
  refine sqA_congr fun a c ha hc => ?_
  unfold rowsTo colOne
  by_cases h : c < n
  · have e : (a < i ∨ (a = i ∧ c < n)) ↔ (a < i + 1 ∨ (a = i + 1 ∧ c < 0)) := by omega
    simp only [e]
  · rw [if_neg h]
    simp
theorem ones_end (n : Nat) : rowsTo (colOne n) (fun _ _ => 0) n 0 = onesF n := by
  funext a c
  unfold rowsTo onesF colOne
  by_cases h : c < n
  · have e : (a < n ∨ (a = n ∧ c < 0)) ↔ (a < n ∧ c < n) := by omega
    simp only [e, if_pos h]
  · rw [if_neg h, if_neg (by omega : ¬ (a < n ∧ c < n))]
    simp

end Go.Proofs.Ytnejalefpenbfaa

/- A row of the program's squares cut; a square as a slice of slices. -/
namespace Go.Proofs.Ytnejalefpenbfaa
open Go.RowKit
/-- the first n rows and columns -/
def matOf (n : Nat) (f : Nat → Nat → Int) : List (List Int) := (List.range n).map fun i => (List.range n).map (f i)
theorem matOf_length (n : Nat) (f : Nat → Nat → Int) : (matOf n f).length = n := by simp [matOf]
theorem matOf_at (n : Nat) (f : Nat → Nat → Int) (i : Nat) (h : i < (matOf n f).length) : (matOf n f)[i] = (List.range n).map (f i) := by simp [matOf]
theorem row_take (c : Nat → Int) (n : Nat) (hn : n ≤ 4) : ([c 0, c 1, c 2, c 3] : List Int).take n = (List.range n).map c := by
  rcases (by omega : n = 0 ∨ n = 1 ∨ n = 2 ∨ n = 3 ∨ n = 4) with rfl | rfl | rfl | rfl | rfl <;> rfl
/-- the cells of a row of a square, as they are asked for by the library's functions -/
theorem Arr.rowCells {w : World} {B : Nat} {T : TypeId} {b : Nat} {n : Int} {f : Nat → Nat → Int} (h : Arr w B T b (sqA n f)) (i : Nat) (hi : i < 4) : ∀ j, j < ([f i 0, f i 1, f i 2, f i 3] : List Int).length → w.cell? ⟨b, 1 + i * 4 + j, none⟩ = some (.int .i64 (([f i 0, f i 1, f i 2, f i 3] : List Int).getD j 0)) := by
  intro j hj
  have hj4 : j < 4 := by simpa using hj
  rw [h.cell _ _ (sqA_get n f i j hi hj4)]
  rcases four_cases hj4 with rfl | rfl | rfl | rfl <;> rfl

end Go.Proofs.Ytnejalefpenbfaa

/- l04Square and TraceOf of the model. Conditions: lengths that an int holds. -/
namespace Go.Proofs.Ytnejalefpenbfaa
open Go.RowKit
/-- a row of a square matrix, cell by cell -/
theorem sq_row {w : World} {v : Value} {m : List (List Int)} (h : Mat w v m) (hs : sqB m = true) : ∃ b off cap, v = .slice (some ⟨b, off, none⟩) m.length cap ∧ m.length ≤ cap ∧ ∀ k, k < m.length → ∃ b2 off2 cap2, w.cell? ⟨b, off + k, none⟩ = some (.slice (some ⟨b2, off2, none⟩) m.length cap2) ∧ m.length ≤ cap2 ∧ cap2 ≤ maxLen ∧ ∀ j, j < m.length → w.cell? ⟨b2, off2 + j, none⟩ = some (.int .i64 (at2 m k j)) := by
  obtain ⟨h1, h4, h5, _⟩ := sq_parts hs
  obtain ⟨b, off, cap, e, q1, q2, hr⟩ := mat_rows h (by omega)
  refine ⟨b, off, cap, e, q1, fun k hk => ?_⟩
  obtain ⟨u, g1, ⟨A, cap2, e2, c1, c2, h2⟩⟩ := hr k hk
  rw [ints_length, h5 k hk] at e2 c1
  replace h2 := h2.resolve_left (by
    intro e
    have := congrArg List.length e
    rw [ints_length, h5 k hk] at this
    simp only [List.length_nil] at this
    omega)
  obtain ⟨b2, off2, rfl, h2⟩ := h2
  refine ⟨b2, off2, cap2, by rw [g1, e2], c1, c2, fun j hj => ?_⟩
  have hj' : j < m[k].length := by rw [h5 k hk]; exact hj
  rw [at2_eq m k j hk hj']
  exact ints_at h2 j hj'

theorem at2_small {m : List (List Int)} (hs : sqB m = true) (i k : Nat) (hi : i < m.length) (hk : k < m.length) : -100 ≤ at2 m i k ∧ at2 m i k ≤ 100 := by
  obtain ⟨_, _, h5, h6⟩ := sq_parts hs
  have hk' : k < m[i].length := by rw [h5 i hi]; exact hk
  rw [at2_eq m i k hi hk']
  exact h6 i hi k hk'
theorem trTo_bound {m : List (List Int)} (hs : sqB m = true) : ∀ k, k ≤ m.length → -(100 * k : Int) ≤ trTo m k ∧ trTo m k ≤ 100 * k
  | 0, _ => by simp [trTo]
  | k + 1, h => by
    have ih := trTo_bound hs k (by omega)
    have := at2_small hs k k (by omega) (by omega)
    unfold trTo
    omega

end Go.Proofs.Ytnejalefpenbfaa

/- A slice of slices read into a square of the program; its trace. Conditions: lengths of at most 2^20. -/
namespace Go.Proofs.Ytnejalefpenbfaa
open Go.RowKit

theorem foldl_min_ge (L : Int) : ∀ (zs : List Int) (a : Int), L ≤ zs.foldl min a ↔ L ≤ a ∧ ∀ x ∈ zs, L ≤ x
  | [], a => by simp
  | z :: zs, a => by
    rw [List.foldl_cons, foldl_min_ge L zs (min a z)]
    simp only [List.mem_cons, forall_eq_or_imp]
    exact ⟨fun h => ⟨by omega, by omega, h.2⟩, fun h => ⟨by omega, h.2.2⟩⟩
theorem foldl_max_le (L : Int) : ∀ (zs : List Int) (a : Int), zs.foldl max a ≤ L ↔ a ≤ L ∧ ∀ x ∈ zs, x ≤ L
  | [], a => by simp
  | z :: zs, a => by
    rw [List.foldl_cons, foldl_max_le L zs (max a z)]
    simp only [List.mem_cons, forall_eq_or_imp]
    exact ⟨fun h => ⟨by omega, by omega, h.2⟩, fun h => ⟨by omega, h.2.2⟩⟩
theorem minOf_ge (L : Int) (zs : List Int) (h : 0 < zs.length) : L ≤ Lib.minOf zs ↔ ∀ x ∈ zs, L ≤ x := by
  unfold Lib.minOf
  rw [foldl_min_ge]
  cases zs with
  | nil => simp at h
  | cons z zs => simp
theorem maxOf_le (L : Int) (zs : List Int) (h : 0 < zs.length) : Lib.maxOf zs ≤ L ↔ ∀ x ∈ zs, x ≤ L := by
  unfold Lib.maxOf
  rw [foldl_max_le]
  cases zs with
  | nil => simp at h
  | cons z zs => simp
theorem rowOk_iff (n : Nat) (r : List Int) (hn : r.length = n) (h : 0 < n) : rowOk n r = true ↔ -100 ≤ Lib.minOf r ∧ Lib.maxOf r ≤ 100 := by
  rw [minOf_ge _ _ (by omega), maxOf_le _ _ (by omega)]
  unfold rowOk
  simp only [hn, decide_true, Bool.true_and, List.all_eq_true, Bool.and_eq_true, decide_eq_true_eq]
  exact ⟨fun h => ⟨fun x hx => (h x hx).1, fun x hx => (h x hx).2⟩, fun h x hx => ⟨h.1 x hx, h.2 x hx⟩⟩
/-- n numbers written from column o on into row i -/
def putSeg (f : Nat → Nat → Int) (i o n : Nat) (g : Nat → Int) : Nat → Nat → Int := fun a c => if a = i ∧ o ≤ c ∧ c < o + n then g (c - o) else f a c
def numsTo (g : Nat → Int) (n : Nat) : List Value := (List.range n).map fun c => .int .i64 (g c)
theorem numsTo_length (g : Nat → Int) (n : Nat) : (numsTo g n).length = n := by simp [numsTo]
theorem numsTo_at (g : Nat → Int) (n j : Nat) (u : Value) (h : (numsTo g n)[j]? = some u) : j < n ∧ u = .int .i64 (g j) := by
  obtain ⟨h1, h2⟩ := List.getElem?_eq_some_iff.1 h
  rw [numsTo_length] at h1
  refine ⟨h1, ?_⟩
  rw [← h2]
  simp [numsTo]
theorem sqA_seg (N : Int) (f : Nat → Nat → Int) (i o n : Nat) (g : Nat → Int) (hi : i < 4) (ho : o + n ≤ 4) : (sqA N f).toList.take (1 + i * 4 + o) ++ (numsTo g n ++ (sqA N f).toList.drop (1 + i * 4 + o + n)) = (sqA N (putSeg f i o n g)).toList := by
  rcases (by omega : n = 0 ∨ n = 1 ∨ n = 2 ∨ n = 3 ∨ n = 4) with rfl | rfl | rfl | rfl | rfl <;>
  rcases (by omega : o = 0 ∨ o = 1 ∨ o = 2 ∨ o = 3 ∨ o = 4) with rfl | rfl | rfl | rfl | rfl <;> first
    | (exfalso; omega)
    | (rcases four_cases hi with rfl | rfl | rfl | rfl <;> rfl)
/-- copy into a row of a square that the call owns -/
theorem copy_arr {P : Program} {w : World} {ops : Array Oper} {rest : List Oper} {o : Oper} {a : Act} {Q : Exit → Act → World → Prop} (hgd : o.guard = none) (d s : Operand) (dT sT : TypeId)
    (ho : o.op = .call { callee := .builtin .copy, args := #[d, s], argTypes := #[dT, sT] }) (elem : TypeId) (hu : P.underlying dT = some (.slice elem)) (hsz : (P.info? elem).map (·.size) = some 1)
    (B b off dLen dCap : Nat) (T : TypeId) (ad : Addr) (sLen sCap : Nat) (hd : a.eval d = .slice (some ⟨b, off, none⟩) dLen dCap) (hs : a.eval s = .slice (some ad) sLen sCap)
    (c c' : Array Value) (hc : Arr w B T b c) (g : Nat → Int) (n : Nat) (hn : n = Nat.min sLen dLen) (hsrc : ∀ j, j < n → w.cell? (ad.add j) = some (.int .i64 (g j))) (hfit : off + n ≤ c.size)
    (he : c.toList.take off ++ (numsTo g n ++ c.toList.drop (off + n)) = c'.toList)
    (h : wpList P ops Q rest (a.put o.dst (goInt n)) (w.setRow b c')) : wpList P ops Q (o :: rest) a w := by
  refine wpList_copy_own hgd d s dT sT ho elem hu hsz b off dLen dCap ad sLen sCap hd hs c T hc.heap (numsTo g n) (by rw [numsTo_length, hn]) (fun j u hj => ?_) (by rw [numsTo_length]; exact hfit) (fun u hu => ?_) ?_
  · obtain ⟨h1, rfl⟩ := numsTo_at g n j u hj
    exact hsrc j h1
  · obtain ⟨j, hj, rfl⟩ := List.mem_map.1 hu
    rfl
  · rw [numsTo_length, he]
    simpa using h
/-- a function whose results are an array or a struct in a variable, and one more -/
theorem post_arr2 {P : Program} {fn : Func} {R : Ending → World → Prop} {a : Act} {w : World} {B : Nat} {T : TypeId} {b n p q : Nat} {c : Array Value} {u : Value} (ty : TypeId) (hr : fn.results = #[.cell p ty, .tmp q]) (hp : a.tmps.getD p undef = .pointer (some ⟨b, 0, none⟩))
    (hq : a.tmps.getD q undef = u) (hc : Arr w B T b c) (ht : RowType P ty n) (hn : c.size = n) (hd : a.defers = []) (h : R (.returned (.tuple #[.agg c, u])) w) : bodyPost P fn R .ret a w := by
  refine bodyPost_ret (v := .tuple #[.agg c, u]) ?_ hd h
  have hp' : a.tmps[p]?.getD undef = .pointer (some ⟨b, 0, none⟩) := by rw [← Array.getD_eq_getD_getElem?]; exact hp
  have hq' : a.tmps[q]?.getD undef = u := by rw [← Array.getD_eq_getD_getElem?]; exact hq
  simp only [results, hr]
  simp [asAddr, hp', hq', result_arr (P := P) ty hc ht hn]
/-- the rows before k of a matrix -/
def rowsM (m : List (List Int)) (k : Nat) : Nat → Nat → Int := fun a c => if a < k then at2 m a c else 0
theorem rowsM_zero (m : List (List Int)) : rowsM m 0 = fun _ _ => 0 := by
  funext a c
  simp [rowsM]
theorem at2_out (m : List (List Int)) (a c : Nat) (h : m.length ≤ a) : at2 m a c = 0 := by
  unfold at2
  rw [List.getD_eq_getElem?_getD (l := m), List.getElem?_eq_none h]
  rfl
theorem at2_outc (m : List (List Int)) (n a c : Nat) (ha : a < m.length) (h : m[a].length = n) (hc : n ≤ c) : at2 m a c = 0 := by
  unfold at2
  rw [List.getD_eq_getElem?_getD (l := m), List.getElem?_eq_getElem ha, Option.getD_some, List.getD_eq_getElem?_getD, List.getElem?_eq_none (by omega)]
  rfl
theorem rowsM_succ (m : List (List Int)) (n k : Nat) (hk : k < m.length) (h : m[k].length = n) : putSeg (rowsM m k) k 0 n (fun c => at2 m k c) = rowsM m (k + 1) := by
  funext a c
  unfold putSeg rowsM
  by_cases ha : a = k
  · subst ha
    by_cases hc : c < n
    · rw [if_pos (by omega), if_pos (by omega), Nat.sub_zero]
    · rw [if_neg (by omega), if_neg (by omega), if_pos (by omega), at2_outc m n a c hk h (by omega)]
  · rw [if_neg (by omega)]
    have e : (a < k) ↔ (a < k + 1) := by omega
    simp only [e]
theorem rowsM_end (m : List (List Int)) : rowsM m m.length = at2 m := by
  funext a c
  unfold rowsM
  by_cases h : a < m.length
  · rw [if_pos h]
  · rw [if_neg h, at2_out m a c (by omega)]
/-- what squareOf gives -/
def SquareSaid (m : List (List Int)) (w : World) (e : Ending) (w' : World) : Prop :=
  e = .returned (.tuple #[.agg (if sqB m = true then sqA m.length (at2 m) else sqA 0 fun _ _ => 0), .bool (sqB m)]) ∧ Below w.heap.size w w'
theorem squareSaid_no {m : List (List Int)} {w w' : World} (h : sqB m = false) (hb : Below w.heap.size w w') : SquareSaid m w (.returned (.tuple #[.agg (sqA 0 fun _ _ => 0), .bool false])) w' :=
  ⟨by rw [h, if_neg (by decide)], hb⟩

end Go.Proofs.Ytnejalefpenbfaa
