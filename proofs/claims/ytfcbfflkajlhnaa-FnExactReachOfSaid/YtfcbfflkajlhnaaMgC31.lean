/- Texts put together. -/
import Derived.Test.YtfcbfflkajlhnaaMgC29
import Derived.Test.YtfcbfflkajlhnaaMgC30
import Derived.Test.YtfcbfflkajlhnaaMgC15
import Derived.Test.YtfcbfflkajlhnaaMgC5
/- A slice of slices read into a square of the program; its trace. Conditions: lengths of at most 2^20. -/
namespace Go.Proofs.Ytfcbfflkajlhnaa
open Go.RowKit

theorem foldl_min_ge (L : Int) : ∀ (zs : List Int) (a : Int), L ≤ zs.foldl min a ↔ L ≤ a ∧ ∀ x ∈ zs, L ≤ x
  | [], a => by simp
  | z :: zs, a => by
    rw [List.foldl_cons, foldl_min_ge L zs (min a z)]
    simp only [List.mem_cons, forall_eq_or_imp]
    exact ⟨fun h => ⟨by omega, by omega, h.2⟩, fun h => ⟨by omega, h.2.2⟩⟩
theorem foldl_max_le (L : Int) : ∀ (zs : List Int) (a : Int), zs.foldl max a ≤ L ↔ a ≤ L ∧ ∀ x ∈ zs, x ≤ L
  | [], a => by simp
  | z :: zs, a => by
    rw [List.foldl_cons, foldl_max_le L zs (max a z)]
    simp only [List.mem_cons, forall_eq_or_imp]
    exact ⟨fun h => ⟨by omega, by omega, h.2⟩, fun h => ⟨by omega, h.2.2⟩⟩
theorem minOf_ge (L : Int) (zs : List Int) (h : 0 < zs.length) : L ≤ Lib.minOf zs ↔ ∀ x ∈ zs, L ≤ x := by
  unfold Lib.minOf
  rw [foldl_min_ge]
  cases zs with
  | nil => simp at h
  | cons z zs => simp
theorem maxOf_le (L : Int) (zs : List Int) (h : 0 < zs.length) : Lib.maxOf zs ≤ L ↔ ∀ x ∈ zs, x ≤ L := by
  unfold Lib.maxOf
  rw [foldl_max_le]
  cases zs with
  | nil => simp at h
  | cons z zs => simp
theorem rowOk_iff (n : Nat) (r : List Int) (hn : r.length = n) (h : 0 < n) : rowOk n r = true ↔ -100 ≤ Lib.minOf r ∧ Lib.maxOf r ≤ 100 := by
  rw [minOf_ge _ _ (by omega), maxOf_le _ _ (by omega)]
  unfold rowOk
  simp only [hn, decide_true, Bool.true_and, List.all_eq_true, Bool.and_eq_true, decide_eq_true_eq]
  exact ⟨fun h => ⟨fun x hx => (h x hx).1, fun x hx => (h x hx).2⟩, fun h x hx => ⟨h.1 x hx, h.2 x hx⟩⟩
/-- n numbers written from column o on into row i -/
def putSeg (f : Nat → Nat → Int) (i o n : Nat) (g : Nat → Int) : Nat → Nat → Int := fun a c => if a = i ∧ o ≤ c ∧ c < o + n then g (c - o) else f a c
def numsTo (g : Nat → Int) (n : Nat) : List Value := (List.range n).map fun c => .int .i64 (g c)
theorem numsTo_length (g : Nat → Int) (n : Nat) : (numsTo g n).length = n := by simp [numsTo]
theorem numsTo_at (g : Nat → Int) (n j : Nat) (u : Value) (h : (numsTo g n)[j]? = some u) : j < n ∧ u = .int .i64 (g j) := by
  obtain ⟨h1, h2⟩ := List.getElem?_eq_some_iff.1 h
  rw [numsTo_length] at h1
  refine ⟨h1, ?_⟩
  rw [← h2]
  simp [numsTo]
theorem sqA_seg (N : Int) (f : Nat → Nat → Int) (i o n : Nat) (g : Nat → Int) (hi : i < 4) (ho : o + n ≤ 4) : (sqA N f).toList.take (1 + i * 4 + o) ++ (numsTo g n ++ (sqA N f).toList.drop (1 + i * 4 + o + n)) = (sqA N (putSeg f i o n g)).toList := by
  rcases (by omega : n = 0 ∨ n = 1 ∨ n = 2 ∨ n = 3 ∨ n = 4) with rfl | rfl | rfl | rfl | rfl <;>
  rcases (by omega : o = 0 ∨ o = 1 ∨ o = 2 ∨ o = 3 ∨ o = 4) with rfl | rfl | rfl | rfl | rfl <;> first
    | (exfalso; omega)
    | (rcases four_cases hi with rfl | rfl | rfl | rfl <;> rfl)
/-- copy into a row of a square that the call owns -/
theorem copy_arr {P : Program} {w : World} {ops : Array Oper} {rest : List Oper} {o : Oper} {a : Act} {Q : Exit → Act → World → Prop} (hgd : o.guard = none) (d s : Operand) (dT sT : TypeId)
    (ho : o.op = .call { callee := .builtin .copy, args := #[d, s], argTypes := #[dT, sT] }) (elem : TypeId) (hu : P.underlying dT = some (.slice elem)) (hsz : (P.info? elem).map (·.size) = some 1)
    (B b off dLen dCap : Nat) (T : TypeId) (ad : Addr) (sLen sCap : Nat) (hd : a.eval d = .slice (some ⟨b, off, none⟩) dLen dCap) (hs : a.eval s = .slice (some ad) sLen sCap)
    (c c' : Array Value) (hc : Arr w B T b c) (g : Nat → Int) (n : Nat) (hn : n = Nat.min sLen dLen) (hsrc : ∀ j, j < n → w.cell? (ad.add j) = some (.int .i64 (g j))) (hfit : off + n ≤ c.size)
    (he : c.toList.take off ++ (numsTo g n ++ c.toList.drop (off + n)) = c'.toList)
    (h : wpList P ops Q rest (a.put o.dst (goInt n)) (w.setRow b c')) : wpList P ops Q (o :: rest) a w := by
  refine wpList_copy_own hgd d s dT sT ho elem hu hsz b off dLen dCap ad sLen sCap hd hs c T hc.heap (numsTo g n) (by rw [numsTo_length, hn]) (fun j u hj => ?_) (by rw [numsTo_length]; exact hfit) (fun u hu => ?_) ?_
  · obtain ⟨h1, rfl⟩ := numsTo_at g n j u hj
    exact hsrc j h1
  · obtain ⟨j, hj, rfl⟩ := List.mem_map.1 hu
    rfl
  · rw [numsTo_length, he]
    simpa using h
/-- a function whose results are an array or a struct in a variable, and one more -/
theorem post_arr2 {P : Program} {fn : Func} {R : Ending → World → Prop} {a : Act} {w : World} {B : Nat} {T : TypeId} {b n p q : Nat} {c : Array Value} {u : Value} (ty : TypeId) (hr : fn.results = #[.cell p ty, .tmp q]) (hp : a.tmps.getD p undef = .pointer (some ⟨b, 0, none⟩))
    (hq : a.tmps.getD q undef = u) (hc : Arr w B T b c) (ht : RowType P ty n) (hn : c.size = n) (hd : a.defers = []) (h : R (.returned (.tuple #[.agg c, u])) w) : bodyPost P fn R .ret a w := by
  refine bodyPost_ret (v := .tuple #[.agg c, u]) ?_ hd h
  have hp' : a.tmps[p]?.getD undef = .pointer (some ⟨b, 0, none⟩) := by rw [← Array.getD_eq_getD_getElem?]; exact hp
  have hq' : a.tmps[q]?.getD undef = u := by rw [← Array.getD_eq_getD_getElem?]; exact hq
  simp only [results, hr]
  simp [asAddr, hp', hq', result_arr (P := P) ty hc ht hn]
/-- the rows before k of a matrix -/
def rowsM (m : List (List Int)) (k : Nat) : Nat → Nat → Int := fun a c => if a < k then at2 m a c else 0
theorem rowsM_zero (m : List (List Int)) : rowsM m 0 = fun _ _ => 0 := by
  funext a c
  simp [rowsM]
theorem at2_out (m : List (List Int)) (a c : Nat) (h : m.length ≤ a) : at2 m a c = 0 := by
  unfold at2
  rw [List.getD_eq_getElem?_getD (l := m), List.getElem?_eq_none h]
  rfl
theorem at2_outc (m : List (List Int)) (n a c : Nat) (ha : a < m.length) (h : m[a].length = n) (hc : n ≤ c) : at2 m a c = 0 := by
  unfold at2
  rw [List.getD_eq_getElem?_getD (l := m), List.getElem?_eq_getElem ha, Option.getD_some, List.getD_eq_getElem?_getD, List.getElem?_eq_none (by omega)]
  rfl
theorem rowsM_succ (m : List (List Int)) (n k : Nat) (hk : k < m.length) (h : m[k].length = n) : putSeg (rowsM m k) k 0 n (fun c => at2 m k c) = rowsM m (k + 1) := by
  funext a c
  unfold putSeg rowsM
  by_cases ha : a = k
  · subst ha
    by_cases hc : c < n
    · rw [if_pos (by omega), if_pos (by omega), Nat.sub_zero]
    · rw [if_neg (by omega), if_neg (by omega), if_pos (by omega), at2_outc m n a c hk h (by omega)]
  · rw [if_neg (by omega)]
    have e : (a < k) ↔ (a < k + 1) := by omega
    simp only [e]
theorem rowsM_end (m : List (List Int)) : rowsM m m.length = at2 m := by
  funext a c
  unfold rowsM
  by_cases h : a < m.length
  · rw [if_pos h]
  · rw [if_neg h, at2_out m a c (by omega)]
/-- what squareOf gives -/
def SquareSaid (m : List (List Int)) (w : World) (e : Ending) (w' : World) : Prop :=
  e = .returned (.tuple #[.agg (if sqB m = true then sqA m.length (at2 m) else sqA 0 fun _ _ => 0), .bool (sqB m)]) ∧ Below w.heap.size w w'
theorem squareSaid_no {m : List (List Int)} {w w' : World} (h : sqB m = false) (hb : Below w.heap.size w w') : SquareSaid m w (.returned (.tuple #[.agg (sqA 0 fun _ _ => 0), .bool false])) w' :=
  ⟨by rw [h, if_neg (by decide)], hb⟩

end Go.Proofs.Ytfcbfflkajlhnaa

/- The model's CountLetter, CountsOf, ShiftWord, BeforeWord and IsFactor. Condition: texts of at most 2^20 bytes. -/
namespace Go.Proofs.Ytfcbfflkajlhnaa
open Go.RowKit

/-- what CountLetter is to return -/
def countR (s t : ByteArray) : Int := if h : wordB s = true ∧ t.size = 1 ∧ wordB t = true then (cnt s.data.toList (t[0]'(by omega)) : Int) else -1

/-- what CountsOf is to return -/
def countsR (s : ByteArray) : List Int := if wordB s = true then [(cnt s.data.toList 97 : Int), (cnt s.data.toList 98 : Int), (cnt s.data.toList 99 : Int), (cnt s.data.toList 100 : Int)] else []

theorem countsR_le (s : ByteArray) : (countsR s).length ≤ 4 := by
  unfold countsR; split <;> simp

/-- what BeforeWord is to return -/
def beforeR (s t : ByteArray) : Bool := wordB s && (wordB t && Op.bytesLess s.toList t.toList)
/-- what ShiftWord is to return -/
def shiftR (s : ByteArray) (k : Int) : ByteArray := if wordB s = true ∧ 0 ≤ k ∧ k ≤ s.size then s.extract k.toNat s.size ++ s.extract 0 k.toNat else ⟨#[]⟩
end Go.Proofs.Ytfcbfflkajlhnaa
