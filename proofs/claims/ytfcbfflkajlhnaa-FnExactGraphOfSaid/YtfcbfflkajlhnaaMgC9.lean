/- Texts put together. -/
import Derived.Test.YtfcbfflkajlhnaaMgC7
import Derived.Test.YtfcbfflkajlhnaaMgC8
import Derived.Test.YtfcbfflkajlhnaaMgC4
import Derived.Test.YtfcbfflkajlhnaaMgC1
/- For the laws over ints and matrices: the helpers' contracts with one kind of end; arguments opened. -/
namespace Go.Proofs.Ytfcbfflkajlhnaa
open Go.ChangeShapes Go.WideShapes Go.RowKit

theorem eqIntS_b (l : List Int) (v1 v2 : Value) (w : World) (h1 : Lst w v1 (ints l)) (h2 : Lst w v2 (ints l)) :
    Calls Try.prog 101 #[v1, v2] w fun e w' => e = .returned (.bool true) ∧ Below w.heap.size w w' :=
  (eqIntS_same l v1 v2 w h1 h2).mono (by rintro e w' ⟨h, n, rfl⟩; exact ⟨h, below_drewN (Below.refl _ _) n⟩)
theorem eqStringS_b (l : List ByteArray) (v1 v2 : Value) (w : World) (h1 : Lst w v1 (strs l)) (h2 : Lst w v2 (strs l)) :
    Calls Try.prog 48 #[v1, v2] w fun e w' => e = .returned (.bool true) ∧ Below w.heap.size w w' :=
  (eqStringS_same l v1 v2 w h1 h2).mono (by rintro e w' ⟨h, n, rfl⟩; exact ⟨h, below_drewN (Below.refl _ _) n⟩)
theorem heldIntS_b (v : Value) (k : Int) (n : Nat) (w : World) (hk : 0 ≤ k) (hkn : k + n ≤ 9223372036854775807) (h1 : Lst w v (ints (upto k n))) :
    Calls Try.prog 103 #[v, .int .i64 k] w fun e w' => e = .returned (.int .i64 (k + n)) ∧ Below w.heap.size w w' :=
  (heldIntS_marks v k n w hk hkn h1).mono (by rintro e w' ⟨h, n, rfl⟩; exact ⟨h, below_drewN (Below.refl _ _) n⟩)
theorem eqIntSS_b (m : List (List Int)) (v1 v2 : Value) (w : World) (h1 : Mat w v1 m) (h2 : Mat w v2 m) :
    Calls Try.prog 58 #[v1, v2] w fun e w' => e = .returned (.bool true) ∧ Below w.heap.size w w' :=
  (eqIntSS_same m v1 v2 w h1 h2).mono (by rintro e w' ⟨h, n, rfl⟩; exact ⟨h, below_drewN (Below.refl _ _) n⟩)
theorem heldIntSS_b (v : Value) (k : Int) (ns : List Nat) (w : World) (hk : 0 ≤ k) (hkn : k + sumN ns ≤ 1099511627776) (hn : ns.length ≤ 1048576) (h1 : Mat w v (marksM k ns)) :
    Calls Try.prog 60 #[v, .int .i64 k] w fun e w' => e = .returned (.int .i64 (k + sumN ns)) ∧ Below w.heap.size w w' :=
  (heldIntSS_marks v k ns w hk hkn hn h1).mono (by rintro e w' ⟨h, n, rfl⟩; exact ⟨h, below_drewN (Below.refl _ _) n⟩)
theorem len_le_sumN : ∀ {m : List (List Int)} {x : List Int}, x ∈ m → x.length ≤ sumN (m.map List.length)
  | y :: m, x, h => by
    unfold sumN
    rw [List.map_cons, List.sum_cons]
    rcases List.mem_cons.1 h with rfl | h
    · omega
    · have := len_le_sumN h
      unfold sumN at this
      omega
theorem szM_use {m : List (List Int)} {r left : Int} (h : (m.length : Int) + sumN (lens m) + r = left) (h0 : 0 ≤ r) (h1 : left ≤ 1048576) : m.length ≤ 1048576 ∧ (∀ x ∈ m, x.length ≤ 1048576) ∧ sumN (m.map List.length) ≤ 1048576 := by
  have e : sumN (lens m) = sumN (m.map List.length) := rfl
  rw [e] at h
  exact ⟨by omega, fun x hx => by have := len_le_sumN hx; omega, by omega⟩
theorem KeepsOut.cell {lo hi : Nat} {w w' : World} {a : Nat} {u : Value} (k : KeepsOut lo hi w w') (h : w.cell? ⟨a, 0, none⟩ = some u) (hne : a < lo ∨ hi ≤ a) : w'.cell? ⟨a, 0, none⟩ = some u := by
  have hlt := World.block_lt_of_cell? w _ h
  have e := k.2.2.2.2 a hlt hne
  rw [← h]
  unfold World.cell?
  rw [e]
theorem KeepsOut.size {lo hi : Nat} {w w' : World} (k : KeepsOut lo hi w w') : w.heap.size ≤ w'.heap.size := k.2.2.2.1
theorem ints_arg {H : Type} {enc : TypeId × Value → H} {P : Program} {w : World} {base : Nat} {r : Reach} {b0 : Nat} {t e : TypeId} {v : Value} {d : DataW H} {ps : List MemPlace} (ht : P.underlying t = some (.slice e)) (he : P.underlying e = some (.int .i64)) (hc : P.cellsOf e = 1)
    (hval : Value.okWide P w r b0 t v) (h : DataW.Trod enc P w base (fun _ => true) true t v d ps) : ∃ l : List Int, Lst w v (ints l) ∧ ∀ z ∈ l, (Lit.int .i64 z).wf = true := by
  obtain ⟨A, ln, cp, rfl⟩ := okWide_slice ht hval
  obtain ⟨fuel, hf⟩ := h
  exact ints_cell (y := (d, ps)) ht he hc hf
theorem mat_arg {H : Type} {enc : TypeId × Value → H} {P : Program} {w : World} {base : Nat} {r : Reach} {b0 : Nat} {t e q : TypeId} {v : Value} {d : DataW H} {ps : List MemPlace} (ht : P.underlying t = some (.slice e)) (he : P.underlying e = some (.slice q)) (hq : P.underlying q = some (.int .i64)) (ce : P.cellsOf e = 1) (cq : P.cellsOf q = 1)
    (hval : Value.okWide P w r b0 t v) (h : DataW.Trod enc P w base (fun _ => true) true t v d ps) : ∃ m : List (List Int), Mat w v m ∧ (∀ r ∈ m, ∀ z ∈ r, (Lit.int .i64 z).wf = true) ∧ m.length ≤ 9223372036854775807 := by
  obtain ⟨A, ln, cp, rfl⟩ := okWide_slice ht hval
  obtain ⟨fuel, hf⟩ := h
  exact mat_cell (y := (d, ps)) ht he hq ce cq hf
theorem sum_rect : ∀ {m : List (List Int)} {c : Nat}, (∀ x ∈ m, x.length ≤ c) → sumN (m.map List.length) ≤ c * m.length
  | [], _, _ => by simp [sumN]
  | y :: m, c, h => by
    have h1 := h y (List.mem_cons_self ..)
    have h2 := sum_rect (m := m) (c := c) (fun x hx => h x (List.mem_cons_of_mem _ hx))
    unfold sumN at h2 ⊢
    rw [List.map_cons, List.sum_cons, List.length_cons, Nat.mul_succ]
    omega
end Go.Proofs.Ytfcbfflkajlhnaa

/- Plain facts on the digits of a text. No program in it. -/
namespace Go.Proofs.Ytfcbfflkajlhnaa
open Go.RowKit

def isDigB (c : UInt8) : Bool := decide (48 ≤ c.toNat) && decide (c.toNat ≤ 57)
def isLowB (c : UInt8) : Bool := decide (97 ≤ c.toNat) && decide (c.toNat ≤ 122)
def digs (l : List UInt8) : Bool := l.all isDigB && !l.isEmpty

theorem take_snoc (s : ByteArray) (k : Nat) (h : k < s.size) : s.data.toList.take (k + 1) = s.data.toList.take k ++ [s[k]] := by
  rw [List.take_succ_eq_append_getElem (by simpa using h)]; rfl
theorem take_all (s : ByteArray) (k : Nat) (h : s.size ≤ k) : s.data.toList.take k = s.data.toList := List.take_of_length_le (by simpa using h)
theorem all_snoc {p : UInt8 → Bool} (s : ByteArray) (k : Nat) (h : k < s.size) (ha : (s.data.toList.take k).all p = true) (hp : p s[k] = true) : (s.data.toList.take (k + 1)).all p = true := by
  rw [take_snoc s k h, List.all_append, ha]; simp [hp]
theorem all_not {p : UInt8 → Bool} (s : ByteArray) (k : Nat) (h : k < s.size) (hp : p s[k] = false) : s.data.toList.all p = false := by
  have hm : s[k] ∈ s.data.toList := by
    have : s[k] = s.data.toList[k]'(by simpa using h) := rfl
    rw [this]; exact List.getElem_mem _
  exact List.all_eq_false.2 ⟨_, hm, by simp [hp]⟩
theorem digs_no (s : ByteArray) (k : Nat) (h : k < s.size) (hp : isDigB s[k] = false) : digs s.data.toList = false := by
  unfold digs; rw [all_not s k h hp]; rfl
theorem digs_end (s : ByteArray) (ha : (s.data.toList.take s.size).all isDigB = true) : digs s.data.toList = decide (0 < s.size) := by
  rw [take_all s _ (Nat.le_refl _)] at ha
  unfold digs; rw [ha]
  obtain ⟨⟨l⟩⟩ := s
  cases l <;> simp [ByteArray.size]
end Go.Proofs.Ytfcbfflkajlhnaa
