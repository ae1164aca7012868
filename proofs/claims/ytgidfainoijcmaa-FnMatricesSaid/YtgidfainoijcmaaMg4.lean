/- Texts put together. -/
import Derived.Test.YtgidfainoijcmaaMg3
import Derived.OwnWalk
import Derived.Lib.SmallJoins
import Derived.Deep.RegionWith
/- The matrix of a substitution, what becomes of counts, products, determinants. No program in it. -/
namespace Go.Proofs.Ytgidfainoijcmaa
open Go.RowKit

def letterN (i : Nat) : UInt8 := UInt8.ofNat (97 + i)
theorem letterN_toNat (i : Nat) (h : i ≤ 4) : (letterN i).toNat = 97 + i := by
  unfold letterN
  rw [UInt8.toNat_ofNat']
  omega
/-- row i of the matrix: how often the letter i stands in each image -/
def rowL (l : List ByteArray) (i : Nat) : List Int := l.map fun x => (cnt x.data.toList (letterN i) : Int)
def matL (l : List ByteArray) : List (List Int) := (List.range l.length).map (rowL l)
theorem rowL_length (l : List ByteArray) (i : Nat) : (rowL l i).length = l.length := by simp [rowL]
theorem matL_length (l : List ByteArray) : (matL l).length = l.length := by simp [matL]
theorem matL_at (l : List ByteArray) (i : Nat) (h : i < (matL l).length) : (matL l)[i] = rowL l i := by simp [matL]
theorem rowL_at (l : List ByteArray) (i k : Nat) (h : k < l.length) (h' : k < (rowL l i).length) : (rowL l i)[k] = (cnt l[k].data.toList (letterN i) : Int) := by simp [rowL]
theorem rowL_succ (l : List ByteArray) (i k : Nat) (h : k < l.length) : ints (rowL (l.take (k + 1)) i) = ints (rowL (l.take k) i) ++ [.int .i64 (cnt l[k].data.toList (letterN i) : Int)] := by
  unfold rowL
  rw [List.take_succ_eq_append_getElem h, List.map_append, List.map_cons, List.map_nil, ints_snoc]
/-- what MatrixOf is to return -/
def matR (l : List ByteArray) : List (List Int) := if substB l = true then matL l else []
theorem matR_le (l : List ByteArray) : (matR l).length ≤ 4 := by
  unfold matR; split
  · rename_i h; rw [matL_length]; exact (subst_parts h).2.1
  · simp
/-- the sum of the first k products -/
def dotTo (a b : List Int) : Nat → Int
  | 0 => 0
  | k + 1 => dotTo a b k + a.getD k 0 * b.getD k 0
end Go.Proofs.Ytgidfainoijcmaa

/- Square matrices, traces, products. No program in it. -/
namespace Go.Proofs.Ytgidfainoijcmaa
open Go.RowKit

def rowOk (n : Nat) (r : List Int) : Bool := decide (r.length = n) && r.all fun x => decide (-100 ≤ x) && decide (x ≤ 100)
/-- a square matrix with one to four rows and small numbers -/
def sqB (m : List (List Int)) : Bool := (decide (1 ≤ m.length) && decide (m.length ≤ 4)) && m.all (rowOk m.length)
theorem sq_len {m : List (List Int)} (h : ¬ (1 ≤ m.length ∧ m.length ≤ 4)) : sqB m = false := by
  unfold sqB
  have : (decide (1 ≤ m.length) && decide (m.length ≤ 4)) = false := by simpa using h
  rw [this, Bool.false_and]
theorem sq_no {m : List (List Int)} (k : Nat) (hk : k < m.length) (h : rowOk m.length m[k] = false) : sqB m = false := by
  unfold sqB
  rw [lall_no m k hk h, Bool.and_false]
theorem sq_yes {m : List (List Int)} (h1 : 1 ≤ m.length) (h2 : m.length ≤ 4) (ha : (m.take m.length).all (rowOk m.length) = true) : sqB m = true := by
  unfold sqB
  rw [lall_end m ha, decide_eq_true h1, decide_eq_true h2]
  rfl
theorem sq_parts {m : List (List Int)} (h : sqB m = true) : 1 ≤ m.length ∧ m.length ≤ 4 ∧ (∀ k (hk : k < m.length), m[k].length = m.length) ∧ (∀ k (hk : k < m.length) j (hj : j < m[k].length), -100 ≤ m[k][j] ∧ m[k][j] ≤ 100) := by
  unfold sqB at h
  simp only [Bool.and_eq_true, decide_eq_true_eq] at h
  have hr : ∀ k (hk : k < m.length), rowOk m.length m[k] = true := fun k hk => List.all_eq_true.1 h.2 _ (List.getElem_mem hk)
  refine ⟨h.1.1, h.1.2, fun k hk => ?_, fun k hk j hj => ?_⟩
  · have := hr k hk
    unfold rowOk at this
    rw [Bool.and_eq_true] at this
    simpa using this.1
  · have := hr k hk
    unfold rowOk at this
    rw [Bool.and_eq_true] at this
    have h2 := List.all_eq_true.1 this.2 _ (List.getElem_mem hj)
    simpa using h2
/-- the number in row i and column k -/
def at2 (m : List (List Int)) (i k : Nat) : Int := (m.getD i []).getD k 0
theorem at2_eq (m : List (List Int)) (i k : Nat) (hi : i < m.length) (hk : k < m[i].length) : at2 m i k = m[i][k] := by
  unfold at2
  rw [List.getD_eq_getElem?_getD, List.getD_eq_getElem?_getD, List.getElem?_eq_getElem hi]
  simp [hk]
def trTo (m : List (List Int)) : Nat → Int
  | 0 => 0
  | k + 1 => trTo m k + at2 m k k
/-- what TraceOf is to return -/
def trR (m : List (List Int)) : Int := if sqB m = true then trTo m m.length else 0

/-- the sum of the first products of a row and a column -/
def colTo (a b : List (List Int)) (i k : Nat) : Nat → Int
  | 0 => 0
  | j + 1 => colTo a b i k j + at2 a i j * at2 b j k
def mulRow (a b : List (List Int)) (i : Nat) : List Int := (List.range b.length).map fun k => colTo a b i k b.length
def mulM (a b : List (List Int)) : List (List Int) := (List.range a.length).map (mulRow a b)
def mulOk (a b : List (List Int)) : Bool := sqB a && (sqB b && decide (a.length = b.length))
/-- what MultiplyMatrices is to return -/
def mulR (a b : List (List Int)) : List (List Int) := if mulOk a b = true then mulM a b else []
theorem mulM_length (a b : List (List Int)) : (mulM a b).length = a.length := by simp [mulM]
theorem mulRow_length (a b : List (List Int)) (i : Nat) : (mulRow a b i).length = b.length := by simp [mulRow]
theorem mulM_at (a b : List (List Int)) (i : Nat) (h : i < (mulM a b).length) : (mulM a b)[i] = mulRow a b i := by simp [mulM]
theorem mulRow_take (a b : List (List Int)) (i k : Nat) (h : k < b.length) : ints ((mulRow a b i).take (k + 1)) = ints ((mulRow a b i).take k) ++ [.int .i64 (colTo a b i k b.length)] := by
  have hk : k < (mulRow a b i).length := by rw [mulRow_length]; exact h
  rw [List.take_succ_eq_append_getElem hk, ints_snoc]
  congr 3
  simp [mulRow]
theorem mulR_le (a b : List (List Int)) : (mulR a b).length ≤ 4 := by
  unfold mulR; split
  · rename_i h
    unfold mulOk at h
    rw [Bool.and_eq_true] at h
    rw [mulM_length]
    exact (sq_parts h.1).2.1
  · simp
theorem mul_bound {x y : Int} {B C : Int} (h1 : -B ≤ x ∧ x ≤ B) (h2 : -C ≤ y ∧ y ≤ C) : -(B * C) ≤ x * y ∧ x * y ≤ B * C := by
  have hB : 0 ≤ B := by omega
  have hC : 0 ≤ C := by omega
  have h3 : x.natAbs * y.natAbs ≤ B.toNat * C.toNat := Nat.mul_le_mul (by omega) (by omega)
  have h4 : (x * y).natAbs = x.natAbs * y.natAbs := Int.natAbs_mul x y
  have h5 : ((B.toNat * C.toNat : Nat) : Int) = B * C := by rw [Int.natCast_mul, Int.toNat_of_nonneg hB, Int.toNat_of_nonneg hC]
  rw [← h4] at h3
  rw [← h5]
  generalize B.toNat * C.toNat = M at h3
  omega
theorem colTo_bound {a b : List (List Int)} {i k : Nat} {B C : Int} (n : Nat) (h1 : ∀ j, j < n → -B ≤ at2 a i j ∧ at2 a i j ≤ B) (h2 : ∀ j, j < n → -C ≤ at2 b j k ∧ at2 b j k ≤ C) : ∀ j, j ≤ n → -(j * (B * C)) ≤ colTo a b i k j ∧ colTo a b i k j ≤ j * (B * C)
  | 0, _ => by simp [colTo]
  | j + 1, hj => by
    have ih := colTo_bound n h1 h2 j (by omega)
    have hb := mul_bound (h1 j (by omega)) (h2 j (by omega))
    have e : ((j + 1 : Nat) : Int) * (B * C) = j * (B * C) + B * C := by rw [Int.natCast_add, Int.add_mul]; simp
    rw [e]
    unfold colTo
    omega
end Go.Proofs.Ytgidfainoijcmaa

/- The laws' helpers on an argument that is a slice of ints: szIntS bounds it, toIntS copies it; and the argument opened to the list that it holds. -/
namespace Go.Proofs.Ytgidfainoijcmaa
open Go.ChangeShapes Go.WideShapes Go.RowKit

theorem cellsOf_int : Try.prog.cellsOf 3 = 1 := by kernel_rfl
/-- a slice of ints that came in, opened -/
theorem ints_cell {H : Type} {enc : TypeId × Value → H} {P : Program} {w : World} {base fuel : Nat} {t e : TypeId} {v : Value} {y : DataW H × List MemPlace} (ht : P.underlying t = some (.slice e)) (he : P.underlying e = some (.int .i64)) (hc : P.cellsOf e = 1)
    (hf : DataW.trod enc P w base (fun _ => true) true fuel t [v] = some y) : ∃ l : List Int, Lst w v (ints l) ∧ ∀ z ∈ l, (Lit.int .i64 z).wf = true := by
  obtain ⟨A, ln, cp, hv⟩ := Joins.slice_form ht hf
  injection hv with hv _
  subst hv
  rcases open_ints ht he hc hf with ⟨hcs, _⟩ | ⟨a, len, cap, ss, hcs, _, hl, hm, hlen, _, hcell, hwf⟩
  · simp at hcs
    obtain ⟨rfl, rfl, rfl⟩ := hcs
    exact ⟨[], ⟨none, 0, by simp [ints], by simp [ints], by simp [maxLen], .inl rfl⟩, by simp⟩
  · simp at hcs
    obtain ⟨rfl, rfl, rfl⟩ := hcs
    simp at hlen
    refine ⟨ss.take ln, ?_, fun z hz => hwf z (List.mem_of_mem_take hz)⟩
    refine ⟨some a, cp, by simp [ints, hlen, Nat.min_eq_left hl], by simp [ints, hlen]; omega, hm, ?_⟩
    by_cases h0 : ln = 0
    · subst h0
      exact .inl (by simp [ints])
    · obtain ⟨b, off, spot⟩ := a
      have h1 := hcell 0 (by omega)
      have hspot : spot = none := by simpa [Addr.add] using World.cell?_spot h1
      subst hspot
      refine .inr ⟨b, off, rfl, fun i u hu => ?_⟩
      have hi : i < ln := by
        have := (List.getElem?_eq_some_iff.1 hu).1
        simp [ints, hlen] at this
        omega
      have h2 := hcell i (by omega)
      rw [Addr.add_lit] at h2
      rw [h2]
      simp [ints, hi] at hu
      obtain ⟨x, hx, rfl⟩ := hu
      simp [List.getD, hx]

def szI (left : Int) (n : Nat) : Int := if left < n then -1 else left - n
theorem szIntS_any (l : List Int) (v : Value) (left : Int) (w : World) (h1 : Lst w v (ints l)) (hl0 : 0 ≤ left) (hl1 : left ≤ 1048576) :
    Calls Try.prog 83 #[v, .int .i64 left] w fun e w' => e = .returned (.int .i64 (szI left l.length)) ∧ w = w' := by
  obtain ⟨A, c, rfl, hc1, hc2, h1⟩ := h1
  rw [ints_length] at hc1
  rw [ints_length]
  unfold maxLen at hc2
  clear h1
  by_cases hlen : left < l.length
  · have : left - (l.length : Int) < 0 := by omega
    have HR : Hid (szI left l.length = -1) := if_pos hlen
    go_enter Try.func83, Try.ntmps83
    go_wp2
    go_ret
    exact ⟨ret_int HR.out.symm, rfl⟩
  · have : ¬ (left - (l.length : Int) < 0) := by omega
    have HR : Hid (szI left l.length = left - l.length) := if_neg hlen
    go_enter Try.func83, Try.ntmps83
    go_wp2
    go_ret
    exact ⟨ret_int HR.out.symm, rfl⟩

set_option maxHeartbeats 400000 in
theorem toIntS_any (l : List Int) (v : Value) (w : World) (h1 : Lst w v (ints l)) (hn : l.length ≤ 1048576) :
    Calls Try.prog 34 #[v] w fun e w' => ∃ v', e = .returned v' ∧ w'.ownsRow w.heap.size 3 1 v' l.length (ints l) ∧ Below w.heap.size w w' := by
  have hlst := h1
  obtain ⟨A, c, rfl, hc1, hc2, h1⟩ := h1
  rw [ints_length] at hc1
  rw [ints_length] at hlst ⊢
  obtain ⟨i0, hi0, hz0, hz1, hz2⟩ := info_parts int_info
  clear hc2
  go_enter Try.func34, Try.ntmps34
  go_wp2_with (at_make; refine wpList_make_full _ rfl _ _ 30 rfl w.heap.size 3 i0 (.int .i64 0) 1 Try.underlying30 hi0 hz0 hz1 .i64 .i64 _ _ l.length rfl rfl rfl rfl (by rw [hz2]; omega) (by unfold maxLen; omega) (Nat.le_refl _) ?_; intro w1 hown hgrow)
  have hb1 : Below w.heap.size w w1 := (Below.refl _ _).grown hgrow (Nat.le_refl _) (fun k hk => by cases hk)
  have hlst1 := hlst.below hb1
  have HD : Hid (((madeCells (Value.int .i64 0).cells (l.length * 1)).toList).length = l.length) := by
    have := hown.1
    unfold Hid
    omega
  generalize (madeCells (Value.int .i64 0).cells (l.length * 1)).toList = zs at hown HD
  have hb := World.block_lt_of_cell?
  clear hb
  go_loopw [4] (fun i w' => ∃ (k : Nat), k ≤ l.length ∧ i = .int .i64 k ∧ w'.ownsRow w.heap.size 3 1 (.slice (some ⟨w.heap.size, 0, none⟩) l.length l.length) l.length (ints (l.take k) ++ zs.drop k) ∧ Below w.heap.size w w') (fun i _ => l.length - (intOf i).toNat)
  case atStart => exact ⟨0, by omega, rfl, by simpa [ints] using hown, hb1⟩
  case round =>
    obtain ⟨k, hk, rfl, ho, hbk⟩ := hrel
    by_cases hlt : k < l.length
    · have hlk := hlst.below hbk
      obtain ⟨A', c', he', _, _, h1'⟩ := hlk
      rw [ints_length] at he'
      injection he' with hA _ hc
      subst hA
      subst hc
      replace h1' := h1'.resolve_left (by
        intro e
        have := congrArg List.length e
        rw [ints_length] at this
        simp only [List.length_nil] at this
        omega)
      obtain ⟨b, off, rfl, h1'⟩ := h1'
      have g1 := ints_at h1' k hlt
      have hcell : ∃ u, (ints (l.take k) ++ zs.drop k)[k]? = some u := ⟨(ints (l.take k) ++ zs.drop k)[k]'(by rw [List.length_append, ints_length, List.length_take, List.length_drop, HD.out]; omega), List.getElem?_eq_getElem _⟩
      obtain ⟨u, hu⟩ := hcell
      have g2 := (ho.cellAt k (by omega)).trans hu
      have g3 := ho.frozenAt k
      have hset : (ints (l.take k) ++ zs.drop k).set k (.int .i64 l[k]) = ints (l.take (k + 1)) ++ zs.drop (k + 1) := by
        have hd : zs.drop k = zs[k]'(by rw [HD.out]; exact hlt) :: zs.drop (k + 1) := List.drop_eq_getElem_cons _
        have hlk : (ints (l.take k)).length = k := by rw [ints_length, List.length_take]; omega
        rw [List.take_succ_eq_append_getElem hlt, hd, List.set_append_right _ _ (by omega), hlk, Nat.sub_self, List.set_cons_zero, ints_snoc, List.append_assoc]
        rfl
      have HS := Lib.hid hset
      have HU := Lib.hid hu
      clear hset hu h1' h1
      go_wp2
      go_roundw
      case rel =>
        refine ⟨k + 1, by omega, by go_num, ?_, hbk.setCell (Nat.le_refl _) _⟩
        have := (ho.stored k (.int .i64 l[k])).1
        rwa [HS.out] at this
      case measure => simp [intOf]; omega
    · have hkl : k = l.length := by omega
      subst hkl
      go_wp2
      go_ret
      rw [List.drop_of_length_le (by rw [HD.out]; exact Nat.le_refl _), List.append_nil, List.take_length] at ho
      exact ⟨_, rfl, ho, hbk⟩
end Go.Proofs.Ytgidfainoijcmaa

/- Slices of slices of ints: what they read as; eqIntSS. -/
namespace Go.Proofs.Ytgidfainoijcmaa
open Go.RowKit

/-- v is a slice whose elements are slices that read as the rows of m -/
def Mat (w : World) (v : Value) (m : List (List Int)) : Prop :=
  ∃ vs : List Value, Lst w v vs ∧ vs.length = m.length ∧ ∀ i (h : i < vs.length) (h' : i < m.length), Lst w vs[i] (ints m[i])
theorem Mat.below {w w' : World} {v : Value} {m : List (List Int)} (h : Mat w v m) (hb : Below w.heap.size w w') : Mat w' v m := by
  obtain ⟨vs, h1, h2, h3⟩ := h
  exact ⟨vs, h1.below hb, h2, fun i a b => (h3 i a b).below hb⟩
theorem Mat.drewN {w : World} {v : Value} {m : List (List Int)} (h : Mat w v m) (n : Nat) : Mat (w.drewN n) v m := h
theorem mat_slice {w : World} {v : Value} {m : List (List Int)} (h : Mat w v m) : ∃ A cap, v = .slice A m.length cap := by
  obtain ⟨vs, h1, h2, _⟩ := h
  obtain ⟨A, cap, e⟩ := lst_slice h1
  exact ⟨A, cap, by rw [e, h2]⟩
/-- the rows of a matrix in memory -/
theorem mat_rows {w : World} {v : Value} {m : List (List Int)} (h : Mat w v m) (h0 : 0 < m.length) : ∃ b off cap, v = .slice (some ⟨b, off, none⟩) m.length cap ∧ m.length ≤ cap ∧ cap ≤ maxLen ∧ ∀ k (hk : k < m.length), ∃ u, w.cell? ⟨b, off + k, none⟩ = some u ∧ Lst w u (ints m[k]) := by
  obtain ⟨vs, ⟨A, cap, e, hc1, hc2, h2⟩, h3, h4⟩ := h
  rcases h2 with h2 | ⟨b, off, rfl, h2⟩
  · rw [h2] at h3
    simp only [List.length_nil] at h3
    omega
  · refine ⟨b, off, cap, by rw [e, h3], by omega, hc2, fun k hk => ?_⟩
    have hk' : k < vs.length := by omega
    exact ⟨vs[k], h2 k _ (List.getElem?_eq_getElem hk'), h4 k hk' hk⟩

set_option maxHeartbeats 400000 in
theorem eqIntSS_same (m : List (List Int)) (v1 v2 : Value) (w : World) (h1 : Mat w v1 m) (h2 : Mat w v2 m) :
    Calls Try.prog 28 #[v1, v2] w fun e w' => e = .returned (.bool true) ∧ ∃ n, w' = w.drewN n := by
  have hnn : ((m.length : Int) != (m.length : Int)) = false := by simp
  by_cases hl : m = []
  · subst hl
    obtain ⟨A, cap, rfl⟩ := mat_slice h1
    obtain ⟨A', cap', rfl⟩ := mat_slice h2
    go_enter Try.func28, Try.ntmps28
    go_wp2
    refine wp_loop_rounds 1 ?_
    rw [rounds_succ]
    go_wp2
    go_ret
    exact ⟨rfl, 0, rfl⟩
  have hpos : 0 < m.length := List.length_pos_iff.2 hl
  obtain ⟨b, off, cp, rfl, q1, q2, r1⟩ := mat_rows h1 hpos
  obtain ⟨b', off', cp', rfl, q1', q2', r2⟩ := mat_rows h2 hpos
  have H1 := Lib.hid r1
  have H2 := Lib.hid r2
  have hmax : m.length ≤ 9223372036854775807 := by unfold maxLen at q2; omega
  clear r1 r2 h1 h2 hl q1 q2 q1' q2'
  go_enter Try.func28, Try.ntmps28
  go_wp2
  go_loopw [5] (fun i w' => ∃ (k n : Nat), k ≤ m.length ∧ i = .int .i64 k ∧ w' = w.drewN n) (fun i _ => m.length - (intOf i).toNat)
  case atStart => exact ⟨0, 0, by omega, rfl, rfl⟩
  case round =>
    obtain ⟨k, n, hk, rfl, rfl⟩ := hrel
    by_cases hlt : k < m.length
    · obtain ⟨u1, g1, l1⟩ := H1.out k hlt
      obtain ⟨u2, g2, l2⟩ := H2.out k hlt
      have L1 := Lib.hid l1
      have L2 := Lib.hid l2
      clear l1 l2
      go_wp2_with fail
      go_region_with (go_at_call 36
                      refine (eqIntS_same m[k] u1 u2 _ (L1.out.drewN (n + 1)) (L2.out.drewN (n + 1))).mono ?_
                      rintro e w3 ⟨rfl, n3, rfl⟩)
      all_goals
        go_wp2_with fail
        go_roundw
        case rel => exact ⟨k + 1, n + 1 + n3, by omega, by go_num, rfl⟩
        case measure => simp [intOf]; omega
    · go_wp2_with fail
      go_ret
      exact ⟨rfl, n, rfl⟩
end Go.Proofs.Ytgidfainoijcmaa
