/- Texts put together. -/
import Derived.Test.YtfcbfflkajlhnaaMgU2
import Derived.Test.YtfcbfflkajlhnaaChecked
import Derived.Deep.QuietTactic
import Derived.BigQuiet
/- What a valid substitution makes of a valid word is a valid word, if it is short enough; applied again and again. No program in it. -/
namespace Go.Proofs.Ytfcbfflkajlhnaa
open Go.RowKit

def stepS (l : List ByteArray) (s : ByteArray) : ByteArray := ⟨(applyL l s.data.toList).toArray⟩
theorem stepS_list (l : List ByteArray) (s : ByteArray) : (stepS l s).data.toList = applyL l s.data.toList := rfl
theorem stepS_size (l : List ByteArray) (s : ByteArray) : (stepS l s).size = (applyL l s.data.toList).length := by
  show (applyL l s.data.toList).toArray.size = _
  simp
theorem all_of_word {s : ByteArray} (h : wordB s = true) : s.data.toList.all isAbcd = true := by
  unfold wordB at h
  rw [Bool.and_eq_true] at h
  exact h.2
theorem applyL_all (p : UInt8 → Bool) {l : List ByteArray} (hp : ∀ k (hk : k < l.length), l[k].data.toList.all p = true) (w : List UInt8) (hw : ∀ c ∈ w, 97 ≤ c.toNat ∧ c.toNat < 97 + l.length) : (applyL l w).all p = true := by
  unfold applyL
  rw [List.all_flatMap, List.all_eq_true]
  intro c hc
  obtain ⟨h1, h2⟩ := hw c hc
  rw [imgOf_at l c (c.toNat - 97) (by omega) (by omega)]
  exact hp _ _
theorem word_mem {s : ByteArray} (h : wordB s = true) {n : Nat} (h2 : withinB n s = true) : ∀ c ∈ s.data.toList, 97 ≤ c.toNat ∧ c.toNat < 97 + n := by
  intro c hc
  have a := List.all_eq_true.1 (all_of_word h) c hc
  have b := List.all_eq_true.1 h2 c hc
  simp [isAbcd] at a b
  omega
theorem step_word {l : List ByteArray} {s : ByteArray} (hl : substB l = true) (hs : wordB s = true) (hw : withinB l.length s = true) (h4 : (applyL l s.data.toList).length ≤ 400) : wordB (stepS l s) = true ∧ withinB l.length (stepS l s) = true := by
  obtain ⟨_, _, hi⟩ := subst_parts hl
  constructor
  · unfold wordB
    rw [stepS_size, decide_eq_true h4, stepS_list, applyL_all isAbcd (fun k hk => all_of_word (img_parts (hi k hk)).2.2.1) _ (word_mem hs hw)]
    rfl
  · exact applyL_all _ (fun k hk => (img_parts (hi k hk)).2.2.2) _ (word_mem hs hw)

/-- what ApplySubst is to return -/
def appOk (l : List ByteArray) (s : ByteArray) : Bool := (substB l && (wordB s && withinB l.length s)) && decide ((applyL l s.data.toList).length ≤ 400)
def appR (l : List ByteArray) (s : ByteArray) : ByteArray := if appOk l s = true then stepS l s else ⟨#[]⟩

def iterS (l : List ByteArray) (s : ByteArray) : Nat → ByteArray
  | 0 => s
  | n + 1 => stepS l (iterS l s n)
def iterOk (l : List ByteArray) (s : ByteArray) : Nat → Bool
  | 0 => true
  | n + 1 => iterOk l s n && decide ((applyL l (iterS l s n).data.toList).length ≤ 400)
theorem iterOk_mono {l : List ByteArray} {s : ByteArray} {k : Nat} (h : iterOk l s k = false) : ∀ n, iterOk l s (k + n) = false
  | 0 => h
  | n + 1 => by
    show (iterOk l s (k + n) && _) = false
    rw [iterOk_mono h n, Bool.false_and]
theorem iter_word {l : List ByteArray} {s : ByteArray} (hl : substB l = true) (hs : wordB s = true) (hw : withinB l.length s = true) : ∀ n, iterOk l s n = true → wordB (iterS l s n) = true ∧ withinB l.length (iterS l s n) = true
  | 0, _ => ⟨hs, hw⟩
  | n + 1, h => by
    have h' : (iterOk l s n && decide ((applyL l (iterS l s n).data.toList).length ≤ 400)) = true := h
    rw [Bool.and_eq_true, decide_eq_true_eq] at h'
    obtain ⟨a, b⟩ := iter_word hl hs hw n h'.1
    exact step_word hl a b h'.2
/-- what IterateSubst is to return -/
def itOk (l : List ByteArray) (s : ByteArray) (n : Int) : Bool := (decide (0 ≤ n) && decide (n ≤ 20)) && ((substB l && (wordB s && withinB l.length s)) && iterOk l s n.toNat)
def itR (l : List ByteArray) (s : ByteArray) (n : Int) : ByteArray := if itOk l s n = true then iterS l s n.toNat else ⟨#[]⟩
def PairSaid (r : ByteArray) (ok : Bool) (w : World) (e : Ending) (w' : World) : Prop := e = .returned (.tuple #[.string r, .bool ok]) ∧ Below w.heap.size w w'
theorem appR_no {l : List ByteArray} {s : ByteArray} (h : appOk l s = false) {w w' : World} (hb : Below w.heap.size w w') : PairSaid (appR l s) (appOk l s) w (.returned (.tuple #[.string ⟨#[]⟩, .bool false])) w' := by
  refine ⟨?_, hb⟩
  have e : appR l s = ⟨#[]⟩ := if_neg (by rw [h]; decide)
  rw [h, e]
theorem itR_no {l : List ByteArray} {s : ByteArray} {n : Int} (h : itOk l s n = false) {w w' : World} (hb : Below w.heap.size w w') : PairSaid (itR l s n) (itOk l s n) w (.returned (.tuple #[.string ⟨#[]⟩, .bool false])) w' := by
  refine ⟨?_, hb⟩
  have e : itR l s n = ⟨#[]⟩ := if_neg (by rw [h]; decide)
  rw [h, e]

theorem img_le {l : List ByteArray} (hl : substB l = true) (c : UInt8) : (imgOf l c).length ≤ 8 := by
  obtain ⟨_, _, hi⟩ := subst_parts hl
  unfold imgOf
  rw [List.getD_eq_getElem?_getD]
  by_cases h : c.toNat - 97 < l.length
  · rw [List.getElem?_eq_getElem h]
    have := (img_parts (hi _ h)).2.1
    simpa using this
  · rw [List.getElem?_eq_none (by omega)]
    simp
theorem applyL_le {l : List ByteArray} (hl : substB l = true) : ∀ w : List UInt8, (applyL l w).length ≤ 8 * w.length
  | [] => by simp [applyL]
  | c :: w => by
    have h1 := img_le hl c
    have h2 := applyL_le hl w
    unfold applyL at h2 ⊢
    rw [List.flatMap_cons, List.length_append, List.length_cons]
    omega
/-- what ComposeSubst is to return -/
def compR (l m : List ByteArray) : List ByteArray := l.map (stepS m)
def compOk (l m : List ByteArray) : Bool := (substB l && (substB m && decide (l.length = m.length))) && substB (compR l m)
def compSub (l m : List ByteArray) : List ByteArray := if compOk l m = true then compR l m else []
theorem compSub_le (l m : List ByteArray) : (compSub l m).length ≤ 4 := by
  unfold compSub; split
  · rename_i h
    unfold compOk at h
    rw [Bool.and_eq_true] at h
    exact (subst_parts h.2).2.1
  · simp
theorem compR_succ (l m : List ByteArray) (k : Nat) (hk : k < l.length) : strs (compR (l.take (k + 1)) m) = strs (compR (l.take k) m) ++ [.string (stepS m l[k])] := by
  unfold compR
  rw [List.take_succ_eq_append_getElem hk, List.map_append, List.map_cons, List.map_nil, strs_snoc]
theorem compR_small {l m : List ByteArray} (hl : substB l = true) (hm : substB m = true) : ∀ x ∈ compR l m, x.size ≤ 1048576 := by
  intro x hx
  obtain ⟨y, hy, rfl⟩ := List.mem_map.1 hx
  obtain ⟨k, hk, rfl⟩ := List.mem_iff_getElem.1 hy
  have h1 := (img_parts ((subst_parts hl).2.2 k hk)).2.1
  have h2 := applyL_le hm l[k].data.toList
  rw [stepS_size]
  have : l[k].data.toList.length = l[k].size := by simp
  omega
end Go.Proofs.Ytfcbfflkajlhnaa

/- The laws' own helpers on slices of ints: eqIntS, markIntS, heldIntS, as contracts. Conditions: lengths as Go has them. -/
namespace Go.Proofs.Ytfcbfflkajlhnaa
open Go.RowKit

def ints (l : List Int) : List Value := l.map (Value.int .i64)
theorem ints_length (l : List Int) : (ints l).length = l.length := by simp [ints]
theorem ints_snoc (l : List Int) (x : Int) : ints (l ++ [x]) = ints l ++ [.int .i64 x] := by simp [ints]
theorem ints_at {w : World} {b off : Nat} {l : List Int} (h : ∀ (i : Nat) u, (ints l)[i]? = some u → w.cell? ⟨b, off + i, none⟩ = some u) (k : Nat) (hk : k < l.length) : w.cell? ⟨b, off + k, none⟩ = some (.int .i64 l[k]) :=
  h k _ (by simp [ints, hk])
theorem int_info : (Try.prog.info? 3).map (fun i => (i.zero, i.size, i.bytes)) = some (some (.int .i64 0), 1, 8) := by kernel_rfl

/-- Two lists of ints that are the same: eqIntS says so. -/
theorem eqIntS_same (l : List Int) (v1 v2 : Value) (w : World) (h1 : Lst w v1 (ints l)) (h2 : Lst w v2 (ints l)) :
    Calls Try.prog 101 #[v1, v2] w fun e w' => e = .returned (.bool true) ∧ ∃ n, w' = w.drewN n := by
  obtain ⟨A, c, rfl, hc1, hc2, h1⟩ := h1
  obtain ⟨A', c', rfl, hc1', hc2', h2⟩ := h2
  rw [ints_length] at hc1 hc1'
  rw [ints_length]
  have hmax : l.length ≤ 9223372036854775807 := by unfold maxLen at hc2; omega
  clear hc2 hc2' hc1 hc1'
  have hnn : ((l.length : Int) != (l.length : Int)) = false := by simp
  by_cases hl : l = []
  · subst hl
    go_enter Try.func101, Try.ntmps101
    go_wp2
    refine wp_loop_rounds 1 ?_
    rw [rounds_succ]
    go_wp2
    go_ret
    exact ⟨rfl, 0, rfl⟩
  replace h1 := h1.resolve_left (by simp [ints, hl])
  replace h2 := h2.resolve_left (by simp [ints, hl])
  obtain ⟨b, off, rfl, h1⟩ := h1
  obtain ⟨b', off', rfl, h2⟩ := h2
  have hpos : 0 < l.length := List.length_pos_iff.2 hl
  have H1 := Lib.hid (ints_at h1)
  have H2 := Lib.hid (ints_at h2)
  clear h1 h2 hl
  go_enter Try.func101, Try.ntmps101
  go_wp2
  go_loopw [5] (fun i w' => ∃ (k n : Nat), k ≤ l.length ∧ i = .int .i64 k ∧ w' = w.drewN n) (fun i _ => l.length - (intOf i).toNat)
  case atStart => exact ⟨0, 0, by omega, rfl, rfl⟩
  case round =>
    obtain ⟨k, n, hk, rfl, rfl⟩ := hrel
    by_cases hlt : k < l.length
    · have g1 := H1.out k hlt
      have g2 := H2.out k hlt
      have gb : (l[k] != l[k]) = false := by simp
      go_wp2
      go_quiet (fail)
      go_wp2
      go_roundw
      case rel => exact ⟨k + 1, _, by omega, by go_num, rfl⟩
      case measure => simp [intOf]; omega
    · go_wp2
      go_ret
      exact ⟨rfl, n, rfl⟩

/-- the n numbers from k on -/
def upto (k : Int) (n : Nat) : List Int := (List.range n).map fun (i : Nat) => k + (i : Int)
theorem upto_length (k : Int) (n : Nat) : (upto k n).length = n := by simp [upto]
theorem upto_at (k : Int) (n i : Nat) (h : i < n) : (upto k n)[i]'(by simpa [upto] using h) = k + i := by simp [upto]
theorem upto_succ (k : Int) (n : Nat) : ints (upto k (n + 1)) = ints (upto k n) ++ [.int .i64 (k + n)] := by simp [upto, ints, List.range_succ]

/-- A slice of such numbers: heldIntS counts them. -/
theorem heldIntS_marks (v : Value) (k : Int) (n : Nat) (w : World) (hk : 0 ≤ k) (hkn : k + n ≤ 9223372036854775807) (h1 : Lst w v (ints (upto k n))) :
    Calls Try.prog 103 #[v, .int .i64 k] w fun e w' => e = .returned (.int .i64 (k + n)) ∧ ∃ m, w' = w.drewN m := by
  obtain ⟨A, c, rfl, hc1, hc2, h1⟩ := h1
  rw [ints_length, upto_length] at hc1
  rw [ints_length, upto_length]
  unfold maxLen at hc2
  have hmax : n ≤ 9223372036854775807 := by omega
  clear hc2 hc1
  by_cases hl : n = 0
  · subst hl
    go_enter Try.func103, Try.ntmps103
    go_wp2
    refine wp_loop_rounds 1 ?_
    rw [rounds_succ]
    go_wp2
    go_ret
    exact ⟨ret_int (by simp), 0, rfl⟩
  replace h1 := h1.resolve_left (by
    intro e
    have := congrArg List.length e
    rw [ints_length, upto_length] at this
    exact hl this)
  obtain ⟨b, off, rfl, h1⟩ := h1
  have H1 : Hid (∀ i, i < n → w.cell? ⟨b, off + i, none⟩ = some (.int .i64 (k + i))) := fun i hi => by
    have := ints_at h1 i (by rw [upto_length]; exact hi)
    rwa [upto_at _ _ _ hi] at this
  clear h1
  go_enter Try.func103, Try.ntmps103
  go_wp2
  go_loopw [1, 5] (fun q i w' => ∃ (j m : Nat), j ≤ n ∧ i = .int .i64 j ∧ q = .int .i64 (k + j) ∧ w' = w.drewN m) (fun _ i _ => n - (intOf i).toNat)
  case atStart => exact ⟨0, 0, by omega, rfl, by simp, rfl⟩
  case round =>
    obtain ⟨j, m, hj, rfl, rfl, rfl⟩ := hrel
    by_cases hlt : j < n
    · have g1 := H1.out j hlt
      have hkj : k + (j : Int) ≤ 9223372036854775806 := by omega
      have hkj0 : 0 ≤ k + (j : Int) := by omega
      have gb : ((k + (j : Int)) != (k + (j : Int))) = false := by simp
      go_wp2
      try go_quiet (fail)
      go_wp2
      go_roundw
      case rel => exact ⟨j + 1, _, by omega, by go_num, by rw [show k + (j : Int) + 1 = k + ((j + 1 : Nat) : Int) from by omega], rfl⟩
      case measure => simp [intOf]; omega
    · have hjn : j = n := by omega
      subst hjn
      go_wp2
      go_ret
      exact ⟨rfl, m, rfl⟩

/-- A slice of the call's own: markIntS lays the numbers into it. -/
theorem markIntS_own {te : TypeId} (B : Nat) (v : Value) (k : Int) (n : Nat) (xs : List Value) (w : World) (hk : 0 ≤ k) (hkn : k + n ≤ 9223372036854775807) (hown : w.ownsRow B te 1 v n xs) :
    Calls Try.prog 102 #[v, .int .i64 k] w fun e w' => e = .returned (.int .i64 (k + n)) ∧ w'.ownsRow B te 1 v n (ints (upto k n)) ∧ w.grownBy w' v.ownBlock := by
  have hlen := hown.1
  rw [Nat.mul_one] at hlen
  rcases hown.2 with ⟨rfl, rfl⟩ | ⟨g, cap, cur, rfl, hBg, hg, hnc, hcm, _, _⟩
  · have hx : xs = [] := List.eq_nil_of_length_eq_zero hlen
    subst hx
    go_enter Try.func102, Try.ntmps102
    go_wp2
    refine wp_loop_rounds 1 ?_
    rw [rounds_succ]
    go_wp2
    go_ret
    exact ⟨ret_int (by simp), hown, World.grownBy.refl _ _⟩
  have hmax : n ≤ 9223372036854775807 := by unfold maxLen at hcm; omega
  clear hcm hnc hg
  have HX := Lib.hid hlen
  clear hlen
  go_enter Try.func102, Try.ntmps102
  go_wp2
  go_loopw [1, 5] (fun q i w' => ∃ (j : Nat), j ≤ n ∧ i = .int .i64 j ∧ q = .int .i64 (k + j) ∧ w'.ownsRow B te 1 (.slice (some ⟨g, 0, none⟩) n cap) n (ints (upto k j) ++ xs.drop j) ∧ w.grownBy w' (some g)) (fun _ i _ => n - (intOf i).toNat)
  case atStart => exact ⟨0, by omega, rfl, by simp, by simpa [upto, ints] using hown, World.grownBy.refl _ _⟩
  case round =>
    obtain ⟨j, hj, rfl, rfl, ho, hgr⟩ := hrel
    by_cases hlt : j < n
    · have hkj : k + (j : Int) ≤ 9223372036854775806 := by omega
      have hkj0 : 0 ≤ k + (j : Int) := by omega
      have hcell : ∃ u, (ints (upto k j) ++ xs.drop j)[j]? = some u := ⟨(ints (upto k j) ++ xs.drop j)[j]'(by rw [List.length_append, ints_length, upto_length, List.length_drop, HX.out]; omega), List.getElem?_eq_getElem _⟩
      obtain ⟨u, hu⟩ := hcell
      have hset : (ints (upto k j) ++ xs.drop j).set j (.int .i64 (k + j)) = ints (upto k (j + 1)) ++ xs.drop (j + 1) := by
        have hd : xs.drop j = xs[j]'(by rw [HX.out]; exact hlt) :: xs.drop (j + 1) := List.drop_eq_getElem_cons _
        rw [upto_succ, hd, List.set_append_right _ _ (by rw [ints_length, upto_length]; exact Nat.le_refl _), ints_length, upto_length, Nat.sub_self, List.set_cons_zero, List.append_assoc]
        rfl
      have HS := Lib.hid hset
      have g2 := (ho.cellAt j (by omega)).trans hu
      have g3 := ho.frozenAt j
      clear hset hu
      go_wp2
      go_roundw
      case rel =>
        refine ⟨j + 1, by omega, by go_num, by rw [show k + (j : Int) + 1 = k + ((j + 1 : Nat) : Int) from by omega], ?_, ?_⟩
        · have := (ho.stored j (.int .i64 (k + j))).1
          rwa [HS.out] at this
        · exact grown_trans hgr (ho.stored j (.int .i64 (k + j))).2
      case measure => simp [intOf]; omega
    · have hjn : j = n := by omega
      subst hjn
      go_wp2
      go_ret
      rw [List.drop_of_length_le (by rw [HX.out]; exact Nat.le_refl _), List.append_nil] at ho
      exact ⟨rfl, ho, hgr⟩
end Go.Proofs.Ytfcbfflkajlhnaa

/- The matrix of a substitution, what becomes of counts, products, determinants. No program in it. -/
namespace Go.Proofs.Ytfcbfflkajlhnaa
open Go.RowKit

def letterN (i : Nat) : UInt8 := UInt8.ofNat (97 + i)
theorem letterN_toNat (i : Nat) (h : i ≤ 4) : (letterN i).toNat = 97 + i := by
  unfold letterN
  rw [UInt8.toNat_ofNat']
  omega
/-- row i of the matrix: how often the letter i stands in each image -/
def rowL (l : List ByteArray) (i : Nat) : List Int := l.map fun x => (cnt x.data.toList (letterN i) : Int)
def matL (l : List ByteArray) : List (List Int) := (List.range l.length).map (rowL l)
theorem rowL_length (l : List ByteArray) (i : Nat) : (rowL l i).length = l.length := by simp [rowL]
theorem matL_length (l : List ByteArray) : (matL l).length = l.length := by simp [matL]
theorem matL_at (l : List ByteArray) (i : Nat) (h : i < (matL l).length) : (matL l)[i] = rowL l i := by simp [matL]
theorem rowL_at (l : List ByteArray) (i k : Nat) (h : k < l.length) (h' : k < (rowL l i).length) : (rowL l i)[k] = (cnt l[k].data.toList (letterN i) : Int) := by simp [rowL]
theorem rowL_succ (l : List ByteArray) (i k : Nat) (h : k < l.length) : ints (rowL (l.take (k + 1)) i) = ints (rowL (l.take k) i) ++ [.int .i64 (cnt l[k].data.toList (letterN i) : Int)] := by
  unfold rowL
  rw [List.take_succ_eq_append_getElem h, List.map_append, List.map_cons, List.map_nil, ints_snoc]
/-- what MatrixOf is to return -/
def matR (l : List ByteArray) : List (List Int) := if substB l = true then matL l else []
theorem matR_le (l : List ByteArray) : (matR l).length ≤ 4 := by
  unfold matR; split
  · rename_i h; rw [matL_length]; exact (subst_parts h).2.1
  · simp
/-- the sum of the first k products -/
def dotTo (a b : List Int) : Nat → Int
  | 0 => 0
  | k + 1 => dotTo a b k + a.getD k 0 * b.getD k 0
end Go.Proofs.Ytfcbfflkajlhnaa
