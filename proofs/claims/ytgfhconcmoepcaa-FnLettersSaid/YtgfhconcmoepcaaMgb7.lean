/- Texts put together. -/
import Derived.Test.YtgfhconcmoepcaaMgb4
import Derived.Test.YtgfhconcmoepcaaMgb6
import Derived.Test.YtgfhconcmoepcaaMgb2
import Derived.OwnWalk
import Derived.Lib.SmallJoins
import Derived.Deep.RegionWith
/- The orbit of a letter, and the power after which some letter comes back. No program in it. -/
namespace Go.Proofs.Ytgfhconcmoepcaa
open Go.RowKit

theorem goN_add (l : List ByteArray) (k j : Nat) : ∀ m, goN l (goN l k j) m = goN l k (j + m)
  | 0 => rfl
  | m + 1 => by
    show firstN l (goN l (goN l k j) m) = firstN l (goN l k (j + m))
    rw [goN_add l k j m]
theorem goN_succ' (l : List ByteArray) (k m : Nat) : goN l k (m + 1) = goN l (firstN l k) m := by
  have := goN_add l k 1 m
  rw [Nat.add_comm m 1, ← this]
  rfl
theorem pigeon : ∀ a b c d e : Fin 4, a ≠ b → c ≠ a → c ≠ b → d ≠ a → d ≠ b → d ≠ c → e = a ∨ e = b ∨ e = c ∨ e = d := by decide
/-- among the first four is one that comes back -/
theorem orb_some {l : List ByteArray} (hl : substB l = true) {k : Nat} (hk : k < l.length) (h1 : ¬ goN l k 1 ∈ orbTo l k 1) (h2 : ¬ goN l k 2 ∈ orbTo l k 2) (h3 : ¬ goN l k 3 ∈ orbTo l k 3) : goN l k 4 ∈ orbTo l k 4 := by
  have h4 := (subst_parts hl).2.1
  have lt : ∀ n, goN l k n < 4 := fun n => by have := goN_lt hl hk n; omega
  simp only [orbTo, List.nil_append, not_or, List.cons_append, List.mem_cons, List.not_mem_nil, or_false] at h1 h2 h3 ⊢
  have p := pigeon ⟨_, lt 0⟩ ⟨_, lt 1⟩ ⟨_, lt 2⟩ ⟨_, lt 3⟩ ⟨_, lt 4⟩
  simp only [ne_eq, Fin.mk.injEq] at p
  omega
theorem orbN_eq {l : List ByteArray} {k n : Nat} (h1 : 1 ≤ n) (h4 : n ≤ 4) (hno : ∀ m, 1 ≤ m → m < n → ¬ goN l k m ∈ orbTo l k m) (hy : goN l k n ∈ orbTo l k n) : orbN l k = n := by
  unfold orbN
  rcases (show n = 1 ∨ n = 2 ∨ n = 3 ∨ n = 4 by omega) with e | e | e | e <;> subst e
  · rw [if_pos hy]
  · rw [if_neg (hno 1 (by omega) (by omega)), if_pos hy]
  · rw [if_neg (hno 1 (by omega) (by omega)), if_neg (hno 2 (by omega) (by omega)), if_pos hy]
  · rw [if_neg (hno 1 (by omega) (by omega)), if_neg (hno 2 (by omega) (by omega)), if_neg (hno 3 (by omega) (by omega))]
theorem backB_iff {l : List ByteArray} {n : Nat} : backB l n = true ↔ ∃ k, k < l.length ∧ goN l k n = k := by
  unfold backB
  simp [List.any_eq_true]
theorem back_some {l : List ByteArray} (hl : substB l = true) : ∃ n, 1 ≤ n ∧ n ≤ 4 ∧ backB l n = true := by
  have hk : 0 < l.length := (subst_parts hl).1
  have key : ∃ n, 1 ≤ n ∧ n ≤ 4 ∧ goN l 0 n ∈ orbTo l 0 n := by
    by_cases h1 : goN l 0 1 ∈ orbTo l 0 1
    · exact ⟨1, by omega, by omega, h1⟩
    by_cases h2 : goN l 0 2 ∈ orbTo l 0 2
    · exact ⟨2, by omega, by omega, h2⟩
    by_cases h3 : goN l 0 3 ∈ orbTo l 0 3
    · exact ⟨3, by omega, by omega, h3⟩
    exact ⟨4, by omega, by omega, orb_some hl hk h1 h2 h3⟩
  obtain ⟨n, a, b, c⟩ := key
  obtain ⟨i, hi, e⟩ := (orbTo_mem l 0 _ n).1 c
  refine ⟨n - i, by omega, by omega, backB_iff.2 ⟨goN l 0 i, goN_lt hl hk i, ?_⟩⟩
  rw [goN_add, show i + (n - i) = n from by omega, e]
theorem powR_eq {l : List ByteArray} (hl : substB l = true) {n : Nat} (h1 : 1 ≤ n) (hno : ∀ m, 1 ≤ m → m < n → backB l m = false) (hy : backB l n = true) : powR l = (n : Int) := by
  have h4 : n ≤ 4 := by
    obtain ⟨m, a, b, c⟩ := back_some hl
    by_cases h : m < n
    · rw [hno m a h] at c; cases c
    · omega
  unfold powR
  rw [if_pos hl]
  rcases (show n = 1 ∨ n = 2 ∨ n = 3 ∨ n = 4 by omega) with e | e | e | e <;> subst e
  · rw [hy]; rfl
  · rw [hno 1 (by omega) (by omega), hy]; rfl
  · rw [hno 1 (by omega) (by omega), hno 2 (by omega) (by omega), hy]; rfl
  · rw [hno 1 (by omega) (by omega), hno 2 (by omega) (by omega), hno 3 (by omega) (by omega)]; rfl
theorem pow_go {l : List ByteArray} (hl : substB l = true) {n : Nat} (hno : ∀ m, 1 ≤ m → m < n → backB l m = false) : n ≤ 4 := by
  obtain ⟨m, a, b, c⟩ := back_some hl
  by_cases h : m < n
  · rw [hno m a h] at c; cases c
  · omega
/-- the letters of an orbit, as a text -/
def orbS (l : List ByteArray) (k n : Nat) : ByteArray := ⟨((orbTo l k n).map letterN).toArray⟩
theorem orbS_size (l : List ByteArray) (k n : Nat) : (orbS l k n).size = n := by
  show ((orbTo l k n).map letterN).toArray.size = n
  simp [orbTo_length]
theorem orbS_succ (l : List ByteArray) (k n : Nat) : orbS l k n ++ ⟨#[letterN (goN l k n)]⟩ = orbS l k (n + 1) := by
  apply bytes_ext
  rw [ByteArray.toList_eq, ByteArray.toList_eq, ByteArray.data_append]
  show _ = (List.map letterN (orbTo l k n ++ [goN l k n]))
  simp [orbS]
theorem letterN_inj {a b : Nat} (ha : a ≤ 3) (hb : b ≤ 3) (h : letterN a = letterN b) : a = b := by
  have := congrArg UInt8.toNat h
  rw [letterN_toNat a (by omega), letterN_toNat b (by omega)] at this
  omega
theorem orbS_has {l : List ByteArray} (hl : substB l = true) {k : Nat} (hk : k < l.length) (n : Nat) (x : Nat) (hx : x ≤ 3) : hasR (orbS l k n) ⟨#[letterN x]⟩ = true ↔ x ∈ orbTo l k n := by
  have h4 := (subst_parts hl).2.1
  have hlen : (orbTo l k n).length = n := orbTo_length l k n
  have hs1 : (⟨#[letterN x]⟩ : ByteArray).size = 1 := rfl
  have hat : ∀ i (hi : i < n), (orbS l k n).extract i (i + 1) = ⟨#[letterN ((orbTo l k n)[i]'(by omega))]⟩ := by
    intro i hi
    apply bytes_ext
    rw [ByteArray.toList_eq, ByteArray.toList_eq]
    simp only [ByteArray.data_extract, orbS]
    simp
    rw [List.drop_eq_getElem_cons (by simpa [hlen] using hi)]
    simp
  have hmem : ∀ y ∈ orbTo l k n, y ≤ 3 := by
    intro y hy
    obtain ⟨i, _, e⟩ := (orbTo_mem l k y n).1 hy
    have := goN_lt hl hk i
    omega
  constructor
  · intro h
    obtain ⟨i, h1, h2⟩ := @of_decide_eq_true _ (Classical.propDecidable _) h
    rw [hs1, orbS_size] at h1
    rw [hs1, hat i (by omega)] at h2
    have h3 : letterN ((orbTo l k n)[i]'(by omega)) = letterN x := by
      injection h2 with h2
      simpa using h2
    have hm : (orbTo l k n)[i]'(by omega) ∈ orbTo l k n := List.getElem_mem _
    rw [← letterN_inj (hmem _ hm) hx h3]
    exact hm
  · intro h
    obtain ⟨i, hi, e⟩ := List.mem_iff_getElem.1 h
    refine hasR_yes (i := i) ⟨by rw [hs1, orbS_size]; omega, ?_⟩
    rw [hs1, hat i (by omega), e]
end Go.Proofs.Ytgfhconcmoepcaa

/- The laws' helpers on an argument that is a slice of ints: szIntS bounds it, toIntS copies it; and the argument opened to the list that it holds. -/
namespace Go.Proofs.Ytgfhconcmoepcaa
open Go.ChangeShapes Go.WideShapes Go.RowKit

theorem cellsOf_int : Try.prog.cellsOf 3 = 1 := by kernel_rfl
/-- a slice of ints that came in, opened -/
theorem ints_cell {H : Type} {enc : TypeId × Value → H} {P : Program} {w : World} {base fuel : Nat} {t e : TypeId} {v : Value} {y : DataW H × List MemPlace} (ht : P.underlying t = some (.slice e)) (he : P.underlying e = some (.int .i64)) (hc : P.cellsOf e = 1)
    (hf : DataW.trod enc P w base (fun _ => true) true fuel t [v] = some y) : ∃ l : List Int, Lst w v (ints l) ∧ ∀ z ∈ l, (Lit.int .i64 z).wf = true := by
  obtain ⟨A, ln, cp, hv⟩ := Joins.slice_form ht hf
  injection hv with hv _
  subst hv
  rcases open_ints ht he hc hf with ⟨hcs, _⟩ | ⟨a, len, cap, ss, hcs, _, hl, hm, hlen, _, hcell, hwf⟩
  · simp at hcs
    obtain ⟨rfl, rfl, rfl⟩ := hcs
    exact ⟨[], ⟨none, 0, by simp [ints], by simp [ints], by simp [maxLen], .inl rfl⟩, by simp⟩
  · simp at hcs
    obtain ⟨rfl, rfl, rfl⟩ := hcs
    simp at hlen
    refine ⟨ss.take ln, ?_, fun z hz => hwf z (List.mem_of_mem_take hz)⟩
    refine ⟨some a, cp, by simp [ints, hlen, Nat.min_eq_left hl], by simp [ints, hlen]; omega, hm, ?_⟩
    by_cases h0 : ln = 0
    · subst h0
      exact .inl (by simp [ints])
    · obtain ⟨b, off, spot⟩ := a
      have h1 := hcell 0 (by omega)
      have hspot : spot = none := by simpa [Addr.add] using World.cell?_spot h1
      subst hspot
      refine .inr ⟨b, off, rfl, fun i u hu => ?_⟩
      have hi : i < ln := by
        have := (List.getElem?_eq_some_iff.1 hu).1
        simp [ints, hlen] at this
        omega
      have h2 := hcell i (by omega)
      rw [Addr.add_lit] at h2
      rw [h2]
      simp [ints, hi] at hu
      obtain ⟨x, hx, rfl⟩ := hu
      simp [List.getD, hx]

def szI (left : Int) (n : Nat) : Int := if left < n then -1 else left - n
end Go.Proofs.Ytgfhconcmoepcaa

/- Slices of slices of ints: what they read as; eqIntSS. -/
namespace Go.Proofs.Ytgfhconcmoepcaa
open Go.RowKit

/-- v is a slice whose elements are slices that read as the rows of m -/
def Mat (w : World) (v : Value) (m : List (List Int)) : Prop :=
  ∃ vs : List Value, Lst w v vs ∧ vs.length = m.length ∧ ∀ i (h : i < vs.length) (h' : i < m.length), Lst w vs[i] (ints m[i])
theorem Mat.below {w w' : World} {v : Value} {m : List (List Int)} (h : Mat w v m) (hb : Below w.heap.size w w') : Mat w' v m := by
  obtain ⟨vs, h1, h2, h3⟩ := h
  exact ⟨vs, h1.below hb, h2, fun i a b => (h3 i a b).below hb⟩
theorem Mat.drewN {w : World} {v : Value} {m : List (List Int)} (h : Mat w v m) (n : Nat) : Mat (w.drewN n) v m := h
theorem mat_slice {w : World} {v : Value} {m : List (List Int)} (h : Mat w v m) : ∃ A cap, v = .slice A m.length cap := by
  obtain ⟨vs, h1, h2, _⟩ := h
  obtain ⟨A, cap, e⟩ := lst_slice h1
  exact ⟨A, cap, by rw [e, h2]⟩
/-- the rows of a matrix in memory -/
theorem mat_rows {w : World} {v : Value} {m : List (List Int)} (h : Mat w v m) (h0 : 0 < m.length) : ∃ b off cap, v = .slice (some ⟨b, off, none⟩) m.length cap ∧ m.length ≤ cap ∧ cap ≤ maxLen ∧ ∀ k (hk : k < m.length), ∃ u, w.cell? ⟨b, off + k, none⟩ = some u ∧ Lst w u (ints m[k]) := by
  obtain ⟨vs, ⟨A, cap, e, hc1, hc2, h2⟩, h3, h4⟩ := h
  rcases h2 with h2 | ⟨b, off, rfl, h2⟩
  · rw [h2] at h3
    simp only [List.length_nil] at h3
    omega
  · refine ⟨b, off, cap, by rw [e, h3], by omega, hc2, fun k hk => ?_⟩
    have hk' : k < vs.length := by omega
    exact ⟨vs[k], h2 k _ (List.getElem?_eq_getElem hk'), h4 k hk' hk⟩

end Go.Proofs.Ytgfhconcmoepcaa

/- Slices of slices of ints that the call has made: toIntSS copies, szIntSS bounds. -/
namespace Go.Proofs.Ytgfhconcmoepcaa
open Go.RowKit

/-- v is a slice of the call's own, in blocks from B to S, whose elements are rows of the call's own, each by itself -/
def OwnMat (w : World) (B S : Nat) (v : Value) (m : List (List Int)) : Prop :=
  ∃ (t0 : TypeId) (vs : List Value), vs.length = m.length ∧ w.ownsRow B t0 1 v m.length vs ∧
    (∀ i (h : i < vs.length) (h' : i < m.length), ∃ te, w.ownsRow B te 1 vs[i] m[i].length (ints m[i])) ∧
    (∀ i j (hi : i < vs.length) (hj : j < vs.length) k, vs[i].ownBlock = some k → vs[j].ownBlock = some k → i = j) ∧
    (∀ i (hi : i < vs.length) k, vs[i].ownBlock = some k → v.ownBlock ≠ some k ∧ k < S) ∧ (∀ k, v.ownBlock = some k → k < S)
theorem OwnMat.mat {w : World} {B S : Nat} {v : Value} {m : List (List Int)} (h : OwnMat w B S v m) : Mat w v m := by
  obtain ⟨t0, vs, h1, h2, h3, _⟩ := h
  exact ⟨vs, Lst.of_own h2, h1, fun i a b => by obtain ⟨te, h⟩ := h3 i a b; exact Lst.of_own h⟩
theorem OwnMat.below {w w' : World} {B S : Nat} {v : Value} {m : List (List Int)} (h : OwnMat w B S v m) (hb : Below w.heap.size w w') : OwnMat w' B S v m := by
  obtain ⟨t0, vs, h1, h2, h3, h4⟩ := h
  exact ⟨t0, vs, h1, own_below h2 hb, fun i a b => by obtain ⟨te, h⟩ := h3 i a b; exact ⟨te, own_below h hb⟩, h4⟩
theorem OwnMat.drewN {w : World} {B S : Nat} {v : Value} {m : List (List Int)} (h : OwnMat w B S v m) (n : Nat) : OwnMat (w.drewN n) B S v m := h
theorem OwnMat.mono {w : World} {B B' S : Nat} {v : Value} {m : List (List Int)} (h : OwnMat w B S v m) (hb : B' ≤ B) : OwnMat w B' S v m := by
  obtain ⟨t0, vs, h1, h2, h3, h4⟩ := h
  exact ⟨t0, vs, h1, own_mono h2 hb, fun i a b => by obtain ⟨te, h⟩ := h3 i a b; exact ⟨te, own_mono h hb⟩, h4⟩
theorem ints_info : (Try.prog.info? 24).map (fun i => (i.zero, i.size, i.bytes)) = some (some (.slice none 0 0), 1, 24) := by kernel_rfl

/-- the rows that have been laid -/
def RowsTo (w : World) (B : Nat) (us : List Value) (m : List (List Int)) : Prop :=
  us.length ≤ m.length ∧ (∀ i (h : i < us.length) (h' : i < m.length), w.ownsRow B 3 1 us[i] m[i].length (ints m[i])) ∧
    (∀ i j (hi : i < us.length) (hj : j < us.length) k, us[i].ownBlock = some k → us[j].ownBlock = some k → i = j)
theorem RowsTo.snoc {w w' : World} {B : Nat} {us : List Value} {m : List (List Int)} {u : Value} (h : RowsTo w B us m) (hb : Below w.heap.size w w') (hB : B ≤ w.heap.size) (hk : us.length < m.length) (hu : w'.ownsRow w.heap.size 3 1 u m[us.length].length (ints m[us.length])) : RowsTo w' B (us ++ [u]) m := by
  obtain ⟨h1, h2, h3⟩ := h
  have hlt : ∀ i (hi : i < us.length) k, us[i].ownBlock = some k → k < w.heap.size := fun i hi k hk => ((h2 i hi (by omega)).lt k hk).2
  refine ⟨by simp; omega, fun i hi hi' => ?_, fun i j hi hj k e1 e2 => ?_⟩
  · by_cases e : i < us.length
    · rw [List.getElem_append_left e]
      exact own_below (h2 i e hi') hb
    · have e' : i = us.length := by simp at hi; omega
      subst e'
      rw [List.getElem_append_right (Nat.le_refl _)]
      simpa using own_mono hu hB
  · by_cases a : i < us.length <;> by_cases b : j < us.length
    · rw [List.getElem_append_left a] at e1
      rw [List.getElem_append_left b] at e2
      exact h3 i j a b k e1 e2
    · rw [List.getElem_append_left a] at e1
      rw [List.getElem_append_right (by omega)] at e2
      have := hlt i a k e1
      simp at e2
      have := (hu.lt k e2).1
      omega
    · rw [List.getElem_append_right (by omega)] at e1
      rw [List.getElem_append_left b] at e2
      have := hlt j b k e2
      simp at e1
      have := (hu.lt k e1).1
      omega
    · simp at hi hj
      omega
theorem RowsTo.below {w w' : World} {B : Nat} {us : List Value} {m : List (List Int)} (h : RowsTo w B us m) (hb : Below w.heap.size w w') : RowsTo w' B us m :=
  ⟨h.1, fun i a b => own_below (h.2.1 i a b) hb, h.2.2⟩
theorem RowsTo.setCell {w : World} {B : Nat} {us : List Value} {m : List (List Int)} (h : RowsTo w B us m) {a : Addr} (ha : a.block < B) (u : Value) : RowsTo (w.setCell a u) B us m :=
  ⟨h.1, fun i x y => own_setCell (h.2.1 i x y) ha u, h.2.2⟩

end Go.Proofs.Ytgfhconcmoepcaa
