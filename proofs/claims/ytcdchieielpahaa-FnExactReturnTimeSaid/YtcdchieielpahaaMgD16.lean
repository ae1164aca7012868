/- Texts put together. -/
import Derived.Test.YtcdchieielpahaaMgD15
import Derived.Test.YtcdchieielpahaaMgD7
import Derived.Test.YtcdchieielpahaaMgD4
import Derived.Test.YtcdchieielpahaaMgD2
import Derived.IntWalk
import Derived.Deep.CutBlock
/- Determinants by the first row. No program in it. -/
namespace Go.Proofs.Ytcdchieielpahaa
open Go.RowKit

def sgnN (k : Nat) : Int := if k % 2 = 0 then 1 else -1
theorem sgnN_succ (k : Nat) : sgnN (k + 1) = -sgnN k := by
  unfold sgnN
  rcases Nat.mod_two_eq_zero_or_one k with h | h
  · rw [if_pos h, if_neg (show ¬ (k + 1) % 2 = 0 by omega)]
  · rw [if_pos (show (k + 1) % 2 = 0 by omega), if_neg (show ¬ k % 2 = 0 by omega)]; rfl
theorem sgnN_two (k : Nat) : sgnN k = 1 ∨ sgnN k = -1 := by
  unfold sgnN
  split
  · exact .inl rfl
  · exact .inr rfl
/-- a row without its number k -/
def cutR (k : Nat) (r : List Int) : List Int := r.take k ++ r.drop (k + 1)
def minorM (m : List (List Int)) (k : Nat) : List (List Int) := (m.drop 1).map (cutR k)
def sumTo (f : Nat → Int) : Nat → Int
  | 0 => 0
  | k + 1 => sumTo f k + f k
/-- the determinant of a matrix of n rows, by its first row -/
def detS : Nat → List (List Int) → Int
  | 0, _ => 1
  | n + 1, m => sumTo (fun k => sgnN k * at2 m 0 k * detS n (minorM m k)) (n + 1)
def SqN (n : Nat) (m : List (List Int)) : Prop := m.length = n ∧ (∀ i (h : i < m.length), m[i].length = n) ∧ ∀ i k, i < n → k < n → -100 ≤ at2 m i k ∧ at2 m i k ≤ 100
theorem sqN_of {m : List (List Int)} (h : sqB m = true) : SqN m.length m := ⟨rfl, (sq_parts h).2.2.1, fun i k hi hk => at2_small h i k hi hk⟩
theorem minorM_length (m : List (List Int)) (k : Nat) : (minorM m k).length = m.length - 1 := by simp [minorM]
theorem minorM_at (m : List (List Int)) (k i : Nat) (h : i < (minorM m k).length) (h' : i + 1 < m.length) : (minorM m k)[i] = cutR k m[i + 1] := by simp [minorM]
theorem cutR_length (k : Nat) (r : List Int) (h : k < r.length) : (cutR k r).length = r.length - 1 := by
  unfold cutR
  rw [List.length_append, List.length_take, List.length_drop]
  omega
theorem cutR_getD (k : Nat) (r : List Int) (h : k < r.length) (q : Nat) : (cutR k r).getD q 0 = r.getD (if q < k then q else q + 1) 0 := by
  unfold cutR
  rw [List.getD_eq_getElem?_getD, List.getD_eq_getElem?_getD]
  have hl : (r.take k).length = k := by rw [List.length_take]; omega
  by_cases hq : q < k
  · rw [if_pos hq, List.getElem?_append_left (by omega), List.getElem?_take, if_pos hq]
  · rw [if_neg hq, List.getElem?_append_right (by omega), hl, List.getElem?_drop]
    congr 2
    omega
theorem minor_at2 {n : Nat} {m : List (List Int)} (h : SqN (n + 1) m) (k : Nat) (hk : k < n + 1) (i q : Nat) (hi : i < n) : at2 (minorM m k) i q = at2 m (i + 1) (if q < k then q else q + 1) := by
  obtain ⟨h1, h2, _⟩ := h
  have hl : i < (minorM m k).length := by rw [minorM_length]; omega
  have hi1 : i + 1 < m.length := by omega
  unfold at2
  rw [List.getD_eq_getElem?_getD (l := minorM m k), List.getD_eq_getElem?_getD (l := m), List.getElem?_eq_getElem hl, List.getElem?_eq_getElem hi1, Option.getD_some, Option.getD_some, minorM_at m k i hl hi1]
  exact cutR_getD k _ (by rw [h2 _ hi1]; exact hk) q
theorem minor_sq {n : Nat} {m : List (List Int)} (h : SqN (n + 1) m) (k : Nat) (hk : k < n + 1) : SqN n (minorM m k) := by
  obtain ⟨h1, h2, h3⟩ := id h
  refine ⟨by rw [minorM_length]; omega, fun i hi => ?_, fun i q hi hq => ?_⟩
  · have hi1 : i + 1 < m.length := by rw [minorM_length] at hi; omega
    rw [minorM_at m k i hi hi1, cutR_length k _ (by rw [h2 _ hi1]; exact hk), h2 _ hi1]
    rfl
  · rw [minor_at2 h k hk i q hi]
    split
    · exact h3 _ _ (by omega) (by omega)
    · exact h3 _ _ (by omega) (by omega)
/-- how large a determinant of n rows can be -/
def detMax : Nat → Int
  | 0 => 1
  | n + 1 => (n + 1 : Nat) * (100 * detMax n)
theorem term_bound {n : Nat} {m : List (List Int)} (h : SqN (n + 1) m) (k : Nat) (hk : k < n + 1) {d D : Int} (hd : -D ≤ d ∧ d ≤ D) : (-100 ≤ sgnN k * at2 m 0 k ∧ sgnN k * at2 m 0 k ≤ 100) ∧ -(100 * D) ≤ sgnN k * at2 m 0 k * d ∧ sgnN k * at2 m 0 k * d ≤ 100 * D := by
  have h3 := h.2.2 0 k (by omega) hk
  have h1 : -100 ≤ sgnN k * at2 m 0 k ∧ sgnN k * at2 m 0 k ≤ 100 := by
    rcases sgnN_two k with e | e <;> rw [e] <;> omega
  exact ⟨h1, mul_bound h1 hd⟩
theorem sumTo_bound {f : Nat → Int} {D : Int} (n : Nat) (h : ∀ k, k < n → -D ≤ f k ∧ f k ≤ D) : ∀ k, k ≤ n → -(k * D) ≤ sumTo f k ∧ sumTo f k ≤ k * D
  | 0, _ => by simp [sumTo]
  | k + 1, hk => by
    have ih := sumTo_bound n h k (by omega)
    have hb := h k (by omega)
    have e : ((k + 1 : Nat) : Int) * D = k * D + D := by rw [Int.natCast_add, Int.add_mul]; simp
    rw [e]
    unfold sumTo
    omega
theorem det_bound : ∀ (n : Nat) (m : List (List Int)), SqN n m → -detMax n ≤ detS n m ∧ detS n m ≤ detMax n
  | 0, _, _ => by simp [detS, detMax]
  | n + 1, m, h => by
    have hb := sumTo_bound (f := fun k => sgnN k * at2 m 0 k * detS n (minorM m k)) (D := 100 * detMax n) (n + 1) (fun k hk => (term_bound h k hk (det_bound n _ (minor_sq h k hk))).2) (n + 1) (Nat.le_refl _)
    exact hb
/-- what DeterminantOf is to return -/
def detR (m : List (List Int)) : Int := if sqB m = true then detS m.length m else 0
end Go.Proofs.Ytcdchieielpahaa

/- A struct of one slice of strings as a result; small facts on new rows. No condition. -/
namespace Go.Proofs.Ytcdchieielpahaa
open Go.RowKit

/-- a struct of one slice of strings, and whether there is one -/
def SubSaid (r : List ByteArray) (ok : Bool) (w : World) (e : Ending) (w' : World) : Prop := ∃ v, e = .returned (.tuple #[.agg #[v], .bool ok]) ∧ w'.ownsRow w.heap.size 9 1 v r.length (strs r) ∧ Below w.heap.size w w'
theorem cell_one (w : World) (e : TypeId) (y : Value) (j : Nat) (u : Value) (hu : [y][j]? = some u) : (w.alloc (.cells #[y] e)).cell? ((⟨w.heap.size, 0, none⟩ : Addr).add j) = some u := by
  rcases j with _ | j
  · simp at hu
    subst hu
    rw [Addr.add_lit, World.cell?_alloc_at _ _ _ _ (by simp)]
    rfl
  · simp at hu
end Go.Proofs.Ytcdchieielpahaa

/- DeterminantOf of the model. Conditions: lengths of at most 2^20. -/
namespace Go.Proofs.Ytcdchieielpahaa
open Go.RowKit

/-- a row of a matrix, cell by cell -/
theorem sqn_row {w : World} {v : Value} {n : Nat} {m : List (List Int)} (h : Mat w v m) (hs : SqN n m) (h0 : 0 < n) : ∃ b off cap, v = .slice (some ⟨b, off, none⟩) n cap ∧ n ≤ cap ∧ ∀ k (hk : k < m.length), ∃ b2 off2 cap2, w.cell? ⟨b, off + k, none⟩ = some (.slice (some ⟨b2, off2, none⟩) n cap2) ∧ n ≤ cap2 ∧ ∀ (j : Nat) u, (ints m[k])[j]? = some u → w.cell? ⟨b2, off2 + j, none⟩ = some u := by
  obtain ⟨h1, h5, _⟩ := hs
  obtain ⟨b, off, cap, e, q1, q2, hr⟩ := mat_rows h (by omega)
  rw [h1] at e q1
  refine ⟨b, off, cap, e, q1, fun k hk => ?_⟩
  obtain ⟨u, g1, ⟨A, cap2, e2, c1, c2, h2⟩⟩ := hr k hk
  rw [ints_length, h5 k hk] at e2 c1
  replace h2 := h2.resolve_left (by
    intro e
    have := congrArg List.length e
    rw [ints_length, h5 k hk] at this
    simp only [List.length_nil] at this
    omega)
  obtain ⟨b2, off2, rfl, h2⟩ := h2
  exact ⟨b2, off2, cap2, by rw [g1, e2], c1, fun j u hu => h2 j u hu⟩

theorem ints_one (l : List Int) : ∀ u ∈ ints l, u.oneCell' = true := by
  intro u hu
  simp only [ints, List.mem_map] at hu
  obtain ⟨x, _, rfl⟩ := hu
  rfl
theorem ints_take_get (l : List Int) (k j : Nat) (u : Value) (h : (ints (l.take k))[j]? = some u) : (ints l)[j]? = some u := by
  simp only [ints, List.getElem?_map, List.getElem?_take] at h ⊢
  split at h
  · exact h
  · simp at h
theorem ints_drop_get (l : List Int) (k j : Nat) (u : Value) (h : (ints (l.drop k))[j]? = some u) : (ints l)[k + j]? = some u := by
  simpa only [ints, List.getElem?_map, List.getElem?_drop] using h

end Go.Proofs.Ytcdchieielpahaa

/- Chapter 12 of the model: l11Insert. Condition: an ascending row of the call's own. -/
namespace Go.Proofs.Ytcdchieielpahaa
open Go.RowKit

theorem own_int_at {w : World} {B g cp n : Nat} {m : List Int} (h : w.ownsRow B 3 1 (.slice (some ⟨g, 0, none⟩) n cp) n (ints m)) (k : Nat) (hk : k < m.length) : w.cell? ⟨g, k, none⟩ = some (.int .i64 m[k]) := by
  have := h.cells (g := g) rfl k (.int .i64 m[k]) (by unfold ints; rw [List.getElem?_map, List.getElem?_eq_getElem hk]; rfl)
  rwa [Addr.add_lit, Nat.zero_add] at this
set_option maxHeartbeats 1000000 in
theorem specInsertI (m : List Int) (g cp : Nat) (x : Int) (w : World) (B : Nat) (h : w.ownsRow B 3 1 (.slice (some ⟨g, 0, none⟩) m.length cp) m.length (ints m)) (ha : AscI m) (hm : m.length ≤ 4000) (hB : B ≤ w.heap.size) :
    Calls Try.prog 34 #[.slice (some ⟨g, 0, none⟩) m.length cp, .int .i64 x] w fun e w' => ∃ g' cp', e = .returned (.slice (some ⟨g', 0, none⟩) (inI m x).length cp') ∧ w'.ownsRow B 3 1 (.slice (some ⟨g', 0, none⟩) (inI m x).length cp') (inI m x).length (ints (inI m x)) ∧ Below w.heap.size w w' := by
  obtain ⟨i0, hi0, hz0, hz1, hz2⟩ := info_parts int_info
  have HO := Lib.hid h
  have HA := Lib.hid ha
  have hcp : m.length ≤ cp := by
    rcases h.2 with ⟨e, _⟩ | ⟨_, _, _, e, _, _, hnc, _⟩
    · injection e with e _ _; cases e
    · injection e with _ _ e; omega
  clear h ha
  go_enter Try.func34, Try.ntmps34
  go_wp2
  go_loop [5] (fun i => ∃ k : Nat, k ≤ m.length ∧ i = .int .i64 k ∧ ∀ (j : Nat) (hj : j < m.length), k ≤ j → x < m[j]) (fun i => (intOf i).toNat)
  case atStart => exact ⟨m.length, Nat.le_refl _, rfl, fun j h1 h2 => absurd h1 (by omega)⟩
  case round =>
    obtain ⟨k, hk, rfl, hgt⟩ := hrel
    have HGT := Lib.hid hgt
    clear hgt
    by_cases h0 : k = 0
    · have d0 : decide (0 < k) = false := by simp; omega
      have d0i : decide ((0 : Int) < (k : Int)) = false := by simp; omega
      have HK : Hid (∀ (j : Nat) (hj : j < m.length), j < k → m[j] < x) := fun j hj h => absurd h (by omega)
      clear h0
      have HEQ : Hid (m.take k ++ x :: m.drop k = inI m x) := inI_at HA.out hk HGT.out HK.out
      obtain ⟨X1, hsl1, hX1⟩ := slice_upto Try.underlying22 sizeOf_int g 0 m.length cp k hk hcp
      obtain ⟨X2, hsl2, hX2⟩ := slice_from Try.underlying22 sizeOf_int g 0 m.length cp k hk hcp
      have HX1 := Lib.hid hX1
      have HX2 := Lib.hid hX2
      have HL1 : Hid ((ints (m.take k)).length = k * 1) := by show _ = _; rw [ints_length, List.length_take]; omega
      have HL2 : Hid ((ints (m.drop k)).length = (m.length - k) * 1) := by show _ = _; rw [ints_length, List.length_drop]; omega
      have HCE := Lib.hid (fun (j : Nat) (u : Value) (hu : (ints m)[j]? = some u) => HO.out.cells (g := g) rfl j u hu)
      clear hX1 hX2
      go_wp2_with (first
        | (at_builtin
           refine wpList_append_own _ rfl (.tmp 34) (.tmp 37) 22 rfl w.heap.size 3 i0 _ 1 8 Try.underlying22 hi0 hz0 hz1 hz2 rfl (by decide) _ 0 [] rfl (own_made0 _ _ _ (Nat.le_refl _)) X1 k cp (ints (m.take k)) rfl HL1.out ?_ (ints_one _) (by unfold maxLen; omega) (by omega) (by simp) ?_
           · intro j u hu
             rw [HX1.out]
             have h5 := HCE.out j u (by
               unfold ints at hu ⊢
               rw [List.map_take, List.getElem?_take] at hu
               split at hu
               · exact hu
               · cases hu)
             rw [Addr.add_lit] at h5 ⊢
             exact (((Below.refl w.heap.size w).alloc (Nat.le_refl _) (.cells #[] 3)).cell (World.block_lt_of_cell? w _ h5)).trans h5
           intro v4 w4 hown4 hgr4 hnil4
           have HB4 : Hid (Below w.heap.size w w4) := ((Below.refl _ _).alloc (Nat.le_refl _) _).grown hgr4 (by simp) (fun y hy => ((own_made0 w w.heap.size 3 (Nat.le_refl _)).lt y hy).1)
           rw [Nat.zero_add, List.nil_append] at hown4
           obtain ⟨A4, cp4, rfl⟩ := own_slice hown4
           have HO4 := Lib.hid hown4
           clear hown4 hgr4 hnil4)
        | (at_builtin
           refine wpList_append1 _ rfl (.tmp 39) (.tmp 41) _ rfl w.heap.size 3 i0 _ 8 Try.underlying22 hi0 hz0 hz1 hz2 rfl _ k _ rfl HO4.out (.int .i64 x) rfl rfl (by unfold maxLen; omega) (by omega) HB4.out.size ?_
           intro v5 w5 hown5 hbel5
           have HB5 : Hid (Below w.heap.size w w5) := HB4.out.trans hbel5
           obtain ⟨A5, cp5, rfl⟩ := own_slice hown5
           have HO5 := Lib.hid hown5
           clear hown5 hbel5)
        | (at_builtin
           refine wpList_append_own _ rfl (.tmp 43) (.tmp 46) 22 rfl w.heap.size 3 i0 _ 1 8 Try.underlying22 hi0 hz0 hz1 hz2 rfl (by decide) _ (k + 1) _ rfl HO5.out X2 (m.length - k) (cp - k) (ints (m.drop k)) rfl HL2.out ?_ (ints_one _) (by unfold maxLen; omega) (by omega) HB5.out.size ?_
           · intro j u hu
             have hj := (List.getElem?_eq_some_iff.1 hu).1
             have hl2 := HL2.out
             rw [HX2.out (by omega)]
             have h5 := HCE.out (k + j) u (by
               unfold ints at hu ⊢
               rw [List.map_drop, List.getElem?_drop] at hu
               exact hu)
             rw [Addr.add_lit] at h5 ⊢
             rw [show 0 + k + j = 0 + (k + j) from by omega]
             exact (HB5.out.cell (World.block_lt_of_cell? w _ h5)).trans h5
           intro v6 w6 hown6 hgr6 _
           have HB6 : Hid (Below w.heap.size w w6) := HB5.out.trans ((Below.refl _ _).grown hgr6 HB5.out.size (fun y hy => (HO5.out.lt y hy).1))
           have e6 : ints (m.take k) ++ [.int .i64 x] ++ ints (m.drop k) = ints (inI m x) := by rw [← HEQ.out]; simp [ints]
           have e7 : k + 1 + (m.length - k) = (inI m x).length := by rw [← HEQ.out, List.length_append, List.length_cons, List.length_take, List.length_drop]; omega
           rw [e6, e7] at hown6
           have h1l : 0 < (inI m x).length := by omega
           obtain ⟨g6, cp6, rfl, _⟩ := own_some hown6 h1l
           have HO6 := Lib.hid hown6
           have HE7 := Lib.hid e7
           clear hown6 hgr6 e6 e7))
      go_ret
      exact ⟨g6, cp6, rfl, own_mono HO6.out hB, HB6.out⟩
    · obtain ⟨q, hkq⟩ : ∃ q, k = q + 1 := ⟨k - 1, by omega⟩
      have hq : q < m.length := by omega
      have d0 : decide (0 < k) = true := by simp; omega
      have d0i : decide ((0 : Int) < (k : Int)) = true := by simp; omega
      have e1 : (k : Int) - 1 = (q : Int) := by omega
      have g1 := own_int_at HO.out q hq
      have HKQ := Lib.hid hkq
      clear hkq
      rcases Int.lt_trichotomy x m[q] with hlt | heq | hlt
      · have b2 : (m[q] == x) = false := by rw [beq_eq_false_iff_ne]; omega
        have b3 : decide (x < m[q]) = true := decide_eq_true hlt
        have HLT := Lib.hid hlt
        clear h0
        generalize hy : m[q] = y at g1 b2 b3 hlt
        clear hy
        go_wp2_with fail
        go_round
        case rel =>
          have hkq := HKQ.out
          refine ⟨q, by omega, by go_num, fun j hj h => ?_⟩
          by_cases e : j = q
          · subst e; exact HLT.out
          · exact HGT.out j hj (by omega)
        case measure => have hkq := HKQ.out; simp [intOf]; try omega
      · have HE : Hid (inI m x = m) := inI_there HA.out (by rw [heq]; exact List.getElem_mem _)
        have b2 : (m[q] == x) = true := by rw [beq_iff_eq]; exact heq.symm
        have b3 : decide (x < m[q]) = false := decide_eq_false (by omega)
        have hnl : ¬ x < m[q] := by omega
        clear heq h0
        generalize hy : m[q] = y at g1 b2 b3 hnl
        clear hy
        go_wp2_with fail
        go_ret
        rw [HE.out]
        exact ⟨g, cp, rfl, HO.out, Below.refl _ _⟩
      · have b2 : (m[q] == x) = false := by rw [beq_eq_false_iff_ne]; omega
        have b3 : decide (x < m[q]) = false := decide_eq_false (by omega)
        have hnl : ¬ x < m[q] := by omega
        have HK : Hid (∀ (j : Nat) (hj : j < m.length), j < k → m[j] < x) := fun j hj h => by
          have hkq := HKQ.out
          by_cases e : j = q
          · subst e; exact hlt
          · exact Int.lt_trans (List.pairwise_iff_getElem.1 HA.out j q hj hq (by omega)) hlt
        clear hlt h0
        generalize hy : m[q] = y at g1 b2 b3 hnl
        clear hy
        have HEQ : Hid (m.take k ++ x :: m.drop k = inI m x) := inI_at HA.out hk HGT.out HK.out
        obtain ⟨X1, hsl1, hX1⟩ := slice_upto Try.underlying22 sizeOf_int g 0 m.length cp k hk hcp
        obtain ⟨X2, hsl2, hX2⟩ := slice_from Try.underlying22 sizeOf_int g 0 m.length cp k hk hcp
        have HX1 := Lib.hid hX1
        have HX2 := Lib.hid hX2
        have HL1 : Hid ((ints (m.take k)).length = k * 1) := by show _ = _; rw [ints_length, List.length_take]; omega
        have HL2 : Hid ((ints (m.drop k)).length = (m.length - k) * 1) := by show _ = _; rw [ints_length, List.length_drop]; omega
        have HCE := Lib.hid (fun (j : Nat) (u : Value) (hu : (ints m)[j]? = some u) => HO.out.cells (g := g) rfl j u hu)
        clear hX1 hX2
        go_wp2_with (first
          | (at_builtin
             refine wpList_append_own _ rfl (.tmp 34) (.tmp 37) 22 rfl w.heap.size 3 i0 _ 1 8 Try.underlying22 hi0 hz0 hz1 hz2 rfl (by decide) _ 0 [] rfl (own_made0 _ _ _ (Nat.le_refl _)) X1 k cp (ints (m.take k)) rfl HL1.out ?_ (ints_one _) (by unfold maxLen; omega) (by omega) (by simp) ?_
             · intro j u hu
               rw [HX1.out]
               have h5 := HCE.out j u (by
                 unfold ints at hu ⊢
                 rw [List.map_take, List.getElem?_take] at hu
                 split at hu
                 · exact hu
                 · cases hu)
               rw [Addr.add_lit] at h5 ⊢
               exact (((Below.refl w.heap.size w).alloc (Nat.le_refl _) (.cells #[] 3)).cell (World.block_lt_of_cell? w _ h5)).trans h5
             intro v4 w4 hown4 hgr4 hnil4
             have HB4 : Hid (Below w.heap.size w w4) := ((Below.refl _ _).alloc (Nat.le_refl _) _).grown hgr4 (by simp) (fun y hy => ((own_made0 w w.heap.size 3 (Nat.le_refl _)).lt y hy).1)
             rw [Nat.zero_add, List.nil_append] at hown4
             obtain ⟨A4, cp4, rfl⟩ := own_slice hown4
             have HO4 := Lib.hid hown4
             clear hown4 hgr4 hnil4)
          | (at_builtin
             refine wpList_append1 _ rfl (.tmp 39) (.tmp 41) _ rfl w.heap.size 3 i0 _ 8 Try.underlying22 hi0 hz0 hz1 hz2 rfl _ k _ rfl HO4.out (.int .i64 x) rfl rfl (by unfold maxLen; omega) (by omega) HB4.out.size ?_
             intro v5 w5 hown5 hbel5
             have HB5 : Hid (Below w.heap.size w w5) := HB4.out.trans hbel5
             obtain ⟨A5, cp5, rfl⟩ := own_slice hown5
             have HO5 := Lib.hid hown5
             clear hown5 hbel5)
          | (at_builtin
             refine wpList_append_own _ rfl (.tmp 43) (.tmp 46) 22 rfl w.heap.size 3 i0 _ 1 8 Try.underlying22 hi0 hz0 hz1 hz2 rfl (by decide) _ (k + 1) _ rfl HO5.out X2 (m.length - k) (cp - k) (ints (m.drop k)) rfl HL2.out ?_ (ints_one _) (by unfold maxLen; omega) (by omega) HB5.out.size ?_
             · intro j u hu
               have hj := (List.getElem?_eq_some_iff.1 hu).1
               have hl2 := HL2.out
               rw [HX2.out (by omega)]
               have h5 := HCE.out (k + j) u (by
                 unfold ints at hu ⊢
                 rw [List.map_drop, List.getElem?_drop] at hu
                 exact hu)
               rw [Addr.add_lit] at h5 ⊢
               rw [show 0 + k + j = 0 + (k + j) from by omega]
               exact (HB5.out.cell (World.block_lt_of_cell? w _ h5)).trans h5
             intro v6 w6 hown6 hgr6 _
             have HB6 : Hid (Below w.heap.size w w6) := HB5.out.trans ((Below.refl _ _).grown hgr6 HB5.out.size (fun y hy => (HO5.out.lt y hy).1))
             have e6 : ints (m.take k) ++ [.int .i64 x] ++ ints (m.drop k) = ints (inI m x) := by rw [← HEQ.out]; simp [ints]
             have e7 : k + 1 + (m.length - k) = (inI m x).length := by rw [← HEQ.out, List.length_append, List.length_cons, List.length_take, List.length_drop]; omega
             rw [e6, e7] at hown6
             have h1l : 0 < (inI m x).length := by omega
             obtain ⟨g6, cp6, rfl, _⟩ := own_some hown6 h1l
             have HO6 := Lib.hid hown6
             have HE7 := Lib.hid e7
             clear hown6 hgr6 e6 e7))
        go_ret
        exact ⟨g6, cp6, rfl, own_mono HO6.out hB, HB6.out⟩
end Go.Proofs.Ytcdchieielpahaa
