/- Texts put together. -/
import Derived.Test.YtcdchieielpahaaMgE9
import Derived.Test.YtcdchieielpahaaMgE11
import Derived.Test.YtcdchieielpahaaMgE16
import Derived.Test.YtcdchieielpahaaMgE21
import Derived.IntWalk
import Derived.Deep.CutBlock
/- A struct of one slice of strings as a result; small facts on new rows. No condition. -/
namespace Go.Proofs.Ytcdchieielpahaa
open Go.RowKit

/-- a struct of one slice of strings, and whether there is one -/
def SubSaid (r : List ByteArray) (ok : Bool) (w : World) (e : Ending) (w' : World) : Prop := ∃ v, e = .returned (.tuple #[.agg #[v], .bool ok]) ∧ w'.ownsRow w.heap.size 9 1 v r.length (strs r) ∧ Below w.heap.size w w'
theorem cell_one (w : World) (e : TypeId) (y : Value) (j : Nat) (u : Value) (hu : [y][j]? = some u) : (w.alloc (.cells #[y] e)).cell? ((⟨w.heap.size, 0, none⟩ : Addr).add j) = some u := by
  rcases j with _ | j
  · simp at hu
    subst hu
    rw [Addr.add_lit, World.cell?_alloc_at _ _ _ _ (by simp)]
    rfl
  · simp at hu
end Go.Proofs.Ytcdchieielpahaa

/- DeterminantOf of the model. Conditions: lengths of at most 2^20. -/
namespace Go.Proofs.Ytcdchieielpahaa
open Go.RowKit

/-- a row of a matrix, cell by cell -/
theorem sqn_row {w : World} {v : Value} {n : Nat} {m : List (List Int)} (h : Mat w v m) (hs : SqN n m) (h0 : 0 < n) : ∃ b off cap, v = .slice (some ⟨b, off, none⟩) n cap ∧ n ≤ cap ∧ ∀ k (hk : k < m.length), ∃ b2 off2 cap2, w.cell? ⟨b, off + k, none⟩ = some (.slice (some ⟨b2, off2, none⟩) n cap2) ∧ n ≤ cap2 ∧ ∀ (j : Nat) u, (ints m[k])[j]? = some u → w.cell? ⟨b2, off2 + j, none⟩ = some u := by
  obtain ⟨h1, h5, _⟩ := hs
  obtain ⟨b, off, cap, e, q1, q2, hr⟩ := mat_rows h (by omega)
  rw [h1] at e q1
  refine ⟨b, off, cap, e, q1, fun k hk => ?_⟩
  obtain ⟨u, g1, ⟨A, cap2, e2, c1, c2, h2⟩⟩ := hr k hk
  rw [ints_length, h5 k hk] at e2 c1
  replace h2 := h2.resolve_left (by
    intro e
    have := congrArg List.length e
    rw [ints_length, h5 k hk] at this
    simp only [List.length_nil] at this
    omega)
  obtain ⟨b2, off2, rfl, h2⟩ := h2
  exact ⟨b2, off2, cap2, by rw [g1, e2], c1, fun j u hu => h2 j u hu⟩

theorem ints_one (l : List Int) : ∀ u ∈ ints l, u.oneCell' = true := by
  intro u hu
  simp only [ints, List.mem_map] at hu
  obtain ⟨x, _, rfl⟩ := hu
  rfl
theorem ints_take_get (l : List Int) (k j : Nat) (u : Value) (h : (ints (l.take k))[j]? = some u) : (ints l)[j]? = some u := by
  simp only [ints, List.getElem?_map, List.getElem?_take] at h ⊢
  split at h
  · exact h
  · simp at h
theorem ints_drop_get (l : List Int) (k j : Nat) (u : Value) (h : (ints (l.drop k))[j]? = some u) : (ints l)[k + j]? = some u := by
  simpa only [ints, List.getElem?_map, List.getElem?_drop] using h

end Go.Proofs.Ytcdchieielpahaa

/- Chapter 12 of the model: l11Insert. Condition: an ascending row of the call's own. -/
namespace Go.Proofs.Ytcdchieielpahaa
open Go.RowKit

theorem own_int_at {w : World} {B g cp n : Nat} {m : List Int} (h : w.ownsRow B 3 1 (.slice (some ⟨g, 0, none⟩) n cp) n (ints m)) (k : Nat) (hk : k < m.length) : w.cell? ⟨g, k, none⟩ = some (.int .i64 m[k]) := by
  have := h.cells (g := g) rfl k (.int .i64 m[k]) (by unfold ints; rw [List.getElem?_map, List.getElem?_eq_getElem hk]; rfl)
  rwa [Addr.add_lit, Nat.zero_add] at this
set_option maxHeartbeats 1000000 in
theorem specInsertI (m : List Int) (g cp : Nat) (x : Int) (w : World) (B : Nat) (h : w.ownsRow B 3 1 (.slice (some ⟨g, 0, none⟩) m.length cp) m.length (ints m)) (ha : AscI m) (hm : m.length ≤ 4000) (hB : B ≤ w.heap.size) :
    Calls Try.prog 34 #[.slice (some ⟨g, 0, none⟩) m.length cp, .int .i64 x] w fun e w' => ∃ g' cp', e = .returned (.slice (some ⟨g', 0, none⟩) (inI m x).length cp') ∧ w'.ownsRow B 3 1 (.slice (some ⟨g', 0, none⟩) (inI m x).length cp') (inI m x).length (ints (inI m x)) ∧ Below w.heap.size w w' := by
  obtain ⟨i0, hi0, hz0, hz1, hz2⟩ := info_parts int_info
  have HO := Lib.hid h
  have HA := Lib.hid ha
  have hcp : m.length ≤ cp := by
    rcases h.2 with ⟨e, _⟩ | ⟨_, _, _, e, _, _, hnc, _⟩
    · injection e with e _ _; cases e
    · injection e with _ _ e; omega
  clear h ha
  go_enter Try.func34, Try.ntmps34
  go_wp2
  go_loop [5] (fun i => ∃ k : Nat, k ≤ m.length ∧ i = .int .i64 k ∧ ∀ (j : Nat) (hj : j < m.length), k ≤ j → x < m[j]) (fun i => (intOf i).toNat)
  case atStart => exact ⟨m.length, Nat.le_refl _, rfl, fun j h1 h2 => absurd h1 (by omega)⟩
  case round =>
    obtain ⟨k, hk, rfl, hgt⟩ := hrel
    have HGT := Lib.hid hgt
    clear hgt
    by_cases h0 : k = 0
    · have d0 : decide (0 < k) = false := by simp; omega
      have d0i : decide ((0 : Int) < (k : Int)) = false := by simp; omega
      have HK : Hid (∀ (j : Nat) (hj : j < m.length), j < k → m[j] < x) := fun j hj h => absurd h (by omega)
      clear h0
      have HEQ : Hid (m.take k ++ x :: m.drop k = inI m x) := inI_at HA.out hk HGT.out HK.out
      obtain ⟨X1, hsl1, hX1⟩ := slice_upto Try.underlying22 sizeOf_int g 0 m.length cp k hk hcp
      obtain ⟨X2, hsl2, hX2⟩ := slice_from Try.underlying22 sizeOf_int g 0 m.length cp k hk hcp
      have HX1 := Lib.hid hX1
      have HX2 := Lib.hid hX2
      have HL1 : Hid ((ints (m.take k)).length = k * 1) := by show _ = _; rw [ints_length, List.length_take]; omega
      have HL2 : Hid ((ints (m.drop k)).length = (m.length - k) * 1) := by show _ = _; rw [ints_length, List.length_drop]; omega
      have HCE := Lib.hid (fun (j : Nat) (u : Value) (hu : (ints m)[j]? = some u) => HO.out.cells (g := g) rfl j u hu)
      clear hX1 hX2
      go_wp2_with (first
        | (at_builtin
           refine wpList_append_own _ rfl (.tmp 34) (.tmp 37) 22 rfl w.heap.size 3 i0 _ 1 8 Try.underlying22 hi0 hz0 hz1 hz2 rfl (by decide) _ 0 [] rfl (own_made0 _ _ _ (Nat.le_refl _)) X1 k cp (ints (m.take k)) rfl HL1.out ?_ (ints_one _) (by unfold maxLen; omega) (by omega) (by simp) ?_
           · intro j u hu
             rw [HX1.out]
             have h5 := HCE.out j u (by
               unfold ints at hu ⊢
               rw [List.map_take, List.getElem?_take] at hu
               split at hu
               · exact hu
               · cases hu)
             rw [Addr.add_lit] at h5 ⊢
             exact (((Below.refl w.heap.size w).alloc (Nat.le_refl _) (.cells #[] 3)).cell (World.block_lt_of_cell? w _ h5)).trans h5
           intro v4 w4 hown4 hgr4 hnil4
           have HB4 : Hid (Below w.heap.size w w4) := ((Below.refl _ _).alloc (Nat.le_refl _) _).grown hgr4 (by simp) (fun y hy => ((own_made0 w w.heap.size 3 (Nat.le_refl _)).lt y hy).1)
           rw [Nat.zero_add, List.nil_append] at hown4
           obtain ⟨A4, cp4, rfl⟩ := own_slice hown4
           have HO4 := Lib.hid hown4
           clear hown4 hgr4 hnil4)
        | (at_builtin
           refine wpList_append1 _ rfl (.tmp 39) (.tmp 41) _ rfl w.heap.size 3 i0 _ 8 Try.underlying22 hi0 hz0 hz1 hz2 rfl _ k _ rfl HO4.out (.int .i64 x) rfl rfl (by unfold maxLen; omega) (by omega) HB4.out.size ?_
           intro v5 w5 hown5 hbel5
           have HB5 : Hid (Below w.heap.size w w5) := HB4.out.trans hbel5
           obtain ⟨A5, cp5, rfl⟩ := own_slice hown5
           have HO5 := Lib.hid hown5
           clear hown5 hbel5)
        | (at_builtin
           refine wpList_append_own _ rfl (.tmp 43) (.tmp 46) 22 rfl w.heap.size 3 i0 _ 1 8 Try.underlying22 hi0 hz0 hz1 hz2 rfl (by decide) _ (k + 1) _ rfl HO5.out X2 (m.length - k) (cp - k) (ints (m.drop k)) rfl HL2.out ?_ (ints_one _) (by unfold maxLen; omega) (by omega) HB5.out.size ?_
           · intro j u hu
             have hj := (List.getElem?_eq_some_iff.1 hu).1
             have hl2 := HL2.out
             rw [HX2.out (by omega)]
             have h5 := HCE.out (k + j) u (by
               unfold ints at hu ⊢
               rw [List.map_drop, List.getElem?_drop] at hu
               exact hu)
             rw [Addr.add_lit] at h5 ⊢
             rw [show 0 + k + j = 0 + (k + j) from by omega]
             exact (HB5.out.cell (World.block_lt_of_cell? w _ h5)).trans h5
           intro v6 w6 hown6 hgr6 _
           have HB6 : Hid (Below w.heap.size w w6) := HB5.out.trans ((Below.refl _ _).grown hgr6 HB5.out.size (fun y hy => (HO5.out.lt y hy).1))
           have e6 : ints (m.take k) ++ [.int .i64 x] ++ ints (m.drop k) = ints (inI m x) := by rw [← HEQ.out]; simp [ints]
           have e7 : k + 1 + (m.length - k) = (inI m x).length := by rw [← HEQ.out, List.length_append, List.length_cons, List.length_take, List.length_drop]; omega
           rw [e6, e7] at hown6
           have h1l : 0 < (inI m x).length := by omega
           obtain ⟨g6, cp6, rfl, _⟩ := own_some hown6 h1l
           have HO6 := Lib.hid hown6
           have HE7 := Lib.hid e7
           clear hown6 hgr6 e6 e7))
      go_ret
      exact ⟨g6, cp6, rfl, own_mono HO6.out hB, HB6.out⟩
    · obtain ⟨q, hkq⟩ : ∃ q, k = q + 1 := ⟨k - 1, by omega⟩
      have hq : q < m.length := by omega
      have d0 : decide (0 < k) = true := by simp; omega
      have d0i : decide ((0 : Int) < (k : Int)) = true := by simp; omega
      have e1 : (k : Int) - 1 = (q : Int) := by omega
      have g1 := own_int_at HO.out q hq
      have HKQ := Lib.hid hkq
      clear hkq
      rcases Int.lt_trichotomy x m[q] with hlt | heq | hlt
      · have b2 : (m[q] == x) = false := by rw [beq_eq_false_iff_ne]; omega
        have b3 : decide (x < m[q]) = true := decide_eq_true hlt
        have HLT := Lib.hid hlt
        clear h0
        generalize hy : m[q] = y at g1 b2 b3 hlt
        clear hy
        go_wp2_with fail
        go_round
        case rel =>
          have hkq := HKQ.out
          refine ⟨q, by omega, by go_num, fun j hj h => ?_⟩
          by_cases e : j = q
          · subst e; exact HLT.out
          · exact HGT.out j hj (by omega)
        case measure => have hkq := HKQ.out; simp [intOf]; try omega
      · have HE : Hid (inI m x = m) := inI_there HA.out (by rw [heq]; exact List.getElem_mem _)
        have b2 : (m[q] == x) = true := by rw [beq_iff_eq]; exact heq.symm
        have b3 : decide (x < m[q]) = false := decide_eq_false (by omega)
        have hnl : ¬ x < m[q] := by omega
        clear heq h0
        generalize hy : m[q] = y at g1 b2 b3 hnl
        clear hy
        go_wp2_with fail
        go_ret
        rw [HE.out]
        exact ⟨g, cp, rfl, HO.out, Below.refl _ _⟩
      · have b2 : (m[q] == x) = false := by rw [beq_eq_false_iff_ne]; omega
        have b3 : decide (x < m[q]) = false := decide_eq_false (by omega)
        have hnl : ¬ x < m[q] := by omega
        have HK : Hid (∀ (j : Nat) (hj : j < m.length), j < k → m[j] < x) := fun j hj h => by
          have hkq := HKQ.out
          by_cases e : j = q
          · subst e; exact hlt
          · exact Int.lt_trans (List.pairwise_iff_getElem.1 HA.out j q hj hq (by omega)) hlt
        clear hlt h0
        generalize hy : m[q] = y at g1 b2 b3 hnl
        clear hy
        have HEQ : Hid (m.take k ++ x :: m.drop k = inI m x) := inI_at HA.out hk HGT.out HK.out
        obtain ⟨X1, hsl1, hX1⟩ := slice_upto Try.underlying22 sizeOf_int g 0 m.length cp k hk hcp
        obtain ⟨X2, hsl2, hX2⟩ := slice_from Try.underlying22 sizeOf_int g 0 m.length cp k hk hcp
        have HX1 := Lib.hid hX1
        have HX2 := Lib.hid hX2
        have HL1 : Hid ((ints (m.take k)).length = k * 1) := by show _ = _; rw [ints_length, List.length_take]; omega
        have HL2 : Hid ((ints (m.drop k)).length = (m.length - k) * 1) := by show _ = _; rw [ints_length, List.length_drop]; omega
        have HCE := Lib.hid (fun (j : Nat) (u : Value) (hu : (ints m)[j]? = some u) => HO.out.cells (g := g) rfl j u hu)
        clear hX1 hX2
        go_wp2_with (first
          | (at_builtin
             refine wpList_append_own _ rfl (.tmp 34) (.tmp 37) 22 rfl w.heap.size 3 i0 _ 1 8 Try.underlying22 hi0 hz0 hz1 hz2 rfl (by decide) _ 0 [] rfl (own_made0 _ _ _ (Nat.le_refl _)) X1 k cp (ints (m.take k)) rfl HL1.out ?_ (ints_one _) (by unfold maxLen; omega) (by omega) (by simp) ?_
             · intro j u hu
               rw [HX1.out]
               have h5 := HCE.out j u (by
                 unfold ints at hu ⊢
                 rw [List.map_take, List.getElem?_take] at hu
                 split at hu
                 · exact hu
                 · cases hu)
               rw [Addr.add_lit] at h5 ⊢
               exact (((Below.refl w.heap.size w).alloc (Nat.le_refl _) (.cells #[] 3)).cell (World.block_lt_of_cell? w _ h5)).trans h5
             intro v4 w4 hown4 hgr4 hnil4
             have HB4 : Hid (Below w.heap.size w w4) := ((Below.refl _ _).alloc (Nat.le_refl _) _).grown hgr4 (by simp) (fun y hy => ((own_made0 w w.heap.size 3 (Nat.le_refl _)).lt y hy).1)
             rw [Nat.zero_add, List.nil_append] at hown4
             obtain ⟨A4, cp4, rfl⟩ := own_slice hown4
             have HO4 := Lib.hid hown4
             clear hown4 hgr4 hnil4)
          | (at_builtin
             refine wpList_append1 _ rfl (.tmp 39) (.tmp 41) _ rfl w.heap.size 3 i0 _ 8 Try.underlying22 hi0 hz0 hz1 hz2 rfl _ k _ rfl HO4.out (.int .i64 x) rfl rfl (by unfold maxLen; omega) (by omega) HB4.out.size ?_
             intro v5 w5 hown5 hbel5
             have HB5 : Hid (Below w.heap.size w w5) := HB4.out.trans hbel5
             obtain ⟨A5, cp5, rfl⟩ := own_slice hown5
             have HO5 := Lib.hid hown5
             clear hown5 hbel5)
          | (at_builtin
             refine wpList_append_own _ rfl (.tmp 43) (.tmp 46) 22 rfl w.heap.size 3 i0 _ 1 8 Try.underlying22 hi0 hz0 hz1 hz2 rfl (by decide) _ (k + 1) _ rfl HO5.out X2 (m.length - k) (cp - k) (ints (m.drop k)) rfl HL2.out ?_ (ints_one _) (by unfold maxLen; omega) (by omega) HB5.out.size ?_
             · intro j u hu
               have hj := (List.getElem?_eq_some_iff.1 hu).1
               have hl2 := HL2.out
               rw [HX2.out (by omega)]
               have h5 := HCE.out (k + j) u (by
                 unfold ints at hu ⊢
                 rw [List.map_drop, List.getElem?_drop] at hu
                 exact hu)
               rw [Addr.add_lit] at h5 ⊢
               rw [show 0 + k + j = 0 + (k + j) from by omega]
               exact (HB5.out.cell (World.block_lt_of_cell? w _ h5)).trans h5
             intro v6 w6 hown6 hgr6 _
             have HB6 : Hid (Below w.heap.size w w6) := HB5.out.trans ((Below.refl _ _).grown hgr6 HB5.out.size (fun y hy => (HO5.out.lt y hy).1))
             have e6 : ints (m.take k) ++ [.int .i64 x] ++ ints (m.drop k) = ints (inI m x) := by rw [← HEQ.out]; simp [ints]
             have e7 : k + 1 + (m.length - k) = (inI m x).length := by rw [← HEQ.out, List.length_append, List.length_cons, List.length_take, List.length_drop]; omega
             rw [e6, e7] at hown6
             have h1l : 0 < (inI m x).length := by omega
             obtain ⟨g6, cp6, rfl, _⟩ := own_some hown6 h1l
             have HO6 := Lib.hid hown6
             have HE7 := Lib.hid e7
             clear hown6 hgr6 e6 e7))
        go_ret
        exact ⟨g6, cp6, rfl, own_mono HO6.out hB, HB6.out⟩
end Go.Proofs.Ytcdchieielpahaa

/- Chapter 12 of the model: GapLengths, ReturnTimes; ReturnTime and CountIn with Below. No conditions. -/
namespace Go.Proofs.Ytcdchieielpahaa
open Go.RowKit Go.Lib

theorem inI_length : ∀ (l : List Int) (x : Int), (inI l x).length ≤ l.length + 1
  | [], x => by simp [inI]
  | a :: l, x => by
    have := inI_length l x
    unfold inI
    split
    · simp
    · split
      · simp; omega
      · simp
theorem glTo_len (l : List Int) : ∀ k, (glTo l k).length ≤ k
  | 0 => Nat.le_refl _
  | k + 1 => by
    have := glTo_len l k
    have := inI_length (glTo l k) (l.getD k 0)
    show (inI _ _).length ≤ k + 1
    omega
theorem glTo_asc (l : List Int) : ∀ k, AscI (glTo l k)
  | 0 => List.Pairwise.nil
  | k + 1 => inI_asc _ (glTo_asc l k)
theorem rsTo_len (p q a b : Int) : ∀ k, (rsTo p q a b k).length ≤ k
  | 0 => Nat.le_refl _
  | k + 1 => by
    have := rsTo_len p q a b k
    have := inI_length (rsTo p q a b k) (rtT p q a b (a + (k : Int)))
    unfold rsTo
    split <;> omega
theorem rsTo_asc (p q a b : Int) : ∀ k, AscI (rsTo p q a b k)
  | 0 => List.Pairwise.nil
  | k + 1 => by
    unfold rsTo
    split
    · exact inI_asc _ (rsTo_asc p q a b k)
    · exact rsTo_asc p q a b k
theorem gpR_len (p q n : Int) : (gpR p q n).length ≤ 1000 := by
  unfold gpR
  rw [ds_len]
  exact (pt_facts p q n).1
theorem ptR_len (p q n : Int) : (ptR p q n).length ≤ 1000 := (pt_facts p q n).1
theorem glnR_len (p q n : Int) : (glnR p q n).length ≤ 1000 := Nat.le_trans (glTo_len _ _) (gpR_len p q n)
theorem rsR_len (p q a b : Int) : (rsR p q a b).length ≤ 1000 := by
  by_cases hok : (arOk p q a b && decide (a ≤ b)) = true
  · have hv : rsR p q a b = rsTo p q a b (b - a + 1).toNat := if_pos hok
    rw [hv]
    have := rsTo_len p q a b (b - a + 1).toNat
    unfold arOk at hok
    simp only [Bool.and_eq_true, decide_eq_true_eq] at hok
    omega
  · have hv : rsR p q a b = [] := if_neg hok
    rw [hv]
    exact Nat.zero_le _

set_option maxRecDepth 100000 in
set_option maxHeartbeats 1000000 in
theorem specGapLengths (p q n : Int) (w : World) :
    Calls Try.prog 18 #[.int .i64 p, .int .i64 q, .int .i64 n] w fun e w' => ∃ v, e = .returned v ∧ w'.ownsRow w.heap.size 3 1 v (glnR p q n).length (ints (glnR p q n)) ∧ Below w.heap.size w w' := by
  have HGO := Lib.hid (fun w => specGapsOf p q n w)
  have hl := gpR_len p q n
  have HV : Hid (glnR p q n = glTo (gpR p q n) (gpR p q n).length) := rfl
  generalize glnR p q n = R at *
  generalize gpR p q n = l at *
  have HNX : Hid (∀ k, glTo l (k + 1) = inI (glTo l k) (l.getD k 0)) := fun _ => rfl
  have HLE := Lib.hid (glTo_len l)
  have HAS := Lib.hid (glTo_asc l)
  have H0 : Hid (glTo l 0 = []) := rfl
  generalize glTo l = T at *
  go_enter Try.func18, Try.ntmps18
  go_wp2_with fail
  refine (HGO.out _).mono ?_
  rintro e w1 ⟨v, rfl, ho, hb1⟩
  have HO := Lib.hid ho
  have HR0 := Lib.hid (own_below (own_made0 w w.heap.size 3 (Nat.le_refl _)) hb1)
  have HBW : Hid (Below w.heap.size w w1) := ((Below.refl _ _).alloc (Nat.le_refl _) _).trans (hb1.mono (by simp))
  have hsz1 : w.heap.size ≤ w1.heap.size := HBW.out.size
  obtain ⟨A, cp, rfl⟩ := own_slice ho
  clear ho hb1
  go_wp2_with fail
  go_loopw [7, 16] (fun o iv w' => ∃ (k g cp : Nat), k ≤ l.length ∧ iv = .int .i64 (k : Int) ∧ o = .slice (some ⟨g, 0, none⟩) (T k).length cp ∧ w'.ownsRow w.heap.size 3 1 o (T k).length (ints (T k)) ∧ Below w1.heap.size w1 w') (fun _ iv _ => l.length - (intOf iv).toNat)
  case atStart =>
    refine ⟨0, _, 0, Nat.zero_le _, rfl, by rw [H0.out]; rfl, ?_, Below.refl _ _⟩
    rw [H0.out]
    exact HR0.out
  case round =>
    obtain ⟨k, g3, cp3, hk, rfl, rfl, ho3, hb3⟩ := hrel
    have HO3 := Lib.hid ho3
    have HB3 := Lib.hid hb3
    have hbz := hb3.size
    clear ho3 hb3
    by_cases hlt : k < l.length
    · obtain ⟨g, cp', he, _⟩ := own_some HO.out (by omega)
      injection he with he _ he2
      subst he; subst he2
      have hgl := (HO.out.lt g rfl).2
      have hlt' : (k : Int) < (l.length : Int) := by omega
      have ck : wr.cell? ⟨g, k, none⟩ = some (.int .i64 (l.getD k 0)) := (HB3.out.cell (p := ⟨g, k, none⟩) hgl).trans ((World.ownsRow.cellAt HO.out k (by omega)).trans (ints_getD hlt))
      have HN := Lib.hid (HNX.out k)
      generalize l.getD k 0 = x at *
      have HCALL := Lib.hid (fun wx h hz => specInsertI (T k) g3 cp3 x wx w.heap.size h (HAS.out k) (by have := HLE.out k; omega) hz)
      have HLK := Lib.hid (HLE.out (k + 1))
      generalize T k = m at HO3 HN HCALL ⊢
      go_wp2_with fail
      refine (HCALL.out _ HO3.out (by omega)).mono ?_
      rintro e w2 ⟨g2, cp2, rfl, ho2, hb2⟩
      have HO2 := Lib.hid ho2
      have HB2 : Hid (Below w1.heap.size w1 w2) := HB3.out.trans (hb2.mono hbz)
      clear ho2 hb2
      go_wp2_with fail
      go_roundw
      case rel => exact ⟨k + 1, g2, cp2, by omega, by go_num, by rw [HN.out], by rw [HN.out]; exact HO2.out, HB2.out⟩
      case measure => simp [intOf]; omega
    · have hkl : k = l.length := by omega
      subst hkl
      have hlt' : ¬ (l.length : Int) < (l.length : Int) := by omega
      have HR : Hid (R = T l.length) := HV.out
      generalize T l.length = m at *
      go_wp2_with fail
      go_ret
      exact ⟨_, rfl, by rw [HR.out]; exact HO3.out, HBW.out.trans (HB3.out.mono hsz1)⟩

set_option maxRecDepth 100000 in
set_option maxHeartbeats 1000000 in
theorem specReturnTimes (p q a b : Int) (w : World) :
    Calls Try.prog 24 #[.int .i64 p, .int .i64 q, .int .i64 a, .int .i64 b] w fun e w' => ∃ v, e = .returned v ∧ w'.ownsRow w.heap.size 3 1 v (rsR p q a b).length (ints (rsR p q a b)) ∧ Below w.heap.size w w' := by
  have HAR := Lib.hid (fun w => specArc p q a b w)
  by_cases hok : (arOk p q a b && decide (a ≤ b)) = true
  · have HV : Hid (rsR p q a b = rsTo p q a b (b - a + 1).toNat) := if_pos hok
    rw [Bool.and_eq_true, decide_eq_true_eq] at hok
    obtain ⟨h1, hab⟩ := hok
    rw [h1] at HAR
    have hh := h1
    unfold arOk at hh
    simp only [Bool.and_eq_true, decide_eq_true_eq] at hh
    have hq : 1 ≤ q ∧ q ≤ 1000 := hh.1
    have ha : 0 ≤ a ∧ a ≤ q - 1 := hh.2.2.1
    have hb : 0 ≤ b ∧ b ≤ q - 1 := hh.2.2.2
    clear hh h1
    have HRT := Lib.hid (fun f w => specReturnTimeQ p q a b f w)
    have HNX : Hid (∀ k : Nat, (0 < rtT p q a b (a + (k : Int)) → rsTo p q a b (k + 1) = inI (rsTo p q a b k) (rtT p q a b (a + (k : Int)))) ∧ (¬ 0 < rtT p q a b (a + (k : Int)) → rsTo p q a b (k + 1) = rsTo p q a b k)) := fun k => ⟨fun h => if_pos h, fun h => if_neg h⟩
    have HLE := Lib.hid (rsTo_len p q a b)
    have HAS := Lib.hid (rsTo_asc p q a b)
    have H0 : Hid (rsTo p q a b 0 = []) := rfl
    obtain ⟨M, hM⟩ : ∃ M : Nat, (b - a + 1).toNat = M := ⟨_, rfl⟩
    have hMa : b - a + 1 = (M : Int) := by omega
    rw [hM] at HV
    clear hM
    generalize rsR p q a b = R at *
    generalize rsTo p q a b = T at *
    generalize rtT p q a b = F at *
    have hgt : ¬ a > b := by omega
    go_enter Try.func24, Try.ntmps24
    go_wp2_with fail
    refine (HAR.out _).mono ?_
    rintro e w' ⟨rfl, rfl⟩
    go_wp2_with fail
    go_loopw [9, 10] (fun o iv w' => ∃ (k g cp : Nat), k ≤ M ∧ iv = .int .i64 (a + (k : Int)) ∧ o = .slice (some ⟨g, 0, none⟩) (T k).length cp ∧ w'.ownsRow w.heap.size 3 1 o (T k).length (ints (T k)) ∧ Below w.heap.size w w') (fun _ iv _ => (b + 1 - intOf iv).toNat)
    case atStart =>
      refine ⟨0, _, 0, Nat.zero_le _, by rw [show a + ((0 : Nat) : Int) = a from by omega], by rw [H0.out]; rfl, ?_, (Below.refl _ _).alloc (Nat.le_refl _) _⟩
      rw [H0.out]
      exact own_made0 w _ _ (Nat.le_refl _)
    case round =>
      obtain ⟨k, g3, cp3, hk, rfl, rfl, ho3, hb3⟩ := hrel
      have HO3 := Lib.hid ho3
      have HB3 := Lib.hid hb3
      have hbz := hb3.size
      clear ho3 hb3
      by_cases hlt : k < M
      · have hlt' : a + (k : Int) ≤ b := by omega
        have HN := Lib.hid (HNX.out k)
        have HC := Lib.hid (fun w => HRT.out (a + (k : Int)) w)
        have hwr : wrap64 (a + (k : Int) + 1) = a + (k : Int) + 1 := IntWalk.wrap64_in _ (by omega)
        have HCALL := Lib.hid (fun wx h hz => specInsertI (T k) g3 cp3 (F (a + (k : Int))) wx w.heap.size h (HAS.out k) (by have := HLE.out k; omega) hz)
        generalize F (a + (k : Int)) = x at *
        generalize hTk : T k = m at HO3 HN HCALL ⊢
        go_wp2_with fail
        refine (HC.out _).mono ?_
        rintro e w2 ⟨rfl, rfl⟩
        by_cases hx : 0 < x
        · have HN1 := Lib.hid (HN.out.1 (by omega))
          have hx' : x > 0 := hx
          clear HN
          go_wp2_with fail
          refine (HCALL.out _ HO3.out hbz).mono ?_
          rintro e w2 ⟨g2, cp2, rfl, ho2, hb2⟩
          have HO2 := Lib.hid ho2
          have HB2 : Hid (Below w.heap.size w w2) := HB3.out.trans (hb2.mono hbz)
          clear ho2 hb2
          go_wp2_with fail
          go_roundw
          case rel => exact ⟨k + 1, g2, cp2, by omega, by go_num, by rw [HN1.out], by rw [HN1.out]; exact HO2.out, HB2.out⟩
          case measure => simp [intOf]; omega
        · have HN1 := Lib.hid (HN.out.2 (by omega))
          have hx' : ¬ x > 0 := hx
          clear HN
          go_wp2_with fail
          go_roundw
          case rel => exact ⟨k + 1, g3, cp3, by omega, by go_num, by rw [HN1.out], by rw [HN1.out]; exact HO3.out, HB3.out⟩
          case measure => simp [intOf]; omega
      · have hkl : k = M := by omega
        subst hkl
        have hlt' : ¬ a + (k : Int) ≤ b := by omega
        have HR : Hid (R = T k) := HV.out
        generalize T k = m at *
        go_wp2_with fail
        go_ret
        exact ⟨_, rfl, by rw [HR.out]; exact HO3.out, HB3.out⟩
  · have HV : Hid (rsR p q a b = []) := if_neg hok
    cases h1 : arOk p q a b
    · rw [h1] at HAR
      clear h1 hok
      generalize rsR p q a b = R at *
      go_enter Try.func24, Try.ntmps24
      go_wp2_with fail
      refine (HAR.out _).mono ?_
      rintro e w' ⟨rfl, rfl⟩
      go_wp2_with fail
      go_ret
      exact ⟨_, rfl, by rw [HV.out]; exact ⟨by rfl, .inl ⟨rfl, rfl⟩⟩, Below.refl _ _⟩
    · rw [h1] at HAR
      have hab : a > b := by
        rw [h1, Bool.true_and, decide_eq_true_eq] at hok
        omega
      clear h1 hok
      generalize rsR p q a b = R at *
      go_enter Try.func24, Try.ntmps24
      go_wp2_with fail
      refine (HAR.out _).mono ?_
      rintro e w' ⟨rfl, rfl⟩
      go_wp2_with fail
      go_ret
      exact ⟨_, rfl, by rw [HV.out]; exact ⟨by rfl, .inl ⟨rfl, rfl⟩⟩, Below.refl _ _⟩

theorem specReturnTime (p q a b f : Int) (w : World) :
    Calls Try.prog 22 #[.int .i64 p, .int .i64 q, .int .i64 a, .int .i64 b, .int .i64 f] w fun e w' => e = .returned (.int .i64 (rtT p q a b f)) ∧ Below w.heap.size w w' := by
  exact (specReturnTimeQ p q a b f w).mono (fun _ _ h => ⟨h.1, by rw [← h.2]; exact Below.refl _ _⟩)
theorem specCountIn (p q n a b : Int) (w : World) :
    Calls Try.prog 26 #[.int .i64 p, .int .i64 q, .int .i64 n, .int .i64 a, .int .i64 b] w fun e w' => e = .returned (.int .i64 (ciR p q n a b)) ∧ Below w.heap.size w w' := by
  exact (specCountInQ p q n a b w).mono (fun _ _ h => ⟨h.1, by rw [← h.2]; exact Below.refl _ _⟩)
end Go.Proofs.Ytcdchieielpahaa
