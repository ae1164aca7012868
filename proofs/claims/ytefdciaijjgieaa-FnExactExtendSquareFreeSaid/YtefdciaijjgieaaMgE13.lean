/- Texts put together. -/
import Derived.Test.YtefdciaijjgieaaMgE7
import Derived.Test.YtefdciaijjgieaaMgE12
import Derived.Test.YtefdciaijjgieaaMgE2
import Derived.Test.YtefdciaijjgieaaMgE4
import Derived.Laws.Cover1
import Derived.Deep.CutBlock
import Derived.Test.YtefdciaijjgieaaMgE9
import Derived.Test.YtefdciaijjgieaaMgE1
import Derived.Test.YtefdciaijjgieaaChecked
import Derived.Maps.RangeWalk
import Derived.DeepKeys4
/- The factors of a fixed point, of the model. Conditions: lengths of at most 2^20. -/
namespace Go.Proofs.Ytefdciaijjgieaa
open Go.RowKit

theorem own_str_at {w : World} {B g cp n : Nat} {m : List ByteArray} (h : w.ownsRow B 9 1 (.slice (some ⟨g, 0, none⟩) n cp) n (strs m)) (k : Nat) (hk : k < m.length) : w.cell? ⟨g, k, none⟩ = some (.string m[k]) := by
  have := h.cells (g := g) rfl k (.string m[k]) (by simp [strs, hk])
  rwa [Addr.add_lit, Nat.zero_add] at this
theorem sizeOf_strs (w : World) : (sizeOf (Try.prog.elem 24)).run Try.prog w = .ok 1 w := by kernel_rfl
set_option maxHeartbeats 1000000 in
theorem specInsert (m : List ByteArray) (g cp : Nat) (x : ByteArray) (w : World) (B : Nat) (h : w.ownsRow B 9 1 (.slice (some ⟨g, 0, none⟩) m.length cp) m.length (strs m)) (ha : Asc m) (hm : m.length ≤ 1000) (hB : B ≤ w.heap.size) :
    Calls Try.prog 60 #[.slice (some ⟨g, 0, none⟩) m.length cp, .string x] w fun e w' => ∃ g' cp', e = .returned (.slice (some ⟨g', 0, none⟩) (insL m x).length cp') ∧ w'.ownsRow B 9 1 (.slice (some ⟨g', 0, none⟩) (insL m x).length cp') (insL m x).length (strs (insL m x)) ∧ Below w.heap.size w w' := by
  obtain ⟨i0, hi0, hz0, hz1, hz2⟩ := info_parts str_info
  have HO := Lib.hid h
  have HA := Lib.hid ha
  have hcp : m.length ≤ cp := by
    rcases h.2 with ⟨e, _⟩ | ⟨_, _, _, e, _, _, hnc, _⟩
    · injection e with e _ _; cases e
    · injection e with _ _ e; omega
  clear h ha
  go_enter Try.func60, Try.ntmps60
  go_wp2
  go_loop [5] (fun i => ∃ k : Nat, k ≤ m.length ∧ i = .int .i64 k ∧ ∀ (j : Nat) (hj : j < m.length), k ≤ j → lessB x m[j] = true) (fun i => (intOf i).toNat)
  case atStart => exact ⟨m.length, Nat.le_refl _, rfl, fun j h1 h2 => absurd h1 (by omega)⟩
  case round =>
    obtain ⟨k, hk, rfl, hgt⟩ := hrel
    have HGT := Lib.hid hgt
    clear hgt
    by_cases h0 : k = 0
    · have d0 : decide (0 < k) = false := by simp; omega
      have d0i : decide ((0 : Int) < (k : Int)) = false := by simp; omega
      have HK : Hid (∀ (j : Nat) (hj : j < m.length), j < k → lessB m[j] x = true) := fun j hj h => absurd h (by omega)
      clear h0
      have HEQ : Hid (m.take k ++ x :: m.drop k = insL m x) := insL_at HA.out hk HGT.out HK.out
      obtain ⟨X1, hsl1, hX1⟩ := slice_upto Try.underlying24 sizeOf_strs g 0 m.length cp k hk hcp
      obtain ⟨X2, hsl2, hX2⟩ := slice_from Try.underlying24 sizeOf_strs g 0 m.length cp k hk hcp
      have HX1 := Lib.hid hX1
      have HX2 := Lib.hid hX2
      have HL1 : Hid ((strs (m.take k)).length = k * 1) := by show _ = _; rw [strs_length, List.length_take]; omega
      have HL2 : Hid ((strs (m.drop k)).length = (m.length - k) * 1) := by show _ = _; rw [strs_length, List.length_drop]; omega
      have HCE := Lib.hid (fun (j : Nat) (u : Value) (hu : (strs m)[j]? = some u) => HO.out.cells (g := g) rfl j u hu)
      clear hX1 hX2
      go_wp2_with (first
        | (at_builtin
           refine wpList_append_own _ rfl (.tmp 34) (.tmp 37) 24 rfl w.heap.size 9 i0 _ 1 16 Try.underlying24 hi0 hz0 hz1 hz2 rfl (by decide) _ 0 [] rfl (own_made0 _ _ _ (Nat.le_refl _)) X1 k cp (strs (m.take k)) rfl HL1.out ?_ (strs_one _) (by unfold maxLen; omega) (by omega) (by simp) ?_
           · intro j u hu
             rw [HX1.out]
             have h5 := HCE.out j u (by
               unfold strs at hu ⊢
               rw [List.map_take, List.getElem?_take] at hu
               split at hu
               · exact hu
               · cases hu)
             rw [Addr.add_lit] at h5 ⊢
             exact (((Below.refl w.heap.size w).alloc (Nat.le_refl _) (.cells #[] 9)).cell (World.block_lt_of_cell? w _ h5)).trans h5
           intro v4 w4 hown4 hgr4 hnil4
           have HB4 : Hid (Below w.heap.size w w4) := ((Below.refl _ _).alloc (Nat.le_refl _) _).grown hgr4 (by simp) (fun y hy => ((own_made0 w w.heap.size 9 (Nat.le_refl _)).lt y hy).1)
           rw [Nat.zero_add, List.nil_append] at hown4
           obtain ⟨A4, cp4, rfl⟩ := own_slice hown4
           have HO4 := Lib.hid hown4
           clear hown4 hgr4 hnil4)
        | (at_builtin
           refine wpList_append1 _ rfl (.tmp 39) (.tmp 41) _ rfl w.heap.size 9 i0 _ 16 Try.underlying24 hi0 hz0 hz1 hz2 rfl _ k _ rfl HO4.out (.string x) rfl rfl (by unfold maxLen; omega) (by omega) HB4.out.size ?_
           intro v5 w5 hown5 hbel5
           have HB5 : Hid (Below w.heap.size w w5) := HB4.out.trans hbel5
           obtain ⟨A5, cp5, rfl⟩ := own_slice hown5
           have HO5 := Lib.hid hown5
           clear hown5 hbel5)
        | (at_builtin
           refine wpList_append_own _ rfl (.tmp 43) (.tmp 46) 24 rfl w.heap.size 9 i0 _ 1 16 Try.underlying24 hi0 hz0 hz1 hz2 rfl (by decide) _ (k + 1) _ rfl HO5.out X2 (m.length - k) (cp - k) (strs (m.drop k)) rfl HL2.out ?_ (strs_one _) (by unfold maxLen; omega) (by omega) HB5.out.size ?_
           · intro j u hu
             have hj := (List.getElem?_eq_some_iff.1 hu).1
             have hl2 := HL2.out
             rw [HX2.out (by omega)]
             have h5 := HCE.out (k + j) u (by
               unfold strs at hu ⊢
               rw [List.map_drop, List.getElem?_drop] at hu
               exact hu)
             rw [Addr.add_lit] at h5 ⊢
             rw [show 0 + k + j = 0 + (k + j) from by omega]
             exact (HB5.out.cell (World.block_lt_of_cell? w _ h5)).trans h5
           intro v6 w6 hown6 hgr6 _
           have HB6 : Hid (Below w.heap.size w w6) := HB5.out.trans ((Below.refl _ _).grown hgr6 HB5.out.size (fun y hy => (HO5.out.lt y hy).1))
           have e6 : strs (m.take k) ++ [.string x] ++ strs (m.drop k) = strs (insL m x) := by rw [← HEQ.out]; simp [strs]
           have e7 : k + 1 + (m.length - k) = (insL m x).length := by rw [← HEQ.out, List.length_append, List.length_cons, List.length_take, List.length_drop]; omega
           rw [e6, e7] at hown6
           have h1l : 0 < (insL m x).length := by omega
           obtain ⟨g6, cp6, rfl, _⟩ := own_some hown6 h1l
           have HO6 := Lib.hid hown6
           have HE7 := Lib.hid e7
           clear hown6 hgr6 e6 e7))
      go_ret
      exact ⟨g6, cp6, rfl, own_mono HO6.out hB, HB6.out⟩
    · obtain ⟨q, hkq⟩ : ∃ q, k = q + 1 := ⟨k - 1, by omega⟩
      have hq : q < m.length := by omega
      have d0 : decide (0 < k) = true := by simp; omega
      have d0i : decide ((0 : Int) < (k : Int)) = true := by simp; omega
      have e1 : (k : Int) - 1 = (q : Int) := by omega
      have g1 := own_str_at HO.out q hq
      have HKQ := Lib.hid hkq
      clear hkq
      rcases less_tri x m[q] with hlt | heq | hlt
      · have b1 : Op.bytesLess m[q].toList x.toList = false := by
          rcases hb : Op.bytesLess m[q].toList x.toList with _ | _
          · rfl
          · exact absurd (less_trans hlt hb) (less_self x)
        have b2 : (m[q].toList == x.toList) = false := by
          rw [beq_eq_false_iff_ne]
          intro e
          have := bytes_ext e
          rw [this] at hlt
          exact less_self x hlt
        have HLT := Lib.hid hlt
        clear hlt h0
        go_wp2_with fail
        go_round
        case rel =>
          have hkq := HKQ.out
          refine ⟨q, by omega, by go_num, fun j hj h => ?_⟩
          by_cases e : j = q
          · subst e; exact HLT.out
          · exact HGT.out j hj (by omega)
        case measure => have hkq := HKQ.out; simp [intOf]; try omega
      · have HE : Hid (insL m x = m) := insL_there HA.out (by rw [heq]; exact List.getElem_mem _)
        have b2 : (m[q].toList == x.toList) = true := by rw [heq]; simp
        clear heq h0
        go_wp2_with fail
        go_ret
        rw [HE.out]
        exact ⟨g, cp, rfl, HO.out, Below.refl _ _⟩
      · have b1 : Op.bytesLess m[q].toList x.toList = true := hlt
        have b2 : (m[q].toList == x.toList) = false := by
          rw [beq_eq_false_iff_ne]
          intro e
          have := bytes_ext e
          rw [this] at hlt
          exact less_self x hlt
        have HK : Hid (∀ (j : Nat) (hj : j < m.length), j < k → lessB m[j] x = true) := fun j hj h => by
          have hkq := HKQ.out
          by_cases e : j = q
          · subst e; exact hlt
          · exact less_trans (List.pairwise_iff_getElem.1 HA.out j q hj hq (by omega)) hlt
        clear hlt h0
        have HEQ : Hid (m.take k ++ x :: m.drop k = insL m x) := insL_at HA.out hk HGT.out HK.out
        obtain ⟨X1, hsl1, hX1⟩ := slice_upto Try.underlying24 sizeOf_strs g 0 m.length cp k hk hcp
        obtain ⟨X2, hsl2, hX2⟩ := slice_from Try.underlying24 sizeOf_strs g 0 m.length cp k hk hcp
        have HX1 := Lib.hid hX1
        have HX2 := Lib.hid hX2
        have HL1 : Hid ((strs (m.take k)).length = k * 1) := by show _ = _; rw [strs_length, List.length_take]; omega
        have HL2 : Hid ((strs (m.drop k)).length = (m.length - k) * 1) := by show _ = _; rw [strs_length, List.length_drop]; omega
        have HCE := Lib.hid (fun (j : Nat) (u : Value) (hu : (strs m)[j]? = some u) => HO.out.cells (g := g) rfl j u hu)
        clear hX1 hX2
        go_wp2_with (first
          | (at_builtin
             refine wpList_append_own _ rfl (.tmp 34) (.tmp 37) 24 rfl w.heap.size 9 i0 _ 1 16 Try.underlying24 hi0 hz0 hz1 hz2 rfl (by decide) _ 0 [] rfl (own_made0 _ _ _ (Nat.le_refl _)) X1 k cp (strs (m.take k)) rfl HL1.out ?_ (strs_one _) (by unfold maxLen; omega) (by omega) (by simp) ?_
             · intro j u hu
               rw [HX1.out]
               have h5 := HCE.out j u (by
                 unfold strs at hu ⊢
                 rw [List.map_take, List.getElem?_take] at hu
                 split at hu
                 · exact hu
                 · cases hu)
               rw [Addr.add_lit] at h5 ⊢
               exact (((Below.refl w.heap.size w).alloc (Nat.le_refl _) (.cells #[] 9)).cell (World.block_lt_of_cell? w _ h5)).trans h5
             intro v4 w4 hown4 hgr4 hnil4
             have HB4 : Hid (Below w.heap.size w w4) := ((Below.refl _ _).alloc (Nat.le_refl _) _).grown hgr4 (by simp) (fun y hy => ((own_made0 w w.heap.size 9 (Nat.le_refl _)).lt y hy).1)
             rw [Nat.zero_add, List.nil_append] at hown4
             obtain ⟨A4, cp4, rfl⟩ := own_slice hown4
             have HO4 := Lib.hid hown4
             clear hown4 hgr4 hnil4)
          | (at_builtin
             refine wpList_append1 _ rfl (.tmp 39) (.tmp 41) _ rfl w.heap.size 9 i0 _ 16 Try.underlying24 hi0 hz0 hz1 hz2 rfl _ k _ rfl HO4.out (.string x) rfl rfl (by unfold maxLen; omega) (by omega) HB4.out.size ?_
             intro v5 w5 hown5 hbel5
             have HB5 : Hid (Below w.heap.size w w5) := HB4.out.trans hbel5
             obtain ⟨A5, cp5, rfl⟩ := own_slice hown5
             have HO5 := Lib.hid hown5
             clear hown5 hbel5)
          | (at_builtin
             refine wpList_append_own _ rfl (.tmp 43) (.tmp 46) 24 rfl w.heap.size 9 i0 _ 1 16 Try.underlying24 hi0 hz0 hz1 hz2 rfl (by decide) _ (k + 1) _ rfl HO5.out X2 (m.length - k) (cp - k) (strs (m.drop k)) rfl HL2.out ?_ (strs_one _) (by unfold maxLen; omega) (by omega) HB5.out.size ?_
             · intro j u hu
               have hj := (List.getElem?_eq_some_iff.1 hu).1
               have hl2 := HL2.out
               rw [HX2.out (by omega)]
               have h5 := HCE.out (k + j) u (by
                 unfold strs at hu ⊢
                 rw [List.map_drop, List.getElem?_drop] at hu
                 exact hu)
               rw [Addr.add_lit] at h5 ⊢
               rw [show 0 + k + j = 0 + (k + j) from by omega]
               exact (HB5.out.cell (World.block_lt_of_cell? w _ h5)).trans h5
             intro v6 w6 hown6 hgr6 _
             have HB6 : Hid (Below w.heap.size w w6) := HB5.out.trans ((Below.refl _ _).grown hgr6 HB5.out.size (fun y hy => (HO5.out.lt y hy).1))
             have e6 : strs (m.take k) ++ [.string x] ++ strs (m.drop k) = strs (insL m x) := by rw [← HEQ.out]; simp [strs]
             have e7 : k + 1 + (m.length - k) = (insL m x).length := by rw [← HEQ.out, List.length_append, List.length_cons, List.length_take, List.length_drop]; omega
             rw [e6, e7] at hown6
             have h1l : 0 < (insL m x).length := by omega
             obtain ⟨g6, cp6, rfl, _⟩ := own_some hown6 h1l
             have HO6 := Lib.hid hown6
             have HE7 := Lib.hid e7
             clear hown6 hgr6 e6 e7))
        go_ret
        exact ⟨g6, cp6, rfl, own_mono HO6.out hB, HB6.out⟩
end Go.Proofs.Ytefdciaijjgieaa

/- Chapter 8 of the model: SquaresIn, FirstSquare, l07Ends. Conditions: lengths of at most 2^20. -/
namespace Go.Proofs.Ytefdciaijjgieaa
open Go.RowKit Go.Lib

theorem slice_gen {P : Program} {t : TypeId} (ht : P.underlying t = some .string) (s : ByteArray) (a b : Int) (x y : Nat) (w : World) (ha : a = x) (hb : b = y) (h : x ≤ y) (h2 : y ≤ s.size) :
    (Instr.slice t (.string s) (some (.int .i64 a)) (some (.int .i64 b)) none).run P w = .ok (.string (s.extract x y)) w := by
  obtain ⟨n, rfl⟩ : ∃ n, y = x + n := ⟨y - x, by omega⟩
  have := slice_at (P := P) ht s x n w (by omega)
  rw [ha, hb, Int.natCast_add]
  exact this
theorem pwRow_yes {s : ByteArray} {i j : Nat} {l : List ByteArray} (hi : i + 2 * (j + 1) ≤ s.size) (h : s.extract i (i + (j + 1)) = s.extract (i + (j + 1)) (i + 2 * (j + 1))) : pwRow s i l (j + 1) = insL (pwRow s i l j) (s.extract i (i + 2 * (j + 1))) :=
  if_pos ((pwB_iff _ _ _).2 ⟨by omega, hi, h⟩)
theorem pwRow_no {s : ByteArray} {i j : Nat} {l : List ByteArray} (h : s.extract i (i + (j + 1)) ≠ s.extract (i + (j + 1)) (i + 2 * (j + 1))) : pwRow s i l (j + 1) = pwRow s i l j :=
  if_neg (fun hh => h ((pwB_iff _ _ _).1 hh).2.2)
theorem eq_bytes {x y : ByteArray} (h : x = y) : (x.toList == y.toList) = true := by rw [h]; simp
theorem ne_bytes {x y : ByteArray} (h : x ≠ y) : (x.toList == y.toList) = false := by
  rw [beq_eq_false_iff_ne]
  exact fun e => h (bytes_ext e)

set_option maxRecDepth 100000 in
set_option maxHeartbeats 1000000 in
theorem specSquaresIn (s : ByteArray) (w : World) (_ : s.size ≤ 1048576) :
    Calls Try.prog 30 #[.string s] w fun e w' => ∃ v, e = .returned v ∧ w'.ownsRow w.heap.size 9 1 v (pwR s).length (strs (pwR s)) ∧ Below w.heap.size w w' := by
  cases hw : wordB s
  · have HW := Lib.hid hw
    have HV : Hid (pwR s = []) := by show _ = _; unfold pwR pwOk; rw [hw]; rfl
    clear hw
    go_enter Try.func30, Try.ntmps30
    go_wp2_with fail
    refine (specWordOk s _).mono ?_
    rintro e w' ⟨rfl, rfl⟩
    rw [HW.out]
    go_wp2_with fail
    go_ret
    refine ⟨_, rfl, ?_, Below.refl _ _⟩
    rw [HV.out]
    exact World.ownsRow_nil _ _ _ _
  · have HW := Lib.hid hw
    by_cases h60 : 60 < s.size
    · have HV : Hid (pwR s = []) := by show _ = _; unfold pwR pwOk; rw [hw, decide_eq_false (by omega)]; rfl
      have d1 : decide ((60 : Int) < (s.size : Int)) = true := by simp; omega
      clear hw
      go_enter Try.func30, Try.ntmps30
      go_wp2_with fail
      refine (specWordOk s _).mono ?_
      rintro e w' ⟨rfl, rfl⟩
      rw [HW.out]
      go_wp2_with fail
      go_ret
      refine ⟨_, rfl, ?_, Below.refl _ _⟩
      rw [HV.out]
      exact World.ownsRow_nil _ _ _ _
    · have HV : Hid (pwR s = pwTo s s.size) := if_pos (by unfold pwOk; rw [hw, decide_eq_true (by omega)]; rfl)
      have d1 : decide ((60 : Int) < (s.size : Int)) = false := by simp; omega
      have HLOW := Lib.hid (word_low hw)
      have hs60 : s.size ≤ 60 := by omega
      have HLE := Lib.hid (pwTo_le s hs60)
      have HRL : Hid (∀ k j, k < s.size → k + 2 * j ≤ s.size → (pwRow s k (pwTo s k) j).length ≤ 960) := fun k j h1 h2 => by
        have a := pwRow_len s k (pwTo s k) j
        have b := pwTo_le s hs60 k (by omega)
        omega
      have HRA := Lib.hid (fun k j => pwRow_asc s k (pwTo_asc s k) j)
      clear hw h60
      go_enter Try.func30, Try.ntmps30
      go_wp2_with fail
      refine (specWordOk s _).mono ?_
      rintro e w' ⟨rfl, rfl⟩
      rw [HW.out]
      go_wp2_with fail
      have hown0 := World.ownsRow_made (e := 9) (size := 1) w #[] 0 (Nat.le_refl _) (by simp [maxLen]) (by simp)
      have HOWN0 := Lib.hid hown0
      have hb0 : Below w.heap.size w (w.alloc (.cells #[] 9)) := (Below.refl _ _).alloc (Nat.le_refl _) _
      have hsz0 : (w.alloc (.cells #[] 9)).heap.size = w.heap.size + 1 := by simp
      have HB0 := Lib.hid hb0
      clear hown0 hb0
      generalize w.alloc (.cells #[] 9) = w1 at HOWN0 HB0 hsz0 ⊢
      go_loopw [3] (fun o w' => ∃ k g cp : Nat, k ≤ s.size ∧ o = .slice (some ⟨g, 0, none⟩) (pwTo s k).length cp ∧ w'.ownsRow w.heap.size 9 1 (.slice (some ⟨g, 0, none⟩) (pwTo s k).length cp) (pwTo s k).length (strs (pwTo s k)) ∧ w'.heap[(w.heap.size + 1)]? = some (.stringIter s k) ∧ Below w.heap.size w w') (fun _ w' => s.size - w'.iterPos (w.heap.size + 1))
      case atStart => exact ⟨0, _, _, by omega, rfl, own_below HOWN0.out (below_iter w1 s 0), by rw [← hsz0]; exact World.iter_heap w1 s 0, HB0.out.trans ((below_iter w1 s 0).mono (by omega))⟩
      case round =>
        obtain ⟨k, g, cp, hk, rfl, ho, hit, hb⟩ := hrel
        obtain ⟨wi, rfl⟩ : ∃ y : World, y = wr := ⟨_, rfl⟩
        have HO := Lib.hid ho
        have HB := Lib.hid hb
        have hitlt := (Array.getElem?_eq_some_iff.1 hit).1
        by_cases hlt : k < s.size
        · have hnx : ∀ ty, (Instr.next (.pointer (some ⟨(w.heap.size + 1), 0, none⟩)) true ty).run Try.prog wi = _ := fun ty => run_next_ascii_at wi (w.heap.size + 1) s k ty hit hlt (HLOW.out k hlt)
          have hi2 := iterAt_heap wi (w.heap.size + 1) s k (k + 1) hit
          have hb2 := below_iterAt (k := (w.heap.size + 1)) hb (by omega) s (k + 1)
          have hsz2 := iterAt_size wi (w.heap.size + 1) s (k + 1)
          have ho2 : (wi.iterAt (w.heap.size + 1) s (k + 1)).ownsRow w.heap.size 9 1 (.slice (some ⟨g, 0, none⟩) (pwTo s k).length cp) (pwTo s k).length (strs (pwTo s k)) := by
            have hgne : g ≠ (w.heap.size + 1) := fun e => by
              subst e
              rcases ho.2 with ⟨h', _⟩ | ⟨g', cap', cur, h', _, hg, _⟩
              · simp at h'
              · injection h' with ha _ _
                injection ha with ha
                injection ha with ha
                subst ha
                rw [hit] at hg
                cases hg
            refine own_apart ho (row := some (w.heap.size + 1)) ⟨rfl, rfl, rfl, by rw [hsz2]; exact Nat.le_refl _, fun i hi hne => iterAt_other wi (w.heap.size + 1) i s (k + 1) (fun e => hne (by rw [e]))⟩ (fun j h1 h2 => ?_)
            have e1 : g = j := Option.some.inj h1
            have e2 : (w.heap.size + 1) = j := Option.some.inj h2
            omega
          have hpos0 := iterPos_at hit
          have HI2 := Lib.hid hi2
          have HB2 := Lib.hid hb2
          have HO2 := Lib.hid ho2
          clear hi2 hb2 ho2 ho hit hb
          generalize wi.iterAt (w.heap.size + 1) s (k + 1) = w2 at hnx HI2 HB2 HO2 hsz2
          go_wp2_with fail
          go_loopw [3, 5] (fun o hv w' => ∃ j g cp : Nat, k + 2 * j ≤ s.size ∧ hv = .int .i64 ((j : Int) + 1) ∧ o = .slice (some ⟨g, 0, none⟩) (pwRow s k (pwTo s k) j).length cp ∧ w'.ownsRow w.heap.size 9 1 (.slice (some ⟨g, 0, none⟩) (pwRow s k (pwTo s k) j).length cp) (pwRow s k (pwTo s k) j).length (strs (pwRow s k (pwTo s k) j)) ∧ w'.heap[(w.heap.size + 1)]? = some (.stringIter s (k + 1)) ∧ Below w.heap.size w w') (fun _ hv _ => s.size + 2 - (intOf hv).toNat)
          case atStart => exact ⟨0, g, cp, by omega, rfl, rfl, HO2.out, HI2.out, HB2.out⟩
          case round =>
            obtain ⟨j, g2, cp2, hj, rfl, rfl, ho, hit, hb⟩ := hrel
            obtain ⟨wj, rfl⟩ : ∃ y : World, y = wr := ⟨_, rfl⟩
            have HOJ := Lib.hid ho
            have HIJ := Lib.hid hit
            have HBJ := Lib.hid hb
            have hitj := (Array.getElem?_eq_some_iff.1 hit).1
            clear ho hit hb
            by_cases hle : k + 2 * (j + 1) ≤ s.size
            · have q1 : IntKind.i64.wrap ((k : Int) + ((j : Int) + 1)) = (k : Int) + ((j : Int) + 1) := IntWalk.i64_in _ (by omega)
              have q2 : IntKind.i64.wrap (2 * ((j : Int) + 1)) = 2 * ((j : Int) + 1) := IntWalk.i64_in _ (by omega)
              have q3 : IntKind.i64.wrap ((k : Int) + 2 * ((j : Int) + 1)) = (k : Int) + 2 * ((j : Int) + 1) := IntWalk.i64_in _ (by omega)
              have hs1 : ∀ w : World, (Instr.slice 9 (.string s) (some (.int .i64 (k : Int))) (some (.int .i64 ((k : Int) + ((j : Int) + 1)))) none).run Try.prog w = .ok (.string (s.extract k (k + (j + 1)))) w := fun w => slice_gen Try.underlying9 s _ _ k (k + (j + 1)) w rfl (by omega) (by omega) (by omega)
              have hs2 : ∀ w : World, (Instr.slice 9 (.string s) (some (.int .i64 ((k : Int) + ((j : Int) + 1)))) (some (.int .i64 ((k : Int) + 2 * ((j : Int) + 1)))) none).run Try.prog w = .ok (.string (s.extract (k + (j + 1)) (k + 2 * (j + 1)))) w := fun w => slice_gen Try.underlying9 s _ _ (k + (j + 1)) (k + 2 * (j + 1)) w (by omega) (by omega) (by omega) (by omega)
              have hs3 : ∀ w : World, (Instr.slice 9 (.string s) (some (.int .i64 (k : Int))) (some (.int .i64 ((k : Int) + 2 * ((j : Int) + 1)))) none).run Try.prog w = .ok (.string (s.extract k (k + 2 * (j + 1)))) w := fun w => slice_gen Try.underlying9 s _ _ k (k + 2 * (j + 1)) w rfl (by omega) (by omega) (by omega)
              have hrl := HRL.out k j hlt (by omega)
              by_cases hc : s.extract k (k + (j + 1)) = s.extract (k + (j + 1)) (k + 2 * (j + 1))
              · have HN := Lib.hid (pwRow_yes (l := pwTo s k) hle hc)
                have bq := eq_bytes hc
                have HINS := Lib.hid (fun w' hw' hB => specInsert (pwRow s k (pwTo s k) j) g2 cp2 (s.extract k (k + 2 * (j + 1))) w' w.heap.size hw' (HRA.out k j) (by omega) hB)
                clear hc
                generalize s.extract k (k + (j + 1)) = x1 at hs1 bq
                generalize s.extract (k + (j + 1)) (k + 2 * (j + 1)) = x2 at hs2 bq
                generalize s.extract k (k + 2 * (j + 1)) = x3 at hs3 HN HINS
                go_wp2_with fail
                go_region
                go_wp2_with fail
                refine (HINS.out wj.drew HOJ.out HBJ.out.size).mono ?_
                rintro e w3 ⟨g3, cp3, rfl, ho3, hb3⟩
                have HO3 := Lib.hid ho3
                have HB3 := Lib.hid hb3
                have HI3 : Hid (w3.heap[(w.heap.size + 1)]? = some (.stringIter s (k + 1))) := (hb3.block (w.heap.size + 1) hitj).trans HIJ.out
                clear ho3 hb3
                go_wp2_with fail
                go_roundw
                case rel => exact ⟨j + 1, g3, cp3, by omega, by go_num, by rw [HN.out], by rw [HN.out]; exact HO3.out, HI3.out, (below_drewN HBJ.out 1).trans (HB3.out.mono HBJ.out.size)⟩
                case measure => simp [intOf]; omega
              · have HN := Lib.hid (pwRow_no (i := k) (j := j) (l := pwTo s k) hc)
                have bq := ne_bytes hc
                clear hc
                generalize s.extract k (k + (j + 1)) = x1 at hs1 bq
                generalize s.extract (k + (j + 1)) (k + 2 * (j + 1)) = x2 at hs2 bq
                go_wp2_with fail
                go_region
                go_wp2_with fail
                go_roundw
                case rel => exact ⟨j + 1, g2, cp2, by omega, by go_num, by rw [HN.out], by rw [HN.out]; exact HOJ.out, HIJ.out, below_drewN HBJ.out 1⟩
                case measure => simp [intOf]; omega
            · have hjj : j = (s.size - k) / 2 := by omega
              have HEQ : Hid (pwTo s (k + 1) = pwRow s k (pwTo s k) j) := by show _ = _; rw [hjj]; rfl
              clear hjj
              go_wp2_with fail
              go_roundw
              case rel => exact ⟨k + 1, g2, cp2, by omega, by rw [HEQ.out], by rw [HEQ.out]; exact HOJ.out, HIJ.out, HBJ.out⟩
              case measure =>
                rw [iterPos_at HIJ.out, hpos0]
                omega
        · have hnx : ∀ ty, (Instr.next (.pointer (some ⟨(w.heap.size + 1), 0, none⟩)) true ty).run Try.prog wi = _ := fun ty => run_next_end_at wi (w.heap.size + 1) s k ty hit hlt
          have hkk : k = s.size := by omega
          have HE : Hid (pwTo s k = pwTo s s.size) := by show _ = _; rw [hkk]
          clear hkk ho hit hb
          go_wp2_with fail
          go_ret
          refine ⟨_, rfl, ?_, HB.out⟩
          rw [HV.out, ← HE.out]
          exact HO.out
end Go.Proofs.Ytefdciaijjgieaa

/- Maps whose keys are a text and a number of one byte beside it: what such a map holds, as a list of keys without repeats. No condition but lengths that a text can have. -/
namespace Go.Proofs.Ytefdciaijjgieaa
open Go.RowKit Go.Maps

abbrev FK := ByteArray × Int
abbrev fKey (p : FK) : Value := .agg #[.string p.1, .int .u8 p.2]
def fLit (p : FK) : Lit := .string (keyBytes [.string p.1.data.toList, .int .u8 p.2])
def FOk (p : FK) : Prop := p.1.size ≤ maxLen ∧ 0 ≤ p.2 ∧ p.2 ≤ 255
theorem u8_wf {z : Int} : (Lit.int .u8 z).wf = true ↔ 0 ≤ z ∧ z ≤ 255 := by
  simp [Lit.wf, IntKind.min, IntKind.max, IntKind.signed, IntKind.bits]

/-- what the program's type of keys is -/
structure FTypes (P : Program) (k tw tb : TypeId) : Prop where
  key : P.keyType k = true
  cells : P.cellsOf k = 2
  c1 : P.cellsOf tw = 1
  c2 : P.cellsOf tb = 1
  uw : P.underlying tw = some .string
  ub : P.underlying tb = some (.int .u8)
  row : k < P.types.size
  str : ∃ fs, P.underlying k = some (.struct fs) ∧ fs.toList.map (fun f => (f.type, f.offset)) = [(tw, 0), (tb, 1)] ∧ fs.toList.all (·.name != "_") = true

theorem two_of_map {α β : Type} {f : α → β} {l : List α} {x y : β} (h : l.map f = [x, y]) : ∃ a b, l = [a, b] ∧ f a = x ∧ f b = y := by
  rcases l with _ | ⟨a, _ | ⟨b, _ | ⟨c, l⟩⟩⟩ <;> simp at h
  exact ⟨a, b, rfl, h.1, h.2⟩
theorem FTypes.lits {P : Program} {k tw tb : TypeId} (T : FTypes P k tw tb) (m : Nat) (x y : Value) : P.keyLits (m + 2) k [x, y] =
    match x, y with
    | .string s, .int q z => if s.size ≤ maxLen ∧ q = .u8 ∧ (Lit.int .u8 z).wf = true then some [.string s.data.toList, .int .u8 z] else none
    | _, _ => none := by
  obtain ⟨fs, hu, hf, hn⟩ := T.str
  obtain ⟨fl⟩ := fs
  obtain ⟨f1, f2, rfl, e1, e2⟩ := two_of_map hf
  injection e1 with a1 a2
  injection e2 with b1 b2
  have hn' : (#[f1, f2] : Array _).all (·.name != "_") = true := by simpa using hn
  unfold Program.keyLits
  rw [hu]
  simp only [List.length_cons, List.length_nil, T.cells, hn', and_self, if_true]
  simp only [List.mapM_cons, List.mapM_nil, a1, a2, b1, b2, T.c1, T.c2]
  unfold Program.keyLits
  rw [T.uw, T.ub]
  cases x <;> cases y <;> simp
  split <;> split <;> simp_all

theorem FTypes.of {P : Program} {k tw tb : TypeId} (T : FTypes P k tw tb) (p : FK) (h : FOk p) : keyOf P k (fKey p) = some (fLit p) := by
  obtain ⟨m, hm⟩ : ∃ m, P.types.size + 1 = m + 2 := ⟨P.types.size - 1, by have h0 : 0 < P.types.size := Nat.lt_of_le_of_lt (Nat.zero_le _) T.row; omega⟩
  obtain ⟨fs, hu, _, _⟩ := T.str
  have hform : (fKey p).formed P k = true := by simp [Value.formed, hu, T.cells]
  unfold keyOf
  rw [hu]
  simp only
  rw [hm, T.key, hform]
  rw [show (fKey p).cells.toList = [.string p.1, .int .u8 p.2] from rfl, T.lits]
  simp only
  rw [if_pos (by rfl), if_pos ⟨h.1, trivial, u8_wf.2 h.2⟩]
  rfl

theorem FTypes.inv {P : Program} {k tw tb : TypeId} (T : FTypes P k tw tb) {v : Value} {l : Lit} (h : keyOf P k v = some l) : ∃ p : FK, v = fKey p ∧ FOk p ∧ l = fLit p := by
  obtain ⟨m, hm⟩ : ∃ m, P.types.size + 1 = m + 2 := ⟨P.types.size - 1, by have h0 : 0 < P.types.size := Nat.lt_of_le_of_lt (Nat.zero_le _) T.row; omega⟩
  obtain ⟨fs, hu, _, _⟩ := T.str
  have h0 := h
  unfold keyOf at h0
  rw [hu] at h0
  simp only at h0
  split at h0
  case isFalse => cases h0
  rename_i hk
  have hform := (Bool.and_eq_true_iff.1 hk).2
  cases v <;> simp [Value.formed, hu, T.cells] at hform
  rename_i xs
  obtain ⟨xl⟩ := xs
  rcases xl with _ | ⟨x, _ | ⟨y, _ | ⟨z, l⟩⟩⟩ <;> simp at hform
  rw [hm, show (Value.agg ⟨[x, y]⟩).cells.toList = [x, y] from rfl, T.lits] at h0
  cases x <;> cases y <;> simp at h0
  obtain ⟨⟨h1, rfl, h2⟩, rfl⟩ := h0
  exact ⟨(_, _), rfl, ⟨h1, u8_wf.1 h2⟩, rfl⟩

/-- of this program -/
abbrev fK : TypeId := 72
theorem fT : FTypes Try.prog fK 48 5 where
  key := by kernel_rfl
  cells := by kernel_rfl
  c1 := by kernel_rfl
  c2 := by kernel_rfl
  uw := Try.underlying48
  ub := Try.underlying5
  row := of_decide_eq_true (by kernel_rfl)
  str := ⟨_, Try.underlying72, by kernel_rfl, by kernel_rfl⟩
theorem fk_laid : laidOutB Try.prog = true := by kernel_rfl
theorem fk_law : Keyed Try.prog fK := Keyed.of_law (deep_law_laid fk_laid (m := 3) (by omega) fT.row (by kernel_rfl) (by rw [Try.underlying72]))
theorem fKey_inj {p q : FK} (e : fKey p = fKey q) : p = q := by
  injection e with e
  have e1 : (#[.string p.1, .int .u8 p.2] : Array Value).toList = [.string q.1, .int .u8 q.2] := by rw [e]
  injection e1 with e1 e2
  injection e2 with e2 _
  injection e1 with e1
  injection e2 with _ e2
  exact Prod.ext e1 e2
theorem FTypes.lit_inj {P : Program} {k tw tb : TypeId} (T : FTypes P k tw tb) (K : Keyed P k) {p q : FK} (hp : FOk p) (hq : FOk q) (h : fLit p = fLit q) : p = q := by
  have h1 := T.of p hp
  have h2 := T.of q hq
  rw [← h] at h2
  exact fKey_inj (K.inj h1 h2)
theorem fLit_key (p : FK) : WideAt.IsKeyLit (fLit p) := trivial

/-! ### what a map holds -/
/-- D has just the keys L, each once, and at each key what g says -/
structure Rep (D : DataW Empty) (L : List FK) (g : FK → Lit) : Prop where
  nodup : L.Nodup
  size : Maps.size D = L.length
  ok : ∀ p ∈ L, FOk p
  has : ∀ p ∈ L, Maps.has D (fLit p) = true
  at' : ∀ p ∈ L, ∀ z, D.atKey (fLit p) z = .lit (g p)
  all : ∀ l, Maps.has D l = true → ∃ p ∈ L, l = fLit p

theorem rep_empty (g : FK → Lit) : Rep (.map []) [] g :=
  ⟨List.nodup_nil, rfl, by simp, by simp, by simp, fun l h => by simp [Maps.has] at h⟩

section
variable {P : Program} {k tw tb e : TypeId} {w : World} {b n : Nat} {D : DataW Empty} {L : List FK} {g : FK → Lit}

theorem Rep.mem (h : Rep D L g) (T : FTypes P k tw tb) (K : Keyed P k) {p : FK} (hp : FOk p) : Maps.has D (fLit p) = true ↔ p ∈ L := by
  constructor
  · intro hh
    obtain ⟨q, hq, e⟩ := h.all _ hh
    rw [T.lit_inj K hp (h.ok q hq) e]
    exact hq
  · exact h.has p

theorem Rep.put (h : Rep D L g) (T : FTypes P k tw tb) (K : Keyed P k) (ht : Tidy D) {p : FK} (hp : FOk p) (g' : FK → Lit) (hg : ∀ q ∈ L, q ≠ p → g' q = g q) :
    ∃ L', Rep (D.put (fLit p) (.lit (g' p))) L' g' ∧ (∀ q, q ∈ L' ↔ q = p ∨ q ∈ L) ∧ L'.length ≤ L.length + 1 ∧ (p ∈ L → L' = L) := by
  have hput : Maps.has (D.put (fLit p) (.lit (g' p))) (fLit p) = true := has_put_same ht.isMap (fLit_key p) _
  have hne : ∀ {q : FK}, q ∈ L → q ≠ p → fLit q ≠ fLit p := fun hq hn e => hn (T.lit_inj K (h.ok _ hq) hp e)
  have hat : ∀ q, (q = p ∨ q ∈ L) → ∀ z, (D.put (fLit p) (.lit (g' p))).atKey (fLit q) z = .lit (g' q) := by
    intro q hq z
    by_cases e : q = p
    · subst e
      exact atKey_put_same ht.isMap (fLit_key _) _ _
    · have hq' := hq.resolve_left e
      rw [atKey_put_other (hne hq' e), h.at' q hq', hg q hq' e]
  have hhas : ∀ q, (q = p ∨ q ∈ L) → Maps.has (D.put (fLit p) (.lit (g' p))) (fLit q) = true := by
    intro q hq
    by_cases e : q = p
    · subst e; exact hput
    · have hq' := hq.resolve_left e
      rw [has_put_other (hne hq' e)]
      exact h.has q hq'
  have hall : ∀ l, Maps.has (D.put (fLit p) (.lit (g' p))) l = true → ∃ q, (q = p ∨ q ∈ L) ∧ l = fLit q := by
    intro l hl
    by_cases e : l = fLit p
    · exact ⟨p, .inl rfl, e⟩
    · rw [has_put_other e] at hl
      obtain ⟨q, hq, e2⟩ := h.all l hl
      exact ⟨q, .inr hq, e2⟩
  have hsz := size_put ht (k := fLit p) (.lit (g' p))
  by_cases hm : p ∈ L
  · rw [if_pos (h.has p hm)] at hsz
    refine ⟨L, ⟨h.nodup, hsz.trans h.size, h.ok, fun q hq => hhas q (.inr hq), fun q hq => hat q (.inr hq), fun l hl => ?_⟩, fun q => ⟨.inr, fun hq => ?_⟩, by omega, fun _ => rfl⟩
    · obtain ⟨q, hq, e⟩ := hall l hl
      refine ⟨q, ?_, e⟩
      rcases hq with rfl | hq
      · exact hm
      · exact hq
    · rcases hq with rfl | hq
      · exact hm
      · exact hq
  · rw [if_neg (fun hh => hm ((h.mem T K hp).1 hh))] at hsz
    refine ⟨p :: L, ⟨List.nodup_cons.2 ⟨hm, h.nodup⟩, by rw [hsz, h.size]; rfl, fun q hq => ?_, fun q hq => hhas q (List.mem_cons.1 hq), fun q hq => hat q (List.mem_cons.1 hq), fun l hl => ?_⟩, fun q => List.mem_cons, by simp, fun hh => absurd hh hm⟩
    · rcases List.mem_cons.1 hq with rfl | hq
      · exact hp
      · exact h.ok q hq
    · obtain ⟨q, hq, e⟩ := hall l hl
      exact ⟨q, List.mem_cons.2 hq, e⟩

theorem Rep.del (h : Rep D L g) (T : FTypes P k tw tb) (K : Keyed P k) (ht : Tidy D) {p : FK} (hp : p ∈ L) :
    ∃ L', Rep (D.del (fLit p)) L' g ∧ (∀ q, q ∈ L' ↔ q ∈ L ∧ q ≠ p) ∧ L'.length + 1 = L.length := by
  obtain ⟨A, B, rfl⟩ := List.append_of_mem hp
  have hnd := h.nodup
  rw [List.nodup_append] at hnd
  obtain ⟨n1, n2, n3⟩ := hnd
  obtain ⟨n4, n5⟩ := List.nodup_cons.1 n2
  have hmem : ∀ q, q ∈ A ++ B ↔ q ∈ A ++ p :: B ∧ q ≠ p := by
    intro q
    simp only [List.mem_append, List.mem_cons]
    constructor
    · rintro (hq | hq)
      · exact ⟨.inl hq, fun e => n3 q hq p (by simp) e⟩
      · exact ⟨.inr (.inr hq), fun e => n4 (e ▸ hq)⟩
    · rintro ⟨hq | hq | hq, hn⟩
      · exact .inl hq
      · exact absurd hq hn
      · exact .inr hq
  have hne : ∀ {q : FK}, q ∈ A ++ p :: B → q ≠ p → fLit q ≠ fLit p := fun hq hn e => hn (T.lit_inj K (h.ok _ hq) (h.ok _ hp) e)
  have hsz := size_del ht (k := fLit p)
  rw [if_pos (h.has p hp), h.size] at hsz
  refine ⟨A ++ B, ⟨List.nodup_append.2 ⟨n1, n5, fun a ha c hc => n3 a ha c (List.mem_cons_of_mem _ hc)⟩, ?_, fun q hq => h.ok q ((hmem q).1 hq).1, fun q hq => ?_, fun q hq z => ?_, fun l hl => ?_⟩, hmem, by simp; omega⟩
  · simp at hsz ⊢
    omega
  · rw [has_del_other (hne ((hmem q).1 hq).1 ((hmem q).1 hq).2)]
    exact h.has q ((hmem q).1 hq).1
  · rw [atKey_del_other (hne ((hmem q).1 hq).1 ((hmem q).1 hq).2)]
    exact h.at' q ((hmem q).1 hq).1 z
  · by_cases e : l = fLit p
    · rw [e, has_del_same] at hl
      cases hl
    · rw [has_del_other e] at hl
      obtain ⟨q, hq, e2⟩ := h.all l hl
      exact ⟨q, (hmem q).2 ⟨hq, fun e3 => e (by rw [e2, e3])⟩, e2⟩
end

end Go.Proofs.Ytefdciaijjgieaa

/- The laws of the walk for maps whose keys are a text and a byte beside it: look-up, store, len, range, step, delete. No condition. -/
namespace Go.Proofs.Ytefdciaijjgieaa
open Go.RowKit Go.Maps

/-- block b is a map that holds just the keys L, and at each what g says -/
def FMap (P : Program) (k e : TypeId) (w : World) (b : Nat) (L : List FK) (g : FK → Lit) : Prop :=
  ∃ D : DataW Empty, w.ownsMap P k (plainElem P e) b L.length D ∧ Rep D L g
/-- .. under a range whose keys M are still to come -/
def FRange (P : Program) (k e : TypeId) (w : World) (b r : Nat) (L : List FK) (g : FK → Lit) (M : List FK) : Prop :=
  ∃ (D : DataW Empty) (left : Lit → Bool) (cnt : Nat), w.ranges P k (plainElem P e) b r L.length D left cnt ∧ Rep D L g ∧ M.Nodup ∧ (∀ p ∈ M, p ∈ L) ∧ ∀ l, left l = true ↔ ∃ p ∈ M, l = fLit p

/-- L' is L without p -/
def Dels (L' L : List FK) (p : FK) : Prop := ∀ q, q ∈ L' ↔ q ∈ L ∧ q ≠ p

section
variable {P : Program} {k tw tb t e : TypeId} {w : World} {b n r : Nat} {L M : List FK} {g : FK → Lit}

theorem plainElem_bool_inv {H : Type} (he : P.underlying e = some .bool) {v : Value} {z : DataW H × List MemPlace} (h : plainElem P e v = some z) : ∃ x, v = .bool x ∧ z = (.lit (.bool x), []) := by
  unfold plainElem at h
  rw [he] at h
  cases v <;> simp at h
  exact ⟨_, rfl, h.symm⟩
theorem ownsMap_exact {H : Type} {R : Value → Option (DataW H × List MemPlace)} {D : DataW H} (h : w.ownsMap P k R b n D) : w.ownsMap P k R b (Maps.size D) D := by
  obtain ⟨es, clock, hb, F, hs, rfl⟩ := h
  exact ⟨es, clock, hb, F, by simp [Maps.size, length_sorted], rfl⟩
theorem ranges_exact {H : Type} {R : Value → Option (DataW H × List MemPlace)} {D : DataW H} {left : Lit → Bool} {cnt : Nat} (h : w.ranges P k R b r n D left cnt) : w.ranges P k R b r (Maps.size D) D left cnt := by
  obtain ⟨es, clock, since, seen, c0, hb, F, hs, rfl, rest⟩ := h
  exact ⟨es, clock, since, seen, c0, hb, F, by simp [Maps.size, length_sorted], rfl, rest⟩

theorem FMap.lt (h : FMap P k e w b L g) : b < w.heap.size := by
  obtain ⟨D, h, _⟩ := h
  exact h.lt
theorem FMap.kept {w' : World} {row : Option Nat} (h : FMap P k e w b L g) (hg : w.grownBy w' row) (hne : row ≠ some b) : FMap P k e w' b L g := by
  obtain ⟨D, h, hr⟩ := h
  exact ⟨D, h.kept hg (fun e => hne e.symm), hr⟩
theorem FMap.below {w' : World} (h : FMap P k e w b L g) (hb : Below w.heap.size w w') : FMap P k e w' b L g := h.kept (grown_of_below hb none) (by simp)
theorem FMap.alloc (h : FMap P k e w b L g) (o : Obj) : FMap P k e (w.alloc o) b L g := h.kept (World.grownBy_alloc w o none) (by simp)
theorem FMap.made (w : World) (g : FK → Lit) : FMap P k e (w.alloc (.map #[] 0)) w.heap.size [] g := ⟨_, World.ownsMap_made w P k _, rep_empty g⟩
theorem FMap.nodup (h : FMap P k e w b L g) : L.Nodup := h.choose_spec.2.nodup
theorem FMap.ok (h : FMap P k e w b L g) : ∀ p ∈ L, FOk p := h.choose_spec.2.ok
theorem FMap.vals (h : FMap P k e w b L g) {g' : FK → Lit} (hg : ∀ p ∈ L, g' p = g p) : FMap P k e w b L g' := by
  obtain ⟨D, h, hr⟩ := h
  exact ⟨D, h, hr.nodup, hr.size, hr.ok, hr.has, fun p hp z => by rw [hr.at' p hp, hg p hp], hr.all⟩
theorem FRange.owns (h : FRange P k e w b r L g M) : FMap P k e w b L g := by
  obtain ⟨D, left, cnt, h, hr, _⟩ := h
  exact ⟨D, h.owns, hr⟩
theorem FRange.nodup (h : FRange P k e w b r L g M) : M.Nodup := by
  obtain ⟨D, left, cnt, h, hr, hn, _⟩ := h
  exact hn
theorem FRange.sub (h : FRange P k e w b r L g M) : ∀ p ∈ M, p ∈ L := by
  obtain ⟨D, left, cnt, h, hr, hn, hs, _⟩ := h
  exact hs
theorem FRange.lt (h : FRange P k e w b r L g M) : r < w.heap.size := by
  obtain ⟨D, left, cnt, h, _⟩ := h
  exact h.lt
theorem FRange.ne (h : FRange P k e w b r L g M) : r ≠ b := by
  obtain ⟨D, left, cnt, h, _⟩ := h
  exact h.ne
theorem FRange.kept {w' : World} {row : Option Nat} (h : FRange P k e w b r L g M) (hg : w.grownBy w' row) (h1 : row ≠ some b) (h2 : row ≠ some r) : FRange P k e w' b r L g M := by
  obtain ⟨D, left, cnt, h, rest⟩ := h
  exact ⟨D, left, cnt, h.kept hg (fun e => h1 e.symm) (fun e => h2 e.symm), rest⟩
theorem FRange.below {w' : World} (h : FRange P k e w b r L g M) (hb : Below w.heap.size w w') : FRange P k e w' b r L g M := h.kept (grown_of_below hb none) (by simp) (by simp)
theorem FRange.alloc (h : FRange P k e w b r L g M) (o : Obj) : FRange P k e (w.alloc o) b r L g M := h.kept (World.grownBy_alloc w o none) (by simp) (by simp)
theorem rangeLeft_kept {w' : World} {row : Option Nat} (h : FRange P k e w b r L g M) (hg : w.grownBy w' row) (h1 : row ≠ some b) (h2 : row ≠ some r) : w'.rangeLeft b r = w.rangeLeft b r := by
  obtain ⟨D, left, cnt, h, rest⟩ := h
  rw [(h.kept hg (fun e => h1 e.symm) (fun e => h2 e.symm)).left_eq, h.left_eq]

variable {ops : Array Oper} {rest : List Oper} {o : Oper} {a : Act} {Q : Exit → Act → World → Prop}

/-- m[k] of a map of bools -/
theorem wp_lookB (w : World) (hg : o.guard = none) (m x : Operand) (t : TypeId) (hop : o.op = Op.lookup t m x false) (T : FTypes P k tw tb) (K : Keyed P k) (ht : P.underlying t = some (.map k e)) (he : P.underlying e = some .bool)
    (hz : (zeroValue e).run P w = .ok (.bool false) w) (b : Nat) (L : List FK) (hm : a.eval m = .map (some b)) (h : FMap P k e w b L (fun _ => .bool true)) (p : FK) (hx : a.eval x = fKey p) (hp : FOk p) (c : Bool) (hc : c = true ↔ p ∈ L)
    (hK : wpList P ops Q rest (a.put o.dst (.bool c)) w) : wpList P ops Q (o :: rest) a w := by
  refine wpList_plain hg fun K' hK' => ?_
  obtain ⟨D, hown, hr⟩ := h
  obtain ⟨v, ps, hrun, hv⟩ := hown.lookup K ht hz (plainElem_bool he false) (T.of p hp)
  obtain ⟨y, rfl, hy⟩ := plainElem_bool_inv he hv
  have hyc : y = c := by
    simp only [Prod.mk.injEq] at hy
    by_cases hm : p ∈ L
    · have e1 := hr.at' p hm (.lit (.bool false))
      rw [hy.1] at e1
      injection e1 with e1
      injection e1 with e1
      rw [e1, hc.2 hm]
    · have e1 := atKey_of_not_has (D := D) (k := fLit p) (by
        cases hh : Maps.has D (fLit p)
        · rfl
        · exact absurd ((hr.mem T K hp).1 hh) hm) (.lit (.bool false))
      rw [hy.1] at e1
      injection e1 with e1
      injection e1 with e1
      rw [e1]
      cases c
      · rfl
      · exact absurd (hc.1 rfl) hm
  subst hyc
  unfold Oper.wp
  simp [execOp, hop, hm, hx, hrun, Result.andThen]
  exact hK' _ _ hK

/-- m[k] of a map of integers -/
theorem wp_lookI (w : World) (hg : o.guard = none) (m x : Operand) (t : TypeId) (hop : o.op = Op.lookup t m x false) (T : FTypes P k tw tb) (K : Keyed P k) (ht : P.underlying t = some (.map k e)) (he : P.underlying e = some (.int .i64))
    (hz : (zeroValue e).run P w = .ok (.int .i64 0) w) (b : Nat) (L : List FK) (g : FK → Lit) (hm : a.eval m = .map (some b)) (h : FMap P k e w b L g) (p : FK) (hx : a.eval x = fKey p) (hp : FOk p) (c : Int) (hc1 : p ∈ L → g p = .int .i64 c) (hc2 : p ∉ L → c = 0)
    (hK : wpList P ops Q rest (a.put o.dst (.int .i64 c)) w) : wpList P ops Q (o :: rest) a w := by
  refine wpList_plain hg fun K' hK' => ?_
  obtain ⟨D, hown, hr⟩ := h
  obtain ⟨y, hrun, hy, _⟩ := hown.lookup_int K ht he hz (T.of p hp)
  have hyc : y = c := by
    by_cases hm : p ∈ L
    · have e1 := hr.at' p hm (.lit (.int .i64 0))
      rw [hy, hc1 hm] at e1
      injection e1 with e1
      injection e1
    · have e1 := atKey_of_not_has (D := D) (k := fLit p) (by
        cases hh : Maps.has D (fLit p)
        · rfl
        · exact absurd ((hr.mem T K hp).1 hh) hm) (.lit (.int .i64 0))
      rw [hy] at e1
      injection e1 with e1
      injection e1 with _ e1
      rw [e1, hc2 hm]
  subst hyc
  unfold Oper.wp
  simp [execOp, hop, hm, hx, hrun, Result.andThen]
  exact hK' _ _ hK

/-- m[k] = v, run -/
theorem FMap.put {t : TypeId} (h : FMap P k e w b L g) (T : FTypes P k tw tb) (K : Keyed P k) (ht : P.underlying t = some (.map k e)) (hn : L.length < maxLen) (p : FK) (val : Value) (hp : FOk p) (g' : FK → Lit) (hg' : ∀ q ∈ L, q ≠ p → g' q = g q) (hval : plainElem (H := Empty) P e val = some (.lit (g' p), [])) :
    ∃ w' L', (Instr.mapUpdate t (.map (some b)) (fKey p) val).run P w = .ok () w' ∧ FMap P k e w' b L' g' ∧ (∀ q, q ∈ L' ↔ q = p ∨ q ∈ L) ∧ L'.length ≤ L.length + 1 ∧ w.grownBy w' (some b) ∧ w'.heap.size = w.heap.size := by
  obtain ⟨D, hown, hr⟩ := h
  obtain ⟨w', hrun, r1, r2⟩ := hown.store K ht hn (T.of p hp) hval
  obtain ⟨L', q1, q2, q3, _⟩ := hr.put T K (hown.tidy K) hp g' hg'
  have r3 := ownsMap_exact r1
  rw [q1.size] at r3
  have hsz : w'.heap.size = w.heap.size := by
    obtain ⟨es, clock, es', clock', _, rfl⟩ := r2
    simp [ChangeMaps.setBlock]
  exact ⟨w', L', hrun, ⟨_, r3, q1⟩, q2, q3, r2.grown, hsz⟩
theorem FMap.drewN (h : FMap P k e w b L g) (j : Nat) : FMap P k e (w.drewN j) b L g := h
theorem FMap.drew (h : FMap P k e w b L g) : FMap P k e w.drew b L g := h

/-- m[k] = v -/
theorem wp_put (w : World) (hg : o.guard = none) (m x v : Operand) (t : TypeId) (hop : o.op = Op.mapUpdate t m x v) (T : FTypes P k tw tb) (K : Keyed P k) (ht : P.underlying t = some (.map k e)) (b : Nat) (L : List FK) (g : FK → Lit) (hm : a.eval m = .map (some b))
    (h : FMap P k e w b L g) (hn : L.length < maxLen) (p : FK) (val : Value) (hx : a.eval x = fKey p) (hv : a.eval v = val) (hp : FOk p) (g' : FK → Lit) (hg' : ∀ q ∈ L, q ≠ p → g' q = g q) (hval : plainElem (H := Empty) P e val = some (.lit (g' p), []))
    (hK : ∀ w' L', FMap P k e w' b L' g' → (∀ q, q ∈ L' ↔ q = p ∨ q ∈ L) → L'.length ≤ L.length + 1 → w.grownBy w' (some b) → w'.heap.size = w.heap.size → wpList P ops Q rest (a.put o.dst undef) w') : wpList P ops Q (o :: rest) a w := by
  refine wpList_plain hg fun K' hK' => ?_
  obtain ⟨w', L', hrun, r1, q2, q3, r2, hsz⟩ := h.put T K ht hn p val hp g' hg' hval
  unfold Oper.wp
  simp [execOp, hop, hm, hx, hv, hrun, Result.andThen]
  exact hK' _ _ (hK w' L' r1 q2 q3 r2 hsz)

/-- len(m) -/
theorem wp_mapLen (w : World) (hg : o.guard = none) (m : Operand) (t : TypeId) (hop : o.op = Op.call { callee := Callee.builtin Builtin.len, args := #[m], argTypes := #[t] }) (ht : P.underlying t = some (.map k e)) (b : Nat) (L : List FK) (g : FK → Lit) (hm : a.eval m = .map (some b))
    (h : FMap P k e w b L g) (hK : wpList P ops Q rest (a.put o.dst (.int .i64 L.length)) w) : wpList P ops Q (o :: rest) a w := by
  obtain ⟨D, hown, hr⟩ := h
  refine wpList_len_own w hg m t hop k e ht _ b _ D hm hown ?_
  rw [hr.size]
  exact hK

/-- range m -/
theorem wp_range (w : World) (hg : o.guard = none) (m : Operand) (t : TypeId) (hop : o.op = Op.range t m) (K : Keyed P k) (ht : P.underlying t = some (.map k e)) (b : Nat) (L : List FK) (g : FK → Lit) (hm : a.eval m = .map (some b)) (h : FMap P k e w b L g)
    (hK : ∀ w', FRange P k e w' b w.heap.size L g L → w.grownBy w' none → w'.heap.size = w.heap.size + 1 → wpList P ops Q rest (a.put o.dst (.pointer (some ⟨w.heap.size, 0, none⟩))) w') : wpList P ops Q (o :: rest) a w := by
  obtain ⟨D, hown, hr⟩ := h
  refine wpList_range_own w hg m t hop k e K ht _ b _ D hm hown ?_
  intro w' h1 h2 h3
  exact hK w' ⟨D, _, _, h1, hr, hr.nodup, fun _ h => h, fun l => ⟨hr.all l, by rintro ⟨p, hp, rfl⟩; exact hr.has p hp⟩⟩ h2 h3

/-- the step -/
theorem wp_step (w : World) (hg : o.guard = none) (it : Operand) (hop : o.op = Op.next it false) (T : FTypes P k tw tb) (K : Keyed P k) (b r : Nat) (L : List FK) (g : FK → Lit) (M : List FK) (hit : a.eval it = .pointer (some ⟨r, 0, none⟩)) (h : FRange P k e w b r L g M)
    (vv : FK → Value) (hvv : ∀ p v ps, plainElem (H := Empty) P e v = some (.lit (g p), ps) → v = vv p)
    (hDone : M = [] → wpList P ops Q rest (a.put o.dst (.tuple #[.bool false])) w)
    (hMore : ∀ p M' w', p ∈ M → Dels M' M p → M'.length + 1 = M.length → FRange P k e w' b r L g M' → w'.rangeLeft b r < w.rangeLeft b r → w.grownBy w' (some r) → w'.heap.size = w.heap.size →
      (Instr.entry (.pointer (some ⟨r, 0, none⟩))).run P w' = .ok (.tuple #[fKey p, vv p]) w' → wpList P ops Q rest (a.put o.dst (.tuple #[.bool true, fKey p, vv p])) w') : wpList P ops Q (o :: rest) a w := by
  refine wpList_plain hg fun K' hK' => ?_
  obtain ⟨D, left, cnt, hrg, hr, hn, hs, hl⟩ := h
  unfold Oper.wp
  rcases hrg.next K o.type with ⟨h0, hl0, hrun⟩ | ⟨key, v, kl, y, w', cnt', hkey, hlk, hv, hat, hrun, hrg', hlt, hgr, hsz, hen⟩
  · simp [execOp, hop, hit, hrun, Result.andThen]
    refine hK' _ _ (hDone (List.eq_nil_iff_forall_not_mem.2 fun p hp => ?_))
    have := (hl (fLit p)).2 ⟨p, hp, rfl⟩
    rw [hl0] at this
    cases this
  · obtain ⟨p, hpM, rfl⟩ := (hl kl).1 hlk
    have hpL := hs p hpM
    obtain ⟨p', rfl, hp', e1⟩ := T.inv hkey
    obtain rfl : p = p' := T.lit_inj K (hr.ok p hpL) hp' e1
    have hy : y.1 = .lit (g p) := by rw [← hat .nil]; exact hr.at' p hpL .nil
    obtain rfl := hvv p v y.2 (by rw [hv, ← hy])
    obtain ⟨A, B, rfl⟩ := List.append_of_mem hpM
    have hnd := hn
    rw [List.nodup_append] at hnd
    obtain ⟨n1, n2, n3⟩ := hnd
    obtain ⟨n4, n5⟩ := List.nodup_cons.1 n2
    have hmem : ∀ q, q ∈ A ++ B ↔ q ∈ A ++ p :: B ∧ q ≠ p := by
      intro q
      simp only [List.mem_append, List.mem_cons]
      constructor
      · rintro (hq | hq)
        · exact ⟨.inl hq, fun e => n3 q hq p (by simp) e⟩
        · exact ⟨.inr (.inr hq), fun e => n4 (e ▸ hq)⟩
      · rintro ⟨hq | hq | hq, hn⟩
        · exact .inl hq
        · exact absurd hq hn
        · exact .inr hq
    have hfr : FRange P k e w' b r L g (A ++ B) := by
      refine ⟨D, _, cnt', hrg', hr, List.nodup_append.2 ⟨n1, n5, fun a ha c hc => n3 a ha c (List.mem_cons_of_mem _ hc)⟩, fun q hq => hs q ((hmem q).1 hq).1, fun l => ?_⟩
      simp only [Bool.and_eq_true, Bool.not_eq_true']
      constructor
      · rintro ⟨h1, h2⟩
        obtain ⟨q, hq, rfl⟩ := (hl l).1 h1
        refine ⟨q, (hmem q).2 ⟨hq, fun e => ?_⟩, rfl⟩
        rw [e, WideAt.sameKey_self (fLit_key p)] at h2
        cases h2
      · rintro ⟨q, hq, rfl⟩
        obtain ⟨q1, q2⟩ := (hmem q).1 hq
        exact ⟨(hl _).2 ⟨q, q1, rfl⟩, sameKey_ne fun e => q2 (T.lit_inj K (hr.ok q (hs q q1)) (hr.ok p hpL) e)⟩
    simp [execOp, hop, hit, hrun, Result.andThen]
    refine hK' _ _ (hMore p (A ++ B) w' hpM hmem (by simp; omega) hfr ?_ hgr hsz hen)
    rw [hrg'.left_eq, hrg.left_eq]
    exact hlt

/-- delete(m, k) in the round at whose head k came -/
theorem wp_drop (w : World) (hg : o.guard = none) (m x : Operand) (t k : TypeId) (hop : o.op = Op.call { callee := Callee.builtin Builtin.delete, args := #[m, x], argTypes := #[t, k] }) (T : FTypes P k tw tb) (K : Keyed P k) (ht : P.underlying t = some (.map k e)) (b r : Nat) (L : List FK) (g : FK → Lit) (M : List FK)
    (hm : a.eval m = .map (some b)) (h : FRange P k e w b r L g M) (p : FK) (hx : a.eval x = fKey p) (hp : p ∈ L) (hpM : p ∉ M)
    (hK : ∀ w' L', FRange P k e w' b r L' g M → Dels L' L p → w'.rangeLeft b r ≤ w.rangeLeft b r → w.grownBy w' (some b) → w'.heap.size = w.heap.size → wpList P ops Q rest (a.put o.dst (.tuple #[])) w') : wpList P ops Q (o :: rest) a w := by
  obtain ⟨D, left, cnt, hrg, hr, hn, hs, hl⟩ := h
  refine wpList_delete_ranges w hg m x t k hop e K ht _ b r _ D left cnt hm hrg (fKey p) (fLit p) hx (T.of p (hr.ok p hp)) ?_
  intro w' cnt' h1 h2 h3
  obtain ⟨L', q1, q2, q3⟩ := hr.del T K (hrg.owns.tidy K) hp
  have r3 := ranges_exact h1
  rw [q1.size] at r3
  have hsz : w'.heap.size = w.heap.size := by
    obtain ⟨es, clock, es', clock', _, rfl⟩ := h3
    simp [ChangeMaps.setBlock]
  refine hK w' L' ⟨_, _, cnt', r3, q1, hn, fun q hq => (q2 q).2 ⟨hs q hq, fun e => hpM (e ▸ hq)⟩, fun l => ?_⟩ q2 ?_ h3.grown hsz
  · simp only [Bool.and_eq_true, Bool.not_eq_true']
    constructor
    · rintro ⟨h1, _⟩
      exact (hl l).1 h1
    · rintro ⟨q, hq, rfl⟩
      exact ⟨(hl _).2 ⟨q, hq, rfl⟩, sameKey_ne fun e => hpM (T.lit_inj K (hr.ok q (hs q hq)) (hr.ok p hp) e ▸ hq)⟩
  · rw [r3.left_eq, hrg.left_eq]
    exact h2
end

/-! ### of this program -/
abbrev FSet (w : World) (b : Nat) (L : List FK) : Prop := FMap Try.prog fK 4 w b L (fun _ => .bool true)
theorem zeroB (w : World) : (zeroValue 4).run Try.prog w = .ok (.bool false) w := by kernel_rfl
theorem zeroI (w : World) : (zeroValue 3).run Try.prog w = .ok (.int .i64 0) w := by kernel_rfl
theorem val_bool {P : Program} {e : TypeId} (he : P.underlying e = some .bool) {c : Bool} {v : Value} {ps : List MemPlace} (h : plainElem (H := Empty) P e v = some (.lit (.bool c), ps)) : v = .bool c := by
  obtain ⟨x, rfl, e⟩ := plainElem_bool_inv he h
  injection e with e _
  injection e with e
  injection e with e
  rw [e]
theorem val_int {P : Program} {e : TypeId} (he : P.underlying e = some (.int .i64)) {z : Int} {v : Value} {ps : List MemPlace} (h : plainElem (H := Empty) P e v = some (.lit (.int .i64 z), ps)) : v = .int .i64 z := by
  obtain ⟨x, rfl, e, _⟩ := plainElem_int_inv he h
  injection e with e _
  injection e with e
  injection e with _ e
  rw [e]
theorem vv_bool (_ : FK) (v : Value) (ps : List MemPlace) (h : plainElem (H := Empty) Try.prog 4 v = some (.lit (.bool true), ps)) : v = .bool true := val_bool Try.underlying4 h
theorem vv_int (z : Int) (v : Value) (ps : List MemPlace) (h : plainElem (H := Empty) Try.prog 3 v = some (.lit (.int .i64 z), ps)) : v = .int .i64 z := val_int Try.underlying3 h
end Go.Proofs.Ytefdciaijjgieaa
