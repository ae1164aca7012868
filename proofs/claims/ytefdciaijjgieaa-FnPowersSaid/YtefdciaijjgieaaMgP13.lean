/- Texts put together. -/
import Derived.Test.YtefdciaijjgieaaMgP4
import Derived.Test.YtefdciaijjgieaaMgP12
import Derived.Test.YtefdciaijjgieaaMgP9
import Derived.Test.YtefdciaijjgieaaMgP8
import Derived.Laws.Cover1
import Derived.Deep.CutBlock
import Derived.Test.YtefdciaijjgieaaMgP6
import Derived.Test.YtefdciaijjgieaaMgP10
/- The factors of a fixed point, of the model. Conditions: lengths of at most 2^20. -/
namespace Go.Proofs.Ytefdciaijjgieaa
open Go.RowKit

theorem own_str_at {w : World} {B g cp n : Nat} {m : List ByteArray} (h : w.ownsRow B 9 1 (.slice (some ⟨g, 0, none⟩) n cp) n (strs m)) (k : Nat) (hk : k < m.length) : w.cell? ⟨g, k, none⟩ = some (.string m[k]) := by
  have := h.cells (g := g) rfl k (.string m[k]) (by simp [strs, hk])
  rwa [Addr.add_lit, Nat.zero_add] at this
theorem sizeOf_strs (w : World) : (sizeOf (Try.prog.elem 24)).run Try.prog w = .ok 1 w := by kernel_rfl
set_option maxHeartbeats 1000000 in
theorem specInsert (m : List ByteArray) (g cp : Nat) (x : ByteArray) (w : World) (B : Nat) (h : w.ownsRow B 9 1 (.slice (some ⟨g, 0, none⟩) m.length cp) m.length (strs m)) (ha : Asc m) (hm : m.length ≤ 1000) (hB : B ≤ w.heap.size) :
    Calls Try.prog 60 #[.slice (some ⟨g, 0, none⟩) m.length cp, .string x] w fun e w' => ∃ g' cp', e = .returned (.slice (some ⟨g', 0, none⟩) (insL m x).length cp') ∧ w'.ownsRow B 9 1 (.slice (some ⟨g', 0, none⟩) (insL m x).length cp') (insL m x).length (strs (insL m x)) ∧ Below w.heap.size w w' := by
  obtain ⟨i0, hi0, hz0, hz1, hz2⟩ := info_parts str_info
  have HO := Lib.hid h
  have HA := Lib.hid ha
  have hcp : m.length ≤ cp := by
    rcases h.2 with ⟨e, _⟩ | ⟨_, _, _, e, _, _, hnc, _⟩
    · injection e with e _ _; cases e
    · injection e with _ _ e; omega
  clear h ha
  go_enter Try.func60, Try.ntmps60
  go_wp2
  go_loop [5] (fun i => ∃ k : Nat, k ≤ m.length ∧ i = .int .i64 k ∧ ∀ (j : Nat) (hj : j < m.length), k ≤ j → lessB x m[j] = true) (fun i => (intOf i).toNat)
  case atStart => exact ⟨m.length, Nat.le_refl _, rfl, fun j h1 h2 => absurd h1 (by omega)⟩
  case round =>
    obtain ⟨k, hk, rfl, hgt⟩ := hrel
    have HGT := Lib.hid hgt
    clear hgt
    by_cases h0 : k = 0
    · have d0 : decide (0 < k) = false := by simp; omega
      have d0i : decide ((0 : Int) < (k : Int)) = false := by simp; omega
      have HK : Hid (∀ (j : Nat) (hj : j < m.length), j < k → lessB m[j] x = true) := fun j hj h => absurd h (by omega)
      clear h0
      have HEQ : Hid (m.take k ++ x :: m.drop k = insL m x) := insL_at HA.out hk HGT.out HK.out
      obtain ⟨X1, hsl1, hX1⟩ := slice_upto Try.underlying24 sizeOf_strs g 0 m.length cp k hk hcp
      obtain ⟨X2, hsl2, hX2⟩ := slice_from Try.underlying24 sizeOf_strs g 0 m.length cp k hk hcp
      have HX1 := Lib.hid hX1
      have HX2 := Lib.hid hX2
      have HL1 : Hid ((strs (m.take k)).length = k * 1) := by show _ = _; rw [strs_length, List.length_take]; omega
      have HL2 : Hid ((strs (m.drop k)).length = (m.length - k) * 1) := by show _ = _; rw [strs_length, List.length_drop]; omega
      have HCE := Lib.hid (fun (j : Nat) (u : Value) (hu : (strs m)[j]? = some u) => HO.out.cells (g := g) rfl j u hu)
      clear hX1 hX2
      go_wp2_with (first
        | (at_builtin
           refine wpList_append_own _ rfl (.tmp 34) (.tmp 37) 24 rfl w.heap.size 9 i0 _ 1 16 Try.underlying24 hi0 hz0 hz1 hz2 rfl (by decide) _ 0 [] rfl (own_made0 _ _ _ (Nat.le_refl _)) X1 k cp (strs (m.take k)) rfl HL1.out ?_ (strs_one _) (by unfold maxLen; omega) (by omega) (by simp) ?_
           · intro j u hu
             rw [HX1.out]
             have h5 := HCE.out j u (by
               unfold strs at hu ⊢
               rw [List.map_take, List.getElem?_take] at hu
               split at hu
               · exact hu
               · cases hu)
             rw [Addr.add_lit] at h5 ⊢
             exact (((Below.refl w.heap.size w).alloc (Nat.le_refl _) (.cells #[] 9)).cell (World.block_lt_of_cell? w _ h5)).trans h5
           intro v4 w4 hown4 hgr4 hnil4
           have HB4 : Hid (Below w.heap.size w w4) := ((Below.refl _ _).alloc (Nat.le_refl _) _).grown hgr4 (by simp) (fun y hy => ((own_made0 w w.heap.size 9 (Nat.le_refl _)).lt y hy).1)
           rw [Nat.zero_add, List.nil_append] at hown4
           obtain ⟨A4, cp4, rfl⟩ := own_slice hown4
           have HO4 := Lib.hid hown4
           clear hown4 hgr4 hnil4)
        | (at_builtin
           refine wpList_append1 _ rfl (.tmp 39) (.tmp 41) _ rfl w.heap.size 9 i0 _ 16 Try.underlying24 hi0 hz0 hz1 hz2 rfl _ k _ rfl HO4.out (.string x) rfl rfl (by unfold maxLen; omega) (by omega) HB4.out.size ?_
           intro v5 w5 hown5 hbel5
           have HB5 : Hid (Below w.heap.size w w5) := HB4.out.trans hbel5
           obtain ⟨A5, cp5, rfl⟩ := own_slice hown5
           have HO5 := Lib.hid hown5
           clear hown5 hbel5)
        | (at_builtin
           refine wpList_append_own _ rfl (.tmp 43) (.tmp 46) 24 rfl w.heap.size 9 i0 _ 1 16 Try.underlying24 hi0 hz0 hz1 hz2 rfl (by decide) _ (k + 1) _ rfl HO5.out X2 (m.length - k) (cp - k) (strs (m.drop k)) rfl HL2.out ?_ (strs_one _) (by unfold maxLen; omega) (by omega) HB5.out.size ?_
           · intro j u hu
             have hj := (List.getElem?_eq_some_iff.1 hu).1
             have hl2 := HL2.out
             rw [HX2.out (by omega)]
             have h5 := HCE.out (k + j) u (by
               unfold strs at hu ⊢
               rw [List.map_drop, List.getElem?_drop] at hu
               exact hu)
             rw [Addr.add_lit] at h5 ⊢
             rw [show 0 + k + j = 0 + (k + j) from by omega]
             exact (HB5.out.cell (World.block_lt_of_cell? w _ h5)).trans h5
           intro v6 w6 hown6 hgr6 _
           have HB6 : Hid (Below w.heap.size w w6) := HB5.out.trans ((Below.refl _ _).grown hgr6 HB5.out.size (fun y hy => (HO5.out.lt y hy).1))
           have e6 : strs (m.take k) ++ [.string x] ++ strs (m.drop k) = strs (insL m x) := by rw [← HEQ.out]; simp [strs]
           have e7 : k + 1 + (m.length - k) = (insL m x).length := by rw [← HEQ.out, List.length_append, List.length_cons, List.length_take, List.length_drop]; omega
           rw [e6, e7] at hown6
           have h1l : 0 < (insL m x).length := by omega
           obtain ⟨g6, cp6, rfl, _⟩ := own_some hown6 h1l
           have HO6 := Lib.hid hown6
           have HE7 := Lib.hid e7
           clear hown6 hgr6 e6 e7))
      go_ret
      exact ⟨g6, cp6, rfl, own_mono HO6.out hB, HB6.out⟩
    · obtain ⟨q, hkq⟩ : ∃ q, k = q + 1 := ⟨k - 1, by omega⟩
      have hq : q < m.length := by omega
      have d0 : decide (0 < k) = true := by simp; omega
      have d0i : decide ((0 : Int) < (k : Int)) = true := by simp; omega
      have e1 : (k : Int) - 1 = (q : Int) := by omega
      have g1 := own_str_at HO.out q hq
      have HKQ := Lib.hid hkq
      clear hkq
      rcases less_tri x m[q] with hlt | heq | hlt
      · have b1 : Op.bytesLess m[q].toList x.toList = false := by
          rcases hb : Op.bytesLess m[q].toList x.toList with _ | _
          · rfl
          · exact absurd (less_trans hlt hb) (less_self x)
        have b2 : (m[q].toList == x.toList) = false := by
          rw [beq_eq_false_iff_ne]
          intro e
          have := bytes_ext e
          rw [this] at hlt
          exact less_self x hlt
        have HLT := Lib.hid hlt
        clear hlt h0
        go_wp2_with fail
        go_round
        case rel =>
          have hkq := HKQ.out
          refine ⟨q, by omega, by go_num, fun j hj h => ?_⟩
          by_cases e : j = q
          · subst e; exact HLT.out
          · exact HGT.out j hj (by omega)
        case measure => have hkq := HKQ.out; simp [intOf]; try omega
      · have HE : Hid (insL m x = m) := insL_there HA.out (by rw [heq]; exact List.getElem_mem _)
        have b2 : (m[q].toList == x.toList) = true := by rw [heq]; simp
        clear heq h0
        go_wp2_with fail
        go_ret
        rw [HE.out]
        exact ⟨g, cp, rfl, HO.out, Below.refl _ _⟩
      · have b1 : Op.bytesLess m[q].toList x.toList = true := hlt
        have b2 : (m[q].toList == x.toList) = false := by
          rw [beq_eq_false_iff_ne]
          intro e
          have := bytes_ext e
          rw [this] at hlt
          exact less_self x hlt
        have HK : Hid (∀ (j : Nat) (hj : j < m.length), j < k → lessB m[j] x = true) := fun j hj h => by
          have hkq := HKQ.out
          by_cases e : j = q
          · subst e; exact hlt
          · exact less_trans (List.pairwise_iff_getElem.1 HA.out j q hj hq (by omega)) hlt
        clear hlt h0
        have HEQ : Hid (m.take k ++ x :: m.drop k = insL m x) := insL_at HA.out hk HGT.out HK.out
        obtain ⟨X1, hsl1, hX1⟩ := slice_upto Try.underlying24 sizeOf_strs g 0 m.length cp k hk hcp
        obtain ⟨X2, hsl2, hX2⟩ := slice_from Try.underlying24 sizeOf_strs g 0 m.length cp k hk hcp
        have HX1 := Lib.hid hX1
        have HX2 := Lib.hid hX2
        have HL1 : Hid ((strs (m.take k)).length = k * 1) := by show _ = _; rw [strs_length, List.length_take]; omega
        have HL2 : Hid ((strs (m.drop k)).length = (m.length - k) * 1) := by show _ = _; rw [strs_length, List.length_drop]; omega
        have HCE := Lib.hid (fun (j : Nat) (u : Value) (hu : (strs m)[j]? = some u) => HO.out.cells (g := g) rfl j u hu)
        clear hX1 hX2
        go_wp2_with (first
          | (at_builtin
             refine wpList_append_own _ rfl (.tmp 34) (.tmp 37) 24 rfl w.heap.size 9 i0 _ 1 16 Try.underlying24 hi0 hz0 hz1 hz2 rfl (by decide) _ 0 [] rfl (own_made0 _ _ _ (Nat.le_refl _)) X1 k cp (strs (m.take k)) rfl HL1.out ?_ (strs_one _) (by unfold maxLen; omega) (by omega) (by simp) ?_
             · intro j u hu
               rw [HX1.out]
               have h5 := HCE.out j u (by
                 unfold strs at hu ⊢
                 rw [List.map_take, List.getElem?_take] at hu
                 split at hu
                 · exact hu
                 · cases hu)
               rw [Addr.add_lit] at h5 ⊢
               exact (((Below.refl w.heap.size w).alloc (Nat.le_refl _) (.cells #[] 9)).cell (World.block_lt_of_cell? w _ h5)).trans h5
             intro v4 w4 hown4 hgr4 hnil4
             have HB4 : Hid (Below w.heap.size w w4) := ((Below.refl _ _).alloc (Nat.le_refl _) _).grown hgr4 (by simp) (fun y hy => ((own_made0 w w.heap.size 9 (Nat.le_refl _)).lt y hy).1)
             rw [Nat.zero_add, List.nil_append] at hown4
             obtain ⟨A4, cp4, rfl⟩ := own_slice hown4
             have HO4 := Lib.hid hown4
             clear hown4 hgr4 hnil4)
          | (at_builtin
             refine wpList_append1 _ rfl (.tmp 39) (.tmp 41) _ rfl w.heap.size 9 i0 _ 16 Try.underlying24 hi0 hz0 hz1 hz2 rfl _ k _ rfl HO4.out (.string x) rfl rfl (by unfold maxLen; omega) (by omega) HB4.out.size ?_
             intro v5 w5 hown5 hbel5
             have HB5 : Hid (Below w.heap.size w w5) := HB4.out.trans hbel5
             obtain ⟨A5, cp5, rfl⟩ := own_slice hown5
             have HO5 := Lib.hid hown5
             clear hown5 hbel5)
          | (at_builtin
             refine wpList_append_own _ rfl (.tmp 43) (.tmp 46) 24 rfl w.heap.size 9 i0 _ 1 16 Try.underlying24 hi0 hz0 hz1 hz2 rfl (by decide) _ (k + 1) _ rfl HO5.out X2 (m.length - k) (cp - k) (strs (m.drop k)) rfl HL2.out ?_ (strs_one _) (by unfold maxLen; omega) (by omega) HB5.out.size ?_
             · intro j u hu
               have hj := (List.getElem?_eq_some_iff.1 hu).1
               have hl2 := HL2.out
               rw [HX2.out (by omega)]
               have h5 := HCE.out (k + j) u (by
                 unfold strs at hu ⊢
                 rw [List.map_drop, List.getElem?_drop] at hu
                 exact hu)
               rw [Addr.add_lit] at h5 ⊢
               rw [show 0 + k + j = 0 + (k + j) from by omega]
               exact (HB5.out.cell (World.block_lt_of_cell? w _ h5)).trans h5
             intro v6 w6 hown6 hgr6 _
             have HB6 : Hid (Below w.heap.size w w6) := HB5.out.trans ((Below.refl _ _).grown hgr6 HB5.out.size (fun y hy => (HO5.out.lt y hy).1))
             have e6 : strs (m.take k) ++ [.string x] ++ strs (m.drop k) = strs (insL m x) := by rw [← HEQ.out]; simp [strs]
             have e7 : k + 1 + (m.length - k) = (insL m x).length := by rw [← HEQ.out, List.length_append, List.length_cons, List.length_take, List.length_drop]; omega
             rw [e6, e7] at hown6
             have h1l : 0 < (insL m x).length := by omega
             obtain ⟨g6, cp6, rfl, _⟩ := own_some hown6 h1l
             have HO6 := Lib.hid hown6
             have HE7 := Lib.hid e7
             clear hown6 hgr6 e6 e7))
        go_ret
        exact ⟨g6, cp6, rfl, own_mono HO6.out hB, HB6.out⟩
end Go.Proofs.Ytefdciaijjgieaa

/- Chapter 8 of the model: SquaresIn, FirstSquare, l07Ends. Conditions: lengths of at most 2^20. -/
namespace Go.Proofs.Ytefdciaijjgieaa
open Go.RowKit Go.Lib

theorem slice_gen {P : Program} {t : TypeId} (ht : P.underlying t = some .string) (s : ByteArray) (a b : Int) (x y : Nat) (w : World) (ha : a = x) (hb : b = y) (h : x ≤ y) (h2 : y ≤ s.size) :
    (Instr.slice t (.string s) (some (.int .i64 a)) (some (.int .i64 b)) none).run P w = .ok (.string (s.extract x y)) w := by
  obtain ⟨n, rfl⟩ : ∃ n, y = x + n := ⟨y - x, by omega⟩
  have := slice_at (P := P) ht s x n w (by omega)
  rw [ha, hb, Int.natCast_add]
  exact this
theorem pwRow_yes {s : ByteArray} {i j : Nat} {l : List ByteArray} (hi : i + 2 * (j + 1) ≤ s.size) (h : s.extract i (i + (j + 1)) = s.extract (i + (j + 1)) (i + 2 * (j + 1))) : pwRow s i l (j + 1) = insL (pwRow s i l j) (s.extract i (i + 2 * (j + 1))) :=
  if_pos ((pwB_iff _ _ _).2 ⟨by omega, hi, h⟩)
theorem pwRow_no {s : ByteArray} {i j : Nat} {l : List ByteArray} (h : s.extract i (i + (j + 1)) ≠ s.extract (i + (j + 1)) (i + 2 * (j + 1))) : pwRow s i l (j + 1) = pwRow s i l j :=
  if_neg (fun hh => h ((pwB_iff _ _ _).1 hh).2.2)
theorem eq_bytes {x y : ByteArray} (h : x = y) : (x.toList == y.toList) = true := by rw [h]; simp
theorem ne_bytes {x y : ByteArray} (h : x ≠ y) : (x.toList == y.toList) = false := by
  rw [beq_eq_false_iff_ne]
  exact fun e => h (bytes_ext e)

set_option maxRecDepth 100000 in
set_option maxHeartbeats 1000000 in
theorem specSquaresIn (s : ByteArray) (w : World) (_ : s.size ≤ 1048576) :
    Calls Try.prog 30 #[.string s] w fun e w' => ∃ v, e = .returned v ∧ w'.ownsRow w.heap.size 9 1 v (pwR s).length (strs (pwR s)) ∧ Below w.heap.size w w' := by
  cases hw : wordB s
  · have HW := Lib.hid hw
    have HV : Hid (pwR s = []) := by show _ = _; unfold pwR pwOk; rw [hw]; rfl
    clear hw
    go_enter Try.func30, Try.ntmps30
    go_wp2_with fail
    refine (specWordOk s _).mono ?_
    rintro e w' ⟨rfl, rfl⟩
    rw [HW.out]
    go_wp2_with fail
    go_ret
    refine ⟨_, rfl, ?_, Below.refl _ _⟩
    rw [HV.out]
    exact World.ownsRow_nil _ _ _ _
  · have HW := Lib.hid hw
    by_cases h60 : 60 < s.size
    · have HV : Hid (pwR s = []) := by show _ = _; unfold pwR pwOk; rw [hw, decide_eq_false (by omega)]; rfl
      have d1 : decide ((60 : Int) < (s.size : Int)) = true := by simp; omega
      clear hw
      go_enter Try.func30, Try.ntmps30
      go_wp2_with fail
      refine (specWordOk s _).mono ?_
      rintro e w' ⟨rfl, rfl⟩
      rw [HW.out]
      go_wp2_with fail
      go_ret
      refine ⟨_, rfl, ?_, Below.refl _ _⟩
      rw [HV.out]
      exact World.ownsRow_nil _ _ _ _
    · have HV : Hid (pwR s = pwTo s s.size) := if_pos (by unfold pwOk; rw [hw, decide_eq_true (by omega)]; rfl)
      have d1 : decide ((60 : Int) < (s.size : Int)) = false := by simp; omega
      have HLOW := Lib.hid (word_low hw)
      have hs60 : s.size ≤ 60 := by omega
      have HLE := Lib.hid (pwTo_le s hs60)
      have HRL : Hid (∀ k j, k < s.size → k + 2 * j ≤ s.size → (pwRow s k (pwTo s k) j).length ≤ 960) := fun k j h1 h2 => by
        have a := pwRow_len s k (pwTo s k) j
        have b := pwTo_le s hs60 k (by omega)
        omega
      have HRA := Lib.hid (fun k j => pwRow_asc s k (pwTo_asc s k) j)
      clear hw h60
      go_enter Try.func30, Try.ntmps30
      go_wp2_with fail
      refine (specWordOk s _).mono ?_
      rintro e w' ⟨rfl, rfl⟩
      rw [HW.out]
      go_wp2_with fail
      have hown0 := World.ownsRow_made (e := 9) (size := 1) w #[] 0 (Nat.le_refl _) (by simp [maxLen]) (by simp)
      have HOWN0 := Lib.hid hown0
      have hb0 : Below w.heap.size w (w.alloc (.cells #[] 9)) := (Below.refl _ _).alloc (Nat.le_refl _) _
      have hsz0 : (w.alloc (.cells #[] 9)).heap.size = w.heap.size + 1 := by simp
      have HB0 := Lib.hid hb0
      clear hown0 hb0
      generalize w.alloc (.cells #[] 9) = w1 at HOWN0 HB0 hsz0 ⊢
      go_loopw [3] (fun o w' => ∃ k g cp : Nat, k ≤ s.size ∧ o = .slice (some ⟨g, 0, none⟩) (pwTo s k).length cp ∧ w'.ownsRow w.heap.size 9 1 (.slice (some ⟨g, 0, none⟩) (pwTo s k).length cp) (pwTo s k).length (strs (pwTo s k)) ∧ w'.heap[(w.heap.size + 1)]? = some (.stringIter s k) ∧ Below w.heap.size w w') (fun _ w' => s.size - w'.iterPos (w.heap.size + 1))
      case atStart => exact ⟨0, _, _, by omega, rfl, own_below HOWN0.out (below_iter w1 s 0), by rw [← hsz0]; exact World.iter_heap w1 s 0, HB0.out.trans ((below_iter w1 s 0).mono (by omega))⟩
      case round =>
        obtain ⟨k, g, cp, hk, rfl, ho, hit, hb⟩ := hrel
        obtain ⟨wi, rfl⟩ : ∃ y : World, y = wr := ⟨_, rfl⟩
        have HO := Lib.hid ho
        have HB := Lib.hid hb
        have hitlt := (Array.getElem?_eq_some_iff.1 hit).1
        by_cases hlt : k < s.size
        · have hnx : ∀ ty, (Instr.next (.pointer (some ⟨(w.heap.size + 1), 0, none⟩)) true ty).run Try.prog wi = _ := fun ty => run_next_ascii_at wi (w.heap.size + 1) s k ty hit hlt (HLOW.out k hlt)
          have hi2 := iterAt_heap wi (w.heap.size + 1) s k (k + 1) hit
          have hb2 := below_iterAt (k := (w.heap.size + 1)) hb (by omega) s (k + 1)
          have hsz2 := iterAt_size wi (w.heap.size + 1) s (k + 1)
          have ho2 : (wi.iterAt (w.heap.size + 1) s (k + 1)).ownsRow w.heap.size 9 1 (.slice (some ⟨g, 0, none⟩) (pwTo s k).length cp) (pwTo s k).length (strs (pwTo s k)) := by
            have hgne : g ≠ (w.heap.size + 1) := fun e => by
              subst e
              rcases ho.2 with ⟨h', _⟩ | ⟨g', cap', cur, h', _, hg, _⟩
              · simp at h'
              · injection h' with ha _ _
                injection ha with ha
                injection ha with ha
                subst ha
                rw [hit] at hg
                cases hg
            refine own_apart ho (row := some (w.heap.size + 1)) ⟨rfl, rfl, rfl, by rw [hsz2]; exact Nat.le_refl _, fun i hi hne => iterAt_other wi (w.heap.size + 1) i s (k + 1) (fun e => hne (by rw [e]))⟩ (fun j h1 h2 => ?_)
            have e1 : g = j := Option.some.inj h1
            have e2 : (w.heap.size + 1) = j := Option.some.inj h2
            omega
          have hpos0 := iterPos_at hit
          have HI2 := Lib.hid hi2
          have HB2 := Lib.hid hb2
          have HO2 := Lib.hid ho2
          clear hi2 hb2 ho2 ho hit hb
          generalize wi.iterAt (w.heap.size + 1) s (k + 1) = w2 at hnx HI2 HB2 HO2 hsz2
          go_wp2_with fail
          go_loopw [3, 5] (fun o hv w' => ∃ j g cp : Nat, k + 2 * j ≤ s.size ∧ hv = .int .i64 ((j : Int) + 1) ∧ o = .slice (some ⟨g, 0, none⟩) (pwRow s k (pwTo s k) j).length cp ∧ w'.ownsRow w.heap.size 9 1 (.slice (some ⟨g, 0, none⟩) (pwRow s k (pwTo s k) j).length cp) (pwRow s k (pwTo s k) j).length (strs (pwRow s k (pwTo s k) j)) ∧ w'.heap[(w.heap.size + 1)]? = some (.stringIter s (k + 1)) ∧ Below w.heap.size w w') (fun _ hv _ => s.size + 2 - (intOf hv).toNat)
          case atStart => exact ⟨0, g, cp, by omega, rfl, rfl, HO2.out, HI2.out, HB2.out⟩
          case round =>
            obtain ⟨j, g2, cp2, hj, rfl, rfl, ho, hit, hb⟩ := hrel
            obtain ⟨wj, rfl⟩ : ∃ y : World, y = wr := ⟨_, rfl⟩
            have HOJ := Lib.hid ho
            have HIJ := Lib.hid hit
            have HBJ := Lib.hid hb
            have hitj := (Array.getElem?_eq_some_iff.1 hit).1
            clear ho hit hb
            by_cases hle : k + 2 * (j + 1) ≤ s.size
            · have q1 : IntKind.i64.wrap ((k : Int) + ((j : Int) + 1)) = (k : Int) + ((j : Int) + 1) := IntWalk.i64_in _ (by omega)
              have q2 : IntKind.i64.wrap (2 * ((j : Int) + 1)) = 2 * ((j : Int) + 1) := IntWalk.i64_in _ (by omega)
              have q3 : IntKind.i64.wrap ((k : Int) + 2 * ((j : Int) + 1)) = (k : Int) + 2 * ((j : Int) + 1) := IntWalk.i64_in _ (by omega)
              have hs1 : ∀ w : World, (Instr.slice 9 (.string s) (some (.int .i64 (k : Int))) (some (.int .i64 ((k : Int) + ((j : Int) + 1)))) none).run Try.prog w = .ok (.string (s.extract k (k + (j + 1)))) w := fun w => slice_gen Try.underlying9 s _ _ k (k + (j + 1)) w rfl (by omega) (by omega) (by omega)
              have hs2 : ∀ w : World, (Instr.slice 9 (.string s) (some (.int .i64 ((k : Int) + ((j : Int) + 1)))) (some (.int .i64 ((k : Int) + 2 * ((j : Int) + 1)))) none).run Try.prog w = .ok (.string (s.extract (k + (j + 1)) (k + 2 * (j + 1)))) w := fun w => slice_gen Try.underlying9 s _ _ (k + (j + 1)) (k + 2 * (j + 1)) w (by omega) (by omega) (by omega) (by omega)
              have hs3 : ∀ w : World, (Instr.slice 9 (.string s) (some (.int .i64 (k : Int))) (some (.int .i64 ((k : Int) + 2 * ((j : Int) + 1)))) none).run Try.prog w = .ok (.string (s.extract k (k + 2 * (j + 1)))) w := fun w => slice_gen Try.underlying9 s _ _ k (k + 2 * (j + 1)) w rfl (by omega) (by omega) (by omega)
              have hrl := HRL.out k j hlt (by omega)
              by_cases hc : s.extract k (k + (j + 1)) = s.extract (k + (j + 1)) (k + 2 * (j + 1))
              · have HN := Lib.hid (pwRow_yes (l := pwTo s k) hle hc)
                have bq := eq_bytes hc
                have HINS := Lib.hid (fun w' hw' hB => specInsert (pwRow s k (pwTo s k) j) g2 cp2 (s.extract k (k + 2 * (j + 1))) w' w.heap.size hw' (HRA.out k j) (by omega) hB)
                clear hc
                generalize s.extract k (k + (j + 1)) = x1 at hs1 bq
                generalize s.extract (k + (j + 1)) (k + 2 * (j + 1)) = x2 at hs2 bq
                generalize s.extract k (k + 2 * (j + 1)) = x3 at hs3 HN HINS
                go_wp2_with fail
                go_region
                go_wp2_with fail
                refine (HINS.out wj.drew HOJ.out HBJ.out.size).mono ?_
                rintro e w3 ⟨g3, cp3, rfl, ho3, hb3⟩
                have HO3 := Lib.hid ho3
                have HB3 := Lib.hid hb3
                have HI3 : Hid (w3.heap[(w.heap.size + 1)]? = some (.stringIter s (k + 1))) := (hb3.block (w.heap.size + 1) hitj).trans HIJ.out
                clear ho3 hb3
                go_wp2_with fail
                go_roundw
                case rel => exact ⟨j + 1, g3, cp3, by omega, by go_num, by rw [HN.out], by rw [HN.out]; exact HO3.out, HI3.out, (below_drewN HBJ.out 1).trans (HB3.out.mono HBJ.out.size)⟩
                case measure => simp [intOf]; omega
              · have HN := Lib.hid (pwRow_no (i := k) (j := j) (l := pwTo s k) hc)
                have bq := ne_bytes hc
                clear hc
                generalize s.extract k (k + (j + 1)) = x1 at hs1 bq
                generalize s.extract (k + (j + 1)) (k + 2 * (j + 1)) = x2 at hs2 bq
                go_wp2_with fail
                go_region
                go_wp2_with fail
                go_roundw
                case rel => exact ⟨j + 1, g2, cp2, by omega, by go_num, by rw [HN.out], by rw [HN.out]; exact HOJ.out, HIJ.out, below_drewN HBJ.out 1⟩
                case measure => simp [intOf]; omega
            · have hjj : j = (s.size - k) / 2 := by omega
              have HEQ : Hid (pwTo s (k + 1) = pwRow s k (pwTo s k) j) := by show _ = _; rw [hjj]; rfl
              clear hjj
              go_wp2_with fail
              go_roundw
              case rel => exact ⟨k + 1, g2, cp2, by omega, by rw [HEQ.out], by rw [HEQ.out]; exact HOJ.out, HIJ.out, HBJ.out⟩
              case measure =>
                rw [iterPos_at HIJ.out, hpos0]
                omega
        · have hnx : ∀ ty, (Instr.next (.pointer (some ⟨(w.heap.size + 1), 0, none⟩)) true ty).run Try.prog wi = _ := fun ty => run_next_end_at wi (w.heap.size + 1) s k ty hit hlt
          have hkk : k = s.size := by omega
          have HE : Hid (pwTo s k = pwTo s s.size) := by show _ = _; rw [hkk]
          clear hkk ho hit hb
          go_wp2_with fail
          go_ret
          refine ⟨_, rfl, ?_, HB.out⟩
          rw [HV.out, ← HE.out]
          exact HO.out
end Go.Proofs.Ytefdciaijjgieaa

/- Chapter 8 of the model: FirstSquare, l07Ends. Conditions: lengths of at most 2^20. -/
namespace Go.Proofs.Ytefdciaijjgieaa
open Go.RowKit Go.Lib

/-- a square with halves of h letters ends at e -/
def SqEnd (s : ByteArray) (e h : Nat) : Prop := 1 ≤ h ∧ 2 * h ≤ e ∧ e ≤ s.size ∧ s.extract (e - 2 * h) (e - h) = s.extract (e - h) e
theorem firstP_none {P : Nat → Prop} : ∀ (k p : Nat), (∀ r, p ≤ r → r < p + k → ¬ P r) → firstP P p k = p + k
  | 0, _, _ => rfl
  | k + 1, p, h => by
    unfold firstP
    rw [@decide_eq_false _ (Classical.propDecidable _) (h p (Nat.le_refl _) (by omega)), if_neg (by decide), firstP_none k (p + 1) (fun r a b => h r (by omega) (by omega))]
    omega
noncomputable def fsqE (s : ByteArray) : Nat := firstP (fun e => ∃ h, SqEnd s e h) 0 (s.size + 1)
noncomputable def fsqH (s : ByteArray) : Nat := firstP (SqEnd s (fsqE s)) 1 s.size
noncomputable def fsqB (s : ByteArray) : Bool := wordB s && decide (fsqE s ≤ s.size)
/-- what FirstSquare is to return -/
noncomputable def fsqR1 (s : ByteArray) : Int := if fsqB s = true then (fsqE s : Int) else -1
noncomputable def fsqR2 (s : ByteArray) : Int := if fsqB s = true then (fsqH s : Int) else -1
theorem fsq_found {s : ByteArray} {e h : Nat} (hw : wordB s = true) (h1 : SqEnd s e h) (h2 : ∀ e', e' < e → ∀ h', ¬ SqEnd s e' h') (h3 : ∀ h', h' < h → ¬ SqEnd s e h') : fsqR1 s = (e : Int) ∧ fsqR2 s = (h : Int) := by
  have e1 : fsqE s = e := firstP_eq _ _ _ (Nat.zero_le _) (by have := h1.2.2.1; omega) (fun r _ hr => fun ⟨h', hh⟩ => h2 r hr h' hh) ⟨h, h1⟩
  have e2 : fsqH s = h := by
    unfold fsqH
    rw [e1]
    exact firstP_eq _ _ _ h1.1 (by have := h1.2.1; have := h1.2.2.1; omega) (fun r _ hr => h3 r hr) h1
  have e3 : fsqB s = true := by unfold fsqB; rw [hw, e1, decide_eq_true h1.2.2.1]; rfl
  unfold fsqR1 fsqR2
  rw [if_pos e3, if_pos e3, e1, e2]
  exact ⟨rfl, rfl⟩
theorem fsq_none {s : ByteArray} (h : ∀ e h', ¬ SqEnd s e h') : fsqR1 s = -1 ∧ fsqR2 s = -1 := by
  have e1 : fsqE s = 0 + (s.size + 1) := firstP_none _ _ (fun r _ _ => fun ⟨h', hh⟩ => h r h' hh)
  have e3 : fsqB s = false := by unfold fsqB; rw [e1, decide_eq_false (by omega), Bool.and_false]
  unfold fsqR1 fsqR2
  rw [e3]
  exact ⟨rfl, rfl⟩
theorem fsq_word {s : ByteArray} (h : wordB s = false) : fsqR1 s = -1 ∧ fsqR2 s = -1 := by
  have e3 : fsqB s = false := by unfold fsqB; rw [h]; rfl
  unfold fsqR1 fsqR2
  rw [e3]
  exact ⟨rfl, rfl⟩
noncomputable def endsB (s : ByteArray) : Bool := @decide (∃ h, SqEnd s s.size h) (Classical.propDecidable _)
theorem endsB_iff (s : ByteArray) : endsB s = true ↔ ∃ h, SqEnd s s.size h := by unfold endsB; simp

set_option maxHeartbeats 1000000 in
theorem specEnds (s : ByteArray) (w : World) (hs : s.size ≤ 1048576) :
    Calls Try.prog 66 #[.string s] w fun e w' => e = .returned (.bool (endsB s)) ∧ Below w.heap.size w w' := by
  have HY : Hid (∀ h, SqEnd s s.size h → endsB s = true) := fun h hh => (endsB_iff s).2 ⟨h, hh⟩
  have HNO : Hid ((∀ h, ¬ SqEnd s s.size h) → endsB s = false) := fun hh => by
    cases hb : endsB s
    · rfl
    · obtain ⟨h, h2⟩ := (endsB_iff s).1 hb
      exact absurd h2 (hh h)
  generalize endsB s = rb at HY HNO
  go_enter Try.func66, Try.ntmps66
  go_wp2_with fail
  go_loopw [3] (fun hv w' => ∃ j : Nat, j ≤ s.size ∧ hv = .int .i64 ((j : Int) + 1) ∧ (∀ h, h ≤ j → ¬ SqEnd s s.size h) ∧ Below w.heap.size w w') (fun hv _ => s.size + 2 - (intOf hv).toNat)
  case atStart => exact ⟨0, by omega, rfl, fun h hh hq => by have := hq.1; omega, Below.refl _ _⟩
  case round =>
    obtain ⟨j, hj, rfl, hno, hb⟩ := hrel
    obtain ⟨wj, rfl⟩ : ∃ y : World, y = wr := ⟨_, rfl⟩
    have HN := Lib.hid hno
    have HB := Lib.hid hb
    clear hno hb
    by_cases hle : 2 * (j + 1) ≤ s.size
    · have q1 : IntKind.i64.wrap (2 * ((j : Int) + 1)) = 2 * ((j : Int) + 1) := IntWalk.i64_in _ (by omega)
      have q2 : IntKind.i64.wrap ((s.size : Int) - 2 * ((j : Int) + 1)) = (s.size : Int) - 2 * ((j : Int) + 1) := IntWalk.i64_in _ (by omega)
      have q3 : IntKind.i64.wrap ((s.size : Int) - ((j : Int) + 1)) = (s.size : Int) - ((j : Int) + 1) := IntWalk.i64_in _ (by omega)
      have hs1 : ∀ w : World, (Instr.slice 9 (.string s) (some (.int .i64 ((s.size : Int) - 2 * ((j : Int) + 1)))) (some (.int .i64 ((s.size : Int) - ((j : Int) + 1)))) none).run Try.prog w = .ok (.string (s.extract (s.size - 2 * (j + 1)) (s.size - (j + 1)))) w := fun w => slice_gen Try.underlying9 s _ _ _ _ w (by omega) (by omega) (by omega) (by omega)
      have hs2 : ∀ w : World, (Instr.slice 9 (.string s) (some (.int .i64 ((s.size : Int) - ((j : Int) + 1)))) none none).run Try.prog w = .ok (.string (s.extract (s.size - (j + 1)) s.size)) w := fun w => by
        rw [run_slice_string_from_if (P := Try.prog) w 9 s .i64 ((s.size : Int) - ((j : Int) + 1)) Try.underlying9, if_pos ⟨by omega, by omega⟩]
        rw [show ((s.size : Int) - ((j : Int) + 1)).toNat = s.size - (j + 1) by omega]
      by_cases hc : s.extract (s.size - 2 * (j + 1)) (s.size - (j + 1)) = s.extract (s.size - (j + 1)) s.size
      · have HRB : Hid (rb = true) := HY.out (j + 1) ⟨by omega, hle, Nat.le_refl _, hc⟩
        have bq := eq_bytes hc
        clear hc
        generalize s.extract (s.size - 2 * (j + 1)) (s.size - (j + 1)) = x1 at hs1 bq
        generalize s.extract (s.size - (j + 1)) s.size = x2 at hs2 bq
        go_wp2_with fail
        go_region
        go_wp2_with fail
        go_ret
        exact ⟨ret_bool HRB.out.symm, below_drewN HB.out 1⟩
      · have HN2 : Hid (∀ h, h ≤ j + 1 → ¬ SqEnd s s.size h) := fun h hh hq => by
          by_cases e : h = j + 1
          · subst e; exact hc hq.2.2.2
          · exact HN.out h (by omega) hq
        have bq := ne_bytes hc
        clear hc
        generalize s.extract (s.size - 2 * (j + 1)) (s.size - (j + 1)) = x1 at hs1 bq
        generalize s.extract (s.size - (j + 1)) s.size = x2 at hs2 bq
        go_wp2_with fail
        go_region
        go_wp2_with fail
        go_roundw
        case rel => exact ⟨j + 1, by omega, by go_num, HN2.out, below_drewN HB.out 1⟩
        case measure => simp [intOf]; omega
    · have HRB : Hid (rb = false) := HNO.out fun h hq => by
        by_cases e : h ≤ j
        · exact HN.out h e hq
        · have := hq.2.1; omega
      go_wp2_with fail
      go_ret
      exact ⟨ret_bool HRB.out.symm, HB.out⟩

set_option maxHeartbeats 1000000 in
theorem specFirstSquare (s : ByteArray) (w : World) (_ : s.size ≤ 1048576) :
    Calls Try.prog 41 #[.string s] w fun e w' => e = .returned (.tuple #[.int .i64 (fsqR1 s), .int .i64 (fsqR2 s)]) ∧ Below w.heap.size w w' := by
  cases hw : wordB s
  · have HW := Lib.hid hw
    obtain ⟨v1, v2⟩ := fsq_word hw
    rw [v1, v2]
    clear hw v1 v2
    go_enter Try.func41, Try.ntmps41
    go_wp2_with fail
    refine (specWordOk s _).mono ?_
    rintro e w' ⟨rfl, rfl⟩
    rw [HW.out]
    go_wp2_with fail
    go_ret2
    exact ⟨rfl, Below.refl _ _⟩
  · have HW := Lib.hid hw
    have h4 := word_size hw
    have HY := Lib.hid (fun e h => fsq_found (s := s) (e := e) (h := h) hw)
    have HNO := Lib.hid (fsq_none (s := s))
    clear hw
    generalize fsqR1 s = r1 at HY HNO ⊢
    generalize fsqR2 s = r2 at HY HNO ⊢
    go_enter Try.func41, Try.ntmps41
    go_wp2_with fail
    refine (specWordOk s _).mono ?_
    rintro e w' ⟨rfl, rfl⟩
    rw [HW.out]
    go_wp2_with fail
    go_loopw [4] (fun ev w' => ∃ e : Nat, e ≤ s.size + 2 ∧ 2 ≤ e ∧ ev = .int .i64 (e : Int) ∧ (∀ e', e' < e → ∀ h, ¬ SqEnd s e' h) ∧ Below w.heap.size w w') (fun ev _ => s.size + 3 - (intOf ev).toNat)
    case atStart => exact ⟨2, by omega, by omega, rfl, fun e' a h hq => by have := hq.1; have := hq.2.1; omega, Below.refl _ _⟩
    case round =>
      obtain ⟨e, he1, he2, rfl, hno, hb⟩ := hrel
      obtain ⟨wo, rfl⟩ : ∃ y : World, y = wr := ⟨_, rfl⟩
      have HN := Lib.hid hno
      have HB := Lib.hid hb
      clear hno hb
      by_cases hes : e ≤ s.size
      · go_wp2_with fail
        go_loopw [5] (fun hv w' => ∃ j : Nat, 2 * j ≤ e ∧ hv = .int .i64 ((j : Int) + 1) ∧ (∀ h, h ≤ j → ¬ SqEnd s e h) ∧ Below w.heap.size w w') (fun hv _ => s.size + 2 - (intOf hv).toNat)
        case atStart => exact ⟨0, by omega, rfl, fun h hh hq => by have := hq.1; omega, HB.out⟩
        case round =>
          obtain ⟨j, hj, rfl, hno, hb⟩ := hrel
          obtain ⟨wj, rfl⟩ : ∃ y : World, y = wr := ⟨_, rfl⟩
          have HNJ := Lib.hid hno
          have HBJ := Lib.hid hb
          clear hno hb
          by_cases hle : 2 * (j + 1) ≤ e
          · have q1 : IntKind.i64.wrap (2 * ((j : Int) + 1)) = 2 * ((j : Int) + 1) := IntWalk.i64_in _ (by omega)
            have q2 : IntKind.i64.wrap ((e : Int) - 2 * ((j : Int) + 1)) = (e : Int) - 2 * ((j : Int) + 1) := IntWalk.i64_in _ (by omega)
            have q3 : IntKind.i64.wrap ((e : Int) - ((j : Int) + 1)) = (e : Int) - ((j : Int) + 1) := IntWalk.i64_in _ (by omega)
            have hs1 : ∀ w : World, (Instr.slice 9 (.string s) (some (.int .i64 ((e : Int) - 2 * ((j : Int) + 1)))) (some (.int .i64 ((e : Int) - ((j : Int) + 1)))) none).run Try.prog w = .ok (.string (s.extract (e - 2 * (j + 1)) (e - (j + 1)))) w := fun w => slice_gen Try.underlying9 s _ _ _ _ w (by omega) (by omega) (by omega) (by omega)
            have hs2 : ∀ w : World, (Instr.slice 9 (.string s) (some (.int .i64 ((e : Int) - ((j : Int) + 1)))) (some (.int .i64 (e : Int))) none).run Try.prog w = .ok (.string (s.extract (e - (j + 1)) e)) w := fun w => slice_gen Try.underlying9 s _ _ _ _ w (by omega) (by omega) (by omega) (by omega)
            by_cases hc : s.extract (e - 2 * (j + 1)) (e - (j + 1)) = s.extract (e - (j + 1)) e
            · have HRB := Lib.hid (HY.out e (j + 1) ⟨by omega, hle, hes, hc⟩ HN.out (fun h hh => HNJ.out h (by omega)))
              have bq := eq_bytes hc
              clear hc
              generalize s.extract (e - 2 * (j + 1)) (e - (j + 1)) = x1 at hs1 bq
              generalize s.extract (e - (j + 1)) e = x2 at hs2 bq
              go_wp2_with fail
              go_region
              go_wp2_with fail
              go_ret2
              exact ⟨by rw [HRB.out.1, HRB.out.2]; rfl, below_drewN HBJ.out 1⟩
            · have HN2 : Hid (∀ h, h ≤ j + 1 → ¬ SqEnd s e h) := fun h hh hq => by
                by_cases e0 : h = j + 1
                · subst e0; exact hc hq.2.2.2
                · exact HNJ.out h (by omega) hq
              have bq := ne_bytes hc
              clear hc
              generalize s.extract (e - 2 * (j + 1)) (e - (j + 1)) = x1 at hs1 bq
              generalize s.extract (e - (j + 1)) e = x2 at hs2 bq
              go_wp2_with fail
              go_region
              go_wp2_with fail
              go_roundw
              case rel => exact ⟨j + 1, by omega, by go_num, HN2.out, below_drewN HBJ.out 1⟩
              case measure => simp [intOf]; omega
          · have HE : Hid (∀ e', e' < e + 1 → ∀ h, ¬ SqEnd s e' h) := fun e' a h hq => by
              by_cases e0 : e' = e
              · subst e0
                by_cases hh : h ≤ j
                · exact HNJ.out h hh hq
                · have := hq.2.1; omega
              · exact HN.out e' (by omega) h hq
            go_wp2_with fail
            go_roundw
            case rel => exact ⟨e + 1, by omega, by omega, by go_num, HE.out, HBJ.out⟩
            case measure => simp [intOf]; omega
      · have HRB := Lib.hid (HNO.out fun e' h hq => by
          by_cases hh : e' < e
          · exact HN.out e' hh h hq
          · have := hq.2.2.1; omega)
        go_wp2_with fail
        go_ret2
        exact ⟨by rw [HRB.out.1, HRB.out.2]; rfl, HB.out⟩
end Go.Proofs.Ytefdciaijjgieaa

/- Chapter 8 of the model: GreatestExponent. Conditions: lengths of at most 2^20. -/
namespace Go.Proofs.Ytefdciaijjgieaa
open Go.RowKit Go.Lib

noncomputable def gexRow (s : ByteArray) (n : Nat) (y : Nat × Nat) : Nat → Nat × Nat
  | 0 => y
  | i + 1 => if (gexRow s n y i).1 * perN (s.extract i (i + n)) < n * (gexRow s n y i).2 then (n, perN (s.extract i (i + n))) else gexRow s n y i
/-- behind the factors of 1 to n + 1 letters: the length and the least period of the best -/
noncomputable def gexTo (s : ByteArray) : Nat → Nat × Nat
  | 0 => (1, 1)
  | n + 1 => gexRow s (n + 2) (gexTo s n) (s.size + 1 - (n + 2))
def gexOk (s : ByteArray) : Bool := wordB s && (decide (1 ≤ s.size) && decide (s.size ≤ 60))
/-- what GreatestExponent is to return -/
noncomputable def gexR (s : ByteArray) : Nat × Nat := if gexOk s = true then gexTo s (s.size - 1) else (0, 0)
theorem firstP_le {P : Nat → Prop} : ∀ (k p : Nat), p ≤ firstP P p k ∧ firstP P p k ≤ p + k
  | 0, p => ⟨Nat.le_refl _, Nat.le_refl _⟩
  | k + 1, p => by
    have := firstP_le (P := P) k (p + 1)
    unfold firstP
    split <;> omega
theorem perN_le (s : ByteArray) : 1 ≤ perN s ∧ perN s ≤ s.size + 1 := by
  have := firstP_le (P := PerAt s) s.size 1
  unfold perN
  omega
theorem gexRow_le (s : ByteArray) (n : Nat) (hn : n ≤ 60) (y : Nat × Nat) (hy : y.1 ≤ 61 ∧ y.2 ≤ 61) : ∀ i, (gexRow s n y i).1 ≤ 61 ∧ (gexRow s n y i).2 ≤ 61
  | 0 => hy
  | i + 1 => by
    have ih := gexRow_le s n hn y hy i
    unfold gexRow
    split
    · have := perN_le (s.extract i (i + n))
      have hz : (s.extract i (i + n)).size ≤ n := by rw [ByteArray.size_extract]; omega
      exact ⟨by show n ≤ 61; omega, by show perN _ ≤ 61; omega⟩
    · exact ih
theorem gexTo_le (s : ByteArray) : ∀ n, n ≤ 59 → (gexTo s n).1 ≤ 61 ∧ (gexTo s n).2 ≤ 61
  | 0, _ => ⟨by show 1 ≤ 61; omega, by show 1 ≤ 61; omega⟩
  | n + 1, h => gexRow_le s (n + 2) (by omega) _ (gexTo_le s n (by omega)) _
theorem gexRow_yes {s : ByteArray} {n i : Nat} {y : Nat × Nat} (h : (gexRow s n y i).1 * perN (s.extract i (i + n)) < n * (gexRow s n y i).2) : gexRow s n y (i + 1) = (n, perN (s.extract i (i + n))) := if_pos h
theorem gexRow_no {s : ByteArray} {n i : Nat} {y : Nat × Nat} (h : ¬ (gexRow s n y i).1 * perN (s.extract i (i + n)) < n * (gexRow s n y i).2) : gexRow s n y (i + 1) = gexRow s n y i := if_neg h
theorem mul_small {a b : Nat} (h1 : a ≤ 61) (h2 : b ≤ 61) : a * b ≤ 3721 := Nat.le_trans (Nat.mul_le_mul h1 h2) (by omega)

set_option maxHeartbeats 1000000 in
theorem specGreatestExponent (s : ByteArray) (w : World) (_ : s.size ≤ 1048576) :
    Calls Try.prog 39 #[.string s] w fun e w' => e = .returned (.tuple #[.int .i64 ((gexR s).1 : Int), .int .i64 ((gexR s).2 : Int)]) ∧ Below w.heap.size w w' := by
  cases hw : wordB s
  · have HW := Lib.hid hw
    have hv : gexR s = (0, 0) := by unfold gexR gexOk; rw [hw]; rfl
    rw [hv]
    clear hw hv
    go_enter Try.func39, Try.ntmps39
    go_wp2_with fail
    refine (specWordOk s _).mono ?_
    rintro e w' ⟨rfl, rfl⟩
    rw [HW.out]
    go_wp2_with fail
    go_ret2
    exact ⟨rfl, Below.refl _ _⟩
  · have HW := Lib.hid hw
    by_cases hin : 1 ≤ s.size ∧ s.size ≤ 60
    · obtain ⟨hs1, hs60⟩ := hin
      have HV : Hid (gexR s = gexTo s (s.size - 1)) := if_pos (by unfold gexOk; rw [hw, decide_eq_true hs1, decide_eq_true hs60]; rfl)
      have d1 : decide ((1 : Int) ≤ (s.size : Int)) = true := by simp; omega
      have d2 : decide ((s.size : Int) ≤ (60 : Int)) = true := by simp; omega
      have HTL := Lib.hid (gexTo_le s)
      clear hw
      rw [HV.out]
      go_enter Try.func39, Try.ntmps39
      go_wp2_with fail
      refine (specWordOk s _).mono ?_
      rintro e w' ⟨rfl, rfl⟩
      rw [HW.out]
      go_wp2_with fail
      refine (specIn _ _ _ _).mono ?_
      rintro e w' ⟨rfl, rfl⟩
      go_wp2_with fail
      go_loopw [4, 5, 6] (fun av bv nv w' => ∃ n : Nat, n + 1 ≤ s.size ∧ nv = .int .i64 ((n : Int) + 2) ∧ av = .int .i64 ((gexTo s n).1 : Int) ∧ bv = .int .i64 ((gexTo s n).2 : Int) ∧ Below w.heap.size w w') (fun _ _ nv _ => s.size + 3 - (intOf nv).toNat)
      case atStart => exact ⟨0, by omega, rfl, rfl, rfl, Below.refl _ _⟩
      case round =>
        obtain ⟨n, hn, rfl, rfl, rfl, hb⟩ := hrel
        obtain ⟨wo, rfl⟩ : ∃ y : World, y = wr := ⟨_, rfl⟩
        have HB := Lib.hid hb
        have htl := HTL.out n (by omega)
        clear hb
        by_cases hns : n + 2 ≤ s.size
        · have HRL := Lib.hid (gexRow_le s (n + 2) (by omega) (gexTo s n) htl)
          have dn : decide ((n : Int) + 2 ≤ (s.size : Int)) = true := by simp; omega
          have HNX : Hid (gexTo s (n + 1) = gexRow s (n + 2) (gexTo s n) (s.size + 1 - (n + 2))) := rfl
          go_wp2_with fail
          go_loopw [4, 5, 7] (fun av bv iv w' => ∃ i : Nat, i + (n + 2) ≤ s.size + 1 ∧ iv = .int .i64 (i : Int) ∧ av = .int .i64 ((gexRow s (n + 2) (gexTo s n) i).1 : Int) ∧ bv = .int .i64 ((gexRow s (n + 2) (gexTo s n) i).2 : Int) ∧ Below w.heap.size w w') (fun _ _ iv _ => s.size + 1 - (intOf iv).toNat)
          case atStart => exact ⟨0, by omega, rfl, rfl, rfl, HB.out⟩
          case round =>
            obtain ⟨i, hi, rfl, rfl, rfl, hb⟩ := hrel
            obtain ⟨wi, rfl⟩ : ∃ y : World, y = wr := ⟨_, rfl⟩
            have HBI := Lib.hid hb
            clear hb
            obtain ⟨z1, z2⟩ := HRL.out i
            by_cases hin : i + (n + 2) ≤ s.size
            · have hsl : ∀ w : World, (Instr.slice 9 (.string s) (some (.int .i64 (i : Int))) (some (.int .i64 ((i : Int) + ((n : Int) + 2)))) none).run Try.prog w = .ok (.string (s.extract i (i + (n + 2)))) w := fun w => slice_gen Try.underlying9 s _ _ _ _ w rfl (by omega) (by omega) (by omega)
              have hpz : (s.extract i (i + (n + 2))).size = n + 2 := by rw [ByteArray.size_extract]; omega
              have hpl := perN_le (s.extract i (i + (n + 2)))
              have HPER := Lib.hid (fun w => specPeriod (s.extract i (i + (n + 2))) w (by omega) (by omega))
              have HYES := Lib.hid (fun h => gexRow_yes (s := s) (n := n + 2) (i := i) (y := gexTo s n) h)
              have HNO := Lib.hid (fun h => gexRow_no (s := s) (n := n + 2) (i := i) (y := gexTo s n) h)
              generalize perN (s.extract i (i + (n + 2))) = p at hpl HPER HYES HNO
              generalize s.extract i (i + (n + 2)) = pt at hsl hpz hpl HPER
              generalize haz : (gexRow s (n + 2) (gexTo s n) i).1 = a at z1 HYES HNO ⊢
              generalize hbz : (gexRow s (n + 2) (gexTo s n) i).2 = b at z2 HYES HNO ⊢
              have HAZ := Lib.hid haz
              have HBZ := Lib.hid hbz
              clear haz hbz
              have m1 : ((n : Int) + 2) * (b : Int) = (((n + 2) * b : Nat) : Int) := by push_cast; rfl
              have m2 : (a : Int) * (p : Int) = ((a * p : Nat) : Int) := by push_cast; rfl
              have l1 := mul_small (a := n + 2) (b := b) (by omega) z2
              have l2 := mul_small (a := a) (b := p) z1 (by omega)
              by_cases hc : a * p < (n + 2) * b
              · have HZ := Lib.hid (HYES.out hc)
                have dc : decide (((a * p : Nat) : Int) < (((n + 2) * b : Nat) : Int)) = true := by simp only [decide_eq_true_eq]; omega
                clear HYES HNO
                generalize (n + 2) * b = nb at m1 l1 hc dc
                generalize a * p = ap at m2 l2 hc dc
                go_wp2_with fail
                refine (HPER.out _).mono ?_
                rintro e wp ⟨rfl, hb⟩
                have HBP : Hid (Below w.heap.size w wp) := HBI.out.trans (hb.mono HBI.out.size)
                clear hb
                go_wp2_with fail
                go_roundw
                case rel => exact ⟨i + 1, by omega, by go_num, by rw [HZ.out]; exact int_val (by show _ = ((n + 2 : Nat) : Int); omega), by rw [HZ.out], HBP.out⟩
                case measure => simp [intOf]; omega
              · have HZ := Lib.hid (HNO.out hc)
                have dc : decide (((a * p : Nat) : Int) < (((n + 2) * b : Nat) : Int)) = false := by simp only [decide_eq_false_iff_not]; omega
                clear HYES HNO
                generalize (n + 2) * b = nb at m1 l1 hc dc
                generalize a * p = ap at m2 l2 hc dc
                go_wp2_with fail
                refine (HPER.out _).mono ?_
                rintro e wp ⟨rfl, hb⟩
                have HBP : Hid (Below w.heap.size w wp) := HBI.out.trans (hb.mono HBI.out.size)
                clear hb
                go_wp2_with fail
                go_roundw
                case rel => exact ⟨i + 1, by omega, by go_num, by rw [HZ.out, HAZ.out], by rw [HZ.out, HBZ.out], HBP.out⟩
                case measure => simp [intOf]; omega
            · have hii : i = s.size + 1 - (n + 2) := by omega
              have HQ : Hid (gexTo s (n + 1) = gexRow s (n + 2) (gexTo s n) i) := by show _ = _; rw [HNX.out, hii]
              clear hii
              go_wp2_with fail
              go_roundw
              case rel => exact ⟨n + 1, by omega, by go_num, by rw [HQ.out], by rw [HQ.out], HBI.out⟩
              case measure => simp [intOf]; omega
        · have HNN : Hid (s.size - 1 = n) := by show s.size - 1 = n; omega
          go_wp2_with fail
          go_ret2
          exact ⟨by rw [HNN.out]; rfl, HB.out⟩
    · have hv : gexR s = (0, 0) := by
        unfold gexR gexOk
        rw [hw]
        by_cases h1 : 1 ≤ s.size
        · rw [decide_eq_true h1, decide_eq_false (show ¬ s.size ≤ 60 by omega)]; rfl
        · rw [decide_eq_false h1]; rfl
      have dq : (decide ((1 : Int) ≤ (s.size : Int)) && decide ((s.size : Int) ≤ (60 : Int))) = false := by simp; omega
      rw [hv]
      clear hw hv
      go_enter Try.func39, Try.ntmps39
      go_wp2_with fail
      refine (specWordOk s _).mono ?_
      rintro e w' ⟨rfl, rfl⟩
      rw [HW.out]
      go_wp2_with fail
      refine (specIn _ _ _ _).mono ?_
      rintro e w' ⟨rfl, rfl⟩
      rw [dq]
      go_wp2_with fail
      go_ret2
      exact ⟨rfl, Below.refl _ _⟩
end Go.Proofs.Ytefdciaijjgieaa
