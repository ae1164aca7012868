/- Texts put together. -/
import Derived.Test.YtfcbfflkajlhnaaMgT14
import Derived.Test.YtfcbfflkajlhnaaMgT27
import Derived.Test.YtfcbfflkajlhnaaMgT10
import Derived.Test.YtfcbfflkajlhnaaMgT8
import Derived.Test.YtfcbfflkajlhnaaMgT17
import Derived.Laws.Cover1
import Derived.Deep.CutBlock
/- The factors of a fixed point, of the model. Conditions: lengths of at most 2^20. -/
namespace Go.Proofs.Ytfcbfflkajlhnaa
open Go.RowKit

theorem own_str_at {w : World} {B g cp n : Nat} {m : List ByteArray} (h : w.ownsRow B 9 1 (.slice (some ⟨g, 0, none⟩) n cp) n (strs m)) (k : Nat) (hk : k < m.length) : w.cell? ⟨g, k, none⟩ = some (.string m[k]) := by
  have := h.cells (g := g) rfl k (.string m[k]) (by simp [strs, hk])
  rwa [Addr.add_lit, Nat.zero_add] at this
theorem sizeOf_strs (w : World) : (sizeOf (Try.prog.elem 23)).run Try.prog w = .ok 1 w := by kernel_rfl
set_option maxHeartbeats 1000000 in
theorem specInsert (m : List ByteArray) (g cp : Nat) (x : ByteArray) (w : World) (B : Nat) (h : w.ownsRow B 9 1 (.slice (some ⟨g, 0, none⟩) m.length cp) m.length (strs m)) (ha : Asc m) (hm : m.length ≤ 1000) (hB : B ≤ w.heap.size) :
    Calls Try.prog 122 #[.slice (some ⟨g, 0, none⟩) m.length cp, .string x] w fun e w' => ∃ g' cp', e = .returned (.slice (some ⟨g', 0, none⟩) (insL m x).length cp') ∧ w'.ownsRow B 9 1 (.slice (some ⟨g', 0, none⟩) (insL m x).length cp') (insL m x).length (strs (insL m x)) ∧ Below w.heap.size w w' := by
  obtain ⟨i0, hi0, hz0, hz1, hz2⟩ := info_parts str_info
  have HO := Lib.hid h
  have HA := Lib.hid ha
  have hcp : m.length ≤ cp := by
    rcases h.2 with ⟨e, _⟩ | ⟨_, _, _, e, _, _, hnc, _⟩
    · injection e with e _ _; cases e
    · injection e with _ _ e; omega
  clear h ha
  go_enter Try.func122, Try.ntmps122
  go_wp2
  go_loop [5] (fun i => ∃ k : Nat, k ≤ m.length ∧ i = .int .i64 k ∧ ∀ (j : Nat) (hj : j < m.length), k ≤ j → lessB x m[j] = true) (fun i => (intOf i).toNat)
  case atStart => exact ⟨m.length, Nat.le_refl _, rfl, fun j h1 h2 => absurd h1 (by omega)⟩
  case round =>
    obtain ⟨k, hk, rfl, hgt⟩ := hrel
    have HGT := Lib.hid hgt
    clear hgt
    by_cases h0 : k = 0
    · have d0 : decide (0 < k) = false := by simp; omega
      have d0i : decide ((0 : Int) < (k : Int)) = false := by simp; omega
      have HK : Hid (∀ (j : Nat) (hj : j < m.length), j < k → lessB m[j] x = true) := fun j hj h => absurd h (by omega)
      clear h0
      have HEQ : Hid (m.take k ++ x :: m.drop k = insL m x) := insL_at HA.out hk HGT.out HK.out
      obtain ⟨X1, hsl1, hX1⟩ := slice_upto Try.underlying23 sizeOf_strs g 0 m.length cp k hk hcp
      obtain ⟨X2, hsl2, hX2⟩ := slice_from Try.underlying23 sizeOf_strs g 0 m.length cp k hk hcp
      have HX1 := Lib.hid hX1
      have HX2 := Lib.hid hX2
      have HL1 : Hid ((strs (m.take k)).length = k * 1) := by show _ = _; rw [strs_length, List.length_take]; omega
      have HL2 : Hid ((strs (m.drop k)).length = (m.length - k) * 1) := by show _ = _; rw [strs_length, List.length_drop]; omega
      have HCE := Lib.hid (fun (j : Nat) (u : Value) (hu : (strs m)[j]? = some u) => HO.out.cells (g := g) rfl j u hu)
      clear hX1 hX2
      go_wp2_with (first
        | (at_builtin
           refine wpList_append_own _ rfl (.tmp 34) (.tmp 37) 23 rfl w.heap.size 9 i0 _ 1 16 Try.underlying23 hi0 hz0 hz1 hz2 rfl (by decide) _ 0 [] rfl (own_made0 _ _ _ (Nat.le_refl _)) X1 k cp (strs (m.take k)) rfl HL1.out ?_ (strs_one _) (by unfold maxLen; omega) (by omega) (by simp) ?_
           · intro j u hu
             rw [HX1.out]
             have h5 := HCE.out j u (by
               unfold strs at hu ⊢
               rw [List.map_take, List.getElem?_take] at hu
               split at hu
               · exact hu
               · cases hu)
             rw [Addr.add_lit] at h5 ⊢
             exact (((Below.refl w.heap.size w).alloc (Nat.le_refl _) (.cells #[] 9)).cell (World.block_lt_of_cell? w _ h5)).trans h5
           intro v4 w4 hown4 hgr4 hnil4
           have HB4 : Hid (Below w.heap.size w w4) := ((Below.refl _ _).alloc (Nat.le_refl _) _).grown hgr4 (by simp) (fun y hy => ((own_made0 w w.heap.size 9 (Nat.le_refl _)).lt y hy).1)
           rw [Nat.zero_add, List.nil_append] at hown4
           obtain ⟨A4, cp4, rfl⟩ := own_slice hown4
           have HO4 := Lib.hid hown4
           clear hown4 hgr4 hnil4)
        | (at_builtin
           refine wpList_append1 _ rfl (.tmp 39) (.tmp 41) _ rfl w.heap.size 9 i0 _ 16 Try.underlying23 hi0 hz0 hz1 hz2 rfl _ k _ rfl HO4.out (.string x) rfl rfl (by unfold maxLen; omega) (by omega) HB4.out.size ?_
           intro v5 w5 hown5 hbel5
           have HB5 : Hid (Below w.heap.size w w5) := HB4.out.trans hbel5
           obtain ⟨A5, cp5, rfl⟩ := own_slice hown5
           have HO5 := Lib.hid hown5
           clear hown5 hbel5)
        | (at_builtin
           refine wpList_append_own _ rfl (.tmp 43) (.tmp 46) 23 rfl w.heap.size 9 i0 _ 1 16 Try.underlying23 hi0 hz0 hz1 hz2 rfl (by decide) _ (k + 1) _ rfl HO5.out X2 (m.length - k) (cp - k) (strs (m.drop k)) rfl HL2.out ?_ (strs_one _) (by unfold maxLen; omega) (by omega) HB5.out.size ?_
           · intro j u hu
             have hj := (List.getElem?_eq_some_iff.1 hu).1
             have hl2 := HL2.out
             rw [HX2.out (by omega)]
             have h5 := HCE.out (k + j) u (by
               unfold strs at hu ⊢
               rw [List.map_drop, List.getElem?_drop] at hu
               exact hu)
             rw [Addr.add_lit] at h5 ⊢
             rw [show 0 + k + j = 0 + (k + j) from by omega]
             exact (HB5.out.cell (World.block_lt_of_cell? w _ h5)).trans h5
           intro v6 w6 hown6 hgr6 _
           have HB6 : Hid (Below w.heap.size w w6) := HB5.out.trans ((Below.refl _ _).grown hgr6 HB5.out.size (fun y hy => (HO5.out.lt y hy).1))
           have e6 : strs (m.take k) ++ [.string x] ++ strs (m.drop k) = strs (insL m x) := by rw [← HEQ.out]; simp [strs]
           have e7 : k + 1 + (m.length - k) = (insL m x).length := by rw [← HEQ.out, List.length_append, List.length_cons, List.length_take, List.length_drop]; omega
           rw [e6, e7] at hown6
           have h1l : 0 < (insL m x).length := by omega
           obtain ⟨g6, cp6, rfl, _⟩ := own_some hown6 h1l
           have HO6 := Lib.hid hown6
           have HE7 := Lib.hid e7
           clear hown6 hgr6 e6 e7))
      go_ret
      exact ⟨g6, cp6, rfl, own_mono HO6.out hB, HB6.out⟩
    · obtain ⟨q, hkq⟩ : ∃ q, k = q + 1 := ⟨k - 1, by omega⟩
      have hq : q < m.length := by omega
      have d0 : decide (0 < k) = true := by simp; omega
      have d0i : decide ((0 : Int) < (k : Int)) = true := by simp; omega
      have e1 : (k : Int) - 1 = (q : Int) := by omega
      have g1 := own_str_at HO.out q hq
      have HKQ := Lib.hid hkq
      clear hkq
      rcases less_tri x m[q] with hlt | heq | hlt
      · have b1 : Op.bytesLess m[q].toList x.toList = false := by
          rcases hb : Op.bytesLess m[q].toList x.toList with _ | _
          · rfl
          · exact absurd (less_trans hlt hb) (less_self x)
        have b2 : (m[q].toList == x.toList) = false := by
          rw [beq_eq_false_iff_ne]
          intro e
          have := bytes_ext e
          rw [this] at hlt
          exact less_self x hlt
        have HLT := Lib.hid hlt
        clear hlt h0
        go_wp2_with fail
        go_round
        case rel =>
          have hkq := HKQ.out
          refine ⟨q, by omega, by go_num, fun j hj h => ?_⟩
          by_cases e : j = q
          · subst e; exact HLT.out
          · exact HGT.out j hj (by omega)
        case measure => have hkq := HKQ.out; simp [intOf]; try omega
      · have HE : Hid (insL m x = m) := insL_there HA.out (by rw [heq]; exact List.getElem_mem _)
        have b2 : (m[q].toList == x.toList) = true := by rw [heq]; simp
        clear heq h0
        go_wp2_with fail
        go_ret
        rw [HE.out]
        exact ⟨g, cp, rfl, HO.out, Below.refl _ _⟩
      · have b1 : Op.bytesLess m[q].toList x.toList = true := hlt
        have b2 : (m[q].toList == x.toList) = false := by
          rw [beq_eq_false_iff_ne]
          intro e
          have := bytes_ext e
          rw [this] at hlt
          exact less_self x hlt
        have HK : Hid (∀ (j : Nat) (hj : j < m.length), j < k → lessB m[j] x = true) := fun j hj h => by
          have hkq := HKQ.out
          by_cases e : j = q
          · subst e; exact hlt
          · exact less_trans (List.pairwise_iff_getElem.1 HA.out j q hj hq (by omega)) hlt
        clear hlt h0
        have HEQ : Hid (m.take k ++ x :: m.drop k = insL m x) := insL_at HA.out hk HGT.out HK.out
        obtain ⟨X1, hsl1, hX1⟩ := slice_upto Try.underlying23 sizeOf_strs g 0 m.length cp k hk hcp
        obtain ⟨X2, hsl2, hX2⟩ := slice_from Try.underlying23 sizeOf_strs g 0 m.length cp k hk hcp
        have HX1 := Lib.hid hX1
        have HX2 := Lib.hid hX2
        have HL1 : Hid ((strs (m.take k)).length = k * 1) := by show _ = _; rw [strs_length, List.length_take]; omega
        have HL2 : Hid ((strs (m.drop k)).length = (m.length - k) * 1) := by show _ = _; rw [strs_length, List.length_drop]; omega
        have HCE := Lib.hid (fun (j : Nat) (u : Value) (hu : (strs m)[j]? = some u) => HO.out.cells (g := g) rfl j u hu)
        clear hX1 hX2
        go_wp2_with (first
          | (at_builtin
             refine wpList_append_own _ rfl (.tmp 34) (.tmp 37) 23 rfl w.heap.size 9 i0 _ 1 16 Try.underlying23 hi0 hz0 hz1 hz2 rfl (by decide) _ 0 [] rfl (own_made0 _ _ _ (Nat.le_refl _)) X1 k cp (strs (m.take k)) rfl HL1.out ?_ (strs_one _) (by unfold maxLen; omega) (by omega) (by simp) ?_
             · intro j u hu
               rw [HX1.out]
               have h5 := HCE.out j u (by
                 unfold strs at hu ⊢
                 rw [List.map_take, List.getElem?_take] at hu
                 split at hu
                 · exact hu
                 · cases hu)
               rw [Addr.add_lit] at h5 ⊢
               exact (((Below.refl w.heap.size w).alloc (Nat.le_refl _) (.cells #[] 9)).cell (World.block_lt_of_cell? w _ h5)).trans h5
             intro v4 w4 hown4 hgr4 hnil4
             have HB4 : Hid (Below w.heap.size w w4) := ((Below.refl _ _).alloc (Nat.le_refl _) _).grown hgr4 (by simp) (fun y hy => ((own_made0 w w.heap.size 9 (Nat.le_refl _)).lt y hy).1)
             rw [Nat.zero_add, List.nil_append] at hown4
             obtain ⟨A4, cp4, rfl⟩ := own_slice hown4
             have HO4 := Lib.hid hown4
             clear hown4 hgr4 hnil4)
          | (at_builtin
             refine wpList_append1 _ rfl (.tmp 39) (.tmp 41) _ rfl w.heap.size 9 i0 _ 16 Try.underlying23 hi0 hz0 hz1 hz2 rfl _ k _ rfl HO4.out (.string x) rfl rfl (by unfold maxLen; omega) (by omega) HB4.out.size ?_
             intro v5 w5 hown5 hbel5
             have HB5 : Hid (Below w.heap.size w w5) := HB4.out.trans hbel5
             obtain ⟨A5, cp5, rfl⟩ := own_slice hown5
             have HO5 := Lib.hid hown5
             clear hown5 hbel5)
          | (at_builtin
             refine wpList_append_own _ rfl (.tmp 43) (.tmp 46) 23 rfl w.heap.size 9 i0 _ 1 16 Try.underlying23 hi0 hz0 hz1 hz2 rfl (by decide) _ (k + 1) _ rfl HO5.out X2 (m.length - k) (cp - k) (strs (m.drop k)) rfl HL2.out ?_ (strs_one _) (by unfold maxLen; omega) (by omega) HB5.out.size ?_
             · intro j u hu
               have hj := (List.getElem?_eq_some_iff.1 hu).1
               have hl2 := HL2.out
               rw [HX2.out (by omega)]
               have h5 := HCE.out (k + j) u (by
                 unfold strs at hu ⊢
                 rw [List.map_drop, List.getElem?_drop] at hu
                 exact hu)
               rw [Addr.add_lit] at h5 ⊢
               rw [show 0 + k + j = 0 + (k + j) from by omega]
               exact (HB5.out.cell (World.block_lt_of_cell? w _ h5)).trans h5
             intro v6 w6 hown6 hgr6 _
             have HB6 : Hid (Below w.heap.size w w6) := HB5.out.trans ((Below.refl _ _).grown hgr6 HB5.out.size (fun y hy => (HO5.out.lt y hy).1))
             have e6 : strs (m.take k) ++ [.string x] ++ strs (m.drop k) = strs (insL m x) := by rw [← HEQ.out]; simp [strs]
             have e7 : k + 1 + (m.length - k) = (insL m x).length := by rw [← HEQ.out, List.length_append, List.length_cons, List.length_take, List.length_drop]; omega
             rw [e6, e7] at hown6
             have h1l : 0 < (insL m x).length := by omega
             obtain ⟨g6, cp6, rfl, _⟩ := own_some hown6 h1l
             have HO6 := Lib.hid hown6
             have HE7 := Lib.hid e7
             clear hown6 hgr6 e6 e7))
        go_ret
        exact ⟨g6, cp6, rfl, own_mono HO6.out hB, HB6.out⟩
end Go.Proofs.Ytfcbfflkajlhnaa
