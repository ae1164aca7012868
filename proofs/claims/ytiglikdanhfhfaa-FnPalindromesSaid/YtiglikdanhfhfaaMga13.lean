/- Texts put together. -/
import Derived.Test.YtiglikdanhfhfaaMga7
import Derived.Test.YtiglikdanhfhfaaMga12
import Derived.Test.YtiglikdanhfhfaaMga2
import Derived.Test.YtiglikdanhfhfaaMga4
import Derived.Laws.Cover1
import Derived.Deep.CutBlock
import Derived.Test.YtiglikdanhfhfaaMga9
import Derived.Test.YtiglikdanhfhfaaMga8
import Derived.Test.YtiglikdanhfhfaaMga10
/- The factors of a fixed point, of the model. Conditions: lengths of at most 2^20. -/
namespace Go.Proofs.Ytiglikdanhfhfaa
open Go.RowKit

theorem own_str_at {w : World} {B g cp n : Nat} {m : List ByteArray} (h : w.ownsRow B 9 1 (.slice (some ⟨g, 0, none⟩) n cp) n (strs m)) (k : Nat) (hk : k < m.length) : w.cell? ⟨g, k, none⟩ = some (.string m[k]) := by
  have := h.cells (g := g) rfl k (.string m[k]) (by simp [strs, hk])
  rwa [Addr.add_lit, Nat.zero_add] at this
theorem sizeOf_strs (w : World) : (sizeOf (Try.prog.elem 24)).run Try.prog w = .ok 1 w := by kernel_rfl
set_option maxHeartbeats 1000000 in
theorem specInsert (m : List ByteArray) (g cp : Nat) (x : ByteArray) (w : World) (B : Nat) (h : w.ownsRow B 9 1 (.slice (some ⟨g, 0, none⟩) m.length cp) m.length (strs m)) (ha : Asc m) (hm : m.length ≤ 4000) (hB : B ≤ w.heap.size) :
    Calls Try.prog 52 #[.slice (some ⟨g, 0, none⟩) m.length cp, .string x] w fun e w' => ∃ g' cp', e = .returned (.slice (some ⟨g', 0, none⟩) (insL m x).length cp') ∧ w'.ownsRow B 9 1 (.slice (some ⟨g', 0, none⟩) (insL m x).length cp') (insL m x).length (strs (insL m x)) ∧ Below w.heap.size w w' := by
  obtain ⟨i0, hi0, hz0, hz1, hz2⟩ := info_parts str_info
  have HO := Lib.hid h
  have HA := Lib.hid ha
  have hcp : m.length ≤ cp := by
    rcases h.2 with ⟨e, _⟩ | ⟨_, _, _, e, _, _, hnc, _⟩
    · injection e with e _ _; cases e
    · injection e with _ _ e; omega
  clear h ha
  go_enter Try.func52, Try.ntmps52
  go_wp2
  go_loop [5] (fun i => ∃ k : Nat, k ≤ m.length ∧ i = .int .i64 k ∧ ∀ (j : Nat) (hj : j < m.length), k ≤ j → lessB x m[j] = true) (fun i => (intOf i).toNat)
  case atStart => exact ⟨m.length, Nat.le_refl _, rfl, fun j h1 h2 => absurd h1 (by omega)⟩
  case round =>
    obtain ⟨k, hk, rfl, hgt⟩ := hrel
    have HGT := Lib.hid hgt
    clear hgt
    by_cases h0 : k = 0
    · have d0 : decide (0 < k) = false := by simp; omega
      have d0i : decide ((0 : Int) < (k : Int)) = false := by simp; omega
      have HK : Hid (∀ (j : Nat) (hj : j < m.length), j < k → lessB m[j] x = true) := fun j hj h => absurd h (by omega)
      clear h0
      have HEQ : Hid (m.take k ++ x :: m.drop k = insL m x) := insL_at HA.out hk HGT.out HK.out
      obtain ⟨X1, hsl1, hX1⟩ := slice_upto Try.underlying24 sizeOf_strs g 0 m.length cp k hk hcp
      obtain ⟨X2, hsl2, hX2⟩ := slice_from Try.underlying24 sizeOf_strs g 0 m.length cp k hk hcp
      have HX1 := Lib.hid hX1
      have HX2 := Lib.hid hX2
      have HL1 : Hid ((strs (m.take k)).length = k * 1) := by show _ = _; rw [strs_length, List.length_take]; omega
      have HL2 : Hid ((strs (m.drop k)).length = (m.length - k) * 1) := by show _ = _; rw [strs_length, List.length_drop]; omega
      have HCE := Lib.hid (fun (j : Nat) (u : Value) (hu : (strs m)[j]? = some u) => HO.out.cells (g := g) rfl j u hu)
      clear hX1 hX2
      go_wp2_with (first
        | (at_builtin
           refine wpList_append_own _ rfl (.tmp 34) (.tmp 37) 24 rfl w.heap.size 9 i0 _ 1 16 Try.underlying24 hi0 hz0 hz1 hz2 rfl (by decide) _ 0 [] rfl (own_made0 _ _ _ (Nat.le_refl _)) X1 k cp (strs (m.take k)) rfl HL1.out ?_ (strs_one _) (by unfold maxLen; omega) (by omega) (by simp) ?_
           · intro j u hu
             rw [HX1.out]
             have h5 := HCE.out j u (by
               unfold strs at hu ⊢
               rw [List.map_take, List.getElem?_take] at hu
               split at hu
               · exact hu
               · cases hu)
             rw [Addr.add_lit] at h5 ⊢
             exact (((Below.refl w.heap.size w).alloc (Nat.le_refl _) (.cells #[] 9)).cell (World.block_lt_of_cell? w _ h5)).trans h5
           intro v4 w4 hown4 hgr4 hnil4
           have HB4 : Hid (Below w.heap.size w w4) := ((Below.refl _ _).alloc (Nat.le_refl _) _).grown hgr4 (by simp) (fun y hy => ((own_made0 w w.heap.size 9 (Nat.le_refl _)).lt y hy).1)
           rw [Nat.zero_add, List.nil_append] at hown4
           obtain ⟨A4, cp4, rfl⟩ := own_slice hown4
           have HO4 := Lib.hid hown4
           clear hown4 hgr4 hnil4)
        | (at_builtin
           refine wpList_append1 _ rfl (.tmp 39) (.tmp 41) _ rfl w.heap.size 9 i0 _ 16 Try.underlying24 hi0 hz0 hz1 hz2 rfl _ k _ rfl HO4.out (.string x) rfl rfl (by unfold maxLen; omega) (by omega) HB4.out.size ?_
           intro v5 w5 hown5 hbel5
           have HB5 : Hid (Below w.heap.size w w5) := HB4.out.trans hbel5
           obtain ⟨A5, cp5, rfl⟩ := own_slice hown5
           have HO5 := Lib.hid hown5
           clear hown5 hbel5)
        | (at_builtin
           refine wpList_append_own _ rfl (.tmp 43) (.tmp 46) 24 rfl w.heap.size 9 i0 _ 1 16 Try.underlying24 hi0 hz0 hz1 hz2 rfl (by decide) _ (k + 1) _ rfl HO5.out X2 (m.length - k) (cp - k) (strs (m.drop k)) rfl HL2.out ?_ (strs_one _) (by unfold maxLen; omega) (by omega) HB5.out.size ?_
           · intro j u hu
             have hj := (List.getElem?_eq_some_iff.1 hu).1
             have hl2 := HL2.out
             rw [HX2.out (by omega)]
             have h5 := HCE.out (k + j) u (by
               unfold strs at hu ⊢
               rw [List.map_drop, List.getElem?_drop] at hu
               exact hu)
             rw [Addr.add_lit] at h5 ⊢
             rw [show 0 + k + j = 0 + (k + j) from by omega]
             exact (HB5.out.cell (World.block_lt_of_cell? w _ h5)).trans h5
           intro v6 w6 hown6 hgr6 _
           have HB6 : Hid (Below w.heap.size w w6) := HB5.out.trans ((Below.refl _ _).grown hgr6 HB5.out.size (fun y hy => (HO5.out.lt y hy).1))
           have e6 : strs (m.take k) ++ [.string x] ++ strs (m.drop k) = strs (insL m x) := by rw [← HEQ.out]; simp [strs]
           have e7 : k + 1 + (m.length - k) = (insL m x).length := by rw [← HEQ.out, List.length_append, List.length_cons, List.length_take, List.length_drop]; omega
           rw [e6, e7] at hown6
           have h1l : 0 < (insL m x).length := by omega
           obtain ⟨g6, cp6, rfl, _⟩ := own_some hown6 h1l
           have HO6 := Lib.hid hown6
           have HE7 := Lib.hid e7
           clear hown6 hgr6 e6 e7))
      go_ret
      exact ⟨g6, cp6, rfl, own_mono HO6.out hB, HB6.out⟩
    · obtain ⟨q, hkq⟩ : ∃ q, k = q + 1 := ⟨k - 1, by omega⟩
      have hq : q < m.length := by omega
      have d0 : decide (0 < k) = true := by simp; omega
      have d0i : decide ((0 : Int) < (k : Int)) = true := by simp; omega
      have e1 : (k : Int) - 1 = (q : Int) := by omega
      have g1 := own_str_at HO.out q hq
      have HKQ := Lib.hid hkq
      clear hkq
      rcases less_tri x m[q] with hlt | heq | hlt
      · have b1 : Op.bytesLess m[q].toList x.toList = false := by
          rcases hb : Op.bytesLess m[q].toList x.toList with _ | _
          · rfl
          · exact absurd (less_trans hlt hb) (less_self x)
        have b2 : (m[q].toList == x.toList) = false := by
          rw [beq_eq_false_iff_ne]
          intro e
          have := bytes_ext e
          rw [this] at hlt
          exact less_self x hlt
        have HLT := Lib.hid hlt
        clear hlt h0
        go_wp2_with fail
        go_round
        case rel =>
          have hkq := HKQ.out
          refine ⟨q, by omega, by go_num, fun j hj h => ?_⟩
          by_cases e : j = q
          · subst e; exact HLT.out
          · exact HGT.out j hj (by omega)
        case measure => have hkq := HKQ.out; simp [intOf]; try omega
      · have HE : Hid (insL m x = m) := insL_there HA.out (by rw [heq]; exact List.getElem_mem _)
        have b2 : (m[q].toList == x.toList) = true := by rw [heq]; simp
        clear heq h0
        go_wp2_with fail
        go_ret
        rw [HE.out]
        exact ⟨g, cp, rfl, HO.out, Below.refl _ _⟩
      · have b1 : Op.bytesLess m[q].toList x.toList = true := hlt
        have b2 : (m[q].toList == x.toList) = false := by
          rw [beq_eq_false_iff_ne]
          intro e
          have := bytes_ext e
          rw [this] at hlt
          exact less_self x hlt
        have HK : Hid (∀ (j : Nat) (hj : j < m.length), j < k → lessB m[j] x = true) := fun j hj h => by
          have hkq := HKQ.out
          by_cases e : j = q
          · subst e; exact hlt
          · exact less_trans (List.pairwise_iff_getElem.1 HA.out j q hj hq (by omega)) hlt
        clear hlt h0
        have HEQ : Hid (m.take k ++ x :: m.drop k = insL m x) := insL_at HA.out hk HGT.out HK.out
        obtain ⟨X1, hsl1, hX1⟩ := slice_upto Try.underlying24 sizeOf_strs g 0 m.length cp k hk hcp
        obtain ⟨X2, hsl2, hX2⟩ := slice_from Try.underlying24 sizeOf_strs g 0 m.length cp k hk hcp
        have HX1 := Lib.hid hX1
        have HX2 := Lib.hid hX2
        have HL1 : Hid ((strs (m.take k)).length = k * 1) := by show _ = _; rw [strs_length, List.length_take]; omega
        have HL2 : Hid ((strs (m.drop k)).length = (m.length - k) * 1) := by show _ = _; rw [strs_length, List.length_drop]; omega
        have HCE := Lib.hid (fun (j : Nat) (u : Value) (hu : (strs m)[j]? = some u) => HO.out.cells (g := g) rfl j u hu)
        clear hX1 hX2
        go_wp2_with (first
          | (at_builtin
             refine wpList_append_own _ rfl (.tmp 34) (.tmp 37) 24 rfl w.heap.size 9 i0 _ 1 16 Try.underlying24 hi0 hz0 hz1 hz2 rfl (by decide) _ 0 [] rfl (own_made0 _ _ _ (Nat.le_refl _)) X1 k cp (strs (m.take k)) rfl HL1.out ?_ (strs_one _) (by unfold maxLen; omega) (by omega) (by simp) ?_
             · intro j u hu
               rw [HX1.out]
               have h5 := HCE.out j u (by
                 unfold strs at hu ⊢
                 rw [List.map_take, List.getElem?_take] at hu
                 split at hu
                 · exact hu
                 · cases hu)
               rw [Addr.add_lit] at h5 ⊢
               exact (((Below.refl w.heap.size w).alloc (Nat.le_refl _) (.cells #[] 9)).cell (World.block_lt_of_cell? w _ h5)).trans h5
             intro v4 w4 hown4 hgr4 hnil4
             have HB4 : Hid (Below w.heap.size w w4) := ((Below.refl _ _).alloc (Nat.le_refl _) _).grown hgr4 (by simp) (fun y hy => ((own_made0 w w.heap.size 9 (Nat.le_refl _)).lt y hy).1)
             rw [Nat.zero_add, List.nil_append] at hown4
             obtain ⟨A4, cp4, rfl⟩ := own_slice hown4
             have HO4 := Lib.hid hown4
             clear hown4 hgr4 hnil4)
          | (at_builtin
             refine wpList_append1 _ rfl (.tmp 39) (.tmp 41) _ rfl w.heap.size 9 i0 _ 16 Try.underlying24 hi0 hz0 hz1 hz2 rfl _ k _ rfl HO4.out (.string x) rfl rfl (by unfold maxLen; omega) (by omega) HB4.out.size ?_
             intro v5 w5 hown5 hbel5
             have HB5 : Hid (Below w.heap.size w w5) := HB4.out.trans hbel5
             obtain ⟨A5, cp5, rfl⟩ := own_slice hown5
             have HO5 := Lib.hid hown5
             clear hown5 hbel5)
          | (at_builtin
             refine wpList_append_own _ rfl (.tmp 43) (.tmp 46) 24 rfl w.heap.size 9 i0 _ 1 16 Try.underlying24 hi0 hz0 hz1 hz2 rfl (by decide) _ (k + 1) _ rfl HO5.out X2 (m.length - k) (cp - k) (strs (m.drop k)) rfl HL2.out ?_ (strs_one _) (by unfold maxLen; omega) (by omega) HB5.out.size ?_
             · intro j u hu
               have hj := (List.getElem?_eq_some_iff.1 hu).1
               have hl2 := HL2.out
               rw [HX2.out (by omega)]
               have h5 := HCE.out (k + j) u (by
                 unfold strs at hu ⊢
                 rw [List.map_drop, List.getElem?_drop] at hu
                 exact hu)
               rw [Addr.add_lit] at h5 ⊢
               rw [show 0 + k + j = 0 + (k + j) from by omega]
               exact (HB5.out.cell (World.block_lt_of_cell? w _ h5)).trans h5
             intro v6 w6 hown6 hgr6 _
             have HB6 : Hid (Below w.heap.size w w6) := HB5.out.trans ((Below.refl _ _).grown hgr6 HB5.out.size (fun y hy => (HO5.out.lt y hy).1))
             have e6 : strs (m.take k) ++ [.string x] ++ strs (m.drop k) = strs (insL m x) := by rw [← HEQ.out]; simp [strs]
             have e7 : k + 1 + (m.length - k) = (insL m x).length := by rw [← HEQ.out, List.length_append, List.length_cons, List.length_take, List.length_drop]; omega
             rw [e6, e7] at hown6
             have h1l : 0 < (insL m x).length := by omega
             obtain ⟨g6, cp6, rfl, _⟩ := own_some hown6 h1l
             have HO6 := Lib.hid hown6
             have HE7 := Lib.hid e7
             clear hown6 hgr6 e6 e7))
        go_ret
        exact ⟨g6, cp6, rfl, own_mono HO6.out hB, HB6.out⟩
end Go.Proofs.Ytiglikdanhfhfaa

/- Chapter 8 of the model: SquaresIn, FirstSquare, l07Ends. Conditions: lengths of at most 2^20. -/
namespace Go.Proofs.Ytiglikdanhfhfaa
open Go.RowKit Go.Lib

theorem slice_gen {P : Program} {t : TypeId} (ht : P.underlying t = some .string) (s : ByteArray) (a b : Int) (x y : Nat) (w : World) (ha : a = x) (hb : b = y) (h : x ≤ y) (h2 : y ≤ s.size) :
    (Instr.slice t (.string s) (some (.int .i64 a)) (some (.int .i64 b)) none).run P w = .ok (.string (s.extract x y)) w := by
  obtain ⟨n, rfl⟩ : ∃ n, y = x + n := ⟨y - x, by omega⟩
  have := slice_at (P := P) ht s x n w (by omega)
  rw [ha, hb, Int.natCast_add]
  exact this
theorem pwRow_yes {s : ByteArray} {i j : Nat} {l : List ByteArray} (hi : i + 2 * (j + 1) ≤ s.size) (h : s.extract i (i + (j + 1)) = s.extract (i + (j + 1)) (i + 2 * (j + 1))) : pwRow s i l (j + 1) = insL (pwRow s i l j) (s.extract i (i + 2 * (j + 1))) :=
  if_pos ((pwB_iff _ _ _).2 ⟨by omega, hi, h⟩)
theorem pwRow_no {s : ByteArray} {i j : Nat} {l : List ByteArray} (h : s.extract i (i + (j + 1)) ≠ s.extract (i + (j + 1)) (i + 2 * (j + 1))) : pwRow s i l (j + 1) = pwRow s i l j :=
  if_neg (fun hh => h ((pwB_iff _ _ _).1 hh).2.2)
theorem eq_bytes {x y : ByteArray} (h : x = y) : (x.toList == y.toList) = true := by rw [h]; simp
theorem ne_bytes {x y : ByteArray} (h : x ≠ y) : (x.toList == y.toList) = false := by
  rw [beq_eq_false_iff_ne]
  exact fun e => h (bytes_ext e)

end Go.Proofs.Ytiglikdanhfhfaa

/- Chapter 8 of the model: FirstSquare, l07Ends. Conditions: lengths of at most 2^20. -/
namespace Go.Proofs.Ytiglikdanhfhfaa
open Go.RowKit Go.Lib

/-- a square with halves of h letters ends at e -/
def SqEnd (s : ByteArray) (e h : Nat) : Prop := 1 ≤ h ∧ 2 * h ≤ e ∧ e ≤ s.size ∧ s.extract (e - 2 * h) (e - h) = s.extract (e - h) e
theorem firstP_none {P : Nat → Prop} : ∀ (k p : Nat), (∀ r, p ≤ r → r < p + k → ¬ P r) → firstP P p k = p + k
  | 0, _, _ => rfl
  | k + 1, p, h => by
    unfold firstP
    rw [@decide_eq_false _ (Classical.propDecidable _) (h p (Nat.le_refl _) (by omega)), if_neg (by decide), firstP_none k (p + 1) (fun r a b => h r (by omega) (by omega))]
    omega
noncomputable def fsqE (s : ByteArray) : Nat := firstP (fun e => ∃ h, SqEnd s e h) 0 (s.size + 1)
noncomputable def fsqH (s : ByteArray) : Nat := firstP (SqEnd s (fsqE s)) 1 s.size
noncomputable def fsqB (s : ByteArray) : Bool := wordB s && decide (fsqE s ≤ s.size)
/-- what FirstSquare is to return -/
noncomputable def fsqR1 (s : ByteArray) : Int := if fsqB s = true then (fsqE s : Int) else -1
noncomputable def fsqR2 (s : ByteArray) : Int := if fsqB s = true then (fsqH s : Int) else -1
theorem fsq_found {s : ByteArray} {e h : Nat} (hw : wordB s = true) (h1 : SqEnd s e h) (h2 : ∀ e', e' < e → ∀ h', ¬ SqEnd s e' h') (h3 : ∀ h', h' < h → ¬ SqEnd s e h') : fsqR1 s = (e : Int) ∧ fsqR2 s = (h : Int) := by
  have e1 : fsqE s = e := firstP_eq _ _ _ (Nat.zero_le _) (by have := h1.2.2.1; omega) (fun r _ hr => fun ⟨h', hh⟩ => h2 r hr h' hh) ⟨h, h1⟩
  have e2 : fsqH s = h := by
    unfold fsqH
    rw [e1]
    exact firstP_eq _ _ _ h1.1 (by have := h1.2.1; have := h1.2.2.1; omega) (fun r _ hr => h3 r hr) h1
  have e3 : fsqB s = true := by unfold fsqB; rw [hw, e1, decide_eq_true h1.2.2.1]; rfl
  unfold fsqR1 fsqR2
  rw [if_pos e3, if_pos e3, e1, e2]
  exact ⟨rfl, rfl⟩
theorem fsq_none {s : ByteArray} (h : ∀ e h', ¬ SqEnd s e h') : fsqR1 s = -1 ∧ fsqR2 s = -1 := by
  have e1 : fsqE s = 0 + (s.size + 1) := firstP_none _ _ (fun r _ _ => fun ⟨h', hh⟩ => h r h' hh)
  have e3 : fsqB s = false := by unfold fsqB; rw [e1, decide_eq_false (by omega), Bool.and_false]
  unfold fsqR1 fsqR2
  rw [e3]
  exact ⟨rfl, rfl⟩
theorem fsq_word {s : ByteArray} (h : wordB s = false) : fsqR1 s = -1 ∧ fsqR2 s = -1 := by
  have e3 : fsqB s = false := by unfold fsqB; rw [h]; rfl
  unfold fsqR1 fsqR2
  rw [e3]
  exact ⟨rfl, rfl⟩
noncomputable def endsB (s : ByteArray) : Bool := @decide (∃ h, SqEnd s s.size h) (Classical.propDecidable _)
theorem endsB_iff (s : ByteArray) : endsB s = true ↔ ∃ h, SqEnd s s.size h := by unfold endsB; simp

end Go.Proofs.Ytiglikdanhfhfaa

/- TurnWord of the model: the letters in reverse order. Condition: a text of at most 2^20 bytes. -/
namespace Go.Proofs.Ytiglikdanhfhfaa
open Go.RowKit

def turnS (s : ByteArray) : ByteArray := ⟨s.data.toList.reverse.toArray⟩
theorem drop_prev (s : ByteArray) (k : Nat) (h : k < s.size) : s.data.toList.drop k = s[k] :: s.data.toList.drop (k + 1) := by
  rw [List.drop_eq_getElem_cons (by simpa using h)]
  rfl

set_option maxHeartbeats 400000 in
theorem specTurn (s : ByteArray) (w : World) (hs : s.size ≤ 1048576) :
    Calls Try.prog 58 #[.string s] w fun e w' => e = .returned (.string (turnS s)) ∧ Below w.heap.size w w' := by
  obtain ⟨i0, hi0, hz0, hz1, hz2⟩ := info_parts u8_info
  go_enter Try.func58, Try.ntmps58
  go_wp2
  go_loopw [3, 4] (fun b i w' => ∃ k : Nat, k ≤ s.size ∧ i = .int .i64 ((k : Int) - 1) ∧ w'.ownsRow w.heap.size 5 1 b (s.size - k) (byteCells (s.data.toList.drop k).reverse) ∧ Below w.heap.size w w') (fun _ i _ => (intOf i + 1).toNat)
  case atStart =>
    refine ⟨s.size, Nat.le_refl _, rfl, ?_, (Below.refl _ _).alloc (Nat.le_refl _) _⟩
    rw [Nat.sub_self, List.drop_of_length_le (by simp)]
    exact World.ownsRow_made w #[] 0 (Nat.le_refl _) (by simp [maxLen]) (by simp)
  case round =>
    obtain ⟨k, hk, rfl, ho, hb⟩ := hrel
    have HO := Lib.hid ho
    have hsz := hb.size
    clear ho
    by_cases hpos : 0 < k
    · obtain ⟨j, rfl⟩ : ∃ j, k = j + 1 := ⟨k - 1, by omega⟩
      have hj : j < s.size := by omega
      have ej : ((j + 1 : Nat) : Int) - 1 = (j : Int) := by omega
      rw [ej]
      have HD := Lib.hid (drop_prev s j hj)
      have ho := HO.out
      go_wp2_with (first
        | (at_builtin
           refine wpList_append1 _ rfl (.tmp 13) (.tmp 17) _ rfl w.heap.size 5 i0 _ 1 Try.underlying22 hi0 hz0 hz1 hz2 rfl _ (s.size - (j + 1)) _ rfl ho (.int .u8 (s[j].toNat : Int)) rfl rfl (by unfold maxLen; omega) (by omega) hsz ?_
           intro v' w1 hown1 hbel1))
      go_roundw
      case rel =>
        refine ⟨j, by omega, rfl, ?_, hb.trans hbel1⟩
        rw [HD.out, List.reverse_cons, byteCells_snoc, show s.size - j = s.size - (j + 1) + 1 from by omega]
        exact hown1
      case measure => simp [intOf]
    · have hk0 : k = 0 := by omega
      subst hk0
      have ho := HO.out
      rw [List.drop_zero] at ho
      have hconv := conv_own ho
      clear ho
      go_wp2_with fail
      go_ret
      exact ⟨rfl, hb⟩

/-- what TurnWord is to return -/
def turnR (s : ByteArray) : ByteArray := if wordB s = true then turnS s else ⟨#[]⟩
end Go.Proofs.Ytiglikdanhfhfaa
