/- Texts put together. -/
import Derived.Test.YtfcbfflkajlhnaaMgC17
import Derived.Test.YtfcbfflkajlhnaaMgC8
import Derived.Test.YtfcbfflkajlhnaaMgC3
import Derived.Test.YtfcbfflkajlhnaaMgC39
import Derived.Deep.RegionLaw
import Derived.IntWalk
/- A struct of one slice of strings as a result; small facts on new rows. No condition. -/
namespace Go.Proofs.Ytfcbfflkajlhnaa
open Go.RowKit

/-- a struct of one slice of strings, and whether there is one -/
def SubSaid (r : List ByteArray) (ok : Bool) (w : World) (e : Ending) (w' : World) : Prop := ∃ v, e = .returned (.tuple #[.agg #[v], .bool ok]) ∧ w'.ownsRow w.heap.size 9 1 v r.length (strs r) ∧ Below w.heap.size w w'
theorem cell_one (w : World) (e : TypeId) (y : Value) (j : Nat) (u : Value) (hu : [y][j]? = some u) : (w.alloc (.cells #[y] e)).cell? ((⟨w.heap.size, 0, none⟩ : Addr).add j) = some u := by
  rcases j with _ | j
  · simp at hu
    subst hu
    rw [Addr.add_lit, World.cell?_alloc_at _ _ _ _ (by simp)]
    rfl
  · simp at hu
theorem build_zero (w : World) : (Instr.build 25 #[]).run Try.prog w = .ok (.agg #[.slice none 0 0]) w := run_build w _ _ _ (by kernel_rfl)
theorem build_sub (A : Option Addr) (n c : Nat) (w : World) : (Instr.build 25 #[(0, .slice A n c)]).run Try.prog w = .ok (.agg #[.slice A n c]) w := run_build w _ _ _ (by kernel_rfl)
end Go.Proofs.Ytfcbfflkajlhnaa

/- GraphOf of the model. Conditions: lengths of at most 2^20. -/
namespace Go.Proofs.Ytfcbfflkajlhnaa
open Go.RowKit

theorem edgeL_length (s : ByteArray) (n : Nat) : (edgeL s n).length = (fctL s (n + 1)).length := by simp [edgeL]
theorem fctL_size (s : ByteArray) (n : Nat) (hn : n ≤ s.size) (x : ByteArray) (h : x ∈ fctL s n) : x.size = n := by
  obtain ⟨j, hj, rfl⟩ := (facTo_mem s n x _).1 h
  rw [ByteArray.size_extract]
  omega
theorem fctL_none (s : ByteArray) (n : Nat) (hn : s.size < n) : fctL s n = [] := by
  have h := fctL_length s n
  exact List.eq_nil_of_length_eq_zero (by omega)
theorem fct_size (s : ByteArray) (n : Nat) (x : ByteArray) (h : x ∈ fctL s n) : x.size = n := by
  by_cases hn : n ≤ s.size
  · exact fctL_size s n hn x h
  · rw [fctL_none s n (by omega)] at h
    cases h
theorem atR_bound (l : List ByteArray) (x : ByteArray) : -1 ≤ atR l x ∧ atR l x ≤ (l.length : Int) := by
  unfold atR
  split <;> omega
theorem cell_one2 (w : World) (o : Obj) (e : TypeId) (y : Value) (j : Nat) (u : Value) (hu : [y][j]? = some u) : ((w.drew.alloc o).alloc (.cells #[y] e)).cell? ((⟨w.heap.size + 1, 0, none⟩ : Addr).add j) = some u := by
  have := cell_one (w.drew.alloc o) e y j u hu
  simpa using this
/-- two numbers that have just been laid as a row -/
theorem row_two (w : World) (B : Nat) (hB : B ≤ w.heap.size) (a b : Int) : (w.alloc (.cells #[.int .i64 a, .int .i64 b] 3)).ownsRow B 3 1 (.slice (some ⟨w.heap.size, 0, none⟩) 2 2) 2 (ints [a, b]) :=
  World.ownsRow_lit w _ 2 hB (by unfold maxLen; omega) rfl

set_option maxHeartbeats 1000000 in
set_option maxRecDepth 100000 in
theorem specGraphOf (s : ByteArray) (n : Int) (w : World) (_ : s.size ≤ 1048576) :
    Calls Try.prog 57 #[.string s, .int .i64 n] w fun e w' => ∃ v, e = .returned v ∧ OwnMat w' w.heap.size w'.heap.size v (grfR s n) ∧ Below w.heap.size w w' := by
  by_cases hw : wordB s = true
  · by_cases hn : 1 ≤ n ∧ n ≤ 400
    · obtain ⟨m, rfl⟩ : ∃ m : Nat, n = m := ⟨n.toNat, by omega⟩
      have hm1 : 1 ≤ m := by omega
      have hm2 : m ≤ 400 := by omega
      have h4 := word_size hw
      have d1 : decide ((1 : Int) ≤ (m : Int)) = true := by simp; omega
      have d2 : decide ((m : Int) ≤ (400 : Int)) = true := by simp; omega
      have HW := Lib.hid hw
      have HOK : Hid (fctOk s m = true) := by show fctOk s m = true; unfold fctOk; rw [hw, d1, d2]; rfl
      have HV : Hid (grfR s m = edgeL s m) := if_pos HOK.out
      obtain ⟨i1, hj0, hy0, hy1, hy2⟩ := info_parts ints_info
      have HF1 := Lib.hid (fun w => specFactors s m w h4 hm1 (by omega))
      have HF2 := Lib.hid (fun w => specFactors s (m + 1) w h4 (by omega) (by omega))
      have HM : Hid (∀ x ∈ fctL s (m + 1), x.size = m + 1) := fct_size s (m + 1)
      have HE : Hid (edgeL s m = (fctL s (m + 1)).map fun f => [atR (fctL s m) (f.extract 0 m), atR (fctL s m) (f.extract 1 f.size)]) := rfl
      have hll : (fctL s m).length ≤ 400 := by have := fctL_length s m; omega
      have hml : (fctL s (m + 1)).length ≤ 400 := by have := fctL_length s (m + 1); omega
      have e1 : facTo s m (s.size + 1 - m) = fctL s m := rfl
      have e2 : facTo s (m + 1) (s.size + 1 - (m + 1)) = fctL s (m + 1) := rfl
      rw [e1] at HF1
      rw [e2] at HF2
      clear e1 e2
      generalize fctL s m = L at HF1 HE hll
      generalize fctL s (m + 1) = M at HF2 HE HM hml
      generalize edgeL s m = E at HV HE
      have HEL : Hid (E.length = M.length) := by show E.length = M.length; rw [HE.out]; simp
      have HEA : Hid (∀ q (hq : q < M.length) (hq' : q < E.length), E[q] = [atR L (M[q].extract 0 m), atR L (M[q].extract 1 M[q].size)]) := fun q hq hq' => by
        have := HE.out
        subst this
        simp
      clear hw hn
      go_enter Try.func57, Try.ntmps57
      go_wp2_with fail
      refine (specWordOk s _).mono ?_
      rintro e w' ⟨rfl, rfl⟩
      rw [HW.out]
      go_wp2_with fail
      refine (specIn _ _ _ _).mono ?_
      rintro e w' ⟨rfl, rfl⟩
      go_wp2_with fail
      refine (HF1.out _).mono ?_
      rintro e w1 ⟨v, rfl, ho, hb⟩
      obtain ⟨AL, cL, rfl⟩ := own_slice ho
      have HL := Lib.hid (Lst.of_own ho)
      have HB1 := Lib.hid hb
      clear ho hb HF1
      go_wp2_with fail
      refine (HF2.out _).mono ?_
      rintro e w2 ⟨v, rfl, ho, hb⟩
      obtain ⟨AM, cM, rfl⟩ := own_slice ho
      have HG0 : Hid (GrowMat w2 w1.heap.size (.slice (some ⟨w1.heap.size, 0, none⟩) 0 0) [] E) := GrowMat.below (w := w1.alloc (.cells #[] 35)) ⟨own_made0 _ _ _ (Nat.le_refl _), ⟨by simp, fun i h => absurd h (by simp), fun i j h => absurd h (by simp)⟩⟩ hb
      have HM0 : Hid (w2.ownsRow (w1.heap.size + 1) 9 1 (.slice AM M.length cM) M.length (strs M)) := by
        have := ho
        simp only [World.size_alloc] at this
        exact this
      have HB2 : Hid (Below w1.heap.size w1 w2) := ((Below.refl _ _).alloc (Nat.le_refl _) _).trans (hb.mono (by simp))
      have hsz2 := HB2.out.size
      clear ho hb HF2
      go_wp2_with fail
      go_loopw [6, 26] (fun o i w' => ∃ us : List Value, us.length ≤ M.length ∧ i = .int .i64 us.length ∧ GrowMat w' w1.heap.size o us E ∧ w'.ownsRow (w1.heap.size + 1) 9 1 (.slice AM M.length cM) M.length (strs M) ∧ Below w1.heap.size w1 w') (fun _ i _ => M.length - (intOf i).toNat)
      case atStart => exact ⟨[], by simp, rfl, HG0.out, HM0.out, HB2.out⟩
      case round =>
        obtain ⟨us, hus, rfl, hgm, hmr, hb⟩ := hrel
        obtain ⟨wo, rfl⟩ : ∃ x : World, x = wr := ⟨_, rfl⟩
        obtain ⟨Ao, cpo, rfl⟩ := own_slice hgm.1
        have HGM := Lib.hid hgm
        have HGU := Lib.hid hgm.1
        have HMR := Lib.hid hmr
        have HB := Lib.hid hb
        have hszw := hb.size
        by_cases hlt : us.length < M.length
        · obtain ⟨g, c, he, _⟩ := own_some hmr (by omega)
          injection he with hA _ hc
          subst hA; subst hc
          have g1 := own_str_at hmr us.length hlt
          have hms := HM.out M[us.length] (List.getElem_mem _)
          have HEQ := Lib.hid (HEA.out us.length hlt (by rw [HEL.out]; exact hlt))
          have HLO : Hid (Lst wo (.slice AL L.length cL) (strs L)) := HL.out.below HB.out
          generalize M[us.length] = f at g1 hms HEQ
          have hsl1 : ∀ w : World, (Instr.slice 9 (.string f) none (some (.int .i64 (m : Int))) none).run Try.prog w = .ok (.string (f.extract 0 m)) w := fun w => by
            rw [run_slice_string_to_if (P := Try.prog) w 9 f .i64 (m : Int) Try.underlying9, if_pos ⟨by omega, by omega⟩, Int.toNat_natCast]
          have hsl2 : ∀ w : World, (Instr.slice 9 (.string f) (some (.int .i64 (1 : Int))) none none).run Try.prog w = .ok (.string (f.extract 1 f.size)) w := fun w => by
            rw [run_slice_string_from_if (P := Try.prog) w 9 f .i64 (1 : Int) Try.underlying9, if_pos ⟨by omega, by omega⟩]
            rfl
          have HLD : Hid (Lst wo.drew (.slice AL L.length cL) (strs L)) := HLO.out.drewN 1
          generalize f.extract 0 m = f1 at HEQ hsl1
          generalize f.extract 1 f.size = f2 at HEQ hsl2
          have hl6 : L.length ≤ 1048576 := by omega
          have hel : us.length < E.length := by rw [HEL.out]; exact hlt
          have HRT := Lib.hid (row_two wo.drew wo.heap.size (Nat.le_refl _) (atR L f1) (atR L f2))
          clear hgm hmr hb
          go_wp2_with fail
          go_region_law (first
            | (refine step_own_g rfl (.tmp 30) (.tmp 41) 50 rfl w1.heap.size 35 i1 _ 24 Try.underlying50 hj0 hy0 hy1 hy2 rfl _ us.length us (by simp [Act.eval]) (((HGU.out : wo.drew.ownsRow _ _ _ _ _ _).alloc _).alloc _) ⟨wo.heap.size + 1, 0, none⟩ 1 1 [.slice (some ⟨wo.heap.size, 0, none⟩) 2 2] (by simp [Act.eval]) rfl (fun j u hu => cell_one2 _ _ _ _ j u hu) (fun u hu => by simp at hu; subst hu; rfl) (by unfold maxLen; omega) (by omega) (by simp; omega) ?_
               intro v3 w3 hown3 hgr3
               obtain ⟨A3, cp3, rfl⟩ := own_slice hown3
               have HOc := Lib.hid hown3
               have HGc := Lib.hid hgr3
               clear hown3 hgr3)
            | (go_simp; go_wp2_with (go_at_call 100; refine (specAt L _ _ _ HLD.out hl6).mono ?_; rintro e w' ⟨rfl, rfl⟩)))
          all_goals
            go_wp2_with fail
            go_roundw
            case rel =>
              refine ⟨us ++ [.slice (some ⟨wo.heap.size, 0, none⟩) 2 2], by simp; omega, by simp, ?_, ?_, ?_⟩
              · refine GrowMat.snoc (w1 := wo.drew.alloc (.cells #[.int .i64 (atR L f1), .int .i64 (atR L f2)] 3)) HGM.out ((below_drewN (Below.refl _ _) 1).alloc (Nat.le_refl _) _) hszw hel ?_ HOc.out (grown_trans (World.grownBy_alloc _ _ _) HGc.out)
                rw [HEQ.out]
                exact HRT.out
              · exact own_apart (own_drewN ((HMR.out.alloc _).alloc _) 1) HGc.out (fun k hk hk2 => own_ne HMR.out HGU.out (by decide) k hk hk2)
              · exact (((below_drewN HB.out 1).alloc hszw _).alloc (by simp; omega) _).grown HGc.out (by simp; omega) (fun x hx => (HGU.out.lt x hx).1)
            case measure => simp [intOf]; omega
        · have hkl : us.length = E.length := by have := HEL.out; omega
          have HOM : Hid (OwnMat wo w.heap.size wo.heap.size (.slice Ao us.length cpo) E) := (HGM.out.own hkl).mono HB1.out.size
          clear hkl hgm hmr hb
          go_wp2_with fail
          go_ret
          exact ⟨_, rfl, by rw [HV.out]; exact HOM.out, HB1.out.trans (HB.out.mono HB1.out.size)⟩
    · have d1 : (decide ((1 : Int) ≤ n) && decide (n ≤ (400 : Int))) = false := by simp; omega
      have HNO : Hid (fctOk s n = false) := by show fctOk s n = false; unfold fctOk; rw [d1, Bool.and_false]
      have HW := Lib.hid hw
      have HV : Hid (grfR s n = []) := by show grfR s n = []; unfold grfR; rw [HNO.out]; rfl
      clear hw hn
      go_enter Try.func57, Try.ntmps57
      go_wp2_with fail
      refine (specWordOk s _).mono ?_
      rintro e w' ⟨rfl, rfl⟩
      rw [HW.out]
      go_wp2_with fail
      refine (specIn _ _ _ _).mono ?_
      rintro e w' ⟨rfl, rfl⟩
      go_wp2_with fail
      go_ret
      refine ⟨_, rfl, ?_, Below.refl _ _⟩
      rw [HV.out]
      exact OwnMat.nil _ _ _
  · have hw' : wordB s = false := by simpa using hw
    have HW := Lib.hid hw'
    have HNO : Hid (fctOk s n = false) := by show fctOk s n = false; unfold fctOk; rw [hw']; rfl
    have HV : Hid (grfR s n = []) := by show grfR s n = []; unfold grfR; rw [HNO.out]; rfl
    clear hw hw'
    go_enter Try.func57, Try.ntmps57
    go_wp2_with fail
    refine (specWordOk s _).mono ?_
    rintro e w' ⟨rfl, rfl⟩
    rw [HW.out]
    go_wp2_with fail
    go_ret
    refine ⟨_, rfl, ?_, Below.refl _ _⟩
    rw [HV.out]
    exact OwnMat.nil _ _ _

theorem grfR_le (s : ByteArray) (n : Int) : (grfR s n).length ≤ 400 := by
  unfold grfR
  split
  · rename_i h
    unfold fctOk at h
    simp only [Bool.and_eq_true, decide_eq_true_eq] at h
    have h1 := word_size h.1
    have h2 := fctL_length s (n.toNat + 1)
    rw [edgeL_length]
    omega
  · simp
theorem two_sum {α : Type} (g : α → List Int) (hg : ∀ x, (g x).length = 2) : ∀ l : List α, sumN ((l.map g).map List.length) = 2 * l.length
  | [] => rfl
  | x :: l => by
    show (g x).length + sumN ((l.map g).map List.length) = _
    rw [two_sum g hg l, hg, List.length_cons]
    omega
theorem grfR_sum (s : ByteArray) (n : Int) : sumN ((grfR s n).map List.length) ≤ 800 := by
  have h0 := grfR_le s n
  unfold grfR at h0 ⊢
  split
  · rename_i h
    rw [if_pos h, edgeL_length] at h0
    unfold edgeL
    rw [two_sum _ (fun _ => rfl)]
    omega
  · simp [sumN]
end Go.Proofs.Ytfcbfflkajlhnaa
