/- DeterminantOf of the model. Conditions: lengths of at most 2^20. -/
import Derived.Test.YtgidfainoijcmaaDetP
import Derived.Test.YtgidfainoijcmaaGrowMat
import Derived.Test.YtgidfainoijcmaaSubRes
import Derived.IntWalk
namespace Go.Proofs.Ytgidfainoijcmaa
open Go.RowKit

/-- a row of a matrix, cell by cell -/
theorem sqn_row {w : World} {v : Value} {n : Nat} {m : List (List Int)} (h : Mat w v m) (hs : SqN n m) (h0 : 0 < n) : ∃ b off cap, v = .slice (some ⟨b, off, none⟩) n cap ∧ n ≤ cap ∧ ∀ k (hk : k < m.length), ∃ b2 off2 cap2, w.cell? ⟨b, off + k, none⟩ = some (.slice (some ⟨b2, off2, none⟩) n cap2) ∧ n ≤ cap2 ∧ ∀ (j : Nat) u, (ints m[k])[j]? = some u → w.cell? ⟨b2, off2 + j, none⟩ = some u := by
  obtain ⟨h1, h5, _⟩ := hs
  obtain ⟨b, off, cap, e, q1, q2, hr⟩ := mat_rows h (by omega)
  rw [h1] at e q1
  refine ⟨b, off, cap, e, q1, fun k hk => ?_⟩
  obtain ⟨u, g1, ⟨A, cap2, e2, c1, c2, h2⟩⟩ := hr k hk
  rw [ints_length, h5 k hk] at e2 c1
  replace h2 := h2.resolve_left (by
    intro e
    have := congrArg List.length e
    rw [ints_length, h5 k hk] at this
    simp only [List.length_nil] at this
    omega)
  obtain ⟨b2, off2, rfl, h2⟩ := h2
  exact ⟨b2, off2, cap2, by rw [g1, e2], c1, fun j u hu => h2 j u hu⟩

theorem ints_one (l : List Int) : ∀ u ∈ ints l, u.oneCell' = true := by
  intro u hu
  simp only [ints, List.mem_map] at hu
  obtain ⟨x, _, rfl⟩ := hu
  rfl
theorem ints_take_get (l : List Int) (k j : Nat) (u : Value) (h : (ints (l.take k))[j]? = some u) : (ints l)[j]? = some u := by
  simp only [ints, List.getElem?_map, List.getElem?_take] at h ⊢
  split at h
  · exact h
  · simp at h
theorem ints_drop_get (l : List Int) (k j : Nat) (u : Value) (h : (ints (l.drop k))[j]? = some u) : (ints l)[k + j]? = some u := by
  simpa only [ints, List.getElem?_map, List.getElem?_drop] using h

set_option maxHeartbeats 4000000 in
set_option maxRecDepth 100000 in
theorem specDet : ∀ (n : Nat) (m : List (List Int)) (v : Value) (w : World), n ≤ 4 → SqN n m → Mat w v m →
    Calls Try.prog 85 #[v] w fun e w' => e = .returned (.int .i64 (detS n m)) ∧ Below w.heap.size w w' := by
  intro n
  induction n with
  | zero =>
    intro m v w _ hs h
    have hm : m.length = 0 := hs.1
    obtain ⟨A, cap, rfl⟩ := mat_slice h
    rw [hm]
    go_enter Try.func85, Try.ntmps85
    go_wp2
    go_ret
    exact ⟨rfl, Below.refl _ _⟩
  | succ n ih =>
    intro m v w h4 hs h
    have IH : Hid (∀ (m : List (List Int)) (v : Value) (w : World), n ≤ 4 → SqN n m → Mat w v m → Calls Try.prog 85 #[v] w fun e w' => e = .returned (.int .i64 (detS n m)) ∧ Below w.heap.size w w') := ih
    clear ih
    obtain ⟨i0, hi0, hz0, hz1, hz2⟩ := info_parts int_info
    obtain ⟨i1, hj0, hy0, hy1, hy2⟩ := info_parts ints_info
    obtain ⟨b, off, cp, rfl, hcp, hrow⟩ := sqn_row h hs (by omega)
    have HS := Lib.hid hs
    have hml : m.length = n + 1 := hs.1
    have HML := Lib.hid hml
    have hm0 : 0 < m.length := by omega
    have HROW := Lib.hid hrow
    obtain ⟨b0, o0, c0, g0, hc0, hcell0⟩ := hrow 0 hm0
    rw [Nat.add_zero] at g0
    have HC0 := Lib.hid hcell0
    have H20 : Hid (∀ k, k < n + 1 → (ints (m[0]'hm0))[k]? = some (.int .i64 (at2 m 0 k))) := by
      intro k hk
      have hk' : k < (m[0]'hm0).length := by rw [hs.2.1 0 hm0]; exact hk
      rw [at2_eq m 0 k hm0 hk']
      simp [ints, hk']
    obtain ⟨X0, hsl0, hX0⟩ := slice_from Try.underlying27 sizeOf_ints b off (n + 1) cp 1 (by omega) hcp
    have HX0 := Lib.hid hX0
    have b1 : (((n + 1 : Nat) : Int) == 0) = false := by rw [beq_eq_false_iff_ne]; omega
    have hD : detMax n ≤ 24000000 := by
      rcases (show n = 0 ∨ n = 1 ∨ n = 2 ∨ n = 3 by omega) with e | e | e | e <;> subst e <;> decide
    have HTB : Hid (∀ k, k < n + 1 → (-100 ≤ sgnN k * at2 m 0 k ∧ sgnN k * at2 m 0 k ≤ 100) ∧ -2400000000 ≤ sgnN k * at2 m 0 k * detS n (minorM m k) ∧ sgnN k * at2 m 0 k * detS n (minorM m k) ≤ 2400000000) := by
      intro k hk
      obtain ⟨t1, t2, t3⟩ := term_bound hs k hk (det_bound n _ (minor_sq hs k hk))
      exact ⟨t1, by omega, by omega⟩
    have HSB := Lib.hid (sumTo_bound (f := fun k => sgnN k * at2 m 0 k * detS n (minorM m k)) (D := 2400000000) (n + 1) (fun k hk => (HTB.out k hk).2))
    clear h hs hrow hcell0 hX0 hml hD
    simp only [Int.natCast_add, Int.cast_ofNat_Int, Nat.add_sub_cancel] at b1 hsl0
    go_enter Try.func85, Try.ntmps85
    go_wp2_with fail
    go_loopw [3, 4, 17] (fun s sg q w' => ∃ (k : Nat), k ≤ n + 1 ∧ q = .int .i64 k ∧ s = .int .i64 (sumTo (fun k => sgnN k * at2 m 0 k * detS n (minorM m k)) k) ∧ sg = .int .i64 (sgnN k) ∧ Below w.heap.size w w') (fun _ _ q _ => n + 1 - (intOf q).toNat)
    case atStart => exact ⟨0, by omega, rfl, rfl, rfl, Below.refl _ _⟩
    case round =>
      obtain ⟨k, hk, rfl, rfl, rfl, hbk⟩ := hrel
      obtain ⟨wo, rfl⟩ : ∃ x : World, x = wr := ⟨_, rfl⟩
      have HBK := Lib.hid hbk
      have hszo : w.heap.size ≤ wo.heap.size := hbk.size
      clear hbk
      by_cases hlt : k < n + 1
      · have d1 : decide ((k : Int) < (n : Int) + 1) = true := by simp; omega
        have p0 := HC0.out k _ (H20.out k hlt)
        have g1 : wo.cell? ⟨b0, o0 + k, none⟩ = some (.int .i64 (at2 m 0 k)) := (HBK.out.cell (p := ⟨b0, o0 + k, none⟩) (World.block_lt_of_cell? w _ p0)).trans p0
        have HSQ := Lib.hid (minor_sq HS.out k hlt)
        have HMN : Hid ((minorM m k).length = n) := by show (minorM m k).length = n; rw [minorM_length, HML.out]; omega
        clear p0
        go_wp2_with fail
        go_loopw [7, 26] (fun o i w' => ∃ (us : List Value), us.length ≤ n ∧ i = .int .i64 us.length ∧ GrowMat w' wo.heap.size o us (minorM m k) ∧ Below wo.heap.size wo w') (fun _ i _ => n - (intOf i).toNat)
        case atStart =>
          exact ⟨[], by simp, rfl, ⟨own_made0 _ _ _ (Nat.le_refl _), ⟨by simp, fun i h => absurd h (by simp), fun i j h => absurd h (by simp)⟩⟩, (Below.refl _ _).alloc (Nat.le_refl _) _⟩
        case round =>
          obtain ⟨us, hk2, rfl, hgm, hb2⟩ := hrel
          obtain ⟨wi, rfl⟩ : ∃ x : World, x = wr := ⟨_, rfl⟩
          obtain ⟨A, cpo, rfl⟩ := own_slice hgm.1
          have HGM := Lib.hid hgm
          have HB2 := Lib.hid hb2
          have hszi : wo.heap.size ≤ wi.heap.size := hb2.size
          have HBW : Hid (Below w.heap.size w wi) := HBK.out.trans (hb2.mono hszo)
          clear hgm hb2
          by_cases hlt2 : us.length < n
          · have hX := HX0.out (by omega)
            subst hX
            have hrm : us.length + 1 < m.length := by rw [HML.out]; omega
            obtain ⟨b2, o2, c2, q1, hc2, hcell⟩ := HROW.out (us.length + 1) hrm
            have q1' : wi.cell? ⟨b, off + 1 + us.length, none⟩ = some (.slice (some ⟨b2, o2, none⟩) (n + 1) c2) := by
              rw [show off + 1 + us.length = off + (us.length + 1) from by omega]
              exact (HBW.out.cell (p := ⟨b, off + (us.length + 1), none⟩) (World.block_lt_of_cell? w _ q1)).trans q1
            have HROWL : Hid (m[us.length + 1].length = n + 1) := HS.out.2.1 _ hrm
            have HCELL : Hid (∀ (w' : World), Below wi.heap.size wi w' → ∀ (j : Nat) u, (ints m[us.length + 1])[j]? = some u → w'.cell? ⟨b2, o2 + j, none⟩ = some u) := by
              intro w' hb' j u hu
              have hc := hcell j u hu
              have hc' := (HBW.out.cell (p := ⟨b2, o2 + j, none⟩) (World.block_lt_of_cell? w _ hc)).trans hc
              exact (hb'.cell (World.block_lt_of_cell? wi _ hc')).trans hc'
            obtain ⟨X1, hsl1, hX1⟩ := slice_upto Try.underlying30 sizeOf_int b2 o2 (n + 1) c2 k (by omega) hc2
            obtain ⟨X2, hsl2, hX2⟩ := slice_from Try.underlying30 sizeOf_int b2 o2 (n + 1) c2 (k + 1) (by omega) hc2
            simp only [Int.natCast_add, Int.cast_ofNat_Int] at hsl2
            have HN1 : Hid ((ints (m[us.length + 1].take k)).length = k) := by show (ints (m[us.length + 1].take k)).length = k; rw [ints_length, List.length_take, HROWL.out]; omega
            have HN2 : Hid ((ints (m[us.length + 1].drop (k + 1))).length = n + 1 - (k + 1)) := by show (ints (m[us.length + 1].drop (k + 1))).length = n + 1 - (k + 1); rw [ints_length, List.length_drop, HROWL.out]
            have HC1 : Hid (∀ (w' : World), Below wi.heap.size wi w' → ∀ (j : Nat) u, (ints (m[us.length + 1].take k))[j]? = some u → w'.cell? (X1.add j) = some u) := by
              intro w' hb' j u hu
              rw [hX1, Addr.add_lit]
              exact HCELL.out w' hb' j u (ints_take_get _ _ _ _ hu)
            have HC2 : Hid (∀ (w' : World), Below wi.heap.size wi w' → ∀ (j : Nat) u, (ints (m[us.length + 1].drop (k + 1)))[j]? = some u → w'.cell? (X2.add j) = some u) := by
              intro w' hb' j u hu
              have hj := (List.getElem?_eq_some_iff.1 hu).1
              rw [HN2.out] at hj
              rw [hX2 (by omega), Addr.add_lit, Nat.add_assoc]
              exact HCELL.out w' hb' _ u (ints_drop_get _ _ _ _ hu)
            have hwk : IntKind.i64.wrap ((k : Int) + 1) = (k : Int) + 1 := IntWalk.i64_in _ (by omega)
            have HGU := Lib.hid HGM.out.1
            clear q1 hcell hX1 hX2
            go_wp2_with fail
            go_region_law (first
              | (refine step_own_g rfl (.tmp 31) (.tmp 34) 30 rfl wi.heap.size 3 i0 _ 8 Try.underlying30 hi0 hz0 hz1 hz2 rfl _ 0 [] (by simp [Act.eval]) (own_made0 _ _ _ (by simp)) X1 k c2 (ints (m[us.length + 1].take k)) (by simp [Act.eval]) HN1.out (HC1.out _ ((below_drewN (Below.refl _ _) 1).alloc (by simp) _)) (ints_one _) (by unfold maxLen; omega) (by omega) (by simp) ?_
                 intro v1 w1 hown1 hgr1
                 rw [Nat.zero_add, List.nil_append] at hown1
                 have HBa : Hid (Below wi.heap.size wi w1) := ((below_drewN (Below.refl _ _) 1).alloc (by simp) _).grown hgr1 (by simp) (fun x hx => by simp [Value.ownBlock] at hx; omega)
                 obtain ⟨A1, cp1, rfl⟩ := own_slice hown1
                 have HOa : Hid (w1.ownsRow wi.heap.size 3 1 (.slice A1 k cp1) k (ints (m[us.length + 1].take k))) := hown1
                 have hsza := HBa.out.size
                 clear hown1 hgr1)
              | (refine step_own_g rfl (.tmp 35) (.tmp 39) 30 rfl wi.heap.size 3 i0 _ 8 Try.underlying30 hi0 hz0 hz1 hz2 rfl _ k _ (by simp [Act.eval]) HOa.out X2 (n + 1 - (k + 1)) (c2 - (k + 1)) (ints (m[us.length + 1].drop (k + 1))) (by simp [Act.eval]) HN2.out (HC2.out _ HBa.out) (ints_one _) (by unfold maxLen; omega) (by omega) hsza ?_
                 intro v2 w2 hown2 hgr2
                 have HBb : Hid (Below wi.heap.size wi w2) := HBa.out.grown hgr2 hsza (fun x hx => (HOa.out.lt x hx).1)
                 obtain ⟨A2, cp2, rfl⟩ := own_slice hown2
                 have HOb : Hid (w2.ownsRow wi.heap.size 3 1 (.slice A2 (k + (n - k)) cp2) (k + (n - k)) (ints (cutR k m[us.length + 1]))) := by
                   have e : n + 1 - (k + 1) = n - k := by omega
                   rw [e] at hown2
                   unfold cutR ints
                   rw [List.map_append]
                   exact hown2
                 have hszb := HBb.out.size
                 clear hown2 hgr2)
              | (refine step_own_g rfl (.tmp 30) (.tmp 41) 27 rfl wo.heap.size 30 i1 _ 24 Try.underlying27 hj0 hy0 hy1 hy2 rfl _ us.length us (by simp [Act.eval]) ((own_below HGU.out HBb.out).alloc _) ⟨w2.heap.size, 0, none⟩ 1 1 [.slice A2 (k + (n - k)) cp2] (by simp [Act.eval]) rfl (fun j u hu => cell_one _ _ _ j u hu) (fun u hu => by simp at hu; subst hu; rfl) (by unfold maxLen; omega) (by omega) (by simp; omega) ?_
                 intro v3 w3 hown3 hgr3
                 obtain ⟨A3, cp3, rfl⟩ := own_slice hown3
                 have HOc := Lib.hid hown3
                 have HGc := Lib.hid hgr3
                 clear hown3 hgr3))
            all_goals
              go_wp2_with fail
              go_roundw
              case rel =>
                have hmm : us.length < (minorM m k).length := by rw [HMN.out]; exact hlt2
                have hrow : (minorM m k)[us.length] = cutR k m[us.length + 1] := minorM_at m k us.length hmm hrm
                have hlen : (cutR k m[us.length + 1]).length = k + (n - k) := by rw [cutR_length _ _ (by rw [HROWL.out]; exact hlt), HROWL.out]; omega
                refine ⟨us ++ [.slice A2 (k + (n - k)) cp2], by simp; omega, by simp, ?_, ?_⟩
                · refine GrowMat.snoc HGM.out HBb.out hszi hmm ?_ HOc.out (grown_trans (World.grownBy_alloc _ _ _) HGc.out)
                  rw [hrow, hlen]
                  exact HOb.out
                · exact ((HB2.out.trans (HBb.out.mono hszi)).alloc (by omega) _).grown HGc.out (by simp; omega) (fun x hx => (HGU.out.lt x hx).1)
              case measure => simp [intOf]; omega
          · have hkl : us.length = (minorM m k).length := by have := HMN.out; omega
            have HMAT : Hid (Mat wi (.slice A us.length cpo) (minorM m k)) := (HGM.out.own hkl).mat
            obtain ⟨⟨s1, s2⟩, s3, s4⟩ := HTB.out k hlt
            obtain ⟨s5, s6⟩ := HSB.out k hk
            have s7 : -1 ≤ sgnN k ∧ sgnN k ≤ 1 := by rcases sgnN_two k with e | e <;> rw [e] <;> decide
            obtain ⟨s7, s8⟩ := s7
            clear hkl
            go_wp2_with fail
            refine (IH.out (minorM m k) _ _ (by omega) HSQ.out HMAT.out).mono ?_
            rintro e w4 ⟨rfl, hb4⟩
            have HB4 : Hid (Below w.heap.size w w4) := HBW.out.trans (hb4.mono (by omega))
            clear hb4
            go_wp2_with fail
            go_roundw
            case rel => exact ⟨k + 1, by omega, by go_num, rfl, by rw [sgnN_succ], HB4.out⟩
            case measure => simp [intOf]; omega
      · have hkn : k = n + 1 := by omega
        have HV : Hid (sumTo (fun k => sgnN k * at2 m 0 k * detS n (minorM m k)) k = detS (n + 1) m) := by rw [hkn]; exact rfl
        clear hkn
        go_wp2_with fail
        go_ret
        exact ⟨ret_int HV.out, HBK.out⟩

theorem specDeterminantOf (m : List (List Int)) (v : Value) (w : World) (h : Mat w v m) (hm : m.length ≤ 1048576) (hr : ∀ r ∈ m, r.length ≤ 1048576) :
    Calls Try.prog 44 #[v] w fun e w' => e = .returned (.int .i64 (detR m)) ∧ Below w.heap.size w w' := by
  have HSQ := Lib.hid (specSquare m v w h hm hr)
  by_cases hs : sqB m = true
  · have HV : Hid (detR m = detS m.length m) := if_pos hs
    have HD := Lib.hid (specDet m.length m v w (sq_parts hs).2.1 (sqN_of hs) h)
    obtain ⟨A, cap, rfl⟩ := mat_slice h
    clear h hr
    go_enter Try.func44, Try.ntmps44
    go_wp2_with fail
    refine HSQ.out.mono ?_
    rintro e w' ⟨rfl, rfl⟩
    go_wp2_with fail
    refine HD.out.mono ?_
    rintro e w2 ⟨rfl, hb2⟩
    go_wp2_with fail
    go_ret
    exact ⟨ret_int HV.out.symm, hb2⟩
  · have hs' : sqB m = false := by simpa using hs
    have HV : Hid (detR m = 0) := if_neg hs
    obtain ⟨A, cap, rfl⟩ := mat_slice h
    clear h hs hr
    go_enter Try.func44, Try.ntmps44
    go_wp2_with fail
    refine HSQ.out.mono ?_
    rintro e w' ⟨rfl, rfl⟩
    go_wp2_with fail
    go_ret
    exact ⟨ret_int HV.out.symm, Below.refl _ _⟩
end Go.Proofs.Ytgidfainoijcmaa
