/- MultiplyMatrices of the model. Conditions: lengths of at most 2^20. -/
import Derived.Test.YtgidfainoijcmaaSquare
import Derived.Test.YtgidfainoijcmaaGrowMat
import Derived.Test.YtgidfainoijcmaaMatLaw
namespace Go.Proofs.Ytgidfainoijcmaa
open Go.RowKit

/-- a matrix, and whether there is one -/
def MatSaid (r : List (List Int)) (ok : Bool) (w : World) (e : Ending) (w' : World) : Prop := ∃ v, e = .returned (.tuple #[v, .bool ok]) ∧ OwnMat w' w.heap.size w'.heap.size v r ∧ Below w.heap.size w w'
theorem matSaid_no {r : List (List Int)} {ok : Bool} {w w' : World} (h1 : r = []) (h2 : ok = false) (hb : Below w.heap.size w w') : MatSaid r ok w (.returned (.tuple #[.slice none 0 0, .bool false])) w' :=
  ⟨_, by rw [h2], by rw [h1]; exact OwnMat.nil _ _ _, hb⟩
theorem mulR_no {a b : List (List Int)} (h : mulOk a b = false) : mulR a b = [] := if_neg (by rw [h]; decide)

theorem mul_cell {a b : List (List Int)} (ha : sqB a = true) (hb : sqB b = true) (hab : a.length = b.length) (i k : Nat) (hi : i < a.length) (hk : k < b.length) :
    (∀ j, j < b.length → -10000 ≤ at2 a i j * at2 b j k ∧ at2 a i j * at2 b j k ≤ 10000) ∧ ∀ j, j ≤ b.length → -40000 ≤ colTo a b i k j ∧ colTo a b i k j ≤ 40000 := by
  have h1 : ∀ j, j < b.length → -(100 : Int) ≤ at2 a i j ∧ at2 a i j ≤ 100 := fun j hj => at2_small ha i j hi (by omega)
  have h2 : ∀ j, j < b.length → -(100 : Int) ≤ at2 b j k ∧ at2 b j k ≤ 100 := fun j hj => at2_small hb j k hj hk
  have h4 := (sq_parts hb).2.1
  refine ⟨fun j hj => by have := mul_bound (h1 j hj) (h2 j hj); omega, fun j hj => ?_⟩
  have := colTo_bound b.length h1 h2 j hj
  omega

set_option maxHeartbeats 2000000 in
set_option maxRecDepth 100000 in
theorem specMultiplyMatrices (a b : List (List Int)) (va vb : Value) (w : World) (h1 : Mat w va a) (h2 : Mat w vb b) (hm : a.length ≤ 1048576) (hr : ∀ r ∈ a, r.length ≤ 1048576) (hm2 : b.length ≤ 1048576) (hr2 : ∀ r ∈ b, r.length ≤ 1048576) :
    Calls Try.prog 47 #[va, vb] w (MatSaid (mulR a b) (mulOk a b) w) := by
  have HSA := Lib.hid (specSquare a va w h1 hm hr)
  have HSB := Lib.hid (specSquare b vb w h2 hm2 hr2)
  by_cases ha : sqB a = true
  · by_cases hb : sqB b = true
    · by_cases hab : a.length = b.length
      · have HOK : Hid (mulOk a b = true) := by show mulOk a b = true; unfold mulOk; rw [ha, hb, decide_eq_true hab]; rfl
        have HR : Hid (mulR a b = mulM a b) := if_pos HOK.out
        obtain ⟨i0, hi0, hz0, hz1, hz2⟩ := info_parts int_info
        obtain ⟨i1, hj0, hy0, hy1, hy2⟩ := info_parts ints_info
        obtain ⟨_, ha4, _, _⟩ := sq_parts ha
        obtain ⟨hb1, hb4, _, _⟩ := sq_parts hb
        obtain ⟨ba, oa, ca, rfl, _, hra⟩ := sq_row h1 ha
        obtain ⟨bb, ob, cb, rfl, _, hrb⟩ := sq_row h2 hb
        have HRA := Lib.hid hra
        have HRB := Lib.hid hrb
        have HMC := Lib.hid (mul_cell ha hb hab)
        have HAB := Lib.hid hab
        have HML := Lib.hid (mulM_length a b)
        have bn : ((a.length : Int) != (b.length : Int)) = false := by rw [hab]; simp
        clear h1 h2 hr hr2 hra hrb hab
        go_enter Try.func47, Try.ntmps47
        go_wp2_with fail
        refine HSA.out.mono ?_
        rintro e w' ⟨rfl, rfl⟩
        go_wp2_with fail
        refine HSB.out.mono ?_
        rintro e w' ⟨rfl, rfl⟩
        go_wp2_with fail
        go_loopw [6, 32] (fun o i w' => ∃ (us : List Value), us.length ≤ a.length ∧ i = .int .i64 us.length ∧ GrowMat w' w.heap.size o us (mulM a b) ∧ Below w.heap.size w w') (fun _ i _ => a.length - (intOf i).toNat)
        case atStart =>
          have hown0 := World.ownsRow_made (e := 30) (size := 1) w #[] 0 (Nat.le_refl _) (by simp [maxLen]) (by simp)
          exact ⟨[], by simp, rfl, ⟨hown0, ⟨by simp, fun i h => absurd h (by simp), fun i j h => absurd h (by simp)⟩⟩, (Below.refl _ _).alloc (Nat.le_refl _) _⟩
        case round =>
          obtain ⟨us, hk, rfl, hgm, hbk⟩ := hrel
          obtain ⟨wo, rfl⟩ : ∃ x : World, x = wr := ⟨_, rfl⟩
          obtain ⟨A, cpo, rfl⟩ := own_slice hgm.1
          have HGM := Lib.hid hgm
          have HBK := Lib.hid hbk
          have hszr : w.heap.size ≤ wo.heap.size := hbk.size
          clear hgm hbk
          by_cases hlt : us.length < a.length
          · obtain ⟨b2, o2, c2, g1, _, _, hrow⟩ := HRA.out us.length hlt
            have g1w : wo.cell? ⟨ba, oa + us.length, none⟩ = some (.slice (some ⟨b2, o2, none⟩) a.length c2) := (HBK.out.cell (p := ⟨ba, oa + us.length, none⟩) (World.block_lt_of_cell? w _ g1)).trans g1
            have HROW := Lib.hid hrow
            clear hrow g1
            go_wp2_with fail
            go_loopw [9, 39] (fun r j w' => ∃ (k : Nat), k ≤ b.length ∧ j = .int .i64 k ∧ w'.ownsRow wo.heap.size 3 1 r k (ints ((mulRow a b us.length).take k)) ∧ Below wo.heap.size wo w') (fun _ j _ => b.length - (intOf j).toNat)
            case atStart =>
              have hown0 := World.ownsRow_made (e := 3) (size := 1) wo #[] 0 (Nat.le_refl _) (by simp [maxLen]) (by simp)
              exact ⟨0, by omega, rfl, hown0, (Below.refl _ _).alloc (Nat.le_refl _) _⟩
            case round =>
              obtain ⟨k, hk2, rfl, ho, hb2⟩ := hrel
              obtain ⟨wi, rfl⟩ : ∃ x : World, x = wr := ⟨_, rfl⟩
              obtain ⟨Ar, cpr, rfl⟩ := own_slice ho
              have HO := Lib.hid ho
              have HB2 := Lib.hid hb2
              have hszq := hb2.size
              have HBW : Hid (Below w.heap.size w wi) := HBK.out.trans (hb2.mono hszr)
              clear ho hb2
              by_cases hlt2 : k < b.length
              · have HMC2 := Lib.hid (HMC.out us.length k hlt hlt2)
                have HS := Lib.hid (mulRow_take a b us.length k hlt2)
                go_wp2_with fail
                go_loop [11, 44] (fun s q => ∃ (j : Nat), j ≤ a.length ∧ q = .int .i64 j ∧ s = .int .i64 (colTo a b us.length k j)) (fun _ q => a.length - (intOf q).toNat)
                case atStart => exact ⟨0, by omega, rfl, rfl⟩
                case round =>
                  obtain ⟨j, hj, rfl, rfl⟩ := hrel
                  by_cases hlt3 : j < a.length
                  · have hjb : j < b.length := by have := HAB.out; omega
                    obtain ⟨b3, o3, c3, q1, _, _, hrow3⟩ := HRB.out j hjb
                    have p1 := HROW.out j hlt3
                    have p2 := hrow3 k hlt2
                    have g2 : wi.cell? ⟨b2, o2 + j, none⟩ = some (.int .i64 (at2 a us.length j)) := (HBW.out.cell (p := ⟨b2, o2 + j, none⟩) (World.block_lt_of_cell? w _ p1)).trans p1
                    have g3 : wi.cell? ⟨bb, ob + j, none⟩ = some (.slice (some ⟨b3, o3, none⟩) b.length c3) := (HBW.out.cell (p := ⟨bb, ob + j, none⟩) (World.block_lt_of_cell? w _ q1)).trans q1
                    have g4 : wi.cell? ⟨b3, o3 + k, none⟩ = some (.int .i64 (at2 b j k)) := (HBW.out.cell (p := ⟨b3, o3 + k, none⟩) (World.block_lt_of_cell? w _ p2)).trans p2
                    obtain ⟨s1, s2⟩ := HMC2.out.1 j hjb
                    obtain ⟨s3, s4⟩ := HMC2.out.2 j (by omega)
                    clear hrow3 q1 p1 p2
                    go_wp2_with fail
                    go_round
                    case rel => exact ⟨j + 1, by omega, by go_num, rfl⟩
                    case measure => simp [intOf]; omega
                  · have hja : j = b.length := by have := HAB.out; omega
                    have HJA := Lib.hid hja
                    clear hja
                    go_wp2_with (at_builtin
                                 refine wpList_append1 _ rfl (.tmp 61) (.tmp 63) _ rfl wo.heap.size 3 i0 _ 8 Try.underlying30 hi0 hz0 hz1 hz2 rfl _ k _ rfl HO.out (.int .i64 (colTo a b us.length k j)) rfl rfl (by unfold maxLen; omega) (by omega) hszq ?_
                                 intro v' w1 hown1 hbel1
                                 have HOW := Lib.hid hown1
                                 have HBE := Lib.hid hbel1
                                 clear hown1 hbel1)
                    go_roundw
                    case rel =>
                      refine ⟨k + 1, by omega, by go_num, ?_, HB2.out.trans HBE.out⟩
                      rw [HS.out, ← HJA.out]
                      exact HOW.out
                    case measure => simp [intOf]; omega
              · have hkl : k = b.length := by omega
                have HO2 : Hid (wi.ownsRow wo.heap.size 3 1 (.slice Ar k cpr) b.length (ints (mulRow a b us.length))) := by
                  have := HO.out
                  rw [hkl, List.take_of_length_le (by rw [mulRow_length]; exact Nat.le_refl _)] at this
                  rw [hkl]
                  exact this
                have HG1 := Lib.hid (GrowMat.below HGM.out HB2.out)
                have HGU := Lib.hid HG1.out.1
                clear hkl
                go_wp2_with (at_builtin
                             refine wpList_append1g _ rfl (.tmp 66) (.tmp 68) _ rfl w.heap.size 30 i1 _ 24 Try.underlying27 hj0 hy0 hy1 hy2 rfl _ us.length us rfl HGU.out (.slice Ar k cpr) rfl rfl (by unfold maxLen; omega) (by omega) (by omega) ?_
                             intro v' w1 hown1 hgr1
                             have HOW := Lib.hid hown1
                             have HGR := Lib.hid hgr1
                             clear hown1 hgr1)
                go_roundw
                case rel =>
                  have hmm : us.length < (mulM a b).length := by rw [HML.out]; exact hlt
                  have hrow : (mulM a b)[us.length] = mulRow a b us.length := mulM_at a b us.length hmm
                  refine ⟨us ++ [.slice Ar k cpr], by simp; omega, by simp, ?_, ?_⟩
                  · refine GrowMat.snoc HGM.out HB2.out hszr hmm ?_ HOW.out HGR.out
                    rw [hrow, mulRow_length]
                    exact HO2.out
                  · exact HBW.out.grown HGR.out (by omega) (fun x hx => (HGU.out.lt x hx).1)
                case measure => simp [intOf]; omega
          · have hkl : us.length = (mulM a b).length := by have := HML.out; omega
            have HOM : Hid (OwnMat wo w.heap.size wo.heap.size (.slice A us.length cpo) (mulM a b)) := HGM.out.own hkl
            clear hkl
            go_wp2_with fail
            go_ret2
            exact ⟨_, by rw [HOK.out]; rfl, by rw [HR.out]; exact HOM.out, HBK.out⟩
      · have HOK : Hid (mulOk a b = false) := by show mulOk a b = false; unfold mulOk; rw [decide_eq_false hab]; simp
        have bn : ((a.length : Int) != (b.length : Int)) = true := by rw [bne_iff_ne]; omega
        obtain ⟨A, cap, rfl⟩ := mat_slice h1
        obtain ⟨B, cap2, rfl⟩ := mat_slice h2
        clear h1 h2 hr hr2 hab
        go_enter Try.func47, Try.ntmps47
        go_wp2_with fail
        refine HSA.out.mono ?_
        rintro e w' ⟨rfl, rfl⟩
        go_wp2_with fail
        refine HSB.out.mono ?_
        rintro e w' ⟨rfl, rfl⟩
        go_wp2_with fail
        go_ret2
        exact matSaid_no (mulR_no HOK.out) HOK.out (Below.refl _ _)
    · have HOK : Hid (mulOk a b = false) := by show mulOk a b = false; unfold mulOk; rw [show sqB b = false by simpa using hb]; simp
      have hb' : sqB b = false := by simpa using hb
      clear h1 h2 hr hr2 hb
      go_enter Try.func47, Try.ntmps47
      go_wp2_with fail
      refine HSA.out.mono ?_
      rintro e w' ⟨rfl, rfl⟩
      go_wp2_with fail
      refine HSB.out.mono ?_
      rintro e w' ⟨rfl, rfl⟩
      go_wp2_with fail
      go_ret2
      exact matSaid_no (mulR_no HOK.out) HOK.out (Below.refl _ _)
  · have HOK : Hid (mulOk a b = false) := by show mulOk a b = false; unfold mulOk; rw [show sqB a = false by simpa using ha]; simp
    have ha' : sqB a = false := by simpa using ha
    clear h1 h2 hr hr2 ha
    go_enter Try.func47, Try.ntmps47
    go_wp2_with fail
    refine HSA.out.mono ?_
    rintro e w' ⟨rfl, rfl⟩
    go_wp2_with fail
    go_ret2
    exact matSaid_no (mulR_no HOK.out) HOK.out (Below.refl _ _)
theorem mulR_sum (a b : List (List Int)) : sumN ((mulR a b).map List.length) ≤ 16 := by
  have h1 := mulR_le a b
  have h2 := sum_rect (m := mulR a b) (c := 4) (fun x hx => by
    unfold mulR at hx
    split at hx
    · rename_i h
      unfold mulOk at h
      simp only [Bool.and_eq_true, decide_eq_true_eq] at h
      obtain ⟨i, hi, rfl⟩ := List.mem_iff_getElem.1 hx
      rw [mulM_at, mulRow_length]
      exact (sq_parts h.2.1).2.1
    · simp at hx)
  omega
end Go.Proofs.Ytgidfainoijcmaa
