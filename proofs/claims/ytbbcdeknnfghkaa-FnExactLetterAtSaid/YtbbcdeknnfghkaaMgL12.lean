/- Texts put together. -/
import Derived.Test.YtbbcdeknnfghkaaMgL11
import Derived.Test.YtbbcdeknnfghkaaMgL4
import Derived.Test.YtbbcdeknnfghkaaMgL10
import Derived.IntWalk
import Derived.Test.YtbbcdeknnfghkaaMgL5
import Derived.Test.YtbbcdeknnfghkaaMgL6
/- What the model makes of a word under a substitution. Condition: the substitution and the word are valid. -/
namespace Go.Proofs.Ytbbcdeknnfghkaa
open Go.RowKit

def ApplySaid (l : List ByteArray) (s : ByteArray) (w : World) (e : Ending) (w' : World) : Prop :=
  Below w.heap.size w w' ∧ ∃ r : ByteArray, e = .returned (.string r) ∧ r.size ≤ 408 ∧ ((applyL l s.data.toList).length ≤ 400 → r = ⟨(applyL l s.data.toList).toArray⟩) ∧ (400 < (applyL l s.data.toList).length → 400 < r.size)

theorem lst_at {w : World} {v : Value} {l : List ByteArray} (h : Lst w v (strs l)) (h0 : 0 < l.length) : ∃ b off cap, v = .slice (some ⟨b, off, none⟩) l.length cap ∧ ∀ k (hk : k < l.length), w.cell? ⟨b, off + k, none⟩ = some (.string l[k]) := by
  obtain ⟨A, cap, h1, _, _, h2⟩ := h
  rw [strs_length] at h1
  rcases h2 with h2 | ⟨b, off, rfl, h2⟩
  · have := congrArg List.length h2
    rw [strs_length] at this
    simp only [List.length_nil] at this
    omega
  · exact ⟨b, off, cap, h1, fun k hk => strs_at h2 k hk⟩

set_option maxHeartbeats 1000000 in
theorem specApply (l : List ByteArray) (v : Value) (s : ByteArray) (w : World) (h : Lst w v (strs l)) (hl : substB l = true) (hs : wordB s = true) (hw : withinB l.length s = true) :
    Calls Try.prog 55 #[.agg #[v], .string s] w (ApplySaid l s w) := by
  obtain ⟨i0, hi0, hz0, hz1, hz2⟩ := info_parts u8_info
  obtain ⟨hl1, hl4, hl5⟩ := subst_parts hl
  obtain ⟨b, off, cp, rfl, hat⟩ := lst_at h (by omega)
  have H1 := Lib.hid hat
  have HI := Lib.hid hl5
  have h400 := word_size hs
  have HW := Lib.hid (word_at hs)
  have HN := Lib.hid (within_at hw)
  clear h hl hs hw hat hl5
  go_enter Try.func55, Try.ntmps55
  go_wp2
  go_loopw [5, 6] (fun o i w' => ∃ (k n : Nat), k ≤ s.size ∧ i = .int .i64 k ∧ n ≤ 408 ∧ n = (applyL l (s.data.toList.take k)).length ∧ w'.ownsRow (w.heap.size + 1) 5 1 o n (byteCells (applyL l (s.data.toList.take k))) ∧ Below (w.heap.size + 1) (w.alloc (.cells #[.slice (some ⟨b, off, none⟩) l.length cp] 24)) w') (fun _ i _ => s.size - (intOf i).toNat)
  case atStart =>
    have hz0 : w.heap.size + 1 ≤ (w.alloc (.cells #[.slice (some ⟨b, off, none⟩) l.length cp] 24)).heap.size := by simp
    have hown0 := World.ownsRow_made (e := 5) (size := 1) (w.alloc (.cells #[.slice (some ⟨b, off, none⟩) l.length cp] 24)) #[] 0 hz0 (by simp [maxLen]) (by simp)
    simp only [World.size_alloc] at hown0
    exact ⟨0, 0, Nat.zero_le _, rfl, by omega, rfl, hown0, (Below.refl _ _).alloc hz0 _⟩
  case round =>
    obtain ⟨k, n, hk, rfl, hn, hnl, ho, hb⟩ := hrel
    obtain ⟨A, cp', rfl⟩ := own_slice ho
    have HNL := Lib.hid hnl
    have HB := Lib.hid hb
    have hsz : w.heap.size + 1 ≤ wr.heap.size := by have := hb.size; simpa using this
    clear hnl hb
    by_cases hlt : k < s.size
    · have d1 : decide ((k : Int) < s.size) = true := by simp; omega
      by_cases hle : n ≤ 400
      · have d2 : decide ((n : Int) ≤ 400) = true := by simp; omega
        obtain ⟨p1, p2⟩ := HW.out k hlt
        have p3 := HN.out k hlt
        obtain ⟨j, hj⟩ : ∃ j, s[k].toNat = 97 + j := ⟨s[k].toNat - 97, by omega⟩
        have hjl : j < l.length := by omega
        have q1 : IntKind.u8.wrap ((s[k].toNat : Int) - 97) = (j : Int) := by rw [IntWalk.u8_in _ (by omega)]; omega
        have g0 : wr.cell? ⟨w.heap.size, 0, none⟩ = some (.slice (some ⟨b, off, none⟩) l.length cp) := (HB.out.cell (p := ⟨w.heap.size, 0, none⟩) (by simp)).trans (by rw [World.cell?_alloc_at _ _ _ _ rfl]; rfl)
        have g1 : wr.cell? ⟨b, off + j, none⟩ = some (.string l[j]) := by
          have hc := H1.out j hjl
          have hlt := World.block_lt_of_cell? w _ hc
          refine (HB.out.cell (p := ⟨b, off + j, none⟩) (by simp at hlt ⊢; omega)).trans ?_
          rw [← hc]
          exact ((Below.refl w.heap.size w).alloc (Nat.le_refl _) _).cell (p := ⟨b, off + j, none⟩) hlt
        obtain ⟨c, wc, hrun, hbc, hzc, hcell⟩ := conv_text wr.drew l[j] Try.underlying9
        simp only [World.size_drew] at hrun hzc
        obtain ⟨r1, r2, r3, r4⟩ := img_parts (HI.out j hjl)
        have hown0 := own_below (own_drewN ho 1) hbc
        have HO := Lib.hid hown0
        have HCELL := Lib.hid hcell
        have HBC := Lib.hid hbc
        have HS := Lib.hid (applyL_succ l s k hlt)
        have HIM := Lib.hid (imgOf_at l s[k] j hj hjl)
        have hlj : (byteCells l[j].data.toList).length = l[j].size := by rw [byteCells_length]; simp
        have HLJ := Lib.hid hlj
        clear p1 p2 p3 hj hown0 ho hcell hbc r3 r4 hlj
        go_wp2_with fail
        go_region_law (refine step_own rfl (.tmp 19) (.tmp 28) 59 rfl (w.heap.size + 1) 5 i0 _ 1 Try.underlying59 hi0 hz0 hz1 hz2 rfl _ n _ (by simp [Act.eval]) HO.out ⟨wr.heap.size, 0, none⟩ l[j].size c (byteCells l[j].data.toList) (by simp [Act.eval]) HLJ.out (fun q u hu => by rw [Addr.add_lit, Nat.zero_add]; exact HCELL.out q u hu) (fun u hu => byteCells_one _ u hu) (by unfold maxLen; omega) (by omega) (by omega) ?_; intro v' w' hown' hbel')
        all_goals
          have HOW := Lib.hid hown'
          have HBE := Lib.hid hbel'
          clear hown' hbel'
          go_wp2_with fail
          go_roundw
          case rel =>
            have e1 : applyL l (s.data.toList.take (k + 1)) = applyL l (s.data.toList.take k) ++ l[j].data.toList := by rw [HS.out, HIM.out]
            refine ⟨k + 1, n + l[j].size, by omega, by go_num, by omega, ?_, ?_, ?_⟩
            · rw [e1, List.length_append, ← HNL.out]; simp
            · rw [e1]
              have := HOW.out
              unfold byteCells at this ⊢
              rwa [List.map_append]
            · exact ((below_drewN HB.out 1).trans (HBC.out.mono (by simp; omega))).trans HBE.out
          case measure => simp [intOf]; omega
      · have d2 : decide ((n : Int) ≤ 400) = false := by simp; omega
        have HLE : Hid ((applyL l (s.data.toList.take k)).length ≤ (applyL l s.data.toList).length) := applyL_take_le l _ k
        have hconv := conv_own ho
        clear ho
        go_wp2_with fail
        go_ret
        refine ⟨?_, _, rfl, ?_, ?_, ?_⟩
        · exact ((Below.refl w.heap.size w).alloc (Nat.le_refl _) _).trans (HB.out.mono (by omega))
        · show (applyL l (s.data.toList.take k)).toArray.size ≤ 408
          have := HNL.out
          simp only [List.size_toArray]; omega
        · intro hle'
          have := HNL.out
          have := HLE.out
          omega
        · intro _
          show 400 < (applyL l (s.data.toList.take k)).toArray.size
          have := HNL.out
          simp only [List.size_toArray]; omega
    · have d1 : decide ((k : Int) < s.size) = false := by simp; omega
      have hk' : k = s.size := by omega
      subst hk'
      have hconv := conv_own ho
      rw [take_all s _ (Nat.le_refl _)] at hconv
      have HN2 : Hid (n = (applyL l s.data.toList).length) := by
        have := HNL.out
        rw [take_all s _ (Nat.le_refl _)] at this
        exact this
      clear ho
      go_wp2_with fail
      go_ret
      refine ⟨?_, _, rfl, ?_, ?_, ?_⟩
      · exact ((Below.refl w.heap.size w).alloc (Nat.le_refl _) _).trans (HB.out.mono (by omega))
      · show (applyL l s.data.toList).toArray.size ≤ 408
        have := HN2.out
        simp only [List.size_toArray]; omega
      · exact fun _ => rfl
      · intro h4
        show 400 < (applyL l s.data.toList).toArray.size
        simpa using h4

theorem specApplyShort (l : List ByteArray) (v : Value) (s : ByteArray) (w : World) (h : Lst w v (strs l)) (hl : substB l = true) (hs : wordB s = true) (hw : withinB l.length s = true) (h8 : s.size ≤ 8) :
    Calls Try.prog 55 #[.agg #[v], .string s] w fun e w' => e = .returned (.string (stepS l s)) ∧ Below w.heap.size w w' := by
  refine (specApply l v s w h hl hs hw).mono ?_
  rintro e w' ⟨hb, r, rfl, _, hr, _⟩
  have h2 := applyL_le hl s.data.toList
  have : s.data.toList.length = s.size := by simp
  rw [hr (by omega)]
  exact ⟨rfl, hb⟩
end Go.Proofs.Ytbbcdeknnfghkaa

/- l04Matrix and MatrixOf of the model. Conditions: lengths of at most 2^20. -/
namespace Go.Proofs.Ytbbcdeknnfghkaa
open Go.RowKit

set_option maxHeartbeats 1000000 in
set_option maxRecDepth 100000 in
theorem specMatrix (l : List ByteArray) (v : Value) (w : World) (h : Lst w v (strs l)) (hl : substB l = true) :
    Calls Try.prog 60 #[.agg #[v]] w fun e w' => ∃ v', e = .returned v' ∧ OwnMat w' w.heap.size w'.heap.size v' (matL l) ∧ Below w.heap.size w w' := by
  obtain ⟨i0, hi0, hz0, hz1, hz2⟩ := info_parts int_info
  obtain ⟨i1, hj0, hy0, hy1, hy2⟩ := info_parts ints_info
  obtain ⟨hl1, hl4, hl5⟩ := subst_parts hl
  obtain ⟨b, off, cp, rfl, hat⟩ := lst_at h (by omega)
  have H1 := Lib.hid hat
  have HI := Lib.hid hl5
  have hbw := World.block_lt_of_cell? w _ (hat 0 (by omega))
  have hML := matL_length l
  have HML := Lib.hid hML
  clear h hat hl5 hl hML
  have HA0 : Hid (Below w.heap.size w (w.alloc (.cells #[.slice (some ⟨b, off, none⟩) l.length cp] 24))) := (Below.refl _ _).alloc (Nat.le_refl _) _
  go_enter Try.func60, Try.ntmps60
  go_wp2
  go_loopw [3, 12] (fun o i w' => ∃ (us : List Value), us.length ≤ l.length ∧ i = .int .i64 us.length ∧ GrowMat w' (w.heap.size + 1) o us (matL l) ∧ Below (w.heap.size + 1) (w.alloc (.cells #[.slice (some ⟨b, off, none⟩) l.length cp] 24)) w') (fun _ i _ => l.length - (intOf i).toNat)
  case atStart =>
    have hown0 := World.ownsRow_made (e := 32) (size := 1) (w.alloc (.cells #[.slice (some ⟨b, off, none⟩) l.length cp] 24)) #[] 0 (Nat.le_refl _) (by simp [maxLen]) (by simp)
    simp only [World.size_alloc] at hown0
    exact ⟨[], by simp, rfl, ⟨hown0, ⟨by simp, fun i h => absurd h (by simp), fun i j h => absurd h (by simp)⟩⟩, (Below.refl _ _).alloc (by simp) _⟩
  case round =>
    obtain ⟨us, hk, rfl, hgm, hbk⟩ := hrel
    obtain ⟨wo, rfl⟩ : ∃ x : World, x = wr := ⟨_, rfl⟩
    obtain ⟨A, cpo, rfl⟩ := own_slice hgm.1
    have HGM := Lib.hid hgm
    have HBK := Lib.hid hbk
    have hszr : w.heap.size + 1 ≤ wo.heap.size := by have := hbk.size; simpa using this
    have hltr : w.heap.size < wo.heap.size := by omega
    have g0 : wo.cell? ⟨w.heap.size, 0, none⟩ = some (.slice (some ⟨b, off, none⟩) l.length cp) := (hbk.cell (p := ⟨w.heap.size, 0, none⟩) (by simp)).trans (by go_simp)
    clear hgm hbk
    by_cases hlt : us.length < l.length
    · have hwr : IntKind.u8.wrap ((97 : Int) + (us.length : Int)) = ((letterN us.length).toNat : Int) := by
        rw [IntWalk.u8_in _ (by omega), letterN_toNat _ (by omega)]
        omega
      go_wp2
      go_loopw [5, 19] (fun r j w' => ∃ (k : Nat), k ≤ l.length ∧ j = .int .i64 k ∧ w'.ownsRow wo.heap.size 3 1 r k (ints (rowL (l.take k) us.length)) ∧ Below wo.heap.size wo w') (fun _ j _ => l.length - (intOf j).toNat)
      case atStart =>
        have hown0 := World.ownsRow_made (e := 3) (size := 1) wo #[] 0 (Nat.le_refl _) (by simp [maxLen]) (by simp)
        exact ⟨0, by omega, rfl, hown0, (Below.refl _ _).alloc (Nat.le_refl _) _⟩
      case round =>
        obtain ⟨k, hk2, rfl, ho, hb2⟩ := hrel
        obtain ⟨Ar, cpr, rfl⟩ := own_slice ho
        have HO := Lib.hid ho
        have HB2 := Lib.hid hb2
        have hszq := hb2.size
        clear ho hb2
        by_cases hlt2 : k < l.length
        · have g1 : wr.cell? ⟨b, off + k, none⟩ = some (.string l[k]) := (HB2.out.cell (p := ⟨b, off + k, none⟩) (by simp; omega)).trans ((HBK.out.cell (p := ⟨b, off + k, none⟩) (by simp; omega)).trans ((HA0.out.cell (p := ⟨b, off + k, none⟩) hbw).trans (H1.out k hlt2)))
          have hs8 := (img_parts (HI.out k hlt2)).2.1
          have HS := Lib.hid (rowL_succ l us.length k hlt2)
          have HC := Lib.hid (specCount l[k] (letterN us.length) wr (by omega))
          go_wp2_with (first
            | (go_at_call 88
               refine HC.out.mono ?_
               rintro e w' ⟨rfl, rfl⟩)
            | (at_builtin
               refine wpList_append1 _ rfl (.tmp 23) (.tmp 29) _ rfl wo.heap.size 3 i0 _ 8 Try.underlying32 hi0 hz0 hz1 hz2 rfl _ k _ rfl HO.out (.int .i64 (cnt l[k].data.toList (letterN us.length) : Int)) rfl rfl (by unfold maxLen; omega) (by omega) hszq ?_
               intro v' w1 hown1 hbel1
               have HOW := Lib.hid hown1
               have HBE := Lib.hid hbel1
               clear hown1 hbel1))
          go_roundw
          case rel =>
            refine ⟨k + 1, by omega, by go_num, ?_, HB2.out.trans HBE.out⟩
            rw [HS.out]
            exact HOW.out
          case measure => simp [intOf]; omega
        · have hkl : k = l.length := by omega
          have HO2 : Hid (wr.ownsRow wo.heap.size 3 1 (.slice Ar k cpr) l.length (ints (rowL l us.length))) := by
            have := HO.out
            rw [hkl, List.take_length] at this
            rw [hkl]
            exact this
          have HG1 := Lib.hid (GrowMat.below HGM.out HB2.out)
          have HGU := Lib.hid HG1.out.1
          clear hkl
          go_wp2_with (at_builtin
                       refine wpList_append1g _ rfl (.tmp 32) (.tmp 34) _ rfl (w.heap.size + 1) 32 i1 _ 24 Try.underlying69 hj0 hy0 hy1 hy2 rfl _ us.length us rfl HGU.out (.slice Ar k cpr) rfl rfl (by unfold maxLen; omega) (by omega) (by omega) ?_
                       intro v' w1 hown1 hgr1
                       have HOW := Lib.hid hown1
                       have HGR := Lib.hid hgr1
                       clear hown1 hgr1)
          go_roundw
          case rel =>
            have hm : us.length < (matL l).length := by rw [HML.out]; exact hlt
            have hrow : (matL l)[us.length] = rowL l us.length := matL_at l us.length hm
            refine ⟨us ++ [.slice Ar k cpr], by simp; omega, by simp, ?_, ?_⟩
            · refine GrowMat.snoc HGM.out HB2.out hszr hm ?_ HOW.out HGR.out
              rw [hrow, rowL_length]
              exact HO2.out
            · refine (HBK.out.trans (HB2.out.mono hszr)).grown HGR.out (by omega) (fun x hx => (HGU.out.lt x hx).1)
          case measure => simp [intOf]; omega
    · have hkl : us.length = (matL l).length := by have := HML.out; omega
      have HOM : Hid (OwnMat wo w.heap.size wo.heap.size (.slice A us.length cpo) (matL l)) := (HGM.out.own hkl).mono (by omega)
      clear hkl
      go_wp2_with fail
      go_ret
      exact ⟨_, rfl, HOM.out, HA0.out.trans (HBK.out.mono (by omega))⟩

theorem matR_sum (l : List ByteArray) : sumN ((matR l).map List.length) ≤ 16 := by
  have h1 := matR_le l
  have h2 := sum_rect (m := matR l) (c := 4) (fun x hx => by
    unfold matR at hx
    split at hx
    · rename_i h
      obtain ⟨i, hi, rfl⟩ := List.mem_iff_getElem.1 hx
      rw [matL_at, rowL_length]
      exact (subst_parts h).2.1
    · simp at hx)
  omega
end Go.Proofs.Ytbbcdeknnfghkaa

/- CountAfter of the model. Conditions: lengths of at most 2^20. -/
namespace Go.Proofs.Ytbbcdeknnfghkaa
open Go.RowKit

/-- a matrix whose rows have one length, cell by cell -/
theorem mat_rect {w : World} {v : Value} {m : List (List Int)} {c : Nat} (h : Mat w v m) (hr : ∀ i (hi : i < m.length), m[i].length = c) (h0 : 0 < m.length) (hc : 0 < c) : ∃ b off cap, v = .slice (some ⟨b, off, none⟩) m.length cap ∧ ∀ k, k < m.length → ∃ b2 off2 cap2, w.cell? ⟨b, off + k, none⟩ = some (.slice (some ⟨b2, off2, none⟩) c cap2) ∧ ∀ j, j < c → w.cell? ⟨b2, off2 + j, none⟩ = some (.int .i64 (at2 m k j)) := by
  obtain ⟨b, off, cap, e, q1, q2, hrow⟩ := mat_rows h h0
  refine ⟨b, off, cap, e, fun k hk => ?_⟩
  obtain ⟨u, g1, ⟨A, cap2, e2, c1, c2, h2⟩⟩ := hrow k hk
  rw [ints_length, hr k hk] at e2
  replace h2 := h2.resolve_left (by
    intro e
    have := congrArg List.length e
    rw [ints_length, hr k hk] at this
    simp only [List.length_nil] at this
    omega)
  obtain ⟨b2, off2, rfl, h2⟩ := h2
  refine ⟨b2, off2, cap2, by rw [g1, e2], fun j hj => ?_⟩
  have hj' : j < m[k].length := by rw [hr k hk]; exact hj
  rw [at2_eq m k j hk hj']
  exact ints_at h2 j hj'
/-- a new slice of ints, and whether there is one -/
def IntsSaid (r : List Int) (ok : Bool) (w : World) (e : Ending) (w' : World) : Prop := ∃ v, e = .returned (.tuple #[v, .bool ok]) ∧ w'.ownsRow w.heap.size 3 1 v r.length (ints r) ∧ Below w.heap.size w w'
theorem intsSaid_no {r : List Int} {ok : Bool} {w w' : World} (h1 : r = []) (h2 : ok = false) (hb : Below w.heap.size w w') : IntsSaid r ok w (.returned (.tuple #[.slice none 0 0, .bool false])) w' :=
  ⟨_, by rw [h2], by rw [h1]; exact World.ownsRow_nil _ _ _ _, hb⟩
theorem own_ints_at {w : World} {B g cp n : Nat} {l : List Int} (h : w.ownsRow B 3 1 (.slice (some ⟨g, 0, none⟩) n cp) n (ints l)) (hl : l.length = n) (k : Nat) (hk : k < n) : w.cell? ⟨g, k, none⟩ = some (.int .i64 (l.getD k 0)) := by
  rw [h.cellAt k (by omega)]
  simp [ints, List.getD, List.getElem?_eq_getElem (show k < l.length by omega)]

theorem ints_one' (l : List Int) : ∀ u ∈ ints l, u.oneCell' = true := by
  intro u hu
  simp only [ints, List.mem_map] at hu
  obtain ⟨x, _, rfl⟩ := hu
  rfl

set_option maxHeartbeats 4000000 in
set_option maxRecDepth 100000 in
theorem specCountAfter (l : List ByteArray) (v : Value) (cs : List Int) (u : Value) (n : Int) (w : World) (h : Lst w v (strs l)) (hz : ∀ x ∈ l, x.size ≤ 1048576) (hn : l.length ≤ 1048576) (hu : Lst w u (ints cs)) (hc : cs.length ≤ 1048576) :
    Calls Try.prog 21 #[.agg #[v], u, .int .i64 n] w (IntsSaid (caR l cs n) (caOk l cs n) w) := by
  obtain ⟨i0, hi0, hz0, hz1, hz2⟩ := info_parts int_info
  obtain ⟨A, cp, rfl⟩ := lst_slice h
  obtain ⟨C, cq, rfl⟩ := lst_slice hu
  rw [strs_length] at h ⊢
  rw [ints_length] at hu ⊢
  have hb0 : Below w.heap.size w (w.alloc (.cells #[.slice A l.length cp] 24)) := (Below.refl _ _).alloc (Nat.le_refl _) _
  have HL := Lib.hid (h.below hb0)
  have HU := Lib.hid (hu.below hb0)
  have HZ := Lib.hid hz
  have HB0 := Lib.hid hb0
  clear h hz hb0 hu
  by_cases h1 : substB l = true
  · obtain ⟨hl1, hl4, _⟩ := subst_parts h1
    have H1 := Lib.hid h1
    by_cases h2 : cs.length = l.length
    · have b2 : ((cs.length : Int) != (l.length : Int)) = false := by rw [h2]; simp
      have H2 := Lib.hid h2
      by_cases h3 : 0 ≤ n ∧ n ≤ 40
      · obtain ⟨h30, h31⟩ := h3
        have d1 : decide ((0 : Int) ≤ n) = true := by simpa using h30
        have d2 : decide (n ≤ (40 : Int)) = true := by simpa using h31
        have HPRE : Hid (caOk l cs n = (cs.all cntOk && itCok l cs n.toNat)) := by show caOk l cs n = _; unfold caOk; rw [h1, decide_eq_true h2, d1, d2]; rfl
        clear h2
        go_enter Try.func21, Try.ntmps21
        go_wp2_with fail
        refine (specSubstOk l _ _ HL.out HZ.out hn).mono ?_
        rintro e w1 ⟨rfl, hb1⟩
        have HB1 : Hid (Below w.heap.size w w1) := HB0.out.trans (hb1.mono (by simp))
        have c0 : w1.cell? ⟨w.heap.size, 0, none⟩ = some (.slice A l.length cp) := (hb1.cell (p := ⟨w.heap.size, 0, none⟩) (by simp)).trans (by go_simp)
        have HL1 := Lib.hid (HL.out.below hb1)
        have HU1 := Lib.hid (HU.out.below hb1)
        clear hb1
        go_wp2_with fail
        refine (specIn _ _ _ _).mono ?_
        rintro e w' ⟨rfl, rfl⟩
        obtain ⟨A', c', he, hq1, hq2, hq⟩ := HU1.out
        rw [ints_length] at he hq1
        injection he with hA _ hcc
        subst hA; subst hcc
        replace hq := hq.resolve_left (by
          intro e
          have := congrArg List.length e
          have h22 := H2.out
          rw [ints_length] at this
          simp only [List.length_nil] at this
          omega)
        obtain ⟨bc, oc, rfl, hq⟩ := hq
        have HQ := Lib.hid (ints_at hq)
        have HQ0 := Lib.hid hq
        clear hq hq1 hq2
        go_wp2_with fail
        go_loop [37] (fun i => ∃ k : Nat, k ≤ cs.length ∧ i = .int .i64 k ∧ (cs.take k).all cntOk = true) (fun i => cs.length - (intOf i).toNat)
        case atStart => exact ⟨0, by omega, rfl, rfl⟩
        case round =>
          obtain ⟨k, hk, rfl, ha⟩ := hrel
          have HA := Lib.hid ha
          clear ha
          by_cases hlt : k < cs.length
          · have g1 := HQ.out k hlt
            by_cases hx : (decide ((0 : Int) ≤ cs[k]) && decide (cs[k] ≤ (1000 : Int))) = true
            · have HX : Hid (cntOk cs[k] = true) := hx
              go_wp2_with (go_at_call 49; refine (specIn _ _ _ _).mono ?_; rintro e w' ⟨rfl, rfl⟩)
              go_round
              case rel => exact ⟨k + 1, by omega, by go_num, lall_snoc cs k hlt HA.out HX.out⟩
              case measure => simp [intOf]; omega
            · have hx' : (decide ((0 : Int) ≤ cs[k]) && decide (cs[k] ≤ (1000 : Int))) = false := by simpa only [Bool.not_eq_true] using hx
              have HN : Hid (caOk l cs n = false) := by
                show caOk l cs n = false
                rw [HPRE.out, lall_no cs k hlt hx', Bool.false_and]
              clear hx
              go_wp2_with (go_at_call 49; refine (specIn _ _ _ _).mono ?_; rintro e w' ⟨rfl, rfl⟩)
              go_ret2
              exact intsSaid_no (caR_no HN.out) HN.out HB1.out
          · have hkl : k = cs.length := by omega
            have HALL : Hid (cs.all cntOk = true) := lall_end cs (hkl ▸ HA.out)
            clear hkl
            go_wp2_with fail
            refine (specMatrix l _ _ HL1.out H1.out).mono ?_
            rintro e w3 ⟨mv, rfl, hom, hb3⟩
            have hmat := hom.mat
            obtain ⟨bm, om, cm, rfl, hrows⟩ := mat_rect hmat (matL_row l) (by rw [matL_length]; omega) (show 0 < l.length by omega)
            rw [matL_length] at hrows
            have HROWS := Lib.hid hrows
            have HB3 : Hid (Below w.heap.size w w3) := HB1.out.trans (hb3.mono HB1.out.size)
            have HML := matL_length l
            rw [HML]
            have HQ3 : Hid (∀ (j : Nat) u, (ints cs)[j]? = some u → w3.cell? ⟨bc, oc + j, none⟩ = some u) := fun j u hu => by
              have := HQ0.out j u hu
              exact (hb3.cell (p := ⟨bc, oc + j, none⟩) (World.block_lt_of_cell? w1 _ this)).trans this
            have HNN := Lib.hid (itC_small H1.out H2.out HALL.out)
            have HLN := Lib.hid (itC_length H2.out)
            clear hom hmat hrows hb3 HML c0
            have hHL : Hid ((ints cs).length = cs.length) := ints_length cs
            have HCQ : Hid (∀ (j : Nat) u, (ints cs)[j]? = some u → (w3.alloc (.cells #[] 3)).cell? ((⟨bc, oc, none⟩ : Addr).add j) = some u) := fun j u hu => by
              rw [Addr.add_lit]
              have h5 := HQ3.out j u hu
              exact (((Below.refl w3.heap.size w3).alloc (Nat.le_refl _) (.cells #[] 3)).cell (p := ⟨bc, oc + j, none⟩) (World.block_lt_of_cell? w3 _ h5)).trans h5
            go_wp2_with (at_builtin
                         refine wpList_append_own _ rfl (.tmp 47) (.tmp 48) 32 rfl w3.heap.size 3 i0 _ 1 8 Try.underlying32 hi0 hz0 hz1 hz2 rfl (by decide) _ 0 [] rfl (own_made0 _ _ _ (Nat.le_refl _)) ⟨bc, oc, none⟩ cs.length cq (ints cs) rfl (by rw [Nat.mul_one]; exact hHL.out) HCQ.out (ints_one' cs) (by unfold maxLen; omega) (by omega) (by simp) ?_
                         intro v4 w4 hown4 hgr4 _
                         have HB4 : Hid (Below w3.heap.size w3 w4) := ((Below.refl _ _).alloc (Nat.le_refl _) _).grown hgr4 (by simp) (fun x hx => ((own_made0 w3 w3.heap.size 3 (Nat.le_refl _)).lt x hx).1)
                         rw [Nat.zero_add, List.nil_append] at hown4
                         obtain ⟨A4, cp4, rfl⟩ := own_slice hown4
                         have HO4 := Lib.hid hown4
                         clear hown4 hgr4)
            go_loopw [11, 12] (fun o i w' => ∃ (k : Nat), (k : Int) ≤ n ∧ i = .int .i64 k ∧ itCok l cs k = true ∧ w'.ownsRow w3.heap.size 3 1 o l.length (ints (itC l cs k)) ∧ Below w3.heap.size w3 w') (fun _ i _ => (n - intOf i).toNat)
            case atStart => exact ⟨0, h30, rfl, rfl, by have := HO4.out; rw [H2.out] at this ⊢; exact this, HB4.out⟩
            case round =>
              obtain ⟨k, hk, rfl, hok, ho, hbk⟩ := hrel
              obtain ⟨wo, rfl⟩ : ∃ x : World, x = wr := ⟨_, rfl⟩
              obtain ⟨gn, cn, rfl, _⟩ := own_some ho (by omega)
              have HOK := Lib.hid hok
              have HO := Lib.hid ho
              have HBK := Lib.hid hbk
              have hszo := hbk.size
              have HCUR := Lib.hid (HNN.out k hok)
              have HCL := Lib.hid (HLN.out k)
              clear hok ho hbk
              by_cases hlt : (k : Int) < n
              · have HSTEP : Hid (itCok l cs (k + 1) = (stepC l (itC l cs k)).all smallC) := by show (itCok l cs k && _) = _; rw [HOK.out]; rfl
                have HNEXT : Hid (itC l cs (k + 1) = stepC l (itC l cs k)) := rfl
                have HSL := Lib.hid (stepC_length l (itC l cs k))
                have HST := Lib.hid (stepC_take l (itC l cs k))
                have HTB := Lib.hid (cTo_bound H1.out HCUR.out)
                have HCT : Hid (∀ q t, cTo l (itC l cs k) q (t + 1) = cTo l (itC l cs k) q t + at2 (matL l) q t * (itC l cs k).getD t 0) := fun q t => rfl
                have HIK := Lib.hid (Eq.refl (itC l cs k))
                generalize itC l cs k = cur at HO HCUR HCL HSTEP HNEXT HSL HST HTB HCT HIK ⊢
                go_wp2_with fail
                go_loopw [13, 58] (fun o j w' => ∃ (q : Nat), q ≤ l.length ∧ j = .int .i64 q ∧ w'.ownsRow wo.heap.size 3 1 o q (ints ((stepC l cur).take q)) ∧ ((stepC l cur).take q).all smallC = true ∧ Below wo.heap.size wo w') (fun _ j _ => l.length - (intOf j).toNat)
                case atStart => exact ⟨0, by omega, rfl, own_made0 _ _ _ (Nat.le_refl _), rfl, (Below.refl _ _).alloc (Nat.le_refl _) _⟩
                case round =>
                  obtain ⟨q, hq, rfl, hoq, haq, hbq⟩ := hrel
                  obtain ⟨wi, rfl⟩ : ∃ x : World, x = wr := ⟨_, rfl⟩
                  obtain ⟨Aq, cpq, rfl⟩ := own_slice hoq
                  have HOQ := Lib.hid hoq
                  have HAQ := Lib.hid haq
                  have HBQ := Lib.hid hbq
                  have hszi := hbq.size
                  have HB3I : Hid (Below w3.heap.size w3 wi) := HBK.out.trans (hbq.mono hszo)
                  have HOI := Lib.hid (own_below HO.out hbq)
                  clear hoq haq hbq
                  by_cases hltq : q < l.length
                  · obtain ⟨b2, o2, c2, r1, r2⟩ := HROWS.out q hltq
                    have g1 : wi.cell? ⟨bm, om + q, none⟩ = some (.slice (some ⟨b2, o2, none⟩) l.length c2) := (HB3I.out.cell (p := ⟨bm, om + q, none⟩) (World.block_lt_of_cell? w3 _ r1)).trans r1
                    have HR2 := Lib.hid r2
                    clear r1 r2
                    go_wp2_with fail
                    go_loop [16, 64] (fun s t => ∃ (p : Nat), p ≤ l.length ∧ t = .int .i64 p ∧ s = .int .i64 (cTo l cur q p)) (fun _ t => l.length - (intOf t).toNat)
                    case atStart => exact ⟨0, by omega, rfl, rfl⟩
                    case round =>
                      obtain ⟨p, hp, rfl, rfl⟩ := hrel
                      obtain ⟨t1, t2⟩ := HTB.out q hltq p hp
                      by_cases hltp : p < l.length
                      · have x1 := HR2.out p hltp
                        have g2 : wi.cell? ⟨b2, o2 + p, none⟩ = some (.int .i64 (at2 (matL l) q p)) := (HB3I.out.cell (p := ⟨b2, o2 + p, none⟩) (World.block_lt_of_cell? w3 _ x1)).trans x1
                        have g3 := own_ints_at HOI.out HCL.out p hltp
                        obtain ⟨s1, s2⟩ := mul_nat (matL_small H1.out q p hltq hltp) (HCUR.out p hltp)
                        simp only [List.getD_eq_getElem?_getD] at s1 s2 g3
                        clear x1
                        go_wp2_with fail
                        go_round
                        case rel => exact ⟨p + 1, by omega, by go_num, rfl⟩
                        case measure => simp [intOf]; omega
                      · have hpl : p = l.length := by omega
                        by_cases hbig : cTo l cur q p ≤ 1000000000000
                        · have db : decide ((1000000000000 : Int) < cTo l cur q p) = false := by simpa using hbig
                          have HSM : Hid (smallC (cTo l cur q p) = true) := by show decide (cTo l cur q p ≤ 1000000000000) = true; simpa using hbig
                          have HPL := Lib.hid hpl
                          clear hpl
                          go_wp2_with (at_builtin
                                       refine wpList_append1 _ rfl (.tmp 80) (.tmp 82) _ rfl wo.heap.size 3 i0 _ 8 Try.underlying32 hi0 hz0 hz1 hz2 rfl _ q _ rfl HOQ.out (.int .i64 (cTo l cur q p)) rfl rfl (by unfold maxLen; omega) (by omega) hszi ?_
                                       intro v' w5 hown5 hbel5
                                       have HOW := Lib.hid hown5
                                       have HBE := Lib.hid hbel5
                                       clear hown5 hbel5)
                          go_roundw
                          case rel =>
                            have e := HST.out q hltq
                            rw [← HPL.out] at e
                            refine ⟨q + 1, by omega, by go_num, ?_, ?_, HBQ.out.trans HBE.out⟩
                            · rw [e, ints_snoc]; exact HOW.out
                            · rw [e, List.all_append, HAQ.out]
                              simp [HSM.out]
                          case measure => simp [intOf]; omega
                        · have db : decide ((1000000000000 : Int) < cTo l cur q p) = true := by simp; omega
                          have HNO : Hid (caOk l cs n = false) := by
                            show caOk l cs n = false
                            have e1 : itCok l cs (k + 1) = false := by
                              rw [HSTEP.out]
                              refine lall_no _ q (by rw [HSL.out]; exact hltq) ?_
                              rw [stepC_at]
                              unfold smallC
                              rw [← hpl]
                              exact decide_eq_false hbig
                            have e2 := itCok_mono e1 (n.toNat - (k + 1))
                            rw [show k + 1 + (n.toNat - (k + 1)) = n.toNat from by omega] at e2
                            rw [HPRE.out, e2, Bool.and_false]
                          clear hpl
                          go_wp2_with fail
                          go_ret2
                          exact intsSaid_no (caR_no HNO.out) HNO.out (HB3.out.trans (HB3I.out.mono HB3.out.size))
                  · have hql : q = l.length := by omega
                    have HNE : Hid (wi.ownsRow wo.heap.size 3 1 (.slice Aq q cpq) l.length (ints (itC l cs (k + 1)))) := by
                      have h5 := HOQ.out
                      rw [hql, List.take_of_length_le (by rw [HSL.out]; exact Nat.le_refl _)] at h5
                      rw [HNEXT.out, hql]
                      exact h5
                    have HOK2 : Hid (itCok l cs (k + 1) = true) := by
                      have h5 := HAQ.out
                      rw [hql, List.take_of_length_le (by rw [HSL.out]; exact Nat.le_refl _)] at h5
                      show itCok l cs (k + 1) = true
                      rw [HSTEP.out, h5]
                    clear hql
                    go_wp2_with fail
                    go_roundw
                    case rel => exact ⟨k + 1, by omega, by go_num, HOK2.out, own_mono HNE.out hszo, HB3I.out⟩
                    case measure => simp [intOf]; omega
              · have hkn : n = (k : Int) := by omega
                have HYES : Hid (caOk l cs n = true) := by show caOk l cs n = true; rw [HPRE.out, HALL.out, hkn, Int.toNat_natCast, HOK.out]; rfl
                have HV : Hid (caR l cs n = itC l cs k) := by show caR l cs n = itC l cs k; unfold caR; rw [if_pos HYES.out, hkn, Int.toNat_natCast]
                clear hkn
                go_wp2_with fail
                go_ret2
                refine ⟨_, by rw [HYES.out]; rfl, ?_, HB3.out.trans (HBK.out.mono HB3.out.size)⟩
                rw [HV.out, HCL.out]
                exact own_mono HO.out HB3.out.size
      · have d1 : (decide ((0 : Int) ≤ n) && decide (n ≤ (40 : Int))) = false := by simp; omega
        have HN : Hid (caOk l cs n = false) := by show caOk l cs n = false; unfold caOk; rw [d1]; simp
        clear h3 h2
        go_enter Try.func21, Try.ntmps21
        go_wp2_with fail
        refine (specSubstOk l _ _ HL.out HZ.out hn).mono ?_
        rintro e w1 ⟨rfl, hb1⟩
        have HB1 : Hid (Below w.heap.size w w1) := HB0.out.trans (hb1.mono (by simp))
        have c0 : w1.cell? ⟨w.heap.size, 0, none⟩ = some (.slice A l.length cp) := (hb1.cell (p := ⟨w.heap.size, 0, none⟩) (by simp)).trans (by go_simp)
        clear hb1
        go_wp2_with fail
        refine (specIn _ _ _ _).mono ?_
        rintro e w' ⟨rfl, rfl⟩
        go_wp2_with fail
        go_ret2
        exact intsSaid_no (caR_no HN.out) HN.out HB1.out
    · have b2 : ((cs.length : Int) != (l.length : Int)) = true := by rw [bne_iff_ne]; omega
      have HN : Hid (caOk l cs n = false) := by show caOk l cs n = false; unfold caOk; rw [decide_eq_false h2]; simp
      clear h2
      go_enter Try.func21, Try.ntmps21
      go_wp2_with fail
      refine (specSubstOk l _ _ HL.out HZ.out hn).mono ?_
      rintro e w1 ⟨rfl, hb1⟩
      have HB1 : Hid (Below w.heap.size w w1) := HB0.out.trans (hb1.mono (by simp))
      have c0 : w1.cell? ⟨w.heap.size, 0, none⟩ = some (.slice A l.length cp) := (hb1.cell (p := ⟨w.heap.size, 0, none⟩) (by simp)).trans (by go_simp)
      clear hb1
      go_wp2_with fail
      go_ret2
      exact intsSaid_no (caR_no HN.out) HN.out HB1.out
  · have h1' : substB l = false := by simpa using h1
    have HN : Hid (caOk l cs n = false) := by show caOk l cs n = false; unfold caOk; rw [h1']; simp
    clear h1
    go_enter Try.func21, Try.ntmps21
    go_wp2_with fail
    refine (specSubstOk l _ _ HL.out HZ.out hn).mono ?_
    rintro e w1 ⟨rfl, hb1⟩
    have HB1 : Hid (Below w.heap.size w w1) := HB0.out.trans (hb1.mono (by simp))
    clear hb1
    go_wp2_with fail
    go_ret2
    exact intsSaid_no (caR_no HN.out) HN.out HB1.out
end Go.Proofs.Ytbbcdeknnfghkaa
