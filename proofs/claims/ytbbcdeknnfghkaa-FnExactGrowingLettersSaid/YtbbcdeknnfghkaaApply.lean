/- What the model makes of a word under a substitution. Condition: the substitution and the word are valid. -/
import Derived.Test.YtbbcdeknnfghkaaSubstOk
import Derived.Test.YtbbcdeknnfghkaaBytesOwn
import Derived.Test.YtbbcdeknnfghkaaSubstW
import Derived.Test.YtbbcdeknnfghkaaStepOwn
import Derived.IntWalk
namespace Go.Proofs.Ytbbcdeknnfghkaa
open Go.RowKit

def ApplySaid (l : List ByteArray) (s : ByteArray) (w : World) (e : Ending) (w' : World) : Prop :=
  Below w.heap.size w w' ∧ ∃ r : ByteArray, e = .returned (.string r) ∧ r.size ≤ 408 ∧ ((applyL l s.data.toList).length ≤ 400 → r = ⟨(applyL l s.data.toList).toArray⟩) ∧ (400 < (applyL l s.data.toList).length → 400 < r.size)

theorem lst_at {w : World} {v : Value} {l : List ByteArray} (h : Lst w v (strs l)) (h0 : 0 < l.length) : ∃ b off cap, v = .slice (some ⟨b, off, none⟩) l.length cap ∧ ∀ k (hk : k < l.length), w.cell? ⟨b, off + k, none⟩ = some (.string l[k]) := by
  obtain ⟨A, cap, h1, _, _, h2⟩ := h
  rw [strs_length] at h1
  rcases h2 with h2 | ⟨b, off, rfl, h2⟩
  · have := congrArg List.length h2
    rw [strs_length] at this
    simp only [List.length_nil] at this
    omega
  · exact ⟨b, off, cap, h1, fun k hk => strs_at h2 k hk⟩

set_option maxHeartbeats 1000000 in
theorem specApply (l : List ByteArray) (v : Value) (s : ByteArray) (w : World) (h : Lst w v (strs l)) (hl : substB l = true) (hs : wordB s = true) (hw : withinB l.length s = true) :
    Calls Try.prog 55 #[.agg #[v], .string s] w (ApplySaid l s w) := by
  obtain ⟨i0, hi0, hz0, hz1, hz2⟩ := info_parts u8_info
  obtain ⟨hl1, hl4, hl5⟩ := subst_parts hl
  obtain ⟨b, off, cp, rfl, hat⟩ := lst_at h (by omega)
  have H1 := Lib.hid hat
  have HI := Lib.hid hl5
  have h400 := word_size hs
  have HW := Lib.hid (word_at hs)
  have HN := Lib.hid (within_at hw)
  clear h hl hs hw hat hl5
  go_enter Try.func55, Try.ntmps55
  go_wp2
  go_loopw [5, 6] (fun o i w' => ∃ (k n : Nat), k ≤ s.size ∧ i = .int .i64 k ∧ n ≤ 408 ∧ n = (applyL l (s.data.toList.take k)).length ∧ w'.ownsRow (w.heap.size + 1) 5 1 o n (byteCells (applyL l (s.data.toList.take k))) ∧ Below (w.heap.size + 1) (w.alloc (.cells #[.slice (some ⟨b, off, none⟩) l.length cp] 24)) w') (fun _ i _ => s.size - (intOf i).toNat)
  case atStart =>
    have hz0 : w.heap.size + 1 ≤ (w.alloc (.cells #[.slice (some ⟨b, off, none⟩) l.length cp] 24)).heap.size := by simp
    have hown0 := World.ownsRow_made (e := 5) (size := 1) (w.alloc (.cells #[.slice (some ⟨b, off, none⟩) l.length cp] 24)) #[] 0 hz0 (by simp [maxLen]) (by simp)
    simp only [World.size_alloc] at hown0
    exact ⟨0, 0, Nat.zero_le _, rfl, by omega, rfl, hown0, (Below.refl _ _).alloc hz0 _⟩
  case round =>
    obtain ⟨k, n, hk, rfl, hn, hnl, ho, hb⟩ := hrel
    obtain ⟨A, cp', rfl⟩ := own_slice ho
    have HNL := Lib.hid hnl
    have HB := Lib.hid hb
    have hsz : w.heap.size + 1 ≤ wr.heap.size := by have := hb.size; simpa using this
    clear hnl hb
    by_cases hlt : k < s.size
    · have d1 : decide ((k : Int) < s.size) = true := by simp; omega
      by_cases hle : n ≤ 400
      · have d2 : decide ((n : Int) ≤ 400) = true := by simp; omega
        obtain ⟨p1, p2⟩ := HW.out k hlt
        have p3 := HN.out k hlt
        obtain ⟨j, hj⟩ : ∃ j, s[k].toNat = 97 + j := ⟨s[k].toNat - 97, by omega⟩
        have hjl : j < l.length := by omega
        have q1 : IntKind.u8.wrap ((s[k].toNat : Int) - 97) = (j : Int) := by rw [IntWalk.u8_in _ (by omega)]; omega
        have g0 : wr.cell? ⟨w.heap.size, 0, none⟩ = some (.slice (some ⟨b, off, none⟩) l.length cp) := (HB.out.cell (p := ⟨w.heap.size, 0, none⟩) (by simp)).trans (by rw [World.cell?_alloc_at _ _ _ _ rfl]; rfl)
        have g1 : wr.cell? ⟨b, off + j, none⟩ = some (.string l[j]) := by
          have hc := H1.out j hjl
          have hlt := World.block_lt_of_cell? w _ hc
          refine (HB.out.cell (p := ⟨b, off + j, none⟩) (by simp at hlt ⊢; omega)).trans ?_
          rw [← hc]
          exact ((Below.refl w.heap.size w).alloc (Nat.le_refl _) _).cell (p := ⟨b, off + j, none⟩) hlt
        obtain ⟨c, wc, hrun, hbc, hzc, hcell⟩ := conv_text wr.drew l[j] Try.underlying9
        simp only [World.size_drew] at hrun hzc
        obtain ⟨r1, r2, r3, r4⟩ := img_parts (HI.out j hjl)
        have hown0 := own_below (own_drewN ho 1) hbc
        have HO := Lib.hid hown0
        have HCELL := Lib.hid hcell
        have HBC := Lib.hid hbc
        have HS := Lib.hid (applyL_succ l s k hlt)
        have HIM := Lib.hid (imgOf_at l s[k] j hj hjl)
        have hlj : (byteCells l[j].data.toList).length = l[j].size := by rw [byteCells_length]; simp
        have HLJ := Lib.hid hlj
        clear p1 p2 p3 hj hown0 ho hcell hbc r3 r4 hlj
        go_wp2_with fail
        go_region_law (refine step_own rfl (.tmp 19) (.tmp 28) 59 rfl (w.heap.size + 1) 5 i0 _ 1 Try.underlying59 hi0 hz0 hz1 hz2 rfl _ n _ (by simp [Act.eval]) HO.out ⟨wr.heap.size, 0, none⟩ l[j].size c (byteCells l[j].data.toList) (by simp [Act.eval]) HLJ.out (fun q u hu => by rw [Addr.add_lit, Nat.zero_add]; exact HCELL.out q u hu) (fun u hu => byteCells_one _ u hu) (by unfold maxLen; omega) (by omega) (by omega) ?_; intro v' w' hown' hbel')
        all_goals
          have HOW := Lib.hid hown'
          have HBE := Lib.hid hbel'
          clear hown' hbel'
          go_wp2_with fail
          go_roundw
          case rel =>
            have e1 : applyL l (s.data.toList.take (k + 1)) = applyL l (s.data.toList.take k) ++ l[j].data.toList := by rw [HS.out, HIM.out]
            refine ⟨k + 1, n + l[j].size, by omega, by go_num, by omega, ?_, ?_, ?_⟩
            · rw [e1, List.length_append, ← HNL.out]; simp
            · rw [e1]
              have := HOW.out
              unfold byteCells at this ⊢
              rwa [List.map_append]
            · exact ((below_drewN HB.out 1).trans (HBC.out.mono (by simp; omega))).trans HBE.out
          case measure => simp [intOf]; omega
      · have d2 : decide ((n : Int) ≤ 400) = false := by simp; omega
        have HLE : Hid ((applyL l (s.data.toList.take k)).length ≤ (applyL l s.data.toList).length) := applyL_take_le l _ k
        have hconv := conv_own ho
        clear ho
        go_wp2_with fail
        go_ret
        refine ⟨?_, _, rfl, ?_, ?_, ?_⟩
        · exact ((Below.refl w.heap.size w).alloc (Nat.le_refl _) _).trans (HB.out.mono (by omega))
        · show (applyL l (s.data.toList.take k)).toArray.size ≤ 408
          have := HNL.out
          simp only [List.size_toArray]; omega
        · intro hle'
          have := HNL.out
          have := HLE.out
          omega
        · intro _
          show 400 < (applyL l (s.data.toList.take k)).toArray.size
          have := HNL.out
          simp only [List.size_toArray]; omega
    · have d1 : decide ((k : Int) < s.size) = false := by simp; omega
      have hk' : k = s.size := by omega
      subst hk'
      have hconv := conv_own ho
      rw [take_all s _ (Nat.le_refl _)] at hconv
      have HN2 : Hid (n = (applyL l s.data.toList).length) := by
        have := HNL.out
        rw [take_all s _ (Nat.le_refl _)] at this
        exact this
      clear ho
      go_wp2_with fail
      go_ret
      refine ⟨?_, _, rfl, ?_, ?_, ?_⟩
      · exact ((Below.refl w.heap.size w).alloc (Nat.le_refl _) _).trans (HB.out.mono (by omega))
      · show (applyL l s.data.toList).toArray.size ≤ 408
        have := HN2.out
        simp only [List.size_toArray]; omega
      · exact fun _ => rfl
      · intro h4
        show 400 < (applyL l s.data.toList).toArray.size
        simpa using h4

theorem specApplyShort (l : List ByteArray) (v : Value) (s : ByteArray) (w : World) (h : Lst w v (strs l)) (hl : substB l = true) (hs : wordB s = true) (hw : withinB l.length s = true) (h8 : s.size ≤ 8) :
    Calls Try.prog 55 #[.agg #[v], .string s] w fun e w' => e = .returned (.string (stepS l s)) ∧ Below w.heap.size w w' := by
  refine (specApply l v s w h hl hs hw).mono ?_
  rintro e w' ⟨hb, r, rfl, _, hr, _⟩
  have h2 := applyL_le hl s.data.toList
  have : s.data.toList.length = s.size := by simp
  rw [hr (by omega)]
  exact ⟨rfl, hb⟩
end Go.Proofs.Ytbbcdeknnfghkaa
