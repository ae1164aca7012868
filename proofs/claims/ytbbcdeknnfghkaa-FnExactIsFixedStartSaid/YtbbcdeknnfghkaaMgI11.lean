/- Texts put together. -/
import Derived.Test.YtbbcdeknnfghkaaMgI7
import Derived.Test.YtbbcdeknnfghkaaMgI10
import Derived.Test.YtbbcdeknnfghkaaChecked
import Derived.Test.YtbbcdeknnfghkaaMgI1
import Derived.Laws.IdiomStrings
import Derived.Test.YtbbcdeknnfghkaaMgI5
import Derived.IntWalk
/- SubstOk of the model, and what it asks of each image. Conditions: lengths of at most 2^20. -/
namespace Go.Proofs.Ytbbcdeknnfghkaa
open Go.RowKit

theorem specIn (x a b : Int) (w : World) :
    Calls Try.prog 49 #[.int .i64 x, .int .i64 a, .int .i64 b] w fun e w' => e = .returned (.bool (decide (a ≤ x) && decide (x ≤ b))) ∧ w = w' := by
  by_cases h1 : a ≤ x
  · have hd1 : decide (a ≤ x) = true := by simpa using h1
    go_enter Try.func49, Try.ntmps49
    go_wp2
    go_ret
    exact ⟨ret_bool (by simp [h1]), rfl⟩
  · have hd1 : decide (a ≤ x) = false := by simpa using h1
    go_enter Try.func49, Try.ntmps49
    go_wp2
    go_ret
    exact ⟨ret_bool (by simp), rfl⟩

set_option maxHeartbeats 400000 in
theorem specWithin (n : Nat) (s : ByteArray) (w : World) (_ : n ≤ 1048576) (h : wordB s = true) :
    Calls Try.prog 54 #[.int .i64 n, .string s] w fun e w' => e = .returned (.bool (withinB n s)) ∧ w = w' := by
  have hs := word_size h
  have HW := Lib.hid (word_at h)
  clear h
  go_enter Try.func54, Try.ntmps54
  go_wp2
  go_loop [5] (fun i => ∃ k : Nat, k ≤ s.size ∧ i = .int .i64 k ∧ (s.data.toList.take k).all (fun c => decide (c.toNat < 97 + n)) = true) (fun i => s.size - (intOf i).toNat)
  case atStart => exact ⟨0, Nat.zero_le _, rfl, rfl⟩
  case round =>
    obtain ⟨k, hk, rfl, ha⟩ := hrel
    have HA := Lib.hid ha
    clear ha
    by_cases hlt : k < s.size
    · obtain ⟨p1, p2⟩ := HW.out k hlt
      have p1' : (97 : Int) ≤ s[k].toNat := by omega
      have p2' : (s[k].toNat : Int) ≤ 100 := by omega
      clear p1 p2
      by_cases hc : s[k].toNat < 97 + n
      · have hge : ¬ ((n : Int) ≤ (s[k].toNat : Int) - 97) := by omega
        have HC := Lib.hid hc
        clear hc
        go_wp2
        go_round
        case rel => exact ⟨k + 1, by omega, by go_num, all_snoc s k hlt HA.out (by simpa using HC.out)⟩
        case measure => simp [intOf]; omega
      · have hge : (n : Int) ≤ (s[k].toNat : Int) - 97 := by omega
        have HN : Hid (withinB n s = false) := by
          show withinB n s = false
          exact all_not s k hlt (by simpa using hc)
        clear hc
        go_wp2
        go_ret
        exact ⟨ret_bool HN.out.symm, rfl⟩
    · have hk' : k = s.size := by omega
      subst hk'
      have HY : Hid (withinB n s = true) := by
        have := HA.out
        rw [take_all s _ (Nat.le_refl _)] at this
        exact this
      go_wp2
      go_ret
      exact ⟨ret_bool HY.out.symm, rfl⟩

set_option maxHeartbeats 1000000 in
theorem specSubstOk (l : List ByteArray) (v : Value) (w : World) (h : Lst w v (strs l)) (hz : ∀ x ∈ l, x.size ≤ 1048576) (hn : l.length ≤ 1048576) :
    Calls Try.prog 46 #[.agg #[v]] w fun e w' => e = .returned (.bool (substB l)) ∧ Below w.heap.size w w' := by
  obtain ⟨A, cp, rfl⟩ := lst_slice h
  rw [strs_length] at h ⊢
  by_cases hl : 1 ≤ l.length ∧ l.length ≤ 4
  · obtain ⟨hl1, hl4⟩ := hl
    have d1 : decide ((1 : Int) ≤ l.length) = true := by simp; omega
    have d2 : decide ((l.length : Int) ≤ 4) = true := by simp; omega
    have hb0 : Below w.heap.size w (w.alloc (.cells #[.slice A l.length cp] 24)) := (Below.refl _ _).alloc (Nat.le_refl _) _
    obtain ⟨A', c', he, hc1, hc2, h1⟩ := h.below hb0
    rw [strs_length] at he hc1
    injection he with hA _ hc
    subst hA; subst hc
    replace h1 := h1.resolve_left (by
      intro e
      have := congrArg List.length e
      rw [strs_length] at this
      simp only [List.length_nil] at this
      omega)
    obtain ⟨b, off, rfl, h1⟩ := h1
    have H1 := Lib.hid (strs_at h1)
    have HZ := Lib.hid hz
    have HB := Lib.hid hb0
    clear h1 hz hc2 hc1 h hb0
    go_enter Try.func46, Try.ntmps46
    go_wp2_with (go_at_call 49; refine (specIn _ _ _ _).mono ?_; rintro e w' ⟨rfl, rfl⟩)
    go_loop [15] (fun i => ∃ k : Nat, k ≤ l.length ∧ i = .int .i64 k ∧ (l.take k).all (imgB l.length) = true) (fun i => l.length - (intOf i).toNat)
    case atStart => exact ⟨0, Nat.zero_le _, rfl, rfl⟩
    case round =>
      obtain ⟨k, hk, rfl, ha⟩ := hrel
      have HA := Lib.hid ha
      clear ha
      by_cases hlt : k < l.length
      · have g1 := H1.out k hlt
        have hsz := HZ.out _ (List.getElem_mem hlt)
        by_cases c1 : 1 ≤ l[k].size ∧ l[k].size ≤ 8
        · obtain ⟨c1, c2⟩ := c1
          have e1 : decide ((1 : Int) ≤ l[k].size) = true := by simp; omega
          have e2 : decide ((l[k].size : Int) ≤ 8) = true := by simp; omega
          by_cases c3 : wordB l[k] = true
          · have HWI := Lib.hid (fun w => specWithin l.length l[k] w (by omega) c3)
            by_cases c4 : withinB l.length l[k] = true
            · have HI := Lib.hid (img_yes c1 c2 c3 c4)
              go_wp2_with (first
                | (go_at_call 49; refine (specIn _ _ _ _).mono ?_; rintro e w' ⟨rfl, rfl⟩)
                | (go_at_call 53; refine (specWordOk _ _).mono ?_; rintro e w' ⟨rfl, rfl⟩)
                | (go_at_call 54; refine (HWI.out _).mono ?_; rintro e w' ⟨rfl, rfl⟩))
              go_round
              case rel => exact ⟨k + 1, by omega, by go_num, lall_snoc l k hlt HA.out HI.out⟩
              case measure => simp [intOf]; omega
            · have c4' : withinB l.length l[k] = false := by simpa using c4
              have HN := Lib.hid (subst_no k hlt (img_no3 c4'))
              clear c4
              go_wp2_with (first
                | (go_at_call 49; refine (specIn _ _ _ _).mono ?_; rintro e w' ⟨rfl, rfl⟩)
                | (go_at_call 53; refine (specWordOk _ _).mono ?_; rintro e w' ⟨rfl, rfl⟩)
                | (go_at_call 54; refine (HWI.out _).mono ?_; rintro e w' ⟨rfl, rfl⟩))
              go_ret
              exact ⟨ret_bool HN.out.symm, HB.out⟩
          · have c3' : wordB l[k] = false := by simpa using c3
            have HN := Lib.hid (subst_no k hlt (img_no2 c3'))
            clear c3
            go_wp2_with (first
              | (go_at_call 49; refine (specIn _ _ _ _).mono ?_; rintro e w' ⟨rfl, rfl⟩)
              | (go_at_call 53; refine (specWordOk _ _).mono ?_; rintro e w' ⟨rfl, rfl⟩))
            go_ret
            exact ⟨ret_bool HN.out.symm, HB.out⟩
        · have HN := Lib.hid (subst_no k hlt (img_no1 c1))
          have e1 : (decide ((1 : Int) ≤ l[k].size) && decide ((l[k].size : Int) ≤ 8)) = false := by simp; omega
          clear c1
          go_wp2_with (go_at_call 49; refine (specIn _ _ _ _).mono ?_; rintro e w' ⟨rfl, rfl⟩)
          go_ret
          exact ⟨ret_bool HN.out.symm, HB.out⟩
      · have hk' : k = l.length := by omega
        have HY := Lib.hid (subst_yes hl1 hl4 (hk' ▸ HA.out))
        clear hk'
        go_wp2
        go_ret
        exact ⟨ret_bool HY.out.symm, HB.out⟩
  · have HN := Lib.hid (subst_len hl)
    have hb0 : Below w.heap.size w (w.alloc (.cells #[.slice A l.length cp] 24)) := (Below.refl _ _).alloc (Nat.le_refl _) _
    have d1 : (decide ((1 : Int) ≤ l.length) && decide ((l.length : Int) ≤ 4)) = false := by simp; omega
    have HB := Lib.hid hb0
    clear hl h hz hb0
    go_enter Try.func46, Try.ntmps46
    go_wp2_with (go_at_call 49; refine (specIn _ _ _ _).mono ?_; rintro e w' ⟨rfl, rfl⟩)
    go_ret
    exact ⟨ret_bool HN.out.symm, HB.out⟩
end Go.Proofs.Ytbbcdeknnfghkaa

/- A row of bytes of the call's own: its conversion to a text. -/
namespace Go.Proofs.Ytbbcdeknnfghkaa
open Go.RowKit

def byteCells (l : List UInt8) : List Value := l.map fun b => .int .u8 (b.toNat : Int)
theorem byteCells_length (l : List UInt8) : (byteCells l).length = l.length := by simp [byteCells]
theorem byteCells_snoc (l : List UInt8) (b : UInt8) : byteCells (l ++ [b]) = byteCells l ++ [.int .u8 (b.toNat : Int)] := by simp [byteCells]
theorem byteCells_one (l : List UInt8) : ∀ u ∈ byteCells l, u.oneCell' = true := by
  intro u hu
  simp only [byteCells, List.mem_map] at hu
  obtain ⟨b, _, rfl⟩ := hu
  rfl
theorem u8_info : (Try.prog.info? 5).map (fun i => (i.zero, i.size, i.bytes)) = some (some (.int .u8 0), 1, 1) := by kernel_rfl
theorem conv_own_to {ts : TypeId} (hts : Try.prog.underlying ts = some .string) {w : World} {B n : Nat} {v : Value} {l : List UInt8} (h : w.ownsRow B 5 1 v n (byteCells l)) :
    (convert 59 ts v).run Try.prog w = .ok (.string ⟨l.toArray⟩) w := by
  have hl := h.1
  rw [Nat.mul_one, byteCells_length] at hl
  subst hl
  rcases h.2 with ⟨rfl, hn⟩ | ⟨g, cap, cur, rfl, _, _, _, _, _, _⟩
  · have e := List.eq_nil_of_length_eq_zero hn
    subst e
    rw [run_convert_bytes_string w _ _ _ none 0 0 Try.underlying59 Try.underlying5 hts]
    simp [Conv.bytesToString]
    rfl
  · refine run_convert_bytes_back w _ _ _ _ _ l Try.underlying59 Try.underlying5 hts (fun j hj => ?_)
    exact h.cells (g := g) rfl j _ (by simp [byteCells, hj])
theorem conv_own {w : World} {B n : Nat} {v : Value} {l : List UInt8} (h : w.ownsRow B 5 1 v n (byteCells l)) :
    (convert 59 9 v).run Try.prog w = .ok (.string ⟨l.toArray⟩) w := conv_own_to Try.underlying9 h
/-- one more byte of L laid over the old cells zs -/
theorem byteCells_set (L : List UInt8) (zs : List Value) (k : Nat) (hk : k < L.length) (hz : zs.length = L.length) :
    (byteCells (L.take k) ++ zs.drop k).set k (.int .u8 (L[k].toNat : Int)) = byteCells (L.take (k + 1)) ++ zs.drop (k + 1) := by
  have hd : zs.drop k = zs[k]'(by omega) :: zs.drop (k + 1) := List.drop_eq_getElem_cons _
  have hlk : (byteCells (L.take k)).length = k := by rw [byteCells_length, List.length_take]; omega
  rw [List.take_succ_eq_append_getElem hk, hd, List.set_append_right _ _ (by omega), hlk, Nat.sub_self, List.set_cons_zero, byteCells_snoc, List.append_assoc]
  rfl
theorem byteCells_get (L : List UInt8) (zs : List Value) (k : Nat) (hk : k < L.length) (hz : zs.length = L.length) : ∃ u, (byteCells (L.take k) ++ zs.drop k)[k]? = some u :=
  ⟨(byteCells (L.take k) ++ zs.drop k)[k]'(by rw [List.length_append, byteCells_length, List.length_take, List.length_drop]; omega), List.getElem?_eq_getElem _⟩
theorem byteCells_end (L : List UInt8) (zs : List Value) (hz : zs.length = L.length) : byteCells (L.take L.length) ++ zs.drop L.length = byteCells L := by
  rw [List.take_length, List.drop_of_length_le (by omega), List.append_nil]

set_option maxRecDepth 100000 in
/-- a text turned into a new row of bytes -/
theorem conv_text (w : World) (s : ByteArray) {ts : TypeId} (hts : Try.prog.underlying ts = some .string) :
    ∃ c wc, (convert ts 59 (.string s)).run Try.prog w = .ok (.slice (some ⟨w.heap.size, 0, none⟩) s.size c) wc ∧ Below w.heap.size w wc ∧ w.heap.size < wc.heap.size ∧ ∀ (j : Nat) (u : Value), (byteCells s.data.toList)[j]? = some u → wc.cell? ⟨w.heap.size, j, none⟩ = some u := by
  refine ⟨_, _, run_bytes_of_string w _ _ 5 s hts Try.underlying59 Try.underlying5, ((Below.refl _ _).drew).alloc (Nat.le_refl _) _, by simp, fun j u hu => ?_⟩
  have hj : j < s.data.size := by
    have := (List.getElem?_eq_some_iff.1 hu).1
    rw [byteCells_length] at this
    simpa using this
  have e : u = .int .u8 (s.data[j].toNat : Int) := by
    simp only [byteCells, List.getElem?_map, Option.map_eq_some_iff] at hu
    obtain ⟨a, ha, rfl⟩ := hu
    rw [Array.getElem?_toList, Array.getElem?_eq_getElem hj] at ha
    injection ha with ha
    rw [ha]
  rw [e, ← bytesRow_at s (grownCap w s.size 0 5) j hj]
  exact cell_of_row _ w.heap.size j (bytesRow s (grownCap w s.size 0 5)) 5 ((bytesRow s (grownCap w s.size 0 5)).size, (bytesRow s (grownCap w s.size 0 5)).size + 1) (by simp [World.alloc, World.drew, -World.alloc_eq, -World.drew_eq])
end Go.Proofs.Ytbbcdeknnfghkaa

/- What the model makes of a word under a substitution. Condition: the substitution and the word are valid. -/
namespace Go.Proofs.Ytbbcdeknnfghkaa
open Go.RowKit

def ApplySaid (l : List ByteArray) (s : ByteArray) (w : World) (e : Ending) (w' : World) : Prop :=
  Below w.heap.size w w' ∧ ∃ r : ByteArray, e = .returned (.string r) ∧ r.size ≤ 408 ∧ ((applyL l s.data.toList).length ≤ 400 → r = ⟨(applyL l s.data.toList).toArray⟩) ∧ (400 < (applyL l s.data.toList).length → 400 < r.size)

theorem lst_at {w : World} {v : Value} {l : List ByteArray} (h : Lst w v (strs l)) (h0 : 0 < l.length) : ∃ b off cap, v = .slice (some ⟨b, off, none⟩) l.length cap ∧ ∀ k (hk : k < l.length), w.cell? ⟨b, off + k, none⟩ = some (.string l[k]) := by
  obtain ⟨A, cap, h1, _, _, h2⟩ := h
  rw [strs_length] at h1
  rcases h2 with h2 | ⟨b, off, rfl, h2⟩
  · have := congrArg List.length h2
    rw [strs_length] at this
    simp only [List.length_nil] at this
    omega
  · exact ⟨b, off, cap, h1, fun k hk => strs_at h2 k hk⟩

set_option maxHeartbeats 1000000 in
theorem specApply (l : List ByteArray) (v : Value) (s : ByteArray) (w : World) (h : Lst w v (strs l)) (hl : substB l = true) (hs : wordB s = true) (hw : withinB l.length s = true) :
    Calls Try.prog 55 #[.agg #[v], .string s] w (ApplySaid l s w) := by
  obtain ⟨i0, hi0, hz0, hz1, hz2⟩ := info_parts u8_info
  obtain ⟨hl1, hl4, hl5⟩ := subst_parts hl
  obtain ⟨b, off, cp, rfl, hat⟩ := lst_at h (by omega)
  have H1 := Lib.hid hat
  have HI := Lib.hid hl5
  have h400 := word_size hs
  have HW := Lib.hid (word_at hs)
  have HN := Lib.hid (within_at hw)
  clear h hl hs hw hat hl5
  go_enter Try.func55, Try.ntmps55
  go_wp2
  go_loopw [5, 6] (fun o i w' => ∃ (k n : Nat), k ≤ s.size ∧ i = .int .i64 k ∧ n ≤ 408 ∧ n = (applyL l (s.data.toList.take k)).length ∧ w'.ownsRow (w.heap.size + 1) 5 1 o n (byteCells (applyL l (s.data.toList.take k))) ∧ Below (w.heap.size + 1) (w.alloc (.cells #[.slice (some ⟨b, off, none⟩) l.length cp] 24)) w') (fun _ i _ => s.size - (intOf i).toNat)
  case atStart =>
    have hz0 : w.heap.size + 1 ≤ (w.alloc (.cells #[.slice (some ⟨b, off, none⟩) l.length cp] 24)).heap.size := by simp
    have hown0 := World.ownsRow_made (e := 5) (size := 1) (w.alloc (.cells #[.slice (some ⟨b, off, none⟩) l.length cp] 24)) #[] 0 hz0 (by simp [maxLen]) (by simp)
    simp only [World.size_alloc] at hown0
    exact ⟨0, 0, Nat.zero_le _, rfl, by omega, rfl, hown0, (Below.refl _ _).alloc hz0 _⟩
  case round =>
    obtain ⟨k, n, hk, rfl, hn, hnl, ho, hb⟩ := hrel
    obtain ⟨A, cp', rfl⟩ := own_slice ho
    have HNL := Lib.hid hnl
    have HB := Lib.hid hb
    have hsz : w.heap.size + 1 ≤ wr.heap.size := by have := hb.size; simpa using this
    clear hnl hb
    by_cases hlt : k < s.size
    · have d1 : decide ((k : Int) < s.size) = true := by simp; omega
      by_cases hle : n ≤ 400
      · have d2 : decide ((n : Int) ≤ 400) = true := by simp; omega
        obtain ⟨p1, p2⟩ := HW.out k hlt
        have p3 := HN.out k hlt
        obtain ⟨j, hj⟩ : ∃ j, s[k].toNat = 97 + j := ⟨s[k].toNat - 97, by omega⟩
        have hjl : j < l.length := by omega
        have q1 : IntKind.u8.wrap ((s[k].toNat : Int) - 97) = (j : Int) := by rw [IntWalk.u8_in _ (by omega)]; omega
        have g0 : wr.cell? ⟨w.heap.size, 0, none⟩ = some (.slice (some ⟨b, off, none⟩) l.length cp) := (HB.out.cell (p := ⟨w.heap.size, 0, none⟩) (by simp)).trans (by rw [World.cell?_alloc_at _ _ _ _ rfl]; rfl)
        have g1 : wr.cell? ⟨b, off + j, none⟩ = some (.string l[j]) := by
          have hc := H1.out j hjl
          have hlt := World.block_lt_of_cell? w _ hc
          refine (HB.out.cell (p := ⟨b, off + j, none⟩) (by simp at hlt ⊢; omega)).trans ?_
          rw [← hc]
          exact ((Below.refl w.heap.size w).alloc (Nat.le_refl _) _).cell (p := ⟨b, off + j, none⟩) hlt
        obtain ⟨c, wc, hrun, hbc, hzc, hcell⟩ := conv_text wr.drew l[j] Try.underlying9
        simp only [World.size_drew] at hrun hzc
        obtain ⟨r1, r2, r3, r4⟩ := img_parts (HI.out j hjl)
        have hown0 := own_below (own_drewN ho 1) hbc
        have HO := Lib.hid hown0
        have HCELL := Lib.hid hcell
        have HBC := Lib.hid hbc
        have HS := Lib.hid (applyL_succ l s k hlt)
        have HIM := Lib.hid (imgOf_at l s[k] j hj hjl)
        have hlj : (byteCells l[j].data.toList).length = l[j].size := by rw [byteCells_length]; simp
        have HLJ := Lib.hid hlj
        clear p1 p2 p3 hj hown0 ho hcell hbc r3 r4 hlj
        go_wp2_with fail
        go_region_law (refine step_own rfl (.tmp 19) (.tmp 28) 59 rfl (w.heap.size + 1) 5 i0 _ 1 Try.underlying59 hi0 hz0 hz1 hz2 rfl _ n _ (by simp [Act.eval]) HO.out ⟨wr.heap.size, 0, none⟩ l[j].size c (byteCells l[j].data.toList) (by simp [Act.eval]) HLJ.out (fun q u hu => by rw [Addr.add_lit, Nat.zero_add]; exact HCELL.out q u hu) (fun u hu => byteCells_one _ u hu) (by unfold maxLen; omega) (by omega) (by omega) ?_; intro v' w' hown' hbel')
        all_goals
          have HOW := Lib.hid hown'
          have HBE := Lib.hid hbel'
          clear hown' hbel'
          go_wp2_with fail
          go_roundw
          case rel =>
            have e1 : applyL l (s.data.toList.take (k + 1)) = applyL l (s.data.toList.take k) ++ l[j].data.toList := by rw [HS.out, HIM.out]
            refine ⟨k + 1, n + l[j].size, by omega, by go_num, by omega, ?_, ?_, ?_⟩
            · rw [e1, List.length_append, ← HNL.out]; simp
            · rw [e1]
              have := HOW.out
              unfold byteCells at this ⊢
              rwa [List.map_append]
            · exact ((below_drewN HB.out 1).trans (HBC.out.mono (by simp; omega))).trans HBE.out
          case measure => simp [intOf]; omega
      · have d2 : decide ((n : Int) ≤ 400) = false := by simp; omega
        have HLE : Hid ((applyL l (s.data.toList.take k)).length ≤ (applyL l s.data.toList).length) := applyL_take_le l _ k
        have hconv := conv_own ho
        clear ho
        go_wp2_with fail
        go_ret
        refine ⟨?_, _, rfl, ?_, ?_, ?_⟩
        · exact ((Below.refl w.heap.size w).alloc (Nat.le_refl _) _).trans (HB.out.mono (by omega))
        · show (applyL l (s.data.toList.take k)).toArray.size ≤ 408
          have := HNL.out
          simp only [List.size_toArray]; omega
        · intro hle'
          have := HNL.out
          have := HLE.out
          omega
        · intro _
          show 400 < (applyL l (s.data.toList.take k)).toArray.size
          have := HNL.out
          simp only [List.size_toArray]; omega
    · have d1 : decide ((k : Int) < s.size) = false := by simp; omega
      have hk' : k = s.size := by omega
      subst hk'
      have hconv := conv_own ho
      rw [take_all s _ (Nat.le_refl _)] at hconv
      have HN2 : Hid (n = (applyL l s.data.toList).length) := by
        have := HNL.out
        rw [take_all s _ (Nat.le_refl _)] at this
        exact this
      clear ho
      go_wp2_with fail
      go_ret
      refine ⟨?_, _, rfl, ?_, ?_, ?_⟩
      · exact ((Below.refl w.heap.size w).alloc (Nat.le_refl _) _).trans (HB.out.mono (by omega))
      · show (applyL l s.data.toList).toArray.size ≤ 408
        have := HN2.out
        simp only [List.size_toArray]; omega
      · exact fun _ => rfl
      · intro h4
        show 400 < (applyL l s.data.toList).toArray.size
        simpa using h4

theorem specApplyShort (l : List ByteArray) (v : Value) (s : ByteArray) (w : World) (h : Lst w v (strs l)) (hl : substB l = true) (hs : wordB s = true) (hw : withinB l.length s = true) (h8 : s.size ≤ 8) :
    Calls Try.prog 55 #[.agg #[v], .string s] w fun e w' => e = .returned (.string (stepS l s)) ∧ Below w.heap.size w w' := by
  refine (specApply l v s w h hl hs hw).mono ?_
  rintro e w' ⟨hb, r, rfl, _, hr, _⟩
  have h2 := applyL_le hl s.data.toList
  have : s.data.toList.length = s.size := by simp
  rw [hr (by omega)]
  exact ⟨rfl, hb⟩
end Go.Proofs.Ytbbcdeknnfghkaa
