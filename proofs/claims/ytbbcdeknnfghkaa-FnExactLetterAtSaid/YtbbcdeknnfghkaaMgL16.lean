/- Texts put together. -/
import Derived.Test.YtbbcdeknnfghkaaMgL11
import Derived.Test.YtbbcdeknnfghkaaMgL15
import Derived.Test.YtbbcdeknnfghkaaMgL4
import Derived.Test.YtbbcdeknnfghkaaMgL12
import Derived.OwnWalk
import Derived.Lib.AppendStr
import Derived.Laws.EntriesVeiled
import Derived.Test.YtbbcdeknnfghkaaMgL14
import Derived.OwnWalkIn
import Derived.TacticsInMore
import Derived.LoopNIn
import Derived.LoopIn
import Derived.Sort.LoopGhostIn
import Derived.Deep.DeepCutAuto
import Derived.Deep.CutBlock
import Derived.Deep.LoopGhost
/- hasFirst, hasImages and SubstOk of the program. Conditions: lengths of at most 2^20. -/
namespace Go.Proofs.Ytbbcdeknnfghkaa
open Go.RowKit

theorem letterAt (n j : Int) (w : World) (h : n = 97 + j) (h1 : 0 ≤ j) (h2 : j ≤ 3) :
    Calls Try.prog 72 #[.int .u8 n] w fun e w' => e = .returned (.int .i64 j) ∧ w = w' := by
  have h3 : 97 ≤ n := by omega
  have h4 : n ≤ 100 := by omega
  have HJ := Lib.hid (show n - 97 = j by omega)
  clear h h1 h2
  go_enter Try.func72, Try.ntmps72
  go_wp2
  go_ret
  exact ⟨ret_int HJ.out, rfl⟩

set_option maxHeartbeats 400000 in
theorem implHasFirst (n : Nat) (s : ByteArray) (w : World) (_ : n ≤ 1048576) (hs : s.size ≤ 1048576) :
    Calls Try.prog 85 #[.string s, .int .i64 n] w fun e w' => e = .returned (.bool (wordB s && withinB n s)) ∧ Below w.heap.size w w' := by
  by_cases h : wordB s = true
  · have h400 := word_size h
    have HW := Lib.hid (word_at h)
    have HR : Hid ((wordB s && withinB n s) = withinB n s) := by show (wordB s && withinB n s) = withinB n s; rw [h]; rfl
    go_enter Try.func85, Try.ntmps85
    go_wp2_with fail
    refine (implOk s _ hs).mono ?_
    rintro e w1 ⟨rfl, hb1⟩
    have HB1 := Lib.hid hb1
    clear hb1
    go_wp2_with fail
    go_loop [11] (fun i => ∃ k : Nat, k ≤ s.size ∧ i = .int .i64 k ∧ (s.data.toList.take k).all (fun c => decide (c.toNat < 97 + n)) = true) (fun i => s.size - (intOf i).toNat)
    case atStart => exact ⟨0, Nat.zero_le _, rfl, rfl⟩
    case round =>
      obtain ⟨k, hk, rfl, ha⟩ := hrel
      have HA := Lib.hid ha
      clear ha
      by_cases hlt : k < s.size
      · obtain ⟨p1, p2⟩ := HW.out k hlt
        obtain ⟨j, hj, hj3⟩ : ∃ j : Nat, s[k].toNat = 97 + j ∧ j ≤ 3 := ⟨s[k].toNat - 97, by omega, by omega⟩
        have HLI := Lib.hid (fun w => letterAt (s[k].toNat : Int) (j : Int) w (by omega) (by omega) (by omega))
        by_cases hc : s[k].toNat < 97 + n
        · have hge : ¬ ((n : Int) ≤ (j : Int)) := by omega
          have d1 : decide ((n : Int) ≤ (j : Int)) = false := by simpa using hge
          have HC := Lib.hid hc
          clear hc p1 p2 hj
          go_wp2_with (go_at_call 72; refine (HLI.out _).mono ?_; rintro e w' ⟨rfl, rfl⟩)
          go_round
          case rel => exact ⟨k + 1, by omega, by go_num, all_snoc s k hlt HA.out (by simpa using HC.out)⟩
          case measure => simp [intOf]; omega
        · have hge : (n : Int) ≤ (j : Int) := by omega
          have d1 : decide ((n : Int) ≤ (j : Int)) = true := by simpa using hge
          have HN : Hid (withinB n s = false) := by
            show withinB n s = false
            exact all_not s k hlt (by simpa using hc)
          clear hc p1 p2 hj
          go_wp2_with (go_at_call 72; refine (HLI.out _).mono ?_; rintro e w' ⟨rfl, rfl⟩)
          go_ret
          exact ⟨ret_bool (by first | rw [HR.out, HN.out] | exact HN.out.symm), HB1.out⟩
      · have hk' : k = s.size := by omega
        have HY : Hid (withinB n s = true) := by
          have := HA.out
          rw [hk', take_all s _ (Nat.le_refl _)] at this
          exact this
        clear hk'
        go_wp2_with fail
        go_ret
        exact ⟨ret_bool (by first | rw [HR.out, HY.out] | exact HY.out.symm), HB1.out⟩
  · have h' : wordB s = false := by simpa using h
    have HR : Hid ((wordB s && withinB n s) = false) := by show (wordB s && withinB n s) = false; rw [h']; rfl
    clear h
    go_enter Try.func85, Try.ntmps85
    go_wp2_with fail
    refine (implOk s _ hs).mono ?_
    rintro e w1 ⟨rfl, hb1⟩
    go_wp2_with fail
    go_ret
    exact ⟨ret_bool HR.out.symm, hb1⟩

theorem implHasImages (A : Option Addr) (n cp : Nat) (s : ByteArray) (w : World) (hn : n ≤ 1048576) (hs : s.size ≤ 1048576) :
    Calls Try.prog 56 #[.agg #[.slice A n cp], .string s] w fun e w' => e = .returned (.bool (wordB s && withinB n s)) ∧ Below w.heap.size w w' := by
  go_enter Try.func56, Try.ntmps56
  go_wp2_with fail
  refine (implHasFirst n s _ hn hs).mono ?_
  rintro e w1 ⟨rfl, hb1⟩
  have hb0 : Below w.heap.size w (w.alloc (.cells #[.slice A n cp] 24)) := (Below.refl _ _).alloc (Nat.le_refl _) _
  have HB := Lib.hid (hb0.trans (hb1.mono (by simp)))
  clear hb0 hb1
  go_wp2_with fail
  go_ret
  exact ⟨rfl, HB.out⟩

theorem size_zero {s : ByteArray} (h : s.size = 0) : s = ⟨#[]⟩ := by
  apply bytes_ext
  rw [ByteArray.toList_eq, ByteArray.toList_eq]
  exact List.eq_nil_of_length_eq_zero (by simpa using h)

set_option maxHeartbeats 1000000 in
theorem implSubstOkL (l : List ByteArray) (v : Value) (w : World) (h : Lst w v (strs l)) (hz : ∀ x ∈ l, x.size ≤ 1048576) (hn : l.length ≤ 2097152) :
    Calls Try.prog 44 #[.agg #[v]] w fun e w' => e = .returned (.bool (substB l)) ∧ Below w.heap.size w w' := by
  obtain ⟨A, cp, rfl⟩ := lst_slice h
  rw [strs_length] at h ⊢
  by_cases hl : 1 ≤ l.length ∧ l.length ≤ 4
  · obtain ⟨hl1, hl4⟩ := hl
    have d1 : decide ((l.length : Int) < 1) = false := by simp; omega
    have d2 : decide ((4 : Int) < (l.length : Int)) = false := by simp; omega
    have hb0 : Below w.heap.size w (w.alloc (.cells #[.slice A l.length cp] 24)) := (Below.refl _ _).alloc (Nat.le_refl _) _
    obtain ⟨A', c', he, hc1, hc2, h1⟩ := h.below hb0
    rw [strs_length] at he hc1
    injection he with hA _ hc
    subst hA; subst hc
    replace h1 := h1.resolve_left (by
      intro e
      have := congrArg List.length e
      rw [strs_length] at this
      simp only [List.length_nil] at this
      omega)
    obtain ⟨b, off, rfl, h1⟩ := h1
    have H1 := Lib.hid (strs_at h1)
    have HZ := Lib.hid hz
    have HB := Lib.hid hb0
    clear h1 hz hc2 hc1 h hb0
    go_enter Try.func44, Try.ntmps44
    go_wp2_with fail
    go_loopw [18] (fun i w' => ∃ k : Nat, k ≤ l.length ∧ i = .int .i64 k ∧ (l.take k).all (imgB l.length) = true ∧ Below (w.heap.size + 1) (w.alloc (.cells #[.slice (some ⟨b, off, none⟩) l.length cp] 24)) w') (fun i _ => l.length - (intOf i).toNat)
    case atStart => exact ⟨0, Nat.zero_le _, rfl, rfl, Below.refl _ _⟩
    case round =>
      obtain ⟨k, hk, rfl, ha, hbk⟩ := hrel
      have HA := Lib.hid ha
      have HBK := Lib.hid hbk
      have hszw : w.heap.size + 1 ≤ wr.heap.size := by have := hbk.size; simpa using this
      have hcw : wr.cell? ⟨w.heap.size, 0, none⟩ = some (.slice (some ⟨b, off, none⟩) l.length cp) := (hbk.cell (p := ⟨w.heap.size, 0, none⟩) (by simp)).trans (by rw [World.cell?_alloc_at _ _ _ _ rfl]; rfl)
      clear ha hbk
      have HE : Hid (Below w.heap.size w wr) := HB.out.trans (HBK.out.mono (by omega))
      by_cases hlt : k < l.length
      · have g1 : wr.cell? ⟨b, off + k, none⟩ = some (.string l[k]) := by
          have hc := H1.out k hlt
          have hlt := World.block_lt_of_cell? _ _ hc
          exact (HBK.out.cell (p := ⟨b, off + k, none⟩) (by simpa using hlt)).trans hc
        have hsz := HZ.out _ (List.getElem_mem hlt)
        by_cases c1 : l[k].size = 0
        · have HN := Lib.hid (subst_no k hlt (img_no1 (by omega)))
          have e1 : (l[k].toList == []) = true := by rw [size_zero c1, ByteArray.toList_eq]; rfl
          clear c1
          go_wp2_with fail
          go_ret
          exact ⟨ret_bool HN.out.symm, HE.out⟩
        · have e1 : (l[k].toList == []) = false := by
            rw [beq_eq_false_iff_ne]
            intro h
            apply c1
            have e : l[k] = ⟨#[]⟩ := bytes_ext (by rw [h, ByteArray.toList_eq])
            rw [e]
            rfl
          by_cases c2 : 8 < l[k].size
          · have HN := Lib.hid (subst_no k hlt (img_no1 (by omega)))
            have e2 : decide ((8 : Int) < l[k].size) = true := by simp; omega
            clear c1
            go_wp2_with fail
            go_ret
            exact ⟨ret_bool HN.out.symm, HE.out⟩
          · have e2 : decide ((8 : Int) < l[k].size) = false := by simp; omega
            have HHI := Lib.hid (fun w => implHasImages (some ⟨b, off, none⟩) l.length cp l[k] w (by omega) hsz)
            by_cases c3 : (wordB l[k] && withinB l.length l[k]) = true
            · have HI : Hid (imgB l.length l[k] = true) := by
                show imgB l.length l[k] = true
                rw [Bool.and_eq_true] at c3
                exact img_yes (by omega) (by omega) c3.1 c3.2
              clear c1
              go_wp2_with fail
              refine (HHI.out _).mono ?_
              rintro e w2 ⟨rfl, hb2⟩
              have HB2 := Lib.hid hb2
              clear hb2
              go_wp2_with fail
              go_roundw
              case rel => exact ⟨k + 1, by omega, by go_num, lall_snoc l k hlt HA.out HI.out, HBK.out.trans (HB2.out.mono hszw)⟩
              case measure => simp [intOf]; omega
            · have HN : Hid (substB l = false) := by
                show substB l = false
                refine subst_no k hlt ?_
                by_cases q : wordB l[k] = true
                · exact img_no3 (by simpa [q] using c3)
                · exact img_no2 (by simpa using q)
              have c3' : (wordB l[k] && withinB l.length l[k]) = false := by simpa only [Bool.not_eq_true] using c3
              clear c1 c3
              go_wp2_with fail
              refine (HHI.out _).mono ?_
              rintro e w2 ⟨rfl, hb2⟩
              have HB2 := Lib.hid hb2
              clear hb2
              go_wp2_with fail
              go_ret
              exact ⟨ret_bool HN.out.symm, HE.out.trans (HB2.out.mono (by omega))⟩
      · have hk' : k = l.length := by omega
        have HY := Lib.hid (subst_yes hl1 hl4 (hk' ▸ HA.out))
        clear hk'
        go_wp2_with fail
        go_ret
        exact ⟨ret_bool HY.out.symm, HE.out⟩
  · have HN := Lib.hid (subst_len hl)
    have hb0 : Below w.heap.size w (w.alloc (.cells #[.slice A l.length cp] 24)) := (Below.refl _ _).alloc (Nat.le_refl _) _
    have HB := Lib.hid hb0
    by_cases hl1 : l.length < 1
    · have d1 : decide ((l.length : Int) < 1) = true := by simp; omega
      clear hl h hz hb0
      go_enter Try.func44, Try.ntmps44
      go_wp2_with fail
      go_ret
      exact ⟨ret_bool HN.out.symm, HB.out⟩
    · have d1 : decide ((l.length : Int) < 1) = false := by simp; omega
      have d2 : decide ((4 : Int) < (l.length : Int)) = true := by simp; omega
      clear h hz hb0
      go_enter Try.func44, Try.ntmps44
      go_wp2_with fail
      go_ret
      exact ⟨ret_bool HN.out.symm, HB.out⟩

theorem implSubstOk (l : List ByteArray) (v : Value) (w : World) (h : Lst w v (strs l)) (hz : ∀ x ∈ l, x.size ≤ 1048576) (hn : l.length ≤ 1048576) :
    Calls Try.prog 44 #[.agg #[v]] w fun e w' => e = .returned (.bool (substB l)) ∧ Below w.heap.size w w' := implSubstOkL l v w h hz (by omega)
end Go.Proofs.Ytbbcdeknnfghkaa

/- The program's table of closures, one an image, and what they write. Condition: the substitution is valid. -/
namespace Go.Proofs.Ytbbcdeknnfghkaa
open Go.RowKit

/-- one more cell of L laid over the old cells zs -/
theorem lay_set (L zs : List Value) (k : Nat) (hk : k < L.length) (hz : zs.length = L.length) : (L.take k ++ zs.drop k).set k L[k] = L.take (k + 1) ++ zs.drop (k + 1) := by
  have hd : zs.drop k = zs[k]'(by omega) :: zs.drop (k + 1) := List.drop_eq_getElem_cons _
  have hlk : (L.take k).length = k := by rw [List.length_take]; omega
  rw [List.take_succ_eq_append_getElem hk, hd, List.set_append_right _ _ (by omega), hlk, Nat.sub_self, List.set_cons_zero, List.append_assoc]
  rfl
theorem lay_get (L zs : List Value) (k : Nat) (hk : k < L.length) (hz : zs.length = L.length) : ∃ u, (L.take k ++ zs.drop k)[k]? = some u :=
  ⟨(L.take k ++ zs.drop k)[k]'(by rw [List.length_append, List.length_take, List.length_drop]; omega), List.getElem?_eq_getElem _⟩
theorem lay_end (L zs : List Value) (hz : zs.length = L.length) : L.take L.length ++ zs.drop L.length = L := by
  rw [List.take_length, List.drop_of_length_le (by omega), List.append_nil]

/-- the closure that appends the text at p -/
def clo (p : Nat) : Value := .func (.func 86) #[] #[.pointer (some ⟨p, 0, none⟩)]
/-- at g lies the table of the images l, the images at S and on -/
def ImgTab (w : World) (S g : Nat) (l : List ByteArray) : Prop := ∀ k (hk : k < l.length), w.cell? ⟨g, k, none⟩ = some (clo (S + k)) ∧ w.cell? ⟨S + k, 0, none⟩ = some (.string l[k])
theorem ImgTab.below {w w' : World} {S g : Nat} {l : List ByteArray} (h : ImgTab w S g l) (hb : Below w.heap.size w w') : ImgTab w' S g l := fun k hk =>
  ⟨(hb.cell (World.block_lt_of_cell? w _ (h k hk).1)).trans (h k hk).1, (hb.cell (World.block_lt_of_cell? w _ (h k hk).2)).trans (h k hk).2⟩

theorem implAppendText (s : ByteArray) (p B : Nat) (v : Value) (n : Nat) (xs : List UInt8) (w : World) (hc : w.cell? ⟨p, 0, none⟩ = some (.string s)) (hown : w.ownsRow B 5 1 v n (byteCells xs)) (hn : n ≤ 1048576) (hs : s.size ≤ 1048576) (hB : B ≤ w.heap.size) :
    Calls Try.prog 86 #[v, .pointer (some ⟨p, 0, none⟩)] w fun e w' => ∃ v', e = .returned v' ∧ w'.ownsRow B 5 1 v' (n + s.size) (byteCells (xs ++ s.data.toList)) ∧ w.grownBy w' v.ownBlock := by
  obtain ⟨i0, hi0, hz0, hz1, hz2⟩ := info_parts u8_info
  obtain ⟨A, cp, rfl⟩ := own_slice hown
  have HO := Lib.hid hown
  clear hown
  go_enter Try.func86, Try.ntmps86
  go_wp2_with (at_builtin; refine Lib.wpList_append_own_string _ rfl (.tmp 4) (.tmp 5) 59 9 rfl B 5 i0 Try.underlying59 Try.underlying9 hi0 hz0 hz1 hz2 _ n _ rfl HO.out s rfl (by unfold maxLen; omega) (by omega) hB ?_; intro v' w' hown' hgrow _)
  have HW := Lib.hid hown'
  have HG := Lib.hid hgrow
  clear hown' hgrow
  go_ret
  refine ⟨_, rfl, ?_, HG.out⟩
  have := HW.out
  unfold byteCells at this ⊢
  rwa [List.map_append]

theorem fn_info : (Try.prog.info? 94).map (fun i => (i.zero, i.size, i.bytes)) = some (some .nilFunc, 1, 8) := by kernel_rfl
def clos (S n : Nat) : List Value := (List.range n).map fun j => clo (S + j)
theorem clos_length (S n : Nat) : (clos S n).length = n := by simp [clos]
theorem clos_at (S n k : Nat) (h : k < (clos S n).length) : (clos S n)[k] = clo (S + k) := by simp [clos]

set_option maxHeartbeats 400000 in
theorem implTableAt (l : List ByteArray) (v : Value) (w : World) (h : Lst w v (strs l)) (hl1 : 1 ≤ l.length) (hl4 : l.length ≤ 4) :
    Calls Try.prog 57 #[.agg #[v]] w fun e w' => ∃ g S, w.heap.size ≤ g ∧ w.heap.size ≤ S ∧ e = .returned (.slice (some ⟨g, 0, none⟩) l.length l.length) ∧ ImgTab w' S g l ∧ Below w.heap.size w w' := by
  obtain ⟨i0, hi0, hz0, hz1, hz2⟩ := info_parts fn_info
  obtain ⟨b, off, cp, rfl, hat⟩ := lst_at h (by omega)
  have H1 := Lib.hid hat
  clear h hat
  have hb0 : Below w.heap.size w (w.alloc (.cells #[.slice (some ⟨b, off, none⟩) l.length cp] 24)) := (Below.refl _ _).alloc (Nat.le_refl _) _
  have hbw := World.block_lt_of_cell? w _ (H1.out 0 (by omega))
  go_enter Try.func57, Try.ntmps57
  go_wp2_with (at_make; refine wpList_make_full _ rfl _ _ 65 rfl (w.heap.size + 1) 94 i0 .nilFunc 1 Try.underlying65 hi0 hz0 hz1 .i64 .i64 _ _ l.length rfl rfl rfl rfl (by rw [hz2]; omega) (by unfold maxLen; omega) (by simp) ?_; intro w1 hown hgrow; have c0 : w1.cell? ⟨w.heap.size, 0, none⟩ = some (.slice (some ⟨b, off, none⟩) l.length cp) := (hgrow.cell (a := ⟨w.heap.size, 0, none⟩) (by rw [World.cell?_alloc_at _ _ _ _ rfl]; rfl) (by simp)))
  have HB1 : Hid (Below w.heap.size w w1) := hb0.grown hgrow (by simp) (fun k hk => by cases hk)
  have hsz1 : w.heap.size + 2 ≤ w1.heap.size := by
    have h1 := (hown.lt (w.heap.size + 1) (by simp [Value.ownBlock])).2
    omega
  have HS : Hid (∃ S, S = w1.heap.size) := ⟨_, rfl⟩
  have HZL : Hid (((madeCells Value.nilFunc.cells (l.length * 1)).toList).length = (clos w1.heap.size l.length).length) := by
    have := hown.1
    unfold Hid
    rw [clos_length]
    omega
  have HCL := Lib.hid (clos_length w1.heap.size l.length)
  have HCA := Lib.hid (clos_at w1.heap.size l.length)
  generalize (madeCells Value.nilFunc.cells (l.length * 1)).toList = zs at hown HZL
  generalize hLL : clos w1.heap.size l.length = L at HZL HCL HCA
  clear hLL hgrow hb0 HS
  go_loopw [13] (fun i wr => ∃ k : Nat, k ≤ l.length ∧ i = .int .i64 k ∧ wr.heap.size = w1.heap.size + k ∧ wr.ownsRow (w.heap.size + 1) 94 1 (.slice (some ⟨w.heap.size + 1, 0, none⟩) l.length l.length) l.length (L.take k ++ zs.drop k) ∧ (∀ j (_ : j < k) (hj : j < l.length), wr.cell? ⟨w1.heap.size + j, 0, none⟩ = some (.string l[j])) ∧ Below w.heap.size w wr) (fun i _ => l.length - (intOf i).toNat)
  case atStart => exact ⟨0, by omega, rfl, by omega, by simpa using hown, fun j hj => absurd hj (by omega), HB1.out⟩
  case round =>
    obtain ⟨k, hk, rfl, hsk, ho, hcs, hbk⟩ := hrel
    have HCS := Lib.hid hcs
    clear hcs
    by_cases hlt : k < l.length
    · have hkL : k < L.length := by rw [HCL.out]; exact hlt
      obtain ⟨u, hu⟩ := lay_get L zs k hkL HZL.out
      have g1 : wr.cell? ⟨b, off + k, none⟩ = some (.string l[k]) := (hbk.cell (p := ⟨b, off + k, none⟩) hbw).trans (H1.out k hlt)
      have g2 := (ho.cellAt k (by omega)).trans hu
      have g3 := ho.frozenAt k
      have hgl := (ho.lt (w.heap.size + 1) (by simp [Value.ownBlock])).2
      have HSK := Lib.hid hsk
      clear hu hsk
      go_wp2_with fail
      go_roundw
      case rel =>
        refine ⟨k + 1, by omega, by go_num, by simp [HSK.out]; omega, ?_, ?_, ?_⟩
        · have := (ho.stored k (clo (w1.heap.size + k))).1
          rw [← HCA.out k hkL, lay_set L zs k hkL HZL.out] at this
          rw [HCA.out k hkL] at this
          have h2 := this.alloc (.cells #[.string l[k]] 9)
          rw [← HSK.out] at h2
          exact h2
        · intro j hj hj'
          by_cases e : j = k
          · subst e
            rw [← HSK.out]
            go_simp
          · have := HCS.out j (by omega) hj'
            have hne : w1.heap.size + j < wr.heap.size := by rw [HSK.out]; omega
            go_simp
        · exact (hbk.setCell (by simp) _).alloc (by simp; omega) _
      case measure => simp [intOf]; omega
    · have hkl : k = l.length := by omega
      have HT : Hid (ImgTab wr (w1.heap.size) (w.heap.size + 1) l) := by
        intro j hj
        refine ⟨?_, HCS.out j (by omega) hj⟩
        have e : L.take k ++ zs.drop k = L := by rw [hkl, ← HCL.out]; exact lay_end L zs HZL.out
        have ho := ho
        rw [e] at ho
        have hjL : j < L.length := by rw [HCL.out]; exact hj
        rw [← HCA.out j hjL]
        have := ho.cellAt j (by omega)
        exact this.trans (List.getElem?_eq_getElem hjL)
      go_wp2_with fail
      go_ret
      exact ⟨_, _, by omega, by omega, rfl, HT.out, hbk⟩
theorem implTable (l : List ByteArray) (v : Value) (w : World) (h : Lst w v (strs l)) (hl1 : 1 ≤ l.length) (hl4 : l.length ≤ 4) :
    Calls Try.prog 57 #[.agg #[v]] w fun e w' => ∃ g S, e = .returned (.slice (some ⟨g, 0, none⟩) l.length l.length) ∧ ImgTab w' S g l ∧ Below w.heap.size w w' :=
  (implTableAt l v w h hl1 hl4).mono fun _ _ ⟨g, S, _, _, he, ht, hb⟩ => ⟨g, S, he, ht, hb⟩

set_option maxHeartbeats 400000 in
theorem implWrite (l : List ByteArray) (g S cp : Nat) (s : ByteArray) (w : World) (ht : ImgTab w S g l) (hl : substB l = true) (hs : wordB s = true) (hw : withinB l.length s = true) :
    Calls Try.prog 58 #[.slice (some ⟨g, 0, none⟩) l.length cp, .string s] w fun e w' => e = .returned (.string (stepS l s)) ∧ Below w.heap.size w w' := by
  obtain ⟨hl1, hl4, hl5⟩ := subst_parts hl
  have HI := Lib.hid hl5
  have h400 := word_size hs
  have HW := Lib.hid (word_at hs)
  have HN := Lib.hid (within_at hw)
  have HT : Hid (ImgTab w S g l) := ht
  clear hl hs hw ht hl5
  go_enter Try.func58, Try.ntmps58
  go_wp2_with fail
  go_loopw [5, 9] (fun o i w' => ∃ (k n : Nat), k ≤ s.size ∧ i = .int .i64 k ∧ n ≤ 8 * k ∧ n = (applyL l (s.data.toList.take k)).length ∧ w'.ownsRow w.heap.size 5 1 o n (byteCells (applyL l (s.data.toList.take k))) ∧ Below w.heap.size w w') (fun _ i _ => s.size - (intOf i).toNat)
  case atStart => exact ⟨0, 0, Nat.zero_le _, rfl, by omega, rfl, World.ownsRow_nil _ _ _ _, Below.refl _ _⟩
  case round =>
    obtain ⟨k, n, hk, rfl, hn, hnl, ho, hb⟩ := hrel
    obtain ⟨A, cp', rfl⟩ := own_slice ho
    have HNL := Lib.hid hnl
    clear hnl
    by_cases hlt : k < s.size
    · obtain ⟨p1, p2⟩ := HW.out k hlt
      have p3 := HN.out k hlt
      obtain ⟨j, hj, hj3⟩ : ∃ j : Nat, s[k].toNat = 97 + j ∧ j ≤ 3 := ⟨s[k].toNat - 97, by omega, by omega⟩
      have hjl : j < l.length := by omega
      have hsj := (img_parts (HI.out j hjl)).2.1
      have HLI := Lib.hid (fun w => letterAt (s[k].toNat : Int) (j : Int) w (by omega) (by omega) (by omega))
      have g1 := (ImgTab.below HT.out hb j hjl).1
      unfold clo at g1
      have HAP := Lib.hid (implAppendText l[j] (S + j) w.heap.size (.slice A n cp') n _ wr (ImgTab.below HT.out hb j hjl).2 ho (by omega) (by omega) hb.size)
      have HS := Lib.hid (applyL_succ l s k hlt)
      have HIM := Lib.hid (imgOf_at l s[k] j hj hjl)
      have HO := Lib.hid ho
      have HB := Lib.hid hb
      clear p1 p2 p3 hj ho hb
      go_wp2_with (go_at_call 72; refine (HLI.out _).mono ?_; rintro e w' ⟨rfl, rfl⟩)
      refine HAP.out.mono ?_
      rintro e w2 ⟨v', rfl, ho2, hg2⟩
      obtain ⟨A2, cp2, rfl⟩ := own_slice ho2
      have HO2 := Lib.hid ho2
      have HB2 : Hid (Below w.heap.size w w2) := HB.out.grown hg2 HB.out.size (fun k hk => (HO.out.lt k hk).1)
      clear ho2 hg2
      go_wp2_with fail
      go_roundw
      case rel =>
        have e1 : applyL l (s.data.toList.take (k + 1)) = applyL l (s.data.toList.take k) ++ l[j].data.toList := by rw [HS.out, HIM.out]
        refine ⟨k + 1, n + l[j].size, by omega, by go_num, by omega, ?_, ?_, HB2.out⟩
        · rw [e1, List.length_append, ← HNL.out]; simp
        · rw [e1]; exact HO2.out
      case measure => simp [intOf]; omega
    · have hk' : k = s.size := by omega
      subst hk'
      have hconv := conv_own_to Try.underlying63 ho
      rw [take_all s _ (Nat.le_refl _)] at hconv
      have HB := Lib.hid hb
      clear ho hb
      go_wp2_with fail
      go_ret
      exact ⟨rfl, HB.out⟩
end Go.Proofs.Ytbbcdeknnfghkaa

/- The letters of the fixed point: the program's iterator. Condition: the substitution is valid, its letter growing. -/
namespace Go.Proofs.Ytbbcdeknnfghkaa
open Go.RowKit
attribute [local go_sem] Oper.semAt_some

/-- the i-th letter of the fixed point -/
def fixB (l : List ByteArray) (k i : Nat) : UInt8 := (fixL l k (i + 1)).getD i 97
def encFix (l : List ByteArray) (k i : Nat) : Value := .int .u8 ((fixB l k i).toNat : Int)
section
variable {l : List ByteArray} {k : Nat} (hl : substB l = true) (hk : k < l.length) (hg : growB l k = true)
include hl hk hg
theorem fixB_at (m i : Nat) (h : i < (applyL l (fixL l k m)).length) : (applyL l (fixL l k m))[i] = fixB l k i := by
  have e := pre_take hl hk hg (build_pre m) (i + 1) (by omega)
  unfold fixB
  rw [← e, List.getD_eq_getElem?_getD, List.getElem?_take_of_lt (by omega), List.getElem?_eq_getElem h]
  rfl
theorem fixL_snoc (i : Nat) : fixL l k (i + 1) = fixL l k i ++ [fixB l k i] := by
  have e := pre_take hl hk hg (fixL_pre l k (i + 1)) i (by rw [fixL_length hl hk hg]; omega)
  have h := fixL_length hl hk hg (i + 1)
  have h2 : i < (fixL l k (i + 1)).length := by omega
  have h3 : fixL l k (i + 1) = (fixL l k (i + 1)).take (i + 1) := (List.take_of_length_le (by omega)).symm
  rw [h3, List.take_succ_eq_append_getElem h2, e]
  congr 2
  unfold fixB
  rw [List.getD_eq_getElem?_getD, List.getElem?_eq_getElem h2]
  rfl
theorem fix_step (i : Nat) (h : 1 ≤ i) : ∃ (j : Nat) (hj : j < l.length), (fixB l k i).toNat = 97 + j ∧ applyL l (fixL l k (i + 1)) = applyL l (fixL l k i) ++ l[j].data.toList := by
  obtain ⟨i', rfl⟩ : ∃ i', i = i' + 1 := ⟨i - 1, by omega⟩
  obtain ⟨h1, j, hj, h2, h3⟩ := build_step hl hk hg i'
  exact ⟨j, hj, by rw [← fixB_at hl hk hg (i' + 1) (i' + 1) h1]; exact h2, h3⟩
theorem fixL_len8 (m : Nat) : (applyL l (fixL l k m)).length ≤ 8 * m := by
  have := applyL_le hl (fixL l k m)
  rwa [fixL_length hl hk hg] at this
end

set_option maxRecDepth 100000 in
set_option maxHeartbeats 1000000 in
theorem fixStreams (l : List ByteArray) (k : Nat) (X : Nat → Prop) (N pt pg g cp S : Nat) (w : World) (hl : substB l = true) (hk : k < l.length) (hg : growB l k = true) (hN : N ≤ 10002)
    (hpg : w.cell? ⟨pg, 0, none⟩ = some (.int .u8 (97 + (k : Int)))) (hpt : w.cell? ⟨pt, 0, none⟩ = some (.slice (some ⟨g, 0, none⟩) l.length cp))
    (hat : ImgTab w S g l) (hx1 : ¬ X pt) (hx2 : ¬ X g) (hx3 : ∀ j, j < l.length → ¬ X (S + j)) (hx4 : ∀ q, w.heap.size ≤ q → ¬ X q) :
    Streams Try.prog 96 #[.pointer (some ⟨pt, 0, none⟩), .pointer (some ⟨pg, 0, none⟩)] (encFix l k) X True N w := by
  intro lp J Jx W hW hl1 hl2 hab hy h0
  obtain ⟨hm1, hm4, hm5⟩ := subst_parts hl
  have c1 := (hW.cell (World.block_lt_of_cell? w _ hpg)).trans hpg
  have c2 := (hW.cell (World.block_lt_of_cell? w _ hpt)).trans hpt
  have n2 : pt ≠ lp ∧ pt < W.heap.size := by have : pt < w.heap.size := World.block_lt_of_cell? w ⟨pt, 0, none⟩ hpt; omega
  have HAT : Hid (ImgTab W S g l) := hat.below hW
  have n3 : g ≠ lp ∧ g < W.heap.size := by have : g < w.heap.size := World.block_lt_of_cell? w ⟨g, 0, none⟩ (hat 0 (by omega)).1; omega
  have n4 : Hid (∀ j, j < l.length → S + j ≠ lp ∧ S + j < W.heap.size) := fun j hj => by have : S + j < w.heap.size := World.block_lt_of_cell? w ⟨S + j, 0, none⟩ (hat j hj).2; omega
  have n5 : Hid (∀ q, W.heap.size ≤ q → ¬ (X q ∨ q = lp)) := fun q hq h => by
    have := hW.size
    rcases h with h | h
    · exact hx4 q (by omega) h
    · omega
  have HY := Lib.hid hy
  have HC2 := Lib.hid c2
  have HAB := Lib.hid hab
  have g0 := (HAT.out k hk).1
  have g1 := (HAT.out k hk).2
  have HI := Lib.hid hm5
  have HX3 := Lib.hid hx3
  have HX4 := Lib.hid hx4
  unfold clo at g0
  have hsk := (img_parts (hm5 k hk)).2.1
  have e1 := build_one hl hk hg
  have HLI := Lib.hid (fun w => letterAt (97 + (k : Int)) (k : Int) w (by omega) (by omega) (by omega))
  have HAP := Lib.hid (implAppendText l[k] (S + k) W.heap.size (.slice none 0 0) 0 [] W.drew g1 (World.ownsRow_nil _ _ _ _) (by omega) (by omega) (by simp))
  have b1 : (k : Int) < (l.length : Int) := by omega
  clear hpg hpt hat hl1 hl2 hab hy hm5 hx3 hx4
  refine callsIn_of_wp Try.func96 rfl trivial ?_ rfl
  simp only [Try.ntmps96, List.size_toArray, List.length_cons, List.length_nil, Nat.reduceAdd, Nat.reduceSub, Array.replicate_succ, Array.replicate_zero, List.push_toArray, List.append_toArray, List.nil_append, List.cons_append]
  refine wpIn_wide.2 ?_
  go_upto_region 0 with (fail)
  go_cut [4] (fun o wx => wx.ownsRow W.heap.size 5 1 o (applyL l (fixL l k 1)).length (byteCells (applyL l (fixL l k 1))) ∧ Kept (fun _ => False) W wx)
  case first =>
    go_region_with (first
      | (go_at_call 72; refine (HLI.out _).mono ?_; rintro e w' ⟨rfl, rfl⟩)
      | (refine HAP.out.mono ?_; rintro e w1 ⟨v1, rfl, ho1, hg1⟩))
    all_goals
      go_wp2_with fail
      go_meet
      refine ⟨?_, ((Kept.refl _ W).drew).grown hg1 (fun q e => by cases e)⟩
      rw [e1]
      have := ho1
      simp only [Nat.zero_add, List.nil_append] at this
      rw [show l[k].data.toList.length = l[k].size by simp]
      exact this
  case rest =>
    obtain ⟨ho0, hk0⟩ := hcut
    obtain ⟨wx, rfl⟩ : ∃ x : World, x = wc := ⟨_, rfl⟩
    clear g0 g1 HAP HLI b1 e1 c1
    have HK0 : Hid (Kept (fun q => (X q ∨ q = lp) ∨ W.heap.size ≤ q) W wx) := hk0.mono fun _ h => h.elim
    have HJ0 : Hid (J 0 wx) := HAB.out 0 W wx h0 (hk0.mono fun _ h => h.elim)
    have HO0 := Lib.hid ho0
    have HB1 := Lib.hid (fun m i h => fixB_at hl hk hg m i h)
    have HB2 := Lib.hid (fun i => build_long hl hk hg i)
    have HB3 := Lib.hid (fun i h => fix_step hl hk hg i h)
    have HB8 := Lib.hid (fun m => fixL_len8 hl hk hg m)
    have HS0 := Lib.hid hk0.size
    clear ho0 hk0 h0 hsk
    go_wp2_with fail
    go_loopg [4, 5] N (fun mm o ix wr => ∃ i m, i + mm = N ∧ ((i = 0 ∧ m = 1) ∨ (1 ≤ i ∧ m = i)) ∧ ix = .int .i64 (i : Int) ∧ wr.ownsRow W.heap.size 5 1 o (applyL l (fixL l k m)).length (byteCells (applyL l (fixL l k m))) ∧ J i wr ∧ Kept (fun q => (X q ∨ q = lp) ∨ W.heap.size ≤ q) W wr)
    case atStart => exact ⟨0, 1, by omega, .inl ⟨rfl, rfl⟩, rfl, HO0.out, HJ0.out, HK0.out⟩
    case round =>
      obtain ⟨i, m, him, hmi, rfl, ho, hj, hkp⟩ := hrel
      obtain ⟨hlt, fn, tmps, assign, body, hy, hR⟩ := HY.out i _ hj
      have hlen : i < (applyL l (fixL l k m)).length := by
        rcases hmi with h | h
        · have := HB2.out 0
          rw [h.2]
          rw [show 0 + 1 = 1 from rfl] at this
          omega
        · have := HB2.out (i - 1)
          rw [show i - 1 + 1 = m by omega] at this
          omega
      have hfb := HB1.out m i hlen
      have h8 := HB8.out m
      have HM : Hid (m ≤ i + 1) := by show m ≤ i + 1; omega
      have HHIM := Lib.hid him
      have HR := Lib.hid hR
      have HKP := Lib.hid hkp
      have HPF : Hid (1 ≤ i → ∃ (j : Nat) (hj : j < l.length), (fixB l k i).toNat = 97 + j ∧ applyL l (fixL l k (i + 1)) = applyL l (fixL l k i) ++ l[j].data.toList) := HB3.out i
      unfold encFix at hy
      have HP : Hid (∃ p, applyL l (fixL l k m) = p) := ⟨_, rfl⟩
      obtain ⟨p, hp⟩ := HP.out
      rw [hp] at hlen ho h8
      have hpi : p[i] = fixB l k i := by rw [← hfb]; congr 1; exact hp.symm
      have HPP := Lib.hid hp
      clear hfb hR hkp hp HP
      obtain ⟨gr, cp', rfl, hcap⟩ := own_some ho (by omega)
      have gi := ho.cells (g := gr) rfl i (.int .u8 (p[i].toNat : Int)) (by simp [byteCells, List.getElem?_eq_getElem hlen])
      rw [hpi, Addr.add_lit, Nat.zero_add] at gi
      have hgr : W.heap.size ≤ gr := (ho.lt gr (by simp [Value.ownBlock])).1
      have HO := Lib.hid ho
      have bi : (i : Int) < (p.length : Int) := by omega
      have HNX : Hid (∀ q, (Value.slice (some ⟨gr, 0, none⟩) p.length cp').ownBlock = some q → ¬ (X q ∨ q = lp)) := fun q e => by
        simp [Value.ownBlock] at e
        exact n5.out q (by omega)
      have hiN : i ≤ 10002 := by omega
      rcases hmi with hi | hi
      · have HI0 := Lib.hid hi
        have d1 : ¬ 0 < i := by omega
        have d2 : decide (0 < i) = false := by simp; omega
        clear hi ho him
        refine (wpIn_wide (n := 8)).1 ?_
        gi_wp2
        refine HR.out.mono ?_
        rintro e W3 (⟨rfl, hJ3, hk3⟩ | ⟨rfl, hJx3⟩)
        · have HO3 : Hid (W3.ownsRow W.heap.size 5 1 (.slice (some ⟨gr, 0, none⟩) p.length cp') p.length (byteCells p)) := hk3.row HO.out HNX.out
          have HK3 : Hid (Kept (fun q => (X q ∨ q = lp) ∨ W.heap.size ≤ q) W W3) := HKP.out.trans (hk3.mono fun q h => .inl h)
          have HJ3 := Lib.hid hJ3
          clear hk3 hJ3
          gi_wp2
          go_roundg (gk - 1)
          case rel =>
            obtain ⟨h1, h2⟩ := HI0.out
            have h3 := HHIM.out
            refine ⟨i + 1, m, by omega, .inr ⟨by omega, by omega⟩, by go_num, ?_, HJ3.out, HK3.out⟩
            rw [HPP.out]
            exact HO3.out
          case measure => have h3 := HHIM.out; omega
        · gi_wp2
          go_end0
          exact ⟨⟨_, rfl⟩, hJx3⟩
      · have HI0 := Lib.hid hi
        obtain ⟨j, hjl, hbj, hnext⟩ := HPF.out hi.1
        have d1 : 0 < i := hi.1
        have d2 : decide (0 < i) = true := by simp; omega
        have HNEXT : Hid (applyL l (fixL l k (m + 1)) = p ++ l[j].data.toList) := by
          show _ = _
          rw [hi.2, hnext, ← hi.2, HPP.out]
        have hsj := (img_parts (HI.out j hjl)).2.1
        have HBJ := Lib.hid hbj
        clear hi ho him hnext hbj
        refine (wpIn_wide (n := 8)).1 ?_
        gi_wp2
        refine HR.out.mono ?_
        rintro e W3 (⟨rfl, hJ3, hk3⟩ | ⟨rfl, hJx3⟩)
        · have ho3 : W3.ownsRow W.heap.size 5 1 (.slice (some ⟨gr, 0, none⟩) p.length cp') p.length (byteCells p) := hk3.row HO.out HNX.out
          have HK3 : Hid (Kept (fun q => (X q ∨ q = lp) ∨ W.heap.size ≤ q) W W3) := HKP.out.trans (hk3.mono fun q h => .inl h)
          have HJ3 := Lib.hid hJ3
          have gi3 := ho3.cells (g := gr) rfl i (.int .u8 (p[i].toNat : Int)) (by simp [byteCells, List.getElem?_eq_getElem hlen])
          rw [hpi, Addr.add_lit, Nat.zero_add] at gi3
          have t3 : W3.cell? ⟨pt, 0, none⟩ = some (.slice (some ⟨g, 0, none⟩) l.length cp) := HK3.out.cell HC2.out (by simp [hx1]; omega)
          have t4 := HK3.out.cell (HAT.out j hjl).1 (by simp [hx2]; omega)
          have t5 := HK3.out.cell (HAT.out j hjl).2 (by have := n4.out j hjl; simp [HX3.out j hjl]; omega)
          unfold clo at t4
          have hs3 : W.heap.size ≤ W3.heap.size := HK3.out.size
          have HLI := Lib.hid (fun w => letterAt ((fixB l k i).toNat : Int) (j : Int) w (by have := HBJ.out; omega) (by omega) (by omega))
          have HAP := Lib.hid (implAppendText l[j] (S + j) W.heap.size (.slice (some ⟨gr, 0, none⟩) p.length cp') p.length p W3.drew t5 ho3.drew (by have := HM.out; omega) (by omega) (by simpa using hs3))
          have bj : (j : Int) < (l.length : Int) := by omega
          clear hk3 hJ3 ho3
          gi_wp2
          refine wpIn_wide.2 ?_
          go_region_with (first
            | (go_at_call 72; refine (HLI.out _).mono ?_; rintro e w' ⟨rfl, rfl⟩)
            | (refine HAP.out.mono ?_; rintro e w1 ⟨v1, rfl, ho1, hg1⟩))
          all_goals
            have HOX := Lib.hid ho1
            have HKX : Hid (Kept (fun q => W.heap.size ≤ q) W3 w1) := ((Kept.refl _ W3).drew).grown hg1 (fun q e => (HO.out.lt q e).1)
            clear ho1 hg1 t3 t4 t5 gi3
            go_wp2_with fail
            gi_wp2
            go_roundg (gk - 1)
            case rel =>
              obtain ⟨h1, h2⟩ := HI0.out
              have h3 := HHIM.out
              refine ⟨i + 1, m + 1, by omega, .inr ⟨by omega, by omega⟩, by go_num, ?_, HAB.out _ _ _ HJ3.out (HKX.out.mono fun q h => ⟨trivial, h⟩), HK3.out.trans (HKX.out.mono fun q h => .inr h)⟩
              rw [HNEXT.out, List.length_append, show l[j].data.toList.length = l[j].size by simp]
              exact HOX.out
            case measure => have h3 := HHIM.out; omega
        · gi_wp2
          go_end0
          exact ⟨⟨_, rfl⟩, hJx3⟩
end Go.Proofs.Ytbbcdeknnfghkaa
