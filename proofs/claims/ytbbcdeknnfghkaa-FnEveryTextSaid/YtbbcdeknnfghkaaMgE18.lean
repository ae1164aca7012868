/- Texts put together. -/
import Derived.Test.YtbbcdeknnfghkaaMgE12
import Derived.Test.YtbbcdeknnfghkaaMgE3
import Derived.Test.YtbbcdeknnfghkaaMgE15
import Derived.Test.YtbbcdeknnfghkaaMgE11
import Derived.OwnWalk
import Derived.Lib.AppendStr
import Derived.Laws.EntriesVeiled
/- ApplySubst and IterateSubst of the model. Conditions: lengths of at most 2^20. -/
namespace Go.Proofs.Ytbbcdeknnfghkaa
open Go.RowKit
set_option maxHeartbeats 1000000 in
theorem specIterateSubst (l : List ByteArray) (v : Value) (s : ByteArray) (n : Int) (w : World) (h : Lst w v (strs l)) (hz : ∀ x ∈ l, x.size ≤ 1048576) (hn : l.length ≤ 1048576) (_ : s.size ≤ 1048576) :
    Calls Try.prog 19 #[.agg #[v], .string s, .int .i64 n] w (PairSaid (itR l s n) (itOk l s n) w) := by
  obtain ⟨A, cp, rfl⟩ := lst_slice h
  rw [strs_length] at h ⊢
  have hb0 : Below w.heap.size w (w.alloc (.cells #[.slice A l.length cp] 24)) := (Below.refl _ _).alloc (Nat.le_refl _) _
  have HL := Lib.hid (h.below hb0)
  have HZ := Lib.hid hz
  have HB0 := Lib.hid hb0
  clear h hz hb0
  by_cases h0 : 0 ≤ n ∧ n ≤ 20
  · obtain ⟨d1n, d2n⟩ := h0
    have d1 : decide ((0 : Int) ≤ n) = true := by simpa using d1n
    have d2 : decide (n ≤ (20 : Int)) = true := by simpa using d2n
    by_cases h1 : substB l = true
    · by_cases h2 : wordB s = true
      · have HWI := Lib.hid (fun w => specWithin l.length s w hn h2)
        by_cases h3 : withinB l.length s = true
        · go_enter Try.func19, Try.ntmps19
          go_wp2_with fail
          refine (specIn _ _ _ _).mono ?_
          rintro e w' ⟨rfl, rfl⟩
          go_wp2_with fail
          refine (specSubstOk l _ _ HL.out HZ.out hn).mono ?_
          rintro e w1 ⟨rfl, hb1⟩
          obtain ⟨hc, hf⟩ := below_reads hb1
          have HB1 := Lib.hid hb1
          have HB2 : Hid (Below w.heap.size w w1) := HB0.out.trans (hb1.mono (by simp))
          have hz1 : w.heap.size < w1.heap.size := by have := hb1.size; simp at this; omega
          clear hb1
          go_wp2_with fail
          refine (specWordOk s _).mono ?_
          rintro e w' ⟨rfl, rfl⟩
          go_wp2_with fail
          refine (HWI.out _).mono ?_
          rintro e w' ⟨rfl, rfl⟩
          go_wp2_with fail
          have G0 : Hid (w1.cell? ⟨w.heap.size, 0, none⟩ = some (.slice A l.length cp)) := (hc w.heap.size 0 (by simp)).trans (by rw [World.cell?_alloc_at _ _ _ _ rfl]; rfl)
          have HLL := Lib.hid (HL.out.below HB1.out)
          clear hc hf
          go_loopw [1, 8] (fun u i w' => ∃ k : Nat, (k : Int) ≤ n ∧ i = .int .i64 k ∧ u = .string (iterS l s k) ∧ iterOk l s k = true ∧ Below w1.heap.size w1 w') (fun _ i _ => (n - intOf i).toNat)
          case atStart => exact ⟨0, d1n, rfl, rfl, rfl, Below.refl _ _⟩
          case round =>
            obtain ⟨k, hk, rfl, rfl, hok, hbk⟩ := hrel
            have hw1 := iter_word h1 h2 h3 k hok
            have HOK := Lib.hid hok
            have HBK := Lib.hid hbk
            have g0 : wr.cell? ⟨w.heap.size, 0, none⟩ = some (.slice A l.length cp) := (hbk.cell (p := ⟨w.heap.size, 0, none⟩) hz1).trans G0.out
            have HAP := Lib.hid (specApply l (.slice A l.length cp) (iterS l s k) wr (HLL.out.below hbk) h1 hw1.1 hw1.2)
            clear hok hbk hw1
            by_cases hlt : (k : Int) < n
            · go_wp2_with fail
              refine HAP.out.mono ?_
              rintro e w2 ⟨hb2, r, rfl, hr1, hr2, hr3⟩
              have HB3 : Hid (Below w1.heap.size w1 w2) := HBK.out.trans (hb2.mono HBK.out.size)
              have HR2 := Lib.hid hr2
              have HR3 := Lib.hid hr3
              clear hb2 hr2 hr3 g0
              by_cases h4 : (applyL l (iterS l s k).data.toList).length ≤ 400
              · have hsz : r.size ≤ 400 := by rw [HR2.out h4]; show (stepS l (iterS l s k)).size ≤ 400; rw [stepS_size]; exact h4
                have HEQ : Hid (r = iterS l s (k + 1)) := HR2.out h4
                have HOK2 : Hid (iterOk l s (k + 1) = true) := by show (iterOk l s k && _) = true; rw [HOK.out, decide_eq_true h4]; rfl
                clear h4
                go_wp2_with fail
                go_roundw
                case rel => exact ⟨k + 1, by omega, by go_num, by rw [HEQ.out], HOK2.out, HB3.out⟩
                case measure => simp [intOf]; omega
              · have hsz : 400 < r.size := HR3.out (by omega)
                have HNO : Hid (itOk l s n = false) := by
                  show itOk l s n = false
                  unfold itOk
                  have e1 : iterOk l s (k + 1) = false := by show (iterOk l s k && _) = false; rw [decide_eq_false h4, Bool.and_false]
                  have e2 := iterOk_mono e1 (n.toNat - (k + 1))
                  rw [show k + 1 + (n.toNat - (k + 1)) = n.toNat from by omega] at e2
                  rw [e2, Bool.and_false, Bool.and_false]
                clear h4
                go_wp2_with fail
                go_ret2
                exact itR_no HNO.out (HB2.out.trans (HB3.out.mono (by omega)))
            · have hkn : n = (k : Int) := by omega
              have HYES : Hid (itOk l s n = true) := by
                show itOk l s n = true
                unfold itOk
                rw [h1, h2, h3, hkn, Int.toNat_natCast, HOK.out]
                simp
                omega
              have HEQ : Hid (iterS l s k = iterS l s n.toNat) := by show iterS l s k = iterS l s n.toNat; rw [hkn, Int.toNat_natCast]
              clear hkn
              go_wp2_with fail
              go_ret2
              refine ⟨?_, HB2.out.trans (HBK.out.mono (by omega))⟩
              have e2 : itR l s n = iterS l s n.toNat := if_pos HYES.out
              rw [HYES.out, e2, ← HEQ.out]
              rfl
        · have HNO : Hid (itOk l s n = false) := by show itOk l s n = false; unfold itOk; rw [show withinB l.length s = false by simpa using h3]; simp
          have h3' : withinB l.length s = false := by simpa using h3
          clear h3
          go_enter Try.func19, Try.ntmps19
          go_wp2_with fail
          refine (specIn _ _ _ _).mono ?_
          rintro e w' ⟨rfl, rfl⟩
          go_wp2_with fail
          refine (specSubstOk l _ _ HL.out HZ.out hn).mono ?_
          rintro e w1 ⟨rfl, hb1⟩
          obtain ⟨hc, hf⟩ := below_reads hb1
          have HB1 := Lib.hid hb1
          have HB2 : Hid (Below w.heap.size w w1) := HB0.out.trans (hb1.mono (by simp))
          have hz1 : w.heap.size < w1.heap.size := by have := hb1.size; simp at this; omega
          clear hb1
          go_wp2_with fail
          refine (specWordOk s _).mono ?_
          rintro e w' ⟨rfl, rfl⟩
          go_wp2_with fail
          refine (HWI.out _).mono ?_
          rintro e w' ⟨rfl, rfl⟩
          go_wp2_with fail
          go_ret2
          exact itR_no HNO.out HB2.out
      · have HNO : Hid (itOk l s n = false) := by show itOk l s n = false; unfold itOk; rw [show wordB s = false by simpa using h2]; simp
        have h2' : wordB s = false := by simpa using h2
        clear h2
        go_enter Try.func19, Try.ntmps19
        go_wp2_with fail
        refine (specIn _ _ _ _).mono ?_
        rintro e w' ⟨rfl, rfl⟩
        go_wp2_with fail
        refine (specSubstOk l _ _ HL.out HZ.out hn).mono ?_
        rintro e w1 ⟨rfl, hb1⟩
        obtain ⟨hc, hf⟩ := below_reads hb1
        have HB1 := Lib.hid hb1
        have HB2 : Hid (Below w.heap.size w w1) := HB0.out.trans (hb1.mono (by simp))
        have hz1 : w.heap.size < w1.heap.size := by have := hb1.size; simp at this; omega
        clear hb1
        go_wp2_with fail
        refine (specWordOk s _).mono ?_
        rintro e w' ⟨rfl, rfl⟩
        go_wp2_with fail
        go_ret2
        exact itR_no HNO.out HB2.out
    · have HNO : Hid (itOk l s n = false) := by show itOk l s n = false; unfold itOk; rw [show substB l = false by simpa using h1]; simp
      have h1' : substB l = false := by simpa using h1
      clear h1
      go_enter Try.func19, Try.ntmps19
      go_wp2_with fail
      refine (specIn _ _ _ _).mono ?_
      rintro e w' ⟨rfl, rfl⟩
      go_wp2_with fail
      refine (specSubstOk l _ _ HL.out HZ.out hn).mono ?_
      rintro e w1 ⟨rfl, hb1⟩
      obtain ⟨hc, hf⟩ := below_reads hb1
      have HB1 := Lib.hid hb1
      have HB2 : Hid (Below w.heap.size w w1) := HB0.out.trans (hb1.mono (by simp))
      have hz1 : w.heap.size < w1.heap.size := by have := hb1.size; simp at this; omega
      clear hb1
      go_wp2_with fail
      go_ret2
      exact itR_no HNO.out HB2.out
  · have d1 : (decide ((0 : Int) ≤ n) && decide (n ≤ (20 : Int))) = false := by simp; omega
    have HNO : Hid (itOk l s n = false) := by show itOk l s n = false; unfold itOk; rw [d1, Bool.false_and]
    clear h0
    go_enter Try.func19, Try.ntmps19
    go_wp2_with fail
    refine (specIn _ _ _ _).mono ?_
    rintro e w' ⟨rfl, rfl⟩
    go_wp2_with fail
    go_ret2
    exact itR_no HNO.out HB0.out
end Go.Proofs.Ytbbcdeknnfghkaa

/- The program's table of closures, one an image, and what they write. Condition: the substitution is valid. -/
namespace Go.Proofs.Ytbbcdeknnfghkaa
open Go.RowKit

/-- one more cell of L laid over the old cells zs -/
theorem lay_set (L zs : List Value) (k : Nat) (hk : k < L.length) (hz : zs.length = L.length) : (L.take k ++ zs.drop k).set k L[k] = L.take (k + 1) ++ zs.drop (k + 1) := by
  have hd : zs.drop k = zs[k]'(by omega) :: zs.drop (k + 1) := List.drop_eq_getElem_cons _
  have hlk : (L.take k).length = k := by rw [List.length_take]; omega
  rw [List.take_succ_eq_append_getElem hk, hd, List.set_append_right _ _ (by omega), hlk, Nat.sub_self, List.set_cons_zero, List.append_assoc]
  rfl
theorem lay_get (L zs : List Value) (k : Nat) (hk : k < L.length) (hz : zs.length = L.length) : ∃ u, (L.take k ++ zs.drop k)[k]? = some u :=
  ⟨(L.take k ++ zs.drop k)[k]'(by rw [List.length_append, List.length_take, List.length_drop]; omega), List.getElem?_eq_getElem _⟩
theorem lay_end (L zs : List Value) (hz : zs.length = L.length) : L.take L.length ++ zs.drop L.length = L := by
  rw [List.take_length, List.drop_of_length_le (by omega), List.append_nil]

/-- the closure that appends the text at p -/
def clo (p : Nat) : Value := .func (.func 86) #[] #[.pointer (some ⟨p, 0, none⟩)]
/-- at g lies the table of the images l, the images at S and on -/
def ImgTab (w : World) (S g : Nat) (l : List ByteArray) : Prop := ∀ k (hk : k < l.length), w.cell? ⟨g, k, none⟩ = some (clo (S + k)) ∧ w.cell? ⟨S + k, 0, none⟩ = some (.string l[k])
theorem ImgTab.below {w w' : World} {S g : Nat} {l : List ByteArray} (h : ImgTab w S g l) (hb : Below w.heap.size w w') : ImgTab w' S g l := fun k hk =>
  ⟨(hb.cell (World.block_lt_of_cell? w _ (h k hk).1)).trans (h k hk).1, (hb.cell (World.block_lt_of_cell? w _ (h k hk).2)).trans (h k hk).2⟩

theorem implAppendText (s : ByteArray) (p B : Nat) (v : Value) (n : Nat) (xs : List UInt8) (w : World) (hc : w.cell? ⟨p, 0, none⟩ = some (.string s)) (hown : w.ownsRow B 5 1 v n (byteCells xs)) (hn : n ≤ 1048576) (hs : s.size ≤ 1048576) (hB : B ≤ w.heap.size) :
    Calls Try.prog 86 #[v, .pointer (some ⟨p, 0, none⟩)] w fun e w' => ∃ v', e = .returned v' ∧ w'.ownsRow B 5 1 v' (n + s.size) (byteCells (xs ++ s.data.toList)) ∧ w.grownBy w' v.ownBlock := by
  obtain ⟨i0, hi0, hz0, hz1, hz2⟩ := info_parts u8_info
  obtain ⟨A, cp, rfl⟩ := own_slice hown
  have HO := Lib.hid hown
  clear hown
  go_enter Try.func86, Try.ntmps86
  go_wp2_with (at_builtin; refine Lib.wpList_append_own_string _ rfl (.tmp 4) (.tmp 5) 59 9 rfl B 5 i0 Try.underlying59 Try.underlying9 hi0 hz0 hz1 hz2 _ n _ rfl HO.out s rfl (by unfold maxLen; omega) (by omega) hB ?_; intro v' w' hown' hgrow _)
  have HW := Lib.hid hown'
  have HG := Lib.hid hgrow
  clear hown' hgrow
  go_ret
  refine ⟨_, rfl, ?_, HG.out⟩
  have := HW.out
  unfold byteCells at this ⊢
  rwa [List.map_append]

theorem fn_info : (Try.prog.info? 94).map (fun i => (i.zero, i.size, i.bytes)) = some (some .nilFunc, 1, 8) := by kernel_rfl
def clos (S n : Nat) : List Value := (List.range n).map fun j => clo (S + j)
theorem clos_length (S n : Nat) : (clos S n).length = n := by simp [clos]
theorem clos_at (S n k : Nat) (h : k < (clos S n).length) : (clos S n)[k] = clo (S + k) := by simp [clos]

set_option maxHeartbeats 400000 in
theorem implTableAt (l : List ByteArray) (v : Value) (w : World) (h : Lst w v (strs l)) (hl1 : 1 ≤ l.length) (hl4 : l.length ≤ 4) :
    Calls Try.prog 57 #[.agg #[v]] w fun e w' => ∃ g S, w.heap.size ≤ g ∧ w.heap.size ≤ S ∧ e = .returned (.slice (some ⟨g, 0, none⟩) l.length l.length) ∧ ImgTab w' S g l ∧ Below w.heap.size w w' := by
  obtain ⟨i0, hi0, hz0, hz1, hz2⟩ := info_parts fn_info
  obtain ⟨b, off, cp, rfl, hat⟩ := lst_at h (by omega)
  have H1 := Lib.hid hat
  clear h hat
  have hb0 : Below w.heap.size w (w.alloc (.cells #[.slice (some ⟨b, off, none⟩) l.length cp] 24)) := (Below.refl _ _).alloc (Nat.le_refl _) _
  have hbw := World.block_lt_of_cell? w _ (H1.out 0 (by omega))
  go_enter Try.func57, Try.ntmps57
  go_wp2_with (at_make; refine wpList_make_full _ rfl _ _ 65 rfl (w.heap.size + 1) 94 i0 .nilFunc 1 Try.underlying65 hi0 hz0 hz1 .i64 .i64 _ _ l.length rfl rfl rfl rfl (by rw [hz2]; omega) (by unfold maxLen; omega) (by simp) ?_; intro w1 hown hgrow; have c0 : w1.cell? ⟨w.heap.size, 0, none⟩ = some (.slice (some ⟨b, off, none⟩) l.length cp) := (hgrow.cell (a := ⟨w.heap.size, 0, none⟩) (by rw [World.cell?_alloc_at _ _ _ _ rfl]; rfl) (by simp)))
  have HB1 : Hid (Below w.heap.size w w1) := hb0.grown hgrow (by simp) (fun k hk => by cases hk)
  have hsz1 : w.heap.size + 2 ≤ w1.heap.size := by
    have h1 := (hown.lt (w.heap.size + 1) (by simp [Value.ownBlock])).2
    omega
  have HS : Hid (∃ S, S = w1.heap.size) := ⟨_, rfl⟩
  have HZL : Hid (((madeCells Value.nilFunc.cells (l.length * 1)).toList).length = (clos w1.heap.size l.length).length) := by
    have := hown.1
    unfold Hid
    rw [clos_length]
    omega
  have HCL := Lib.hid (clos_length w1.heap.size l.length)
  have HCA := Lib.hid (clos_at w1.heap.size l.length)
  generalize (madeCells Value.nilFunc.cells (l.length * 1)).toList = zs at hown HZL
  generalize hLL : clos w1.heap.size l.length = L at HZL HCL HCA
  clear hLL hgrow hb0 HS
  go_loopw [13] (fun i wr => ∃ k : Nat, k ≤ l.length ∧ i = .int .i64 k ∧ wr.heap.size = w1.heap.size + k ∧ wr.ownsRow (w.heap.size + 1) 94 1 (.slice (some ⟨w.heap.size + 1, 0, none⟩) l.length l.length) l.length (L.take k ++ zs.drop k) ∧ (∀ j (_ : j < k) (hj : j < l.length), wr.cell? ⟨w1.heap.size + j, 0, none⟩ = some (.string l[j])) ∧ Below w.heap.size w wr) (fun i _ => l.length - (intOf i).toNat)
  case atStart => exact ⟨0, by omega, rfl, by omega, by simpa using hown, fun j hj => absurd hj (by omega), HB1.out⟩
  case round =>
    obtain ⟨k, hk, rfl, hsk, ho, hcs, hbk⟩ := hrel
    have HCS := Lib.hid hcs
    clear hcs
    by_cases hlt : k < l.length
    · have hkL : k < L.length := by rw [HCL.out]; exact hlt
      obtain ⟨u, hu⟩ := lay_get L zs k hkL HZL.out
      have g1 : wr.cell? ⟨b, off + k, none⟩ = some (.string l[k]) := (hbk.cell (p := ⟨b, off + k, none⟩) hbw).trans (H1.out k hlt)
      have g2 := (ho.cellAt k (by omega)).trans hu
      have g3 := ho.frozenAt k
      have hgl := (ho.lt (w.heap.size + 1) (by simp [Value.ownBlock])).2
      have HSK := Lib.hid hsk
      clear hu hsk
      go_wp2_with fail
      go_roundw
      case rel =>
        refine ⟨k + 1, by omega, by go_num, by simp [HSK.out]; omega, ?_, ?_, ?_⟩
        · have := (ho.stored k (clo (w1.heap.size + k))).1
          rw [← HCA.out k hkL, lay_set L zs k hkL HZL.out] at this
          rw [HCA.out k hkL] at this
          have h2 := this.alloc (.cells #[.string l[k]] 9)
          rw [← HSK.out] at h2
          exact h2
        · intro j hj hj'
          by_cases e : j = k
          · subst e
            rw [← HSK.out]
            go_simp
          · have := HCS.out j (by omega) hj'
            have hne : w1.heap.size + j < wr.heap.size := by rw [HSK.out]; omega
            go_simp
        · exact (hbk.setCell (by simp) _).alloc (by simp; omega) _
      case measure => simp [intOf]; omega
    · have hkl : k = l.length := by omega
      have HT : Hid (ImgTab wr (w1.heap.size) (w.heap.size + 1) l) := by
        intro j hj
        refine ⟨?_, HCS.out j (by omega) hj⟩
        have e : L.take k ++ zs.drop k = L := by rw [hkl, ← HCL.out]; exact lay_end L zs HZL.out
        have ho := ho
        rw [e] at ho
        have hjL : j < L.length := by rw [HCL.out]; exact hj
        rw [← HCA.out j hjL]
        have := ho.cellAt j (by omega)
        exact this.trans (List.getElem?_eq_getElem hjL)
      go_wp2_with fail
      go_ret
      exact ⟨_, _, by omega, by omega, rfl, HT.out, hbk⟩
theorem implTable (l : List ByteArray) (v : Value) (w : World) (h : Lst w v (strs l)) (hl1 : 1 ≤ l.length) (hl4 : l.length ≤ 4) :
    Calls Try.prog 57 #[.agg #[v]] w fun e w' => ∃ g S, e = .returned (.slice (some ⟨g, 0, none⟩) l.length l.length) ∧ ImgTab w' S g l ∧ Below w.heap.size w w' :=
  (implTableAt l v w h hl1 hl4).mono fun _ _ ⟨g, S, _, _, he, ht, hb⟩ => ⟨g, S, he, ht, hb⟩

set_option maxHeartbeats 400000 in
theorem implWrite (l : List ByteArray) (g S cp : Nat) (s : ByteArray) (w : World) (ht : ImgTab w S g l) (hl : substB l = true) (hs : wordB s = true) (hw : withinB l.length s = true) :
    Calls Try.prog 58 #[.slice (some ⟨g, 0, none⟩) l.length cp, .string s] w fun e w' => e = .returned (.string (stepS l s)) ∧ Below w.heap.size w w' := by
  obtain ⟨hl1, hl4, hl5⟩ := subst_parts hl
  have HI := Lib.hid hl5
  have h400 := word_size hs
  have HW := Lib.hid (word_at hs)
  have HN := Lib.hid (within_at hw)
  have HT : Hid (ImgTab w S g l) := ht
  clear hl hs hw ht hl5
  go_enter Try.func58, Try.ntmps58
  go_wp2_with fail
  go_loopw [5, 9] (fun o i w' => ∃ (k n : Nat), k ≤ s.size ∧ i = .int .i64 k ∧ n ≤ 8 * k ∧ n = (applyL l (s.data.toList.take k)).length ∧ w'.ownsRow w.heap.size 5 1 o n (byteCells (applyL l (s.data.toList.take k))) ∧ Below w.heap.size w w') (fun _ i _ => s.size - (intOf i).toNat)
  case atStart => exact ⟨0, 0, Nat.zero_le _, rfl, by omega, rfl, World.ownsRow_nil _ _ _ _, Below.refl _ _⟩
  case round =>
    obtain ⟨k, n, hk, rfl, hn, hnl, ho, hb⟩ := hrel
    obtain ⟨A, cp', rfl⟩ := own_slice ho
    have HNL := Lib.hid hnl
    clear hnl
    by_cases hlt : k < s.size
    · obtain ⟨p1, p2⟩ := HW.out k hlt
      have p3 := HN.out k hlt
      obtain ⟨j, hj, hj3⟩ : ∃ j : Nat, s[k].toNat = 97 + j ∧ j ≤ 3 := ⟨s[k].toNat - 97, by omega, by omega⟩
      have hjl : j < l.length := by omega
      have hsj := (img_parts (HI.out j hjl)).2.1
      have HLI := Lib.hid (fun w => letterAt (s[k].toNat : Int) (j : Int) w (by omega) (by omega) (by omega))
      have g1 := (ImgTab.below HT.out hb j hjl).1
      unfold clo at g1
      have HAP := Lib.hid (implAppendText l[j] (S + j) w.heap.size (.slice A n cp') n _ wr (ImgTab.below HT.out hb j hjl).2 ho (by omega) (by omega) hb.size)
      have HS := Lib.hid (applyL_succ l s k hlt)
      have HIM := Lib.hid (imgOf_at l s[k] j hj hjl)
      have HO := Lib.hid ho
      have HB := Lib.hid hb
      clear p1 p2 p3 hj ho hb
      go_wp2_with (go_at_call 72; refine (HLI.out _).mono ?_; rintro e w' ⟨rfl, rfl⟩)
      refine HAP.out.mono ?_
      rintro e w2 ⟨v', rfl, ho2, hg2⟩
      obtain ⟨A2, cp2, rfl⟩ := own_slice ho2
      have HO2 := Lib.hid ho2
      have HB2 : Hid (Below w.heap.size w w2) := HB.out.grown hg2 HB.out.size (fun k hk => (HO.out.lt k hk).1)
      clear ho2 hg2
      go_wp2_with fail
      go_roundw
      case rel =>
        have e1 : applyL l (s.data.toList.take (k + 1)) = applyL l (s.data.toList.take k) ++ l[j].data.toList := by rw [HS.out, HIM.out]
        refine ⟨k + 1, n + l[j].size, by omega, by go_num, by omega, ?_, ?_, HB2.out⟩
        · rw [e1, List.length_append, ← HNL.out]; simp
        · rw [e1]; exact HO2.out
      case measure => simp [intOf]; omega
    · have hk' : k = s.size := by omega
      subst hk'
      have hconv := conv_own_to Try.underlying63 ho
      rw [take_all s _ (Nat.le_refl _)] at hconv
      have HB := Lib.hid hb
      clear ho hb
      go_wp2_with fail
      go_ret
      exact ⟨rfl, HB.out⟩
end Go.Proofs.Ytbbcdeknnfghkaa

/- ApplySubst and IterateSubst of the program. Conditions: lengths of at most 2^20. -/
namespace Go.Proofs.Ytbbcdeknnfghkaa
open Go.RowKit

set_option maxHeartbeats 1000000 in
theorem implIterateSubst (l : List ByteArray) (v : Value) (s : ByteArray) (n : Int) (w : World) (h : Lst w v (strs l)) (hz : ∀ x ∈ l, x.size ≤ 1048576) (hn : l.length ≤ 1048576) (hs : s.size ≤ 1048576) :
    Calls Try.prog 20 #[.agg #[v], .string s, .int .i64 n] w (PairSaid (itR l s n) (itOk l s n) w) := by
  obtain ⟨A, cp, rfl⟩ := lst_slice h
  rw [strs_length] at h ⊢
  have hb0 : Below w.heap.size w (w.alloc (.cells #[.slice A l.length cp] 24)) := (Below.refl _ _).alloc (Nat.le_refl _) _
  have HL := Lib.hid (h.below hb0)
  have HZ := Lib.hid hz
  have HB0 := Lib.hid hb0
  clear h hz hb0
  by_cases h1 : substB l = true
  · obtain ⟨hl1, hl4, _⟩ := subst_parts h1
    have H1 := Lib.hid h1
    by_cases h2 : (wordB s && withinB l.length s) = true
    · have H2 := Lib.hid h2
      by_cases h3 : n < 0
      · have d1 : decide (n < 0) = true := by simpa using h3
        have HNO : Hid (itOk l s n = false) := by show itOk l s n = false; unfold itOk; rw [decide_eq_false (show ¬ 0 ≤ n by omega)]; simp
        go_enter Try.func20, Try.ntmps20
        go_wp2_with fail
        refine (implSubstOk l _ _ HL.out HZ.out hn).mono ?_
        rintro e w1 ⟨rfl, hb1⟩
        have HB1 : Hid (Below w.heap.size w w1) := HB0.out.trans (hb1.mono (by simp))
        have c0 : w1.cell? ⟨w.heap.size, 0, none⟩ = some (.slice A l.length cp) := (hb1.cell (p := ⟨w.heap.size, 0, none⟩) (by simp)).trans (by go_simp)
        clear hb1
        go_wp2_with fail
        refine (implHasImages A l.length cp s _ hn hs).mono ?_
        rintro e w2 ⟨rfl, hb2⟩
        have HB2 : Hid (Below w.heap.size w w2) := HB1.out.trans (hb2.mono HB1.out.size)
        clear hb2
        go_wp2_with fail
        go_ret2
        exact itR_no HNO.out HB2.out
      · by_cases h4 : 20 < n
        · have d1 : decide (n < 0) = false := by simpa using h3
          have d2 : decide ((20 : Int) < n) = true := by simpa using h4
          have HNO : Hid (itOk l s n = false) := by show itOk l s n = false; unfold itOk; rw [decide_eq_false (show ¬ n ≤ 20 by omega)]; simp
          go_enter Try.func20, Try.ntmps20
          go_wp2_with fail
          refine (implSubstOk l _ _ HL.out HZ.out hn).mono ?_
          rintro e w1 ⟨rfl, hb1⟩
          have HB1 : Hid (Below w.heap.size w w1) := HB0.out.trans (hb1.mono (by simp))
          have c0 : w1.cell? ⟨w.heap.size, 0, none⟩ = some (.slice A l.length cp) := (hb1.cell (p := ⟨w.heap.size, 0, none⟩) (by simp)).trans (by go_simp)
          clear hb1
          go_wp2_with fail
          refine (implHasImages A l.length cp s _ hn hs).mono ?_
          rintro e w2 ⟨rfl, hb2⟩
          have HB2 : Hid (Below w.heap.size w w2) := HB1.out.trans (hb2.mono HB1.out.size)
          clear hb2
          go_wp2_with fail
          go_ret2
          exact itR_no HNO.out HB2.out
        · have d1 : decide (n < 0) = false := by simpa using h3
          have d2 : decide ((20 : Int) < n) = false := by simpa using h4
          have hww : wordB s = true ∧ withinB l.length s = true := by rw [Bool.and_eq_true] at h2; exact h2
          have HWW := Lib.hid hww
          clear hww
          go_enter Try.func20, Try.ntmps20
          go_wp2_with fail
          refine (implSubstOk l _ _ HL.out HZ.out hn).mono ?_
          rintro e w1 ⟨rfl, hb1⟩
          have HB1 : Hid (Below w.heap.size w w1) := HB0.out.trans (hb1.mono (by simp))
          have c0 : w1.cell? ⟨w.heap.size, 0, none⟩ = some (.slice A l.length cp) := (hb1.cell (p := ⟨w.heap.size, 0, none⟩) (by simp)).trans (by go_simp)
          have hz1 : w.heap.size < w1.heap.size := by have := hb1.size; simp at this; omega
          have HL1 := Lib.hid (HL.out.below hb1)
          clear hb1
          go_wp2_with fail
          refine (implHasImages A l.length cp s _ hn hs).mono ?_
          rintro e w2 ⟨rfl, hb2⟩
          have HB2 : Hid (Below w.heap.size w w2) := HB1.out.trans (hb2.mono HB1.out.size)
          have c2 : w2.cell? ⟨w.heap.size, 0, none⟩ = some (.slice A l.length cp) := (hb2.cell (p := ⟨w.heap.size, 0, none⟩) hz1).trans c0
          have HL2 := Lib.hid (HL1.out.below hb2)
          clear hb2 c0
          go_wp2_with fail
          refine (implTable l _ _ HL2.out hl1 hl4).mono ?_
          rintro e w3 ⟨g, S, rfl, ht, hb3⟩
          have HB3 : Hid (Below w.heap.size w w3) := HB2.out.trans (hb3.mono HB2.out.size)
          have HT : Hid (ImgTab w3 S g l) := ht
          clear hb3 ht c2
          go_wp2_with fail
          go_loopw [9, 31] (fun u i w' => ∃ k : Nat, (k : Int) ≤ n ∧ i = .int .i64 k ∧ u = .string (iterS l s k) ∧ iterOk l s k = true ∧ Below w3.heap.size w3 w') (fun _ i _ => (n - intOf i).toNat)
          case atStart => exact ⟨0, by omega, rfl, rfl, rfl, Below.refl _ _⟩
          case round =>
            obtain ⟨k, hk, rfl, rfl, hok, hbk⟩ := hrel
            have hw1 := iter_word H1.out HWW.out.1 HWW.out.2 k hok
            have HW1 := Lib.hid hw1
            have HOK := Lib.hid hok
            have HBK := Lib.hid hbk
            clear hok hbk hw1
            by_cases hlt : (k : Int) < n
            · go_wp2_with fail
              refine (implWrite l g S _ (iterS l s k) wr (ImgTab.below HT.out HBK.out) H1.out HW1.out.1 HW1.out.2).mono ?_
              rintro e w4 ⟨rfl, hb4⟩
              have HB4 : Hid (Below w3.heap.size w3 w4) := HBK.out.trans (hb4.mono HBK.out.size)
              have hsz : (stepS l (iterS l s k)).size ≤ 1048576 := by
                have a := applyL_le H1.out (iterS l s k).data.toList
                have b := word_size HW1.out.1
                rw [stepS_size]
                have : (iterS l s k).data.toList.length = (iterS l s k).size := by simp
                omega
              clear hb4
              go_wp2_with fail
              refine (implOk (stepS l (iterS l s k)) _ hsz).mono ?_
              rintro e w5 ⟨rfl, hb5⟩
              have HB5 : Hid (Below w3.heap.size w3 w5) := HB4.out.trans (hb5.mono HB4.out.size)
              clear hb5
              by_cases h4 : (applyL l (iterS l s k).data.toList).length ≤ 400
              · have hy : wordB (stepS l (iterS l s k)) = true := (step_word H1.out HW1.out.1 HW1.out.2 h4).1
                have HOK2 : Hid (iterOk l s (k + 1) = true) := by show (iterOk l s k && _) = true; rw [HOK.out, decide_eq_true h4]; rfl
                clear h4
                go_wp2_with fail
                go_roundw
                case rel => exact ⟨k + 1, by omega, by go_num, rfl, HOK2.out, HB5.out⟩
                case measure => simp [intOf]; omega
              · have hy : wordB (stepS l (iterS l s k)) = false := word_long (by rw [stepS_size]; omega)
                have HNO : Hid (itOk l s n = false) := by
                  show itOk l s n = false
                  unfold itOk
                  have e1 : iterOk l s (k + 1) = false := by show (iterOk l s k && _) = false; rw [decide_eq_false h4, Bool.and_false]
                  have e2 := iterOk_mono e1 (n.toNat - (k + 1))
                  rw [show k + 1 + (n.toNat - (k + 1)) = n.toNat from by omega] at e2
                  rw [e2, Bool.and_false, Bool.and_false]
                clear h4
                go_wp2_with fail
                go_ret2
                exact itR_no HNO.out (HB3.out.trans (HB5.out.mono HB3.out.size))
            · have hkn : n = (k : Int) := by omega
              have HYES : Hid (itOk l s n = true) := by
                show itOk l s n = true
                unfold itOk
                rw [H1.out, HWW.out.1, HWW.out.2, hkn, Int.toNat_natCast, HOK.out]
                simp
                omega
              have HEQ : Hid (iterS l s k = iterS l s n.toNat) := by show iterS l s k = iterS l s n.toNat; rw [hkn, Int.toNat_natCast]
              clear hkn
              go_wp2_with fail
              go_ret2
              refine ⟨?_, HB3.out.trans (HBK.out.mono HB3.out.size)⟩
              have e2 : itR l s n = iterS l s n.toNat := if_pos HYES.out
              rw [HYES.out, e2, ← HEQ.out]
              rfl
    · have h2' : (wordB s && withinB l.length s) = false := by simpa only [Bool.not_eq_true] using h2
      have HNO : Hid (itOk l s n = false) := by show itOk l s n = false; unfold itOk; rw [h2']; simp
      clear h2
      go_enter Try.func20, Try.ntmps20
      go_wp2_with fail
      refine (implSubstOk l _ _ HL.out HZ.out hn).mono ?_
      rintro e w1 ⟨rfl, hb1⟩
      have HB1 : Hid (Below w.heap.size w w1) := HB0.out.trans (hb1.mono (by simp))
      have c0 : w1.cell? ⟨w.heap.size, 0, none⟩ = some (.slice A l.length cp) := (hb1.cell (p := ⟨w.heap.size, 0, none⟩) (by simp)).trans (by go_simp)
      clear hb1
      go_wp2_with fail
      refine (implHasImages A l.length cp s _ hn hs).mono ?_
      rintro e w2 ⟨rfl, hb2⟩
      have HB2 : Hid (Below w.heap.size w w2) := HB1.out.trans (hb2.mono HB1.out.size)
      clear hb2
      go_wp2_with fail
      go_ret2
      exact itR_no HNO.out HB2.out
  · have HNO : Hid (itOk l s n = false) := by show itOk l s n = false; unfold itOk; rw [show substB l = false by simpa using h1]; simp
    have h1' : substB l = false := by simpa using h1
    clear h1
    go_enter Try.func20, Try.ntmps20
    go_wp2_with fail
    refine (implSubstOk l _ _ HL.out HZ.out hn).mono ?_
    rintro e w1 ⟨rfl, hb1⟩
    have HB1 : Hid (Below w.heap.size w w1) := HB0.out.trans (hb1.mono (by simp))
    clear hb1
    go_wp2_with fail
    go_ret2
    exact itR_no HNO.out HB1.out

theorem it_one (l : List ByteArray) (s : ByteArray) : itOk l s 1 = appOk l s ∧ itR l s 1 = appR l s := by
  have e : itOk l s 1 = appOk l s := by
    unfold itOk appOk
    rfl
  refine ⟨e, ?_⟩
  unfold itR appR
  rw [e]
  rfl

theorem implApplySubst (l : List ByteArray) (v : Value) (s : ByteArray) (w : World) (h : Lst w v (strs l)) (hz : ∀ x ∈ l, x.size ≤ 1048576) (hn : l.length ≤ 1048576) (hs : s.size ≤ 1048576) :
    Calls Try.prog 17 #[.agg #[v], .string s] w (PairSaid (appR l s) (appOk l s) w) := by
  obtain ⟨A, cp, rfl⟩ := lst_slice h
  rw [strs_length] at h ⊢
  have hb0 : Below w.heap.size w (w.alloc (.cells #[.slice A l.length cp] 24)) := (Below.refl _ _).alloc (Nat.le_refl _) _
  have HL := Lib.hid (h.below hb0)
  have HZ := Lib.hid hz
  have HB0 := Lib.hid hb0
  clear h hz hb0
  have HE := Lib.hid (it_one l s)
  go_enter Try.func17, Try.ntmps17
  go_wp2_with fail
  refine (implIterateSubst l _ s 1 _ HL.out HZ.out hn hs).mono ?_
  rintro e w1 ⟨rfl, hb1⟩
  have HB1 : Hid (Below w.heap.size w w1) := HB0.out.trans (hb1.mono (by simp))
  clear hb1
  go_wp2_with fail
  go_ret2
  exact ⟨by rw [HE.out.1, HE.out.2]; rfl, HB1.out⟩
end Go.Proofs.Ytbbcdeknnfghkaa
