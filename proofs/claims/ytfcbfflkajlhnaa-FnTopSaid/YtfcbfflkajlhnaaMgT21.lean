/- Texts put together. -/
import Derived.Test.YtfcbfflkajlhnaaMgT18
import Derived.Test.YtfcbfflkajlhnaaMgT19
import Derived.Test.YtfcbfflkajlhnaaMgT20
import Derived.Test.YtfcbfflkajlhnaaMgT12
import Derived.Test.YtfcbfflkajlhnaaMgT3
import Derived.Test.YtfcbfflkajlhnaaMgT11
import Derived.OwnWalk
import Derived.Lib.AppendStr
import Derived.Laws.EntriesVeiled
/- FormatSubst and ParseSubst of the program. Conditions: lengths of at most 2^20. -/
namespace Go.Proofs.Ytfcbfflkajlhnaa
open Go.RowKit
/-- a valid list of parts is written as the text that it was cut from, which is short -/
theorem parseOk_eq (t : ByteArray) : parseOk t = substB (splitL t ⟨#[44]⟩) := by
  unfold parseOk
  by_cases h : substB (splitL t ⟨#[44]⟩) = true
  · have e : fmtR (splitL t ⟨#[44]⟩) = t := by
      unfold fmtR
      rw [if_pos h, split_join]
    have h1 := subst_total h
    have h2 := joinS_size (splitL t ⟨#[44]⟩) ⟨#[44]⟩
    rw [split_join] at h2
    have e1 : (⟨#[44]⟩ : ByteArray).size = 1 := rfl
    rw [e1] at h2
    rw [h, decide_eq_true e, decide_eq_true (show t.size ≤ 40 by omega)]
    rfl
  · rw [show substB (splitL t ⟨#[44]⟩) = false by simpa using h]
    simp

end Go.Proofs.Ytfcbfflkajlhnaa

/- ApplySubst and IterateSubst of the model. Conditions: lengths of at most 2^20. -/
namespace Go.Proofs.Ytfcbfflkajlhnaa
open Go.RowKit
end Go.Proofs.Ytfcbfflkajlhnaa

/- The program's table of closures, one an image, and what they write. Condition: the substitution is valid. -/
namespace Go.Proofs.Ytfcbfflkajlhnaa
open Go.RowKit

/-- one more cell of L laid over the old cells zs -/
theorem lay_set (L zs : List Value) (k : Nat) (hk : k < L.length) (hz : zs.length = L.length) : (L.take k ++ zs.drop k).set k L[k] = L.take (k + 1) ++ zs.drop (k + 1) := by
  have hd : zs.drop k = zs[k]'(by omega) :: zs.drop (k + 1) := List.drop_eq_getElem_cons _
  have hlk : (L.take k).length = k := by rw [List.length_take]; omega
  rw [List.take_succ_eq_append_getElem hk, hd, List.set_append_right _ _ (by omega), hlk, Nat.sub_self, List.set_cons_zero, List.append_assoc]
  rfl
theorem lay_get (L zs : List Value) (k : Nat) (hk : k < L.length) (hz : zs.length = L.length) : ∃ u, (L.take k ++ zs.drop k)[k]? = some u :=
  ⟨(L.take k ++ zs.drop k)[k]'(by rw [List.length_append, List.length_take, List.length_drop]; omega), List.getElem?_eq_getElem _⟩
theorem lay_end (L zs : List Value) (hz : zs.length = L.length) : L.take L.length ++ zs.drop L.length = L := by
  rw [List.take_length, List.drop_of_length_le (by omega), List.append_nil]

/-- the closure that appends the text at p -/
def clo (p : Nat) : Value := .func (.func 114) #[] #[.pointer (some ⟨p, 0, none⟩)]
/-- at g lies the table of the images l, the images at S and on -/
def ImgTab (w : World) (S g : Nat) (l : List ByteArray) : Prop := ∀ k (hk : k < l.length), w.cell? ⟨g, k, none⟩ = some (clo (S + k)) ∧ w.cell? ⟨S + k, 0, none⟩ = some (.string l[k])
theorem ImgTab.below {w w' : World} {S g : Nat} {l : List ByteArray} (h : ImgTab w S g l) (hb : Below w.heap.size w w') : ImgTab w' S g l := fun k hk =>
  ⟨(hb.cell (World.block_lt_of_cell? w _ (h k hk).1)).trans (h k hk).1, (hb.cell (World.block_lt_of_cell? w _ (h k hk).2)).trans (h k hk).2⟩

theorem implAppendText (s : ByteArray) (p B : Nat) (v : Value) (n : Nat) (xs : List UInt8) (w : World) (hc : w.cell? ⟨p, 0, none⟩ = some (.string s)) (hown : w.ownsRow B 5 1 v n (byteCells xs)) (hn : n ≤ 1048576) (hs : s.size ≤ 1048576) (hB : B ≤ w.heap.size) :
    Calls Try.prog 114 #[v, .pointer (some ⟨p, 0, none⟩)] w fun e w' => ∃ v', e = .returned v' ∧ w'.ownsRow B 5 1 v' (n + s.size) (byteCells (xs ++ s.data.toList)) ∧ w.grownBy w' v.ownBlock := by
  obtain ⟨i0, hi0, hz0, hz1, hz2⟩ := info_parts u8_info
  obtain ⟨A, cp, rfl⟩ := own_slice hown
  have HO := Lib.hid hown
  clear hown
  go_enter Try.func114, Try.ntmps114
  go_wp2_with (at_builtin; refine Lib.wpList_append_own_string _ rfl (.tmp 4) (.tmp 5) 22 9 rfl B 5 i0 Try.underlying22 Try.underlying9 hi0 hz0 hz1 hz2 _ n _ rfl HO.out s rfl (by unfold maxLen; omega) (by omega) hB ?_; intro v' w' hown' hgrow _)
  have HW := Lib.hid hown'
  have HG := Lib.hid hgrow
  clear hown' hgrow
  go_ret
  refine ⟨_, rfl, ?_, HG.out⟩
  have := HW.out
  unfold byteCells at this ⊢
  rwa [List.map_append]

theorem fn_info : (Try.prog.info? 118).map (fun i => (i.zero, i.size, i.bytes)) = some (some .nilFunc, 1, 8) := by kernel_rfl
def clos (S n : Nat) : List Value := (List.range n).map fun j => clo (S + j)
theorem clos_length (S n : Nat) : (clos S n).length = n := by simp [clos]
theorem clos_at (S n k : Nat) (h : k < (clos S n).length) : (clos S n)[k] = clo (S + k) := by simp [clos]

set_option maxHeartbeats 400000 in
theorem implTableAt (l : List ByteArray) (v : Value) (w : World) (h : Lst w v (strs l)) (hl1 : 1 ≤ l.length) (hl4 : l.length ≤ 4) :
    Calls Try.prog 69 #[.agg #[v]] w fun e w' => ∃ g S, w.heap.size ≤ g ∧ w.heap.size ≤ S ∧ e = .returned (.slice (some ⟨g, 0, none⟩) l.length l.length) ∧ ImgTab w' S g l ∧ Below w.heap.size w w' := by
  obtain ⟨i0, hi0, hz0, hz1, hz2⟩ := info_parts fn_info
  obtain ⟨b, off, cp, rfl, hat⟩ := lst_at h (by omega)
  have H1 := Lib.hid hat
  clear h hat
  have hb0 : Below w.heap.size w (w.alloc (.cells #[.slice (some ⟨b, off, none⟩) l.length cp] 25)) := (Below.refl _ _).alloc (Nat.le_refl _) _
  have hbw := World.block_lt_of_cell? w _ (H1.out 0 (by omega))
  go_enter Try.func69, Try.ntmps69
  go_wp2_with (at_make; refine wpList_make_full _ rfl _ _ 71 rfl (w.heap.size + 1) 118 i0 .nilFunc 1 Try.underlying71 hi0 hz0 hz1 .i64 .i64 _ _ l.length rfl rfl rfl rfl (by rw [hz2]; omega) (by unfold maxLen; omega) (by simp) ?_; intro w1 hown hgrow; have c0 : w1.cell? ⟨w.heap.size, 0, none⟩ = some (.slice (some ⟨b, off, none⟩) l.length cp) := (hgrow.cell (a := ⟨w.heap.size, 0, none⟩) (by rw [World.cell?_alloc_at _ _ _ _ rfl]; rfl) (by simp)))
  have HB1 : Hid (Below w.heap.size w w1) := hb0.grown hgrow (by simp) (fun k hk => by cases hk)
  have hsz1 : w.heap.size + 2 ≤ w1.heap.size := by
    have h1 := (hown.lt (w.heap.size + 1) (by simp [Value.ownBlock])).2
    omega
  have HS : Hid (∃ S, S = w1.heap.size) := ⟨_, rfl⟩
  have HZL : Hid (((madeCells Value.nilFunc.cells (l.length * 1)).toList).length = (clos w1.heap.size l.length).length) := by
    have := hown.1
    unfold Hid
    rw [clos_length]
    omega
  have HCL := Lib.hid (clos_length w1.heap.size l.length)
  have HCA := Lib.hid (clos_at w1.heap.size l.length)
  generalize (madeCells Value.nilFunc.cells (l.length * 1)).toList = zs at hown HZL
  generalize hLL : clos w1.heap.size l.length = L at HZL HCL HCA
  clear hLL hgrow hb0 HS
  go_loopw [13] (fun i wr => ∃ k : Nat, k ≤ l.length ∧ i = .int .i64 k ∧ wr.heap.size = w1.heap.size + k ∧ wr.ownsRow (w.heap.size + 1) 118 1 (.slice (some ⟨w.heap.size + 1, 0, none⟩) l.length l.length) l.length (L.take k ++ zs.drop k) ∧ (∀ j (_ : j < k) (hj : j < l.length), wr.cell? ⟨w1.heap.size + j, 0, none⟩ = some (.string l[j])) ∧ Below w.heap.size w wr) (fun i _ => l.length - (intOf i).toNat)
  case atStart => exact ⟨0, by omega, rfl, by omega, by simpa using hown, fun j hj => absurd hj (by omega), HB1.out⟩
  case round =>
    obtain ⟨k, hk, rfl, hsk, ho, hcs, hbk⟩ := hrel
    have HCS := Lib.hid hcs
    clear hcs
    by_cases hlt : k < l.length
    · have hkL : k < L.length := by rw [HCL.out]; exact hlt
      obtain ⟨u, hu⟩ := lay_get L zs k hkL HZL.out
      have g1 : wr.cell? ⟨b, off + k, none⟩ = some (.string l[k]) := (hbk.cell (p := ⟨b, off + k, none⟩) hbw).trans (H1.out k hlt)
      have g2 := (ho.cellAt k (by omega)).trans hu
      have g3 := ho.frozenAt k
      have hgl := (ho.lt (w.heap.size + 1) (by simp [Value.ownBlock])).2
      have HSK := Lib.hid hsk
      clear hu hsk
      go_wp2_with fail
      go_roundw
      case rel =>
        refine ⟨k + 1, by omega, by go_num, by simp [HSK.out]; omega, ?_, ?_, ?_⟩
        · have := (ho.stored k (clo (w1.heap.size + k))).1
          rw [← HCA.out k hkL, lay_set L zs k hkL HZL.out] at this
          rw [HCA.out k hkL] at this
          have h2 := this.alloc (.cells #[.string l[k]] 9)
          rw [← HSK.out] at h2
          exact h2
        · intro j hj hj'
          by_cases e : j = k
          · subst e
            rw [← HSK.out]
            go_simp
          · have := HCS.out j (by omega) hj'
            have hne : w1.heap.size + j < wr.heap.size := by rw [HSK.out]; omega
            go_simp
        · exact (hbk.setCell (by simp) _).alloc (by simp; omega) _
      case measure => simp [intOf]; omega
    · have hkl : k = l.length := by omega
      have HT : Hid (ImgTab wr (w1.heap.size) (w.heap.size + 1) l) := by
        intro j hj
        refine ⟨?_, HCS.out j (by omega) hj⟩
        have e : L.take k ++ zs.drop k = L := by rw [hkl, ← HCL.out]; exact lay_end L zs HZL.out
        have ho := ho
        rw [e] at ho
        have hjL : j < L.length := by rw [HCL.out]; exact hj
        rw [← HCA.out j hjL]
        have := ho.cellAt j (by omega)
        exact this.trans (List.getElem?_eq_getElem hjL)
      go_wp2_with fail
      go_ret
      exact ⟨_, _, by omega, by omega, rfl, HT.out, hbk⟩
theorem implTable (l : List ByteArray) (v : Value) (w : World) (h : Lst w v (strs l)) (hl1 : 1 ≤ l.length) (hl4 : l.length ≤ 4) :
    Calls Try.prog 69 #[.agg #[v]] w fun e w' => ∃ g S, e = .returned (.slice (some ⟨g, 0, none⟩) l.length l.length) ∧ ImgTab w' S g l ∧ Below w.heap.size w w' :=
  (implTableAt l v w h hl1 hl4).mono fun _ _ ⟨g, S, _, _, he, ht, hb⟩ => ⟨g, S, he, ht, hb⟩

set_option maxHeartbeats 400000 in
theorem implWrite (l : List ByteArray) (g S cp : Nat) (s : ByteArray) (w : World) (ht : ImgTab w S g l) (hl : substB l = true) (hs : wordB s = true) (hw : withinB l.length s = true) :
    Calls Try.prog 70 #[.slice (some ⟨g, 0, none⟩) l.length cp, .string s] w fun e w' => e = .returned (.string (stepS l s)) ∧ Below w.heap.size w w' := by
  obtain ⟨hl1, hl4, hl5⟩ := subst_parts hl
  have HI := Lib.hid hl5
  have h400 := word_size hs
  have HW := Lib.hid (word_at hs)
  have HN := Lib.hid (within_at hw)
  have HT : Hid (ImgTab w S g l) := ht
  clear hl hs hw ht hl5
  go_enter Try.func70, Try.ntmps70
  go_wp2_with fail
  go_loopw [5, 9] (fun o i w' => ∃ (k n : Nat), k ≤ s.size ∧ i = .int .i64 k ∧ n ≤ 8 * k ∧ n = (applyL l (s.data.toList.take k)).length ∧ w'.ownsRow w.heap.size 5 1 o n (byteCells (applyL l (s.data.toList.take k))) ∧ Below w.heap.size w w') (fun _ i _ => s.size - (intOf i).toNat)
  case atStart => exact ⟨0, 0, Nat.zero_le _, rfl, by omega, rfl, World.ownsRow_nil _ _ _ _, Below.refl _ _⟩
  case round =>
    obtain ⟨k, n, hk, rfl, hn, hnl, ho, hb⟩ := hrel
    obtain ⟨A, cp', rfl⟩ := own_slice ho
    have HNL := Lib.hid hnl
    clear hnl
    by_cases hlt : k < s.size
    · obtain ⟨p1, p2⟩ := HW.out k hlt
      have p3 := HN.out k hlt
      obtain ⟨j, hj, hj3⟩ : ∃ j : Nat, s[k].toNat = 97 + j ∧ j ≤ 3 := ⟨s[k].toNat - 97, by omega, by omega⟩
      have hjl : j < l.length := by omega
      have hsj := (img_parts (HI.out j hjl)).2.1
      have HLI := Lib.hid (fun w => letterAt (s[k].toNat : Int) (j : Int) w (by omega) (by omega) (by omega))
      have g1 := (ImgTab.below HT.out hb j hjl).1
      unfold clo at g1
      have HAP := Lib.hid (implAppendText l[j] (S + j) w.heap.size (.slice A n cp') n _ wr (ImgTab.below HT.out hb j hjl).2 ho (by omega) (by omega) hb.size)
      have HS := Lib.hid (applyL_succ l s k hlt)
      have HIM := Lib.hid (imgOf_at l s[k] j hj hjl)
      have HO := Lib.hid ho
      have HB := Lib.hid hb
      clear p1 p2 p3 hj ho hb
      go_wp2_with (go_at_call 78; refine (HLI.out _).mono ?_; rintro e w' ⟨rfl, rfl⟩)
      refine HAP.out.mono ?_
      rintro e w2 ⟨v', rfl, ho2, hg2⟩
      obtain ⟨A2, cp2, rfl⟩ := own_slice ho2
      have HO2 := Lib.hid ho2
      have HB2 : Hid (Below w.heap.size w w2) := HB.out.grown hg2 HB.out.size (fun k hk => (HO.out.lt k hk).1)
      clear ho2 hg2
      go_wp2_with fail
      go_roundw
      case rel =>
        have e1 : applyL l (s.data.toList.take (k + 1)) = applyL l (s.data.toList.take k) ++ l[j].data.toList := by rw [HS.out, HIM.out]
        refine ⟨k + 1, n + l[j].size, by omega, by go_num, by omega, ?_, ?_, HB2.out⟩
        · rw [e1, List.length_append, ← HNL.out]; simp
        · rw [e1]; exact HO2.out
      case measure => simp [intOf]; omega
    · have hk' : k = s.size := by omega
      subst hk'
      have hconv := conv_own_to Try.underlying68 ho
      rw [take_all s _ (Nat.le_refl _)] at hconv
      have HB := Lib.hid hb
      clear ho hb
      go_wp2_with fail
      go_ret
      exact ⟨rfl, HB.out⟩
end Go.Proofs.Ytfcbfflkajlhnaa
