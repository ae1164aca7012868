/- Texts put together. -/
import Derived.Test.YtfcbfflkajlhnaaMgC37
import Derived.Test.YtfcbfflkajlhnaaMgC38
/- Chapter 7 of the model: RightSpecial, LeftSpecial. Conditions: lengths of at most 2^20. -/
namespace Go.Proofs.Ytfcbfflkajlhnaa
open Go.RowKit

theorem facTo_size (s : ByteArray) (n i : Nat) (x : ByteArray) (h : x ∈ facTo s n i) : x.size ≤ n ∧ x.size ≤ s.size := by
  obtain ⟨j, _, rfl⟩ := (facTo_mem s n x i).1 h
  rw [ByteArray.size_extract]
  omega
noncomputable def spcTo (s : ByteArray) (b : Bool) (L : List ByteArray) (q : Nat) : List ByteArray := (L.take q).filter fun f => decide (1 < (nxtS s f b).size)
theorem spcTo_yes {s : ByteArray} {b : Bool} {L : List ByteArray} {q : Nat} (hq : q < L.length) (h : 1 < (nxtS s L[q] b).size) : spcTo s b L (q + 1) = spcTo s b L q ++ [L[q]] := by
  unfold spcTo
  rw [List.take_succ_eq_append_getElem hq, List.filter_append, List.filter_cons_of_pos (by simpa using h), List.filter_nil]
theorem spcTo_no {s : ByteArray} {b : Bool} {L : List ByteArray} {q : Nat} (hq : q < L.length) (h : ¬ 1 < (nxtS s L[q] b).size) : spcTo s b L (q + 1) = spcTo s b L q := by
  unfold spcTo
  rw [List.take_succ_eq_append_getElem hq, List.filter_append, List.filter_cons_of_neg (by simpa using h), List.filter_nil, List.append_nil]
theorem spcTo_length (s : ByteArray) (b : Bool) (L : List ByteArray) (q : Nat) : (spcTo s b L q).length ≤ q := by
  unfold spcTo
  exact Nat.le_trans (List.length_filter_le _ _) (by simp; omega)

set_option maxHeartbeats 1000000 in
theorem specSpecial (s : ByteArray) (n : Nat) (b : Bool) (w : World) (hs : s.size ≤ 400) (h1 : 1 ≤ n) (h8 : n ≤ 1000) :
    Calls Try.prog 99 #[.string s, .int .i64 n, .bool b] w fun e w' => ∃ v, e = .returned v ∧ w'.ownsRow w.heap.size 9 1 v (spcL s n b).length (strs (spcL s n b)) ∧ Below w.heap.size w w' := by
  obtain ⟨i0, hi0, hz0, hz1, hz2⟩ := info_parts str_info
  have HF := Lib.hid (fun w => specFactors s n w hs h1 h8)
  have HLS : Hid (∀ x ∈ fctL s n, x.size ≤ 400) := fun x hx => by have := (facTo_size s n _ x hx).2; omega
  have HLL : Hid ((fctL s n).length ≤ 400) := by
    show (fctL s n).length ≤ 400
    have := fctL_length s n
    omega
  have HV : Hid (spcL s n b = spcTo s b (fctL s n) (fctL s n).length) := by
    show spcL s n b = _
    unfold spcL spcTo
    rw [List.take_length]
  have e0 : facTo s n (s.size + 1 - n) = fctL s n := rfl
  rw [e0] at HF
  clear e0
  generalize fctL s n = L at HF HLS HLL HV
  have HB0 : Hid (Below w.heap.size w (w.alloc (.cells #[] 9))) := (Below.refl _ _).alloc (Nat.le_refl _) _
  have HO0 : Hid ((w.alloc (.cells #[] 9)).ownsRow w.heap.size 9 1 (.slice (some ⟨w.heap.size, 0, none⟩) 0 0) 0 []) := own_made0 _ _ _ (Nat.le_refl _)
  go_enter Try.func99, Try.ntmps99
  go_wp2_with fail
  refine (HF.out _).mono ?_
  rintro e w1 ⟨v, rfl, ho, hb⟩
  obtain ⟨A, cp, rfl⟩ := own_slice ho
  have HO1 : Hid (w1.ownsRow w.heap.size 9 1 (.slice (some ⟨w.heap.size, 0, none⟩) 0 0) 0 []) := own_below HO0.out hb
  have HL1 : Hid (w1.ownsRow (w.heap.size + 1) 9 1 (.slice A L.length cp) L.length (strs L)) := by
    have := ho
    simp only [World.size_alloc] at this
    exact this
  have HLT : Hid (∀ k, Value.ownBlock (.slice A L.length cp) = some k → k < w1.heap.size) := fun k hk => (ho.lt k hk).2
  have HB1 : Hid (Below w.heap.size w w1) := HB0.out.trans (hb.mono (by simp))
  have hsz1 : w.heap.size < w1.heap.size := by have := hb.size; simp at this; omega
  clear ho hb HF
  go_wp2_with fail
  go_loopw [7, 15] (fun o i w' => ∃ q : Nat, q ≤ L.length ∧ i = .int .i64 q ∧ w'.ownsRow w.heap.size 9 1 o (spcTo s b L q).length (strs (spcTo s b L q)) ∧ Away w.heap.size w1.heap.size o ∧ w'.ownsRow (w.heap.size + 1) 9 1 (.slice A L.length cp) L.length (strs L) ∧ w1.heap.size ≤ w'.heap.size ∧ Below w.heap.size w w') (fun _ i _ => L.length - (intOf i).toNat)
  case atStart => exact ⟨0, by omega, rfl, HO1.out, fun k hk => .inl (by simp [Value.ownBlock] at hk; exact hk.symm), HL1.out, Nat.le_refl _, HB1.out⟩
  case round =>
    obtain ⟨q, hq, rfl, ho, haw, hl, hsz, hb⟩ := hrel
    obtain ⟨wo, rfl⟩ : ∃ x : World, x = wr := ⟨_, rfl⟩
    obtain ⟨Ao, cpo, rfl⟩ := own_slice ho
    have HO := Lib.hid ho
    have HA := Lib.hid haw
    have HL := Lib.hid hl
    have HB := Lib.hid hb
    have hszb := hb.size
    by_cases hlt : q < L.length
    · obtain ⟨g, c, he, _⟩ := own_some hl (by omega)
      injection he with hA _ hc
      subst hA; subst hc
      have g1 := own_str_at hl q hlt
      have HC := Lib.hid (fun w => specNext s L[q] b w (by omega) (by have := HLS.out L[q] (List.getElem_mem _); omega))
      have hll := HLL.out
      have hpl := spcTo_length s b L q
      by_cases hp : 1 < (nxtS s L[q] b).size
      · have d1 : decide ((1 : Int) < ((nxtS s L[q] b).size : Int)) = true := by simp; omega
        have d2 : decide (1 < (nxtS s L[q] b).size) = true := by simpa using hp
        have HS := Lib.hid (spcTo_yes hlt hp)
        clear ho haw hl hb hp
        go_wp2_with (first
          | (go_at_call 98
             refine (HC.out _).mono ?_
             rintro e w' ⟨rfl, rfl⟩)
          | (at_builtin
             refine wpList_append1p _ rfl (.tmp 25) (.tmp 27) _ rfl w.heap.size 9 i0 _ 16 Try.underlying23 hi0 hz0 hz1 hz2 rfl _ (spcTo s b L q).length _ rfl HO.out (.string L[q]) rfl rfl (by unfold maxLen; omega) (by omega) (by omega) ?_
             intro v' w3 hown3 hgr3 hat3
             have HOW := Lib.hid hown3
             have HGR := Lib.hid hgr3
             have HAT := Lib.hid hat3
             clear hown3 hgr3 hat3))
        go_roundw
        case rel =>
          refine ⟨q + 1, by omega, by go_num, ?_, HA.out.next hsz HAT.out, HA.out.keeps HGR.out HL.out (by omega) HLT.out, Nat.le_trans hsz HGR.out.size, HB.out.grown HGR.out hszb (fun k hk => (HO.out.lt k hk).1)⟩
          rw [HS.out, List.length_append, strs_snoc]
          exact HOW.out
        case measure => simp [intOf]; omega
      · have d1 : decide ((1 : Int) < ((nxtS s L[q] b).size : Int)) = false := by simp; omega
        have d2 : decide (1 < (nxtS s L[q] b).size) = false := by simpa using hp
        have HS := Lib.hid (spcTo_no hlt hp)
        clear ho haw hl hb hp
        go_wp2_with (go_at_call 98
                     refine (HC.out _).mono ?_
                     rintro e w' ⟨rfl, rfl⟩)
        go_roundw
        case rel => exact ⟨q + 1, by omega, by go_num, by rw [HS.out]; exact HO.out, HA.out, HL.out, hsz, HB.out⟩
        case measure => simp [intOf]; omega
    · have hql : q = L.length := by omega
      have HE : Hid (spcTo s b L q = spcL s n b) := by show spcTo s b L q = _; rw [HV.out, hql]
      clear ho haw hl hb hql
      go_wp2_with fail
      go_ret
      exact ⟨_, rfl, by rw [← HE.out]; exact HO.out, HB.out⟩

theorem spcR_leRightSpecial (s : ByteArray) (n : Int) : (spcR s n false).length ≤ 400 := by
  unfold spcR
  split
  · rename_i h
    unfold fctOk at h
    simp only [Bool.and_eq_true, decide_eq_true_eq] at h
    have h1 := word_size h.1
    have h2 := fctL_length s n.toNat
    have h3 : (spcL s n.toNat false).length ≤ (fctL s n.toNat).length := List.length_filter_le _ _
    omega
  · simp
set_option maxHeartbeats 400000 in
theorem specRightSpecial (s : ByteArray) (n : Int) (w : World) (_ : s.size ≤ 1048576) :
    Calls Try.prog 55 #[.string s, .int .i64 n] w fun e w' => ∃ v, e = .returned v ∧ w'.ownsRow w.heap.size 9 1 v (spcR s n false).length (strs (spcR s n false)) ∧ Below w.heap.size w w' := by
  by_cases hw : wordB s = true
  · by_cases hn : 1 ≤ n ∧ n ≤ 400
    · obtain ⟨m, rfl⟩ : ∃ m : Nat, n = m := ⟨n.toNat, by omega⟩
      have hm1 : 1 ≤ m := by omega
      have hm2 : m ≤ 400 := by omega
      have h4 := word_size hw
      have d1 : decide ((1 : Int) ≤ (m : Int)) = true := by simp; omega
      have d2 : decide ((m : Int) ≤ (400 : Int)) = true := by simp; omega
      have HW := Lib.hid hw
      have HOK : Hid (fctOk s m = true) := by show fctOk s m = true; unfold fctOk; rw [hw, d1, d2]; rfl
      have HV : Hid (spcR s m false = spcL s m false) := if_pos HOK.out
      have HF := Lib.hid (fun w => specSpecial s m false w h4 hm1 (by omega))
      clear hw hn
      go_enter Try.func55, Try.ntmps55
      go_wp2_with fail
      refine (specWordOk s _).mono ?_
      rintro e w' ⟨rfl, rfl⟩
      rw [HW.out]
      go_wp2_with fail
      refine (specIn _ _ _ _).mono ?_
      rintro e w' ⟨rfl, rfl⟩
      go_wp2_with fail
      refine (HF.out _).mono ?_
      rintro e w2 ⟨v, rfl, ho, hb⟩
      obtain ⟨A, cp, rfl⟩ := own_slice ho
      have HO := Lib.hid ho
      have HB := Lib.hid hb
      clear ho hb
      go_wp2_with fail
      go_ret
      refine ⟨_, rfl, ?_, HB.out⟩
      rw [HV.out]
      exact HO.out
    · have d1 : (decide ((1 : Int) ≤ n) && decide (n ≤ (400 : Int))) = false := by simp; omega
      have HNO : Hid (fctOk s n = false) := by show fctOk s n = false; unfold fctOk; rw [d1, Bool.and_false]
      have HW := Lib.hid hw
      have HV : Hid (spcR s n false = []) := by show spcR s n false = []; unfold spcR; rw [HNO.out]; rfl
      clear hw hn
      go_enter Try.func55, Try.ntmps55
      go_wp2_with fail
      refine (specWordOk s _).mono ?_
      rintro e w' ⟨rfl, rfl⟩
      rw [HW.out]
      go_wp2_with fail
      refine (specIn _ _ _ _).mono ?_
      rintro e w' ⟨rfl, rfl⟩
      go_wp2_with fail
      go_ret
      refine ⟨_, rfl, ?_, Below.refl _ _⟩
      rw [HV.out]
      exact World.ownsRow_nil _ _ _ _
  · have hw' : wordB s = false := by simpa using hw
    have HW := Lib.hid hw'
    have HNO : Hid (fctOk s n = false) := by show fctOk s n = false; unfold fctOk; rw [hw']; rfl
    have HV : Hid (spcR s n false = []) := by show spcR s n false = []; unfold spcR; rw [HNO.out]; rfl
    clear hw hw'
    go_enter Try.func55, Try.ntmps55
    go_wp2_with fail
    refine (specWordOk s _).mono ?_
    rintro e w' ⟨rfl, rfl⟩
    rw [HW.out]
    go_wp2_with fail
    go_ret
    refine ⟨_, rfl, ?_, Below.refl _ _⟩
    rw [HV.out]
    exact World.ownsRow_nil _ _ _ _

theorem spcR_leLeftSpecial (s : ByteArray) (n : Int) : (spcR s n true).length ≤ 400 := by
  unfold spcR
  split
  · rename_i h
    unfold fctOk at h
    simp only [Bool.and_eq_true, decide_eq_true_eq] at h
    have h1 := word_size h.1
    have h2 := fctL_length s n.toNat
    have h3 : (spcL s n.toNat true).length ≤ (fctL s n.toNat).length := List.length_filter_le _ _
    omega
  · simp
set_option maxHeartbeats 400000 in
theorem specLeftSpecial (s : ByteArray) (n : Int) (w : World) (_ : s.size ≤ 1048576) :
    Calls Try.prog 56 #[.string s, .int .i64 n] w fun e w' => ∃ v, e = .returned v ∧ w'.ownsRow w.heap.size 9 1 v (spcR s n true).length (strs (spcR s n true)) ∧ Below w.heap.size w w' := by
  by_cases hw : wordB s = true
  · by_cases hn : 1 ≤ n ∧ n ≤ 400
    · obtain ⟨m, rfl⟩ : ∃ m : Nat, n = m := ⟨n.toNat, by omega⟩
      have hm1 : 1 ≤ m := by omega
      have hm2 : m ≤ 400 := by omega
      have h4 := word_size hw
      have d1 : decide ((1 : Int) ≤ (m : Int)) = true := by simp; omega
      have d2 : decide ((m : Int) ≤ (400 : Int)) = true := by simp; omega
      have HW := Lib.hid hw
      have HOK : Hid (fctOk s m = true) := by show fctOk s m = true; unfold fctOk; rw [hw, d1, d2]; rfl
      have HV : Hid (spcR s m true = spcL s m true) := if_pos HOK.out
      have HF := Lib.hid (fun w => specSpecial s m true w h4 hm1 (by omega))
      clear hw hn
      go_enter Try.func56, Try.ntmps56
      go_wp2_with fail
      refine (specWordOk s _).mono ?_
      rintro e w' ⟨rfl, rfl⟩
      rw [HW.out]
      go_wp2_with fail
      refine (specIn _ _ _ _).mono ?_
      rintro e w' ⟨rfl, rfl⟩
      go_wp2_with fail
      refine (HF.out _).mono ?_
      rintro e w2 ⟨v, rfl, ho, hb⟩
      obtain ⟨A, cp, rfl⟩ := own_slice ho
      have HO := Lib.hid ho
      have HB := Lib.hid hb
      clear ho hb
      go_wp2_with fail
      go_ret
      refine ⟨_, rfl, ?_, HB.out⟩
      rw [HV.out]
      exact HO.out
    · have d1 : (decide ((1 : Int) ≤ n) && decide (n ≤ (400 : Int))) = false := by simp; omega
      have HNO : Hid (fctOk s n = false) := by show fctOk s n = false; unfold fctOk; rw [d1, Bool.and_false]
      have HW := Lib.hid hw
      have HV : Hid (spcR s n true = []) := by show spcR s n true = []; unfold spcR; rw [HNO.out]; rfl
      clear hw hn
      go_enter Try.func56, Try.ntmps56
      go_wp2_with fail
      refine (specWordOk s _).mono ?_
      rintro e w' ⟨rfl, rfl⟩
      rw [HW.out]
      go_wp2_with fail
      refine (specIn _ _ _ _).mono ?_
      rintro e w' ⟨rfl, rfl⟩
      go_wp2_with fail
      go_ret
      refine ⟨_, rfl, ?_, Below.refl _ _⟩
      rw [HV.out]
      exact World.ownsRow_nil _ _ _ _
  · have hw' : wordB s = false := by simpa using hw
    have HW := Lib.hid hw'
    have HNO : Hid (fctOk s n = false) := by show fctOk s n = false; unfold fctOk; rw [hw']; rfl
    have HV : Hid (spcR s n true = []) := by show spcR s n true = []; unfold spcR; rw [HNO.out]; rfl
    clear hw hw'
    go_enter Try.func56, Try.ntmps56
    go_wp2_with fail
    refine (specWordOk s _).mono ?_
    rintro e w' ⟨rfl, rfl⟩
    rw [HW.out]
    go_wp2_with fail
    go_ret
    refine ⟨_, rfl, ?_, Below.refl _ _⟩
    rw [HV.out]
    exact World.ownsRow_nil _ _ _ _
end Go.Proofs.Ytfcbfflkajlhnaa

/- l06At of the model: the index of a string in a list. -/
namespace Go.Proofs.Ytfcbfflkajlhnaa
open Go.RowKit

theorem atN_le (l : List ByteArray) (x : ByteArray) : atN l x ≤ l.length := List.findIdx_le_length
theorem atR_found {l : List ByteArray} {x : ByteArray} {q : Nat} (hq : q < l.length) (h : (x.toList == l[q].toList) = true) (hn : ∀ j (hj : j < l.length), j < q → (x.toList == l[j].toList) = false) : atR l x = (q : Int) := by
  have e : atN l x = q := by
    unfold atN
    rw [List.findIdx_eq hq]
    exact ⟨h, fun j hj => hn j (by omega) hj⟩
  unfold atR
  rw [e, if_pos hq]
theorem atR_none {l : List ByteArray} {x : ByteArray} (hn : ∀ j (hj : j < l.length), (x.toList == l[j].toList) = false) : atR l x = -1 := by
  have e : atN l x = l.length := by
    unfold atN
    rw [List.findIdx_eq_length]
    intro y hy
    obtain ⟨j, hj, rfl⟩ := List.mem_iff_getElem.1 hy
    exact hn j hj
  unfold atR
  rw [e, if_neg (by omega)]

set_option maxHeartbeats 400000 in
theorem specAt (l : List ByteArray) (x : ByteArray) (v : Value) (w : World) (h : Lst w v (strs l)) (hn : l.length ≤ 1048576) :
    Calls Try.prog 100 #[v, .string x] w fun e w' => e = .returned (.int .i64 (atR l x)) ∧ w = w' := by
  obtain ⟨A, cp, rfl⟩ := lst_slice h
  rw [strs_length] at h ⊢
  have HL := Lib.hid h
  clear h
  go_enter Try.func100, Try.ntmps100
  go_wp2_with fail
  go_loop [9] (fun i => ∃ q : Nat, q ≤ l.length ∧ i = .int .i64 q ∧ ∀ j (hj : j < l.length), j < q → (x.toList == l[j].toList) = false) (fun i => l.length - (intOf i).toNat)
  case atStart => exact ⟨0, by omega, rfl, fun j _ hj => absurd hj (by omega)⟩
  case round =>
    obtain ⟨q, hq, rfl, hno⟩ := hrel
    have HNO := Lib.hid hno
    clear hno
    by_cases hlt : q < l.length
    · obtain ⟨b, off, cap, he, hat⟩ := lst_at HL.out (by omega)
      injection he with hA _ hc
      subst hA; subst hc
      have g1 := hat q hlt
      clear hat
      cases hx : x.toList == l[q].toList
      · have HX := Lib.hid hx
        go_wp2_with fail
        go_round
        case rel =>
          refine ⟨q + 1, by omega, by go_num, fun j hj hjq => ?_⟩
          by_cases e : j = q
          · subst e; exact HX.out
          · exact HNO.out j hj (by omega)
        case measure => simp [intOf]; omega
      · have HR := Lib.hid (atR_found hlt hx HNO.out)
        go_wp2_with fail
        go_ret
        exact ⟨by rw [HR.out]; rfl, rfl⟩
    · have HR := Lib.hid (atR_none (l := l) (x := x) fun j hj => HNO.out j hj (by omega))
      go_wp2_with fail
      go_ret
      exact ⟨by rw [HR.out]; rfl, rfl⟩
end Go.Proofs.Ytfcbfflkajlhnaa
