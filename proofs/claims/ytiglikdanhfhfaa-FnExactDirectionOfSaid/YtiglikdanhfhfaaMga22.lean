/- Texts put together. -/
import Derived.Test.YtiglikdanhfhfaaMga21
import Derived.Test.YtiglikdanhfhfaaMga18
import Derived.Test.YtiglikdanhfhfaaMga6
import Derived.Test.YtiglikdanhfhfaaMga20
/- Chapter 7 of the model: RightSpecial, LeftSpecial. Conditions: lengths of at most 2^20. -/
namespace Go.Proofs.Ytiglikdanhfhfaa
open Go.RowKit

theorem facTo_size (s : ByteArray) (n i : Nat) (x : ByteArray) (h : x ∈ facTo s n i) : x.size ≤ n ∧ x.size ≤ s.size := by
  obtain ⟨j, _, rfl⟩ := (facTo_mem s n x i).1 h
  rw [ByteArray.size_extract]
  omega
noncomputable def spcTo (s : ByteArray) (b : Bool) (L : List ByteArray) (q : Nat) : List ByteArray := (L.take q).filter fun f => decide (1 < (nxtS s f b).size)
theorem spcTo_yes {s : ByteArray} {b : Bool} {L : List ByteArray} {q : Nat} (hq : q < L.length) (h : 1 < (nxtS s L[q] b).size) : spcTo s b L (q + 1) = spcTo s b L q ++ [L[q]] := by
  unfold spcTo
  rw [List.take_succ_eq_append_getElem hq, List.filter_append, List.filter_cons_of_pos (by simpa using h), List.filter_nil]
theorem spcTo_no {s : ByteArray} {b : Bool} {L : List ByteArray} {q : Nat} (hq : q < L.length) (h : ¬ 1 < (nxtS s L[q] b).size) : spcTo s b L (q + 1) = spcTo s b L q := by
  unfold spcTo
  rw [List.take_succ_eq_append_getElem hq, List.filter_append, List.filter_cons_of_neg (by simpa using h), List.filter_nil, List.append_nil]
theorem spcTo_length (s : ByteArray) (b : Bool) (L : List ByteArray) (q : Nat) : (spcTo s b L q).length ≤ q := by
  unfold spcTo
  exact Nat.le_trans (List.length_filter_le _ _) (by simp; omega)

theorem spcR_leRightSpecial (s : ByteArray) (n : Int) : (spcR s n false).length ≤ 400 := by
  unfold spcR
  split
  · rename_i h
    unfold fctOk at h
    simp only [Bool.and_eq_true, decide_eq_true_eq] at h
    have h1 := word_size h.1
    have h2 := fctL_length s n.toNat
    have h3 : (spcL s n.toNat false).length ≤ (fctL s n.toNat).length := List.length_filter_le _ _
    omega
  · simp
theorem spcR_leLeftSpecial (s : ByteArray) (n : Int) : (spcR s n true).length ≤ 400 := by
  unfold spcR
  split
  · rename_i h
    unfold fctOk at h
    simp only [Bool.and_eq_true, decide_eq_true_eq] at h
    have h1 := word_size h.1
    have h2 := fctL_length s n.toNat
    have h3 : (spcL s n.toNat true).length ≤ (fctL s n.toNat).length := List.length_filter_le _ _
    omega
  · simp
end Go.Proofs.Ytiglikdanhfhfaa

/- l06At of the model: the index of a string in a list. -/
namespace Go.Proofs.Ytiglikdanhfhfaa
open Go.RowKit

theorem atN_le (l : List ByteArray) (x : ByteArray) : atN l x ≤ l.length := List.findIdx_le_length
theorem atR_found {l : List ByteArray} {x : ByteArray} {q : Nat} (hq : q < l.length) (h : (x.toList == l[q].toList) = true) (hn : ∀ j (hj : j < l.length), j < q → (x.toList == l[j].toList) = false) : atR l x = (q : Int) := by
  have e : atN l x = q := by
    unfold atN
    rw [List.findIdx_eq hq]
    exact ⟨h, fun j hj => hn j (by omega) hj⟩
  unfold atR
  rw [e, if_pos hq]
theorem atR_none {l : List ByteArray} {x : ByteArray} (hn : ∀ j (hj : j < l.length), (x.toList == l[j].toList) = false) : atR l x = -1 := by
  have e : atN l x = l.length := by
    unfold atN
    rw [List.findIdx_eq_length]
    intro y hy
    obtain ⟨j, hj, rfl⟩ := List.mem_iff_getElem.1 hy
    exact hn j hj
  unfold atR
  rw [e, if_neg (by omega)]

set_option maxHeartbeats 400000 in
theorem specAt (l : List ByteArray) (x : ByteArray) (v : Value) (w : World) (h : Lst w v (strs l)) (hn : l.length ≤ 1048576) :
    Calls Try.prog 57 #[v, .string x] w fun e w' => e = .returned (.int .i64 (atR l x)) ∧ w = w' := by
  obtain ⟨A, cp, rfl⟩ := lst_slice h
  rw [strs_length] at h ⊢
  have HL := Lib.hid h
  clear h
  go_enter Try.func57, Try.ntmps57
  go_wp2_with fail
  go_loop [9] (fun i => ∃ q : Nat, q ≤ l.length ∧ i = .int .i64 q ∧ ∀ j (hj : j < l.length), j < q → (x.toList == l[j].toList) = false) (fun i => l.length - (intOf i).toNat)
  case atStart => exact ⟨0, by omega, rfl, fun j _ hj => absurd hj (by omega)⟩
  case round =>
    obtain ⟨q, hq, rfl, hno⟩ := hrel
    have HNO := Lib.hid hno
    clear hno
    by_cases hlt : q < l.length
    · obtain ⟨b, off, cap, he, hat⟩ := lst_at HL.out (by omega)
      injection he with hA _ hc
      subst hA; subst hc
      have g1 := hat q hlt
      clear hat
      cases hx : x.toList == l[q].toList
      · have HX := Lib.hid hx
        go_wp2_with fail
        go_round
        case rel =>
          refine ⟨q + 1, by omega, by go_num, fun j hj hjq => ?_⟩
          by_cases e : j = q
          · subst e; exact HX.out
          · exact HNO.out j hj (by omega)
        case measure => simp [intOf]; omega
      · have HR := Lib.hid (atR_found hlt hx HNO.out)
        go_wp2_with fail
        go_ret
        exact ⟨by rw [HR.out]; rfl, rfl⟩
    · have HR := Lib.hid (atR_none (l := l) (x := x) fun j hj => HNO.out j hj (by omega))
      go_wp2_with fail
      go_ret
      exact ⟨by rw [HR.out]; rfl, rfl⟩
end Go.Proofs.Ytiglikdanhfhfaa

/- Chapter 9 of the model: DirectedWord, DirectionOf, IsClosedUnderTurn. Conditions: lengths of at most 2^20. -/
namespace Go.Proofs.Ytiglikdanhfhfaa
open Go.RowKit Go.Lib

theorem dwB_size {d : ByteArray} : ∀ {i : Nat}, dwB d i = true → (dwS d i).size ≤ 400
  | 0, _ => Nat.zero_le _
  | i + 1, h => by
    have h : (dwB d i && wordB (dwS d (i + 1))) = true := h
    rw [Bool.and_eq_true] at h
    exact word_size h.2

set_option maxRecDepth 100000 in
set_option maxHeartbeats 1000000 in
theorem specDirectedWord (s : ByteArray) (w : World) (_ : s.size ≤ 1048576) :
    Calls Try.prog 37 #[.string s] w (PairSaid (dwR s) (dwOk s) w) := by
  unfold PairSaid
  cases hw : wordB s
  · have HW := Lib.hid hw
    have hk : dwOk s = false := by unfold dwOk; rw [hw]; rfl
    have hv : dwR s = ⟨#[]⟩ := if_neg (by rw [hk]; decide)
    rw [hv, hk]
    clear hw hv hk
    go_enter Try.func37, Try.ntmps37
    go_wp2_with fail
    refine (specWordOk s _).mono ?_
    rintro e w' ⟨rfl, rfl⟩
    rw [HW.out]
    go_wp2_with fail
    go_ret2
    exact ⟨rfl, Below.refl _ _⟩
  have HW := Lib.hid hw
  by_cases h12 : 12 < s.size
  · have hk : dwOk s = false := by unfold dwOk; rw [decide_eq_false (show ¬ s.size ≤ 12 by omega), Bool.false_and, Bool.and_false]
    have hv : dwR s = ⟨#[]⟩ := if_neg (by rw [hk]; decide)
    have d1 : decide ((12 : Int) < (s.size : Int)) = true := by simp; omega
    rw [hv, hk]
    clear hw hv hk
    go_enter Try.func37, Try.ntmps37
    go_wp2_with fail
    refine (specWordOk s _).mono ?_
    rintro e w' ⟨rfl, rfl⟩
    rw [HW.out]
    go_wp2_with fail
    go_ret2
    exact ⟨rfl, Below.refl _ _⟩
  have d1 : decide ((12 : Int) < (s.size : Int)) = false := by simp; omega
  have HK : Hid (dwOk s = dwB s s.size) := by
    show dwOk s = _
    unfold dwOk
    rw [hw, decide_eq_true (show s.size ≤ 12 by omega)]
    rfl
  have HNO : Hid (∀ i, i ≤ s.size → dwB s i = false → dwOk s = false ∧ dwR s = ⟨#[]⟩) := fun i hi h => by
    have hk : dwOk s = false := by rw [HK.out, dwB_no h s.size hi]
    exact ⟨hk, if_neg (by rw [hk]; decide)⟩
  have HYES : Hid (dwB s s.size = true → dwOk s = true ∧ dwR s = dwS s s.size) := fun h => by
    have hk : dwOk s = true := by rw [HK.out, h]
    exact ⟨hk, if_pos hk⟩
  have HLOW := Lib.hid (word_low hw)
  have HSZ := Lib.hid (fun i (h : dwB s i = true) => dwB_size h)
  have HST : Hid (∀ i, clS (dwS s i ++ s.extract i (i + 1)) = dwS s (i + 1)) := fun i => rfl
  have HBN : Hid (∀ i, dwB s i = true → dwB s (i + 1) = wordB (dwS s (i + 1))) := fun i h => by
    show (dwB s i && wordB (dwS s (i + 1))) = _
    rw [h]
    rfl
  have HZ : Hid (dwS s 0 = ⟨#[]⟩ ∧ dwB s 0 = true) := ⟨rfl, rfl⟩
  clear hw HK
  generalize dwOk s = ok at HNO HYES ⊢
  generalize dwR s = r at HNO HYES ⊢
  generalize dwB s = B at HNO HYES HSZ HBN HZ
  generalize dwS s = D at HYES HSZ HST HBN HZ
  go_enter Try.func37, Try.ntmps37
  go_wp2_with fail
  refine (specWordOk s _).mono ?_
  rintro e w' ⟨rfl, rfl⟩
  rw [HW.out]
  go_wp2_with fail
  go_loopw [4] (fun o w' => ∃ i : Nat, i ≤ s.size ∧ o = .string (D i) ∧ B i = true ∧ w'.heap[w.heap.size]? = some (.stringIter s i) ∧ Below w.heap.size w w') (fun _ w' => s.size - w'.iterPos w.heap.size)
  case atStart => exact ⟨0, by omega, by rw [HZ.out.1], HZ.out.2, World.iter_heap w s 0, below_iter w s 0⟩
  case round =>
    obtain ⟨i, hi, rfl, hB, hit, hb⟩ := hrel
    obtain ⟨wi, rfl⟩ : ∃ y : World, y = wr := ⟨_, rfl⟩
    have hitlt := (Array.getElem?_eq_some_iff.1 hit).1
    have HBI := Lib.hid hB
    have hds := HSZ.out i hB
    clear hB
    by_cases hlt : i < s.size
    · have hnx : ∀ ty, (Instr.next (.pointer (some ⟨w.heap.size, 0, none⟩)) true ty).run Try.prog wi = _ := fun ty => run_next_ascii_at wi w.heap.size s i ty hit hlt (HLOW.out i hlt)
      have hi2 := iterAt_heap wi w.heap.size s i (i + 1) hit
      have hb2 := below_iterAt (k := w.heap.size) hb (Nat.le_refl _) s (i + 1)
      have hsz2 := iterAt_size wi w.heap.size s (i + 1)
      have hpos0 := iterPos_at hit
      have hsl : ∀ w : World, (Instr.slice 9 (.string s) (some (.int .i64 (i : Int))) (some (.int .i64 ((i : Int) + 1))) none).run Try.prog w = .ok (.string (s.extract i (i + 1))) w := fun w => slice_gen Try.underlying9 s _ _ i (i + 1) w rfl (by omega) (by omega) (by omega)
      have hxz : (s.extract i (i + 1)).size = 1 := by rw [ByteArray.size_extract]; omega
      have HC0 : Hid (∀ w, Calls Try.prog 54 #[.string (D i ++ s.extract i (i + 1))] w fun e w' => e = .returned (.string (D (i + 1))) ∧ Below w.heap.size w w') := fun w => by
        have := specClose (D i ++ s.extract i (i + 1)) w (by rw [ByteArray.size_append]; omega)
        rwa [HST.out i] at this
      have HN := Lib.hid (HBN.out i HBI.out)
      have HNX := Lib.hid (HNO.out (i + 1) (by omega))
      have HI2 := Lib.hid hi2
      have HB2 := Lib.hid hb2
      clear hi2 hb2 hit hb
      generalize wi.iterAt w.heap.size s (i + 1) = w2 at hnx HI2 HB2 hsz2
      generalize s.extract i (i + 1) = x at hsl hxz HC0
      generalize hD : D (i + 1) = y at HC0 HN
      have HD := Lib.hid hD
      clear hD
      generalize D i = z at hds HC0 ⊢
      cases hy : wordB y
      · have HR := Lib.hid (HNX.out (by rw [HN.out, hy]))
        have HWY := Lib.hid hy
        clear hy
        go_wp2_with fail
        refine (HC0.out _).mono ?_
        rintro e w3 ⟨rfl, hb⟩
        have HB3 : Hid (Below w.heap.size w w3) := HB2.out.trans (hb.mono HB2.out.size)
        clear hb
        go_wp2_with fail
        refine (specWordOk y _).mono ?_
        rintro e w' ⟨rfl, rfl⟩
        rw [HWY.out]
        go_wp2_with fail
        go_ret2
        exact ⟨by rw [HR.out.1, HR.out.2]; rfl, HB3.out⟩
      · have HWY := Lib.hid hy
        have HBB : Hid (B (i + 1) = true) := by show _ = _; rw [HN.out, hy]
        clear hy
        go_wp2_with fail
        refine (HC0.out _).mono ?_
        rintro e w3 ⟨rfl, hb⟩
        have HB3 : Hid (Below w.heap.size w w3) := HB2.out.trans (hb.mono HB2.out.size)
        have HI3 : Hid (w3.heap[w.heap.size]? = some (.stringIter s (i + 1))) := (hb.block w.heap.size (by rw [hsz2]; exact hitlt)).trans HI2.out
        clear hb
        go_wp2_with fail
        refine (specWordOk y _).mono ?_
        rintro e w' ⟨rfl, rfl⟩
        rw [HWY.out]
        go_wp2_with fail
        go_roundw
        case rel => exact ⟨i + 1, by omega, by rw [HD.out], HBB.out, HI3.out, HB3.out⟩
        case measure =>
          have e1 := iterPos_at HI3.out
          rw [e1, hpos0]
          omega
    · have hii : i = s.size := by omega
      have hnx : ∀ ty, (Instr.next (.pointer (some ⟨w.heap.size, 0, none⟩)) true ty).run Try.prog wi = _ := fun ty => run_next_end_at wi w.heap.size s i ty hit hlt
      have HR : Hid (ok = true ∧ r = D i) := by
        have := HYES.out (by rw [← hii]; exact HBI.out)
        rw [← hii] at this
        exact this
      have HB := Lib.hid hb
      clear hii hb hit
      go_wp2_with fail
      go_ret2
      exact ⟨by rw [HR.out.1, HR.out.2]; rfl, HB.out⟩

theorem dr_done {s : ByteArray} {n : Nat} (h : s.size ≤ (drS s n).2.size) : ∀ k, drS s (n + k) = drS s n
  | 0 => rfl
  | k + 1 => by
    have ih := dr_done h k
    show (let y := drS s (n + k); if y.2.size < s.size then (y.1 ++ s.extract y.2.size (y.2.size + 1), clS (y.2 ++ s.extract y.2.size (y.2.size + 1))) else y) = _
    rw [ih]
    show (if (drS s n).2.size < s.size then _ else drS s n) = _
    rw [if_neg (by omega)]
theorem dr_step {s : ByteArray} {n : Nat} (h : (drS s n).2.size < s.size) : drS s (n + 1) = ((drS s n).1 ++ s.extract (drS s n).2.size ((drS s n).2.size + 1), clS ((drS s n).2 ++ s.extract (drS s n).2.size ((drS s n).2.size + 1))) := if_pos h

set_option maxRecDepth 100000 in
set_option maxHeartbeats 1000000 in
theorem specDirectionOf (s : ByteArray) (w : World) (_ : s.size ≤ 1048576) :
    Calls Try.prog 38 #[.string s] w (PairSaid (drR s) (drOk s) w) := by
  unfold PairSaid
  cases hw : wordB s
  · have HW := Lib.hid hw
    have hk : drOk s = false := by unfold drOk; rw [hw]; rfl
    have hv : drR s = ⟨#[]⟩ := if_neg (by rw [hk]; decide)
    rw [hv, hk]
    clear hw hv hk
    go_enter Try.func38, Try.ntmps38
    go_wp2_with fail
    refine (specWordOk s _).mono ?_
    rintro e w' ⟨rfl, rfl⟩
    rw [HW.out]
    go_wp2_with fail
    go_ret2
    exact ⟨rfl, Below.refl _ _⟩
  have HW := Lib.hid hw
  have h4 := word_size hw
  have HK : Hid (drOk s = drB s) := by show drOk s = _; unfold drOk; rw [hw]; rfl
  have HYES : Hid ((drS s 12).2 = s → drOk s = true ∧ drR s = (drS s 12).1) := fun h => by
    have hk : drOk s = true := by rw [HK.out]; unfold drB; rw [h]; exact @decide_eq_true _ (Classical.propDecidable _) rfl
    exact ⟨hk, if_pos hk⟩
  have HNO : Hid ((drS s 12).2 ≠ s → drOk s = false ∧ drR s = ⟨#[]⟩) := fun h => by
    have hk : drOk s = false := by rw [HK.out]; exact @decide_eq_false _ (Classical.propDecidable _) h
    exact ⟨hk, if_neg (by rw [hk]; decide)⟩
  have HDN := Lib.hid (fun n (h : s.size ≤ (drS s n).2.size) k => dr_done h k)
  have HSP := Lib.hid (fun n h => dr_step (s := s) (n := n) h)
  have HZ : Hid (drS s 0 = (⟨#[]⟩, ⟨#[]⟩)) := rfl
  clear hw HK
  generalize drOk s = ok at HNO HYES ⊢
  generalize drR s = r at HNO HYES ⊢
  generalize drS s = D at HNO HYES HDN HSP HZ
  go_enter Try.func38, Try.ntmps38
  go_wp2_with fail
  refine (specWordOk s _).mono ?_
  rintro e w' ⟨rfl, rfl⟩
  rw [HW.out]
  go_wp2_with fail
  go_loopw [4, 5] (fun a b w' => ∃ i : Nat, ∃ x y : ByteArray, i ≤ 12 ∧ D i = (x, y) ∧ x.size = i ∧ y.size ≤ 1000 ∧ a = .string x ∧ b = .string y ∧ Below w.heap.size w w') (fun a _ _ => match a with | .string x => 12 - x.size | _ => 0)
  case atStart => exact ⟨0, ⟨#[]⟩, ⟨#[]⟩, by omega, HZ.out, rfl, by show 0 ≤ 1000; omega, rfl, rfl, Below.refl _ _⟩
  case round =>
    obtain ⟨i, x, y, hi, hD, hx, hy, rfl, rfl, hb⟩ := hrel
    obtain ⟨wi, rfl⟩ : ∃ y : World, y = wr := ⟨_, rfl⟩
    have HD := Lib.hid hD
    have HB := Lib.hid hb
    clear hD hb
    by_cases hgo : y.size < s.size ∧ i < 12
    · obtain ⟨hlt, h12⟩ := hgo
      have d1 : decide ((y.size : Int) < (s.size : Int)) = true := by simp; omega
      have d2 : decide ((x.size : Int) < 12) = true := by simp; omega
      have hsl : ∀ w : World, (Instr.slice 9 (.string s) (some (.int .i64 (y.size : Int))) (some (.int .i64 ((y.size : Int) + 1))) none).run Try.prog w = .ok (.string (s.extract y.size (y.size + 1))) w := fun w => slice_gen Try.underlying9 s _ _ y.size (y.size + 1) w rfl (by omega) (by omega) (by omega)
      have hxz : (s.extract y.size (y.size + 1)).size = 1 := by rw [ByteArray.size_extract]; omega
      have HN : Hid (D (i + 1) = (x ++ s.extract y.size (y.size + 1), clS (y ++ s.extract y.size (y.size + 1)))) := by
        have := HSP.out i (by rw [HD.out]; exact hlt)
        rw [HD.out] at this
        exact this
      have HC := Lib.hid (fun w => specClose (y ++ s.extract y.size (y.size + 1)) w (by rw [ByteArray.size_append]; omega))
      have hcz : (clS (y ++ s.extract y.size (y.size + 1))).size ≤ 1000 := by
        have h1 := clS_size (y ++ s.extract y.size (y.size + 1))
        have h2 := clK_le (y ++ s.extract y.size (y.size + 1))
        rw [ByteArray.size_append] at h1 h2
        omega
      have hxs : (x ++ s.extract y.size (y.size + 1)).size = i + 1 := by rw [ByteArray.size_append]; omega
      generalize s.extract y.size (y.size + 1) = z at hsl hxz HN HC hcz hxs
      generalize clS (y ++ z) = c at HN HC hcz
      clear HD
      go_wp2_with fail
      refine (HC.out _).mono ?_
      rintro e w3 ⟨rfl, hb⟩
      have HB3 : Hid (Below w.heap.size w w3) := HB.out.trans (hb.mono HB.out.size)
      clear hb
      go_wp2_with fail
      go_roundw
      case rel => exact ⟨i + 1, x ++ z, c, by omega, HN.out, hxs, hcz, rfl, rfl, HB3.out⟩
      case measure => show 12 - (x ++ z).size < 12 - x.size; omega
    · have HE : Hid (D 12 = (x, y)) := by
        show _ = _
        by_cases h12 : i = 12
        · rw [← h12]; exact HD.out
        · have := HDN.out i (by rw [HD.out]; show s.size ≤ y.size; omega) (12 - i)
          rw [Nat.add_sub_cancel' hi] at this
          rw [this]; exact HD.out
      have hcond : (¬ y.size < s.size ∧ decide ((y.size : Int) < (s.size : Int)) = false) ∨ (y.size < s.size ∧ ¬ x.size < 12 ∧ decide ((y.size : Int) < (s.size : Int)) = true ∧ decide ((x.size : Int) < 12) = false) := by
        by_cases hlt : y.size < s.size
        · right
          have : ¬ i < 12 := fun h => hgo ⟨hlt, h⟩
          exact ⟨hlt, by omega, by simp; omega, by simp; omega⟩
        · left
          exact ⟨hlt, by simp; omega⟩
      rw [HE.out] at HNO HYES
      clear hgo HD HE HDN HSP
      by_cases he : y = s
      · have HR := Lib.hid (HYES.out he)
        subst he
        have bq : (y.toList != y.toList) = false := by simp
        rcases hcond with ⟨c1, d1⟩ | ⟨c1, c2, d1, d2⟩
        all_goals
          go_wp2_with fail
          go_ret2
          exact ⟨by rw [HR.out.1, HR.out.2]; rfl, HB.out⟩
      · have HR := Lib.hid (HNO.out he)
        have bq := ne_bytes he
        clear he
        rcases hcond with ⟨c1, d1⟩ | ⟨c1, c2, d1, d2⟩
        all_goals
          go_wp2_with fail
          go_ret2
          exact ⟨by rw [HR.out.1, HR.out.2]; rfl, HB.out⟩

theorem cu_in {l : List ByteArray} {x : ByteArray} (h : x ∈ l) : 0 ≤ atR l x := by
  unfold atR
  have : atN l x < l.length := by
    unfold atN
    exact List.findIdx_lt_length_of_exists ⟨x, h, by simp⟩
  rw [if_pos this]
  omega
theorem cu_out {l : List ByteArray} {x : ByteArray} (h : x ∉ l) : atR l x = -1 := atR_none fun j hj => ne_bytes fun e => h (by rw [e]; exact List.getElem_mem hj)

set_option maxRecDepth 100000 in
set_option maxHeartbeats 1000000 in
theorem specIsClosedUnderTurn (s : ByteArray) (n : Int) (w : World) (_ : s.size ≤ 1048576) :
    Calls Try.prog 39 #[.string s, .int .i64 n] w fun e w' => e = .returned (.bool (cuR s n)) ∧ Below w.heap.size w w' := by
  have HV : Hid (cuR s n = (wordB s && ((decide (1 ≤ n) && decide (n ≤ 60)) && cuB s n.toNat))) := rfl
  cases hw : wordB s
  · have HW := Lib.hid hw
    have HR : Hid (cuR s n = false) := by show cuR s n = false; rw [HV.out, hw]; rfl
    clear hw HV
    go_enter Try.func39, Try.ntmps39
    go_wp2_with fail
    refine (specWordOk s _).mono ?_
    rintro e w' ⟨rfl, rfl⟩
    rw [HW.out]
    go_wp2_with fail
    go_ret
    exact ⟨ret_bool HR.out.symm, Below.refl _ _⟩
  have HW := Lib.hid hw
  have h4 := word_size hw
  cases hin : (decide (1 ≤ n) && decide (n ≤ 60))
  · have HR : Hid (cuR s n = false) := by show cuR s n = false; rw [HV.out, hw, hin]; rfl
    have HIN := Lib.hid hin
    clear hw HV hin
    go_enter Try.func39, Try.ntmps39
    go_wp2_with fail
    refine (specWordOk s _).mono ?_
    rintro e w' ⟨rfl, rfl⟩
    rw [HW.out]
    go_wp2_with fail
    refine (specIn _ _ _ _).mono ?_
    rintro e w' ⟨rfl, rfl⟩
    rw [HIN.out]
    go_wp2_with fail
    go_ret
    exact ⟨ret_bool HR.out.symm, Below.refl _ _⟩
  have HR0 : Hid (cuR s n = cuB s n.toNat) := by show cuR s n = _; rw [HV.out, hw, hin]; rfl
  have HIN := Lib.hid hin
  rw [Bool.and_eq_true, decide_eq_true_eq, decide_eq_true_eq] at hin
  obtain ⟨m, rfl⟩ : ∃ m : Nat, n = m := ⟨n.toNat, by omega⟩
  have HYES : Hid ((∀ f ∈ facTo s m (s.size + 1 - m), turnS f ∈ facTo s m (s.size + 1 - m)) → cuR s m = true) := fun h => by
    rw [HR0.out]
    exact @decide_eq_true _ (Classical.propDecidable _) h
  have HNO : Hid (∀ f ∈ facTo s m (s.size + 1 - m), turnS f ∉ facTo s m (s.size + 1 - m) → cuR s m = false) := fun f h1 h2 => by
    rw [HR0.out]
    exact @decide_eq_false _ (Classical.propDecidable _) (fun h => h2 (h f h1))
  have HF := Lib.hid (fun w => specFactors s m w h4 (by omega) (by omega))
  have hll := facTo_length s m (s.size + 1 - m)
  have HFZ : Hid (∀ f ∈ facTo s m (s.size + 1 - m), f.size ≤ 1048576) := fun f hf => by
    obtain ⟨j, _, rfl⟩ := (facTo_mem s m f _).1 hf
    rw [ByteArray.size_extract]
    omega
  clear hw HV HR0
  generalize facTo s m (s.size + 1 - m) = L at HYES HNO HF hll HFZ
  generalize cuR s (m : Int) = r at HYES HNO ⊢
  have hl4 : L.length ≤ 401 := by omega
  by_cases hl0 : L.length = 0
  · have HR : Hid (r = true) := HYES.out fun f hf => by rw [List.length_eq_zero_iff.1 hl0] at hf; cases hf
    go_enter Try.func39, Try.ntmps39
    go_wp2_with fail
    refine (specWordOk s _).mono ?_
    rintro e w' ⟨rfl, rfl⟩
    rw [HW.out]
    go_wp2_with fail
    refine (specIn _ _ _ _).mono ?_
    rintro e w' ⟨rfl, rfl⟩
    rw [HIN.out]
    go_wp2_with fail
    refine (HF.out _).mono ?_
    rintro e w1 ⟨v, rfl, ho, hb⟩
    obtain ⟨A, cp, rfl⟩ := own_slice ho
    have HB := Lib.hid hb
    clear ho hb
    rw [hl0]
    clear hl0
    go_wp2_with fail
    refine wp_loop_rounds 1 ?_
    rw [rounds_succ]
    go_wp2_with fail
    go_ret
    exact ⟨ret_bool HR.out.symm, HB.out⟩
  · go_enter Try.func39, Try.ntmps39
    go_wp2_with fail
    refine (specWordOk s _).mono ?_
    rintro e w' ⟨rfl, rfl⟩
    rw [HW.out]
    go_wp2_with fail
    refine (specIn _ _ _ _).mono ?_
    rintro e w' ⟨rfl, rfl⟩
    rw [HIN.out]
    go_wp2_with fail
    refine (HF.out _).mono ?_
    rintro e w1 ⟨v, rfl, ho, hb⟩
    obtain ⟨A, cc, rfl, hcc1, hcc2, hat⟩ := Lst.of_own ho
    have HLS := Lib.hid (Lst.of_own ho)
    replace hat := hat.resolve_left (fun h => hl0 (by rw [← strs_length, h]; rfl))
    obtain ⟨bl, off, rfl, hat⟩ := hat
    have HAT := Lib.hid (strs_at hat)
    rw [strs_length] at hcc1 HLS ⊢
    have HB := Lib.hid hb
    clear ho hb hat
    go_wp2_with fail
    go_loopw [21] (fun iv w' => ∃ i : Nat, i ≤ L.length ∧ iv = .int .i64 (i : Int) ∧ (∀ j (hj : j < L.length), j < i → turnS L[j] ∈ L) ∧ Below w1.heap.size w1 w') (fun iv _ => L.length - (intOf iv).toNat)
    case atStart => exact ⟨0, by omega, rfl, fun j _ h => absurd h (by omega), Below.refl _ _⟩
    case round =>
      obtain ⟨i, hi, rfl, hall, hb⟩ := hrel
      obtain ⟨wo, rfl⟩ : ∃ y : World, y = wr := ⟨_, rfl⟩
      have HALL := Lib.hid hall
      have HBI := Lib.hid hb
      clear hall
      by_cases hlt : i < L.length
      · have hc := (hb.cell (World.block_lt_of_cell? w1 _ (HAT.out i hlt))).trans (HAT.out i hlt)
        have HT := Lib.hid (fun w => specTurn L[i] w (HFZ.out _ (List.getElem_mem hlt)))
        clear hb
        by_cases hm : turnS L[i] ∈ L
        · have ha := cu_in hm
          have ha2 : ¬ atR L (turnS L[i]) < 0 := by omega
          have d1 : decide (atR L (turnS L[i]) < 0) = false := by simpa using ha
          have HNX : Hid (∀ j (hj : j < L.length), j < i + 1 → turnS L[j] ∈ L) := fun j hj h => by
            by_cases e : j = i
            · subst e; exact hm
            · exact HALL.out j hj (by omega)
          clear hm
          generalize turnS L[i] = t at HT ha ha2 d1
          generalize L[i] = x at hc HT
          have HATR := Lib.hid (fun w h => specAt L t (.slice (some ⟨bl, off, none⟩) L.length cc) w h (by omega))
          generalize atR L t = q at ha ha2 d1 HATR
          go_wp2_with fail
          refine (HT.out _).mono ?_
          rintro e w2 ⟨rfl, hb⟩
          have HB2 : Hid (Below w1.heap.size w1 w2) := HBI.out.trans (hb.mono HBI.out.size)
          clear hb hc
          go_wp2_with fail
          refine (HATR.out _ (HLS.out.below HB2.out)).mono ?_
          rintro e w' ⟨rfl, rfl⟩
          go_wp2_with fail
          go_roundw
          case rel => exact ⟨i + 1, by omega, by go_num, HNX.out, HB2.out⟩
          case measure => simp [intOf]; omega
        · have HR := Lib.hid (HNO.out _ (List.getElem_mem hlt) hm)
          have HATR := Lib.hid (fun w h => specAt L (turnS L[i]) (.slice (some ⟨bl, off, none⟩) L.length cc) w h (by omega))
          rw [cu_out hm] at HATR
          clear hm
          generalize turnS L[i] = t at HT HATR
          generalize L[i] = x at hc HT
          go_wp2_with fail
          refine (HT.out _).mono ?_
          rintro e w2 ⟨rfl, hb⟩
          have HB2 : Hid (Below w1.heap.size w1 w2) := HBI.out.trans (hb.mono HBI.out.size)
          clear hb hc
          go_wp2_with fail
          refine (HATR.out _ (HLS.out.below HB2.out)).mono ?_
          rintro e w' ⟨rfl, rfl⟩
          go_wp2_with fail
          go_ret
          exact ⟨ret_bool HR.out.symm, HB.out.trans (HB2.out.mono HB.out.size)⟩
      · have HR : Hid (r = true) := HYES.out fun f hf => by
          obtain ⟨j, hj, rfl⟩ := List.mem_iff_getElem.1 hf
          exact HALL.out j hj (by omega)
        clear hb
        go_wp2_with fail
        go_ret
        exact ⟨ret_bool HR.out.symm, HB.out.trans (HBI.out.mono HB.out.size)⟩
end Go.Proofs.Ytiglikdanhfhfaa

/- The direction of a word is read off its palindromes at the beginning. No program in it. -/
namespace Go.Proofs.Ytiglikdanhfhfaa
open Go.RowKit

/-- the letters behind the palindromes with which s begins, behind at most j of its letters -/
noncomputable def pdL (s : ByteArray) : Nat → List UInt8
  | 0 => []
  | j + 1 => if ipR (s.extract 0 j) = true then pdL s j ++ [(s.data.toList[j]?).getD 0] else pdL s j
theorem pdL_yes {s : ByteArray} {j : Nat} (h : ipR (s.extract 0 j) = true) : pdL s (j + 1) = pdL s j ++ [(s.data.toList[j]?).getD 0] := if_pos h
theorem pdL_no {s : ByteArray} {j : Nat} (h : ipR (s.extract 0 j) = false) : pdL s (j + 1) = pdL s j := if_neg (by rw [h]; decide)
theorem pdL_len (s : ByteArray) : ∀ j, (pdL s j).length ≤ j
  | 0 => Nat.le_refl _
  | j + 1 => by
    have := pdL_len s j
    unfold pdL
    split
    · rw [List.length_append]; show _ + 1 ≤ _; omega
    · omega
noncomputable def pdS (s : ByteArray) : ByteArray := ⟨(pdL s s.size).toArray⟩
theorem dir_wordB {d : ByteArray} : ∀ {i : Nat}, wordB (dwS d i) = true → dwB d i = true
  | 0, _ => rfl
  | i + 1, h => by
    show (dwB d i && wordB (dwS d (i + 1))) = true
    have h2 : wordB (dwS d i) = true := by
      have := pre_part (dw_next d i) (Nat.zero_le _) (Nat.le_refl (dwS d i).size)
      have e : (dwS d i).extract 0 (dwS d i).size = dwS d i := by
        refine pl_ext (by rw [ByteArray.size_extract]; omega) fun j hj => ?_
        rw [ByteArray.size_extract] at hj
        have := pz_list (dwS d i) 0 (dwS d i).size j (by omega)
        rwa [Nat.zero_add, Nat.zero_add] at this
      rw [← e, this]
      exact part_word h _ _
    rw [dir_wordB h2, h]
    rfl
theorem dir_word {e : ByteArray} (h : dwB e e.size = true) : wordB (dwS e e.size) = true := by
  cases hz : e.size with
  | zero => rfl
  | succ n =>
    rw [hz] at h
    have h : (dwB e n && wordB (dwS e (n + 1))) = true := h
    rw [Bool.and_eq_true] at h
    exact h.2
theorem drB_iff (s : ByteArray) : drB s = true ↔ (drS s 12).2 = s := by unfold drB; simp
/-- a directed word has its direction -/
theorem dir_to {s e : ByteArray} (h : dwOk e = true) (he : dwR e = s) : drOk s = true ∧ drR s = e := by
  have hs : dwS e e.size = s := by rw [← he]; exact (if_pos h).symm
  unfold dwOk at h
  rw [Bool.and_eq_true, Bool.and_eq_true, decide_eq_true_eq] at h
  obtain ⟨_, h12, hb⟩ := h
  have hw := dir_word hb
  have h1 := dr_dw (Nat.le_refl e.size) e.size (Nat.le_refl _)
  have h2 := dr_stop (s := dwS e e.size) (n := e.size) (by rw [h1]) (12 - e.size)
  rw [Nat.add_sub_cancel' h12, h1, hs] at h2
  have h3 : e.extract 0 e.size = e := by
    refine pl_ext (by rw [ByteArray.size_extract]; omega) fun i hi => ?_
    rw [ByteArray.size_extract] at hi
    have := pz_list e 0 e.size i (by omega)
    rwa [Nat.zero_add, Nat.zero_add] at this
  have h7 : drOk s = true := by
    unfold drOk
    rw [← hs, hw, hs, (drB_iff s).2 (by rw [h2])]
    rfl
  refine ⟨h7, ?_⟩
  unfold drR
  rw [if_pos h7, h2]
  exact h3
theorem dir_inv (s : ByteArray) : ∀ n, (drS s n).1.size ≤ n ∧ (drS s n).2 = dwS (drS s n).1 (drS s n).1.size ∧ ∀ c ∈ (drS s n).1.data.toList, c ∈ s.data.toList
  | 0 => ⟨Nat.le_refl _, rfl, fun c h => by cases h⟩
  | n + 1 => by
    obtain ⟨a, b, c⟩ := dir_inv s n
    by_cases hlt : (drS s n).2.size < s.size
    · have e : drS s (n + 1) = ((drS s n).1 ++ s.extract (drS s n).2.size ((drS s n).2.size + 1), clS ((drS s n).2 ++ s.extract (drS s n).2.size ((drS s n).2.size + 1))) := if_pos hlt
      rw [e]
      generalize drS s n = y at a b c hlt e
      obtain ⟨d, v⟩ := y
      simp only at a b c hlt ⊢
      have hx : (s.extract v.size (v.size + 1)).size = 1 := pz_size s _ 1 (by omega)
      have hxm : ∀ u ∈ (s.extract v.size (v.size + 1)).data.toList, u ∈ s.data.toList := fun u hu => by
        rw [ByteArray.data_extract, Array.toList_extract, List.extract_eq_take_drop] at hu
        exact List.mem_of_mem_drop (List.mem_of_mem_take hu)
      generalize s.extract v.size (v.size + 1) = x at hx hxm
      have hz : (d ++ x).size = d.size + 1 := by rw [ByteArray.size_append, hx]
      have hcut : (d ++ x).extract 0 d.size = d := by
        rw [← pre_part (app_pre d x) (Nat.zero_le _) (Nat.le_refl _)]
        refine pl_ext (by rw [ByteArray.size_extract]; omega) fun i hi => ?_
        rw [ByteArray.size_extract] at hi
        have := pz_list d 0 d.size i (by omega)
        rwa [Nat.zero_add, Nat.zero_add] at this
      have hlast : (d ++ x).extract d.size (d.size + 1) = x := by
        refine pl_ext (by rw [pz_size (d ++ x) d.size 1 (by omega), hx]) fun i hi => ?_
        rw [pz_size (d ++ x) d.size 1 (by omega)] at hi
        rw [pz_list (d ++ x) d.size 1 i hi, ByteArray.data_append, Array.toList_append, List.getElem?_append_right (by rw [pl_len]; omega), pl_len, Nat.add_sub_cancel_left]
      refine ⟨by omega, ?_, fun u hu => ?_⟩
      · rw [hz]
        show clS (v ++ x) = clS (dwS (d ++ x) d.size ++ (d ++ x).extract d.size (d.size + 1))
        rw [hlast, ← dw_cut (d ++ x) (m := d.size) (by omega) d.size (Nat.le_refl _), hcut, b]
      · rw [ByteArray.data_append, Array.toList_append, List.mem_append] at hu
        exact hu.elim (c u) (hxm u)
    · have e : drS s (n + 1) = drS s n := if_neg hlt
      rw [e]
      exact ⟨by omega, b, c⟩
/-- what a word's direction is, if there is one -/
theorem dir_of {s : ByteArray} (h : drOk s = true) : ∃ e : ByteArray, dwOk e = true ∧ dwR e = s ∧ s = dwS e e.size := by
  unfold drOk at h
  rw [Bool.and_eq_true] at h
  obtain ⟨hw, hb⟩ := h
  obtain ⟨a, b, c⟩ := dir_inv s 12
  rw [(drB_iff s).1 hb] at b
  generalize (drS s 12).1 = e at a b c
  have hwe : wordB e = true := by
    unfold wordB at hw ⊢
    rw [Bool.and_eq_true, decide_eq_true_eq, List.all_eq_true] at hw ⊢
    exact ⟨by omega, fun u hu => hw.2 u (c u hu)⟩
  have hk : dwOk e = true := by
    unfold dwOk
    rw [hwe, decide_eq_true a, dir_wordB (by rw [← b]; exact hw)]
    rfl
  exact ⟨e, hk, by rw [b]; exact if_pos hk, b⟩
/-- what is read off a directed word -/
theorem pd_part {s e : ByteArray} (hs : s = dwS e e.size) (hw : wordB s = true) {i : Nat} (hi : i < e.size) (ih : pdL s (dwS e i).size = e.data.toList.take i) : ∀ k, (dwS e i).size + 1 + k ≤ (dwS e (i + 1)).size → pdL s ((dwS e i).size + 1 + k) = e.data.toList.take (i + 1)
  | 0, _ => by
    have hmono := dw_mono e i (e.size - i)
    rw [Nat.add_sub_cancel' (by omega), ← hs] at hmono
    have hp : s.extract 0 (dwS e i).size = dwS e i := by
      rw [← pre_part hmono (Nat.zero_le _) (Nat.le_refl _)]
      refine pl_ext (by rw [ByteArray.size_extract]; omega) fun j hj => ?_
      rw [ByteArray.size_extract] at hj
      have := pz_list (dwS e i) 0 (dwS e i).size j (by omega)
      rwa [Nat.zero_add, Nat.zero_add] at this
    have h1 := dw_one hi
    have hpre : (dwS e i ++ e.extract i (i + 1)).data.toList <+: s.data.toList := by
      have h2 := dw_mono e (i + 1) (e.size - (i + 1))
      rw [Nat.add_sub_cancel' hi, ← hs] at h2
      exact (cl_start _).trans h2
    have hx : s.data.toList[(dwS e i).size]? = e.data.toList[i]? := by
      rw [← pre_get hpre (by rw [ByteArray.size_append]; omega), ByteArray.data_append, Array.toList_append, List.getElem?_append_right (by rw [pl_len]; exact Nat.le_refl _), pl_len, Nat.sub_self]
      exact pz_list e i 1 0 (by omega)
    rw [Nat.add_zero, pdL_yes (by unfold ipR; rw [part_word hw, hp, (palB_iff _).2 (dw_pal e i)]; rfl), ih, hx, List.getElem?_eq_getElem (by rw [pl_len]; exact hi), Option.getD_some, List.take_succ_eq_append_getElem (by rw [pl_len]; exact hi)]
  | k + 1, hk => by
    have h2 := dw_mono e (i + 1) (e.size - (i + 1))
    rw [Nat.add_sub_cancel' hi, ← hs] at h2
    have h1 := dw_one hi
    have hz : (dwS e i ++ e.extract i (i + 1)).size = (dwS e i).size + 1 := by rw [ByteArray.size_append, h1]
    have hc := clS_size (dwS e i ++ e.extract i (i + 1))
    have hb : (dwS e (i + 1)).size = (dwS e i).size + 1 + clK (dwS e i ++ e.extract i (i + 1)) := by rw [← hz]; exact hc
    have hno := cl_short (s := dwS e i ++ e.extract i (i + 1)) (n := (dwS e i).size + 1 + k) (by omega) (by omega)
    have hpart : s.extract 0 ((dwS e i).size + 1 + k) = (clS (dwS e i ++ e.extract i (i + 1))).extract 0 ((dwS e i).size + 1 + k) := (pre_part h2 (Nat.zero_le _) (by omega)).symm
    show pdL s ((dwS e i).size + 1 + k + 1) = _
    rw [pdL_no ?_]
    · exact pd_part hs hw hi ih k (by omega)
    · unfold ipR
      rw [hpart]
      cases hx : palB ((clS (dwS e i ++ e.extract i (i + 1))).extract 0 ((dwS e i).size + 1 + k))
      · exact Bool.and_false _
      · exact absurd ((palB_iff _).1 hx) hno
theorem pd_all {s e : ByteArray} (hs : s = dwS e e.size) (hw : wordB s = true) : ∀ i, i ≤ e.size → pdL s (dwS e i).size = e.data.toList.take i
  | 0, _ => rfl
  | i + 1, h => by
    have h1 := (dw_size (d := e) (i := i) (by omega)).1
    have := pd_part hs hw (by omega) (pd_all hs hw i (by omega)) ((dwS e (i + 1)).size - ((dwS e i).size + 1)) (by omega)
    rwa [Nat.add_sub_cancel' h1] at this
theorem dir_found {s : ByteArray} (h : drOk s = true) : dwOk (pdS s) = true ∧ dwR (pdS s) = s := by
  obtain ⟨e, h1, h2, h3⟩ := dir_of h
  have hw : wordB s = true := by
    unfold drOk at h
    rw [Bool.and_eq_true] at h
    exact h.1
  have hp := pd_all h3 hw e.size (Nat.le_refl _)
  rw [← h3, List.take_of_length_le (by rw [pl_len]; exact Nat.le_refl _)] at hp
  have : pdS s = e := by
    apply bytes_ext
    rw [ByteArray.toList_eq, ByteArray.toList_eq]
    show (pdL s s.size).toArray.toList = _
    rw [hp]
  rw [this]
  exact ⟨h1, h2⟩
theorem dir_no {s : ByteArray} (h : ¬ (dwOk (pdS s) = true ∧ dwR (pdS s) = s)) : drOk s = false ∧ drR s = ⟨#[]⟩ := by
  have : drOk s = false := by
    cases hx : drOk s
    · rfl
    · exact absurd (dir_found hx) h
  exact ⟨this, if_neg (by rw [this]; decide)⟩
/-- CloseWord of what DirectedWord has with a letter more -/
theorem clR_next (d : ByteArray) (i : Nat) : clR (dwS d i ++ d.extract i (i + 1)) = if wordB (dwS d (i + 1)) = true then dwS d (i + 1) else ⟨#[]⟩ := by
  show (if (wordB (dwS d i ++ d.extract i (i + 1)) && wordB (dwS d (i + 1))) = true then dwS d (i + 1) else ⟨#[]⟩) = _
  cases hw : wordB (dwS d (i + 1))
  · rw [Bool.and_false]
  · have h2 : wordB (dwS d i ++ d.extract i (i + 1)) = true := by
      have := pre_part (cl_start (dwS d i ++ d.extract i (i + 1))) (Nat.zero_le _) (Nat.le_refl (dwS d i ++ d.extract i (i + 1)).size)
      have e : (dwS d i ++ d.extract i (i + 1)).extract 0 (dwS d i ++ d.extract i (i + 1)).size = dwS d i ++ d.extract i (i + 1) := by
        generalize dwS d i ++ d.extract i (i + 1) = x
        refine pl_ext (by rw [ByteArray.size_extract]; omega) fun j hj => ?_
        rw [ByteArray.size_extract] at hj
        have := pz_list x 0 x.size j (by omega)
        rwa [Nat.zero_add, Nat.zero_add] at this
      rw [← e, this]
      exact part_word hw _ _
    rw [h2]
    rfl
end Go.Proofs.Ytiglikdanhfhfaa
