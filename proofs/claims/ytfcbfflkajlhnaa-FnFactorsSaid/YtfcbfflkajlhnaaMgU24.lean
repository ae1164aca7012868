/- Texts put together. -/
import Derived.Test.YtfcbfflkajlhnaaMgU21
import Derived.Test.YtfcbfflkajlhnaaMgU23
import Derived.Test.YtfcbfflkajlhnaaMgU22
/- The mathematics of FnFactors: a word's parts are words, sums over factors, parts that are long enough. No program in it. -/
namespace Go.Proofs.Ytfcbfflkajlhnaa
open Go.RowKit

theorem fz_part {s : ByteArray} (h : wordB s = true) (a b : Nat) : wordB (s.extract a b) = true := by
  have h1 := word_size h
  have h2 := all_of_word h
  unfold wordB
  rw [Bool.and_eq_true, decide_eq_true_eq]
  refine ⟨by rw [ByteArray.size_extract]; omega, ?_⟩
  rw [List.all_eq_true] at h2 ⊢
  intro x hx
  apply h2
  rw [ByteArray.data_extract, Array.toList_extract, List.extract_eq_take_drop] at hx
  exact List.mem_of_mem_drop (List.mem_of_mem_take hx)
theorem fz_flip {s : ByteArray} (h : wordB s = true) : wordB (flipS s) = true := by
  have h1 := word_size h
  have h2 := all_of_word h
  unfold wordB
  rw [Bool.and_eq_true, decide_eq_true_eq]
  refine ⟨by rw [flip_size]; exact h1, ?_⟩
  show s.data.toList.reverse.toArray.toList.all isAbcd = true
  simpa using h2
theorem fz_ok {s : ByteArray} (h : wordB s = true) {n : Nat} (h1 : 1 ≤ n) (h2 : n ≤ 400) : fctOk s n = true := by
  have d1 : decide ((1 : Int) ≤ (n : Int)) = true := by simp; omega
  have d2 : decide ((n : Int) ≤ (400 : Int)) = true := by simp; omega
  unfold fctOk
  rw [h, d1, d2]
  rfl
theorem fz_fct {s : ByteArray} (h : wordB s = true) {n : Nat} (h1 : 1 ≤ n) (h2 : n ≤ 400) : fctR s n = fctL s n := if_pos (fz_ok h h1 h2)
theorem fz_cpx {s : ByteArray} (h : wordB s = true) {n : Nat} (h1 : 1 ≤ n) (h2 : n ≤ 400) : cpxR s n = ((fctL s n).length : Int) := if_pos (fz_ok h h1 h2)
theorem fz_grf {s : ByteArray} (h : wordB s = true) {n : Nat} (h1 : 1 ≤ n) (h2 : n ≤ 400) : grfR s n = edgeL s n := if_pos (fz_ok h h1 h2)
theorem fz_spc {s : ByteArray} (h : wordB s = true) {n : Nat} (h1 : 1 ≤ n) (h2 : n ≤ 400) (b : Bool) : spcR s n b = spcL s n b := if_pos (fz_ok h h1 h2)
theorem fz_in {s f : ByteArray} {n : Nat} (hf : f ∈ fctL s n) (b : Bool) : inB (spcL s n b) f = decide (1 < (nxtS s f b).size) := by
  rw [Bool.eq_iff_iff, inB_iff, decide_eq_true_eq]
  unfold spcL
  rw [List.mem_filter, decide_eq_true_eq]
  exact ⟨fun h => h.2, fun h => ⟨hf, h⟩⟩
theorem fz_word {s f : ByteArray} (h : wordB s = true) {n : Nat} (hf : f ∈ fctL s n) : wordB f = true := by
  obtain ⟨j, _, rfl⟩ := (fct_mem s n f).1 hf
  exact fz_part h _ _
theorem fz_nxt {s f : ByteArray} (h : wordB s = true) {n : Nat} (hf : f ∈ fctL s n) (b : Bool) : nxtR s f b = nxtS s f b := if_pos (by rw [h, fz_word h hf]; rfl)
theorem fz_fact {s f : ByteArray} (h : wordB s = true) {n : Nat} (hf : f ∈ fctL s n) : factR s f = true := by
  unfold factR
  rw [h, fz_word h hf]
  have hs := fct_sz (fct_lt hf) hf
  have hh : hasR s f = true := by
    rw [has_iff, hs]
    obtain ⟨j, hj, e⟩ := (fct_mem s n f).1 hf
    exact ⟨j, by omega, e.symm⟩
  rw [hh]
  rfl
/-- the followers of the first q factors -/
noncomputable def sumQ (s : ByteArray) (n : Nat) (b : Bool) (q : Nat) : Nat := (((fctL s n).take q).map fun f => (nxtS s f b).size).sum
theorem sumQ_zero (s : ByteArray) (n : Nat) (b : Bool) : sumQ s n b 0 = 0 := rfl
theorem sumQ_next (s : ByteArray) (n : Nat) (b : Bool) (q : Nat) (h : q < (fctL s n).length) : sumQ s n b (q + 1) = sumQ s n b q + (nxtS s (fctL s n)[q] b).size := by
  unfold sumQ
  rw [List.take_succ_eq_append_getElem h, List.map_append, List.sum_append]
  simp
theorem sumQ_end {s : ByteArray} (hw : wordB s = true) (n : Nat) (b : Bool) : sumQ s n b (fctL s n).length = (fctL s (n + 1)).length := by
  unfold sumQ
  rw [List.take_length]
  by_cases hn : n + 1 ≤ s.size
  · exact exts_count hw n hn b
  · rw [fctL_nil (n := n + 1) (by omega)]
    have h0 : ∀ f ∈ fctL s n, (nxtS s f b).size = 0 := fun f hf => by
      have hs := fct_sz (fct_lt hf) hf
      rw [nxt_size, List.length_eq_zero_iff, List.filter_eq_nil_iff]
      intro k _ hk
      obtain ⟨i, hi, _⟩ := (has_iff _ _).1 hk
      rw [exL_sz, hs] at hi
      omega
    generalize fctL s n = l at h0
    induction l with
    | nil => rfl
    | cons a l ih =>
      rw [List.map_cons, List.sum_cons, h0 a (List.mem_cons_self ..)]
      have := ih fun f hf => h0 f (List.mem_cons_of_mem _ hf)
      rw [this]
      rfl
theorem nxt_le (s f : ByteArray) (b : Bool) : (nxtS s f b).size ≤ 4 := by
  rw [nxt_size]
  exact Nat.le_trans (List.length_filter_le _ _) (by simp)
theorem sumQ_le (s : ByteArray) (n : Nat) (b : Bool) : ∀ q, q ≤ (fctL s n).length → sumQ s n b q ≤ 4 * q
  | 0, _ => Nat.le_refl _
  | q + 1, h => by
    have h1 := sumQ_le s n b q (by omega)
    have h2 := nxt_le s (fctL s n)[q] b
    rw [sumQ_next s n b q (by omega)]
    omega
theorem edge_row {s : ByteArray} {n i : Nat} (hi : i < (fctL s (n + 1)).length) (hi' : i < (edgeL s n).length) : ∃ (q1 q2 : Nat) (h1 : q1 < (fctL s n).length) (h2 : q2 < (fctL s n).length), (edgeL s n)[i] = [(q1 : Int), (q2 : Int)] ∧ (fctL s n)[q1] = (fctL s (n + 1))[i].extract 0 n ∧ (fctL s n)[q2] = (fctL s (n + 1))[i].extract 1 (fctL s (n + 1))[i].size := by
  obtain ⟨e1, e2⟩ := edge_first (List.getElem_mem hi)
  obtain ⟨h1, x1⟩ := atN_lt _ _ e1
  obtain ⟨h2, x2⟩ := atN_lt _ _ e2
  refine ⟨_, _, h1, h2, ?_, x1, x2⟩
  simp only [edgeL, List.getElem_map]
  unfold atR
  rw [if_pos h1, if_pos h2]
theorem edge_len (s : ByteArray) (n : Nat) : (edgeL s n).length = (fctL s (n + 1)).length := by simp [edgeL]
theorem topTo_no {P : Nat → Prop} : ∀ N k, topTo P N < k → k ≤ N → ¬ P k
  | 0, k, h1, h2 => absurd h1 (by omega)
  | N + 1, k, h1, h2 => by
    intro hp
    unfold topTo at h1
    split at h1
    · omega
    · rename_i hn
      by_cases e : k = N + 1
      · subst e
        exact hn (@decide_eq_true _ (Classical.propDecidable _) hp)
      · exact topTo_no N k h1 (by omega) hp
/-- a part that is longer than the longest that lacks a factor has all of them -/
theorem part_all {s : ByteArray} {n r i : Nat} (hr : topTo (LackK s n) s.size < r) (hi : i + r ≤ s.size) : (fctL (s.extract i (i + r)) n).length = (fctL s n).length := by
  have hno := topTo_no _ r hr (by omega)
  have hsz : (s.extract i (i + r)).size = r := by rw [ByteArray.size_extract]; omega
  have hsub : ∀ j, j + n ≤ r → (s.extract i (i + r)).extract j (j + n) = s.extract (i + j) (i + j + n) := fun j hj => bytes_iff.2 (by
    rw [ext_list2, ext_list2, ext_list2, List.drop_take, List.take_take, List.drop_drop, Nat.min_eq_left (by omega)])
  refine nodup_eq (asc_nodup (facTo_asc _ _ _)) (asc_nodup (facTo_asc _ _ _)) fun f => ?_
  show f ∈ fctL (s.extract i (i + r)) n ↔ f ∈ fctL s n
  constructor
  · intro hf
    obtain ⟨j, hj, rfl⟩ := (fct_mem _ n f).1 hf
    rw [hsz] at hj
    rw [hsub j (by omega)]
    exact (fct_mem s n _).2 ⟨i + j, by omega, rfl⟩
  · intro hf
    by_cases hh : ∃ j, i ≤ j ∧ j + n ≤ i + r ∧ s.extract j (j + n) = f
    · obtain ⟨j, h1, h2, rfl⟩ := hh
      refine (fct_mem _ n _).2 ⟨j - i, by rw [hsz]; omega, ?_⟩
      rw [hsub _ (by omega), show i + (j - i) = j by omega]
    · exact absurd ⟨f, hf, i, by omega, hi, fun j h1 h2 h3 => hh ⟨j, h1, h2, h3⟩⟩ hno
theorem fz_rch {s : ByteArray} (h : wordB s = true) {n : Nat} (h1 : 1 ≤ n) (h2 : n ≤ 400) : ∃ r : Nat, rchR s n = (r : Int) ∧ r ≤ s.size + 1 ∧ (r = 0 ↔ (fctL s n).length = 0) ∧ ∀ i, 0 < r → i + r ≤ s.size → cpxR (s.extract i (i + r)) n = ((fctL s n).length : Int) := by
  have hok := fz_ok h h1 h2
  by_cases he : fctL s n = []
  · refine ⟨0, ?_, by omega, by rw [he]; simp, fun i hr => absurd hr (by omega)⟩
    unfold rchR
    rw [if_pos hok, Int.toNat_natCast, if_pos he]
    rfl
  · refine ⟨topTo (LackK s n) s.size + 1, ?_, by have := topTo_le (LackK s n) s.size; omega, ⟨fun e => absurd e (by omega), fun e => absurd (List.length_eq_zero_iff.1 e) he⟩, fun i _ hi => ?_⟩
    · unfold rchR
      rw [if_pos hok, Int.toNat_natCast, if_neg he]
      rfl
    · rw [fz_cpx (fz_part h _ _) h1 h2, part_all (by omega) hi]
theorem allTo_tri (s : ByteArray) : ∀ k, k ≤ s.size → 2 * allTo s k + (s.size - k) * (s.size - k + 1) ≤ s.size * (s.size + 1)
  | 0, _ => by simp [allTo]
  | k + 1, hk => by
    have h1 := allTo_tri s k (by omega)
    have h2 := fctL_lim s (k + 1)
    obtain ⟨d, hd⟩ : ∃ d, s.size = k + 1 + d := ⟨s.size - (k + 1), by omega⟩
    have e : allTo s (k + 1) = allTo s k + (fctL s (k + 1)).length := rfl
    rw [e]
    rw [show s.size - k = d + 1 by omega] at h1
    rw [show s.size - (k + 1) = d by omega]
    have h3 : (fctL s (k + 1)).length ≤ d + 1 := by omega
    have e1 : (d + 1) * (d + 1 + 1) = d * (d + 1) + 2 * (d + 1) := by grind
    omega
theorem fz_all {s : ByteArray} (h : wordB s = true) (h60 : s.size ≤ 60) : allR s = (allTo s s.size : Int) := if_pos (by unfold allOk; rw [h, decide_eq_true h60]; rfl)
theorem fz_tri {s : ByteArray} : (allTo s s.size : Int) ≤ (s.size : Int) * ((s.size : Int) + 1) / 2 := by
  have := allTo_tri s s.size (Nat.le_refl _)
  have e : ((s.size * (s.size + 1) : Nat) : Int) = (s.size : Int) * ((s.size : Int) + 1) := by push_cast; rfl
  rw [← e]
  omega
end Go.Proofs.Ytfcbfflkajlhnaa

/- The program's FollowersOf, LeadersOf, RightSpecial, LeftSpecial. Conditions: lengths of at most 2^20. -/
namespace Go.Proofs.Ytfcbfflkajlhnaa
open Go.RowKit

set_option maxHeartbeats 400000 in
theorem implFollowersOf (s f : ByteArray) (w : World) (hs : s.size ≤ 1048576) (hf : f.size ≤ 1048576) :
    Calls Try.prog 41 #[.string s, .string f] w fun e w' => e = .returned (.string (nxtR s f false)) ∧ Below w.heap.size w w' := by
  cases hw : wordB s
  · have HW := Lib.hid hw
    have HV : Hid (nxtR s f false = ⟨#[]⟩) := by show nxtR s f false = _; unfold nxtR; rw [hw]; rfl
    clear hw
    go_enter Try.func41, Try.ntmps41
    go_wp2_with fail
    refine (implWordOk s _ hs).mono ?_
    rintro e w1 ⟨rfl, hb1⟩
    have HB := Lib.hid hb1
    rw [HW.out]
    clear hb1
    go_wp2_with fail
    go_ret
    exact ⟨ret_str HV.out.symm, HB.out⟩
  · have HW := Lib.hid hw
    cases hwf : wordB f
    · have HWF := Lib.hid hwf
      have HV : Hid (nxtR s f false = ⟨#[]⟩) := by show nxtR s f false = _; unfold nxtR; rw [hw, hwf]; rfl
      clear hw hwf
      go_enter Try.func41, Try.ntmps41
      go_wp2_with fail
      refine (implWordOk s _ hs).mono ?_
      rintro e w1 ⟨rfl, hb1⟩
      have HB := Lib.hid hb1
      rw [HW.out]
      clear hb1
      go_wp2_with fail
      refine (implWordOk f _ hf).mono ?_
      rintro e w2 ⟨rfl, hb2⟩
      have HB2 : Hid (Below w.heap.size w w2) := HB.out.trans (hb2.mono HB.out.size)
      rw [HWF.out]
      clear hb2
      go_wp2_with fail
      go_ret
      exact ⟨ret_str HV.out.symm, HB2.out⟩
    · have HWF := Lib.hid hwf
      have HV : Hid (nxtR s f false = nxtS s f false) := by show nxtR s f false = _; unfold nxtR; rw [hw, hwf]; rfl
      have h4 := word_size hw
      have h4f := word_size hwf
      have HF := Lib.hid (fun w => implFollowed s f.size w h4 (by omega))
      have HOUT := Lib.hid (fun (L : List FK) (hL : SetIs L (folS s f.size (s.size - f.size))) => fol_out hL f rfl)
      clear hw hwf
      go_enter Try.func41, Try.ntmps41
      go_wp2_with fail
      refine (implWordOk s _ hs).mono ?_
      rintro e w1 ⟨rfl, hb1⟩
      have HB := Lib.hid hb1
      rw [HW.out]
      clear hb1
      go_wp2_with fail
      refine (implWordOk f _ hf).mono ?_
      rintro e w2 ⟨rfl, hb2⟩
      have HB2 : Hid (Below w.heap.size w w2) := HB.out.trans (hb2.mono HB.out.size)
      rw [HWF.out]
      clear hb2
      go_wp2_with fail
      refine (HF.out _).mono ?_
      rintro e w3 ⟨L, rfl, hF, hL, hl, hb⟩
      have HB3 : Hid (Below w.heap.size w w3) := HB2.out.trans (hb.mono HB2.out.size)
      have HO := Lib.hid (HOUT.out L hL)
      have HBS := Lib.hid (implBeside L w2.heap.size f w3 hF hf)
      clear hF hL hl hb
      go_wp2_with fail
      refine HBS.out.mono ?_
      rintro e w4 ⟨rfl, hb⟩
      have HB4 : Hid (Below w.heap.size w w4) := HB3.out.trans (hb.mono HB3.out.size)
      clear hb
      go_wp2_with fail
      go_ret
      exact ⟨ret_str (by rw [HV.out, HO.out]), HB4.out⟩

set_option maxHeartbeats 400000 in
theorem implLeadersOf (s f : ByteArray) (w : World) (hs : s.size ≤ 1048576) (hf : f.size ≤ 1048576) :
    Calls Try.prog 42 #[.string s, .string f] w fun e w' => e = .returned (.string (nxtR s f true)) ∧ Below w.heap.size w w' := by
  cases hw : wordB s
  · have HW := Lib.hid hw
    have HV : Hid (nxtR s f true = ⟨#[]⟩) := by show nxtR s f true = _; unfold nxtR; rw [hw]; rfl
    clear hw
    go_enter Try.func42, Try.ntmps42
    go_wp2_with fail
    refine (implWordOk s _ hs).mono ?_
    rintro e w1 ⟨rfl, hb1⟩
    have HB := Lib.hid hb1
    rw [HW.out]
    clear hb1
    go_wp2_with fail
    go_ret
    exact ⟨ret_str HV.out.symm, HB.out⟩
  · have HW := Lib.hid hw
    cases hwf : wordB f
    · have HWF := Lib.hid hwf
      have HV : Hid (nxtR s f true = ⟨#[]⟩) := by show nxtR s f true = _; unfold nxtR; rw [hw, hwf]; rfl
      clear hw hwf
      go_enter Try.func42, Try.ntmps42
      go_wp2_with fail
      refine (implWordOk s _ hs).mono ?_
      rintro e w1 ⟨rfl, hb1⟩
      have HB := Lib.hid hb1
      rw [HW.out]
      clear hb1
      go_wp2_with fail
      refine (implWordOk f _ hf).mono ?_
      rintro e w2 ⟨rfl, hb2⟩
      have HB2 : Hid (Below w.heap.size w w2) := HB.out.trans (hb2.mono HB.out.size)
      rw [HWF.out]
      clear hb2
      go_wp2_with fail
      go_ret
      exact ⟨ret_str HV.out.symm, HB2.out⟩
    · have HWF := Lib.hid hwf
      have HV : Hid (nxtR s f true = nxtS s f true) := by show nxtR s f true = _; unfold nxtR; rw [hw, hwf]; rfl
      have h4 := word_size hw
      have h4f := word_size hwf
      have HF := Lib.hid (fun w => implLed s f.size w h4 (by omega))
      have HOUT := Lib.hid (fun (L : List FK) (hL : SetIs L (ledS s f.size (s.size - f.size))) => led_out hL f rfl)
      clear hw hwf
      go_enter Try.func42, Try.ntmps42
      go_wp2_with fail
      refine (implWordOk s _ hs).mono ?_
      rintro e w1 ⟨rfl, hb1⟩
      have HB := Lib.hid hb1
      rw [HW.out]
      clear hb1
      go_wp2_with fail
      refine (implWordOk f _ hf).mono ?_
      rintro e w2 ⟨rfl, hb2⟩
      have HB2 : Hid (Below w.heap.size w w2) := HB.out.trans (hb2.mono HB.out.size)
      rw [HWF.out]
      clear hb2
      go_wp2_with fail
      refine (HF.out _).mono ?_
      rintro e w3 ⟨L, rfl, hF, hL, hl, hb⟩
      have HB3 : Hid (Below w.heap.size w w3) := HB2.out.trans (hb.mono HB2.out.size)
      have HO := Lib.hid (HOUT.out L hL)
      have HBS := Lib.hid (implBeside L w2.heap.size f w3 hF hf)
      clear hF hL hl hb
      go_wp2_with fail
      refine HBS.out.mono ?_
      rintro e w4 ⟨rfl, hb⟩
      have HB4 : Hid (Below w.heap.size w w4) := HB3.out.trans (hb.mono HB3.out.size)
      clear hb
      go_wp2_with fail
      go_ret
      exact ⟨ret_str (by rw [HV.out, HO.out]), HB4.out⟩

set_option maxHeartbeats 400000 in
theorem implRightSpecial (s : ByteArray) (n : Int) (w : World) (hs : s.size ≤ 1048576) :
    Calls Try.prog 39 #[.string s, .int .i64 n] w fun e w' => ∃ v, e = .returned v ∧ w'.ownsRow w.heap.size 9 1 v (spcR s n false).length (strs (spcR s n false)) ∧ Below w.heap.size w w' := by
  cases hok : fctOk s n
  · have HV : Hid (spcR s n false = []) := by show spcR s n false = []; unfold spcR; rw [hok]; rfl
    have HOK := Lib.hid hok
    clear hok
    go_enter Try.func39, Try.ntmps39
    go_wp2_with fail
    refine (implCanHave s n _ hs).mono ?_
    rintro e w1 ⟨rfl, hb1⟩
    have HB := Lib.hid hb1
    rw [HOK.out]
    clear hb1
    go_wp2_with fail
    go_ret
    refine ⟨_, rfl, ?_, HB.out⟩
    rw [HV.out]
    exact World.ownsRow_nil _ _ _ _
  · obtain ⟨h4, h1, h2⟩ := fct_ok hok
    obtain ⟨m, rfl⟩ : ∃ m : Nat, n = m := ⟨n.toNat, by omega⟩
    have HV : Hid (spcR s m false = spcL s m false) := if_pos hok
    have HOK := Lib.hid hok
    have HF := Lib.hid (fun w => implFollowed s m w h4 (by omega))
    have HSA := Lib.hid (spc_asc s m false)
    have HIN := Lib.hid (fun L (hL : SetIs L (folS s m (s.size - m))) => fol_in hL)
    have HSZ : Hid (∀ L, SetIs L (folS s m (s.size - m)) → ∀ p ∈ L, p.1.size ≤ 1048576) := fun L hL p hp => by
      have hx := fol_in hL p hp
      rw [fct_sz (fct_lt hx) hx]
      omega
    have HMEM := Lib.hid (fun (L L' : List FK) (hL : SetIs L (folS s m (s.size - m))) h' => spc_mem (b := false) (L' := L') (fun f hf => fol_out hL f hf) (fol_in hL) h')
    clear hok
    generalize spcL s m false = S at HV HSA HMEM
    go_enter Try.func39, Try.ntmps39
    go_wp2_with fail
    refine (implCanHave s m _ hs).mono ?_
    rintro e w1 ⟨rfl, hb1⟩
    have HB := Lib.hid hb1
    rw [HOK.out]
    clear hb1
    go_wp2_with fail
    refine (HF.out _).mono ?_
    rintro e w2 ⟨L, rfl, hF, hL, hl, hb⟩
    have HB2 : Hid (Below w.heap.size w w2) := HB.out.trans (hb.mono HB.out.size)
    have HSP := Lib.hid (implSpecial L w1.heap.size w2 hF (HSZ.out L hL))
    have HM := Lib.hid (fun L' h' => HMEM.out L L' hL h')
    have hl4 : L.length ≤ 400 := hl
    clear hF hL hl hb
    go_wp2_with fail
    refine HSP.out.mono ?_
    rintro e w3 ⟨L', rfl, hF3, hm3, hl3, hg3⟩
    have HB3 : Hid (Below w.heap.size w w3) := HB2.out.grown hg3 HB2.out.size (fun k hk => by injection hk with hk; have := HB.out.size; omega)
    have HS := Lib.hid (implSorted L' w1.heap.size S w3 hF3 (by omega) HSA.out (HM.out L' hm3))
    clear hF3 hm3 hl3 hg3
    go_wp2_with fail
    refine HS.out.mono ?_
    rintro e w4 ⟨v, rfl, ho, hb⟩
    have HO := Lib.hid (own_mono ho HB3.out.size)
    have HB4 : Hid (Below w.heap.size w w4) := HB3.out.trans (hb.mono HB3.out.size)
    obtain ⟨A, cp, rfl⟩ := own_slice ho
    clear ho hb
    go_wp2_with fail
    go_ret
    refine ⟨_, rfl, ?_, HB4.out⟩
    rw [HV.out]
    exact HO.out

set_option maxHeartbeats 400000 in
theorem implLeftSpecial (s : ByteArray) (n : Int) (w : World) (hs : s.size ≤ 1048576) :
    Calls Try.prog 40 #[.string s, .int .i64 n] w fun e w' => ∃ v, e = .returned v ∧ w'.ownsRow w.heap.size 9 1 v (spcR s n true).length (strs (spcR s n true)) ∧ Below w.heap.size w w' := by
  cases hok : fctOk s n
  · have HV : Hid (spcR s n true = []) := by show spcR s n true = []; unfold spcR; rw [hok]; rfl
    have HOK := Lib.hid hok
    clear hok
    go_enter Try.func40, Try.ntmps40
    go_wp2_with fail
    refine (implCanHave s n _ hs).mono ?_
    rintro e w1 ⟨rfl, hb1⟩
    have HB := Lib.hid hb1
    rw [HOK.out]
    clear hb1
    go_wp2_with fail
    go_ret
    refine ⟨_, rfl, ?_, HB.out⟩
    rw [HV.out]
    exact World.ownsRow_nil _ _ _ _
  · obtain ⟨h4, h1, h2⟩ := fct_ok hok
    obtain ⟨m, rfl⟩ : ∃ m : Nat, n = m := ⟨n.toNat, by omega⟩
    have HV : Hid (spcR s m true = spcL s m true) := if_pos hok
    have HOK := Lib.hid hok
    have HF := Lib.hid (fun w => implLed s m w h4 (by omega))
    have HSA := Lib.hid (spc_asc s m true)
    have HIN := Lib.hid (fun L (hL : SetIs L (ledS s m (s.size - m))) => led_in hL)
    have HSZ : Hid (∀ L, SetIs L (ledS s m (s.size - m)) → ∀ p ∈ L, p.1.size ≤ 1048576) := fun L hL p hp => by
      have hx := led_in hL p hp
      rw [fct_sz (fct_lt hx) hx]
      omega
    have HMEM := Lib.hid (fun (L L' : List FK) (hL : SetIs L (ledS s m (s.size - m))) h' => spc_mem (b := true) (L' := L') (fun f hf => led_out hL f hf) (led_in hL) h')
    clear hok
    generalize spcL s m true = S at HV HSA HMEM
    go_enter Try.func40, Try.ntmps40
    go_wp2_with fail
    refine (implCanHave s m _ hs).mono ?_
    rintro e w1 ⟨rfl, hb1⟩
    have HB := Lib.hid hb1
    rw [HOK.out]
    clear hb1
    go_wp2_with fail
    refine (HF.out _).mono ?_
    rintro e w2 ⟨L, rfl, hF, hL, hl, hb⟩
    have HB2 : Hid (Below w.heap.size w w2) := HB.out.trans (hb.mono HB.out.size)
    have HSP := Lib.hid (implSpecial L w1.heap.size w2 hF (HSZ.out L hL))
    have HM := Lib.hid (fun L' h' => HMEM.out L L' hL h')
    have hl4 : L.length ≤ 400 := hl
    clear hF hL hl hb
    go_wp2_with fail
    refine HSP.out.mono ?_
    rintro e w3 ⟨L', rfl, hF3, hm3, hl3, hg3⟩
    have HB3 : Hid (Below w.heap.size w w3) := HB2.out.grown hg3 HB2.out.size (fun k hk => by injection hk with hk; have := HB.out.size; omega)
    have HS := Lib.hid (implSorted L' w1.heap.size S w3 hF3 (by omega) HSA.out (HM.out L' hm3))
    clear hF3 hm3 hl3 hg3
    go_wp2_with fail
    refine HS.out.mono ?_
    rintro e w4 ⟨v, rfl, ho, hb⟩
    have HO := Lib.hid (own_mono ho HB3.out.size)
    have HB4 : Hid (Below w.heap.size w w4) := HB3.out.trans (hb.mono HB3.out.size)
    obtain ⟨A, cp, rfl⟩ := own_slice ho
    clear ho hb
    go_wp2_with fail
    go_ret
    refine ⟨_, rfl, ?_, HB4.out⟩
    rw [HV.out]
    exact HO.out
end Go.Proofs.Ytfcbfflkajlhnaa

/- The program's AllFactors. Conditions: lengths of at most 2^20. -/
namespace Go.Proofs.Ytfcbfflkajlhnaa
open Go.RowKit

theorem allTo_lim (s : ByteArray) (h : s.size ≤ 60) : ∀ k, allTo s k ≤ 60 * k
  | 0 => by simp [allTo]
  | k + 1 => by
    have := allTo_lim s h k
    have h2 : (fctL s (k + 1)).length ≤ s.size + 1 - (k + 1) := facTo_lim _ _ _
    show allTo s k + (fctL s (k + 1)).length ≤ _
    omega
set_option maxHeartbeats 400000 in
theorem implAllFactors (s : ByteArray) (w : World) (hs : s.size ≤ 1048576) :
    Calls Try.prog 46 #[.string s] w fun e w' => e = .returned (.int .i64 (allR s)) ∧ Below w.heap.size w w' := by
  cases hw : wordB s
  · have HW := Lib.hid hw
    have HV : Hid (allR s = -1) := by show allR s = _; unfold allR allOk; rw [hw]; rfl
    clear hw
    go_enter Try.func46, Try.ntmps46
    go_wp2_with fail
    refine (implWordOk s _ hs).mono ?_
    rintro e w1 ⟨rfl, hb1⟩
    have HB := Lib.hid hb1
    rw [HW.out]
    clear hb1
    go_wp2_with fail
    go_ret
    exact ⟨ret_int HV.out.symm, HB.out⟩
  · have HW := Lib.hid hw
    by_cases h60 : 60 < s.size
    · have HV : Hid (allR s = -1) := by show allR s = _; unfold allR allOk; rw [hw, decide_eq_false (by omega)]; rfl
      have d1 : decide ((60 : Int) < (s.size : Int)) = true := by simp; omega
      clear hw
      go_enter Try.func46, Try.ntmps46
      go_wp2_with fail
      refine (implWordOk s _ hs).mono ?_
      rintro e w1 ⟨rfl, hb1⟩
      have HB := Lib.hid hb1
      rw [HW.out]
      clear hb1
      go_wp2_with fail
      go_ret
      exact ⟨ret_int HV.out.symm, HB.out⟩
    · have HV : Hid (allR s = (allTo s s.size : Int)) := if_pos (by unfold allOk; rw [hw, decide_eq_true (by omega)]; rfl)
      have d1 : decide ((60 : Int) < (s.size : Int)) = false := by simp; omega
      have HF := Lib.hid (fun m (hm : 1 ≤ m ∧ m ≤ 60) w => implFactors s m w (by omega) hm.1 (by omega))
      have HLE := Lib.hid (allTo_lim s (by omega))
      clear hw
      go_enter Try.func46, Try.ntmps46
      go_wp2_with fail
      refine (implWordOk s _ hs).mono ?_
      rintro e w1 ⟨rfl, hb1⟩
      have HB := Lib.hid hb1
      rw [HW.out]
      clear hb1
      go_wp2_with fail
      go_loopw [3, 15] (fun o ix w' => ∃ i : Nat, i ≤ s.size ∧ ix = .int .i64 (i : Int) ∧ o = .int .i64 (allTo s i : Int) ∧ Below w.heap.size w w') (fun _ ix _ => s.size - (intOf ix).toNat)
      case atStart => exact ⟨0, by omega, rfl, rfl, HB.out⟩
      case round =>
        obtain ⟨i, hi, rfl, rfl, hb⟩ := hrel
        have HBR := Lib.hid hb
        have hle := HLE.out i
        clear hb
        by_cases hlt : i < s.size
        · have HFI := Lib.hid (HF.out (i + 1) (by omega))
          have e1 : ((i + 1 : Nat) : Int) = (i : Int) + 1 := by omega
          rw [e1] at HFI
          go_wp2_with fail
          refine (HFI.out _).mono ?_
          rintro e w3 ⟨L, rfl, hF, hL, hl, hb⟩
          have HB3 : Hid (Below w.heap.size w w3) := HBR.out.trans (hb.mono HBR.out.size)
          have HLEN := Lib.hid (facS_len hL hF.nodup)
          have HFS := Lib.hid hF
          clear hF hL hb
          go_wp2_with (at_len; refine wp_mapLen _ rfl _ tSet rfl uSet wr.heap.size L _ rfl HFS.out ?_)
          go_roundw
          case rel =>
            refine ⟨i + 1, by omega, by go_num, ?_, HB3.out⟩
            show _ = Value.int .i64 ((allTo s i + (fctL s (i + 1)).length : Nat) : Int)
            rw [← HLEN.out]
            go_num
          case measure => simp [intOf]; omega
        · have hii : i = s.size := by omega
          have HE : Hid ((allTo s i : Int) = (allTo s s.size : Int)) := by show _ = _; rw [hii]
          clear hii
          go_wp2_with fail
          go_ret
          exact ⟨ret_int (by rw [HV.out, HE.out]), HBR.out⟩
end Go.Proofs.Ytfcbfflkajlhnaa
