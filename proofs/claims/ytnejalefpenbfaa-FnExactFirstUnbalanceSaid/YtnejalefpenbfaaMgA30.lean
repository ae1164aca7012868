/- Texts put together. -/
import Derived.Test.YtnejalefpenbfaaMgA24
import Derived.Test.YtnejalefpenbfaaMgA29
/- The program's FirstUnbalance. Conditions: a text of at most 2^20 bytes; the library's own variable holds an integer. -/
namespace Go.Proofs.Ytnejalefpenbfaa
open Go.RowKit Go.Lib

theorem fctR_few (s : ByteArray) (n : Int) : (fctR s n).length ≤ s.size + 1 := by
  unfold fctR
  split
  · have := fctL_lim s n.toNat
    omega
  · exact Nat.zero_le _
theorem fu_row {s : ByteArray} (hb : binB s = true) :
    (∀ f ∈ fctR s (ubN s : Int), f.size = ubN s ∧ 2 ≤ ubN s ∧ ubN s ≤ 400 ∧ (f = wrapB 97 (f.extract 1 (ubN s - 1)) 97 → factR s (wrapB 98 (f.extract 1 (ubN s - 1)) 98) = true → fuR s = wrapB 42 (f.extract 1 (ubN s - 1)) 42))
    ∧ (fuR s = ⟨#[]⟩ ∨ ∃ f ∈ fctR s (ubN s : Int), f = wrapB 97 (f.extract 1 (ubN s - 1)) 97 ∧ factR s (wrapB 98 (f.extract 1 (ubN s - 1)) 98) = true) := by
  have hw := bin_word hb
  have h400 := word_size hw
  by_cases h : ubN s = 0
  · have hR : fctR s (ubN s : Int) = [] := by
      unfold fctR
      rw [if_neg]
      unfold fctOk
      rw [h]
      simp
    rw [hR]
    exact ⟨fun f hf => by simp at hf, .inl (fu_none h)⟩
  · obtain ⟨m, hm, hle, huni, j, hj⟩ := fu_some hb h
    have hR : fctR s (ubN s : Int) = fctL s (m + 2) := by
      rw [hm]
      unfold fctR
      rw [if_pos, Int.toNat_natCast]
      unfold fctOk
      rw [hw, decide_eq_true (show (1 : Int) ≤ ((m + 2 : Nat) : Int) by omega), decide_eq_true (show ((m + 2 : Nat) : Int) ≤ 400 by omega)]
      rfl
    have hmid : ∀ (a b : UInt8) (u : ByteArray), u.size = m → (wrapB a u b).extract 1 (m + 2 - 1) = u := fun a b u hu => by
      have := wrap_mid a u b
      rw [hu] at this
      rw [show m + 2 - 1 = 1 + m by omega]
      exact this
    rw [hR, hm]
    constructor
    · intro f hf
      obtain ⟨q, hq, rfl⟩ := (fct_mem s (m + 2) f).1 hf
      have hz := pz_size s q (m + 2) (by omega)
      have hz2 := pz_size s (q + 1) m (by omega)
      refine ⟨hz, by omega, by omega, ?_⟩
      have ha := at_list s q (by omega)
      have hb2 := at_list s (q + m + 1) (by omega)
      have hew := ext_wrap (by omega) ha hb2
      rw [hew, hmid _ _ _ hz2]
      intro e1 e2
      obtain ⟨f1, _, f3⟩ := wrap_inj e1
      refine huni q ⟨by omega, by rw [ha, f1], by rw [hb2, f3], ?_⟩
      unfold factR at e2
      rw [Bool.and_eq_true, Bool.and_eq_true] at e2
      exact (has_two hz2).1 e2.2.2
    · refine .inr ⟨s.extract j (j + (m + 2)), (fct_mem s (m + 2) _).2 ⟨j, by have := hj.1; omega, rfl⟩, ?_⟩
      obtain ⟨h1, a1, a2, hex⟩ := hj
      have hz2 := pz_size s (j + 1) m (by omega)
      rw [ext_wrap h1 a1 a2, hmid _ _ _ hz2]
      refine ⟨rfl, ?_⟩
      have hh := (has_two hz2).2 hex
      obtain ⟨i, hi1, hi2⟩ := (has_iff _ _).1 hh
      have hwb : wordB (wrapB 98 (s.extract (j + 1) (j + 1 + m)) 98) = true := by
        rw [← hi2]
        exact py_part hw _ _
      unfold factR
      rw [hw, hwb, hh]
      rfl

set_option maxRecDepth 100000 in
set_option maxHeartbeats 2000000 in
theorem implFirstUnbalance (s : ByteArray) (m : Int) (w : World) (hm : w.cell? ⟨0, 0, none⟩ = some (.int .i64 m)) (hs : s.size ≤ 1048576) :
    Calls Try.prog 26 #[.string s] w fun e w' => e = .returned (.string (fuR s)) ∧ Below w.heap.size w w' := by
  have HBI := Lib.hid (fun w => implIsBinary s w hs)
  cases hb : binB s
  · have HV : Hid (fuR s = ⟨#[]⟩) := if_neg (by rw [hb]; decide)
    rw [hb] at HBI
    clear hb
    generalize fuR s = r at *
    go_enter Try.func26, Try.ntmps26
    go_wp2_with fail
    refine (HBI.out _).mono ?_
    rintro e w1 ⟨rfl, hb1⟩
    have HB1 := Lib.hid hb1
    clear hb1
    go_wp2_with fail
    go_ret
    exact ⟨ret_str HV.out.symm, HB1.out⟩
  obtain ⟨hrow, hend⟩ := fu_row hb
  have h4 := word_size (bin_word hb)
  have hgl := World.block_lt_of_cell? w _ hm
  have hRl := fctR_few s (ubN s : Int)
  have HFI : Hid (∀ f (wx : World), f.size ≤ 1048576 → Below w.heap.size w wx → Calls Try.prog 44 #[.string s, .string f] wx fun e w' => e = .returned (.bool (factR s f)) ∧ Below wx.heap.size wx w') := fun f wx hf hb => implIsFactor s f m wx ((hb.cell (p := ⟨0, 0, none⟩) hgl).trans hm) hs hf
  have HUB := Lib.hid (fun w => implUnbalanced s w hb)
  have HFO := Lib.hid (fun w => implFactorsOf s (ubN s : Int) w hs)
  have HROW := Lib.hid hrow
  have HEND := Lib.hid hend
  rw [hb] at HBI
  clear hb hrow hend hm hgl
  generalize fuR s = r at *
  generalize ubN s = n at *
  generalize fctR s (n : Int) = R at *
  generalize factR s = fac at *
  go_enter Try.func26, Try.ntmps26
  go_wp2_with fail
  refine (HBI.out _).mono ?_
  rintro e w1 ⟨rfl, hb1⟩
  have HB1 := Lib.hid hb1
  clear hb1
  go_wp2_with fail
  refine (HUB.out _).mono ?_
  rintro e w2 ⟨rfl, k2, hk2⟩
  have HB2 : Hid (Below w.heap.size w w2) := by show Below _ _ _; rw [hk2]; exact below_drewN HB1.out k2
  clear hk2
  go_wp2_with fail
  refine (HFO.out _).mono ?_
  rintro e w3 ⟨v3, rfl, ho3, hb3⟩
  have HB3 := Lib.hid (HB2.out.trans (hb3.mono HB2.out.size))
  have hz23 : w.heap.size ≤ w2.heap.size := HB2.out.size
  have HO3 := Lib.hid ho3
  obtain ⟨A3, cp3, rfl⟩ := own_slice ho3
  clear hb3 ho3
  go_wp2_with fail
  go_loopw [16] (fun iv w' => ∃ k : Nat, k ≤ R.length ∧ iv = .int .i64 (k : Int) ∧ (∀ q (hq : q < R.length), q < k → ¬ (R[q] = wrapB 97 (R[q].extract 1 (n - 1)) 97 ∧ fac (wrapB 98 (R[q].extract 1 (n - 1)) 98) = true)) ∧ Below w3.heap.size w3 w') (fun iv _ => R.length - (intOf iv).toNat)
  case atStart => exact ⟨0, Nat.zero_le _, rfl, fun q _ h => absurd h (by omega), Below.refl _ _⟩
  case round =>
    obtain ⟨k, hk, rfl, hno, hbw⟩ := hrel
    have HNO := Lib.hid hno
    have HBW := Lib.hid hbw
    clear hno hbw
    by_cases hlt : k < R.length
    · have hlt' : (k : Int) < (R.length : Int) := by omega
      have HOK := Lib.hid (own_below HO3.out HBW.out)
      obtain ⟨g3, c3, e3, _⟩ := own_some HO3.out (by omega)
      injection e3 with e3 _ e4
      subst e3
      subst e4
      have ck : wr.cell? ⟨g3, k, none⟩ = some (.string R[k]) := (HOK.out.cellAt k (by omega)).trans (by simp [strs, hlt])
      obtain ⟨hfz, hn2, hn4, huni⟩ := HROW.out R[k] (List.getElem_mem _)
      have HUNI := Lib.hid huni
      have HNX : Hid (¬ (R[k] = wrapB 97 (R[k].extract 1 (n - 1)) 97 ∧ fac (wrapB 98 (R[k].extract 1 (n - 1)) 98) = true) → ∀ q (hq : q < R.length), q < k + 1 → ¬ (R[q] = wrapB 97 (R[q].extract 1 (n - 1)) 97 ∧ fac (wrapB 98 (R[q].extract 1 (n - 1)) 98) = true)) := fun h q hq hqk => by
        by_cases e : q = k
        · subst e; exact h
        · exact HNO.out q hq (by omega)
      have hsl : ∀ w : World, (Instr.slice 9 (.string R[k]) (some (.int .i64 1)) (some (.int .i64 ((n : Int) - 1))) none).run Try.prog w = .ok (.string (R[k].extract 1 (n - 1))) w := fun w => slice_gen Try.underlying9 R[k] 1 ((n : Int) - 1) 1 (n - 1) w rfl (by omega) (by omega) (by omega)
      have huz : (R[k].extract 1 (n - 1)).size ≤ 400 := by rw [ByteArray.size_extract]; omega
      have HB4 := Lib.hid (HB3.out.trans (HBW.out.mono HB3.out.size))
      have HFK := Lib.hid (HFI.out (wrapB 98 (R[k].extract 1 (n - 1)) 98) wr (by rw [wrap_size]; omega) HB4.out)
      clear huni
      generalize R[k].extract 1 (n - 1) = u at *
      generalize R[k] = f at *
      have hf400 : f.size ≤ 400 := by omega
      have z1 : ((⟨#[97]⟩ : ByteArray) ++ u).size ≤ 401 := by rw [ByteArray.size_append]; show 1 + _ ≤ _; omega
      have z2 : ((⟨#[98]⟩ : ByteArray) ++ u).size ≤ 401 := by rw [ByteArray.size_append]; show 1 + _ ≤ _; omega
      have z3 : ((⟨#[42]⟩ : ByteArray) ++ u).size ≤ 401 := by rw [ByteArray.size_append]; show 1 + _ ≤ _; omega
      have eA : wrapB 97 u 97 = ⟨#[97]⟩ ++ u ++ ⟨#[97]⟩ := rfl
      have eB : wrapB 98 u 98 = ⟨#[98]⟩ ++ u ++ ⟨#[98]⟩ := rfl
      have eS : wrapB 42 u 42 = ⟨#[42]⟩ ++ u ++ ⟨#[42]⟩ := rfl
      rw [eA, eB] at HNX HUNI
      rw [eS] at HUNI
      rw [eB] at HFK
      clear eA eB eS hfz
      by_cases hc : f = ⟨#[97]⟩ ++ u ++ ⟨#[97]⟩
      · have hq := eq_bytes hc
        cases hfa : fac (⟨#[98]⟩ ++ u ++ ⟨#[98]⟩)
        · have HX := Lib.hid (HNX.out fun h => by rw [hfa] at h; exact absurd h.2 (by decide))
          rw [hfa] at HFK
          clear hc hfa HNX HUNI HNO
          go_wp2_with fail
          refine HFK.out.mono ?_
          rintro e w5 ⟨rfl, hb5⟩
          have HB5 := Lib.hid (HBW.out.trans (hb5.mono HBW.out.size))
          clear hb5
          go_wp2_with fail
          go_roundw
          case rel => exact ⟨k + 1, by omega, by go_num, HX.out, HB5.out⟩
          case measure => simp [intOf]; omega
        · have HX := Lib.hid (HUNI.out hc hfa)
          rw [hfa] at HFK
          clear hc hfa HNX HUNI HNO
          go_wp2_with fail
          refine HFK.out.mono ?_
          rintro e w5 ⟨rfl, hb5⟩
          have HB5 := Lib.hid (HB4.out.trans (hb5.mono HB4.out.size))
          clear hb5
          go_wp2_with fail
          go_ret
          exact ⟨ret_str HX.out.symm, HB5.out⟩
      · have hq := ne_bytes hc
        have HX := Lib.hid (HNX.out fun h => hc h.1)
        clear hc HNX HUNI HNO
        go_wp2_with fail
        go_roundw
        case rel => exact ⟨k + 1, by omega, by go_num, HX.out, HBW.out⟩
        case measure => simp [intOf]; omega
    · have hlt' : ¬ (k : Int) < (R.length : Int) := by omega
      have HR : Hid (r = ⟨#[]⟩) := by
        show _ = _
        rcases HEND.out with h | ⟨f, hf, h1, h2⟩
        · exact h
        · obtain ⟨q, hq, rfl⟩ := List.getElem_of_mem hf
          exact absurd ⟨h1, h2⟩ (HNO.out q hq (by omega))
      go_wp2_with fail
      go_ret
      exact ⟨ret_str HR.out.symm, HB3.out.trans (HBW.out.mono HB3.out.size)⟩
end Go.Proofs.Ytnejalefpenbfaa
