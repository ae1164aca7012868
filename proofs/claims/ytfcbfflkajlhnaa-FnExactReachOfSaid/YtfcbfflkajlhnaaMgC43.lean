/- Texts put together. -/
import Derived.Test.YtfcbfflkajlhnaaMgC36
import Derived.Test.YtfcbfflkajlhnaaMgC42
/- The program's ReachOf. Conditions: lengths of at most 2^20. -/
namespace Go.Proofs.Ytfcbfflkajlhnaa
open Go.RowKit

abbrev tNext : TypeId := 126
theorem uNext : Try.prog.underlying tNext = some (.map fK 3) := Try.underlying126
abbrev FNext (w : World) (b : Nat) (L : List FK) (N : ByteArray → Nat) : Prop := FMap Try.prog fK 3 w b L (fun p => .int .i64 (N p.1))
noncomputable def upN (N : ByteArray → Nat) (f : ByteArray) (k : Nat) (x : ByteArray) : Nat := if @decide (x = f) (Classical.propDecidable _) = true then k else N x
theorem upN_at (N : ByteArray → Nat) (f : ByteArray) (k : Nat) : upN N f k f = k := if_pos (@decide_eq_true _ (Classical.propDecidable _) rfl)
theorem upN_other (N : ByteArray → Nat) (f : ByteArray) (k : Nat) (x : ByteArray) (h : x ≠ f) : upN N f k x = N x := if_neg (by rw [@decide_eq_false _ (Classical.propDecidable _) h]; decide)

set_option maxRecDepth 100000 in
set_option maxHeartbeats 1000000 in
theorem implLongest (s : ByteArray) (n : Nat) (w : World) (hs : s.size ≤ 400) (h1 : 1 ≤ n) (hn : n ≤ s.size) :
    Calls Try.prog 93 #[.string s, .int .i64 n] w fun e w' => e = .returned (.int .i64 (topTo (LackK s n) s.size : Int)) ∧ Below w.heap.size w w' := by
  have hmm := @run_makeMap Try.prog
  have hbf := build_f
  have HIN : Hid (∀ i, i < s.size + 1 - n → s.extract i (i + n) ∈ fctL s n) := fun i hi => (fct_mem s n _).2 ⟨i, hi, rfl⟩
  go_enter Try.func93, Try.ntmps93
  go_wp2_with fail
  go_loopw [5, 17] (fun o ix w' => ∃ (i c : Nat) (L : List FK) (N : ByteArray → Nat), i ≤ s.size + 1 - n ∧ ix = .int .i64 (i : Int) ∧ o = .int .i64 (c : Int) ∧ FNext w' w.heap.size L N ∧ SetIs L (facS s n i) ∧ L.length ≤ i ∧ RchAt s n i N c ∧ Below w.heap.size w w') (fun _ ix _ => s.size + 1 - n - (intOf ix).toNat)
  case atStart => exact ⟨0, 0, [], fun _ => 0, by omega, rfl, rfl, FMap.made w _, set_empty (facS_zero s n), Nat.le_refl _, rch_start s n, (Below.refl _ _).alloc (Nat.le_refl _) _⟩
  case round =>
    obtain ⟨i, c, L, N, hi, rfl, rfl, hF, hL, hl, hR, hb⟩ := hrel
    have HF := Lib.hid hF
    have HL := Lib.hid hL
    have HB := Lib.hid hb
    have HR := Lib.hid hR
    have hcs := lackC_le hR.1
    clear hF hL hb
    by_cases hlt : i < s.size + 1 - n
    · have dlt : (i : Int) < (s.size : Int) - (n : Int) + 1 := by omega
      have hsl : ∀ w : World, (Instr.slice 68 (.string s) (some (.int .i64 (i : Int))) (some (.int .i64 ((i : Int) + (n : Int)))) none).run Try.prog w = .ok (.string (s.extract i (i + n))) w := fun w => slice_at Try.underlying68 s i n w (by omega)
      have hfr := (hR.2.1 (s.extract i (i + n))).1
      have HN0 : Hid ((s.extract i (i + n), (0 : Int)) ∉ L → (N (s.extract i (i + n)) : Int) = 0) := fun hh => by
        have := hR.2.2 (s.extract i (i + n)) fun j hj e => hh ((HL.out _).2 ⟨j, hj, by rw [e]⟩)
        omega
      have HST := Lib.hid (rch_step (N' := upN N (s.extract i (i + n)) (i + 1)) hR h1 (by omega) (HIN.out i hlt) (upN_at _ _ _) (fun f hf => upN_other _ _ _ f hf))
      have hok := fok_part s (by omega) i n 0 (by omega)
      have HUP : Hid (∀ q ∈ L, q ≠ (s.extract i (i + n), (0 : Int)) → Lit.int .i64 (upN N (s.extract i (i + n)) (i + 1) q.1 : Int) = Lit.int .i64 (N q.1 : Int)) := fun q hq hne => by
        rw [upN_other]
        intro e
        obtain ⟨j, _, e2⟩ := (HL.out q).1 hq
        exact hne (Prod.ext e (by rw [e2]))
      have HVAL : Hid (plainElem (H := Empty) Try.prog 3 (.int .i64 ((i : Int) + 1)) = some (.lit (.int .i64 (upN N (s.extract i (i + n)) (i + 1) (s.extract i (i + n)) : Int)), [])) := by
        show _ = _
        rw [upN_at]
        exact plainElem_int Try.underlying3 (WalkArith.wf_i64 (by omega))
      have HOK := Lib.hid hok
      have HFA : Hid (FNext (wr.alloc (.cells #[.string (s.extract i (i + n)), .int .u8 0] 124)) w.heap.size L N) := HF.out.alloc _
      clear hR hok
      generalize hfe : s.extract i (i + n) = f at *
      generalize hne : N f = fr at *
      go_wp2_with (first
        | (at_lookup; refine wp_lookI _ rfl _ _ tNext rfl fT fk_law uNext Try.underlying3 (zeroI _) w.heap.size L _ rfl HFA.out (f, 0) rfl HOK.out (fr : Int) (fun _ => by show Lit.int .i64 (N f : Int) = _; rw [hne]) HN0.out ?_)
        | (at_mapUpdate; refine wp_put _ rfl _ _ _ tNext rfl fT fk_law uNext w.heap.size L (fun p => .int .i64 (N p.1)) rfl HFA.out (by unfold maxLen; omega) (f, 0) (.int .i64 ((i : Int) + 1)) rfl rfl HOK.out (fun p => .int .i64 (upN N f (i + 1) p.1 : Int)) HUP.out HVAL.out ?_; intro w2 L2 hF2 hm2 hl2 hg2 hs2))
      go_roundw
      case rel =>
        have hmx : max (c : Int) ((i : Int) + (n : Int) - 1 - (fr : Int)) = ((max c (i + n - 1 - fr) : Nat) : Int) := by omega
        exact ⟨i + 1, max c (i + n - 1 - fr), L2, upN N f (i + 1), by omega, by go_num, by rw [hmx], hF2, set_next HL.out hm2 (by rw [← hfe]; exact facS_next s n i), by omega, HST.out, (HB.out.alloc HB.out.size _).grown hg2 (by simp; have := HB.out.size; omega) (fun k hk => by injection hk with hk; omega)⟩
      case measure => simp [intOf]; omega
    · obtain ⟨wo, rfl⟩ : ∃ x : World, x = wr := ⟨_, rfl⟩
      have hii : i = s.size + 1 - n := by omega
      have dlt : ¬ (i : Int) < (s.size : Int) - (n : Int) + 1 := by omega
      have HME : Hid (∀ x, x ∈ fctL s n ↔ ∃ z, (x, z) ∈ L) := facS_mem (by rw [← hii]; exact HL.out)
      have HZ : Hid (∀ p ∈ L, p.2 = 0) := fun p hp => by obtain ⟨j, _, e⟩ := (HL.out p).1 hp; rw [e]
      have HRE : Hid (RchEnd s n N (fun f => (f, (0 : Int)) ∈ L) c) := rend_start (by rw [← hii]; exact HR.out) (fun f hf => by
        obtain ⟨z, hz⟩ := (HME.out f).1 hf
        have hz0 : z = 0 := HZ.out _ hz
        rw [hz0] at hz
        exact hz)
      have HNE : Hid (fctL s n ≠ []) := fun e => by
        have := HIN.out 0 (by omega)
        rw [e] at this
        cases this
      clear hR hii
      go_wp2_with (at_range; refine wp_range _ rfl _ tNext rfl fk_law uNext w.heap.size L _ rfl HF.out ?_; intro w2 hF2 hg2 hs2)
      first | go_frame | skip
      have HF2 := Lib.hid hF2
      have HB2 : Hid (Below w.heap.size w w2) := HB.out.grown hg2 HB.out.size (fun k hk => by cases hk)
      have hbr := HB.out.size
      clear hF2 hg2
      go_loopw [5] (fun o w' => ∃ (c : Nat) (M : List FK), o = .int .i64 (c : Int) ∧ FRange Try.prog fK 3 w' w.heap.size wo.heap.size L (fun p => .int .i64 (N p.1)) M ∧ RchEnd s n N (fun f => (f, (0 : Int)) ∈ M) c ∧ Below w.heap.size w w') (fun _ w' => w'.rangeLeft w.heap.size wo.heap.size)
      case atStart => exact ⟨c, L, rfl, HF2.out, HRE.out, HB2.out⟩
      case round =>
        obtain ⟨c', M, rfl, hF, hR, hb⟩ := hrel
        have hcs' := lackC_le hR.1
        have HFR := Lib.hid hF
        have HRR := Lib.hid hR
        have HBR := Lib.hid hb
        clear hF hR hb HRE HF2 HB2
        go_wp2_with (at_next; refine wp_step _ rfl _ rfl fT fk_law w.heap.size wo.heap.size L _ M rfl HFR.out (fun p => .int .i64 (N p.1)) (fun p v ps h => vv_int _ v ps h) ?_ ?_)
        · intro hM0
          subst hM0
          have HEND := Lib.hid (rend_end HRR.out h1 HNE.out (fun f hf => by cases hf))
          go_wp2_with fail
          go_ret
          exact ⟨ret_int (by rw [HEND.out]), HBR.out⟩
        · intro f z M' w3 hp hM' hl' hF3 hlt3 hg3 hs3 hen
          have hpL := HFR.out.sub _ hp
          have hz0 : z = 0 := HZ.out _ hpL
          subst hz0
          have hfr := (HRR.out.2.1 f).1
          have HST := Lib.hid (rend_step (M' := fun g => (g, (0 : Int)) ∈ M') HRR.out ⟨h1, hn⟩ ((HME.out f).2 ⟨_, hpL⟩) (fun g hg hne => (hM' _).2 ⟨hg, fun e => hne (congrArg Prod.fst e)⟩))
          have HF3 := Lib.hid hF3
          have HLT := Lib.hid hlt3
          have HB3 : Hid (Below w.heap.size w w3) := HBR.out.grown hg3 HBR.out.size (fun k hk => by injection hk with hk; omega)
          clear hF3 hlt3 hg3 hM' hp hpL
          go_wp2_with fail
          go_roundw
          case rel =>
            have hmx : max (c' : Int) ((s.size : Int) - (N f : Int)) = ((max c' (s.size - N f) : Nat) : Int) := by omega
            exact ⟨max c' (s.size - N f), M', by rw [hmx], HF3.out, HST.out, HB3.out⟩
          case measure => exact HLT.out

theorem fctL_nil {s : ByteArray} {n : Nat} (h : s.size < n) : fctL s n = [] := by
  have := fctL_lim s n
  exact List.eq_nil_of_length_eq_zero (by omega)
theorem fctL_some {s : ByteArray} {n : Nat} (h : n ≤ s.size) : fctL s n ≠ [] := fun e => by
  have := (fct_mem s n (s.extract 0 (0 + n))).2 ⟨0, by omega, rfl⟩
  rw [e] at this
  cases this

set_option maxHeartbeats 400000 in
theorem implReachOf (s : ByteArray) (n : Int) (w : World) (hs : s.size ≤ 1048576) :
    Calls Try.prog 45 #[.string s, .int .i64 n] w fun e w' => e = .returned (.int .i64 (rchR s n)) ∧ Below w.heap.size w w' := by
  cases hok : fctOk s n
  · have HV : Hid (rchR s n = -1) := by show rchR s n = -1; unfold rchR; rw [hok]; rfl
    have HOK := Lib.hid hok
    clear hok
    go_enter Try.func45, Try.ntmps45
    go_wp2_with fail
    refine (implCanHave s n _ hs).mono ?_
    rintro e w1 ⟨rfl, hb1⟩
    have HB := Lib.hid hb1
    rw [HOK.out]
    clear hb1
    go_wp2_with fail
    go_ret
    exact ⟨ret_int HV.out.symm, HB.out⟩
  · obtain ⟨h4, h1, h2⟩ := fct_ok hok
    obtain ⟨m, rfl⟩ : ∃ m : Nat, n = m := ⟨n.toNat, by omega⟩
    have HOK := Lib.hid hok
    by_cases hlt : s.size < m
    · have HV : Hid (rchR s m = 0) := by show rchR s m = 0; unfold rchR; rw [if_pos hok, Int.toNat_natCast, if_pos (fctL_nil hlt)]
      have d1 : decide ((s.size : Int) < (m : Int)) = true := by simp; omega
      clear hok
      go_enter Try.func45, Try.ntmps45
      go_wp2_with fail
      refine (implCanHave s m _ hs).mono ?_
      rintro e w1 ⟨rfl, hb1⟩
      have HB := Lib.hid hb1
      rw [HOK.out]
      clear hb1
      go_wp2_with fail
      go_ret
      exact ⟨ret_int HV.out.symm, HB.out⟩
    · have HV : Hid (rchR s m = (topTo (LackK s m) s.size : Int) + 1) := by show rchR s m = _; unfold rchR; rw [if_pos hok, Int.toNat_natCast, if_neg (fctL_some (by omega))]
      have d1 : decide ((s.size : Int) < (m : Int)) = false := by simp; omega
      have HLO := Lib.hid (fun w => implLongest s m w h4 (by omega) (by omega))
      have hle : topTo (LackK s m) s.size ≤ s.size := topTo_le _ _
      clear hok
      generalize topTo (LackK s m) s.size = c at HV HLO hle
      go_enter Try.func45, Try.ntmps45
      go_wp2_with fail
      refine (implCanHave s m _ hs).mono ?_
      rintro e w1 ⟨rfl, hb1⟩
      have HB := Lib.hid hb1
      rw [HOK.out]
      clear hb1
      go_wp2_with fail
      refine (HLO.out _).mono ?_
      rintro e w2 ⟨rfl, hb⟩
      have HB2 : Hid (Below w.heap.size w w2) := HB.out.trans (hb.mono HB.out.size)
      clear hb
      go_wp2_with fail
      go_ret
      exact ⟨ret_int HV.out.symm, HB2.out⟩
end Go.Proofs.Ytfcbfflkajlhnaa
