/- Texts put together. -/
import Derived.Test.YtfcbfflkajlhnaaMgU22
import Derived.Test.YtfcbfflkajlhnaaMgU5
import Derived.Test.YtfcbfflkajlhnaaMgU2
import Derived.Test.YtfcbfflkajlhnaaChecked
import Derived.Laws.Cover1
import Derived.Test.YtfcbfflkajlhnaaMgU8
import Derived.Test.YtfcbfflkajlhnaaMgU9
/- The program's ReachOf. Conditions: lengths of at most 2^20. -/
namespace Go.Proofs.Ytfcbfflkajlhnaa
open Go.RowKit

abbrev tNext : TypeId := 126
theorem uNext : Try.prog.underlying tNext = some (.map fK 3) := Try.underlying126
abbrev FNext (w : World) (b : Nat) (L : List FK) (N : ByteArray → Nat) : Prop := FMap Try.prog fK 3 w b L (fun p => .int .i64 (N p.1))
noncomputable def upN (N : ByteArray → Nat) (f : ByteArray) (k : Nat) (x : ByteArray) : Nat := if @decide (x = f) (Classical.propDecidable _) = true then k else N x
theorem upN_at (N : ByteArray → Nat) (f : ByteArray) (k : Nat) : upN N f k f = k := if_pos (@decide_eq_true _ (Classical.propDecidable _) rfl)
theorem upN_other (N : ByteArray → Nat) (f : ByteArray) (k : Nat) (x : ByteArray) (h : x ≠ f) : upN N f k x = N x := if_neg (by rw [@decide_eq_false _ (Classical.propDecidable _) h]; decide)

set_option maxRecDepth 100000 in
set_option maxHeartbeats 1000000 in
theorem implLongest (s : ByteArray) (n : Nat) (w : World) (hs : s.size ≤ 400) (h1 : 1 ≤ n) (hn : n ≤ s.size) :
    Calls Try.prog 93 #[.string s, .int .i64 n] w fun e w' => e = .returned (.int .i64 (topTo (LackK s n) s.size : Int)) ∧ Below w.heap.size w w' := by
  have hmm := @run_makeMap Try.prog
  have hbf := build_f
  have HIN : Hid (∀ i, i < s.size + 1 - n → s.extract i (i + n) ∈ fctL s n) := fun i hi => (fct_mem s n _).2 ⟨i, hi, rfl⟩
  go_enter Try.func93, Try.ntmps93
  go_wp2_with fail
  go_loopw [5, 17] (fun o ix w' => ∃ (i c : Nat) (L : List FK) (N : ByteArray → Nat), i ≤ s.size + 1 - n ∧ ix = .int .i64 (i : Int) ∧ o = .int .i64 (c : Int) ∧ FNext w' w.heap.size L N ∧ SetIs L (facS s n i) ∧ L.length ≤ i ∧ RchAt s n i N c ∧ Below w.heap.size w w') (fun _ ix _ => s.size + 1 - n - (intOf ix).toNat)
  case atStart => exact ⟨0, 0, [], fun _ => 0, by omega, rfl, rfl, FMap.made w _, set_empty (facS_zero s n), Nat.le_refl _, rch_start s n, (Below.refl _ _).alloc (Nat.le_refl _) _⟩
  case round =>
    obtain ⟨i, c, L, N, hi, rfl, rfl, hF, hL, hl, hR, hb⟩ := hrel
    have HF := Lib.hid hF
    have HL := Lib.hid hL
    have HB := Lib.hid hb
    have HR := Lib.hid hR
    have hcs := lackC_le hR.1
    clear hF hL hb
    by_cases hlt : i < s.size + 1 - n
    · have dlt : (i : Int) < (s.size : Int) - (n : Int) + 1 := by omega
      have hsl : ∀ w : World, (Instr.slice 68 (.string s) (some (.int .i64 (i : Int))) (some (.int .i64 ((i : Int) + (n : Int)))) none).run Try.prog w = .ok (.string (s.extract i (i + n))) w := fun w => slice_at Try.underlying68 s i n w (by omega)
      have hfr := (hR.2.1 (s.extract i (i + n))).1
      have HN0 : Hid ((s.extract i (i + n), (0 : Int)) ∉ L → (N (s.extract i (i + n)) : Int) = 0) := fun hh => by
        have := hR.2.2 (s.extract i (i + n)) fun j hj e => hh ((HL.out _).2 ⟨j, hj, by rw [e]⟩)
        omega
      have HST := Lib.hid (rch_step (N' := upN N (s.extract i (i + n)) (i + 1)) hR h1 (by omega) (HIN.out i hlt) (upN_at _ _ _) (fun f hf => upN_other _ _ _ f hf))
      have hok := fok_part s (by omega) i n 0 (by omega)
      have HUP : Hid (∀ q ∈ L, q ≠ (s.extract i (i + n), (0 : Int)) → Lit.int .i64 (upN N (s.extract i (i + n)) (i + 1) q.1 : Int) = Lit.int .i64 (N q.1 : Int)) := fun q hq hne => by
        rw [upN_other]
        intro e
        obtain ⟨j, _, e2⟩ := (HL.out q).1 hq
        exact hne (Prod.ext e (by rw [e2]))
      have HVAL : Hid (plainElem (H := Empty) Try.prog 3 (.int .i64 ((i : Int) + 1)) = some (.lit (.int .i64 (upN N (s.extract i (i + n)) (i + 1) (s.extract i (i + n)) : Int)), [])) := by
        show _ = _
        rw [upN_at]
        exact plainElem_int Try.underlying3 (WalkArith.wf_i64 (by omega))
      have HOK := Lib.hid hok
      have HFA : Hid (FNext (wr.alloc (.cells #[.string (s.extract i (i + n)), .int .u8 0] 124)) w.heap.size L N) := HF.out.alloc _
      clear hR hok
      generalize hfe : s.extract i (i + n) = f at *
      generalize hne : N f = fr at *
      go_wp2_with (first
        | (at_lookup; refine wp_lookI _ rfl _ _ tNext rfl fT fk_law uNext Try.underlying3 (zeroI _) w.heap.size L _ rfl HFA.out (f, 0) rfl HOK.out (fr : Int) (fun _ => by show Lit.int .i64 (N f : Int) = _; rw [hne]) HN0.out ?_)
        | (at_mapUpdate; refine wp_put _ rfl _ _ _ tNext rfl fT fk_law uNext w.heap.size L (fun p => .int .i64 (N p.1)) rfl HFA.out (by unfold maxLen; omega) (f, 0) (.int .i64 ((i : Int) + 1)) rfl rfl HOK.out (fun p => .int .i64 (upN N f (i + 1) p.1 : Int)) HUP.out HVAL.out ?_; intro w2 L2 hF2 hm2 hl2 hg2 hs2))
      go_roundw
      case rel =>
        have hmx : max (c : Int) ((i : Int) + (n : Int) - 1 - (fr : Int)) = ((max c (i + n - 1 - fr) : Nat) : Int) := by omega
        exact ⟨i + 1, max c (i + n - 1 - fr), L2, upN N f (i + 1), by omega, by go_num, by rw [hmx], hF2, set_next HL.out hm2 (by rw [← hfe]; exact facS_next s n i), by omega, HST.out, (HB.out.alloc HB.out.size _).grown hg2 (by simp; have := HB.out.size; omega) (fun k hk => by injection hk with hk; omega)⟩
      case measure => simp [intOf]; omega
    · obtain ⟨wo, rfl⟩ : ∃ x : World, x = wr := ⟨_, rfl⟩
      have hii : i = s.size + 1 - n := by omega
      have dlt : ¬ (i : Int) < (s.size : Int) - (n : Int) + 1 := by omega
      have HME : Hid (∀ x, x ∈ fctL s n ↔ ∃ z, (x, z) ∈ L) := facS_mem (by rw [← hii]; exact HL.out)
      have HZ : Hid (∀ p ∈ L, p.2 = 0) := fun p hp => by obtain ⟨j, _, e⟩ := (HL.out p).1 hp; rw [e]
      have HRE : Hid (RchEnd s n N (fun f => (f, (0 : Int)) ∈ L) c) := rend_start (by rw [← hii]; exact HR.out) (fun f hf => by
        obtain ⟨z, hz⟩ := (HME.out f).1 hf
        have hz0 : z = 0 := HZ.out _ hz
        rw [hz0] at hz
        exact hz)
      have HNE : Hid (fctL s n ≠ []) := fun e => by
        have := HIN.out 0 (by omega)
        rw [e] at this
        cases this
      clear hR hii
      go_wp2_with (at_range; refine wp_range _ rfl _ tNext rfl fk_law uNext w.heap.size L _ rfl HF.out ?_; intro w2 hF2 hg2 hs2)
      first | go_frame | skip
      have HF2 := Lib.hid hF2
      have HB2 : Hid (Below w.heap.size w w2) := HB.out.grown hg2 HB.out.size (fun k hk => by cases hk)
      have hbr := HB.out.size
      clear hF2 hg2
      go_loopw [5] (fun o w' => ∃ (c : Nat) (M : List FK), o = .int .i64 (c : Int) ∧ FRange Try.prog fK 3 w' w.heap.size wo.heap.size L (fun p => .int .i64 (N p.1)) M ∧ RchEnd s n N (fun f => (f, (0 : Int)) ∈ M) c ∧ Below w.heap.size w w') (fun _ w' => w'.rangeLeft w.heap.size wo.heap.size)
      case atStart => exact ⟨c, L, rfl, HF2.out, HRE.out, HB2.out⟩
      case round =>
        obtain ⟨c', M, rfl, hF, hR, hb⟩ := hrel
        have hcs' := lackC_le hR.1
        have HFR := Lib.hid hF
        have HRR := Lib.hid hR
        have HBR := Lib.hid hb
        clear hF hR hb HRE HF2 HB2
        go_wp2_with (at_next; refine wp_step _ rfl _ rfl fT fk_law w.heap.size wo.heap.size L _ M rfl HFR.out (fun p => .int .i64 (N p.1)) (fun p v ps h => vv_int _ v ps h) ?_ ?_)
        · intro hM0
          subst hM0
          have HEND := Lib.hid (rend_end HRR.out h1 HNE.out (fun f hf => by cases hf))
          go_wp2_with fail
          go_ret
          exact ⟨ret_int (by rw [HEND.out]), HBR.out⟩
        · intro f z M' w3 hp hM' hl' hF3 hlt3 hg3 hs3 hen
          have hpL := HFR.out.sub _ hp
          have hz0 : z = 0 := HZ.out _ hpL
          subst hz0
          have hfr := (HRR.out.2.1 f).1
          have HST := Lib.hid (rend_step (M' := fun g => (g, (0 : Int)) ∈ M') HRR.out ⟨h1, hn⟩ ((HME.out f).2 ⟨_, hpL⟩) (fun g hg hne => (hM' _).2 ⟨hg, fun e => hne (congrArg Prod.fst e)⟩))
          have HF3 := Lib.hid hF3
          have HLT := Lib.hid hlt3
          have HB3 : Hid (Below w.heap.size w w3) := HBR.out.grown hg3 HBR.out.size (fun k hk => by injection hk with hk; omega)
          clear hF3 hlt3 hg3 hM' hp hpL
          go_wp2_with fail
          go_roundw
          case rel =>
            have hmx : max (c' : Int) ((s.size : Int) - (N f : Int)) = ((max c' (s.size - N f) : Nat) : Int) := by omega
            exact ⟨max c' (s.size - N f), M', by rw [hmx], HF3.out, HST.out, HB3.out⟩
          case measure => exact HLT.out

theorem fctL_nil {s : ByteArray} {n : Nat} (h : s.size < n) : fctL s n = [] := by
  have := fctL_lim s n
  exact List.eq_nil_of_length_eq_zero (by omega)
theorem fctL_some {s : ByteArray} {n : Nat} (h : n ≤ s.size) : fctL s n ≠ [] := fun e => by
  have := (fct_mem s n (s.extract 0 (0 + n))).2 ⟨0, by omega, rfl⟩
  rw [e] at this
  cases this

set_option maxHeartbeats 400000 in
theorem implReachOf (s : ByteArray) (n : Int) (w : World) (hs : s.size ≤ 1048576) :
    Calls Try.prog 45 #[.string s, .int .i64 n] w fun e w' => e = .returned (.int .i64 (rchR s n)) ∧ Below w.heap.size w w' := by
  cases hok : fctOk s n
  · have HV : Hid (rchR s n = -1) := by show rchR s n = -1; unfold rchR; rw [hok]; rfl
    have HOK := Lib.hid hok
    clear hok
    go_enter Try.func45, Try.ntmps45
    go_wp2_with fail
    refine (implCanHave s n _ hs).mono ?_
    rintro e w1 ⟨rfl, hb1⟩
    have HB := Lib.hid hb1
    rw [HOK.out]
    clear hb1
    go_wp2_with fail
    go_ret
    exact ⟨ret_int HV.out.symm, HB.out⟩
  · obtain ⟨h4, h1, h2⟩ := fct_ok hok
    obtain ⟨m, rfl⟩ : ∃ m : Nat, n = m := ⟨n.toNat, by omega⟩
    have HOK := Lib.hid hok
    by_cases hlt : s.size < m
    · have HV : Hid (rchR s m = 0) := by show rchR s m = 0; unfold rchR; rw [if_pos hok, Int.toNat_natCast, if_pos (fctL_nil hlt)]
      have d1 : decide ((s.size : Int) < (m : Int)) = true := by simp; omega
      clear hok
      go_enter Try.func45, Try.ntmps45
      go_wp2_with fail
      refine (implCanHave s m _ hs).mono ?_
      rintro e w1 ⟨rfl, hb1⟩
      have HB := Lib.hid hb1
      rw [HOK.out]
      clear hb1
      go_wp2_with fail
      go_ret
      exact ⟨ret_int HV.out.symm, HB.out⟩
    · have HV : Hid (rchR s m = (topTo (LackK s m) s.size : Int) + 1) := by show rchR s m = _; unfold rchR; rw [if_pos hok, Int.toNat_natCast, if_neg (fctL_some (by omega))]
      have d1 : decide ((s.size : Int) < (m : Int)) = false := by simp; omega
      have HLO := Lib.hid (fun w => implLongest s m w h4 (by omega) (by omega))
      have hle : topTo (LackK s m) s.size ≤ s.size := topTo_le _ _
      clear hok
      generalize topTo (LackK s m) s.size = c at HV HLO hle
      go_enter Try.func45, Try.ntmps45
      go_wp2_with fail
      refine (implCanHave s m _ hs).mono ?_
      rintro e w1 ⟨rfl, hb1⟩
      have HB := Lib.hid hb1
      rw [HOK.out]
      clear hb1
      go_wp2_with fail
      refine (HLO.out _).mono ?_
      rintro e w2 ⟨rfl, hb⟩
      have HB2 : Hid (Below w.heap.size w w2) := HB.out.trans (hb.mono HB.out.size)
      clear hb
      go_wp2_with fail
      go_ret
      exact ⟨ret_int HV.out.symm, HB2.out⟩
end Go.Proofs.Ytfcbfflkajlhnaa

/- slices.BinarySearch of an ascending list of texts for one of them. Condition: a length. -/
namespace Go.Proofs.Ytfcbfflkajlhnaa
open Go.RowKit

theorem implIsNaN (s : ByteArray) (w : World) : Calls Try.prog 138 #[.string s] w fun e w' => e = .returned (.bool false) ∧ w = w' := by
  go_enter Try.func138, Try.ntmps138
  go_wp2_with fail
  go_ret
  exact ⟨ret_bool (by simp), rfl⟩

theorem implLess (s t : ByteArray) (w : World) : Calls Try.prog 119 #[.string s, .string t] w fun e w' => e = .returned (.bool (lessB s t)) ∧ w = w' := by
  go_enter Try.func119, Try.ntmps119
  go_wp2_with fail
  refine (implIsNaN s _).mono ?_
  rintro e w' ⟨rfl, rfl⟩
  go_wp2_with fail
  go_ret
  exact ⟨ret_bool rfl, rfl⟩

theorem asc_less {l : List ByteArray} (h : Asc l) {i j : Nat} (hi : i < l.length) (hj : j < l.length) : lessB l[i] l[j] = decide (i < j) := by
  by_cases hij : i < j
  · rw [decide_eq_true hij]
    exact List.pairwise_iff_getElem.1 h i j hi hj hij
  · rw [decide_eq_false hij]
    cases hb : lessB l[i] l[j]
    · rfl
    · exfalso
      by_cases e : i = j
      · subst e; exact less_self _ hb
      · exact less_self _ (less_trans hb (List.pairwise_iff_getElem.1 h j i hj hi (by omega)))

set_option maxHeartbeats 400000 in
theorem implBinary (l : List ByteArray) (v : Value) (q : Nat) (x : ByteArray) (w : World) (h : Lst w v (strs l)) (ha : Asc l) (hn : l.length ≤ 1048576) (hq : q < l.length) (hx : l[q] = x) :
    Calls Try.prog 87 #[v, .string x] w fun e w' => e = .returned (.tuple #[.int .i64 (q : Int), .bool true]) ∧ w = w' := by
  obtain ⟨A, cp, hcap, hcm, hv⟩ := h
  subst hcap
  rw [strs_length] at hcm ⊢
  obtain ⟨hc1, hv⟩ := hv
  rcases hv with hv | ⟨b, off, rfl, hat⟩
  · exfalso
    have := congrArg List.length hv
    rw [strs_length] at this
    have h0 : ([] : List Value).length = 0 := rfl
    omega
  have HAT := Lib.hid (strs_at hat)
  have HLS : Hid (∀ (i : Nat) (hi : i < l.length), lessB l[i] x = decide (i < q)) := fun i hi => by have := asc_less ha hi hq; rwa [hx] at this
  have HX := Lib.hid hx
  clear ha hx hat
  go_enter Try.func87, Try.ntmps87
  go_wp2_with fail
  go_loopw [7, 8] (fun i j w' => ∃ a c : Nat, i = .int .i64 (a : Int) ∧ j = .int .i64 (c : Int) ∧ a ≤ q ∧ q ≤ c ∧ c ≤ l.length ∧ w = w') (fun i j _ => (intOf j).toNat - (intOf i).toNat)
  case atStart => exact ⟨0, l.length, rfl, rfl, by omega, by omega, by omega, rfl⟩
  case round =>
    obtain ⟨a, c, rfl, rfl, h1, h2, h3, rfl⟩ := hrel
    by_cases hlt : a < c
    · have hma : a ≤ (a + c) / 2 := by omega
      have hmc : (a + c) / 2 < c := by omega
      have hml : (a + c) / 2 < l.length := by omega
      have g1 := HAT.out ((a + c) / 2) hml
      have HL := Lib.hid (HLS.out ((a + c) / 2) hml)
      generalize l[(a + c) / 2]'hml = y at g1 HL
      by_cases hlq : (a + c) / 2 < q
      · have HV : Hid (lessB y x = true) := by show _ = _; rw [HL.out, decide_eq_true hlq]
        go_wp2_with fail
        refine (implLess y x _).mono ?_
        rintro e w' ⟨rfl, rfl⟩
        rw [HV.out]
        go_wp2_with fail
        go_roundw
        case rel => exact ⟨(a + c) / 2 + 1, c, by go_num, rfl, by omega, by omega, by omega, trivial⟩
        case measure => simp [intOf]; omega
      · have HV : Hid (lessB y x = false) := by show _ = _; rw [HL.out, decide_eq_false hlq]
        go_wp2_with fail
        refine (implLess y x _).mono ?_
        rintro e w' ⟨rfl, rfl⟩
        rw [HV.out]
        go_wp2_with fail
        go_roundw
        case rel => exact ⟨a, (a + c) / 2, rfl, by go_num, by omega, by omega, by omega, trivial⟩
        case measure => simp [intOf]; omega
    · have haq : a = q := by omega
      subst haq
      have g1 := HAT.out a hq
      rw [HX.out] at g1
      have hxx : (x.toList == x.toList) = true := by simp
      go_wp2_with fail
      go_ret2
      exact ⟨rfl, rfl⟩
end Go.Proofs.Ytfcbfflkajlhnaa

/- The program's GraphOf. Conditions: lengths of at most 2^20. -/
namespace Go.Proofs.Ytfcbfflkajlhnaa
open Go.RowKit

theorem atN_lt : ∀ (l : List ByteArray) (x : ByteArray), x ∈ l → ∃ h : atN l x < l.length, l[atN l x] = x := by
  intro l x hx
  have h : atN l x < l.length := List.findIdx_lt_length_of_exists ⟨x, hx, by simp⟩
  refine ⟨h, ?_⟩
  have := List.findIdx_getElem (w := h)
  simp only [beq_iff_eq] at this
  exact (bytes_ext this).symm
theorem edge_first {s f : ByteArray} {m : Nat} (h : f ∈ fctL s (m + 1)) : f.extract 0 m ∈ fctL s m ∧ f.extract 1 f.size ∈ fctL s m := by
  have hs := fct_lt h
  obtain ⟨j, hj, rfl⟩ := (fct_mem s (m + 1) f).1 h
  have hsz : (s.extract j (j + (m + 1))).size = m + 1 := by rw [ByteArray.size_extract]; omega
  refine ⟨(fct_mem s m _).2 ⟨j, by omega, bytes_iff.2 ?_⟩, (fct_mem s m _).2 ⟨j + 1, by omega, bytes_iff.2 ?_⟩⟩
  · rw [show (s.extract j (j + (m + 1))).extract 0 m = (s.extract j (j + (m + 1))).extract 0 (0 + m) by rw [Nat.zero_add], ext_list2, ext_list2, ext_list2, List.drop_zero, List.take_take, Nat.min_eq_left (by omega)]
  · rw [hsz, show (s.extract j (j + (m + 1))).extract 1 (m + 1) = (s.extract j (j + (m + 1))).extract 1 (1 + m) by rw [Nat.add_comm 1 m], ext_list2, ext_list2, ext_list2, List.drop_take, List.take_take, List.drop_drop]
    congr 1
    omega
/-- two numbers that have just been laid as a row -/
theorem row_pair (w : World) (B : Nat) (hB : B ≤ w.heap.size) (a b : Int) : (w.alloc (.cells #[.int .i64 a, .int .i64 b] 3)).ownsRow B 3 1 (.slice (some ⟨w.heap.size, 0, none⟩) 2 2) 2 (ints [a, b]) :=
  World.ownsRow_lit w _ 2 hB (by unfold maxLen; omega) rfl
theorem own_text_at {w : World} {B g cp n : Nat} {m : List ByteArray} (h : w.ownsRow B 9 1 (.slice (some ⟨g, 0, none⟩) n cp) n (strs m)) (k : Nat) (hk : k < m.length) : w.cell? ⟨g, k, none⟩ = some (.string m[k]) := by
  have := h.cells (g := g) rfl k (.string m[k]) (by simp [strs, hk])
  rwa [Addr.add_lit, Nat.zero_add] at this

set_option maxRecDepth 100000 in
set_option maxHeartbeats 1000000 in
theorem implGraphOf (s : ByteArray) (n : Int) (w : World) (hs : s.size ≤ 1048576) :
    Calls Try.prog 36 #[.string s, .int .i64 n] w fun e w' => ∃ v, e = .returned v ∧ OwnMat w' w.heap.size w'.heap.size v (grfR s n) ∧ Below w.heap.size w w' := by
  cases hok : fctOk s n
  · have HV : Hid (grfR s n = []) := by show grfR s n = []; unfold grfR; rw [hok]; rfl
    have HOK := Lib.hid hok
    clear hok
    go_enter Try.func36, Try.ntmps36
    go_wp2_with fail
    refine (implCanHave s n _ hs).mono ?_
    rintro e w1 ⟨rfl, hb1⟩
    have HB := Lib.hid hb1
    rw [HOK.out]
    clear hb1
    go_wp2_with fail
    go_ret
    refine ⟨_, rfl, ?_, HB.out⟩
    rw [HV.out]
    exact OwnMat.nil _ _ _
  · obtain ⟨h4, h1, h2⟩ := fct_ok hok
    obtain ⟨m, rfl⟩ : ∃ m : Nat, n = m := ⟨n.toNat, by omega⟩
    obtain ⟨i0, hi0, hz0, hz1, hz2⟩ := info_parts ints_info
    have HV : Hid (grfR s m = edgeL s m) := if_pos hok
    have HOK := Lib.hid hok
    have HF1 := Lib.hid (fun w => implFactors s m w h4 (by omega) (by omega))
    have HF2 := Lib.hid (fun w => implFactors s (m + 1) w h4 (by omega) (by omega))
    have HS1 : Hid (∀ (L : List FK) (b : Nat) (w : World), FSet w b L → L.length ≤ 400 → SetIs L (facS s m (s.size + 1 - m)) → Calls Try.prog 84 #[.map (some b)] w fun e w' => ∃ v, e = .returned v ∧ w'.ownsRow w.heap.size 9 1 v (fctL s m).length (strs (fctL s m)) ∧ Below w.heap.size w w') :=
      fun L b w hF hl hL => implSorted L b (fctL s m) w hF hl (facTo_asc _ _ _) (facS_mem hL)
    have HS2 : Hid (∀ (L : List FK) (b : Nat) (w : World), FSet w b L → L.length ≤ 400 → SetIs L (facS s (m + 1) (s.size + 1 - (m + 1))) → Calls Try.prog 84 #[.map (some b)] w fun e w' => ∃ v, e = .returned v ∧ w'.ownsRow w.heap.size 9 1 v (fctL s (m + 1)).length (strs (fctL s (m + 1))) ∧ Below w.heap.size w w') :=
      fun L b w hF hl hL => implSorted L b (fctL s (m + 1)) w hF hl (facTo_asc _ _ _) (facS_mem hL)
    have HE : Hid (edgeL s m = (fctL s (m + 1)).map fun f => [atR (fctL s m) (f.extract 0 m), atR (fctL s m) (f.extract 1 f.size)]) := rfl
    have HMS : Hid (∀ x ∈ fctL s (m + 1), x.size = m + 1 ∧ x.extract 0 m ∈ fctL s m ∧ x.extract 1 x.size ∈ fctL s m) := fun x hx => ⟨fct_sz (fct_lt hx) hx, edge_first hx⟩
    have HASC : Hid (Asc (fctL s m)) := facTo_asc _ _ _
    have hll : (fctL s m).length ≤ 400 := by have := fctL_lim s m; omega
    have hml : (fctL s (m + 1)).length ≤ 400 := by have := fctL_lim s (m + 1); omega
    generalize fctL s m = L at HS1 HE HMS HASC hll
    generalize fctL s (m + 1) = M at HS2 HE HMS hml
    generalize edgeL s m = E at HV HE
    have HEL : Hid (E.length = M.length) := by show E.length = M.length; rw [HE.out]; simp
    have HEA : Hid (∀ q (hq : q < M.length) (hq' : q < E.length), E[q] = [atR L (M[q].extract 0 m), atR L (M[q].extract 1 M[q].size)]) := fun q hq hq' => by
      have := HE.out
      subst this
      simp
    clear hok
    go_enter Try.func36, Try.ntmps36
    go_wp2_with fail
    refine (implCanHave s m _ hs).mono ?_
    rintro e w1 ⟨rfl, hb1⟩
    have HB1 := Lib.hid hb1
    rw [HOK.out]
    clear hb1
    go_wp2_with fail
    refine (HF1.out _).mono ?_
    rintro e w2 ⟨L1, rfl, hF, hL, hl, hb⟩
    have HB2 : Hid (Below w.heap.size w w2) := HB1.out.trans (hb.mono HB1.out.size)
    have HSO := Lib.hid (HS1.out L1 w1.heap.size w2 hF hl hL)
    clear hF hL hl hb
    go_wp2_with fail
    refine HSO.out.mono ?_
    rintro e w3 ⟨v, rfl, ho, hb⟩
    obtain ⟨AL, cL, rfl⟩ := own_slice ho
    have HB3 : Hid (Below w.heap.size w w3) := HB2.out.trans (hb.mono HB2.out.size)
    have HLL := Lib.hid (Lst.of_own ho)
    clear ho hb HSO
    go_wp2_with fail
    have e1 : ((m + 1 : Nat) : Int) = (m : Int) + 1 := by omega
    have HF2' := HF2.out w3
    rw [e1] at HF2'
    have HF3 := Lib.hid HF2'
    clear HF2'
    refine HF3.out.mono ?_
    rintro e w4 ⟨L2, rfl, hF, hL, hl, hb⟩
    have HB4 : Hid (Below w.heap.size w w4) := HB3.out.trans (hb.mono HB3.out.size)
    have HLL4 := Lib.hid (HLL.out.below hb)
    have HSO := Lib.hid (HS2.out L2 w3.heap.size w4 hF hl hL)
    clear hF hL hl hb
    go_wp2_with fail
    refine HSO.out.mono ?_
    rintro e w5 ⟨v, rfl, ho, hb⟩
    obtain ⟨AM, cM, rfl⟩ := own_slice ho
    have HB5 : Hid (Below w.heap.size w w5) := HB4.out.trans (hb.mono HB4.out.size)
    have HLL5 := Lib.hid (HLL4.out.below hb)
    have HM5 := Lib.hid ho
    clear ho hb HSO
    go_wp2_with (at_make; refine wpList_make_full _ rfl _ _ 50 rfl w5.heap.size 35 i0 (.slice none 0 0) 1 Try.underlying50 hi0 hz0 hz1 .i64 .i64 _ _ M.length rfl rfl rfl rfl (by rw [hz2]; omega) (by unfold maxLen; omega) (Nat.le_refl _) ?_; intro w6 hown hgrow)
    have hb6 : Below w5.heap.size w5 w6 := (Below.refl _ _).grown hgrow (Nat.le_refl _) (fun k hk => by cases hk)
    have HD : Hid (((madeCells (Value.slice none 0 0).cells (M.length * 1)).toList).length = M.length) := by
      have := hown.1
      unfold Hid
      omega
    generalize (madeCells (Value.slice none 0 0).cells (M.length * 1)).toList = zs at hown HD
    have hz6 : w5.heap.size + 1 ≤ w6.heap.size := by have := (hown.lt w5.heap.size rfl).2; omega
    have HOWN := Lib.hid hown
    have HB6 := Lib.hid hb6
    clear hown hgrow hb6
    go_loopw [32] (fun i w' => ∃ (us : List Value), us.length ≤ M.length ∧ i = .int .i64 us.length ∧ w'.ownsRow w5.heap.size 35 1 (.slice (some ⟨w5.heap.size, 0, none⟩) M.length M.length) M.length (us ++ zs.drop us.length) ∧ RowsTo w' (w5.heap.size + 1) us E ∧ Below w5.heap.size w5 w' ∧ w5.heap.size + 1 ≤ w'.heap.size) (fun i _ => M.length - (intOf i).toNat)
    case atStart => exact ⟨[], by simp, rfl, by simpa using HOWN.out, ⟨by simp, fun i h => absurd h (by simp), fun i j h => absurd h (by simp)⟩, HB6.out, hz6⟩
    case round =>
      obtain ⟨us, hk, rfl, ho, hrw, hbk, hzk⟩ := hrel
      have HO := Lib.hid ho
      have HW := Lib.hid hrw
      have HB := Lib.hid hbk
      by_cases hlt : us.length < M.length
      · have hmr := own_below HM5.out hbk
        obtain ⟨g, c, he, _⟩ := own_some hmr (by omega)
        injection he with hA _ hc
        subst hA; subst hc
        have g1 := own_text_at hmr us.length hlt
        obtain ⟨hms, hin1, hin2⟩ := HMS.out M[us.length] (List.getElem_mem _)
        have hel : us.length < E.length := by rw [HEL.out]; exact hlt
        have HEQ := Lib.hid (HEA.out us.length hlt hel)
        generalize M[us.length] = f at g1 hms hin1 hin2 HEQ
        have hsl1 : ∀ w : World, (Instr.slice 9 (.string f) none (some (.int .i64 (m : Int))) none).run Try.prog w = .ok (.string (f.extract 0 m)) w := fun w => by
          rw [run_slice_string_to_if (P := Try.prog) w 9 f .i64 (m : Int) Try.underlying9, if_pos ⟨by omega, by omega⟩, Int.toNat_natCast]
        have hsl2 : ∀ w : World, (Instr.slice 9 (.string f) (some (.int .i64 (1 : Int))) none none).run Try.prog w = .ok (.string (f.extract 1 f.size)) w := fun w => by
          rw [run_slice_string_from_if (P := Try.prog) w 9 f .i64 (1 : Int) Try.underlying9, if_pos ⟨by omega, by omega⟩]
          rfl
        generalize f.extract 0 m = f1 at HEQ hsl1 hin1
        generalize f.extract 1 f.size = f2 at HEQ hsl2 hin2
        obtain ⟨hq1, hx1⟩ := atN_lt L f1 hin1
        obtain ⟨hq2, hx2⟩ := atN_lt L f2 hin2
        have hr1 : atR L f1 = (atN L f1 : Int) := if_pos hq1
        have hr2 : atR L f2 = (atN L f2 : Int) := if_pos hq2
        have HBI1 := Lib.hid (implBinary L _ (atN L f1) f1 wr (HLL5.out.below hbk) HASC.out (by omega) hq1 hx1)
        have HBI2 := Lib.hid (implBinary L _ (atN L f2) f2 wr (HLL5.out.below hbk) HASC.out (by omega) hq2 hx2)
        rw [hr1, hr2] at HEQ
        clear hr1 hr2 hx1 hx2
        generalize atN L f1 = q1 at HBI1 HEQ hq1
        generalize atN L f2 = q2 at HBI2 HEQ hq2
        have HRT := Lib.hid (row_pair wr wr.heap.size (Nat.le_refl _) (q1 : Int) (q2 : Int))
        obtain ⟨u0, hu0⟩ : ∃ u0, (us ++ zs.drop us.length)[us.length]? = some u0 := ⟨(us ++ zs.drop us.length)[us.length]'(by rw [List.length_append, List.length_drop, HD.out]; omega), List.getElem?_eq_getElem _⟩
        have c0 : (wr.alloc (.cells #[.int .i64 (q1 : Int), .int .i64 (q2 : Int)] 3)).cell? ⟨w5.heap.size, us.length, none⟩ = some u0 := (((Below.refl _ _).alloc (Nat.le_refl wr.heap.size) _).cell (p := ⟨w5.heap.size, us.length, none⟩) (by simp; omega)).trans ((ho.cellAt us.length (by omega)).trans hu0)
        have f0 : (wr.alloc (.cells #[.int .i64 (q1 : Int), .int .i64 (q2 : Int)] 3)).frozen? ⟨w5.heap.size, us.length, none⟩ = false := (((Below.refl _ _).alloc (Nat.le_refl wr.heap.size) _).frozen (p := ⟨w5.heap.size, us.length, none⟩) (by simp; omega)).trans (ho.frozenAt us.length)
        have HC0 := Lib.hid c0
        have HF0 := Lib.hid f0
        clear ho hrw hbk hu0 hmr hin1 hin2 c0 f0
        go_wp2_with fail
        refine HBI1.out.mono ?_
        rintro e w7 ⟨rfl, rfl⟩
        go_wp2_with fail
        refine HBI2.out.mono ?_
        rintro e w7 ⟨rfl, rfl⟩
        have c0 := HC0.out
        have f0 := HF0.out
        go_wp2_with fail
        go_roundw
        case rel =>
          have hset : (us ++ zs.drop us.length).set us.length (.slice (some ⟨wr.heap.size, 0, none⟩) 2 2) = (us ++ [.slice (some ⟨wr.heap.size, 0, none⟩) 2 2]) ++ zs.drop (us.length + 1) := by
            have hd : zs.drop us.length = zs[us.length]'(by rw [HD.out]; exact hlt) :: zs.drop (us.length + 1) := List.drop_eq_getElem_cons _
            rw [hd, List.set_append_right _ _ (Nat.le_refl _), Nat.sub_self, List.set_cons_zero, List.append_assoc]
            rfl
          have hbl : Below wr.heap.size wr (wr.alloc (.cells #[.int .i64 (q1 : Int), .int .i64 (q2 : Int)] 3)) := (Below.refl _ _).alloc (Nat.le_refl _) _
          refine ⟨us ++ [.slice (some ⟨wr.heap.size, 0, none⟩) 2 2], by simp; omega, by simp, ?_, ?_, ?_, ?_⟩
          · have := ((own_below HO.out hbl).stored us.length (.slice (some ⟨wr.heap.size, 0, none⟩) 2 2)).1
            rw [hset] at this
            simpa using this
          · refine (HW.out.snoc hbl hzk hel ?_).setCell (by simp) _
            rw [HEQ.out]
            exact HRT.out
          · exact (HB.out.trans (hbl.mono (by omega))).setCell (by simp) _
          · simp; omega
        case measure => simp [intOf]; omega
      · have hkl : us.length = E.length := by have := HEL.out; omega
        have HKL := Lib.hid hkl
        have hkm : us.length = M.length := by omega
        have HKM := Lib.hid hkm
        clear ho hrw hbk hkl hkm
        go_wp2_with fail
        go_ret
        refine ⟨_, rfl, ?_, HB5.out.trans (HB.out.mono HB5.out.size)⟩
        rw [HV.out]
        refine OwnMat.mono ?_ HB5.out.size
        refine ⟨35, us, HKL.out, ?_, fun i a b => ⟨3, own_mono (HW.out.2.1 i a b) (by omega)⟩, HW.out.2.2, fun i a k e => ⟨fun h => ?_, ((HW.out.2.1 i a (by rw [← HKL.out]; exact a)).lt k e).2⟩, fun k e => (HO.out.lt k e).2⟩
        · have := HO.out
          rw [HKM.out, List.drop_of_length_le (by rw [HD.out]; exact Nat.le_refl _), List.append_nil] at this
          rw [HEL.out]
          exact this
        · have h1 := ((HW.out.2.1 i a (by rw [← HKL.out]; exact a)).lt k e).1
          have h2 : w5.heap.size = k := by simpa [Value.ownBlock] using h
          omega
end Go.Proofs.Ytfcbfflkajlhnaa
