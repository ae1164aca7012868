/- Texts put together. -/
import Derived.Test.YtjmijedfmiplfaaMgA30
import Derived.Test.YtjmijedfmiplfaaMgA23
import Derived.Test.YtjmijedfmiplfaaMgA26
import Derived.Test.YtjmijedfmiplfaaMgA5
import Derived.Test.YtjmijedfmiplfaaMgA27
/- The program's PathOf, FractionAt. Conditions: lengths of at most 2^20. -/
namespace Go.Proofs.Ytjmijedfmiplfaa
open Go.RowKit

theorem isLR_no {x : UInt8} (h : x.toNat ≠ 76 ∧ x.toNat ≠ 82) : isLR x = false := by
  unfold isLR
  rw [Bool.or_eq_false_iff, decide_eq_false_iff_not, decide_eq_false_iff_not]
  exact ⟨fun e => h.1 (by rw [e]; rfl), fun e => h.2 (by rw [e]; rfl)⟩
theorem isLR_yes {x : UInt8} (h : isLR x = true) : x.toNat = 76 ∨ x.toNat = 82 := by
  unfold isLR at h
  rw [Bool.or_eq_true, decide_eq_true_eq, decide_eq_true_eq] at h
  rcases h with h | h
  · exact .inl (by rw [h]; rfl)
  · exact .inr (by rw [h]; rfl)

set_option maxRecDepth 100000 in
set_option maxHeartbeats 1000000 in
theorem implIsPath (s : ByteArray) (w : World) (_ : s.size ≤ 1048576) :
    Calls Try.prog 57 #[.string s] w fun e w' => e = .returned (.bool (isPathB s)) ∧ Below w.heap.size w w' := by
  have HNO : Hid (∀ k (h : k < s.size), isLR s[k] = false → isPathB s = false) := fun k h hf => by
    unfold isPathB
    rw [all_not s k h hf, Bool.false_and]
  have HYES : Hid ((s.data.toList.take s.size).all isLR = true → isPathB s = decide ((s.size : Int) ≤ 400)) := fun h => by
    have e : s.data.toList.take s.size = s.data.toList := List.take_of_length_le (by simp)
    rw [e] at h
    unfold isPathB
    rw [h, Bool.true_and]
    exact decide_eq_decide.2 (by omega)
  generalize isPathB s = r at *
  go_enter Try.func57, Try.ntmps57
  go_wp2_with fail
  go_loopw [4] (fun _ w' => ∃ k : Nat, k ≤ s.size ∧ w' = w.iter s k ∧ (s.data.toList.take k).all isLR = true) (fun _ w' => s.size - w'.iterPos w.heap.size)
  case atStart => exact ⟨0, Nat.zero_le _, rfl, rfl⟩
  case round =>
    obtain ⟨k, hk, rfl, ha⟩ := hrel
    have HA := Lib.hid ha
    clear ha
    by_cases hlt : k < s.size
    · cases hc : isLR s[k]
      · have HF := Lib.hid (HNO.out k hlt hc)
        have hn : ∃ n : Nat, ∃ m : Nat, (∀ ty, (Instr.next (.pointer (some ⟨w.heap.size, 0, none⟩)) true ty).run Try.prog (w.iter s k) = .ok (.tuple #[.bool true, .int .i64 k, .int .i32 n]) (w.iter s m)) ∧ (n ≠ 76 ∧ n ≠ 82) := by
          by_cases hasc : s[k].toNat < 128
          · refine ⟨_, _, fun ty => run_next_ascii w s k ty hlt hasc, ?_⟩
            unfold isLR at hc
            rw [Bool.or_eq_false_iff, decide_eq_false_iff_not, decide_eq_false_iff_not] at hc
            exact ⟨fun e => hc.1 (num_byte (by decide) e), fun e => hc.2 (num_byte (by decide) e)⟩
          · have hd := decode_high s k hlt (by omega)
            exact ⟨_, _, fun ty => run_next_any w s k ty hlt, by omega⟩
        obtain ⟨n, m, hnx, h1, h2⟩ := hn
        have d1 : ((n : Int) != 76) = true := by rw [bne_iff_ne]; omega
        have d2 : ((n : Int) != 82) = true := by rw [bne_iff_ne]; omega
        clear hc h1 h2
        go_wp2_with fail
        go_ret
        exact ⟨ret_bool HF.out.symm, below_iter _ _ _⟩
      · have hy := isLR_yes hc
        have hasc : s[k].toNat < 128 := by omega
        have hnx : ∀ ty, (Instr.next (.pointer (some ⟨w.heap.size, 0, none⟩)) true ty).run Try.prog (w.iter s k) = _ := fun ty => run_next_ascii w s k ty hlt hasc
        have HU := Lib.hid (all_snoc s k hlt HA.out hc)
        clear hc
        generalize s[k].toNat = x at *
        rcases hy with rfl | rfl
        all_goals
          go_wp2_with fail
          go_roundw
          case rel => exact ⟨k + 1, by omega, rfl, HU.out⟩
          case measure => simp; omega
    · have hnx : ∀ ty, (Instr.next (.pointer (some ⟨w.heap.size, 0, none⟩)) true ty).run Try.prog (w.iter s k) = _ := fun ty => run_next_end w s k ty hlt
      have hk' : k = s.size := by omega
      have HY := Lib.hid (HYES.out (hk' ▸ HA.out))
      clear hk'
      go_wp2_with fail
      go_ret
      exact ⟨ret_bool HY.out.symm, below_iter _ _ _⟩

set_option maxRecDepth 100000 in
set_option maxHeartbeats 1000000 in
theorem implFractionAt (s : ByteArray) (w : World) (hs : s.size ≤ 1048576) :
    Calls Try.prog 34 #[.string s] w fun e w' => e = .returned (.tuple #[.int .i64 (faA s), .int .i64 (faB s), .bool (faOk s)]) ∧ Below w.heap.size w w' := by
  have HSOME : Hid (∀ x, faO s = some x → faA s = x.1 ∧ faB s = x.2 ∧ faOk s = true) := fun x e => by unfold faA faB faOk; rw [e]; exact ⟨rfl, rfl, rfl⟩
  have HNONE : Hid (faO s = none → faA s = 0 ∧ faB s = 0 ∧ faOk s = false) := fun e => by unfold faA faB faOk; rw [e]; exact ⟨rfl, rfl, rfl⟩
  have HIP := Lib.hid (implIsPath s w hs)
  cases hp : isPathB s
  · obtain ⟨n1, n2, n3⟩ := HNONE.out (fa_no hp)
    have HN1 := Lib.hid n1
    have HN2 := Lib.hid n2
    have HN3 := Lib.hid n3
    rw [hp] at HIP
    clear n1 n2 n3 hp HSOME HNONE
    generalize faA s = ra at *
    generalize faB s = rb at *
    generalize faOk s = rk at *
    go_enter Try.func34, Try.ntmps34
    go_wp2_with fail
    refine HIP.out.mono ?_
    rintro e w1 ⟨rfl, hb⟩
    have HB := Lib.hid hb
    clear hb
    go_wp2_with fail
    go_ret3
    exact ⟨by rw [HN1.out, HN2.out, HN3.out]; rfl, HB.out⟩
  have hy := fa_yes hp
  rw [hp] at HIP
  have hsz : s.size ≤ 400 := by
    unfold isPathB at hp
    rw [Bool.and_eq_true, decide_eq_true_eq] at hp
    exact hp.2
  obtain ⟨G, hG⟩ : ∃ G : Nat → Int × Int, G = fun i => stB (s.data.toList.drop (s.size - i)) := ⟨_, rfl⟩
  have HG0 : Hid (G 0 = (1, 1)) := by
    show _ = _
    rw [hG]
    show stB (s.data.toList.drop (s.size - 0)) = _
    rw [Nat.sub_zero, List.drop_of_length_le (by simp)]
    rfl
  have HGN : Hid (∀ i (hi : i < s.size), s[s.size - 1 - i].toNat = 76 ∧ G (i + 1) = ((G i).1, (G i).2 + (G i).1) ∨ s[s.size - 1 - i].toNat ≠ 76 ∧ G (i + 1) = ((G i).1 + (G i).2, (G i).2)) := fun i hi => by
    have e : G (i + 1) = stB (s[s.size - 1 - i] :: s.data.toList.drop (s.size - i)) := by
      rw [hG]
      show stB (s.data.toList.drop (s.size - (i + 1))) = _
      rw [show s.size - (i + 1) = s.size - 1 - i by omega, drop_at s (s.size - 1 - i) (by omega), show s.size - 1 - i + 1 = s.size - i by omega]
    have e2 : G i = stB (s.data.toList.drop (s.size - i)) := by rw [hG]
    rw [e, e2]
    by_cases hx : s[s.size - 1 - i] = 76
    · exact .inl ⟨by rw [hx]; rfl, if_pos hx⟩
    · exact .inr ⟨fun h => hx (num_byte (by decide) h), if_neg hx⟩
  have HGE : Hid (G s.size = stB s.data.toList) := by
    show _ = _
    rw [hG]
    show stB (s.data.toList.drop (s.size - s.size)) = _
    rw [Nat.sub_self, List.drop_zero]
  have HGB : Hid (∀ i, 1000000000 < (G i).1 ∨ 1000000000 < (G i).2 → faO s = none) := fun i h => by
    rw [hy]
    refine if_neg ?_
    have := st_drop s.data.toList (s.size - i)
    have e2 : G i = stB (s.data.toList.drop (s.size - i)) := by rw [hG]
    rw [e2] at h
    omega
  have HPS : Hid (∀ i, 1 ≤ (G i).1 ∧ 1 ≤ (G i).2) := fun i => by
    have e2 : G i = stB (s.data.toList.drop (s.size - i)) := by rw [hG]
    rw [e2]
    exact st_pos _
  have HFIN : Hid (∀ x, G s.size = x → x.1 ≤ 1000000000 → x.2 ≤ 1000000000 → faO s = some x) := fun x e h1 h2 => by
    rw [HGE.out] at e
    rw [hy, e, if_pos ⟨h1, h2⟩]
  clear hy hp hG HGE hs
  generalize faA s = ra at *
  generalize faB s = rb at *
  generalize faOk s = rk at *
  generalize faO s = o at *
  go_enter Try.func34, Try.ntmps34
  go_wp2_with fail
  refine HIP.out.mono ?_
  rintro e w1 ⟨rfl, hb⟩
  have HB := Lib.hid hb
  clear hb HIP
  go_wp2_with fail
  go_loopw [5, 6, 13] (fun pv qv iv w' => ∃ (i : Nat) (p q : Int), i ≤ s.size ∧ (1 ≤ p ∧ p ≤ 1000000000) ∧ (1 ≤ q ∧ q ≤ 1000000000) ∧ G i = (p, q) ∧ pv = .int .i64 p ∧ qv = .int .i64 q ∧ iv = .int .i64 (i : Int) ∧ w1 = w') (fun _ _ iv _ => s.size - (RowKit.intOf iv).toNat)
  case atStart => exact ⟨0, 1, 1, Nat.zero_le _, by omega, by omega, HG0.out, rfl, rfl, rfl, rfl⟩
  case round =>
    obtain ⟨i, p, q, hi, hp, hq, hg, rfl, rfl, rfl, rfl⟩ := hrel
    have HGI := Lib.hid hg
    clear hg
    by_cases hlt : i < s.size
    · have hlt' : (i : Int) < (s.size : Int) := by omega
      have hix : ∀ w : World, (Instr.index 9 (.string s) (.int .i64 ((s.size - 1 - i : Nat) : Int))).run Try.prog w = .ok (.int .u8 ((s[s.size - 1 - i]'(by omega)).toNat : Int)) w := fun w => index_at Try.underlying9 s _ (s.size - 1 - i) w (by omega) rfl
      rw [show ((s.size - 1 - i : Nat) : Int) = (s.size : Int) - 1 - (i : Int) by omega] at hix
      have hcs := HGN.out i hlt
      rw [HGI.out] at hcs
      have HBAD := Lib.hid (HGB.out (i + 1))
      generalize hx : (s[s.size - 1 - i]'(by omega)).toNat = x at *
      clear hx
      have w1 : IntKind.i64.wrap ((s.size : Int) - 1) = (s.size : Int) - 1 := IntWalk.i64_in _ (by omega)
      have w2 : IntKind.i64.wrap ((s.size : Int) - 1 - (i : Int)) = (s.size : Int) - 1 - (i : Int) := IntWalk.i64_in _ (by omega)
      rcases hcs with ⟨hL, hn⟩ | ⟨hL, hn⟩
      · have d1 : ((x : Int) == 76) = true := by rw [beq_iff_eq]; omega
        have HN := Lib.hid hn
        rw [hn] at HBAD
        clear hL hn
        by_cases hbig : 1000000000 < q + p
        · obtain ⟨n1, n2, n3⟩ := HNONE.out (HBAD.out (.inr hbig))
          have HN1 := Lib.hid n1
          have HN2 := Lib.hid n2
          have HN3 := Lib.hid n3
          clear n1 n2 n3
          go_wp2_with fail
          go_ret3
          exact ⟨by rw [HN1.out, HN2.out, HN3.out]; rfl, HB.out⟩
        · go_wp2_with fail
          go_roundw
          case rel => exact ⟨i + 1, p, q + p, by omega, hp, by omega, HN.out, rfl, rfl, by go_num, by trivial⟩
          case measure => simp [RowKit.intOf]; omega
      · have d1 : ((x : Int) == 76) = false := by rw [beq_eq_false_iff_ne]; omega
        have HN := Lib.hid hn
        rw [hn] at HBAD
        clear hL hn
        by_cases hbig : 1000000000 < p + q
        · obtain ⟨n1, n2, n3⟩ := HNONE.out (HBAD.out (.inl hbig))
          have HN1 := Lib.hid n1
          have HN2 := Lib.hid n2
          have HN3 := Lib.hid n3
          clear n1 n2 n3
          go_wp2_with fail
          go_ret3
          exact ⟨by rw [HN1.out, HN2.out, HN3.out]; rfl, HB.out⟩
        · go_wp2_with fail
          go_roundw
          case rel => exact ⟨i + 1, p + q, q, by omega, by omega, hq, HN.out, rfl, rfl, by go_num, by trivial⟩
          case measure => simp [RowKit.intOf]; omega
    · have hie : i = s.size := by omega
      have hlt' : ¬ (i : Int) < (s.size : Int) := by omega
      obtain ⟨n1, n2, n3⟩ := HSOME.out _ (HFIN.out (p, q) (by rw [← hie]; exact HGI.out) hp.2 hq.2)
      have HN1 := Lib.hid n1
      have HN2 := Lib.hid n2
      have HN3 := Lib.hid n3
      clear hie n1 n2 n3
      go_wp2_with fail
      go_ret3
      exact ⟨by rw [HN1.out, HN2.out, HN3.out]; rfl, HB.out⟩

set_option maxRecDepth 100000 in
set_option maxHeartbeats 1000000 in
theorem implPathOf (p q : Int) (w : World) :
    Calls Try.prog 32 #[.int .i64 p, .int .i64 q] w fun e w' => e = .returned (.string (paR p q)) ∧ Below w.heap.size w w' := by
  obtain ⟨i0, hi0, hz0, hz1, hz2⟩ := info_parts u8_info
  have HNO : Hid (paOk p q = false → paR p q = ⟨#[]⟩) := fun h => if_neg (by rw [h]; decide)
  by_cases hok : (1 ≤ p ∧ p ≤ 400) ∧ (1 ≤ q ∧ q ≤ 400)
  · obtain ⟨hp, hq⟩ := hok
    obtain ⟨P, rfl⟩ : ∃ m : Nat, p = m := ⟨p.toNat, by omega⟩
    obtain ⟨Q, rfl⟩ : ∃ m : Nat, q = m := ⟨q.toNat, by omega⟩
    have hd : paOk (P : Int) (Q : Int) = decide (Nat.gcd P Q = 1) := by
      unfold paOk
      rw [decide_eq_true hp.1, decide_eq_true hp.2, decide_eq_true hq.1, decide_eq_true hq.2]
      rfl
    have HD := Lib.hid hd
    have HY : Hid (paOk (P : Int) (Q : Int) = true → paR (P : Int) (Q : Int) = ⟨(paL (P + Q) P Q).toArray⟩) := fun h => if_pos h
    have HG := Lib.hid (fun w => implDivisorI (P : Int) (Q : Int) w (by simp [Lit.wf, IntKind.min, IntKind.max, IntKind.signed, IntKind.bits]; omega) (by simp [Lit.wf, IntKind.min, IntKind.max, IntKind.signed, IntKind.bits]; omega))
    have HGG : Hid (∀ g : Int, (0 ≤ (P : Int) → 0 ≤ (Q : Int) → g = (Nat.gcd (P : Int).toNat (Q : Int).toNat : Int)) → g = (Nat.gcd P Q : Int)) := fun g h => h (by omega) (by omega)
    have hp1 : 1 ≤ P := by omega
    have hq1 : 1 ≤ Q := by omega
    have hpm : P ≤ 400 := by omega
    have hqm : Q ≤ 400 := by omega
    clear hp hq hd
    by_cases hg : Nat.gcd P Q = 1
    · have HV := Lib.hid (HY.out (by rw [HD.out]; exact decide_eq_true hg))
      rw [hg] at HGG
      obtain ⟨R, hR⟩ : ∃ R, R = paL (P + Q) P Q := ⟨_, rfl⟩
      rw [← hR] at HV
      have HR := Lib.hid hR
      clear hg HD HY HNO hR
      generalize paR (P : Int) (Q : Int) = r at *
      go_enter Try.func32, Try.ntmps32
      go_wp2_with fail
      refine (HG.out _).mono ?_
      rintro e w1 ⟨g, rfl, hg, n, hw⟩
      have hge := HGG.out g hg.out
      have dg : (g != 1) = false := by rw [bne_eq_false_iff_eq]; exact hge
      have HB0 : Hid (Below w.heap.size w w1) := by show Below _ _ _; rw [hw]; exact below_drewN (Below.refl _ _) _
      clear hg hw hge HG HGG
      go_wp2_with fail
      go_loopw [0, 1, 5] (fun pv qv o w' => ∃ (f a b : Nat) (K : List UInt8), 1 ≤ a ∧ 1 ≤ b ∧ a + b ≤ f ∧ K.length + (a + b) ≤ 800 ∧ pv = .int .i64 (a : Int) ∧ qv = .int .i64 (b : Int) ∧ K ++ paL f a b = R ∧ (∃ A cp, o = .slice A K.length cp) ∧ w'.ownsRow w.heap.size 5 1 o K.length (byteCells K) ∧ Below w.heap.size w w') (fun pv qv _ _ => (RowKit.intOf pv).toNat + (RowKit.intOf qv).toNat)
      case atStart => exact ⟨P + Q, P, Q, [], hp1, hq1, Nat.le_refl _, by show 0 + _ ≤ _; omega, rfl, rfl, HR.out.symm, ⟨_, _, rfl⟩, World.ownsRow_nil _ _ _ _, HB0.out⟩
      case round =>
        obtain ⟨f, a, b, K, ha, hb, hf, hl, rfl, rfl, hK, ⟨A, cp, rfl⟩, ho, hbw⟩ := hrel
        have HO := Lib.hid ho
        have HB := Lib.hid hbw
        have hbz := hbw.size
        obtain ⟨f, rfl⟩ : ∃ g, f = g + 1 := ⟨f - 1, by omega⟩
        have HS : Hid (K ++ (if a = b then [] else if a < b then 76 :: paL f a (b - a) else 82 :: paL f (a - b) b) = R) := hK
        clear ho hbw hK
        by_cases hab : a = b
        · have dn : ((a : Int) != (b : Int)) = false := by rw [bne_eq_false_iff_eq]; omega
          have HE : Hid (R = K) := by show _ = _; rw [← HS.out, if_pos hab, List.append_nil]
          have hconv := conv_own HO.out
          have HFIN : Hid (r = ⟨K.toArray⟩) := by show _ = _; rw [HV.out, HE.out]
          clear hab
          go_wp2_with fail
          go_ret
          exact ⟨ret_str HFIN.out.symm, HB.out⟩
        · have dn : ((a : Int) != (b : Int)) = true := by rw [bne_iff_ne]; omega
          by_cases hlt : a < b
          · have hlt' : (a : Int) < (b : Int) := by omega
            have HN : Hid ((K ++ [76]) ++ paL f a (b - a) = R) := by
              show _ = _
              rw [← HS.out, if_neg hab, if_pos hlt, List.append_assoc]
              rfl
            have hsub : (b : Int) - (a : Int) = ((b - a : Nat) : Int) := by omega
            clear hab
            go_wp2_with (at_builtin
                         refine wpList_append1 wr rfl (.tmp 32) (.tmp 33) _ rfl w.heap.size 5 i0 _ 1 Try.underlying42 hi0 hz0 hz1 hz2 rfl (.slice A K.length cp) K.length _ rfl HO.out (.int .u8 76) rfl rfl (by unfold maxLen; omega) (by omega) hbz ?_
                         intro v' w1 hown1 hbel1)
            have ho1 : w1.ownsRow w.heap.size 5 1 v' (K ++ [(76 : UInt8)]).length (byteCells (K ++ [76])) := by rw [List.length_append, byteCells_snoc]; exact hown1
            obtain ⟨A5, cp5, rfl⟩ := own_slice ho1
            go_roundw
            case rel => exact ⟨f, a, b - a, K ++ [76], ha, by omega, by omega, by rw [List.length_append]; show _ + 1 + _ ≤ _; omega, rfl, by first | rfl | rw [hsub], HN.out, ⟨A5, cp5, by first | rfl | simp⟩, ho1, HB.out.trans hbel1⟩
            case measure => simp [RowKit.intOf]; omega
          · have hlt' : ¬ (a : Int) < (b : Int) := by omega
            have HN : Hid ((K ++ [82]) ++ paL f (a - b) b = R) := by
              show _ = _
              rw [← HS.out, if_neg hab, if_neg hlt, List.append_assoc]
              rfl
            have hsub : (a : Int) - (b : Int) = ((a - b : Nat) : Int) := by omega
            have hab2 : b < a := by omega
            clear hab
            go_wp2_with (at_builtin
                         refine wpList_append1 wr rfl (.tmp 38) (.tmp 39) _ rfl w.heap.size 5 i0 _ 1 Try.underlying42 hi0 hz0 hz1 hz2 rfl (.slice A K.length cp) K.length _ rfl HO.out (.int .u8 82) rfl rfl (by unfold maxLen; omega) (by omega) hbz ?_
                         intro v' w1 hown1 hbel1)
            have ho1 : w1.ownsRow w.heap.size 5 1 v' (K ++ [(82 : UInt8)]).length (byteCells (K ++ [82])) := by rw [List.length_append, byteCells_snoc]; exact hown1
            obtain ⟨A5, cp5, rfl⟩ := own_slice ho1
            go_roundw
            case rel => exact ⟨f, a - b, b, K ++ [82], by omega, hb, by omega, by rw [List.length_append]; show _ + 1 + _ ≤ _; omega, by first | rfl | rw [hsub], rfl, HN.out, ⟨A5, cp5, by first | rfl | simp⟩, ho1, HB.out.trans hbel1⟩
            case measure => simp [RowKit.intOf]; omega
    · have HV := Lib.hid (HNO.out (by rw [HD.out]; exact decide_eq_false hg))
      have dn : ((Nat.gcd P Q : Int) != 1) = true := by rw [bne_iff_ne]; omega
      clear HD HY HNO
      generalize paR (P : Int) (Q : Int) = r at *
      obtain ⟨g0, hg0⟩ : ∃ g0 : Nat, g0 = Nat.gcd P Q := ⟨_, rfl⟩
      rw [← hg0] at dn HGG
      clear hg0
      go_enter Try.func32, Try.ntmps32
      go_wp2_with fail
      refine (HG.out _).mono ?_
      rintro e w1 ⟨g, rfl, hg, n, hw⟩
      have hge := HGG.out g hg.out
      subst hge
      have HB0 : Hid (Below w.heap.size w w1) := by show Below _ _ _; rw [hw]; exact below_drewN (Below.refl _ _) _
      clear hg hw HG HGG
      go_wp2_with fail
      go_ret
      exact ⟨ret_str HV.out.symm, HB0.out⟩
  · have HV := Lib.hid (HNO.out (by
      rw [Bool.eq_false_iff]
      intro h
      unfold paOk at h
      simp only [Bool.and_eq_true, decide_eq_true_eq] at h
      exact hok h.1))
    have hcs : p < 1 ∨ (¬ p < 1 ∧ 400 < p) ∨ (¬ p < 1 ∧ ¬ 400 < p ∧ q < 1) ∨ (¬ p < 1 ∧ ¬ 400 < p ∧ ¬ q < 1 ∧ 400 < q) := by omega
    clear hok HNO
    generalize paR p q = r at *
    rcases hcs with h1 | ⟨h1, h2⟩ | ⟨h1, h2, h3⟩ | ⟨h1, h2, h3, h4⟩
    all_goals
      go_enter Try.func32, Try.ntmps32
      go_wp2_with fail
      go_ret
      exact ⟨ret_str HV.out.symm, Below.refl _ _⟩
end Go.Proofs.Ytjmijedfmiplfaa
