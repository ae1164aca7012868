/- Texts put together. -/
import Derived.Test.YtjmijedfmiplfaaMgA20
import Derived.Test.YtjmijedfmiplfaaMgA22
import Derived.Test.YtjmijedfmiplfaaMgA10
import Derived.Test.YtjmijedfmiplfaaMgA15
import Derived.Test.YtjmijedfmiplfaaMgA19
import Derived.Test.YtjmijedfmiplfaaMgA8
import Derived.Test.YtjmijedfmiplfaaMgA16
/- Chapter 10 of the model: l09Gcd, l09Power, CountLyndon, AllPeriodsFine. Conditions: lengths of at most 2^20. -/
namespace Go.Proofs.Ytjmijedfmiplfaa
open Go.RowKit Go.Lib

set_option maxHeartbeats 1000000 in
theorem specGcd (a b : Nat) (w : World) (ha : a ≤ 1048576) (hb : b ≤ 1048576) :
    Calls Try.prog 51 #[.int .i64 (a : Int), .int .i64 (b : Int)] w fun e w' => e = .returned (.int .i64 (Nat.gcd a b : Int)) ∧ w = w' := by
  have HG : Hid (Nat.gcd a b = Nat.gcd a b) := rfl
  generalize hg : Nat.gcd a b = g at *
  have HGG := Lib.hid hg
  clear hg HG
  go_enter Try.func51, Try.ntmps51
  go_wp2
  go_loop [0, 1] (fun x y => ∃ p q : Nat, p ≤ 1048576 ∧ q ≤ 1048576 ∧ x = .int .i64 (p : Int) ∧ y = .int .i64 (q : Int) ∧ Nat.gcd p q = g) (fun _ y => (RowKit.intOf y).toNat)
  case atStart => exact ⟨a, b, ha, hb, rfl, rfl, HGG.out⟩
  case round =>
    obtain ⟨p, q, hp, hq, rfl, rfl, hpq⟩ := hrel
    have HPQ := Lib.hid hpq
    clear hpq
    by_cases h0 : 0 < q
    · have hq0 : ¬ q = 0 := by omega
      have hq1 : (0 : Int) < (q : Int) := by omega
      have hmod : p % q < q := Nat.mod_lt _ h0
      have HM : Hid ((p : Int) % (q : Int) = ((p % q : Nat) : Int)) := by show _ = _; omega
      go_wp2
      go_round
      case rel => exact ⟨q, p % q, hq, by omega, rfl, by rw [HM.out], by rw [Nat.gcd_comm, ← Nat.gcd_rec, Nat.gcd_comm]; exact HPQ.out⟩
      case measure => simp only [RowKit.intOf]; omega
    · have hq0 : q = 0 := by omega
      subst hq0
      have HE : Hid (p = g) := by show _ = _; have := HPQ.out; rwa [Nat.gcd_zero_right] at this
      go_wp2
      go_ret
      exact ⟨by rw [HE.out]; rfl, rfl⟩

theorem pow4 {L k : Nat} (h1 : L ≤ 4) (h2 : k ≤ 12) : L ^ k ≤ 16777216 := Nat.le_trans (Nat.pow_le_pow_left h1 k) (Nat.le_trans (Nat.pow_le_pow_right (by omega) h2) (by decide))
theorem prT_len (L : Nat) : ∀ m, (prT L m).length = m + 1
  | 0 => rfl
  | m + 1 => by
    show (prT L m ++ [_]).length = _
    rw [List.length_append, prT_len L m]
    rfl
theorem cly_small4 : ∀ L ∈ [1, 2, 3, 4], ∀ k ∈ List.range 12, ∀ d ∈ List.range 13, (-16777216 ≤ ((L : Nat) : Int) ^ (k + 1) - prSum (prT L k) (k + 1) d ∧ ((L : Nat) : Int) ^ (k + 1) - prSum (prT L k) (k + 1) d ≤ 16777216) ∧ (0 ≤ (prT L k).getD d 0 ∧ (prT L k).getD d 0 ≤ 16777216) := by decide +kernel
theorem cly_last4 : ∀ L ∈ [1, 2, 3, 4], ∀ k ∈ List.range 13, (0 ≤ (prT L k).getD k 0 ∧ (prT L k).getD k 0 ≤ 16777216) := by decide +kernel
theorem four_mem {L : Nat} (h1 : 1 ≤ L) (h2 : L ≤ 4) : L ∈ [1, 2, 3, 4] := by
  have : L = 1 ∨ L = 2 ∨ L = 3 ∨ L = 4 := by omega
  simpa using this
theorem prT_next (L m : Nat) : prT L (m + 1) = prT L m ++ [((L : Nat) : Int) ^ (m + 1) - prSum (prT L m) (m + 1) m] := rfl
theorem prSum_next (l : List Int) (m d : Nat) : prSum l m (d + 1) = prSum l m d + if m % (d + 1) = 0 then l.getD (d + 1) 0 else 0 := rfl

theorem af_no {s : ByteArray} {p q : Int} (h : wordB s = false ∨ (decide (1 ≤ p) && decide (p ≤ s.size)) = false ∨ (decide (1 ≤ q) && decide (q ≤ s.size)) = false ∨ (perB s p.toNat && perB s q.toNat) = false) : afR s p q = false := by
  unfold afR
  rcases h with h | h | h | h <;> rw [h] <;> simp

end Go.Proofs.Ytjmijedfmiplfaa

/- Chapter 13 of the model: PathOf, FractionAt, IsCentral. Conditions: lengths of at most 2^20. -/
namespace Go.Proofs.Ytjmijedfmiplfaa
open Go.RowKit Go.Lib

set_option maxRecDepth 100000 in
set_option maxHeartbeats 1000000 in
theorem specPathOf (p q : Int) (w : World) :
    Calls Try.prog 31 #[.int .i64 p, .int .i64 q] w fun e w' => e = .returned (.string (paR p q)) ∧ Below w.heap.size w w' := by
  obtain ⟨i0, hi0, hz0, hz1, hz2⟩ := info_parts u8_info
  have HNO : Hid (paOk p q = false → paR p q = ⟨#[]⟩) := fun h => if_neg (by rw [h]; decide)
  cases h1 : (decide (1 ≤ p) && decide (p ≤ 400))
  · have HV := Lib.hid (HNO.out (by unfold paOk; rw [h1]; rfl))
    have H1 := Lib.hid h1
    clear h1 HNO
    generalize paR p q = r at *
    go_enter Try.func31, Try.ntmps31
    go_wp2_with fail
    refine (specIn _ _ _ _).mono ?_
    rintro e w' ⟨rfl, rfl⟩
    rw [H1.out]
    go_wp2_with fail
    go_ret
    exact ⟨ret_str HV.out.symm, Below.refl _ _⟩
  have H1 := Lib.hid h1
  cases h2 : (decide (1 ≤ q) && decide (q ≤ 400))
  · have HV := Lib.hid (HNO.out (by unfold paOk; rw [h2, Bool.and_false, Bool.false_and]))
    have H2 := Lib.hid h2
    clear h1 h2 HNO
    generalize paR p q = r at *
    go_enter Try.func31, Try.ntmps31
    go_wp2_with fail
    refine (specIn _ _ _ _).mono ?_
    rintro e w' ⟨rfl, rfl⟩
    rw [H1.out]
    go_wp2_with fail
    refine (specIn _ _ _ _).mono ?_
    rintro e w' ⟨rfl, rfl⟩
    rw [H2.out]
    go_wp2_with fail
    go_ret
    exact ⟨ret_str HV.out.symm, Below.refl _ _⟩
  have H2 := Lib.hid h2
  have hp := h1
  have hq := h2
  rw [Bool.and_eq_true, decide_eq_true_eq, decide_eq_true_eq] at hp hq
  obtain ⟨P, rfl⟩ : ∃ m : Nat, p = m := ⟨p.toNat, by omega⟩
  obtain ⟨Q, rfl⟩ : ∃ m : Nat, q = m := ⟨q.toNat, by omega⟩
  have HD : Hid (paOk (P : Int) (Q : Int) = decide (Nat.gcd P Q = 1)) := by show _ = _; unfold paOk; rw [h1, h2]; rfl
  have HY : Hid (paOk (P : Int) (Q : Int) = true → paR (P : Int) (Q : Int) = ⟨(paL (P + Q) P Q).toArray⟩) := fun h => if_pos h
  have HG := Lib.hid (fun w => specGcd P Q w (by omega) (by omega))
  by_cases hg : Nat.gcd P Q = 1
  · have HV := Lib.hid (HY.out (by rw [HD.out]; exact decide_eq_true hg))
    rw [hg] at HG
    obtain ⟨R, hR⟩ : ∃ R, R = paL (P + Q) P Q := ⟨_, rfl⟩
    rw [← hR] at HV
    have HR := Lib.hid hR
    clear h1 h2 hg HD HY HNO hR
    generalize paR (P : Int) (Q : Int) = r at *
    go_enter Try.func31, Try.ntmps31
    go_wp2_with fail
    refine (specIn _ _ _ _).mono ?_
    rintro e w' ⟨rfl, rfl⟩
    rw [H1.out]
    go_wp2_with fail
    refine (specIn _ _ _ _).mono ?_
    rintro e w' ⟨rfl, rfl⟩
    rw [H2.out]
    go_wp2_with fail
    refine (HG.out _).mono ?_
    rintro e w' ⟨rfl, rfl⟩
    go_wp2_with fail
    go_loopw [0, 1, 5] (fun pv qv o w' => ∃ (f a b : Nat) (K : List UInt8), 1 ≤ a ∧ 1 ≤ b ∧ a + b ≤ f ∧ K.length + (a + b) ≤ 800 ∧ pv = .int .i64 (a : Int) ∧ qv = .int .i64 (b : Int) ∧ K ++ paL f a b = R ∧ (∃ A cp, o = .slice A K.length cp) ∧ w'.ownsRow w.heap.size 5 1 o K.length (byteCells K) ∧ Below w.heap.size w w') (fun pv qv _ _ => (RowKit.intOf pv).toNat + (RowKit.intOf qv).toNat)
    case atStart => exact ⟨P + Q, P, Q, [], by omega, by omega, Nat.le_refl _, by show 0 + _ ≤ _; omega, rfl, rfl, HR.out.symm, ⟨_, _, rfl⟩, World.ownsRow_made w #[] 0 (Nat.le_refl _) (by simp [maxLen]) (by simp), (Below.refl _ _).alloc (Nat.le_refl _) _⟩
    case round =>
      obtain ⟨f, a, b, K, ha, hb, hf, hl, rfl, rfl, hK, ⟨A, cp, rfl⟩, ho, hbw⟩ := hrel
      have HO := Lib.hid ho
      have HB := Lib.hid hbw
      have hbz := hbw.size
      obtain ⟨f, rfl⟩ : ∃ g, f = g + 1 := ⟨f - 1, by omega⟩
      have HS : Hid (K ++ (if a = b then [] else if a < b then 76 :: paL f a (b - a) else 82 :: paL f (a - b) b) = R) := hK
      clear ho hbw hK
      by_cases hab : a = b
      · have dn : ((a : Int) != (b : Int)) = false := by rw [bne_eq_false_iff_eq]; omega
        have HE : Hid (R = K) := by show _ = _; rw [← HS.out, if_pos hab, List.append_nil]
        have hconv := conv_own HO.out
        have HFIN : Hid (r = ⟨K.toArray⟩) := by show _ = _; rw [HV.out, HE.out]
        clear hab
        go_wp2_with fail
        go_ret
        exact ⟨ret_str HFIN.out.symm, HB.out⟩
      · have dn : ((a : Int) != (b : Int)) = true := by rw [bne_iff_ne]; omega
        by_cases hlt : a < b
        · have hlt' : (a : Int) < (b : Int) := by omega
          have HN : Hid ((K ++ [76]) ++ paL f a (b - a) = R) := by
            show _ = _
            rw [← HS.out, if_neg hab, if_pos hlt, List.append_assoc]
            rfl
          have hsub : (b : Int) - (a : Int) = ((b - a : Nat) : Int) := by omega
          clear hab
          go_wp2_with (at_builtin
                       refine wpList_append1 wr rfl (.tmp 27) (.tmp 28) _ rfl w.heap.size 5 i0 _ 1 Try.underlying42 hi0 hz0 hz1 hz2 rfl (.slice A K.length cp) K.length _ rfl HO.out (.int .u8 76) rfl rfl (by unfold maxLen; omega) (by omega) hbz ?_
                       intro v' w1 hown1 hbel1)
          have ho1 : w1.ownsRow w.heap.size 5 1 v' (K ++ [(76 : UInt8)]).length (byteCells (K ++ [76])) := by rw [List.length_append, byteCells_snoc]; exact hown1
          obtain ⟨A5, cp5, rfl⟩ := own_slice ho1
          go_roundw
          case rel => exact ⟨f, a, b - a, K ++ [76], ha, by omega, by omega, by rw [List.length_append]; show _ + 1 + _ ≤ _; omega, rfl, by first | rfl | rw [hsub], HN.out, ⟨A5, cp5, by first | rfl | simp⟩, ho1, HB.out.trans hbel1⟩
          case measure => simp [RowKit.intOf]; omega
        · have hlt' : ¬ (a : Int) < (b : Int) := by omega
          have HN : Hid ((K ++ [82]) ++ paL f (a - b) b = R) := by
            show _ = _
            rw [← HS.out, if_neg hab, if_neg hlt, List.append_assoc]
            rfl
          have hsub : (a : Int) - (b : Int) = ((a - b : Nat) : Int) := by omega
          have hab2 : b < a := by omega
          clear hab
          go_wp2_with (at_builtin
                       refine wpList_append1 wr rfl (.tmp 33) (.tmp 34) _ rfl w.heap.size 5 i0 _ 1 Try.underlying42 hi0 hz0 hz1 hz2 rfl (.slice A K.length cp) K.length _ rfl HO.out (.int .u8 82) rfl rfl (by unfold maxLen; omega) (by omega) hbz ?_
                       intro v' w1 hown1 hbel1)
          have ho1 : w1.ownsRow w.heap.size 5 1 v' (K ++ [(82 : UInt8)]).length (byteCells (K ++ [82])) := by rw [List.length_append, byteCells_snoc]; exact hown1
          obtain ⟨A5, cp5, rfl⟩ := own_slice ho1
          go_roundw
          case rel => exact ⟨f, a - b, b, K ++ [82], by omega, hb, by omega, by rw [List.length_append]; show _ + 1 + _ ≤ _; omega, by first | rfl | rw [hsub], rfl, HN.out, ⟨A5, cp5, by first | rfl | simp⟩, ho1, HB.out.trans hbel1⟩
          case measure => simp [RowKit.intOf]; omega
  · have HV := Lib.hid (HNO.out (by rw [HD.out]; exact decide_eq_false hg))
    have dn : ((Nat.gcd P Q : Int) != 1) = true := by rw [bne_iff_ne]; omega
    clear h1 h2 HD HY HNO
    generalize paR (P : Int) (Q : Int) = r at *
    generalize Nat.gcd P Q = g at *
    go_enter Try.func31, Try.ntmps31
    go_wp2_with fail
    refine (specIn _ _ _ _).mono ?_
    rintro e w' ⟨rfl, rfl⟩
    rw [H1.out]
    go_wp2_with fail
    refine (specIn _ _ _ _).mono ?_
    rintro e w' ⟨rfl, rfl⟩
    rw [H2.out]
    go_wp2_with fail
    refine (HG.out _).mono ?_
    rintro e w' ⟨rfl, rfl⟩
    go_wp2_with fail
    go_ret
    exact ⟨ret_str HV.out.symm, Below.refl _ _⟩

/-! ### FractionAt -/
theorem drop_at (s : ByteArray) (k : Nat) (hk : k < s.size) : s.data.toList.drop k = s[k] :: s.data.toList.drop (k + 1) := by
  have hl : k < s.data.toList.length := by simpa using hk
  rw [List.drop_eq_getElem_cons hl]
  congr 1
theorem num_byte {x : UInt8} {c : Nat} (hc : c < 256) (h : x.toNat = c) : x = UInt8.ofNat c := by
  apply UInt8.toNat.inj
  rw [h, UInt8.toNat_ofNat']
  omega

set_option maxRecDepth 100000 in
set_option maxHeartbeats 1000000 in
theorem specFractionAtQ (s : ByteArray) (w : World) (_ : s.size ≤ 1048576) :
    Calls Try.prog 33 #[.string s] w fun e w' => e = .returned (.tuple #[.int .i64 (faA s), .int .i64 (faB s), .bool (faOk s)]) ∧ w = w' := by
  have HSOME : Hid (∀ p q, faO s = some (p, q) → faA s = p ∧ faB s = q ∧ faOk s = true) := fun p q e => by unfold faA faB faOk; rw [e]; exact ⟨rfl, rfl, rfl⟩
  have HNONE : Hid (faO s = none → faA s = 0 ∧ faB s = 0 ∧ faOk s = false) := fun e => by unfold faA faB faOk; rw [e]; exact ⟨rfl, rfl, rfl⟩
  by_cases h4 : 400 < s.size
  · have h4' : (400 : Int) < (s.size : Int) := by omega
    obtain ⟨n1, n2, n3⟩ := HNONE.out (if_neg (by rw [decide_eq_true_eq]; omega))
    have HN1 := Lib.hid n1
    have HN2 := Lib.hid n2
    have HN3 := Lib.hid n3
    clear n1 n2 n3 HSOME HNONE
    generalize faA s = ra at *
    generalize faB s = rb at *
    generalize faOk s = rk at *
    go_enter Try.func33, Try.ntmps33
    go_wp2_with fail
    go_ret3
    exact ⟨by rw [HN1.out, HN2.out, HN3.out]; rfl, rfl⟩
  have h4' : ¬ (400 : Int) < (s.size : Int) := by omega
  have hO : faO s = faGo s.data.toList 0 1 1 0 := if_pos (decide_eq_true (by omega))
  obtain ⟨G, hG⟩ : ∃ G : Nat → Int → Int → Int → Int → Option (Int × Int), G = fun j a b c d => faGo (s.data.toList.drop j) a b c d := ⟨_, rfl⟩
  have HO : Hid (faO s = G 0 0 1 1 0) := by show _ = _; rw [hG, hO]; rfl
  have HE : Hid (∀ a b c d, G s.size a b c d = some (a + c, b + d)) := fun a b c d => by
    rw [hG]
    have hl : s.data.toList.length = s.size := by simp
    show faGo (s.data.toList.drop s.size) a b c d = _
    rw [← hl, List.drop_length]
    rfl
  have HL : Hid (∀ j (hj : j < s.size) a b c d, s[j].toNat = 76 → G j a b c d = if 1000000000 < a + (a + c) ∨ 1000000000 < b + (b + d) then none else G (j + 1) a b (a + c) (b + d)) := fun j hj a b c d h => by
    rw [hG]
    show faGo (s.data.toList.drop j) a b c d = _
    rw [drop_at s j hj, num_byte (by decide) h]
    rfl
  have HRR : Hid (∀ j (hj : j < s.size) a b c d, s[j].toNat = 82 → G j a b c d = if 1000000000 < a + c + c ∨ 1000000000 < b + d + d then none else G (j + 1) (a + c) (b + d) c d) := fun j hj a b c d h => by
    rw [hG]
    show faGo (s.data.toList.drop j) a b c d = _
    rw [drop_at s j hj, num_byte (by decide) h]
    rfl
  have HXX : Hid (∀ j (hj : j < s.size) a b c d, s[j].toNat ≠ 76 → s[j].toNat ≠ 82 → G j a b c d = none) := fun j hj a b c d h1 h2 => by
    rw [hG]
    show faGo (s.data.toList.drop j) a b c d = _
    rw [drop_at s j hj]
    show (if s[j] = 76 then _ else if s[j] = 82 then _ else none) = none
    rw [if_neg (fun e => h1 (by rw [e]; rfl)), if_neg (fun e => h2 (by rw [e]; rfl))]
  clear hG hO
  generalize faA s = ra at *
  generalize faB s = rb at *
  generalize faOk s = rk at *
  generalize faO s = o at *
  go_enter Try.func33, Try.ntmps33
  go_wp2_with fail
  go_loopw [5, 6, 7, 8, 9] (fun av bv cv dv iv w' => ∃ (j : Nat) (a b c d : Int), j ≤ s.size ∧ (0 ≤ a ∧ 0 ≤ b ∧ 0 ≤ c ∧ 0 ≤ d) ∧ (a + c ≤ 1000000000 ∧ b + d ≤ 1000000000) ∧ o = G j a b c d ∧ av = .int .i64 a ∧ bv = .int .i64 b ∧ cv = .int .i64 c ∧ dv = .int .i64 d ∧ iv = .int .i64 (j : Int) ∧ w = w') (fun _ _ _ _ iv _ => s.size - (RowKit.intOf iv).toNat)
  case atStart => exact ⟨0, 0, 1, 1, 0, Nat.zero_le _, by omega, by omega, HO.out, rfl, rfl, rfl, rfl, rfl, rfl⟩
  case round =>
    obtain ⟨j, a, b, c, d, hj, hpos, hsum, ho, rfl, rfl, rfl, rfl, rfl, rfl⟩ := hrel
    have HOJ := Lib.hid ho
    clear ho
    by_cases hlt : j < s.size
    · have hlt' : (j : Int) < (s.size : Int) := by omega
      have hix : ∀ w : World, (Instr.index 9 (.string s) (.int .i64 (j : Int))).run Try.prog w = .ok (.int .u8 ((s[j]'hlt).toNat : Int)) w := fun w => index_at Try.underlying9 s j j w hlt rfl
      have HLJ := Lib.hid (HL.out j hlt a b c d)
      have HRJ := Lib.hid (HRR.out j hlt a b c d)
      have HXJ := Lib.hid (HXX.out j hlt a b c d)
      rw [← HOJ.out] at HLJ HRJ HXJ
      generalize hx : (s[j]'hlt).toNat = x at *
      clear hx
      by_cases hL : x = 76
      · have d1 : ((x : Int) == 76) = true := by rw [beq_iff_eq]; omega
        have HS := Lib.hid (HLJ.out hL)
        clear hL HLJ HRJ HXJ
        by_cases c1 : 1000000000 < a + (a + c)
        · obtain ⟨n1, n2, n3⟩ := HNONE.out (by rw [HS.out, if_pos (.inl c1)])
          have HN1 := Lib.hid n1
          have HN2 := Lib.hid n2
          have HN3 := Lib.hid n3
          clear n1 n2 n3
          go_wp2_with fail
          go_ret3
          exact ⟨by rw [HN1.out, HN2.out, HN3.out]; rfl, rfl⟩
        · by_cases c2 : 1000000000 < b + (b + d)
          · obtain ⟨n1, n2, n3⟩ := HNONE.out (by rw [HS.out, if_pos (.inr c2)])
            have HN1 := Lib.hid n1
            have HN2 := Lib.hid n2
            have HN3 := Lib.hid n3
            clear n1 n2 n3
            go_wp2_with fail
            go_ret3
            exact ⟨by rw [HN1.out, HN2.out, HN3.out]; rfl, rfl⟩
          · have HNX : Hid (o = G (j + 1) a b (a + c) (b + d)) := by show _ = _; rw [HS.out, if_neg (fun h => h.elim c1 c2)]
            go_wp2_with fail
            go_roundw
            case rel => exact ⟨j + 1, a, b, a + c, b + d, by omega, by omega, by omega, HNX.out, rfl, rfl, rfl, rfl, by go_num, by trivial⟩
            case measure => simp [RowKit.intOf]; omega
      · have d1 : ((x : Int) == 76) = false := by rw [beq_eq_false_iff_ne]; omega
        by_cases hR : x = 82
        · have d2 : ((x : Int) == 82) = true := by rw [beq_iff_eq]; omega
          have HS := Lib.hid (HRJ.out hR)
          clear hL hR HLJ HRJ HXJ
          by_cases c1 : 1000000000 < a + c + c
          · obtain ⟨n1, n2, n3⟩ := HNONE.out (by rw [HS.out, if_pos (.inl c1)])
            have HN1 := Lib.hid n1
            have HN2 := Lib.hid n2
            have HN3 := Lib.hid n3
            clear n1 n2 n3
            go_wp2_with fail
            go_ret3
            exact ⟨by rw [HN1.out, HN2.out, HN3.out]; rfl, rfl⟩
          · by_cases c2 : 1000000000 < b + d + d
            · obtain ⟨n1, n2, n3⟩ := HNONE.out (by rw [HS.out, if_pos (.inr c2)])
              have HN1 := Lib.hid n1
              have HN2 := Lib.hid n2
              have HN3 := Lib.hid n3
              clear n1 n2 n3
              go_wp2_with fail
              go_ret3
              exact ⟨by rw [HN1.out, HN2.out, HN3.out]; rfl, rfl⟩
            · have HNX : Hid (o = G (j + 1) (a + c) (b + d) c d) := by show _ = _; rw [HS.out, if_neg (fun h => h.elim c1 c2)]
              go_wp2_with fail
              go_roundw
              case rel => exact ⟨j + 1, a + c, b + d, c, d, by omega, by omega, by omega, HNX.out, rfl, rfl, rfl, rfl, by go_num, by trivial⟩
              case measure => simp [RowKit.intOf]; omega
        · have d2 : ((x : Int) == 82) = false := by rw [beq_eq_false_iff_ne]; omega
          obtain ⟨n1, n2, n3⟩ := HNONE.out (HXJ.out hL hR)
          have HN1 := Lib.hid n1
          have HN2 := Lib.hid n2
          have HN3 := Lib.hid n3
          clear n1 n2 n3 hL hR HLJ HRJ HXJ
          go_wp2_with fail
          go_ret3
          exact ⟨by rw [HN1.out, HN2.out, HN3.out]; rfl, rfl⟩
    · have hje : j = s.size := by omega
      have hlt' : ¬ (j : Int) < (s.size : Int) := by omega
      obtain ⟨n1, n2, n3⟩ := HSOME.out (a + c) (b + d) (by rw [HOJ.out, hje, HE.out])
      have HN1 := Lib.hid n1
      have HN2 := Lib.hid n2
      have HN3 := Lib.hid n3
      clear n1 n2 n3 hje
      go_wp2_with fail
      go_ret3
      exact ⟨by rw [HN1.out, HN2.out, HN3.out]; rfl, rfl⟩
theorem specFractionAt (s : ByteArray) (w : World) (hs : s.size ≤ 1048576) :
    Calls Try.prog 33 #[.string s] w fun e w' => e = .returned (.tuple #[.int .i64 (faA s), .int .i64 (faB s), .bool (faOk s)]) ∧ Below w.heap.size w w' := by
  exact (specFractionAtQ s w hs).mono fun _ _ h => ⟨h.1, by rw [← h.2]; exact Below.refl _ _⟩
end Go.Proofs.Ytjmijedfmiplfaa

/- Chapter 13 of the model: IsCentral. Condition: a text of at most 2^20 bytes. -/
namespace Go.Proofs.Ytjmijedfmiplfaa
open Go.RowKit Go.Lib

set_option maxRecDepth 100000 in
set_option maxHeartbeats 1000000 in
theorem specPer12 (s : ByteArray) (p : Nat) (w : World) (hs : s.size ≤ 400) (hp : p ≤ 1000) :
    Calls Try.prog 52 #[.string s, .int .i64 (p : Int)] w fun e w' => e = .returned (.bool (perB s p)) ∧ ∃ n, w' = w.drewN n := by
  by_cases h : s.size < p
  · have HV : Hid (perB s p = true) := (perB_iff s p).2 fun i hi => absurd hi (by omega)
    have hlt : (s.size : Int) < (p : Int) := by omega
    have d1 : decide ((s.size : Int) < (p : Int)) = true := decide_eq_true hlt
    have d2 : decide (s.size < p) = true := decide_eq_true h
    generalize perB s p = r at *
    go_enter Try.func52, Try.ntmps52
    go_wp2_with fail
    go_quiet (fail)
    go_wp2_with fail
    go_ret
    exact ⟨ret_bool (by first | exact HV.out.symm | rw [HV.out]), _, rfl⟩
  · have HC := Lib.hid (per_cut (s := s) (p := p) (by omega))
    have hlt : ¬ (s.size : Int) < (p : Int) := by omega
    have d1 : decide ((s.size : Int) < (p : Int)) = false := decide_eq_false hlt
    have d2 : decide (s.size < p) = false := decide_eq_false h
    have e1 : IntKind.i64.wrap ((s.size : Int) - (p : Int)) = ((s.size - p : Nat) : Int) := by rw [IntWalk.i64_in _ (by omega)]; omega
    have hlo : ∀ w : World, (Instr.slice 9 (.string s) none (some (.int .i64 ((s.size - p : Nat) : Int))) none).run Try.prog w = .ok (.string (s.extract 0 (s.size - p))) w := fun w => cut_lo Try.underlying9 s _ (s.size - p) w rfl (by omega)
    have hhi : ∀ w : World, (Instr.slice 9 (.string s) (some (.int .i64 (p : Int))) none none).run Try.prog w = .ok (.string (s.extract p s.size)) w := fun w => cut_hi Try.underlying9 s _ p w rfl (by omega)
    have HB : Hid (perB s p = ((s.extract 0 (s.size - p)).toList == (s.extract p s.size).toList)) := by
      show _ = _
      rw [Bool.eq_iff_iff, perB_iff, ← HC.out]
      constructor
      · intro e; exact eq_bytes e
      · intro e
        refine Classical.byContradiction fun hne => ?_
        rw [ne_bytes hne] at e
        cases e
    generalize perB s p = r at *
    generalize s.extract 0 (s.size - p) = x at *
    generalize s.extract p s.size = y at *
    generalize hbb : (x.toList == y.toList) = bb at *
    go_enter Try.func52, Try.ntmps52
    go_wp2_with fail
    go_quiet (fail)
    go_wp2_with fail
    go_ret
    exact ⟨ret_bool HB.out.symm, _, rfl⟩

set_option maxRecDepth 100000 in
set_option maxHeartbeats 1000000 in
theorem specIsCentral (s : ByteArray) (w : World) (hs : s.size ≤ 1048576) :
    Calls Try.prog 29 #[.string s] w fun e w' => e = .returned (.bool (ceR s)) ∧ Below w.heap.size w w' := by
  have HBI := Lib.hid (fun w => specIsBinaryQ s w hs)
  have HPI := Lib.hid (fun w => specIs s w hs)
  cases hb : binB s
  · have HV : Hid (ceR s = false) := by show _ = _; unfold ceR; rw [hb]; rfl
    rw [hb] at HBI
    clear hb
    generalize ceR s = r at *
    go_enter Try.func29, Try.ntmps29
    go_wp2_with fail
    refine (HBI.out _).mono ?_
    rintro e w' ⟨rfl, rfl⟩
    go_wp2_with fail
    go_ret
    exact ⟨ret_bool HV.out.symm, Below.refl _ _⟩
  rw [hb] at HBI
  cases hpp : palB s
  · have HV : Hid (ceR s = false) := by show _ = _; unfold ceR; rw [hb, hpp]; rfl
    rw [hpp] at HPI
    clear hb hpp
    generalize ceR s = r at *
    go_enter Try.func29, Try.ntmps29
    go_wp2_with fail
    refine (HBI.out _).mono ?_
    rintro e w' ⟨rfl, rfl⟩
    go_wp2_with fail
    refine (HPI.out _).mono ?_
    rintro e w1 ⟨rfl, hb1⟩
    have HB1 := Lib.hid hb1
    clear hb1
    go_wp2_with fail
    go_ret
    exact ⟨ret_bool HV.out.symm, HB1.out⟩
  rw [hpp] at HPI
  have h4 := word_size (bin_word hb)
  have HV : Hid (ceR s = ceTo s (s.size + 1)) := by show _ = _; unfold ceR; rw [hb, hpp]; rfl
  have HNX : Hid (∀ k, (Nat.gcd (k + 1) (s.size + 2 - (k + 1)) = 1 → ceTo s (k + 1) = (ceTo s k || (perB s (k + 1) && perB s (s.size + 2 - (k + 1))))) ∧ (Nat.gcd (k + 1) (s.size + 2 - (k + 1)) ≠ 1 → ceTo s (k + 1) = ceTo s k)) := fun k => by
    have e : ceTo s (k + 1) = (ceTo s k || (decide (Nat.gcd (k + 1) (s.size + 2 - (k + 1)) = 1) && (perB s (k + 1) && perB s (s.size + 2 - (k + 1))))) := rfl
    exact ⟨fun h => by rw [e, decide_eq_true h, Bool.true_and], fun h => by rw [e, decide_eq_false h, Bool.false_and, Bool.or_false]⟩
  have H0 : Hid (ceTo s 0 = false) := rfl
  have HST : Hid (∀ k d, ceTo s k = true → ceTo s (k + d) = true) := fun k d h => by
    induction d with
    | zero => exact h
    | succ d ih =>
      show (ceTo s (k + d) || _) = true
      rw [ih]; rfl
  have HG := Lib.hid (fun a b w (ha : a ≤ 1000) (hb : b ≤ 1000) => specGcd a b w (by omega) (by omega))
  have HP := Lib.hid (fun p w (hp : p ≤ 1000) => specPer12 s p w h4 hp)
  clear hb hpp
  generalize ceR s = r at *
  generalize ceTo s = T at *
  generalize perB s = PB at *
  generalize hgg : Nat.gcd = gc at *
  clear hgg
  go_enter Try.func29, Try.ntmps29
  go_wp2_with fail
  refine (HBI.out _).mono ?_
  rintro e w' ⟨rfl, rfl⟩
  go_wp2_with fail
  refine (HPI.out _).mono ?_
  rintro e w1 ⟨rfl, hb1⟩
  have HB1 := Lib.hid hb1
  clear hb1
  go_wp2_with fail
  go_loopw [4] (fun iv w' => ∃ k : Nat, k ≤ s.size + 1 ∧ iv = .int .i64 ((k : Int) + 1) ∧ T k = false ∧ Below w.heap.size w w') (fun iv _ => s.size + 2 - (RowKit.intOf iv).toNat)
  case atStart => exact ⟨0, by omega, rfl, H0.out, HB1.out⟩
  case round =>
    obtain ⟨k, hk, rfl, ht, hbw⟩ := hrel
    have HT := Lib.hid ht
    have HB := Lib.hid hbw
    clear ht hbw
    by_cases hlt : k ≤ s.size
    · have hlt' : (k : Int) + 1 ≤ (s.size : Int) + 1 := by omega
      have HN := Lib.hid (HNX.out k)
      rw [HT.out, Bool.false_or] at HN
      have HGK := Lib.hid (fun w => HG.out (k + 1) (s.size + 2 - (k + 1)) w (by omega) (by omega))
      have HPK := Lib.hid (fun w => HP.out (k + 1) w (by omega))
      have HQK := Lib.hid (fun w => HP.out (s.size + 2 - (k + 1)) w (by omega))
      have HFIN : Hid (T (k + 1) = true → r = true) := fun h => by
        have := HST.out (k + 1) (s.size + 1 - (k + 1)) h
        rw [show k + 1 + (s.size + 1 - (k + 1)) = s.size + 1 by omega] at this
        rw [HV.out]; exact this
      have ek : ((k + 1 : Nat) : Int) = (k : Int) + 1 := rfl
      have eq : ((s.size + 2 - (k + 1) : Nat) : Int) = (s.size : Int) + 2 - ((k : Int) + 1) := by omega
      rw [ek, eq] at HGK
      rw [ek] at HPK
      rw [eq] at HQK
      generalize gc (k + 1) (s.size + 2 - (k + 1)) = g at *
      generalize PB (k + 1) = x at *
      generalize PB (s.size + 2 - (k + 1)) = y at *
      clear eq
      by_cases hg : g = 1
      · have dg : ((g : Int) == 1) = true := by rw [beq_iff_eq]; omega
        have HN1 : Hid (T (k + 1) = (x && y)) := HN.out.1 hg
        clear hg HN
        cases x
        · rw [Bool.false_and] at HN1
          go_wp2_with fail
          refine (HGK.out _).mono ?_
          rintro e w' ⟨rfl, rfl⟩
          go_wp2_with fail
          refine (HPK.out _).mono ?_
          rintro e w2 ⟨rfl, n2, rfl⟩
          go_wp2_with fail
          go_roundw
          case rel => exact ⟨k + 1, by omega, by go_num, HN1.out, below_drewN HB.out n2⟩
          case measure => simp [RowKit.intOf]; omega
        · rw [Bool.true_and] at HN1
          cases y
          · go_wp2_with fail
            refine (HGK.out _).mono ?_
            rintro e w' ⟨rfl, rfl⟩
            go_wp2_with fail
            refine (HPK.out _).mono ?_
            rintro e w2 ⟨rfl, n2, h2⟩
            have HB2 : Hid (Below w.heap.size w w2) := by show Below _ _ _; rw [h2]; exact below_drewN HB.out n2
            clear h2
            go_wp2_with fail
            refine (HQK.out _).mono ?_
            rintro e w3 ⟨rfl, n3, rfl⟩
            go_wp2_with fail
            go_roundw
            case rel => exact ⟨k + 1, by omega, by go_num, HN1.out, below_drewN HB2.out n3⟩
            case measure => simp [RowKit.intOf]; omega
          · have HR := Lib.hid (HFIN.out HN1.out)
            go_wp2_with fail
            refine (HGK.out _).mono ?_
            rintro e w' ⟨rfl, rfl⟩
            go_wp2_with fail
            refine (HPK.out _).mono ?_
            rintro e w2 ⟨rfl, n2, h2⟩
            have HB2 : Hid (Below w.heap.size w w2) := by show Below _ _ _; rw [h2]; exact below_drewN HB.out n2
            clear h2
            go_wp2_with fail
            refine (HQK.out _).mono ?_
            rintro e w3 ⟨rfl, n3, h3⟩
            have HB3 : Hid (Below w.heap.size w w3) := by show Below _ _ _; rw [h3]; exact below_drewN HB2.out n3
            clear h3
            go_wp2_with fail
            go_ret
            exact ⟨ret_bool HR.out.symm, HB3.out⟩
      · have dg : ((g : Int) == 1) = false := by rw [beq_eq_false_iff_ne]; omega
        have HN1 : Hid (T (k + 1) = false) := by show _ = _; exact HN.out.2 hg
        clear hg HN
        go_wp2_with fail
        refine (HGK.out _).mono ?_
        rintro e w' ⟨rfl, rfl⟩
        go_wp2_with fail
        go_roundw
        case rel => exact ⟨k + 1, by omega, by go_num, HN1.out, HB.out⟩
        case measure => simp [RowKit.intOf]; omega
    · have hke : k = s.size + 1 := by omega
      have hlt' : ¬ (k : Int) + 1 ≤ (s.size : Int) + 1 := by omega
      have HR : Hid (r = false) := by show _ = _; rw [HV.out, ← hke]; exact HT.out
      clear hke
      go_wp2_with fail
      go_ret
      exact ⟨ret_bool HR.out.symm, HB.out⟩
end Go.Proofs.Ytjmijedfmiplfaa

/- The longest border of each beginning of a word, and the borders of a word read off them. No program in it. -/
namespace Go.Proofs.Ytjmijedfmiplfaa
open Go.RowKit

/-- b letters, fewer than m, at the beginning and at the end of the first m letters -/
def BrAt (c : Nat → Option UInt8) (m b : Nat) : Prop := b < m ∧ ∀ i, i < b → c i = c (m - b + i)
noncomputable def brTo (c : Nat → Option UInt8) (m : Nat) : Nat → Nat
  | 0 => 0
  | k + 1 => if @decide (BrAt c m (k + 1)) (Classical.propDecidable _) = true then k + 1 else brTo c m k
/-- the length of the longest border of the first m letters -/
noncomputable def brN (c : Nat → Option UInt8) (m : Nat) : Nat := brTo c m (m - 1)
theorem br_zero {c : Nat → Option UInt8} {m : Nat} (h : 1 ≤ m) : BrAt c m 0 := ⟨h, fun i hi => absurd hi (by omega)⟩
theorem brTo_ok {c : Nat → Option UInt8} {m : Nat} (h : 1 ≤ m) : ∀ k, BrAt c m (brTo c m k) ∧ brTo c m k ≤ k ∧ ∀ b, BrAt c m b → b ≤ k → b ≤ brTo c m k
  | 0 => ⟨br_zero h, Nat.le_refl _, fun b _ hb => hb⟩
  | k + 1 => by
    obtain ⟨i1, i2, i3⟩ := brTo_ok h k
    by_cases e : BrAt c m (k + 1)
    · have hv : brTo c m (k + 1) = k + 1 := if_pos (@decide_eq_true _ (Classical.propDecidable _) e)
      rw [hv]
      exact ⟨e, Nat.le_refl _, fun b _ hb => hb⟩
    · have hv : brTo c m (k + 1) = brTo c m k := if_neg (by rw [@decide_eq_false _ (Classical.propDecidable _) e]; decide)
      rw [hv]
      refine ⟨i1, by omega, fun b h1 h2 => ?_⟩
      by_cases e2 : b = k + 1
      · subst e2; exact absurd h1 e
      · exact i3 b h1 (by omega)
theorem brN_ok {c : Nat → Option UInt8} {m : Nat} (h : 1 ≤ m) : BrAt c m (brN c m) := (brTo_ok h (m - 1)).1
theorem brN_max {c : Nat → Option UInt8} {m b : Nat} (h : BrAt c m b) : b ≤ brN c m := (brTo_ok (by have := h.1; omega) (m - 1)).2.2 b h (by have := h.1; omega)
theorem brN_lt {c : Nat → Option UInt8} {m : Nat} (h : 1 ≤ m) : brN c m < m := (brN_ok h).1
theorem brN_le (c : Nat → Option UInt8) (m : Nat) : brN c m ≤ m := by
  by_cases h : 1 ≤ m
  · have := brN_lt (c := c) h; omega
  · have : m = 0 := by omega
    subst this
    exact Nat.le_refl _
theorem brN_eq {c : Nat → Option UInt8} {m b : Nat} (h : BrAt c m b) (h2 : ∀ d, BrAt c m d → d ≤ b) : brN c m = b :=
  Nat.le_antisymm (h2 _ (brN_ok (by have := h.1; omega))) (brN_max h)
/-- the borders of a border -/
theorem br_of {c : Nat → Option UInt8} {m b d : Nat} (h : BrAt c m b) (hd : d < b) : BrAt c m d ↔ BrAt c b d := by
  obtain ⟨h1, h2⟩ := h
  constructor
  · rintro ⟨a, k⟩
    refine ⟨hd, fun i hi => ?_⟩
    rw [k i hi, h2 (b - d + i) (by omega), show m - b + (b - d + i) = m - d + i by omega]
  · rintro ⟨a, k⟩
    refine ⟨by omega, fun i hi => ?_⟩
    rw [k i hi, h2 (b - d + i) (by omega), show m - b + (b - d + i) = m - d + i by omega]
theorem br_next {c : Nat → Option UInt8} {m b : Nat} : BrAt c (m + 1) (b + 1) ↔ BrAt c m b ∧ c b = c m := by
  constructor
  · rintro ⟨a, k⟩
    refine ⟨⟨by omega, fun i hi => ?_⟩, ?_⟩
    · rw [k i (by omega), show m + 1 - (b + 1) + i = m - b + i by omega]
    · rw [k b (by omega), show m + 1 - (b + 1) + b = m by omega]
  · rintro ⟨⟨a, k⟩, e⟩
    refine ⟨by omega, fun i hi => ?_⟩
    by_cases hb : i = b
    · subst hb
      rw [e, show m + 1 - (i + 1) + i = m by omega]
    · rw [k i (by omega), show m + 1 - (b + 1) + i = m - b + i by omega]
/-- behind b no longer border can be made wider -/
def Tops (c : Nat → Option UInt8) (m b : Nat) : Prop := ∀ d, BrAt c m d → b < d → c d ≠ c m
theorem tops_start (c : Nat → Option UInt8) (m : Nat) : Tops c m (brN c m) := fun d h1 h2 => absurd (brN_max h1) (by omega)
theorem br_hit {c : Nat → Option UInt8} {m b : Nat} (h : BrAt c m b) (ht : Tops c m b) (e : c b = c m) : brN c (m + 1) = b + 1 := by
  refine brN_eq (br_next.2 ⟨h, e⟩) (fun d hd => ?_)
  by_cases h0 : d = 0
  · omega
  · obtain ⟨d, rfl⟩ : ∃ q, d = q + 1 := ⟨d - 1, by omega⟩
    obtain ⟨a, k⟩ := br_next.1 hd
    by_cases hb : b < d
    · exact absurd k (ht d a hb)
    · omega
theorem br_none {c : Nat → Option UInt8} {m : Nat} (ht : Tops c m 0) (e : c 0 ≠ c m) : brN c (m + 1) = 0 := by
  refine brN_eq (br_zero (by omega)) (fun d hd => ?_)
  by_cases h0 : d = 0
  · omega
  · obtain ⟨d, rfl⟩ : ∃ q, d = q + 1 := ⟨d - 1, by omega⟩
    obtain ⟨a, k⟩ := br_next.1 hd
    by_cases hb : 0 < d
    · exact absurd k (ht d a hb)
    · have : d = 0 := by omega
      subst this
      exact absurd k e
theorem br_down {c : Nat → Option UInt8} {m b : Nat} (h : BrAt c m b) (ht : Tops c m b) (hb : 1 ≤ b) (e : c b ≠ c m) : BrAt c m (brN c b) ∧ Tops c m (brN c b) := by
  refine ⟨(br_of h (brN_lt hb)).2 (brN_ok hb), fun d h1 h2 => ?_⟩
  by_cases h3 : b < d
  · exact ht d h1 h3
  · by_cases h4 : d = b
    · subst h4; exact e
    · exact absurd (brN_max ((br_of h (by omega)).1 h1)) (by omega)
theorem brN_zero (c : Nat → Option UInt8) : brN c 0 = 0 := rfl
theorem brN_one (c : Nat → Option UInt8) : brN c 1 = 0 := by have := brN_lt (c := c) (Nat.le_refl 1); omega

/-! ### what is known -/
noncomputable def knL (c : Nat → Option UInt8) (n : Nat) : List Int := (List.range n).map fun i => ((brN c i : Nat) : Int)
theorem knL_len (c : Nat → Option UInt8) (n : Nat) : (knL c n).length = n := by simp [knL]
theorem knL_next (c : Nat → Option UInt8) (n : Nat) : knL c (n + 1) = knL c n ++ [((brN c n : Nat) : Int)] := by
  unfold knL
  rw [List.range_succ, List.map_append]
  rfl
theorem knL_two (c : Nat → Option UInt8) : knL c 2 = [0, 0] := by
  rw [knL_next, knL_next, brN_zero, brN_one]
  rfl
theorem knL_at {c : Nat → Option UInt8} {n k : Nat} (h : k < n) : (knL c n)[k]? = some ((brN c k : Nat) : Int) := by
  unfold knL
  rw [List.getElem?_map, List.getElem?_range h]
  rfl

/-! ### the borders of a word -/
def ltO (s : ByteArray) : Nat → Option UInt8 := fun i => s.data.toList[i]?
theorem bor_br {s : ByteArray} {n : Nat} (h : n < s.size) : BorAt s n ↔ BrAt (ltO s) s.size n := by
  rw [bor_per (by omega)]
  constructor
  · intro k
    refine ⟨h, fun i hi => ?_⟩
    have := k i (by omega)
    rwa [Nat.add_comm] at this
  · rintro ⟨_, k⟩ i hi
    have := k i (by omega)
    rwa [Nat.add_comm] at this
theorem boTo_skip {s : ByteArray} {n : Nat} : ∀ k, n ≤ k → (∀ b, n < b → b ≤ k → ¬ BorAt s b) → boTo s k = boTo s n
  | 0, h, _ => by rw [show n = 0 by omega]
  | k + 1, h, h2 => by
    by_cases e : n = k + 1
    · rw [e]
    · have hb : borB s (k + 1) = false := by
        cases hx : borB s (k + 1)
        · rfl
        · exact absurd ((borB_iff _ _).1 hx) (h2 (k + 1) (by omega) (Nat.le_refl _))
      rw [boTo_no hb]
      exact boTo_skip k (by omega) (fun b a d => h2 b a (by omega))
/-- the longest border of the word is the last one -/
theorem bor_first {s : ByteArray} (h : 1 ≤ s.size) : boTo s (s.size - 1) = boTo s (brN (ltO s) s.size) := by
  have hl := brN_lt (c := ltO s) h
  refine boTo_skip _ (by omega) (fun b h1 h2 h3 => ?_)
  exact absurd (brN_max ((bor_br (by omega)).1 h3)) (by omega)
/-- a border: what is before it -/
theorem bor_back {s : ByteArray} {n : Nat} (hn : 1 ≤ n) (h : BrAt (ltO s) s.size n) : boTo s n = boTo s (brN (ltO s) n) ++ [(n : Int)] := by
  have hl := brN_lt (c := ltO s) hn
  obtain ⟨k, rfl⟩ : ∃ k, n = k + 1 := ⟨n - 1, by omega⟩
  have hb : borB s (k + 1) = true := (borB_iff _ _).2 ((bor_br h.1).2 h)
  rw [boTo_yes hb]
  congr 1
  refine boTo_skip _ (by omega) (fun b h1 h2 h3 => ?_)
  have := h.1
  exact absurd (brN_max ((br_of h (by omega)).1 ((bor_br (by omega)).1 h3))) (by omega)
/-- what is found so far, the greatest ones first, and the rest -/
def DescTo (s : ByteArray) (n : Nat) (L : List Int) : Prop := L ++ (boTo s n).reverse = (boTo s (s.size - 1)).reverse
theorem desc_start {s : ByteArray} (h : 1 ≤ s.size) : DescTo s (brN (ltO s) s.size) [] := by
  unfold DescTo
  rw [bor_first h, List.nil_append]
theorem desc_next {s : ByteArray} {n : Nat} {L : List Int} (hn : 1 ≤ n) (h : BrAt (ltO s) s.size n) (hd : DescTo s n L) : DescTo s (brN (ltO s) n) (L ++ [(n : Int)]) := by
  unfold DescTo at hd ⊢
  rw [← hd, bor_back hn h, List.reverse_append, List.append_assoc]
  rfl
theorem desc_end {s : ByteArray} {L : List Int} (hd : DescTo s 0 L) : L = (boTo s (s.size - 1)).reverse := by
  unfold DescTo at hd
  rw [← hd]
  show L = L ++ []
  rw [List.append_nil]
end Go.Proofs.Ytjmijedfmiplfaa
