/- Texts put together. -/
import Derived.Test.YtnejalefpenbfaaMgA4
import Derived.Maps.AppendAt
import Derived.Test.YtnejalefpenbfaaMgA15
import Derived.Test.YtnejalefpenbfaaMgA19
import Derived.Test.YtnejalefpenbfaaMgA10
import Derived.Test.YtnejalefpenbfaaMgA16
import Derived.BigQuiet
import Derived.BigRegion
import Derived.OwnWalk
/- append of one element that the walk has just laid, and where the new slice lies: so that a row read meanwhile is seen to stay. -/
namespace Go.Proofs.Ytnejalefpenbfaa
open Go.RowKit

theorem wpList_append1p {P : Program} (w : World) {ops : Array Oper} {rest : List Oper} {o : Oper} {a : Act} {Q : Exit → Act → World → Prop} (hgd : o.guard = none) (s x : Operand) (t : TypeId)
    (ho : o.op = .call { callee := .builtin .append, args := #[s, x], argTypes := #[t, t] })
    (base : Nat) (e : TypeId) (i : TypeInfo) (z : Value) (bytes : Nat) (ht : P.underlying t = some (.slice e)) (hi : P.info? e = some i) (hz : i.zero = some z)
    (hsize : i.size = 1) (hby : i.bytes = bytes) (hzs : z.cells.size = 1)
    (v : Value) (n : Nat) (xs : List Value) (hs : a.eval s = v) (hown : w.ownsRow base e 1 v n xs)
    (y : Value) (hy : y.oneCell' = true) (hx : a.eval x = .slice (some ⟨w.heap.size, 0, none⟩) 1 1)
    (h63 : n + 1 ≤ maxLen) (hbytes : (n + 1) * bytes ≤ 140737488355328) (hbase : base ≤ w.heap.size)
    (h : ∀ v' w', w'.ownsRow base e 1 v' (n + 1) (xs ++ [y]) → w.grownBy w' v.ownBlock → (v'.ownBlock = v.ownBlock ∨ v'.ownBlock = some (w.heap.size + 1)) → wpList P ops Q rest (a.put o.dst v') w') :
    wpList P ops Q (o :: rest) a (w.alloc (.cells #[y] e)) := by
  refine wpList_append_own_at _ hgd s x t ho base e i z 1 bytes ht hi hz hsize hby hzs (by decide) v n xs hs (hown.alloc _) ⟨w.heap.size, 0, none⟩ 1 1 [y] hx rfl ?_ ?_ h63 hbytes (by simp; omega) ?_
  · intro j u hu
    rcases j with _ | j
    · simp at hu
      subst hu
      rw [Addr.add_lit, World.cell?_alloc_at _ _ _ _ (by simp)]
      rfl
    · simp at hu
  · intro u hu
    simp at hu
    subst hu
    exact hy
  · intro v' w' h1 h2 _ h4
    simp only [World.size_alloc] at h4
    exact h v' w' h1 (grown_trans (World.grownBy_alloc _ _ _) h2) h4
/-- a slice that lies in block B or in none before S -/
def Away (B S : Nat) (v : Value) : Prop := ∀ k, v.ownBlock = some k → k = B ∨ S ≤ k
theorem Away.next {B S : Nat} {v v' : Value} {w : World} (h : Away B S v) (hS : S ≤ w.heap.size) (h2 : v'.ownBlock = v.ownBlock ∨ v'.ownBlock = some (w.heap.size + 1)) : Away B S v' := by
  intro k hk
  rcases h2 with e | e
  · exact h k (by rw [← e]; exact hk)
  · rw [e] at hk
    injection hk with hk
    exact .inr (by omega)
/-- a row that lies between them stays -/
theorem Away.keeps {B S L : Nat} {v : Value} {w w' : World} {e : TypeId} {u : Value} {n : Nat} {xs : List Value} (h : Away B S v) (hg : w.grownBy w' v.ownBlock) (hu : w.ownsRow L e 1 u n xs) (hB : B < L) (hS : ∀ k, u.ownBlock = some k → k < S) : w'.ownsRow L e 1 u n xs := by
  refine own_apart hu hg (fun k hk hk2 => ?_)
  have h1 := (hu.lt k hk).1
  have h2 := hS k hk
  rcases h k hk2 with h3 | h3 <;> omega
end Go.Proofs.Ytnejalefpenbfaa

/- Chapter 10 of the model: l09Gcd, l09Power, CountLyndon, AllPeriodsFine. Conditions: lengths of at most 2^20. -/
namespace Go.Proofs.Ytnejalefpenbfaa
open Go.RowKit Go.Lib

set_option maxHeartbeats 1000000 in
theorem specGcd (a b : Nat) (w : World) (ha : a ≤ 1048576) (hb : b ≤ 1048576) :
    Calls Try.prog 35 #[.int .i64 (a : Int), .int .i64 (b : Int)] w fun e w' => e = .returned (.int .i64 (Nat.gcd a b : Int)) ∧ w = w' := by
  have HG : Hid (Nat.gcd a b = Nat.gcd a b) := rfl
  generalize hg : Nat.gcd a b = g at *
  have HGG := Lib.hid hg
  clear hg HG
  go_enter Try.func35, Try.ntmps35
  go_wp2
  go_loop [0, 1] (fun x y => ∃ p q : Nat, p ≤ 1048576 ∧ q ≤ 1048576 ∧ x = .int .i64 (p : Int) ∧ y = .int .i64 (q : Int) ∧ Nat.gcd p q = g) (fun _ y => (intOf y).toNat)
  case atStart => exact ⟨a, b, ha, hb, rfl, rfl, HGG.out⟩
  case round =>
    obtain ⟨p, q, hp, hq, rfl, rfl, hpq⟩ := hrel
    have HPQ := Lib.hid hpq
    clear hpq
    by_cases h0 : 0 < q
    · have hq0 : ¬ q = 0 := by omega
      have hq1 : (0 : Int) < (q : Int) := by omega
      have hmod : p % q < q := Nat.mod_lt _ h0
      have HM : Hid ((p : Int) % (q : Int) = ((p % q : Nat) : Int)) := by show _ = _; omega
      go_wp2
      go_round
      case rel => exact ⟨q, p % q, hq, by omega, rfl, by rw [HM.out], by rw [Nat.gcd_comm, ← Nat.gcd_rec, Nat.gcd_comm]; exact HPQ.out⟩
      case measure => simp only [intOf]; omega
    · have hq0 : q = 0 := by omega
      subst hq0
      have HE : Hid (p = g) := by show _ = _; have := HPQ.out; rwa [Nat.gcd_zero_right] at this
      go_wp2
      go_ret
      exact ⟨by rw [HE.out]; rfl, rfl⟩

theorem pow4 {L k : Nat} (h1 : L ≤ 4) (h2 : k ≤ 12) : L ^ k ≤ 16777216 := Nat.le_trans (Nat.pow_le_pow_left h1 k) (Nat.le_trans (Nat.pow_le_pow_right (by omega) h2) (by decide))
theorem prT_len (L : Nat) : ∀ m, (prT L m).length = m + 1
  | 0 => rfl
  | m + 1 => by
    show (prT L m ++ [_]).length = _
    rw [List.length_append, prT_len L m]
    rfl
theorem cly_small4 : ∀ L ∈ [1, 2, 3, 4], ∀ k ∈ List.range 12, ∀ d ∈ List.range 13, (-16777216 ≤ ((L : Nat) : Int) ^ (k + 1) - prSum (prT L k) (k + 1) d ∧ ((L : Nat) : Int) ^ (k + 1) - prSum (prT L k) (k + 1) d ≤ 16777216) ∧ (0 ≤ (prT L k).getD d 0 ∧ (prT L k).getD d 0 ≤ 16777216) := by decide +kernel
theorem cly_last4 : ∀ L ∈ [1, 2, 3, 4], ∀ k ∈ List.range 13, (0 ≤ (prT L k).getD k 0 ∧ (prT L k).getD k 0 ≤ 16777216) := by decide +kernel
theorem four_mem {L : Nat} (h1 : 1 ≤ L) (h2 : L ≤ 4) : L ∈ [1, 2, 3, 4] := by
  have : L = 1 ∨ L = 2 ∨ L = 3 ∨ L = 4 := by omega
  simpa using this
theorem prT_next (L m : Nat) : prT L (m + 1) = prT L m ++ [((L : Nat) : Int) ^ (m + 1) - prSum (prT L m) (m + 1) m] := rfl
theorem prSum_next (l : List Int) (m d : Nat) : prSum l m (d + 1) = prSum l m d + if m % (d + 1) = 0 then l.getD (d + 1) 0 else 0 := rfl

theorem af_no {s : ByteArray} {p q : Int} (h : wordB s = false ∨ (decide (1 ≤ p) && decide (p ≤ s.size)) = false ∨ (decide (1 ≤ q) && decide (q ≤ s.size)) = false ∨ (perB s p.toNat && perB s q.toNat) = false) : afR s p q = false := by
  unfold afR
  rcases h with h | h | h | h <;> rw [h] <;> simp

end Go.Proofs.Ytnejalefpenbfaa

/- Chapter 11 of the model: MechanicalWord, ChristoffelWord. No condition. -/
namespace Go.Proofs.Ytnejalefpenbfaa
open Go.RowKit Go.Lib

theorem bytes_mk (l : List UInt8) : (⟨l.toArray⟩ : ByteArray).data.toList = l := by simp

set_option maxRecDepth 100000 in
set_option maxHeartbeats 1000000 in
theorem specMechanical (p q s n : Nat) (w : World) (hq : 1 ≤ q ∧ q ≤ 100) (hp : p ≤ q) (hs : s ≤ q) (hn : n ≤ 400) :
    Calls Try.prog 34 #[.int .i64 (p : Int), .int .i64 (q : Int), .int .i64 (s : Int), .int .i64 (n : Int)] w fun e w' => e = .returned (.string ⟨(mcL p q s n).toArray⟩) ∧ Below w.heap.size w w' := by
  obtain ⟨i0, hi0, hz0, hz1, hz2⟩ := info_parts u8_info
  have HL := Lib.hid (mcL_next p q s)
  have HL0 : Hid (mcL p q s 0 = []) := rfl
  have HLN := Lib.hid (mcL_len p q s)
  have HX : Hid (∀ k, mcX p q s k = decide ((s + k * p) / q < (s + (k + 1) * p) / q)) := fun k => rfl
  generalize mcL p q s = M at *
  generalize mcX p q s = X at *
  go_enter Try.func34, Try.ntmps34
  go_wp2_with fail
  go_loopw [9, 10] (fun b i w' => ∃ k : Nat, k ≤ n ∧ i = .int .i64 (k : Int) ∧ (∃ A cp, b = .slice A k cp) ∧ w'.ownsRow w.heap.size 5 1 b k (byteCells (M k)) ∧ Below w.heap.size w w') (fun _ i _ => n - (intOf i).toNat)
  case atStart =>
    refine ⟨0, Nat.zero_le _, rfl, ⟨_, _, rfl⟩, ?_, (Below.refl _ _).alloc (Nat.le_refl _) _⟩
    rw [HL0.out]
    exact World.ownsRow_made w #[] 0 (Nat.le_refl _) (by simp [maxLen]) (by simp)
  case round =>
    obtain ⟨k, hk, rfl, ⟨A, cp, rfl⟩, ho, hb⟩ := hrel
    have HO := Lib.hid ho
    have HB := Lib.hid hb
    have hbz := hb.size
    clear ho hb
    by_cases hlt : k < n
    · have HN := Lib.hid (HL.out k)
      have HXK := Lib.hid (HX.out k)
      have hB1 : k * p ≤ 400 * 100 := Nat.mul_le_mul (by omega) (by omega)
      have hA1 : (k + 1) * p ≤ 401 * 100 := Nat.mul_le_mul (by omega) (by omega)
      have hBe : ((k * p : Nat) : Int) = (k : Int) * (p : Int) := Int.natCast_mul _ _
      have hAe : (((k + 1) * p : Nat) : Int) = ((k : Int) + 1) * (p : Int) := by rw [Int.natCast_mul]; rfl
      generalize k * p = b at *
      generalize (k + 1) * p = a at *
      have eA : IntKind.i64.wrap (((k : Int) + 1) * (p : Int)) = (a : Int) := by rw [← hAe]; exact IntWalk.i64_in _ (by omega)
      have eB : IntKind.i64.wrap ((k : Int) * (p : Int)) = (b : Int) := by rw [← hBe]; exact IntWalk.i64_in _ (by omega)
      have HDA : Hid (((s : Int) + (a : Int)).tdiv (q : Int) = (((s + a) / q : Nat) : Int)) := by show _ = _; rw [← Int.natCast_add]; rfl
      have HDB : Hid (((s : Int) + (b : Int)).tdiv (q : Int) = (((s + b) / q : Nat) : Int)) := by show _ = _; rw [← Int.natCast_add]; rfl
      have hu : (s + a) / q ≤ s + a := Nat.div_le_self _ _
      have hv : (s + b) / q ≤ s + b := Nat.div_le_self _ _
      generalize hU : (s + a) / q = U at *
      generalize hV : (s + b) / q = V at *
      have tA : ((s : Int) + (a : Int)).tdiv (q : Int) = (U : Int) := HDA.out
      have tB : ((s : Int) + (b : Int)).tdiv (q : Int) = (V : Int) := HDB.out
      have q0 : ¬ (q : Int) = 0 := by omega
      have q0' : ¬ q = 0 := by omega
      clear hU hV hBe hAe
      by_cases hc : V < U
      · have d1 : decide ((V : Int) < (U : Int)) = true := decide_eq_true (by omega)
        have d2 : decide (V < U) = true := decide_eq_true hc
        rw [HXK.out, d2, if_pos rfl] at HN
        clear HXK hc
        go_wp2_with fail
        go_quiet (fail)
        have HO2 := Lib.hid (show (wr.drewN nq).ownsRow w.heap.size 5 1 (.slice A k cp) k (byteCells (M k)) from HO.out)
        go_wp2_with (at_builtin
                     refine wpList_append1 (wr.drewN nq) rfl (.tmp 33) (.tmp 34) _ rfl w.heap.size 5 i0 _ 1 Try.underlying42 hi0 hz0 hz1 hz2 rfl (.slice A k cp) k _ rfl HO2.out (.int .u8 98) rfl rfl (by unfold maxLen; omega) (by omega) hbz ?_
                     intro v' w1 hown1 hbel1)
        have ho1 : w1.ownsRow w.heap.size 5 1 v' (k + 1) (byteCells (M (k + 1))) := by rw [HN.out, byteCells_snoc]; exact hown1
        obtain ⟨A5, cp5, rfl⟩ := own_slice ho1
        go_roundw
        case rel => exact ⟨k + 1, by omega, by go_num, ⟨A5, cp5, rfl⟩, ho1, (below_drewN HB.out nq).trans hbel1⟩
        case measure => simp [intOf]; omega
      · have d1 : decide ((V : Int) < (U : Int)) = false := decide_eq_false (by omega)
        have d2 : decide (V < U) = false := decide_eq_false hc
        rw [HXK.out, d2, if_neg (by decide)] at HN
        clear HXK hc
        go_wp2_with fail
        go_quiet (fail)
        have HO2 := Lib.hid (show (wr.drewN nq).ownsRow w.heap.size 5 1 (.slice A k cp) k (byteCells (M k)) from HO.out)
        go_wp2_with (at_builtin
                     refine wpList_append1 (wr.drewN nq) rfl (.tmp 36) (.tmp 37) _ rfl w.heap.size 5 i0 _ 1 Try.underlying42 hi0 hz0 hz1 hz2 rfl (.slice A k cp) k _ rfl HO2.out (.int .u8 97) rfl rfl (by unfold maxLen; omega) (by omega) hbz ?_
                     intro v' w1 hown1 hbel1)
        have ho1 : w1.ownsRow w.heap.size 5 1 v' (k + 1) (byteCells (M (k + 1))) := by rw [HN.out, byteCells_snoc]; exact hown1
        obtain ⟨A5, cp5, rfl⟩ := own_slice ho1
        go_roundw
        case rel => exact ⟨k + 1, by omega, by go_num, ⟨A5, cp5, rfl⟩, ho1, (below_drewN HB.out nq).trans hbel1⟩
        case measure => simp [intOf]; omega
    · have hkn : k = n := by omega
      subst hkn
      have hconv := conv_own HO.out
      have hlt2 : ¬ (k : Int) < (k : Int) := by omega
      go_wp2_with fail
      go_ret
      exact ⟨rfl, HB.out⟩

theorem mc_no {p q s n : Int} (h : mcOk p q s n = false) : mcR p q s n = ⟨#[]⟩ := if_neg (by rw [h]; decide)
set_option maxRecDepth 100000 in
set_option maxHeartbeats 1000000 in
theorem specMechanicalWord (p q s n : Int) (w : World) :
    Calls Try.prog 17 #[.int .i64 p, .int .i64 q, .int .i64 s, .int .i64 n] w fun e w' => e = .returned (.tuple #[.string (mcR p q s n), .bool (mcOk p q s n)]) ∧ Below w.heap.size w w' := by
  cases h1 : (decide (1 ≤ q) && decide (q ≤ 100))
  · have HV : Hid (mcOk p q s n = false) := by show _ = _; unfold mcOk; rw [h1]; rfl
    have HR := Lib.hid (mc_no HV.out)
    have H1 := Lib.hid h1
    clear h1
    go_enter Try.func17, Try.ntmps17
    go_wp2_with fail
    refine (specIn _ _ _ _).mono ?_
    rintro e w' ⟨rfl, rfl⟩
    rw [H1.out]
    go_wp2_with fail
    go_ret2
    exact ⟨by rw [HV.out, HR.out]; rfl, Below.refl _ _⟩
  have H1 := Lib.hid h1
  cases h2 : (decide (0 ≤ p) && decide (p ≤ q))
  · have HV : Hid (mcOk p q s n = false) := by show _ = _; unfold mcOk; rw [h2, Bool.false_and, Bool.and_false]
    have HR := Lib.hid (mc_no HV.out)
    have H2 := Lib.hid h2
    clear h1 h2
    go_enter Try.func17, Try.ntmps17
    go_wp2_with fail
    refine (specIn _ _ _ _).mono ?_
    rintro e w' ⟨rfl, rfl⟩
    rw [H1.out]
    go_wp2_with fail
    refine (specIn _ _ _ _).mono ?_
    rintro e w' ⟨rfl, rfl⟩
    rw [H2.out]
    go_wp2_with fail
    go_ret2
    exact ⟨by rw [HV.out, HR.out]; rfl, Below.refl _ _⟩
  have H2 := Lib.hid h2
  have hqq := h1
  rw [Bool.and_eq_true, decide_eq_true_eq, decide_eq_true_eq] at hqq
  have ew : IntKind.i64.wrap (q - 1) = q - 1 := IntWalk.i64_in _ (by omega)
  cases h3 : (decide (0 ≤ s) && decide (s ≤ q - 1))
  · have HV : Hid (mcOk p q s n = false) := by show _ = _; unfold mcOk; rw [h3, Bool.false_and, Bool.and_false, Bool.and_false]
    have HR := Lib.hid (mc_no HV.out)
    have H3 := Lib.hid h3
    clear h1 h2 h3
    go_enter Try.func17, Try.ntmps17
    go_wp2_with fail
    refine (specIn _ _ _ _).mono ?_
    rintro e w' ⟨rfl, rfl⟩
    rw [H1.out]
    go_wp2_with fail
    refine (specIn _ _ _ _).mono ?_
    rintro e w' ⟨rfl, rfl⟩
    rw [H2.out]
    go_wp2_with fail
    refine (specIn _ _ _ _).mono ?_
    rintro e w' ⟨rfl, rfl⟩
    rw [H3.out]
    go_wp2_with fail
    go_ret2
    exact ⟨by rw [HV.out, HR.out]; rfl, Below.refl _ _⟩
  have H3 := Lib.hid h3
  cases h4 : (decide (0 ≤ n) && decide (n ≤ 400))
  · have HV : Hid (mcOk p q s n = false) := by show _ = _; unfold mcOk; rw [h4, Bool.and_false, Bool.and_false, Bool.and_false]
    have HR := Lib.hid (mc_no HV.out)
    have H4 := Lib.hid h4
    clear h1 h2 h3 h4
    go_enter Try.func17, Try.ntmps17
    go_wp2_with fail
    refine (specIn _ _ _ _).mono ?_
    rintro e w' ⟨rfl, rfl⟩
    rw [H1.out]
    go_wp2_with fail
    refine (specIn _ _ _ _).mono ?_
    rintro e w' ⟨rfl, rfl⟩
    rw [H2.out]
    go_wp2_with fail
    refine (specIn _ _ _ _).mono ?_
    rintro e w' ⟨rfl, rfl⟩
    rw [H3.out]
    go_wp2_with fail
    refine (specIn _ _ _ _).mono ?_
    rintro e w' ⟨rfl, rfl⟩
    rw [H4.out]
    go_wp2_with fail
    go_ret2
    exact ⟨by rw [HV.out, HR.out]; rfl, Below.refl _ _⟩
  have H4 := Lib.hid h4
  have HV : Hid (mcOk p q s n = true) := by show _ = _; unfold mcOk; rw [h1, h2, h3, h4]; rfl
  have HR : Hid (mcR p q s n = ⟨(mcL p.toNat q.toNat s.toNat n.toNat).toArray⟩) := if_pos HV.out
  rw [Bool.and_eq_true, decide_eq_true_eq, decide_eq_true_eq] at h2 h3 h4
  clear h1
  obtain ⟨p, rfl⟩ : ∃ m : Nat, p = m := ⟨p.toNat, by omega⟩
  obtain ⟨q, rfl⟩ : ∃ m : Nat, q = m := ⟨q.toNat, by omega⟩
  obtain ⟨s, rfl⟩ : ∃ m : Nat, s = m := ⟨s.toNat, by omega⟩
  obtain ⟨n, rfl⟩ : ∃ m : Nat, n = m := ⟨n.toNat, by omega⟩
  rw [Int.toNat_natCast, Int.toNat_natCast, Int.toNat_natCast, Int.toNat_natCast] at HR
  have HM := Lib.hid (fun w => specMechanical p q s n w (by omega) (by omega) (by omega) (by omega))
  clear h2 h3 h4
  generalize mcR (p : Int) q s n = r at *
  generalize mcOk (p : Int) q s n = b at *
  generalize (⟨(mcL p q s n).toArray⟩ : ByteArray) = x at *
  go_enter Try.func17, Try.ntmps17
  go_wp2_with fail
  refine (specIn _ _ _ _).mono ?_
  rintro e w' ⟨rfl, rfl⟩
  rw [H1.out]
  go_wp2_with fail
  refine (specIn _ _ _ _).mono ?_
  rintro e w' ⟨rfl, rfl⟩
  rw [H2.out]
  go_wp2_with fail
  refine (specIn _ _ _ _).mono ?_
  rintro e w' ⟨rfl, rfl⟩
  rw [H3.out]
  go_wp2_with fail
  refine (specIn _ _ _ _).mono ?_
  rintro e w' ⟨rfl, rfl⟩
  rw [H4.out]
  go_wp2_with fail
  refine (HM.out _).mono ?_
  rintro e w' ⟨rfl, hb⟩
  have HB := Lib.hid hb
  clear hb
  go_wp2_with fail
  go_ret2
  exact ⟨by rw [HV.out, HR.out]; rfl, HB.out⟩

theorem ch_no {p q : Int} (h : chOk p q = false) : chR p q = ⟨#[]⟩ := if_neg (by rw [h]; decide)
set_option maxRecDepth 100000 in
set_option maxHeartbeats 1000000 in
theorem specChristoffelWord (p q : Int) (w : World) :
    Calls Try.prog 19 #[.int .i64 p, .int .i64 q] w fun e w' => e = .returned (.tuple #[.string (chR p q), .bool (chOk p q)]) ∧ Below w.heap.size w w' := by
  cases h1 : (decide (1 ≤ q) && decide (q ≤ 100))
  · have HV : Hid (chOk p q = false) := by show _ = _; unfold chOk; rw [h1]; rfl
    have HR := Lib.hid (ch_no HV.out)
    have H1 := Lib.hid h1
    clear h1
    go_enter Try.func19, Try.ntmps19
    go_wp2_with fail
    refine (specIn _ _ _ _).mono ?_
    rintro e w' ⟨rfl, rfl⟩
    rw [H1.out]
    go_wp2_with fail
    go_ret2
    exact ⟨by rw [HV.out, HR.out]; rfl, Below.refl _ _⟩
  have H1 := Lib.hid h1
  have hqq := h1
  rw [Bool.and_eq_true, decide_eq_true_eq, decide_eq_true_eq] at hqq
  have ew : IntKind.i64.wrap (q - 1) = q - 1 := IntWalk.i64_in _ (by omega)
  cases h2 : (decide (0 ≤ p) && decide (p ≤ q - 1))
  · have HV : Hid (chOk p q = false) := by show _ = _; unfold chOk; rw [h2, Bool.false_and, Bool.and_false]
    have HR := Lib.hid (ch_no HV.out)
    have H2 := Lib.hid h2
    clear h1 h2
    go_enter Try.func19, Try.ntmps19
    go_wp2_with fail
    refine (specIn _ _ _ _).mono ?_
    rintro e w' ⟨rfl, rfl⟩
    rw [H1.out]
    go_wp2_with fail
    refine (specIn _ _ _ _).mono ?_
    rintro e w' ⟨rfl, rfl⟩
    rw [H2.out]
    go_wp2_with fail
    go_ret2
    exact ⟨by rw [HV.out, HR.out]; rfl, Below.refl _ _⟩
  have H2 := Lib.hid h2
  have hpp := h2
  rw [Bool.and_eq_true, decide_eq_true_eq, decide_eq_true_eq] at hpp
  have HOK : Hid (chOk p q = true ↔ Nat.gcd p.toNat q.toNat = 1) := by show _ ↔ _; unfold chOk; rw [h1, h2, Bool.true_and, Bool.true_and, decide_eq_true_eq]
  have HIF : Hid (chOk p q = true → chR p q = ⟨(mcL p.toNat q.toNat 0 q.toNat).toArray⟩) := fun h => if_pos h
  have HNO : Hid (chOk p q = false → chR p q = ⟨#[]⟩) := ch_no
  clear h1 h2
  obtain ⟨p, rfl⟩ : ∃ m : Nat, p = m := ⟨p.toNat, by omega⟩
  obtain ⟨q, rfl⟩ : ∃ m : Nat, q = m := ⟨q.toNat, by omega⟩
  rw [Int.toNat_natCast, Int.toNat_natCast] at HOK HIF
  have HG := Lib.hid (fun w => specGcd p q w (by omega) (by omega))
  have HM := Lib.hid (fun w => specMechanical p q 0 q w (by omega) (by omega) (by omega) (by omega))
  rw [show ((0 : Nat) : Int) = 0 from rfl] at HM
  have hgb : Nat.gcd p q ≤ 100 := Nat.le_trans (Nat.gcd_le_right _ (by omega)) (by omega)
  generalize chR (p : Int) q = r at *
  generalize chOk (p : Int) q = b at *
  generalize (⟨(mcL p q 0 q).toArray⟩ : ByteArray) = x at *
  generalize Nat.gcd p q = g at *
  by_cases hg : g = 1
  · have HV : Hid (b = true) := HOK.out.2 hg
    have HR := Lib.hid (HIF.out HV.out)
    have d1 : ((g : Int) != 1) = false := by rw [bne_eq_false_iff_eq]; omega
    clear hg HOK HIF HNO
    go_enter Try.func19, Try.ntmps19
    go_wp2_with fail
    refine (specIn _ _ _ _).mono ?_
    rintro e w' ⟨rfl, rfl⟩
    rw [H1.out]
    go_wp2_with fail
    refine (specIn _ _ _ _).mono ?_
    rintro e w' ⟨rfl, rfl⟩
    rw [H2.out]
    go_wp2_with fail
    refine (HG.out _).mono ?_
    rintro e w' ⟨rfl, rfl⟩
    go_wp2_with fail
    refine (HM.out _).mono ?_
    rintro e w' ⟨rfl, hb⟩
    have HB := Lib.hid hb
    clear hb
    go_wp2_with fail
    go_ret2
    exact ⟨by rw [HV.out, HR.out]; rfl, HB.out⟩
  · have HV : Hid (b = false) := by show _ = _; rw [← Bool.not_eq_true]; exact fun h => hg (HOK.out.1 h)
    have HR := Lib.hid (HNO.out HV.out)
    have d1 : ((g : Int) != 1) = true := by rw [bne_iff_ne]; omega
    clear HOK HIF HNO
    go_enter Try.func19, Try.ntmps19
    go_wp2_with fail
    refine (specIn _ _ _ _).mono ?_
    rintro e w' ⟨rfl, rfl⟩
    rw [H1.out]
    go_wp2_with fail
    refine (specIn _ _ _ _).mono ?_
    rintro e w' ⟨rfl, rfl⟩
    rw [H2.out]
    go_wp2_with fail
    refine (HG.out _).mono ?_
    rintro e w' ⟨rfl, rfl⟩
    go_wp2_with fail
    go_ret2
    exact ⟨by rw [HV.out, HR.out]; rfl, Below.refl _ _⟩
end Go.Proofs.Ytnejalefpenbfaa

/- The program's MechanicalWord, ChristoffelWord. Condition: the numbers of ChristoffelWord are 64-bit ones. -/
namespace Go.Proofs.Ytnejalefpenbfaa
open Go.RowKit Go.Lib

theorem mcOk_iff (p q s n : Int) : mcOk p q s n = true ↔ (1 ≤ q ∧ q ≤ 100) ∧ (0 ≤ p ∧ p ≤ q) ∧ (0 ≤ s ∧ s ≤ q - 1) ∧ (0 ≤ n ∧ n ≤ 400) := by
  unfold mcOk
  simp only [Bool.and_eq_true, decide_eq_true_eq]
theorem mcL_at (p q s n k : Nat) (h : k < n) (h' : k < (mcL p q s n).length) : (mcL p q s n)[k] = if mcX p q s k = true then 98 else 97 := by
  have e : (mcL p q s n)[k]? = some (if mcX p q s k = true then 98 else 97) := by
    unfold mcL
    rw [List.getElem?_map, List.getElem?_range h]
    rfl
  exact (List.getElem?_eq_some_iff.1 e).2

set_option maxRecDepth 100000 in
set_option maxHeartbeats 1000000 in
theorem implMechanicalWord (p q s n : Int) (w : World) :
    Calls Try.prog 18 #[.int .i64 p, .int .i64 q, .int .i64 s, .int .i64 n] w fun e w' => e = .returned (.tuple #[.string (mcR p q s n), .bool (mcOk p q s n)]) ∧ Below w.heap.size w w' := by
  by_cases hok : (1 ≤ q ∧ q ≤ 100) ∧ (0 ≤ p ∧ p ≤ q) ∧ (0 ≤ s ∧ s ≤ q - 1) ∧ (0 ≤ n ∧ n ≤ 400)
  · have HV : Hid (mcOk p q s n = true) := (mcOk_iff _ _ _ _).2 hok
    have HR : Hid (mcR p q s n = ⟨(mcL p.toNat q.toNat s.toNat n.toNat).toArray⟩) := if_pos HV.out
    obtain ⟨⟨q1, q2⟩, ⟨p1, p2⟩, ⟨s1, s2⟩, n1, n2⟩ := hok
    obtain ⟨p, rfl⟩ : ∃ m : Nat, p = m := ⟨p.toNat, by omega⟩
    obtain ⟨q, rfl⟩ : ∃ m : Nat, q = m := ⟨q.toNat, by omega⟩
    obtain ⟨s, rfl⟩ : ∃ m : Nat, s = m := ⟨s.toNat, by omega⟩
    obtain ⟨n, rfl⟩ : ∃ m : Nat, n = m := ⟨n.toNat, by omega⟩
    rw [Int.toNat_natCast, Int.toNat_natCast, Int.toNat_natCast, Int.toNat_natCast] at HR
    obtain ⟨i0, hi0, hz0, hz1, hz2⟩ := info_parts u8_info
    have g1 : ¬ (q : Int) < 1 := by omega
    have g2 : ¬ (100 : Int) < (q : Int) := by omega
    have g3 : ¬ (p : Int) < 0 := by omega
    have g4 : ¬ (q : Int) < (p : Int) := by omega
    have g5 : ¬ (s : Int) < 0 := by omega
    have g6 : ¬ (q : Int) ≤ (s : Int) := by omega
    have g7 : ¬ (n : Int) < 0 := by omega
    have g8 : ¬ (400 : Int) < (n : Int) := by omega
    have HST := Lib.hid (fun i => mc_step (p := p) (q := q) (s := s) (by omega) (by omega) i)
    have HL : Hid ((mcL p q s n).length = n) := mcL_len p q s n
    have HLA := Lib.hid (fun k h h' => mcL_at p q s n k h h')
    generalize mcR (p : Int) (q : Int) (s : Int) (n : Int) = r at *
    generalize mcOk (p : Int) (q : Int) (s : Int) (n : Int) = ok at *
    generalize mcL p q s n = L at *
    generalize mcX p q s = X at *
    go_enter Try.func18, Try.ntmps18
    go_wp2_with (at_make; refine wpList_make_full _ rfl _ _ 42 rfl w.heap.size 5 i0 (.int .u8 0) 1 Try.underlying42 hi0 hz0 hz1 .i64 .i64 _ _ n rfl rfl rfl rfl (by rw [hz2]; omega) (by unfold maxLen; omega) (Nat.le_refl _) ?_; intro w1 hown hgrow)
    have hb1 : Below w.heap.size w w1 := (Below.refl _ _).grown hgrow (Nat.le_refl _) (fun k hk => by cases hk)
    have HD : Hid (((madeCells (Value.int .u8 0).cells (n * 1)).toList).length = L.length) := by
      have := hown.1
      have := HL.out
      unfold Hid
      omega
    generalize (madeCells (Value.int .u8 0).cells (n * 1)).toList = zs at hown HD
    go_loopw [48] (fun i w' => ∃ (k : Nat), k ≤ n ∧ i = .int .i64 k ∧ w'.ownsRow w.heap.size 5 1 (.slice (some ⟨w.heap.size, 0, none⟩) n n) n (byteCells (L.take k) ++ zs.drop k) ∧ Below w.heap.size w w') (fun i _ => n - (intOf i).toNat)
    case atStart => exact ⟨0, by omega, rfl, by simpa [byteCells] using hown, hb1⟩
    case round =>
      obtain ⟨k, hk, rfl, ho, hbk⟩ := hrel
      have HO := Lib.hid ho
      have HB := Lib.hid hbk
      by_cases hlt : k < n
      · have hkL : k < L.length := by rw [HL.out]; exact hlt
        obtain ⟨u, hu⟩ := byteCells_get L zs k hkL HD.out
        have g2 := (ho.cellAt k (by omega)).trans hu
        have g3 := ho.frozenAt k
        have hs' := byteCells_set L zs k hkL HD.out
        rw [HLA.out k hlt hkL] at hs'
        have HS := Lib.hid hs'
        have hst := HST.out k
        have hB1 : k * p ≤ 400 * 100 := Nat.mul_le_mul (by omega) (by omega)
        have hA1 : (k + 1) * p ≤ 401 * 100 := Nat.mul_le_mul (by omega) (by omega)
        have hBe : ((k * p : Nat) : Int) = (k : Int) * (p : Int) := Int.natCast_mul _ _
        have hAe : (((k + 1) * p : Nat) : Int) = ((k : Int) + 1) * (p : Int) := by rw [Int.natCast_mul]; rfl
        generalize k * p = b at *
        generalize (k + 1) * p = a at *
        have eK : IntKind.i64.wrap ((k : Int) + 1) = (k : Int) + 1 := IntWalk.i64_in _ (by omega)
        have eA : IntKind.i64.wrap (((k : Int) + 1) * (p : Int)) = (a : Int) := by rw [← hAe]; exact IntWalk.i64_in _ (by omega)
        have eB : IntKind.i64.wrap ((k : Int) * (p : Int)) = (b : Int) := by rw [← hBe]; exact IntWalk.i64_in _ (by omega)
        have eA2 : IntKind.i64.wrap ((s : Int) + (a : Int)) = (s : Int) + (a : Int) := IntWalk.i64_in _ (by omega)
        have eB2 : IntKind.i64.wrap ((s : Int) + (b : Int)) = (s : Int) + (b : Int) := IntWalk.i64_in _ (by omega)
        have hu1 : (s + a) / q ≤ s + a := Nat.div_le_self _ _
        have hv1 : (s + b) / q ≤ s + b := Nat.div_le_self _ _
        have tA0 : ((s : Int) + (a : Int)).tdiv (q : Int) = (((s + a) / q : Nat) : Int) := by rw [← Int.natCast_add]; rfl
        have tB0 : ((s : Int) + (b : Int)).tdiv (q : Int) = (((s + b) / q : Nat) : Int) := by rw [← Int.natCast_add]; rfl
        have tA3 : ((s : Int) + (a : Int)) / (q : Int) = (((s + a) / q : Nat) : Int) := by rw [← Int.natCast_add]; rfl
        have tB3 : ((s : Int) + (b : Int)) / (q : Int) = (((s + b) / q : Nat) : Int) := by rw [← Int.natCast_add]; rfl
        rw [hst] at tA0 tA3 hu1
        generalize (s + b) / q = V at *
        have z0 : ¬ (q : Int) = 0 := by omega
        have z0' : ¬ q = 0 := by omega
        have hgl := (ho.lt w.heap.size rfl).1
        clear hu hkL hs' hBe hAe hst ho hbk
        obtain ⟨wo, rfl⟩ : ∃ y : World, y = wr := ⟨_, rfl⟩
        cases hx : X k
        · rw [hx] at tA0 tA3 hu1 HS
          have tA : ((s : Int) + (a : Int)).tdiv (q : Int) = (V : Int) := tA0
          have tA4 : ((s : Int) + (a : Int)) / (q : Int) = (V : Int) := tA3
          have e5 : IntKind.i64.wrap ((V : Int) - (V : Int)) = 0 := by rw [Int.sub_self]; rfl
          clear tA0 tA3 hx
          go_wp2_with fail
          go_region
          go_wp2_with fail
          go_roundw
          case rel =>
            refine ⟨k + 1, by omega, by go_num, ?_, below_drewN (HB.out.setCell (p := ⟨w.heap.size, k, none⟩) hgl _) 1⟩
            have h1 := (HO.out.stored k (.int .u8 97)).1
            have h2 := HS.out
            rw [if_neg (by decide)] at h2
            rw [← h2]
            exact h1
          case measure => simp [intOf]; omega
        · rw [hx] at tA0 tA3 hu1 HS
          have tA : ((s : Int) + (a : Int)).tdiv (q : Int) = (V : Int) + 1 := tA0
          have tA4 : ((s : Int) + (a : Int)) / (q : Int) = (V : Int) + 1 := tA3
          have e5 : IntKind.i64.wrap ((V : Int) + 1 - (V : Int)) = 1 := by rw [show (V : Int) + 1 - (V : Int) = 1 by omega]; rfl
          clear tA0 tA3 hx
          go_wp2_with fail
          go_region
          go_wp2_with fail
          go_roundw
          case rel =>
            refine ⟨k + 1, by omega, by go_num, ?_, below_drewN (HB.out.setCell (p := ⟨w.heap.size, k, none⟩) hgl _) 1⟩
            have h1 := (HO.out.stored k (.int .u8 98)).1
            have h2 := HS.out
            rw [if_pos trivial] at h2
            rw [← h2]
            exact h1
          case measure => simp [intOf]; omega
      · have hkl : k = n := by omega
        subst hkl
        have ho' : wr.ownsRow w.heap.size 5 1 (.slice (some ⟨w.heap.size, 0, none⟩) k k) k (byteCells L) := by
          have h1 := HO.out
          have h2 := byteCells_end L zs HD.out
          rw [HL.out] at h2
          rw [h2] at h1
          exact h1
        have hconv := conv_own ho'
        have g9 : ¬ (k : Int) < (k : Int) := by omega
        clear ho ho' hbk
        go_wp2_with fail
        go_ret2
        exact ⟨by rw [HV.out, HR.out]; rfl, HB.out⟩
  · have HV : Hid (mcOk p q s n = false) := by
      show _ = _
      rw [Bool.eq_false_iff]
      exact fun h => hok ((mcOk_iff _ _ _ _).1 h)
    have HR := Lib.hid (mc_no HV.out)
    have hcs : q < 1 ∨ (¬ q < 1 ∧ 100 < q) ∨ (¬ q < 1 ∧ ¬ 100 < q ∧ p < 0) ∨ (¬ q < 1 ∧ ¬ 100 < q ∧ ¬ p < 0 ∧ q < p) ∨ (¬ q < 1 ∧ ¬ 100 < q ∧ ¬ p < 0 ∧ ¬ q < p ∧ s < 0) ∨ (¬ q < 1 ∧ ¬ 100 < q ∧ ¬ p < 0 ∧ ¬ q < p ∧ ¬ s < 0 ∧ q ≤ s) ∨ (¬ q < 1 ∧ ¬ 100 < q ∧ ¬ p < 0 ∧ ¬ q < p ∧ ¬ s < 0 ∧ ¬ q ≤ s ∧ n < 0) ∨ (¬ q < 1 ∧ ¬ 100 < q ∧ ¬ p < 0 ∧ ¬ q < p ∧ ¬ s < 0 ∧ ¬ q ≤ s ∧ ¬ n < 0 ∧ 400 < n) := by omega
    clear hok
    generalize mcR p q s n = r at *
    generalize mcOk p q s n = ok at *
    rcases hcs with h1 | ⟨h1, h2⟩ | ⟨h1, h2, h3⟩ | ⟨h1, h2, h3, h4⟩ | ⟨h1, h2, h3, h4, h5⟩ | ⟨h1, h2, h3, h4, h5, h6⟩ | ⟨h1, h2, h3, h4, h5, h6, h7⟩ | ⟨h1, h2, h3, h4, h5, h6, h7, h8⟩
    all_goals
      go_enter Try.func18, Try.ntmps18
      go_wp2_with fail
      go_ret2
      exact ⟨by rw [HV.out, HR.out]; rfl, Below.refl _ _⟩

set_option maxRecDepth 100000 in
set_option maxHeartbeats 1000000 in
/-- commonDivisor of any two 64-bit numbers: the greatest common divisor, where neither is less than 0 -/
theorem implDivisorI (a b : Int) (w : World) (ha : (Lit.int .i64 a).wf = true) (hb : (Lit.int .i64 b).wf = true) :
    Calls Try.prog 36 #[.int .i64 a, .int .i64 b] w fun e w' => ∃ g, e = .returned (.int .i64 g) ∧ Hid (0 ≤ a → 0 ≤ b → g = (Nat.gcd a.toNat b.toNat : Int)) ∧ ∃ n, w' = w.drewN n := by
  have la := wf_bounds ha
  have lb := wf_bounds hb
  have HI0 : Hid (0 ≤ a → 0 ≤ b → 0 ≤ a ∧ 0 ≤ b ∧ Nat.gcd a.toNat b.toNat = Nat.gcd a.toNat b.toNat) := fun h1 h2 => ⟨h1, h2, rfl⟩
  obtain ⟨g, hg⟩ : ∃ g, g = Nat.gcd a.toNat b.toNat := ⟨_, rfl⟩
  have HI : Hid (0 ≤ a → 0 ≤ b → 0 ≤ a ∧ 0 ≤ b ∧ Nat.gcd a.toNat b.toNat = g) := fun h1 h2 => ⟨h1, h2, hg.symm⟩
  rw [← hg]
  have HP : Hid (∀ x : Int, (∃ g0, Ending.returned (.int .i64 x) = Ending.returned (.int .i64 g0) ∧ Hid (0 ≤ a → 0 ≤ b → g0 = (g : Int))) ↔ (0 ≤ a → 0 ≤ b → x = (g : Int))) := fun x =>
    ⟨fun ⟨g0, e, h⟩ => by injection e with e; injection e with _ e; rw [e]; exact h.out, fun h => ⟨x, rfl, h⟩⟩
  obtain ⟨A, hA⟩ : ∃ A : Prop, A ↔ 0 ≤ a := ⟨_, Iff.rfl⟩
  obtain ⟨B, hB⟩ : ∃ B : Prop, B ↔ 0 ≤ b := ⟨_, Iff.rfl⟩
  have HQ : Hid (∀ x : Int, (A → B → x = (g : Int)) → ∃ g0, Ending.returned (.int .i64 x) = Ending.returned (.int .i64 g0) ∧ Hid (0 ≤ a → 0 ≤ b → g0 = (g : Int))) := fun x h => (HP.out x).2 fun h1 h2 => h (hA.2 h1) (hB.2 h2)
  have HS : Hid (A → B → 0 ≤ a ∧ 0 ≤ b ∧ Nat.gcd a.toNat b.toNat = g) := fun h1 h2 => HI.out (hA.1 h1) (hB.1 h2)
  clear HI0 HI HP hA hB hg ha hb
  go_enter Try.func36, Try.ntmps36
  go_wp2_with fail
  go_loopw [0, 1] (fun xv yv w' => ∃ x y : Int, (-9223372036854775808 ≤ x ∧ x ≤ 9223372036854775807) ∧ (-9223372036854775808 ≤ y ∧ y ≤ 9223372036854775807) ∧ xv = .int .i64 x ∧ yv = .int .i64 y ∧ Hid (A → B → 0 ≤ x ∧ 0 ≤ y ∧ Nat.gcd x.toNat y.toNat = g) ∧ ∃ n, w' = w.drewN n) (fun _ y _ => (intOf y).toNat)
  case atStart => exact ⟨a, b, la, lb, rfl, rfl, HS, 0, rfl⟩
  case round =>
    obtain ⟨x, y, lx, ly, rfl, rfl, HXY, n, hw⟩ := hrel
    have HW := Lib.hid hw
    clear hw
    by_cases h0 : 0 < y
    · have h1 : ¬ y = 0 := by omega
      have m1 : x.tmod y < y := Int.tmod_lt_of_pos x h0
      have m2 : -y < x.tmod y := by
        have := Int.lt_tmod_of_pos x h0
        omega
      have HM : Hid (A → B → 0 ≤ y ∧ 0 ≤ x.tmod y ∧ Nat.gcd y.toNat (x.tmod y).toNat = g) := fun hA hB => by
        obtain ⟨e1, e2, e3⟩ := HXY.out hA hB
        obtain ⟨x, rfl⟩ : ∃ m : Nat, x = m := ⟨x.toNat, by omega⟩
        obtain ⟨y, rfl⟩ : ∃ m : Nat, y = m := ⟨y.toNat, by omega⟩
        have e4 : (x : Int).tmod (y : Int) = ((x % y : Nat) : Int) := rfl
        rw [e4, Int.toNat_natCast, Int.toNat_natCast]
        rw [Int.toNat_natCast, Int.toNat_natCast] at e3
        refine ⟨e2, by omega, ?_⟩
        rw [Nat.gcd_comm, ← Nat.gcd_rec, Nat.gcd_comm]
        exact e3
      have htm : ∃ z, x.tmod y = z := ⟨_, rfl⟩
      obtain ⟨z, hz⟩ := htm
      rw [hz] at m1 m2 HM
      have e1 : IntKind.i64.wrap z = z := IntWalk.i64_in _ (by omega)
      go_wp2_with fail
      go_quiet (fail)
      go_wp2_with fail
      go_roundw
      case rel => exact ⟨y, z, ly, by omega, rfl, rfl, HM, n + nq, by rw [HW.out]; exact World.drewN_drewN _ _ _⟩
      case measure => simp only [intOf]; omega
    · have HR := HQ.out x fun hA hB => by
        obtain ⟨e1, e2, e3⟩ := HXY.out hA hB
        have : y = 0 := by omega
        subst this
        rw [show (0 : Int).toNat = 0 from rfl, Nat.gcd_zero_right] at e3
        omega
      obtain ⟨g0, hg0, hg1⟩ := HR
      go_wp2_with fail
      go_ret
      exact ⟨g0, hg0, hg1, n, HW.out⟩

set_option maxRecDepth 100000 in
set_option maxHeartbeats 1000000 in
theorem implChristoffelWord (p q : Int) (w : World) (hp : (Lit.int .i64 p).wf = true) (hq : (Lit.int .i64 q).wf = true) :
    Calls Try.prog 20 #[.int .i64 p, .int .i64 q] w fun e w' => e = .returned (.tuple #[.string (chR p q), .bool (chOk p q)]) ∧ Below w.heap.size w w' := by
  by_cases h1 : q ≤ p
  · have HV : Hid (chOk p q = false) := by
      show _ = _
      unfold chOk
      rw [decide_eq_false (show ¬ p ≤ q - 1 by omega), Bool.and_false, Bool.false_and, Bool.and_false]
    have HR : Hid (chR p q = ⟨#[]⟩) := if_neg (by rw [HV.out]; decide)
    generalize chR p q = r at *
    generalize chOk p q = ok at *
    go_enter Try.func20, Try.ntmps20
    go_wp2_with fail
    go_ret2
    exact ⟨by rw [HV.out, HR.out]; rfl, Below.refl _ _⟩
  have HC := Lib.hid (fun w => implDivisorI p q w hp hq)
  have HM := Lib.hid (fun w => implMechanicalWord p q 0 q w)
  have hmo : mcOk p q 0 q = true ↔ (1 ≤ q ∧ q ≤ 100) ∧ 0 ≤ p := by
    rw [mcOk_iff]
    omega
  have hco : chOk p q = true ↔ ((1 ≤ q ∧ q ≤ 100) ∧ 0 ≤ p) ∧ Nat.gcd p.toNat q.toNat = 1 := by
    unfold chOk
    simp only [Bool.and_eq_true, decide_eq_true_eq]
    constructor
    · rintro ⟨a, ⟨b, c⟩, d⟩; exact ⟨⟨a, b⟩, d⟩
    · rintro ⟨⟨a, b⟩, d⟩; exact ⟨a, ⟨b, by omega⟩, d⟩
  have HR1 : Hid (chOk p q = true → chR p q = mcR p q 0 q) := fun h => by
    have h2 := hmo.2 (hco.1 h).1
    unfold chR mcR
    rw [if_pos h, if_pos h2]
    rfl
  have HR0 : Hid (chOk p q = false → chR p q = ⟨#[]⟩) := fun h => if_neg (by rw [h]; decide)
  have HR2 : Hid (mcOk p q 0 q = false → mcR p q 0 q = ⟨#[]⟩) := fun h => mc_no h
  have HX : Hid (∀ g : Int, (0 ≤ p → 0 ≤ q → g = (Nat.gcd p.toNat q.toNat : Int)) → (g = 1 → chOk p q = mcOk p q 0 q) ∧ (g ≠ 1 → chOk p q = false)) := fun g h => by
    constructor
    · intro e
      rw [Bool.eq_iff_iff, hmo, hco]
      constructor
      · exact fun k => k.1
      · exact fun k => ⟨k, by have := h k.2 (by omega); omega⟩
    · intro e
      rw [Bool.eq_false_iff]
      intro k
      have k := hco.1 k
      have := h k.1.2 (by omega)
      omega
  clear hmo hco hp hq
  generalize chR p q = r at *
  generalize chOk p q = ok at *
  generalize mcR p q 0 q = mr at *
  generalize mcOk p q 0 q = mo at *
  go_enter Try.func20, Try.ntmps20
  go_wp2_with fail
  refine (HC.out _).mono ?_
  rintro e w1 ⟨g, rfl, hg, n, hw⟩
  have HX1 := Lib.hid (HX.out g hg.out)
  have HB1 : Hid (Below w.heap.size w w1) := by show Below _ _ _; rw [hw]; exact below_drewN (Below.refl _ _) n
  clear hg hw
  by_cases hg1 : g = 1
  · have d1 : (g != 1) = false := by rw [bne_eq_false_iff_eq]; exact hg1
    have HE := Lib.hid (HX1.out.1 hg1)
    clear hg1
    go_wp2_with fail
    refine (HM.out _).mono ?_
    rintro e w2 ⟨rfl, hb⟩
    have HB2 := Lib.hid (HB1.out.trans (hb.mono HB1.out.size))
    clear hb
    go_wp2_with fail
    go_ret2
    refine ⟨?_, HB2.out⟩
    cases hok : ok
    · have h2 : mo = false := by rw [← HE.out]; exact hok
      rw [HR0.out hok, h2, HR2.out h2]
      rfl
    · have h2 : mo = true := by rw [← HE.out]; exact hok
      rw [HR1.out hok, h2]
      rfl
  · have d1 : (g != 1) = true := by rw [bne_iff_ne]; exact hg1
    have HE := Lib.hid (HX1.out.2 hg1)
    clear hg1
    go_wp2_with fail
    go_ret2
    exact ⟨by rw [HR0.out HE.out, HE.out]; rfl, HB1.out⟩
end Go.Proofs.Ytnejalefpenbfaa
