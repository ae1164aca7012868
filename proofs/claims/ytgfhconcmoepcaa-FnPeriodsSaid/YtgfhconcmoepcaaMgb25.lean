/- Texts put together. -/
import Derived.Test.YtgfhconcmoepcaaMgb24
import Derived.OwnWalk
import Derived.Test.YtgfhconcmoepcaaMgb2
import Derived.RegionTactic
import Derived.Laws.Cover1
import Derived.Test.YtgfhconcmoepcaaMgb6
import Derived.Test.YtgfhconcmoepcaaMgb13
import Derived.BigQuiet
/- The program's longestBorder: what its closures capture. No condition. -/
namespace Go.Proofs.Ytgfhconcmoepcaa
open Go.RowKit

/-- a row that has just been laid, by its block's number -/
theorem own_lit_at {w : World} {B g n : Nat} {e : TypeId} {cs : Array Value} (hg : w.heap.size = g) (hB : B ≤ g) (hm : n ≤ maxLen) (hs : cs.size = n) : (w.alloc (.cells cs e)).ownsRow B e 1 (.slice (some ⟨g, 0, none⟩) n n) n cs.toList := by
  subst hg
  exact World.ownsRow_lit w cs n hB hm (by rw [hs, Nat.mul_one])

set_option maxRecDepth 100000 in
set_option maxHeartbeats 1000000 in
theorem implLongestBorder (s : ByteArray) (w : World) :
    Calls Try.prog 90 #[.string s] w fun e w' => ∃ p1 p3 p4 p5 B A cp, e = .returned (.func (.func 97) #[] #[.pointer (some ⟨p5, 0, none⟩), .pointer (some ⟨p4, 0, none⟩), .pointer (some ⟨p1, 0, none⟩)]) ∧ KmpOwn s p1 p3 p4 p5 B 2 A cp w' ∧ w.heap.size ≤ B ∧ B ≤ w'.heap.size ∧ Below w.heap.size w w' := by
  have hmf : ∀ (fn : Fn) (first cap : Array Value) (w : World), (Instr.makeFunc fn first cap).run Try.prog w = .ok (.func fn first cap) w := fun _ _ _ _ => rfl
  go_enter Try.func90, Try.ntmps90
  go_wp2_with fail
  go_ret
  refine ⟨w.heap.size, w.heap.size + 1, w.heap.size + 2, w.heap.size + 4, w.heap.size + 3, some ⟨w.heap.size + 3, 0, none⟩, 2, rfl, ?_, by omega, by simp, ?_⟩
  · refine ⟨by omega, by omega, by omega, by go_simp, by go_simp, by go_simp, ?_, ?_⟩
    · rw [knL_two]
      exact (own_lit_at (by simp) (by omega) (by unfold maxLen; decide) rfl).alloc _
    · exact own_lit_at (by simp) (by omega) (by unfold maxLen; decide) rfl
  · exact (((((Below.refl _ _).alloc (Nat.le_refl _) _).alloc (by simp) _).alloc (by simp; omega) _).alloc (by simp; omega) _).alloc (by simp; omega) _
end Go.Proofs.Ytgfhconcmoepcaa

/- The program's borders: their lengths, the greatest one first. Condition: a text of at most 2^20 - 1 letters. -/
namespace Go.Proofs.Ytgfhconcmoepcaa
open Go.RowKit

theorem desc_any (s : ByteArray) : DescTo s (brN (ltO s) s.size) [] := by
  by_cases h : 1 ≤ s.size
  · exact desc_start h
  · have h0 : s.size = 0 := by omega
    rw [h0, brN_zero]
    unfold DescTo
    rw [h0]
    rfl

set_option maxRecDepth 100000 in
set_option maxHeartbeats 1000000 in
theorem implBorders (s : ByteArray) (w : World) (hs : s.size ≤ 1048575) :
    Calls Try.prog 61 #[.string s] w fun e w' => ∃ v, e = .returned v ∧ w'.ownsRow w.heap.size 3 1 v (boTo s (s.size - 1)).reverse.length (ints (boTo s (s.size - 1)).reverse) ∧ Below w.heap.size w w' := by
  obtain ⟨i0, hi0, hz0, hz1, hz2⟩ := info_parts int_info
  have HE : Hid (∀ L, DescTo s 0 L → L = (boTo s (s.size - 1)).reverse) := fun L h => desc_end h
  have HD0 := Lib.hid (desc_any s)
  have HNX : Hid (∀ n L, 1 ≤ n → BrAt (ltO s) s.size n → DescTo s n L → DescTo s (brN (ltO s) n) (L ++ [(n : Int)])) := fun n L a b d => desc_next a b d
  have HBR : Hid (∀ n, 1 ≤ n → BrAt (ltO s) s.size n → brN (ltO s) n < n ∧ (brN (ltO s) n = 0 ∨ BrAt (ltO s) s.size (brN (ltO s) n))) := fun n a b =>
    ⟨brN_lt a, .inr ((br_of b (brN_lt a)).2 (brN_ok a))⟩
  have HB0 : Hid (brN (ltO s) s.size ≤ s.size ∧ (brN (ltO s) s.size = 0 ∨ BrAt (ltO s) s.size (brN (ltO s) s.size))) := by
    refine ⟨brN_le _ _, ?_⟩
    by_cases h : 1 ≤ s.size
    · exact .inr (brN_ok h)
    · left
      rw [show s.size = 0 by omega]
      rfl
  generalize (boTo s (s.size - 1)).reverse = R at HE ⊢
  go_enter Try.func61, Try.ntmps61
  go_wp2_with fail
  refine (implLongestBorder s _).mono ?_
  rintro e w1 ⟨p1, p3, p4, p5, B, A, cp, rfl, hk, hB1, hB2, hb1⟩
  have HB1 := Lib.hid hb1
  have HC := Lib.hid (implLongestAll s p1 p3 p4 p5 B 2 cp s.size A w1 hk (Nat.le_refl _) (by omega) (Nat.le_refl _) hs hB2)
  clear hk hb1
  go_wp2_with fail
  refine HC.out.mono ?_
  rintro e w2 ⟨rfl, ⟨k, A2, cp2, hk1, hk2, hko⟩, hb2⟩
  have HKO := Lib.hid hko
  have HB2 : Hid (Below w.heap.size w w2) := HB1.out.trans (hb2.mono hB1)
  have hsz2 := HB2.out.size
  clear hko hb2 HC HB1
  generalize hn0 : brN (ltO s) s.size = n0 at HD0 HB0
  clear hn0
  go_wp2_with fail
  go_loopw [3, 5] (fun lv nv w' => ∃ (n : Nat) (L : List Int), nv = .int .i64 (n : Int) ∧ L.length + n ≤ s.size ∧ (n = 0 ∨ BrAt (ltO s) s.size n) ∧ DescTo s n L ∧ (∃ A cp, lv = .slice A L.length cp) ∧ w'.ownsRow w2.heap.size 3 1 lv L.length (ints L) ∧ Below w2.heap.size w2 w') (fun _ nv _ => (intOf nv).toNat)
  case atStart => exact ⟨n0, [], rfl, by simpa using HB0.out.1, HB0.out.2, HD0.out, ⟨_, _, rfl⟩, World.ownsRow_nil _ _ _ _, Below.refl _ _⟩
  case round =>
    obtain ⟨n, L, rfl, hln, hbr, hd, ⟨A3, cp3, rfl⟩, ho, hb⟩ := hrel
    have HD := Lib.hid hd
    have HO := Lib.hid ho
    have HB := Lib.hid hb
    have hbz := hb.size
    clear hd ho hb
    by_cases hn : 1 ≤ n
    · have hbrn : BrAt (ltO s) s.size n := by
        rcases hbr with h | h
        · omega
        · exact h
      have HD2 := Lib.hid (HNX.out n L hn hbrn HD.out)
      obtain ⟨hlt, hbr2⟩ := HBR.out n hn hbrn
      have HBR2 := Lib.hid hbr2
      have hn' : (0 : Int) < (n : Int) := by omega
      clear hbr hbr2 hbrn HNX HBR
      go_wp2_with (at_builtin
                   refine wpList_append1 _ rfl (.tmp 17) (.tmp 19) _ rfl w2.heap.size 3 i0 _ 8 Try.underlying24 hi0 hz0 hz1 hz2 rfl (.slice A3 L.length cp3) L.length (ints L) rfl HO.out (.int .i64 (n : Int)) rfl rfl (by unfold maxLen; omega) (by omega) hbz ?_
                   intro v' w4 hown4 hbel4)
      have ho4 : w4.ownsRow w2.heap.size 3 1 v' (L ++ [(n : Int)]).length (ints (L ++ [(n : Int)])) := by
        rw [List.length_append, ints_snoc]
        exact hown4
      have HO4 := Lib.hid ho4
      obtain ⟨A5, cp5, rfl⟩ := own_slice ho4
      have HB4 : Hid (Below w2.heap.size w2 w4) := HB.out.trans hbel4
      obtain ⟨g, _, hat⟩ := (HKO.out.below HB4.out).at (by omega)
      have HL := Lib.hid (implLongestAt s p1 p3 p4 p5 g k cp2 n w4 hat (by omega) hk2)
      clear hown4 hbel4 ho4 hat
      generalize brN (ltO s) n = n2 at HD2 HBR2 hlt HL
      refine HL.out.mono ?_
      rintro e w5 ⟨rfl, rfl⟩
      go_wp2_with fail
      go_roundw
      case rel => exact ⟨n2, L ++ [(n : Int)], rfl, by rw [List.length_append, List.length_singleton]; omega, HBR2.out, HD2.out, ⟨A5, cp5, by rw [List.length_append, List.length_singleton]⟩, by have h := HO4.out; rw [List.length_append, List.length_singleton] at h ⊢; exact h, HB4.out⟩
      case measure => simp only [intOf]; omega
    · have hn0 : n = 0 := by omega
      subst hn0
      have HR := Lib.hid (HE.out L HD.out)
      clear hbr
      go_wp2_with fail
      go_ret
      exact ⟨_, rfl, by rw [← HR.out]; exact own_mono HO.out hsz2, HB2.out.trans (HB.out.mono hsz2)⟩
end Go.Proofs.Ytgfhconcmoepcaa

/- slices.Reverse, slices.Index and slices.Contains of the library, of a row of ints that the call owns. Condition: at most 2^20 of them. -/
namespace Go.Proofs.Ytgfhconcmoepcaa
open Go.RowKit

/-- turned as far as i from both ends -/
def HalfTurned (L : List Int) (i : Nat) (M : List Int) : Prop := M.length = L.length ∧ ∀ p, p < L.length → M[p]? = if p < i ∨ L.length - i ≤ p then L[L.length - 1 - p]? else L[p]?
theorem half_start (L : List Int) : HalfTurned L 0 L := ⟨rfl, fun p hp => by rw [if_neg (by omega)]⟩
theorem half_step {L M : List Int} {i j : Nat} (h : HalfTurned L i M) (hij : i < j) (hj : j + i + 1 = L.length) (a b : Int) (ha : M[i]? = some a) (hb : M[j]? = some b) : HalfTurned L (i + 1) ((M.set i b).set j a) := by
  obtain ⟨h1, h2⟩ := h
  refine ⟨by rw [List.length_set, List.length_set, h1], fun p hp => ?_⟩
  by_cases hpj : p = j
  · subst hpj
    rw [List.getElem?_set_self (by rw [List.length_set]; omega), if_pos (by omega), ← ha, h2 i (by omega), if_neg (by omega)]
    congr 1
    omega
  · rw [List.getElem?_set_ne (fun e => hpj e.symm)]
    by_cases hpi : p = i
    · subst hpi
      rw [List.getElem?_set_self (by omega), if_pos (by omega), ← hb, h2 j (by omega), if_neg (by omega)]
      congr 1
      omega
    · rw [List.getElem?_set_ne (fun e => hpi e.symm), h2 p hp]
      by_cases hc : p < i ∨ L.length - i ≤ p
      · rw [if_pos hc, if_pos (by omega)]
      · rw [if_neg hc, if_neg (by omega)]
theorem half_end {L M : List Int} {i : Nat} (h : HalfTurned L i M) (hi : L.length ≤ i + i + 1) : M = L.reverse := by
  obtain ⟨h1, h2⟩ := h
  apply List.ext_getElem?
  intro p
  by_cases hp : p < L.length
  · rw [h2 p hp, List.getElem?_reverse hp]
    by_cases hc : p < i ∨ L.length - i ≤ p
    · rw [if_pos hc]
    · rw [if_neg hc]
      congr 1
      omega
  · rw [List.getElem?_eq_none (by omega), List.getElem?_eq_none (by rw [List.length_reverse]; omega)]
theorem ints_set (M : List Int) (i : Nat) (a : Int) : ints (M.set i a) = (ints M).set i (.int .i64 a) := by unfold ints; rw [List.map_set]
theorem ints_get {M : List Int} {i : Nat} {a : Int} (h : M[i]? = some a) : (ints M)[i]? = some (.int .i64 a) := by unfold ints; rw [List.getElem?_map, h]; rfl

set_option maxRecDepth 100000 in
set_option maxHeartbeats 1000000 in
theorem implReverse (B : Nat) (v : Value) (L : List Int) (w : World) (ho : w.ownsRow B 3 1 v L.length (ints L)) (hn : L.length ≤ 1048576) :
    Calls Try.prog 62 #[v] w fun e w' => e = .returned (.tuple #[]) ∧ w'.ownsRow B 3 1 v L.length (ints L.reverse) ∧ Below B w w' := by
  obtain ⟨A, cp, rfl⟩ := own_slice ho
  have HO := Lib.hid ho
  clear ho
  go_enter Try.func62, Try.ntmps62
  go_wp2_with fail
  go_loopw [2, 3] (fun iv jv w' => ∃ (i : Nat) (z : Int) (M : List Int), i ≤ L.length ∧ iv = .int .i64 (i : Int) ∧ jv = .int .i64 z ∧ z = (L.length : Int) - 1 - (i : Int) ∧ HalfTurned L i M ∧ w'.ownsRow B 3 1 (.slice A L.length cp) L.length (ints M) ∧ Below B w w') (fun iv _ _ => L.length - (intOf iv).toNat)
  case atStart => exact ⟨0, _, L, Nat.zero_le _, rfl, rfl, by omega, half_start L, HO.out, Below.refl _ _⟩
  case round =>
    obtain ⟨i, z, M, hi, rfl, rfl, hz, hm, ho, hb⟩ := hrel
    have HM := Lib.hid hm
    have HOM := Lib.hid ho
    have HB := Lib.hid hb
    have hml := hm.1
    clear hm ho hb
    by_cases hlt : (i : Int) < z
    · obtain ⟨j, rfl⟩ : ∃ j : Nat, z = j := ⟨z.toNat, by omega⟩
      obtain ⟨g, cp', he, _⟩ := own_some HOM.out (by omega)
      injection he with he _ he2
      subst he; subst he2
      have hij : i < j := by omega
      have hji : j + i + 1 = L.length := by omega
      obtain ⟨a, ha⟩ : ∃ a, M[i]? = some a := ⟨M[i]'(by omega), List.getElem?_eq_getElem _⟩
      obtain ⟨b, hb⟩ : ∃ b, M[j]? = some b := ⟨M[j]'(by omega), List.getElem?_eq_getElem _⟩
      have ci : wr.cell? ⟨g, i, none⟩ = some (.int .i64 a) := (World.ownsRow.cellAt HOM.out i (by omega)).trans (ints_get ha)
      have cj : wr.cell? ⟨g, j, none⟩ = some (.int .i64 b) := (World.ownsRow.cellAt HOM.out j (by omega)).trans (ints_get hb)
      have fi := HOM.out.frozenAt i
      have fj := HOM.out.frozenAt j
      have hgl := (HOM.out.lt g rfl).1
      have HMN := Lib.hid (half_step HM.out hij hji a b ha hb)
      have i1 : (i : Int) < (L.length : Int) := by omega
      have j1 : (j : Int) < (L.length : Int) := by omega
      clear ha hb hz
      go_wp2_with fail
      go_region
      go_wp2_with fail
      go_roundw
      case rel =>
        refine ⟨i + 1, _, _, by omega, by go_num, rfl, by omega, HMN.out, ?_, ?_⟩
        · have h1 := (HOM.out.stored i (.int .i64 b)).1
          have h2 := (h1.stored j (.int .i64 a)).1
          rw [ints_set, ints_set]
          exact h2
        · exact below_drewN ((HB.out.setCell (p := ⟨g, i, none⟩) hgl _).setCell (p := ⟨g, j, none⟩) hgl _) 1
      case measure => simp [intOf]; omega
    · have HE := Lib.hid (half_end HM.out (by omega))
      go_wp2_with fail
      go_end0
      exact ⟨rfl, by rw [← HE.out]; exact HOM.out, HB.out⟩
set_option maxHeartbeats 1000000 in
theorem implIndexInts (B : Nat) (v : Value) (L : List Int) (x : Int) (w : World) (ho : w.ownsRow B 3 1 v L.length (ints L)) (hn : L.length ≤ 1048576) :
    Calls Try.prog 91 #[v, .int .i64 x] w fun e w' => (∃ q : Int, e = .returned (.int .i64 q) ∧ (0 ≤ q ↔ x ∈ L)) ∧ w = w' := by
  obtain ⟨A, cp, rfl⟩ := own_slice ho
  have HO := Lib.hid ho
  clear ho
  go_enter Try.func91, Try.ntmps91
  go_wp2_with fail
  go_loop [8] (fun ix => ∃ i : Nat, i ≤ L.length ∧ ix = .int .i64 (i : Int) ∧ ∀ j (hj : j < L.length), j < i → L[j] ≠ x) (fun ix => L.length - (intOf ix).toNat)
  case atStart => exact ⟨0, by omega, rfl, fun j _ h => by omega⟩
  case round =>
    obtain ⟨i, hi, rfl, hno⟩ := hrel
    have HNO := Lib.hid hno
    clear hno
    by_cases hlt : i < L.length
    · obtain ⟨g, cap, e, hcap⟩ := own_some HO.out (by omega)
      injection e with hA _ hc
      subst hA; subst hc
      have gi : w.cell? ⟨g, i, none⟩ = some (.int .i64 (L[i]'hlt)) := (World.ownsRow.cellAt HO.out i (by omega)).trans (ints_get (List.getElem?_eq_getElem hlt))
      by_cases he : L[i]'hlt = x
      · have dE : (x == (L[i]'hlt)) = true := by rw [beq_iff_eq]; exact he.symm
        have HM : Hid (x ∈ L) := by show x ∈ L; rw [← he]; exact List.getElem_mem _
        clear he
        generalize L[i]'hlt = y at gi dE
        go_wp2_with fail
        go_ret
        refine ⟨⟨_, rfl, ?_⟩, rfl⟩
        exact ⟨fun _ => HM.out, fun _ => by omega⟩
      · have dE : (x == (L[i]'hlt)) = false := by rw [beq_eq_false_iff_ne]; exact fun h => he h.symm
        have HE := Lib.hid he
        clear he
        generalize hy : L[i]'hlt = y at gi dE
        clear hy
        go_wp2_with fail
        go_round
        case rel => exact ⟨i + 1, by omega, by go_num, fun j hj h => by
          by_cases e : j = i
          · subst e; exact HE.out
          · exact HNO.out j hj (by omega)⟩
        case measure => simp [intOf]; omega
    · have HM : Hid (¬ x ∈ L) := by
        intro h
        obtain ⟨j, hj, e⟩ := List.mem_iff_getElem.1 h
        exact HNO.out j hj (by omega) e
      have hin : i = L.length := by omega
      have hlt2 : ¬ (i : Int) < (L.length : Int) := by omega
      clear hin
      go_wp2_with fail
      go_ret
      refine ⟨⟨_, rfl, ?_⟩, rfl⟩
      exact ⟨fun h => by omega, fun h => absurd h HM.out⟩

theorem implContainsInts (B : Nat) (v : Value) (L : List Int) (x : Int) (w : World) (ho : w.ownsRow B 3 1 v L.length (ints L)) (hn : L.length ≤ 1048576) :
    Calls Try.prog 63 #[v, .int .i64 x] w fun e w' => e = .returned (.bool (decide (x ∈ L))) ∧ w = w' := by
  obtain ⟨A, cp, rfl⟩ := own_slice ho
  have HC := Lib.hid (implIndexInts B _ L x w ho hn)
  clear ho
  go_enter Try.func63, Try.ntmps63
  go_wp2_with fail
  refine HC.out.mono ?_
  rintro e w' ⟨⟨q, rfl, hq⟩, rfl⟩
  have HQ := Lib.hid hq
  clear hq
  go_wp2_with fail
  go_ret
  exact ⟨ret_bool (decide_eq_decide.2 HQ.out), rfl⟩
end Go.Proofs.Ytgfhconcmoepcaa

/- Chapter 10 of the model: BordersOf, PeriodsOf, RootOf, IsPrimitiveWord. Conditions: lengths of at most 2^20. -/
namespace Go.Proofs.Ytgfhconcmoepcaa
open Go.RowKit

theorem cut_lo {P : Program} {t : TypeId} (ht : P.underlying t = some .string) (s : ByteArray) (b : Int) (y : Nat) (w : World) (hb : b = y) (h : y ≤ s.size) :
    (Instr.slice t (.string s) none (some (.int .i64 b)) none).run P w = .ok (.string (s.extract 0 y)) w := by
  subst hb
  rw [run_slice_string_to_if (P := P) w t s .i64 (y : Int) ht, if_pos (by omega)]
  rfl
theorem cut_hi {P : Program} {t : TypeId} (ht : P.underlying t = some .string) (s : ByteArray) (b : Int) (y : Nat) (w : World) (hb : b = y) (h : y ≤ s.size) :
    (Instr.slice t (.string s) (some (.int .i64 b)) none none).run P w = .ok (.string (s.extract y s.size)) w := by
  subst hb
  rw [run_slice_string_from_if (P := P) w t s .i64 (y : Int) ht, if_pos (by omega)]
  rfl

set_option maxRecDepth 100000 in
set_option maxHeartbeats 1000000 in
theorem specBordersOf (s : ByteArray) (w : World) (_ : s.size ≤ 1048576) :
    Calls Try.prog 43 #[.string s] w fun e w' => ∃ v, e = .returned v ∧ w'.ownsRow w.heap.size 3 1 v (boR s).length (ints (boR s)) ∧ Below w.heap.size w w' := by
  obtain ⟨i0, hi0, hz0, hz1, hz2⟩ := info_parts int_info
  cases hw : wordB s
  · have HW := Lib.hid hw
    have hv : boR s = [] := if_neg (by rw [hw]; decide)
    rw [hv]
    clear hw hv
    go_enter Try.func43, Try.ntmps43
    go_wp2_with fail
    refine (specWordOk s _).mono ?_
    rintro e w' ⟨rfl, rfl⟩
    rw [HW.out]
    go_wp2_with fail
    go_ret
    exact ⟨_, rfl, World.ownsRow_nil _ _ _ _, Below.refl _ _⟩
  have HW := Lib.hid hw
  have h4 := word_size hw
  have HV : Hid (boR s = boTo s (s.size - 1)) := if_pos hw
  clear hw
  go_enter Try.func43, Try.ntmps43
  go_wp2_with fail
  refine (specWordOk s _).mono ?_
  rintro e w' ⟨rfl, rfl⟩
  rw [HW.out]
  go_wp2_with fail
  go_loopw [3, 4] (fun o i w' => ∃ k : Nat, k ≤ s.size - 1 ∧ i = .int .i64 ((k : Int) + 1) ∧ (∃ A cp, o = .slice A (boTo s k).length cp) ∧ w'.ownsRow w.heap.size 3 1 o (boTo s k).length (ints (boTo s k)) ∧ Below w.heap.size w w') (fun _ i _ => s.size + 1 - (intOf i).toNat)
  case atStart => exact ⟨0, by omega, rfl, ⟨_, _, rfl⟩, World.ownsRow_made w #[] 0 (Nat.le_refl _) (by simp [maxLen]) (by simp), (Below.refl _ _).alloc (Nat.le_refl _) _⟩
  case round =>
    obtain ⟨k, hk, rfl, ⟨A, cp, rfl⟩, ho, hb⟩ := hrel
    have HO := Lib.hid ho
    have HB := Lib.hid hb
    have hbl := boTo_len s k
    clear ho hb
    by_cases hlt : k + 1 < s.size
    · have e1 : IntKind.i64.wrap ((s.size : Int) - ((k : Int) + 1)) = ((s.size - (k + 1) : Nat) : Int) := by rw [IntWalk.i64_in _ (by omega)]; omega
      have hlo : ∀ w : World, (Instr.slice 9 (.string s) none (some (.int .i64 ((k : Int) + 1))) none).run Try.prog w = .ok (.string (s.extract 0 (k + 1))) w := fun w => cut_lo Try.underlying9 s _ (k + 1) w (by omega) (by omega)
      have hhi : ∀ w : World, (Instr.slice 9 (.string s) (some (.int .i64 ((s.size - (k + 1) : Nat) : Int))) none none).run Try.prog w = .ok (.string (s.extract (s.size - (k + 1)) s.size)) w := fun w => cut_hi Try.underlying9 s _ (s.size - (k + 1)) w rfl (by omega)
      have hlt2 : (k : Int) + 1 < (s.size : Int) := by omega
      cases hbb : borB s (k + 1)
      · have HN := Lib.hid (boTo_no hbb)
        have bq := ne_bytes (show s.extract 0 (k + 1) ≠ s.extract (s.size - (k + 1)) s.size from fun e => by rw [(borB_iff s (k + 1)).2 e] at hbb; cases hbb)
        clear hbb
        generalize s.extract 0 (k + 1) = x1 at hlo bq
        generalize s.extract (s.size - (k + 1)) s.size = x2 at hhi bq
        go_wp2_with fail
        go_quiet (fail)
        go_wp2_with fail
        go_roundw
        case rel => exact ⟨k + 1, by omega, by go_num, ⟨A, cp, by rw [HN.out]⟩, by rw [HN.out]; exact HO.out, below_drewN HB.out _⟩
        case measure => simp [intOf]; omega
      · have HY := Lib.hid (boTo_yes hbb)
        have bq := eq_bytes ((borB_iff s (k + 1)).1 hbb)
        have hbz := HB.out.size
        clear hbb
        generalize s.extract 0 (k + 1) = x1 at hlo bq
        generalize s.extract (s.size - (k + 1)) s.size = x2 at hhi bq
        go_wp2_with fail
        go_quiet (fail)
        have HO2 := Lib.hid (show (wr.drewN nq).ownsRow w.heap.size 3 1 (.slice A (boTo s k).length cp) (boTo s k).length (ints (boTo s k)) from HO.out)
        go_wp2_with (at_builtin
                     refine wpList_append1 (wr.drewN nq) rfl (.tmp 25) (.tmp 27) _ rfl w.heap.size 3 i0 _ 8 Try.underlying24 hi0 hz0 hz1 hz2 rfl (.slice A (boTo s k).length cp) (boTo s k).length (ints (boTo s k)) rfl HO2.out (.int .i64 ((k : Int) + 1)) rfl rfl (by unfold maxLen; omega) (by omega) hbz ?_
                     intro v' w1 hown1 hbel1)
        have ho' : w1.ownsRow w.heap.size 3 1 v' (boTo s (k + 1)).length (ints (boTo s (k + 1))) := by
          rw [HY.out, List.length_append, ints_snoc]
          exact hown1
        obtain ⟨A5, cp5, rfl⟩ := own_slice ho'
        go_roundw
        case rel => exact ⟨k + 1, by omega, by go_num, ⟨A5, cp5, by rw [HY.out, List.length_append]⟩, ho', (below_drewN HB.out nq).trans hbel1⟩
        case measure => simp [intOf]; omega
    · have hlt2 : ¬ (k : Int) + 1 < (s.size : Int) := by omega
      have hk1 : k = s.size - 1 := by omega
      have HV2 : Hid (boR s = boTo s k) := by show _ = _; rw [HV.out, hk1]
      clear hk1
      go_wp2_with fail
      go_ret
      exact ⟨_, rfl, by rw [HV2.out]; exact HO.out, HB.out⟩
set_option maxRecDepth 100000 in
set_option maxHeartbeats 1000000 in
theorem specPeriodsOf (s : ByteArray) (w : World) (_ : s.size ≤ 1048576) :
    Calls Try.prog 47 #[.string s] w fun e w' => ∃ v, e = .returned v ∧ w'.ownsRow w.heap.size 3 1 v (peR s).length (ints (peR s)) ∧ Below w.heap.size w w' := by
  obtain ⟨i0, hi0, hz0, hz1, hz2⟩ := info_parts int_info
  cases hw : wordB s
  · have HW := Lib.hid hw
    have hv : peR s = [] := if_neg (by rw [hw]; decide)
    rw [hv]
    clear hw hv
    go_enter Try.func47, Try.ntmps47
    go_wp2_with fail
    refine (specWordOk s _).mono ?_
    rintro e w' ⟨rfl, rfl⟩
    rw [HW.out]
    go_wp2_with fail
    go_ret
    exact ⟨_, rfl, World.ownsRow_nil _ _ _ _, Below.refl _ _⟩
  have HW := Lib.hid hw
  have h4 := word_size hw
  have HV : Hid (peR s = peTo s s.size) := if_pos hw
  clear hw
  go_enter Try.func47, Try.ntmps47
  go_wp2_with fail
  refine (specWordOk s _).mono ?_
  rintro e w' ⟨rfl, rfl⟩
  rw [HW.out]
  go_wp2_with fail
  go_loopw [3, 4] (fun o i w' => ∃ k : Nat, k ≤ s.size ∧ i = .int .i64 ((k : Int) + 1) ∧ (∃ A cp, o = .slice A (peTo s k).length cp) ∧ w'.ownsRow w.heap.size 3 1 o (peTo s k).length (ints (peTo s k)) ∧ Below w.heap.size w w') (fun _ i _ => s.size + 1 - (intOf i).toNat)
  case atStart => exact ⟨0, by omega, rfl, ⟨_, _, rfl⟩, World.ownsRow_made w #[] 0 (Nat.le_refl _) (by simp [maxLen]) (by simp), (Below.refl _ _).alloc (Nat.le_refl _) _⟩
  case round =>
    obtain ⟨k, hk, rfl, ⟨A, cp, rfl⟩, ho, hb⟩ := hrel
    have HO := Lib.hid ho
    have HB := Lib.hid hb
    have hbl := peTo_len s k
    clear ho hb
    by_cases hlt : k + 1 ≤ s.size
    · have e1 : IntKind.i64.wrap ((s.size : Int) - ((k : Int) + 1)) = ((s.size - (k + 1) : Nat) : Int) := by rw [IntWalk.i64_in _ (by omega)]; omega
      have hlo : ∀ w : World, (Instr.slice 9 (.string s) none (some (.int .i64 ((s.size - (k + 1) : Nat) : Int))) none).run Try.prog w = .ok (.string (s.extract 0 (s.size - (k + 1)))) w := fun w => cut_lo Try.underlying9 s _ (s.size - (k + 1)) w rfl (by omega)
      have hhi : ∀ w : World, (Instr.slice 9 (.string s) (some (.int .i64 ((k : Int) + 1))) none none).run Try.prog w = .ok (.string (s.extract (k + 1) s.size)) w := fun w => cut_hi Try.underlying9 s _ (k + 1) w (by omega) (by omega)
      have hlt2 : (k : Int) + 1 ≤ (s.size : Int) := by omega
      cases hbb : perB s (k + 1)
      · have HN := Lib.hid (peTo_no hbb)
        have bq := ne_bytes (show s.extract 0 (s.size - (k + 1)) ≠ s.extract (k + 1) s.size from fun e => by rw [(perB_iff s (k + 1)).2 ((per_cut hlt).1 e)] at hbb; cases hbb)
        clear hbb
        generalize s.extract 0 (s.size - (k + 1)) = x1 at hlo bq
        generalize s.extract (k + 1) s.size = x2 at hhi bq
        go_wp2_with fail
        go_quiet (fail)
        go_wp2_with fail
        go_roundw
        case rel => exact ⟨k + 1, by omega, by go_num, ⟨A, cp, by rw [HN.out]⟩, by rw [HN.out]; exact HO.out, below_drewN HB.out _⟩
        case measure => simp [intOf]; omega
      · have HY := Lib.hid (peTo_yes hbb)
        have bq := eq_bytes ((per_cut hlt).2 ((perB_iff s (k + 1)).1 hbb))
        have hbz := HB.out.size
        clear hbb
        generalize s.extract 0 (s.size - (k + 1)) = x1 at hlo bq
        generalize s.extract (k + 1) s.size = x2 at hhi bq
        go_wp2_with fail
        go_quiet (fail)
        have HO2 := Lib.hid (show (wr.drewN nq).ownsRow w.heap.size 3 1 (.slice A (peTo s k).length cp) (peTo s k).length (ints (peTo s k)) from HO.out)
        go_wp2_with (at_builtin
                     refine wpList_append1 (wr.drewN nq) rfl (.tmp 25) (.tmp 27) _ rfl w.heap.size 3 i0 _ 8 Try.underlying24 hi0 hz0 hz1 hz2 rfl (.slice A (peTo s k).length cp) (peTo s k).length (ints (peTo s k)) rfl HO2.out (.int .i64 ((k : Int) + 1)) rfl rfl (by unfold maxLen; omega) (by omega) hbz ?_
                     intro v' w1 hown1 hbel1)
        have ho' : w1.ownsRow w.heap.size 3 1 v' (peTo s (k + 1)).length (ints (peTo s (k + 1))) := by
          rw [HY.out, List.length_append, ints_snoc]
          exact hown1
        obtain ⟨A5, cp5, rfl⟩ := own_slice ho'
        go_roundw
        case rel => exact ⟨k + 1, by omega, by go_num, ⟨A5, cp5, by rw [HY.out, List.length_append]⟩, ho', (below_drewN HB.out nq).trans hbel1⟩
        case measure => simp [intOf]; omega
    · have hlt2 : ¬ (k : Int) + 1 ≤ (s.size : Int) := by omega
      have hk1 : k = s.size := by omega
      have HV2 : Hid (peR s = peTo s k) := by show _ = _; rw [HV.out, hk1]
      clear hk1
      go_wp2_with fail
      go_ret
      exact ⟨_, rfl, by rw [HV2.out]; exact HO.out, HB.out⟩

theorem rt_yes {s : ByteArray} {p : Nat} (h1 : 1 ≤ p) (h2 : p < s.size) (h : RootAt s p) (hno : ∀ q, 1 ≤ q → q < p → ¬ RootAt s q) : rtN s = p :=
  firstP_eq _ _ _ h1 (by omega) (fun r hr1 hr2 => hno r hr1 hr2) h
theorem rt_self {s : ByteArray} (h1 : 1 ≤ s.size) (hno : ∀ q, 1 ≤ q → q < s.size → ¬ RootAt s q) : rtN s = s.size := by
  have hr : RootAt s s.size := ⟨Nat.mod_self _, fun i hi => absurd hi (by omega)⟩
  exact firstP_eq _ _ _ h1 (by omega) (fun r hr1 hr2 => hno r hr1 hr2) hr

set_option maxRecDepth 100000 in
set_option maxHeartbeats 1000000 in
theorem specRootOf (s : ByteArray) (w : World) (_ : s.size ≤ 1048576) :
    Calls Try.prog 48 #[.string s] w fun e w' => e = .returned (.tuple #[.string (rtR s), .int .i64 (rtK s)]) ∧ Below w.heap.size w w' := by
  cases hw : wordB s
  · have HW := Lib.hid hw
    have hk : rtOk s = false := by unfold rtOk; rw [hw]; rfl
    have h1 : rtR s = ⟨#[]⟩ := if_neg (by rw [hk]; decide)
    have h2 : rtK s = 0 := if_neg (by rw [hk]; decide)
    rw [h1, h2]
    clear hw h1 h2 hk
    go_enter Try.func48, Try.ntmps48
    go_wp2_with fail
    refine (specWordOk s _).mono ?_
    rintro e w' ⟨rfl, rfl⟩
    rw [HW.out]
    go_wp2_with fail
    go_ret2
    exact ⟨rfl, Below.refl _ _⟩
  have HW := Lib.hid hw
  have h4 := word_size hw
  by_cases h0 : s.size = 0
  · have hk : rtOk s = false := by unfold rtOk; rw [decide_eq_false (show ¬ 1 ≤ s.size by omega), Bool.and_false]
    have h1 : rtR s = ⟨#[]⟩ := if_neg (by rw [hk]; decide)
    have h2 : rtK s = 0 := if_neg (by rw [hk]; decide)
    have hem : s.toList.isEmpty = true := by
      rw [ByteArray.toList_eq]
      cases e : s.data.toList with
      | nil => rfl
      | cons a l => have hl : s.data.toList.length = s.size := by simp
                    rw [e, h0] at hl; cases hl
    rw [h1, h2]
    clear hw h1 h2 hk h0
    go_enter Try.func48, Try.ntmps48
    go_wp2_with fail
    refine (specWordOk s _).mono ?_
    rintro e w' ⟨rfl, rfl⟩
    rw [HW.out]
    go_wp2_with fail
    go_ret2
    exact ⟨rfl, Below.refl _ _⟩
  have hem : s.toList.isEmpty = false := by
    rw [ByteArray.toList_eq]
    cases e : s.data.toList with
    | nil => have hl : s.data.toList.length = s.size := by simp
             rw [e] at hl; exact absurd hl.symm h0
    | cons a l => rfl
  have hk : rtOk s = true := by unfold rtOk; rw [hw, decide_eq_true (show 1 ≤ s.size by omega)]; rfl
  have HV : Hid (∀ p, rtN s = p → rtR s = s.extract 0 p ∧ rtK s = ((s.size / p : Nat) : Int)) := fun p e => by subst e; exact ⟨if_pos hk, if_pos hk⟩
  have HWH : Hid (s.extract 0 s.size = s) := by
    show _ = _
    apply bytes_ext
    rw [ByteArray.toList_eq, ByteArray.toList_eq, ByteArray.data_extract, Array.toList_extract, List.extract_eq_take_drop, List.drop_zero, Nat.sub_zero, List.take_of_length_le (by simp)]
  clear hw hk
  generalize rtR s = r1 at HV ⊢
  generalize rtK s = r2 at HV ⊢
  go_enter Try.func48, Try.ntmps48
  go_wp2_with fail
  refine (specWordOk s _).mono ?_
  rintro e w' ⟨rfl, rfl⟩
  rw [HW.out]
  go_wp2_with fail
  go_loopw [4] (fun i w' => ∃ k : Nat, 1 ≤ k ∧ k ≤ s.size ∧ i = .int .i64 (k : Int) ∧ (∀ q, 1 ≤ q → q < k → ¬ RootAt s q) ∧ Below w.heap.size w w') (fun i _ => s.size + 1 - (intOf i).toNat)
  case atStart => exact ⟨1, Nat.le_refl _, by omega, rfl, fun q a b => by omega, Below.refl _ _⟩
  case round =>
    obtain ⟨k, hk1, hk, rfl, hno, hb⟩ := hrel
    have HNO := Lib.hid hno
    have HB := Lib.hid hb
    clear hno hb
    by_cases hlt : k < s.size
    · have e1 : IntKind.i64.wrap ((s.size : Int) - (k : Int)) = ((s.size - k : Nat) : Int) := by rw [IntWalk.i64_in _ (by omega)]; omega
      have HTM : Hid ((s.size : Int).tmod (k : Int) = ((s.size % k : Nat) : Int)) := by show _ = _; rw [Int.tmod_eq_emod_of_nonneg (by omega)]; omega
      have HTD : Hid ((s.size : Int).tdiv (k : Int) = ((s.size / k : Nat) : Int)) := by show _ = _; rw [Int.tdiv_eq_ediv_of_nonneg (by omega)]; omega
      have hlo : ∀ w : World, (Instr.slice 9 (.string s) none (some (.int .i64 ((s.size - k : Nat) : Int))) none).run Try.prog w = .ok (.string (s.extract 0 (s.size - k))) w := fun w => cut_lo Try.underlying9 s _ (s.size - k) w rfl (by omega)
      have hhi : ∀ w : World, (Instr.slice 9 (.string s) (some (.int .i64 (k : Int))) none none).run Try.prog w = .ok (.string (s.extract k s.size)) w := fun w => cut_hi Try.underlying9 s _ k w rfl (by omega)
      have hre : ∀ w : World, (Instr.slice 9 (.string s) none (some (.int .i64 (k : Int))) none).run Try.prog w = .ok (.string (s.extract 0 k)) w := fun w => cut_lo Try.underlying9 s _ k w rfl (by omega)
      have hk0 : ¬ k = 0 := by omega
      have hk0' : ¬ (k : Int) = 0 := by omega
      obtain ⟨D, hD⟩ : ∃ D, s.size / k = D := ⟨_, rfl⟩
      have hDl : D ≤ 400 := by have := Nat.div_le_self s.size k; omega
      have htd : (s.size : Int).tdiv (k : Int) = (D : Int) := by rw [HTD.out, hD]
      have HDD := Lib.hid hD
      have e2 : IntKind.i64.wrap (D : Int) = (D : Int) := IntWalk.i64_in _ (by omega)
      clear hD
      by_cases hmod : s.size % k = 0
      · have htm : (s.size : Int).tmod (k : Int) = 0 := by rw [HTM.out, hmod]; rfl
        have HMD := Lib.hid hmod
        clear hmod
        by_cases hper : PerAt s k
        · have bq := eq_bytes ((per_cut hk).2 hper)
          have HR := Lib.hid (HV.out k (rt_yes hk1 hlt ⟨HMD.out, hper⟩ HNO.out))
          clear hper
          go_wp2_with fail
          go_quiet (fail)
          go_wp2_with fail
          go_quiet (fail)
          go_wp2_with fail
          go_ret2
          exact ⟨by rw [HR.out.1, HR.out.2, HDD.out]; rfl, below_drewN (below_drewN HB.out _) _⟩
        · have bq := ne_bytes (fun e => hper ((per_cut hk).1 e))
          have HN : Hid (¬ RootAt s k) := fun h => hper h.2
          clear hper
          go_wp2_with fail
          go_quiet (fail)
          go_wp2_with fail
          go_roundw
          case rel => exact ⟨k + 1, by omega, by omega, by go_num, fun q a b => by
            by_cases e : q = k
            · subst e; exact HN.out
            · exact HNO.out q a (by omega), below_drewN HB.out _⟩
          case measure => simp [intOf]; omega
      · have htm : (s.size : Int).tmod (k : Int) = ((s.size % k : Nat) : Int) := HTM.out
        have hmz : decide (((s.size % k : Nat) : Int) = 0) = false := by simp; omega
        have hmz2 : (((s.size % k : Nat) : Int) == 0) = false := by simp; omega
        have HN : Hid (¬ RootAt s k) := fun h => hmod h.1
        clear hmod
        generalize s.size % k = R at htm hmz hmz2
        go_wp2_with fail
        go_quiet (fail)
        go_wp2_with fail
        go_roundw
        case rel => exact ⟨k + 1, by omega, by omega, by go_num, fun q a b => by
          by_cases e : q = k
          · subst e; exact HN.out
          · exact HNO.out q a (by omega), below_drewN HB.out _⟩
        case measure => simp [intOf]; omega
    · have hks : k = s.size := by omega
      subst hks
      have HR := Lib.hid (HV.out s.size (rt_self hk1 HNO.out))
      have HD1 : Hid (s.size / s.size = 1) := Nat.div_self (by omega)
      go_wp2_with fail
      go_ret2
      exact ⟨by rw [HR.out.1, HR.out.2, HD1.out, HWH.out]; rfl, HB.out⟩
end Go.Proofs.Ytgfhconcmoepcaa
