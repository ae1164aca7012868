/- Texts put together. -/
import Derived.Test.YtfcbfflkajlhnaaMgT31
import Derived.Test.YtfcbfflkajlhnaaMgT9
import Derived.Test.YtfcbfflkajlhnaaMgT10
import Derived.Test.YtfcbfflkajlhnaaChecked
import Derived.Test.YtfcbfflkajlhnaaMgT2
import Derived.Deep.QuietTactic
import Derived.BigQuiet
/- FixedFactors of the program. Conditions: lengths of at most 2^20. -/
namespace Go.Proofs.Ytfcbfflkajlhnaa
open Go.RowKit

/-- the parts of n letters that begin at the first indexes -/
def pieces (s : ByteArray) (n : Nat) : Nat → List ByteArray
  | 0 => []
  | i + 1 => pieces s n i ++ [s.extract i (i + n)]
theorem pieces_length (s : ByteArray) (n : Nat) : ∀ i, (pieces s n i).length = i
  | 0 => rfl
  | i + 1 => by unfold pieces; rw [List.length_append, pieces_length s n i]; rfl
theorem pieces_mem (s : ByteArray) (n : Nat) (x : ByteArray) : ∀ i, x ∈ pieces s n i ↔ ∃ j, j < i ∧ x = s.extract j (j + n)
  | 0 => by simp [pieces]
  | i + 1 => by
    unfold pieces
    rw [List.mem_append, pieces_mem s n x i, List.mem_singleton]
    constructor
    · rintro (⟨j, a, b⟩ | e)
      · exact ⟨j, by omega, b⟩
      · exact ⟨i, by omega, e⟩
    · rintro ⟨j, a, b⟩
      by_cases e : j = i
      · subst e; exact .inr b
      · exact .inl ⟨j, by omega, b⟩
theorem pieces_sorted (s : ByteArray) (n m : Nat) : (Lib.compact (((pieces s n m).map (·.data.toList)).mergeSort fun x y => decide (x ≤ y))).map toBA = facTo s n m :=
  sorted_eq (facTo_asc s n m) fun x => by rw [pieces_mem, facTo_mem]

theorem facNo (l : List ByteArray) (t : ByteArray) (n : Int) (h : facOk l t n = false) {w w' : World} (hb : Below w.heap.size w w') : ∃ v', Ending.returned (.slice none 0 0) = .returned v' ∧ w'.ownsRow w.heap.size 9 1 v' (facR l t n).length (strs (facR l t n)) ∧ Below w.heap.size w w' := by
  have e : facR l t n = [] := if_neg (by rw [h]; decide)
  rw [e]
  exact ⟨_, rfl, World.ownsRow_nil _ _ _ _, hb⟩

set_option maxRecDepth 100000 in
set_option maxHeartbeats 1000000 in
theorem implFixedFactors (l : List ByteArray) (v : Value) (t : ByteArray) (n : Int) (w : World) (h : Lst w v (strs l)) (hz : ∀ x ∈ l, x.size ≤ 1048576) (hn : l.length ≤ 1048576) (ht : t.size ≤ 1048576) :
    Calls Try.prog 32 #[.agg #[v], .string t, .int .i64 n] w fun e w' => ∃ v', e = .returned v' ∧ w'.ownsRow w.heap.size 9 1 v' (facR l t n).length (strs (facR l t n)) ∧ Below w.heap.size w w' := by
  obtain ⟨i0, hi0, hz0, hz1, hz2⟩ := info_parts str_info
  obtain ⟨A, cp, rfl⟩ := lst_slice h
  rw [strs_length] at h ⊢
  have hb0 : Below w.heap.size w (w.alloc (.cells #[.slice A l.length cp] 25)) := (Below.refl _ _).alloc (Nat.le_refl _) _
  have HL := Lib.hid (h.below hb0)
  have HZ := Lib.hid hz
  have HB0 := Lib.hid hb0
  clear h hz hb0
  by_cases h0 : growOk l t = true
  · have HFO : Hid (fixOk l t 400 = true) := by show fixOk l t 400 = true; unfold fixOk; rw [h0]; rfl
    by_cases hin : 1 ≤ n ∧ n ≤ 8
    · obtain ⟨m, rfl⟩ : ∃ m : Nat, n = m := ⟨n.toNat, by omega⟩
      have hm1 : 1 ≤ m := by omega
      have hm8 : m ≤ 8 := by omega
      obtain ⟨hN, h1, hg⟩ := grow_parts h0
      have hsz : (⟨(fixL l (letN t) 400).toArray⟩ : ByteArray).size = 400 := by
        show (fixL l (letN t) 400).toArray.size = 400
        simp [fixL_length h1 hN hg]
      have HR : Hid (fixR l t 400 = ⟨(fixL l (letN t) 400).toArray⟩) := if_pos HFO.out
      have HV : Hid (facR l t m = facTo ⟨(fixL l (letN t) 400).toArray⟩ m (401 - m)) := by
        have d1 : decide ((1 : Int) ≤ (m : Int)) = true := by simp; omega
        have d2 : decide ((m : Int) ≤ (8 : Int)) = true := by simp; omega
        have e : facOk l t m = true := by unfold facOk; rw [h0, d1, d2]; rfl
        exact if_pos e
      have e1 : decide ((m : Int) < 1) = false := by simp; omega
      have e2 : decide ((8 : Int) < (m : Int)) = false := by simp; omega
      have e3 : ¬ (8 < m) := by omega
      have e4 : decide (8 < m) = false := by simp; omega
      have e5 : decide (m < 1) = false := by simp; omega
      have e6 : ¬ m < 1 := by omega
      have HS : Hid (∃ s : ByteArray, s = ⟨(fixL l (letN t) 400).toArray⟩) := ⟨_, rfl⟩
      obtain ⟨s, hs⟩ := HS.out
      rw [← hs] at hsz HR HV
      clear hs HS h0 hin hg
      go_enter Try.func32, Try.ntmps32
      go_wp2_with fail
      refine (implFixedPoint l _ t 400 _ HL.out HZ.out hn ht).mono ?_
      rintro e w1 ⟨rfl, hb1⟩
      rw [HFO.out, HR.out]
      have HB1 : Hid (Below w.heap.size w w1) := HB0.out.trans (hb1.mono (by simp))
      clear hb1
      go_wp2_with fail
      have HSZ := Lib.hid hsz
      go_loopw [9, 32] (fun o ix w' => ∃ i : Nat, i ≤ 401 - m ∧ ix = .int .i64 (i : Int) ∧ w'.ownsRow w1.heap.size 9 1 o i (strs (pieces s m i)) ∧ Below w1.heap.size w1 w') (fun _ ix _ => 401 - m - (intOf ix).toNat)
      case atStart => exact ⟨0, by omega, rfl, World.ownsRow_nil _ _ _ _, Below.refl _ _⟩
      case round =>
        obtain ⟨i, hi, rfl, ho, hb⟩ := hrel
        obtain ⟨A3, cp3, rfl⟩ := own_slice ho
        have HO := Lib.hid ho
        have HB := Lib.hid hb
        have hszb := hb.size
        clear ho hb
        by_cases hlt : i < 401 - m
        · have dlt : (i : Int) < 400 - (m : Int) + 1 := by omega
          have hsl : ∀ w : World, (Instr.slice 9 (.string s) (some (.int .i64 (i : Int))) (some (.int .i64 ((i : Int) + (m : Int)))) none).run Try.prog w = .ok (.string (s.extract i (i + m))) w := fun w => slice_at Try.underlying9 s i m w (by omega)
          clear hsz
          go_wp2_with (at_builtin
                       refine wpList_append1 _ rfl (.tmp 35) (.tmp 42) _ rfl w1.heap.size 9 i0 _ 16 Try.underlying23 hi0 hz0 hz1 hz2 rfl _ i _ rfl HO.out (.string (s.extract i (i + m))) rfl rfl (by unfold maxLen; omega) (by omega) hszb ?_
                       intro v' w2 hown2 hbel2)
          go_roundw
          case rel =>
            refine ⟨i + 1, by omega, by go_num, ?_, HB.out.trans hbel2⟩
            unfold pieces
            rw [strs_snoc]
            exact hown2
          case measure => simp [intOf]; omega
        · have hii : i = 401 - m := by omega
          have dlt : ¬ (i : Int) < 400 - (m : Int) + 1 := by omega
          obtain ⟨g, cap, he, hcap⟩ := own_some HO.out (by omega)
          injection he with hA _ hc
          subst hA; subst hc
          have hlt3 := own_lt HO.out
          have hss : ((pieces s m i).map (·.data.toList)).length = i := by rw [List.length_map, pieces_length]
          have HSORT := (Try.slices_Sort_string g 0 cp3 ((pieces s m i).map (·.data.toList)) wr (own_holds HO.out) hlt3.2 (by omega))
          rw [hss] at HSORT
          have HS := Lib.hid HSORT
          have HII := Lib.hid hii
          have HHS := Lib.hid hss
          clear HSORT hii hss hsz
          go_wp2_with fail
          refine HS.out.mono ?_
          rintro e w4 ⟨rfl, q4, os4, rfl⟩
          obtain ⟨zs, hzs⟩ : ∃ zs, ((pieces s m i).map (·.data.toList)).mergeSort (fun x y => decide (x ≤ y)) = zs := ⟨_, rfl⟩
          have hzl : zs.length = i := by rw [← hzs, List.length_mergeSort, HHS.out]
          rw [hzs]
          obtain ⟨ho4, hb4⟩ := own_put HO.out zs hzl q4 os4
          obtain ⟨W4, hW4⟩ : ∃ W4, Sort.grow (Sort.putRow encStr (Sort.ahead wr q4) g 0 zs.toArray) os4 = W4 := ⟨_, rfl⟩
          rw [hW4] at ho4 hb4 ⊢
          have hzz : (zs.map toBA).map (·.data.toList) = zs := by
            rw [List.map_map]
            exact List.map_id' zs
          have hH4 := own_holds ho4
          rw [hzz] at hH4
          have HCOM := Try.slices_Compact_string g 0 cp3 zs W4 hH4 (by omega) (by omega)
          rw [hzl] at HCOM
          have hcl := Lib.compact_length_le zs
          have HC := Lib.hid HCOM
          have HO4 := Lib.hid ho4
          have HB4 : Hid (Below w1.heap.size w1 W4) := HB.out.trans hb4
          have HZS := Lib.hid hzs
          have HZL := Lib.hid hzl
          have HFIN : Hid ((Lib.compact zs).map toBA = facTo s m i) := by
            show _ = _
            rw [← hzs]
            exact pieces_sorted s m i
          have HCL := Lib.hid hcl
          clear hW4 ho4 hb4 hzz hH4 HCOM hzs hzl hcl
          generalize Lib.compact zs = cs at HC HFIN HCL
          go_wp2_with fail
          refine HC.out.mono ?_
          rintro e w5 ⟨rfl, q5, rfl⟩
          have hcl := HCL.out
          have hzl := HZL.out
          obtain ⟨ho5, hb5⟩ := own_put HO4.out (cs ++ List.replicate (i - cs.length) []) (by rw [List.length_append, List.length_replicate]; omega) q5 #[]
          rw [Sort.grow_empty] at ho5 hb5
          obtain ⟨W5, hW5⟩ : ∃ W5, Sort.putRow encStr (Sort.ahead W4 q5) g 0 (cs ++ List.replicate (i - cs.length) []).toArray = W5 := ⟨_, rfl⟩
          rw [hW5] at ho5 hb5 ⊢
          have ho6 := own_less ho5 (m := cs.length) (by omega)
          have htk : (strs ((cs ++ List.replicate (i - cs.length) []).map toBA)).take cs.length = strs (facTo s m i) := by
            rw [List.map_append, strs, List.map_append, List.take_left' (by simp), HFIN.out]
            rfl
          rw [htk] at ho6
          have hlen : cs.length = (facR l t m).length := by rw [HV.out, ← HII.out, ← HFIN.out, List.length_map]
          have hfac : facTo s m i = facR l t m := by rw [HV.out, HII.out]
          rw [hlen, hfac] at ho6
          have HB5 : Hid (Below w.heap.size w W5) := HB1.out.trans ((HB4.out.trans hb5).mono HB1.out.size)
          have HO6 := Lib.hid (own_mono ho6 HB1.out.size)
          rw [hlen]
          clear hW5 ho5 hb5 ho6 htk hlen hfac hcl hzl
          go_wp2_with fail
          go_ret
          exact ⟨_, rfl, HO6.out, HB5.out⟩
    · have d1 : (decide ((1 : Int) ≤ n) && decide (n ≤ (8 : Int))) = false := by simp; omega
      have HNO : Hid (facOk l t n = false) := by show facOk l t n = false; unfold facOk; rw [d1, Bool.and_false]
      clear h0 d1
      by_cases hneg : n < 1
      · have e1 : decide (n < 1) = true := by simpa using hneg
        clear hin
        go_enter Try.func32, Try.ntmps32
        go_wp2_with fail
        refine (implFixedPoint l _ t 400 _ HL.out HZ.out hn ht).mono ?_
        rintro e w1 ⟨rfl, hb1⟩
        rw [HFO.out]
        have HB1 : Hid (Below w.heap.size w w1) := HB0.out.trans (hb1.mono (by simp))
        clear hb1
        go_wp2_with fail
        go_ret
        exact facNo l t n HNO.out HB1.out
      · have hbig : 8 < n := by omega
        have e1 : decide (n < 1) = false := by simpa using hneg
        have e2 : decide (8 < n) = true := by simpa using hbig
        clear hin
        go_enter Try.func32, Try.ntmps32
        go_wp2_with fail
        refine (implFixedPoint l _ t 400 _ HL.out HZ.out hn ht).mono ?_
        rintro e w1 ⟨rfl, hb1⟩
        rw [HFO.out]
        have HB1 : Hid (Below w.heap.size w w1) := HB0.out.trans (hb1.mono (by simp))
        clear hb1
        go_wp2_with fail
        go_ret
        exact facNo l t n HNO.out HB1.out
  · have h0' : growOk l t = false := by simpa using h0
    have HFO : Hid (fixOk l t 400 = false) := by show fixOk l t 400 = false; unfold fixOk; rw [h0']; rfl
    have HNO : Hid (facOk l t n = false) := by show facOk l t n = false; unfold facOk; rw [h0']; rfl
    clear h0 h0'
    go_enter Try.func32, Try.ntmps32
    go_wp2_with fail
    refine (implFixedPoint l _ t 400 _ HL.out HZ.out hn ht).mono ?_
    rintro e w1 ⟨rfl, hb1⟩
    rw [HFO.out]
    have HB1 : Hid (Below w.heap.size w w1) := HB0.out.trans (hb1.mono (by simp))
    clear hb1
    go_wp2_with fail
    go_ret
    exact facNo l t n HNO.out HB1.out
end Go.Proofs.Ytfcbfflkajlhnaa

/- The model's draws: l01New makes a cursor over the bytes, l01Byte gives a number from 0 to 255 and turns the cursor alone. Condition: the bytes are at most 2^20. -/
namespace Go.Proofs.Ytfcbfflkajlhnaa
open Go.RowKit

def bytesV (zs : List Int) : List Value := zs.map (Value.int .u8)
theorem bytesV_length (zs : List Int) : (bytesV zs).length = zs.length := by simp [bytesV]
def IsBytes (zs : List Int) : Prop := zs.length ≤ 1048576 ∧ ∀ z ∈ zs, 0 ≤ z ∧ z ≤ 255
theorem and255 (y : Int) : 0 ≤ bits .and .i64 y 255 ∧ bits .and .i64 y 255 ≤ 255 := by
  have h : (BitVec.ofInt 64 y &&& BitVec.ofInt 64 255).toNat ≤ 255 := by
    rw [BitVec.toNat_and]
    exact Nat.and_le_right
  have e : bits .and .i64 y 255 = IntKind.i64.wrap ((BitVec.ofInt 64 y &&& BitVec.ofInt 64 255).toNat : Int) := rfl
  rw [e, IntWalk.i64_in _ (by omega)]
  omega

theorem Lst.far {w w' : World} {v : Value} {zs : List Int} {g : Nat} (h : Lst w v (bytesV zs)) (hg : w.grownBy w' (some g)) (hne : zs = [] ∨ v.ownBlock ≠ some g) : Lst w' v (bytesV zs) := by
  rcases hne with rfl | hne
  · obtain ⟨A, c, h1, h2, h3, _⟩ := h
    exact ⟨A, c, h1, h2, h3, .inl rfl⟩
  · exact h.grown hg (.inr hne)

/-- the cursor in block g, over the bytes zs that the slice v holds -/
def Cur (w : World) (g : Nat) (v : Value) (zs : List Int) : Prop :=
  ∃ (i : Nat) (h : Int), w.heap[g]? = some (.cells #[v, .int .i64 i, .int .i64 h] 129 (0, 0)) ∧ i ≤ zs.length ∧ Lst w v (bytesV zs) ∧ (zs = [] ∨ v.ownBlock ≠ some g)

theorem Cur.keep {w w' : World} {g : Nat} {v : Value} {zs : List Int} (h : Cur w g v zs) (hk : ∀ b, b < w.heap.size → w'.heap[b]? = w.heap[b]?) : Cur w' g v zs := by
  obtain ⟨i, hh, h1, h2, h3, h4⟩ := h
  have hg : g < w.heap.size := by
    rcases Nat.lt_or_ge g w.heap.size with hl | hl
    · exact hl
    · rw [Array.getElem?_eq_none hl] at h1; cases h1
  refine ⟨i, hh, (hk g hg).trans h1, h2, h3.keep (fun b o u _ hc => ?_), h4⟩
  rw [World.cell?_of_block (w := w) (hk b (World.block_lt_of_cell? w _ hc))]
  exact hc
theorem Cur.below {w w' : World} {g : Nat} {v : Value} {zs : List Int} (h : Cur w g v zs) (hb : Below w.heap.size w w') : Cur w' g v zs := h.keep hb.block

def ByteSaid (g : Nat) (v : Value) (zs : List Int) (w : World) (e : Ending) (w' : World) : Prop := ∃ x : Int, e = .returned (.int .i64 x) ∧ 0 ≤ x ∧ x ≤ 255 ∧ Cur w' g v zs ∧ w.grownBy w' (some g)

theorem row_set {w : World} {g : Nat} {cs : Array Value} {T : TypeId} (hg : w.heap[g]? = some (.cells cs T (0, 0))) (j : Nat) (u : Value) :
    (w.setCell ⟨g, j, none⟩ u).heap[g]? = some (.cells (cs.setIfInBounds j u) T (0, 0)) ∧ w.grownBy (w.setCell ⟨g, j, none⟩ u) (some g) :=
  ⟨heap_setCell_same w g j cs T u hg, ⟨rfl, rfl, rfl, by simp, fun k _ hk => heap_setCell_other w ⟨g, j, none⟩ k u (fun e => hk (by simp [e]))⟩⟩
theorem grown_drewN {a b : World} {row : Option Nat} (h : a.grownBy b row) (n : Nat) : a.grownBy (b.drewN n) row := ⟨h.os, h.tape, h.output, h.size, h.block⟩

set_option maxHeartbeats 1000000 in
theorem l01Byte_any (g : Nat) (v : Value) (zs : List Int) (w : World) (hz : IsBytes zs) (hc : Cur w g v zs) :
    Calls Try.prog 109 #[.pointer (some ⟨g, 0, none⟩)] w (ByteSaid g v zs w) := by
  obtain ⟨i, h, hg, hi, hl, hne⟩ := hc
  obtain ⟨hz1, hz2⟩ := hz
  have c2 : w.cell? ⟨g, 2, none⟩ = some (.int .i64 h) := cell_of_row w g 2 _ _ (0, 0) hg
  have f2 : w.frozen? ⟨g, 2, none⟩ = false := frozen_of_row w g 2 _ _ hg
  have HR := Lib.hid (fun u => row_set hg 2 u)
  have HL := Lib.hid hl
  have HN := Lib.hid hne
  have HZ := Lib.hid hz2
  obtain ⟨A, c, rfl, -, -, -⟩ := hl
  rw [bytesV_length] at HR HL HN ⊢
  clear hg hne hz2
  go_enter Try.func109, Try.ntmps109
  go_wp2_with fail
  generalize wrap64 (wrap64 (h * 6364136223846793005) + 1442695040888963407) = H
  obtain ⟨r1, r2⟩ := HR.out (.int .i64 H)
  have l1 : Lst (w.setCell ⟨g, 2, none⟩ (.int .i64 H)) (.slice A zs.length c) (bytesV zs) := HL.out.far r2 HN.out
  generalize w.setCell ⟨g, 2, none⟩ (.int .i64 H) = w1 at r1 r2 l1 ⊢
  clear c2 f2 HL HR
  have r1' : w1.heap[g]? = some (.cells #[.slice A zs.length c, .int .i64 i, .int .i64 H] 129 (0, 0)) := r1
  have c0 : w1.cell? ⟨g, 0, none⟩ = some (.slice A zs.length c) := cell_of_row w1 g 0 _ _ (0, 0) r1'
  have c1 : w1.cell? ⟨g, 1, none⟩ = some (.int .i64 i) := cell_of_row w1 g 1 _ _ (0, 0) r1'
  have c2 : w1.cell? ⟨g, 2, none⟩ = some (.int .i64 H) := cell_of_row w1 g 2 _ _ (0, 0) r1'
  have f1 : w1.frozen? ⟨g, 1, none⟩ = false := frozen_of_row w1 g 1 _ _ r1'
  have HR := Lib.hid r1'
  have HL := Lib.hid l1
  clear r1 r1' l1
  go_quiet (fail)
  go_wp2_with fail
  obtain ⟨x0, x1⟩ := and255 (bits .xor .i64 (H / 8589934592) (H / 35184372088832))
  generalize bits .and .i64 (bits .xor .i64 (H / 8589934592) (H / 35184372088832)) 255 = x at x0 x1 ⊢
  by_cases hin : i < zs.length
  · obtain ⟨A', c', he, -, -, l2⟩ := HL.out
    replace l2 := l2.resolve_left (by
      intro e
      have := congrArg List.length e
      rw [bytesV_length] at this
      simp only [List.length_nil] at this
      omega)
    obtain ⟨b, off, rfl, l2⟩ := l2
    rw [bytesV_length] at he
    injection he with hA _ _
    subst hA
    have hzi : zs[i]? = some zs[i] := List.getElem?_eq_getElem hin
    obtain ⟨z0, z1⟩ := HZ.out zs[i] (List.getElem_mem hin)
    have g1 : w1.cell? ⟨b, off + i, none⟩ = some (.int .u8 zs[i]) := l2 i _ (by simp [bytesV, hin])
    generalize zs[i] = z at z0 z1 g1
    have e1 : IntKind.i64.wrap (x + z) = x + z := IntWalk.i64_in _ (by omega)
    have e2 : IntKind.i64.wrap z = z := IntWalk.i64_in _ (by omega)
    have HC := Lib.hid hzi
    clear l2 hzi
    go_quiet (fail)
    go_wp2_with fail
    go_quiet (fail)
    go_wp2_with fail
    go_ret
    obtain ⟨y0, y1⟩ := and255 (x + z)
    refine ⟨_, rfl, y0, y1, ⟨i + 1, H, ?_, by omega, ?_, HN.out⟩, ?_⟩
    · exact (row_set (w := World.drewN _ _) HR.out 1 _).1
    · exact Lst.far (w := World.drewN _ _) HL.out (row_set (w := World.drewN _ _) HR.out 1 _).2 HN.out
    · exact grown_trans (grown_drewN r2 _) (row_set (w := World.drewN _ _) HR.out 1 _).2
  · go_quiet (fail)
    go_wp2_with fail
    go_ret
    exact ⟨x, rfl, x0, x1, ⟨i, H, HR.out, hi, HL.out, HN.out⟩, grown_drewN (grown_drewN r2 _) _⟩

theorem Cur.ptr {w : World} {g : Nat} {v : Value} {zs : List Int} (h : Cur w g v zs) : g < w.heap.size := by
  obtain ⟨_, _, h1, _⟩ := h
  rcases Nat.lt_or_ge g w.heap.size with hl | hl
  · exact hl
  · rw [Array.getElem?_eq_none hl] at h1; cases h1

def NewSaid (v : Value) (zs : List Int) (w : World) (e : Ending) (w' : World) : Prop := ∃ g : Nat, e = .returned (.pointer (some ⟨g, 0, none⟩)) ∧ w.heap.size ≤ g ∧ Cur w' g v zs ∧ Below w.heap.size w w'

set_option maxRecDepth 100000 in
set_option maxHeartbeats 1000000 in
theorem l01New_any (v : Value) (zs : List Int) (w : World) (hz : IsBytes zs) (hl : Lst w v (bytesV zs)) :
    Calls Try.prog 108 #[v] w (NewSaid v zs w) := by
  obtain ⟨hz1, hz2⟩ := hz
  have HL := Lib.hid hl
  have HZ := Lib.hid hz2
  obtain ⟨A, c, rfl, -, -, hA⟩ := hl
  rw [bytesV_length] at HL ⊢
  have HA : Hid (∀ k (hk : k < zs.length), ∃ b off, A = some ⟨b, off, none⟩ ∧ b < w.heap.size ∧ w.cell? ⟨b, off + k, none⟩ = some (.int .u8 zs[k])) := by
    intro k hk
    replace hA := hA.resolve_left (by
      intro e
      have := congrArg List.length e
      rw [bytesV_length] at this
      simp only [List.length_nil] at this
      omega)
    obtain ⟨b, off, rfl, l2⟩ := hA
    have hc := l2 k (.int .u8 zs[k]) (by simp [bytesV, hk])
    exact ⟨b, off, rfl, World.block_lt_of_cell? w _ hc, hc⟩
  clear hA hz2
  go_enter Try.func108, Try.ntmps108
  go_wp2_with fail
  go_loop [3, 4] (fun h i => ∃ (k : Nat) (H : Int), k ≤ zs.length ∧ i = .int .i64 k ∧ h = .int .i64 H) (fun _ i => zs.length - (intOf i).toNat)
  case atStart => exact ⟨0, _, by omega, rfl, rfl⟩
  case round =>
    obtain ⟨k, H, hk, rfl, rfl⟩ := hrel
    by_cases hlt : k < zs.length ∧ k < 4000
    · obtain ⟨hlt1, hlt2⟩ := hlt
      obtain ⟨b, off, rfl, -, g1⟩ := HA.out k hlt1
      obtain ⟨z0, z1⟩ := HZ.out zs[k] (List.getElem_mem hlt1)
      generalize zs[k] = z at g1 z0 z1
      have d1 : decide ((k : Int) < zs.length) = true := by simp; omega
      have d2 : decide ((k : Int) < 4000) = true := by simp; omega
      go_wp2_with fail
      go_round
      case rel => exact ⟨k + 1, _, by omega, by go_num, rfl⟩
      case measure => simp [intOf]; omega
    · have hor : ¬ k < zs.length ∨ (k < zs.length ∧ ¬ k < 4000) := by omega
      have hfin : ∀ H : Int, NewSaid (.slice A zs.length c) zs w (.returned (.pointer (some ⟨w.heap.size, 0, none⟩))) (w.alloc (.cells #[.slice A zs.length c, .int .i64 0, .int .i64 H] 129)) := by
        intro H
        refine ⟨w.heap.size, rfl, Nat.le_refl _, ⟨0, H, heap_alloc_new w _, by omega, HL.out.below ((Below.refl _ _).alloc (Nat.le_refl _) _), ?_⟩, (Below.refl _ _).alloc (Nat.le_refl _) _⟩
        by_cases h0 : 0 < zs.length
        · obtain ⟨b, off, rfl, hb, _⟩ := HA.out 0 h0
          refine .inr ?_
          simp only [Value.ownBlock, ne_eq, Option.some.injEq]
          omega
        · exact .inl (List.eq_nil_of_length_eq_zero (by omega))
      have HF := Lib.hid hfin
      clear hfin hlt
      rcases hor with h1 | ⟨h1, h2⟩
      · go_wp2_with fail
        go_ret
        exact HF.out H
      · have d1 : decide ((k : Int) < zs.length) = true := by simp; omega
        have d2 : decide ((k : Int) < 4000) = false := by simp; omega
        go_wp2_with fail
        go_ret
        exact HF.out H
end Go.Proofs.Ytfcbfflkajlhnaa

/- More of the model's draws: l01Below, l01Str, l31New, MakeNum, MakeText: what they give is in range; nothing old turns. Condition: the bytes are at most 2^20. -/
namespace Go.Proofs.Ytfcbfflkajlhnaa
open Go.RowKit

def BelowSaid (g : Nat) (v : Value) (zs : List Int) (n : Int) (w : World) (e : Ending) (w' : World) : Prop := ∃ x : Int, e = .returned (.int .i64 x) ∧ 0 ≤ x ∧ x < n ∧ Cur w' g v zs ∧ w.grownBy w' (some g)
theorem mod_in (x n : Int) (h : 0 < n) : 0 ≤ x % n ∧ x % n < n := ⟨Int.emod_nonneg _ (by omega), Int.emod_lt_of_pos _ h⟩

set_option maxHeartbeats 400000 in
theorem l01Below_small (g : Nat) (v : Value) (zs : List Int) (n : Int) (w : World) (hz : IsBytes zs) (hc : Cur w g v zs) (h0 : 0 < n) (h1 : n ≤ 256) :
    Calls Try.prog 64 #[.pointer (some ⟨g, 0, none⟩), .int .i64 n] w (BelowSaid g v zs n w) := by
  have HB := Lib.hid (l01Byte_any g v zs w hz hc)
  have HM := Lib.hid (fun x => mod_in x n h0)
  clear hz hc
  go_enter Try.func64, Try.ntmps64
  go_wp2_with fail
  refine HB.out.mono ?_
  rintro e w1 ⟨x, rfl, x0, x1, hc1, hg1⟩
  have HC := Lib.hid hc1
  clear hc1
  go_wp2_with fail
  go_ret
  exact ⟨x % n, rfl, (HM.out x).1, (HM.out x).2, HC.out, hg1⟩

def StrSaid (g : Nat) (v : Value) (zs : List Int) (L : List ByteArray) (w : World) (e : Ending) (w' : World) : Prop := ∃ s : ByteArray, s ∈ L ∧ e = .returned (.string s) ∧ Cur w' g v zs ∧ w.grownBy w' (some g)

set_option maxHeartbeats 400000 in
theorem l01Str_any (g : Nat) (v : Value) (zs : List Int) (b : Nat) (L : List ByteArray) (w : World) (hz : IsBytes zs) (hc : Cur w g v zs) (hL : 0 < L.length) (hL2 : L.length ≤ 256) (hb : b ≠ g)
    (hl : ∀ k (hk : k < L.length), w.cell? ⟨b, k, none⟩ = some (.string L[k])) :
    Calls Try.prog 106 #[.pointer (some ⟨g, 0, none⟩), .slice (some ⟨b, 0, none⟩) L.length L.length] w (StrSaid g v zs L w) := by
  have HB := Lib.hid (l01Below_small g v zs L.length w hz hc (by omega) (by omega))
  have HL := Lib.hid hl
  clear hz hc hl
  go_enter Try.func106, Try.ntmps106
  go_wp2_with fail
  refine HB.out.mono ?_
  rintro e w1 ⟨x, rfl, x0, x1, hc1, hg1⟩
  obtain ⟨k, rfl⟩ := Int.eq_ofNat_of_zero_le x0
  have hk : k < L.length := by omega
  have g1 : w1.cell? ⟨b, k, none⟩ = some (.string L[k]) := hg1.cell (HL.out k hk) (by simpa using hb)
  have HC := Lib.hid hc1
  clear hc1
  go_wp2_with fail
  go_ret
  exact ⟨L[k], List.getElem_mem hk, rfl, HC.out, hg1⟩

set_option maxHeartbeats 400000 in
theorem l31New_any (v : Value) (zs : List Int) (n : Int) (w : World) (hz : IsBytes zs) (hl : Lst w v (bytesV zs)) (h0 : 0 ≤ n) (h1 : n ≤ 1048576) :
    Calls Try.prog 63 #[v, .int .i64 n] w (NewSaid v zs w) := by
  have HN := Lib.hid (l01New_any v zs w hz hl)
  have HZ := Lib.hid hz
  obtain ⟨m, rfl⟩ := Int.eq_ofNat_of_zero_le h0
  obtain ⟨A, c, rfl, -, -, -⟩ := hl
  rw [bytesV_length] at HN ⊢
  clear hz
  go_enter Try.func63, Try.ntmps63
  go_wp2_with fail
  refine HN.out.mono ?_
  rintro e w1 ⟨g, rfl, hg, hc1, hb1⟩
  have HC := Lib.hid hc1
  clear hc1
  go_wp2_with fail
  go_loopw [6] (fun i w' => ∃ k : Nat, k ≤ m ∧ i = .int .i64 k ∧ Cur w' g (.slice A zs.length c) zs ∧ Below w.heap.size w w') (fun i _ => m - (intOf i).toNat)
  case atStart => exact ⟨0, by omega, rfl, HC.out, hb1⟩
  case round =>
    obtain ⟨k, hk, rfl, hc, hb⟩ := hrel
    have HK := Lib.hid hc
    clear hc
    by_cases hlt : k < m
    · go_wp2_with fail
      refine (l01Byte_any g _ zs _ HZ.out HK.out).mono ?_
      rintro e w2 ⟨x, rfl, x0, x1, hc2, hg2⟩
      have HC2 := Lib.hid hc2
      clear hc2
      go_wp2_with fail
      go_roundw
      case rel => exact ⟨k + 1, by omega, by go_num, HC2.out, hb.grown hg2 hb.size (fun j hj => by cases hj; exact hg)⟩
      case measure => simp [intOf]; omega
    · go_wp2_with fail
      go_ret
      exact ⟨g, rfl, hg, HK.out, hb⟩

def NumSaid (w : World) (e : Ending) (w' : World) : Prop := ∃ x : Int, e = .returned (.int .i64 x) ∧ 0 ≤ x ∧ x ≤ 65535 ∧ Below w.heap.size w w'

end Go.Proofs.Ytfcbfflkajlhnaa
