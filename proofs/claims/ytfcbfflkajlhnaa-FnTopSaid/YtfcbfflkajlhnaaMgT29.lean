/- Texts put together. -/
import Derived.Test.YtfcbfflkajlhnaaMgT28
import Derived.Test.YtfcbfflkajlhnaaMgT18
import Derived.Test.YtfcbfflkajlhnaaMgT13
import Derived.OwnWalkIn
import Derived.TacticsInMore
import Derived.LoopNIn
import Derived.LoopIn
import Derived.Sort.LoopGhostIn
import Derived.Deep.QuietTactic
import Derived.BigQuiet
import Derived.Shelf.Abstract
import Derived.Maps.AppendAt
/- The letters that come first, again and again: the program's iterator. Condition: the substitution is valid. -/
namespace Go.Proofs.Ytfcbfflkajlhnaa
open Go.RowKit
attribute [local go_sem] Oper.semAt_some

/-- the i-th letter as a byte -/
def encGo (l : List ByteArray) (k i : Nat) : Value := .int .u8 (97 + (goN l k i : Int))

set_option maxRecDepth 100000 in
set_option maxHeartbeats 1000000 in
theorem firstStreams (l : List ByteArray) (k : Nat) (X : Nat → Prop) (N pl ps b off cp : Nat) (w : World) (hl : substB l = true) (hk : k < l.length)
    (hpl : w.cell? ⟨pl, 0, none⟩ = some (.int .u8 (97 + (k : Int)))) (hps : w.cell? ⟨ps, 0, none⟩ = some (.slice (some ⟨b, off, none⟩) l.length cp))
    (hat : ∀ j (_ : j < l.length), w.cell? ⟨b, off + j, none⟩ = some (.string l[j])) (hx1 : ¬ X ps) (hx2 : ¬ X b) :
    Streams Try.prog 126 #[.pointer (some ⟨pl, 0, none⟩), .pointer (some ⟨ps, 0, none⟩)] (encGo l k) X False N w := by
  intro lp J Jx W hW hl1 hl2 hab hy h0
  obtain ⟨hm1, hm4, _⟩ := subst_parts hl
  have c1 := (hW.cell (World.block_lt_of_cell? w _ hpl)).trans hpl
  have c2 := (hW.cell (World.block_lt_of_cell? w _ hps)).trans hps
  have n2 : ps ≠ lp := by have : ps < w.heap.size := World.block_lt_of_cell? w ⟨ps, 0, none⟩ hps; omega
  have HAT : Hid (∀ j (_ : j < l.length), W.cell? ⟨b, off + j, none⟩ = some (.string l[j])) := fun j hj => (hW.cell (World.block_lt_of_cell? w _ (hat j hj))).trans (hat j hj)
  have n3 : b ≠ lp := by have : b < w.heap.size := World.block_lt_of_cell? w ⟨b, off + 0, none⟩ (hat 0 (by omega)); omega
  have HY := Lib.hid hy
  have HC2 := Lib.hid c2
  have HAB := Lib.hid hab
  clear hpl hps hat hW hl1 hl2 hab hy c2
  refine callsIn_of_wp Try.func126 rfl trivial ?_ rfl
  simp only [Try.ntmps126, List.size_toArray, List.length_cons, List.length_nil, Nat.reduceAdd, Nat.reduceSub, Array.replicate_succ, Array.replicate_zero, List.push_toArray, List.append_toArray, List.nil_append, List.cons_append]
  gi_wp2
  gi_loopg [4] N (fun m o wr => ∃ i : Nat, i + m = N ∧ o = encGo l k i ∧ J i wr ∧ Kept (fun q => X q ∨ q = lp) W wr)
  case atStart => exact ⟨0, by omega, rfl, h0, Kept.refl _ _⟩
  case round =>
    obtain ⟨i, him, rfl, hj, hkp⟩ := hrel
    obtain ⟨hlt, fn, tmps, assign, body, hy, hR⟩ := HY.out i _ hj
    obtain ⟨f0, f1, f2⟩ := first_at hl (goN_lt hl hk i)
    have hgi := goN_lt hl hk i
    have hgs : goN l k (i + 1) = firstN l (goN l k i) := rfl
    unfold encGo at hy ⊢
    have HR := Lib.hid hR
    have HKP := Lib.hid hkp
    have HLI := Lib.hid (fun w => letterAt (97 + (goN l k i : Int)) (goN l k i : Int) w (by omega) (by omega) (by omega))
    clear hR hkp
    gi_wp2
    refine HR.out.mono ?_
    rintro e W3 (⟨rfl, hJ3, hk3⟩ | ⟨rfl, hJx3⟩)
    · have g2 := (HKP.out.trans hk3).cell HC2.out (by simp [hx1, n2])
      have g3 := (HKP.out.trans hk3).cell (HAT.out _ hgi) (by simp [hx2, n3])
      have hkp3 := Lib.hid (HKP.out.trans hk3)
      gi_wp2
      refine wpIn_wide.2 ?_
      have HQ : ∀ n, Calls Try.prog 78 #[.int .u8 (97 + (goN l k i : Int))] (W3.drewN n) fun e w'' => e = .returned (.int .i64 (goN l k i)) ∧ ∃ m, w'' = W3.drewN m := fun n => Calls.quiet_of_same ((HLI.out (W3.drewN n)).mono (by rintro e w' ⟨rfl, rfl⟩; exact ⟨rfl, rfl⟩))
      have b1 : (goN l k i : Int) < (l.length : Int) := by omega
      have b2 : (0 : Int) < ((l[goN l k i].size : Nat) : Int) := by omega
      go_quiet (exact HQ _)
      go_wp2_with fail
      go_roundg (gk - 1)
      case rel => exact ⟨i + 1, by omega, rfl, HAB.out _ _ _ hJ3 ((Kept.refl _ W3).drewN nq), hkp3.out.drewN nq⟩
      case measure => omega
    · gi_wp2
      go_end0
      exact ⟨⟨_, rfl⟩, hJx3⟩
end Go.Proofs.Ytfcbfflkajlhnaa

/- The makers of the two iterators: they box their arguments and hand over the closure. No condition. -/
namespace Go.Proofs.Ytfcbfflkajlhnaa
open Go.RowKit

set_option maxRecDepth 100000 in
theorem implFixedLetters (A : Option Addr) (n cp : Nat) (c : Int) (w : World) :
    Calls Try.prog 111 #[.slice A n cp, .int .u8 c] w fun e w' => e = .returned (.func (.func 125) #[] #[.pointer (some ⟨w.heap.size, 0, none⟩), .pointer (some ⟨w.heap.size + 1, 0, none⟩)]) ∧ w' = (w.alloc (.cells #[.slice A n cp] 71)).alloc (.cells #[.int .u8 c] 5) := by
  go_enter Try.func111, Try.ntmps111
  go_wp2
  go_ret
  exact ⟨rfl, rfl⟩

set_option maxRecDepth 100000 in
theorem implFirstLetters (A : Option Addr) (n cp : Nat) (c : Int) (w : World) :
    Calls Try.prog 115 #[.agg #[.slice A n cp], .int .u8 c] w fun e w' => e = .returned (.func (.func 126) #[] #[.pointer (some ⟨w.heap.size + 1, 0, none⟩), .pointer (some ⟨w.heap.size, 0, none⟩)]) ∧ w' = (w.alloc (.cells #[.slice A n cp] 25)).alloc (.cells #[.int .u8 c] 5) := by
  go_enter Try.func115, Try.ntmps115
  go_wp2
  go_ret
  exact ⟨rfl, rfl⟩
end Go.Proofs.Ytfcbfflkajlhnaa

/- The orbit of a letter in the program. Condition: the substitution is valid. -/
namespace Go.Proofs.Ytfcbfflkajlhnaa
open Go.RowKit Go.Shelf
attribute [local go_sem] Oper.semAt_some

set_option maxRecDepth 100000 in
theorem implIndexB (B : Nat) (v : Value) (n : Nat) (xs : List UInt8) (c : UInt8) (z : Int) (w : World) (ho : w.ownsRow B 5 1 v n (byteCells xs)) (hz : z = (c.toNat : Int)) (hn : n ≤ 1048576) :
    Calls Try.prog 127 #[v, .int .u8 z] w fun e w' => (∃ q : Int, e = .returned (.int .i64 q) ∧ (0 ≤ q ↔ c ∈ xs)) ∧ w = w' := by
  have hl : xs.length = n := by have := ho.1; rw [byteCells_length] at this; omega
  obtain ⟨A, cp, rfl⟩ := own_slice ho
  have HO := Lib.hid ho
  have HZ := Lib.hid hz
  clear ho hz
  go_enter Try.func127, Try.ntmps127
  go_wp2_with fail
  go_loop [8] (fun ix => ∃ i : Nat, i ≤ n ∧ ix = .int .i64 (i : Int) ∧ ∀ j (hj : j < xs.length), j < i → xs[j] ≠ c) (fun ix => n - (intOf ix).toNat)
  case atStart => exact ⟨0, by omega, rfl, fun j _ h => by omega⟩
  case round =>
    obtain ⟨i, hi, rfl, hno⟩ := hrel
    have HNO := Lib.hid hno
    clear hno
    by_cases hlt : i < n
    · obtain ⟨g, cap, e, hcap⟩ := own_some HO.out (by omega)
      injection e with hA _ hc
      subst hA; subst hc
      have hix : i < xs.length := by omega
      have gi := HO.out.cells (g := g) rfl i (.int .u8 (xs[i].toNat : Int)) (by simp [byteCells, List.getElem?_eq_getElem hix])
      rw [Addr.add_lit, Nat.zero_add] at gi
      by_cases he : xs[i] = c
      · have dE : (z == (xs[i].toNat : Int)) = true := by rw [HZ.out, he]; simp
        have HM : Hid (c ∈ xs) := by show c ∈ xs; rw [← he]; exact List.getElem_mem _
        clear he
        go_wp2_with fail
        go_ret
        refine ⟨⟨_, rfl, ?_⟩, rfl⟩
        exact ⟨fun _ => HM.out, fun _ => by omega⟩
      · have dE : (z == (xs[i].toNat : Int)) = false := by
          rw [HZ.out]
          simp only [beq_eq_false_iff_ne, ne_eq]
          intro h
          exact he (UInt8.toNat.inj (by omega))
        have HE := Lib.hid he
        clear he
        go_wp2_with fail
        go_round
        case rel => exact ⟨i + 1, by omega, by go_num, fun j hj h => by
          by_cases e : j = i
          · subst e; exact HE.out
          · exact HNO.out j hj (by omega)⟩
        case measure => simp [intOf]; omega
    · have hin : i = n := by omega
      have HM : Hid (¬ c ∈ xs) := by
        intro h
        obtain ⟨j, hj, e⟩ := List.mem_iff_getElem.1 h
        exact HNO.out j hj (by omega) e
      clear hin
      go_wp2_with fail
      go_ret
      refine ⟨⟨_, rfl, ?_⟩, rfl⟩
      exact ⟨fun h => by omega, fun h => absurd h HM.out⟩

set_option maxRecDepth 100000 in
theorem implContainsB (B : Nat) (v : Value) (n : Nat) (xs : List UInt8) (c : UInt8) (z : Int) (w : World) (ho : w.ownsRow B 5 1 v n (byteCells xs)) (hz : z = (c.toNat : Int)) (hn : n ≤ 1048576) :
    Calls Try.prog 116 #[v, .int .u8 z] w fun e w' => e = .returned (.bool (decide (c ∈ xs))) ∧ w = w' := by
  obtain ⟨A, cp, rfl⟩ := own_slice ho
  have HC := Lib.hid (implIndexB B _ n xs c z w ho hz hn)
  clear ho hz
  go_enter Try.func116, Try.ntmps116
  go_wp2_with fail
  refine HC.out.mono ?_
  rintro e w' ⟨⟨q, rfl, hq⟩, rfl⟩
  have HQ := Lib.hid hq
  clear hq
  go_wp2_with fail
  go_ret
  exact ⟨ret_bool (decide_eq_decide.2 HQ.out), rfl⟩

/-- the letters of the first i of an orbit -/
def orbB (l : List ByteArray) (k i : Nat) : List UInt8 := (orbTo l k i).map letterN
theorem orbB_length (l : List ByteArray) (k i : Nat) : (orbB l k i).length = i := by unfold orbB; rw [List.length_map, orbTo_length]
theorem orbB_snoc (l : List ByteArray) (k i : Nat) : orbB l k (i + 1) = orbB l k i ++ [letterN (goN l k i)] := by
  unfold orbB
  show List.map letterN (orbTo l k i ++ [goN l k i]) = _
  rw [List.map_append]
  rfl
theorem orbB_mem {l : List ByteArray} (hl : substB l = true) {k : Nat} (hk : k < l.length) (i x : Nat) (hx : x ≤ 3) : letterN x ∈ orbB l k i ↔ x ∈ orbTo l k i := by
  have h4 := (subst_parts hl).2.1
  unfold orbB
  rw [List.mem_map]
  constructor
  · rintro ⟨y, hy, e⟩
    obtain ⟨j, _, ej⟩ := (orbTo_mem l k y i).1 hy
    have := goN_lt hl hk j
    rw [← letterN_inj (by omega) hx e]
    exact hy
  · intro h; exact ⟨x, h, rfl⟩

set_option maxRecDepth 100000 in
set_option maxHeartbeats 1000000 in
theorem implOrbit (l : List ByteArray) (v : Value) (k : Nat) (w : World) (h : Lst w v (strs l)) (hl : substB l = true) (hk : k < l.length) :
    Calls Try.prog 79 #[.agg #[v], .int .u8 (97 + (k : Int))] w fun e w' => ∃ v', e = .returned v' ∧ w'.ownsRow w.heap.size 5 1 v' (orbN l k) (byteCells (orbB l k (orbN l k))) ∧ Below w.heap.size w w' := by
  obtain ⟨i0, hi0, hz0, hz1, hz2⟩ := info_parts u8_info
  obtain ⟨hm1, hm4, _⟩ := subst_parts hl
  obtain ⟨b, off, cp, rfl, hat⟩ := lst_at h (by omega)
  have hbw : b < w.heap.size := World.block_lt_of_cell? w ⟨b, off + 0, none⟩ (hat 0 (by omega))
  refine (callsIn_wide (n := 9)).1 (callsIn_of_wp_marks Try.func79 rfl trivial ?_ rfl)
  simp only [Try.ntmps79, List.size_toArray, List.length_cons, List.length_nil, Nat.reduceAdd, Nat.reduceSub, Array.replicate_succ, Array.replicate_zero, List.push_toArray, List.append_toArray, List.nil_append, List.cons_append]
  refine wpIn_wide.2 ?_
  go_wp2_with (go_at_call 115; refine (implFirstLetters _ _ _ _ _).mono ?_; rintro e w' ⟨rfl, rfl⟩)
  refine (wpIn_wide (n := 9)).1 ?_
  obtain ⟨wx, hwx⟩ : ∃ wx, (((w.alloc (.cells #[.slice (some ⟨b, off, none⟩) l.length cp] 25)).alloc (.cells #[.slice none 0 0] 22)).alloc (.cells #[.slice (some ⟨b, off, none⟩) l.length cp] 25)).alloc (.cells #[.int .u8 (97 + (k : Int))] 5) = wx := ⟨_, rfl⟩
  have hsx : wx.heap.size = w.heap.size + 4 := by rw [← hwx]; simp
  have hbx : Below w.heap.size w wx := by rw [← hwx]; exact ((((Below.refl _ _).alloc (Nat.le_refl _) _).alloc (by simp) _).alloc (by simp; omega) _).alloc (by simp; omega) _
  have hxx : Boxed wx (w.heap.size + 1) 22 (.slice none 0 0) := by
    have h0 := Boxed.new (w.alloc (.cells #[.slice (some ⟨b, off, none⟩) l.length cp] 25)) 22 (.slice none 0 0)
    rw [World.size_alloc] at h0
    rw [← hwx]
    exact (h0.alloc _).alloc _
  have cpl : wx.cell? ⟨w.heap.size + 1 + 1 + 1, 0, none⟩ = some (.int .u8 (97 + (k : Int))) := by
    have h0 := Boxed.new (((w.alloc (.cells #[.slice (some ⟨b, off, none⟩) l.length cp] 25)).alloc (.cells #[.slice none 0 0] 22)).alloc (.cells #[.slice (some ⟨b, off, none⟩) l.length cp] 25)) 5 (.int .u8 (97 + (k : Int)))
    simp only [World.size_alloc] at h0
    rw [hwx] at h0
    exact h0.cell
  have cps : wx.cell? ⟨w.heap.size + 1 + 1, 0, none⟩ = some (.slice (some ⟨b, off, none⟩) l.length cp) := by
    have h0 := (Boxed.new ((w.alloc (.cells #[.slice (some ⟨b, off, none⟩) l.length cp] 25)).alloc (.cells #[.slice none 0 0] 22)) 25 (.slice (some ⟨b, off, none⟩) l.length cp)).alloc (.cells #[.int .u8 (97 + (k : Int))] 5)
    simp only [World.size_alloc] at h0
    rw [hwx] at h0
    exact h0.cell
  have hatx : ∀ j (_ : j < l.length), wx.cell? ⟨b, off + j, none⟩ = some (.string l[j]) := fun j hj => (hbx.cell (p := ⟨b, off + j, none⟩) hbw).trans (hat j hj)
  have HSX := Lib.hid hsx
  rw [hwx]
  clear hwx hat h
  refine rangeOver (gf := 126) (lb := #[.pointer (some ⟨w.heap.size + 1 + 1 + 1, 0, none⟩), .pointer (some ⟨w.heap.size + 1 + 1, 0, none⟩)]) rfl (enters_of Try.func126 (by kernel_rfl) rfl) rfl
    (enc := encGo l k) (X := fun q => q = w.heap.size + 1 ∨ w.heap.size + 6 ≤ q) (Z := False) (N := 5) (w0 := wx)
    (firstStreams l k _ 5 _ _ b off cp wx hl hk cpl cps hatx (by omega) (by omega)) (Below.refl _ _) (by omega) (by omega)
    (fun i W => (i ≤ 4 ∧ ∀ j, j < i → ¬ goN l k j ∈ orbTo l k j) ∧ (∃ v, Boxed W (w.heap.size + 1) 22 v ∧ W.ownsRow (w.heap.size + 6) 5 1 v i (byteCells (orbB l k i))) ∧ Below w.heap.size w W)
    (fun W => (∃ v, Boxed W (w.heap.size + 1) 22 v ∧ W.ownsRow (w.heap.size + 6) 5 1 v (orbN l k) (byteCells (orbB l k (orbN l k)))) ∧ Below w.heap.size w W)
    0 ?keep ?keepx ⟨⟨by omega, fun j hj => by omega⟩, ⟨_, hxx, World.ownsRow_nil _ _ _ _⟩, hbx⟩
    (fun i => { tmps := #[.agg #[.slice (some ⟨b, off, none⟩) l.length cp], .int .u8 (97 + (k : Int)), .pointer (some ⟨w.heap.size, 0, none⟩), undef, .slice none 0 0, .pointer (some ⟨w.heap.size + 1, 0, none⟩), .int .u8 (97 + (goN l k i : Int)), .agg #[.slice (some ⟨b, off, none⟩) l.length cp], .int .u8 (97 + (k : Int)), .func (.func 126) #[] #[.pointer (some ⟨w.heap.size + 1 + 1 + 1, 0, none⟩), .pointer (some ⟨w.heap.size + 1 + 1, 0, none⟩)], .int .u8 (97 + (goN l k i : Int)), undef, undef, undef, undef, undef, undef, undef, undef], defers := [] }) ?assign ?body ?stop
  case keep =>
    rintro i A1 C ⟨h1, ⟨v, h2, h3⟩, h4⟩ hk
    replace hk := hk.mono (Y := fun q => q = wx.heap.size ∨ q = wx.heap.size + 1) (fun q h => h.elim id (fun h => h.1.elim))
    refine ⟨h1, ⟨v, hk.boxed h2 (by omega), hk.row h3 (fun q e => by have := (h3.lt q e).1; omega)⟩, h4.trans (hk.below (B := w.heap.size) (fun q h => by omega) h4.size)⟩
  case keepx =>
    rintro A1 C ⟨⟨v, h2, h3⟩, h4⟩ hk
    refine ⟨⟨v, hk.boxed h2 (by omega), hk.row h3 (fun q e => by have := (h3.lt q e).1; omega)⟩, h4.trans (hk.below (B := w.heap.size) (fun q h => by omega) h4.size)⟩
  case assign =>
    intro lp i A' K hK
    gi_wp2
    exact hK
  case body =>
    rintro lp i A1 hA ⟨⟨hi4, hno⟩, ⟨v, hbo, hro⟩, hbl⟩
    refine ⟨by omega, ?_⟩
    have hgl := goN_lt hl hk i
    have hc1 := hbo.cell
    have hf1 := hbo.frozen
    have hlt1 := hbo.lt
    have hsA : w.heap.size + 6 ≤ A1.heap.size := by omega
    have hz : (97 + (goN l k i : Int)) = ((letterN (goN l k i)).toNat : Int) := by rw [letterN_toNat _ (by omega)]; simp
    have HC := Lib.hid (CallsIn.inRound lp ((callsIn_wide (n := 6)).2 (implContainsB _ v i (orbB l k i) (letterN (goN l k i)) _ A1 hro hz (by omega))))
    obtain ⟨A, cp', rfl⟩ := own_slice hro
    have HRO := Lib.hid hro
    have HBO := Lib.hid hbo
    have HBL := Lib.hid hbl
    have HNO := Lib.hid hno
    have HZ := Lib.hid hz
    have HSN := Lib.hid (orbB_snoc l k i)
    clear hro hbo hbl hno hz
    by_cases e : goN l k i ∈ orbTo l k i
    · have dE : decide (letterN (goN l k i) ∈ orbB l k i) = true := decide_eq_true ((orbB_mem hl hk i _ (by omega)).2 e)
      have HE : Hid (orbN l k = i) := by
        have h1 : 1 ≤ i := by
          rcases Nat.eq_zero_or_pos i with e0 | e0
          · subst e0; cases e
          · exact e0
        exact orbN_eq h1 hi4 (fun m _ h => HNO.out m h) e
      rw [dE] at HC
      clear dE e
      gi_wp2_with (refine ⟨trivial, ?_⟩; gi_at_call 116; refine HC.out.mono ?_; rintro e w' ⟨rfl, rfl⟩)
      refine ⟨rfl, Kept.refl _ _, ?_⟩
      rw [HE.out]
      exact ⟨⟨_, HBO.out, HRO.out⟩, HBL.out⟩
    · have dE : decide (letterN (goN l k i) ∈ orbB l k i) = false := decide_eq_false (fun h => e ((orbB_mem hl hk i _ (by omega)).1 h))
      have HI3 : Hid (i + 1 ≤ 4) := by
        show i + 1 ≤ 4
        rcases Nat.lt_or_ge i 4 with h | h
        · exact h
        · have e4 : i = 4 := by omega
          subst e4
          exact absurd (orb_some hl hk (HNO.out 1 (by omega)) (HNO.out 2 (by omega)) (HNO.out 3 (by omega))) e
      have HE := Lib.hid e
      rw [dE] at HC
      clear dE e
      gi_wp2_with (first
        | (refine ⟨trivial, ?_⟩; gi_at_call 116; refine HC.out.mono ?_; rintro e w' ⟨rfl, rfl⟩)
        | (gi_at_builtin; refine wpListIn_append_own _ rfl (.tmp 14) (.tmp 16) 22 rfl (w.heap.size + 6) 5 i0 (.int .u8 0) 1 1 Try.underlying22 hi0 hz0 hz1 hz2 rfl (by decide) _ i _ rfl (HRO.out.alloc _) ⟨A1.heap.size, 0, none⟩ 1 1 [.int .u8 (97 + (goN l k i : Int))] rfl rfl (cell_one_new _ _ _) (by simp [Value.oneCell']) (by unfold maxLen; omega) (by omega) (by simp; omega) ?_; intro v5 w5 hown5 hgrow5 _; obtain ⟨g5, cap5, rfl⟩ := ownsRow_succ hown5; have hb5 : Boxed w5 (w.heap.size + 1) 22 (.slice A i cp') := (HBO.out.alloc _).kept hgrow5 (fun e => by have := (HRO.out.lt _ e.symm).1; omega); have hc5 := hb5.cell; have hf5 := hb5.frozen))
      have ka : Kept (fun q => q = w.heap.size + 1 ∨ w.heap.size + 6 ≤ q) A1 (w5.setCell ⟨w.heap.size + 1, 0, none⟩ (.slice (some ⟨g5, 0, none⟩) (i + 1) cap5)) :=
        (((Kept.refl _ A1).alloc _).grown hgrow5 (fun q e => .inr (HRO.out.lt q e).1)).setCell (.inl rfl) _
      refine ⟨ka, ⟨HI3.out, fun j hj => ?_⟩, ⟨_, hb5.set _, ?_⟩, HBL.out.trans (ka.below (fun q h => by omega) HBL.out.size)⟩
      · by_cases ej : j = i
        · subst ej; exact HE.out
        · exact HNO.out j (by omega)
      · rw [HSN.out, byteCells_snoc, ← HZ.out]
        exact hown5.kept (grownBy_setCell' w5 (w.heap.size + 1) _) (.inr (fun e => by have := (hown5.lt _ e).1; omega))
  case stop =>
    rintro D C hD ⟨⟨v, h3, h4⟩, h5⟩ hK
    have hc1 := h3.cell
    gi_wp2
    go_wp2_with fail
    have kD : Kept (fun q => q = D) C (C.putObj D (.deferred none)) := (Kept.refl _ C).putObj _ rfl
    refine ⟨by simp, .inl ⟨_, _, rfl, run_takeDeferred hK, ?_⟩⟩
    refine ⟨_, results_tmp rfl _ _ _, v, rfl, own_mono (kD.row h4 (fun q e => ?_)) (by omega), h5.trans (kD.below (fun q h => by omega) h5.size)⟩
    intro hq
    subst hq
    rcases h4.2 with ⟨rfl, _⟩ | ⟨g, cap, cur, rfl, _, hg, _⟩
    · simp [Value.ownBlock] at e
    · simp [Value.ownBlock] at e
      subst e
      rw [hK] at hg
      cases hg
end Go.Proofs.Ytfcbfflkajlhnaa
