/- Texts put together. -/
import Derived.Test.YtiikledbflgejaaMgC18
import Derived.Test.YtiikledbflgejaaMgC4
import Derived.Test.YtiikledbflgejaaMgC3
import Derived.RegionTactic
import Derived.Test.YtiikledbflgejaaMgC1
import Derived.Shelf.Small.Bits
import Derived.Shelf.Strconv.Itoa0
import Derived.Shelf.Sort.Plain
import Derived.Shelf.Slices.Turned
import Derived.Ground.Names2Prog
import Derived.Shelf.Slices.CompactI
import Derived.Shelf.Slices.SearchI
import Derived.Shelf.Slices.Cells
import Derived.Shelf.Slices.In.SortNone
import Derived.Test.YtiikledbflgejaaProg
/- MakeSize for any two bounds that lie at most 98 apart. -/
namespace Go.Proofs.Ytiikledbflgejaa
open Go.RowKit

set_option maxHeartbeats 1000000 in
theorem makeSize_gen (v : Value) (zs : List Int) (c low high : Int) (w : World) (hz : IsBytes zs) (hl : Lst w v (bytesV zs)) (h0 : 0 ≤ c) (h1 : c ≤ 1048576) (hlow : 0 ≤ low) (hlh : low ≤ high) (hhi : high ≤ low + 98) (hmax : low ≤ 1000) :
    Calls Try.prog 4 #[v, .int .i64 c, .int .i64 low, .int .i64 high] w (SizeSaid low high w) := by
  have HN := Lib.hid (fun w' (hb : Below w.heap.size w w') => l31New_any v zs c w' hz (hl.below hb) h0 h1)
  have HZ := Lib.hid hz
  obtain ⟨n, hn⟩ : ∃ n : Nat, high = low + n := ⟨(high - low).toNat, by omega⟩
  subst hn
  obtain ⟨A, cp, rfl, -, -, -⟩ := hl
  rw [bytesV_length] at HN ⊢
  clear hz
  go_enter Try.func4, Try.ntmps4
  go_wp2_with fail
  go_loop [9, 10] (fun s k => ∃ j : Nat, j ≤ n ∧ k = .int .i64 (low + (j : Int)) ∧ s = .int .i64 ((j : Int) + 1)) (fun _ k => (low + n - intOf k).toNat)
  case atStart => exact ⟨0, by omega, by simp, rfl⟩
  case round =>
    obtain ⟨j, hj, rfl, rfl⟩ := hrel
    by_cases hlt : j < n
    · have d1 : decide (low + (j : Int) < low + (n : Int)) = true := by simp; omega
      have d2 : decide ((j : Int) + 1 < 100) = true := by simp; omega
      go_wp2_with fail
      go_round
      case rel => exact ⟨j + 1, by omega, by congr 1; omega, by go_num⟩
      case measure => simp [intOf]; omega
    · have hj2 : j = n := by omega
      subst hj2
      go_wp2_with fail
      refine (HN.out _ (Below.refl _ _)).mono ?_
      rintro e w1 ⟨g, rfl, hg, hc1, hb1⟩
      have HC := Lib.hid hc1
      have HB1 := Lib.hid hb1
      clear hc1 hb1
      go_wp2_with fail
      refine (l01Below_small g _ zs ((j : Int) + 1) _ HZ.out HC.out (by omega) (by omega)).mono ?_
      rintro e w2 ⟨x, rfl, x0, x1, hc2, hg2⟩
      have HB2 : Hid (Below w.heap.size w w2) := HB1.out.grown hg2 HB1.out.size (fun j hj => by cases hj; exact hg)
      obtain ⟨q, rfl⟩ := Int.eq_ofNat_of_zero_le x0
      clear hc2 hg2
      go_wp2_with fail
      go_loop [11, 12] (fun o k => ∃ r : Nat, r ≤ q ∧ k = .int .i64 r ∧ o = .int .i64 (low + ((q : Int) - r))) (fun _ k => (intOf k).toNat)
      case atStart => exact ⟨q, Nat.le_refl _, rfl, by simp⟩
      case round =>
        obtain ⟨r, hr, rfl, rfl⟩ := hrel
        by_cases hlt2 : 0 < r
        · go_wp2_with fail
          go_round
          case rel => exact ⟨r - 1, by omega, by rw [show (r : Int) - 1 = ((r - 1 : Nat) : Int) from by omega], by congr 1; omega⟩
          case measure => simp [intOf]; omega
        · go_wp2_with fail
          go_ret
          exact ⟨_, rfl, by omega, by omega, HB2.out⟩
end Go.Proofs.Ytiikledbflgejaa

/- The program's isBetween and isCircle (the points as a row of at most 8 numbers). No other condition. -/
namespace Go.Proofs.Ytiikledbflgejaa
open Go.RowKit

set_option maxHeartbeats 1000000 in
theorem implIsBetween (x a b : Int) (w : World) :
    Calls Try.prog 22 #[.int .i64 x, .int .i64 a, .int .i64 b] w fun e w' => e = .returned (.bool (decide (a ≤ x) && decide (x ≤ b))) ∧ w = w' := by
  by_cases h1 : a ≤ x <;> by_cases h2 : x ≤ b
  all_goals
    go_enter Try.func22, Try.ntmps22
    go_wp2_with fail
    go_ret
    first | exact ⟨by simp [h1, h2], rfl⟩ | exact ⟨rfl, rfl⟩

/-- on the circle -/
def onB (q : Int) (l : List Int) : Bool := l.all fun x => decide (0 ≤ x) && decide (x < q)
def cirB (q : Int) (l : List Int) : Bool := onB q l && (decide (1 ≤ q) && decide (q ≤ 1000))

set_option maxRecDepth 100000 in
set_option maxHeartbeats 1000000 in
theorem implIsCircle (q : Int) (l : List Int) (g cp : Nat) (w : World) (hl : l.length ≤ 8) (hc : ∀ j, j < l.length → w.cell? ⟨g, j, none⟩ = some (.int .i64 (l.getD j 0))) :
    Calls Try.prog 21 #[.int .i64 q, .slice (some ⟨g, 0, none⟩) l.length cp] w fun e w' => e = .returned (.bool (cirB q l)) ∧ w = w' := by
  have HC := Lib.hid hc
  clear hc
  go_enter Try.func21, Try.ntmps21
  go_wp2_with fail
  go_loopw [9] (fun iv wr => ∃ i : Nat, i ≤ l.length ∧ iv = .int .i64 (i : Int) ∧ onB q (l.take i) = true ∧ w = wr) (fun iv _ => l.length - (intOf iv).toNat)
  case atStart => exact ⟨0, Nat.zero_le _, rfl, rfl, rfl⟩
  case round =>
    obtain ⟨i, hi, rfl, ho, rfl⟩ := hrel
    have HO := Lib.hid ho
    clear ho
    by_cases hlt : i < l.length
    · have hlt' : (i : Int) < (l.length : Int) := by omega
      have hci := HC.out i hlt
      have HT : Hid (l.take (i + 1) = l.take i ++ [l.getD i 0]) := by
        show _ = _
        rw [List.take_add_one, List.getElem?_eq_getElem hlt, List.getD_eq_getElem?_getD, List.getElem?_eq_getElem hlt]
        rfl
      have HN : Hid (onB q (l.take (i + 1)) = (decide (0 ≤ l.getD i 0) && decide (l.getD i 0 < q))) := by
        show _ = _
        rw [HT.out]
        unfold onB at HO ⊢
        rw [List.all_append, HO.out]
        simp
      have HF : Hid ((decide (0 ≤ l.getD i 0) && decide (l.getD i 0 < q)) = false → cirB q l = false) := by
        intro h
        have : onB q l = false := by
          unfold onB
          rw [List.all_eq_false]
          refine ⟨l.getD i 0, ?_, by simpa using h⟩
          rw [List.getD_eq_getElem?_getD, List.getElem?_eq_getElem hlt]
          exact List.getElem_mem hlt
        unfold cirB
        rw [this, Bool.false_and]
      generalize l.getD i 0 = x at *
      by_cases h1 : x < 0
      · have HF1 : Hid (cirB q l = false) := HF.out (by simp; intro; omega)
        go_wp2_with fail
        go_ret
        exact ⟨ret_bool HF1.out.symm, rfl⟩
      · by_cases h2 : x ≥ q
        · have HF1 : Hid (cirB q l = false) := HF.out (by simp; intro; omega)
          go_wp2_with fail
          go_ret
          exact ⟨ret_bool HF1.out.symm, rfl⟩
        · have HN1 : Hid (onB q (l.take (i + 1)) = true) := HN.out.trans (by simp; omega)
          go_wp2_with fail
          go_roundw
          case rel => exact ⟨i + 1, by omega, by go_num, HN1.out, trivial⟩
          case measure => simp [intOf]; omega
    · have hil : i = l.length := by omega
      subst hil
      have HV : Hid (cirB q l = (decide (1 ≤ q) && decide (q ≤ 1000))) := by
        show _ = _
        have h := HO.out
        rw [List.take_length] at h
        unfold cirB
        rw [h, Bool.true_and]
      have hlt' : ¬ (l.length : Int) < (l.length : Int) := by omega
      by_cases h1 : q ≥ 1 <;> by_cases h2 : q ≤ 1000
      all_goals
        go_wp2_with fail
        go_ret
        exact ⟨ret_bool (by rw [HV.out]; simp [h1, h2]), rfl⟩
end Go.Proofs.Ytiikledbflgejaa

/- The program's ReturnTime. No condition. -/
namespace Go.Proofs.Ytiikledbflgejaa
open Go.RowKit Go.Lib

theorem rt_cir (p q a b f : Int) : cirB q [p, a, b, f] = rtOkF p q a b f := by
  rw [Bool.eq_iff_iff]
  simp [rtOkF, arOk, cirB, onB]
  omega

set_option maxRecDepth 100000 in
set_option maxHeartbeats 1000000 in
theorem implReturnTime (p q a b f : Int) (w : World) :
    Calls Try.prog 12 #[.int .i64 p, .int .i64 q, .int .i64 a, .int .i64 b, .int .i64 f] w fun e w' => e = .returned (.int .i64 (rtT p q a b f)) ∧ Below w.heap.size w w' := by
  have HBT := Lib.hid (fun x w => implIsBetween x a b w)
  have HC : Hid (∀ (g : Nat) (w : World), w.cell? ⟨g, 0, none⟩ = some (.int .i64 p) → w.cell? ⟨g, 1, none⟩ = some (.int .i64 a) → w.cell? ⟨g, 2, none⟩ = some (.int .i64 b) → w.cell? ⟨g, 3, none⟩ = some (.int .i64 f) →
      Calls Try.prog 21 #[.int .i64 q, .slice (some ⟨g, 0, none⟩) 4 4] w fun e w' => e = .returned (.bool (rtOkF p q a b f)) ∧ w = w') := fun g w h0 h1 h2 h3 => by
    rw [← rt_cir]
    exact implIsCircle q [p, a, b, f] g 4 w (by simp) (by
      intro j hj
      simp at hj
      rcases (by omega : j = 0 ∨ j = 1 ∨ j = 2 ∨ j = 3) with rfl | rfl | rfl | rfl
      · exact h0
      · exact h1
      · exact h2
      · exact h3)
  obtain ⟨wn, hwn⟩ : ∃ x, x = (w.alloc (.cells #[.int .i64 p, .int .i64 a, .int .i64 b, .int .i64 f] 3)) := ⟨_, rfl⟩
  have n0 : wn.cell? ⟨w.heap.size, 0, none⟩ = some (.int .i64 p) := by rw [hwn, World.cell?_alloc_at _ _ _ _ rfl]; rfl
  have n1 : wn.cell? ⟨w.heap.size, 1, none⟩ = some (.int .i64 a) := by rw [hwn, World.cell?_alloc_at _ _ _ _ rfl]; rfl
  have n2 : wn.cell? ⟨w.heap.size, 2, none⟩ = some (.int .i64 b) := by rw [hwn, World.cell?_alloc_at _ _ _ _ rfl]; rfl
  have n3 : wn.cell? ⟨w.heap.size, 3, none⟩ = some (.int .i64 f) := by rw [hwn, World.cell?_alloc_at _ _ _ _ rfl]; rfl
  have HK := Lib.hid (HC.out w.heap.size wn n0 n1 n2 n3)
  have HB : Hid (Below w.heap.size w wn) := by rw [hwn]; exact (Below.refl _ _).alloc (Nat.le_refl _) _
  clear HC n0 n1 n2 n3
  cases h1 : rtOkF p q a b f
  · have HV : Hid (rtT p q a b f = -1) := if_neg (by rw [h1]; decide)
    rw [h1] at HK
    clear h1
    generalize rtT p q a b f = r at *
    go_enter Try.func12, Try.ntmps12
    go_wp2_with fail
    rw [← hwn]
    refine (HK.out).mono ?_
    rintro e w' ⟨rfl, rfl⟩
    go_wp2_with fail
    go_ret
    exact ⟨ret_int HV.out.symm, by first | exact HB.out | (rw [← hwn]; exact HB.out)⟩
  rw [h1] at HK
  have hh := h1
  unfold rtOkF arOk at hh
  simp only [Bool.and_eq_true, decide_eq_true_eq] at hh
  have hq : 1 ≤ q ∧ q ≤ 1000 := hh.1.1
  have hp : 0 ≤ p ∧ p ≤ q - 1 := hh.1.2.1
  have hf : 0 ≤ f ∧ f ≤ q - 1 := hh.2
  clear hh
  have HV : Hid (rtT p q a b f = rtTo p q a b f 1 1000) := if_pos h1
  have HST := Lib.hid (rt_step p q a b f)
  have H0 : Hid (∀ i, rtTo p q a b f i 0 = -1) := fun i => rfl
  have HIA : Hid (∀ i : Nat, inA p q a b f i = (decide (a ≤ (f + (i : Int) * p) % q) && decide ((f + (i : Int) * p) % q ≤ b))) := fun i => rfl
  clear h1
  generalize rtT p q a b f = r at *
  generalize rtTo p q a b f = T at *
  generalize inA p q a b f = I at *
  go_enter Try.func12, Try.ntmps12
  go_wp2_with fail
  rw [← hwn]
  refine (HK.out).mono ?_
  rintro e w' ⟨rfl, rfl⟩
  clear HK hwn
  go_wp2_with fail
  go_loopw [11] (fun iv w' => ∃ i m : Nat, i + m = 1001 ∧ 1 ≤ i ∧ iv = .int .i64 (i : Int) ∧ r = T i m ∧ wn = w') (fun iv _ => 1001 - (RowKit.intOf iv).toNat)
  case atStart => exact ⟨1, 1000, rfl, Nat.le_refl _, rfl, HV.out, rfl⟩
  case round =>
    obtain ⟨i, m, him, hi1, rfl, hr, rfl⟩ := hrel
    have HR := Lib.hid hr
    clear hr
    by_cases hlt : i ≤ 1000
    · obtain ⟨k, rfl⟩ : ∃ k, m = k + 1 := ⟨m - 1, by omega⟩
      have HS := Lib.hid (HST.out i k)
      have HI := Lib.hid (HIA.out i)
      have hm := mul_1000 (i := (i : Int)) (p := p) (by omega) (by omega) (by omega) (by omega)
      have hlt' : (i : Int) ≤ 1000 := by omega
      obtain ⟨z, hz⟩ : ∃ z, z = (i : Int) * p := ⟨_, rfl⟩
      rw [← hz] at hm HI
      have e1 : wrap64 ((i : Int) * p) = z := by rw [← hz]; exact IntWalk.wrap64_in _ (by omega)
      clear hz
      have hq0 : ¬ q = 0 := by omega
      have hb1 : 0 ≤ (f + z) % q := Int.emod_nonneg _ hq0
      have hb2 : (f + z) % q < q := Int.emod_lt_of_pos _ (by omega)
      have htm : (f + z).tmod q = (f + z) % q := Int.tmod_eq_emod_of_nonneg (by omega)
      generalize (f + z) % q = y at *
      cases hc : I i
      · have HN := Lib.hid (HS.out.2 hc)
        rw [hc] at HI
        clear HS hc
        go_wp2_with fail
        refine (HBT.out _ _).mono ?_
        rintro e w' ⟨rfl, rfl⟩
        rw [← HI.out]
        go_wp2_with fail
        go_roundw
        case rel => exact ⟨i + 1, k, by omega, by omega, by go_num, by rw [HR.out, HN.out], by trivial⟩
        case measure => simp [RowKit.intOf]; omega
      · have HN := Lib.hid (HS.out.1 hc)
        rw [hc] at HI
        clear HS hc
        go_wp2_with fail
        refine (HBT.out _ _).mono ?_
        rintro e w' ⟨rfl, rfl⟩
        rw [← HI.out]
        go_wp2_with fail
        go_ret
        exact ⟨ret_int (by rw [HR.out, HN.out]), HB.out⟩
    · have hlt' : ¬ (i : Int) ≤ 1000 := by omega
      have hm0 : m = 0 := by omega
      subst hm0
      have HN := Lib.hid (H0.out i)
      go_wp2_with fail
      go_ret
      exact ⟨ret_int (by rw [HR.out, HN.out]), HB.out⟩
end Go.Proofs.Ytiikledbflgejaa

/-
  DERIVED: THE SHELF's CONTRACTS AT THIS DUMP, IN PLAIN WORDS (tools/lay-plain.mjs out of 'TryShelf.lean', which tools/lay-shelf.mjs wrote): THE SAME DECLARATIONS UNDER THE SAME NAMES: 'import', 'namespace', 'open', 'def', 'theorem' AND NOTHING ELSE: no command of the shelf's: FOR A HAND-IN. Each laying: the table of numbers ('.._ren') and one theorem, a field a fact of the dump's own or the kernel's comparison; each contract: ONE APPLICATION.
-/
namespace Go.Proofs
open Go.Shelf
def Try.lays189_ren : Go.Shelf.Ren := ⟨fun | 189 => 25 | 125 => 29 | 257 => 28 | 128 => 39 | 129 => 40 | 294 => 30 | 295 => 31 | 296 => 32 | 297 => 33 | 298 => 34 | 299 => 35 | 216 => 36 | 300 => 37 | 301 => 38 | 328 => 41 | 329 => 42 | 330 => 43 | 331 => 44 | 332 => 45 | 215 => 46 | 343 => 47 | n => n, fun | 28 => 24 | 3 => 3 | 46 => 47 | 0 => 0 | 51 => 61 | 53 => 63 | 4 => 4 | 183 => 53 | 182 => 52 | 131 => 58 | 5 => 5 | 9 => 9 | 218 => 64 | 222 => 68 | 228 => 71 | 229 => 28 | n => n, fun | n => n⟩
theorem Try.lays189 : Go.Proofs.Lays.n189 Try.prog Try.lays189_ren := {
  mixed := by kernel_rfl
  f125 := Try.func29.trans (congrArg some (by kernel_rfl))
  f128 := Try.func39.trans (congrArg some (by kernel_rfl))
  f129 := Try.func40.trans (congrArg some (by kernel_rfl))
  f189 := Try.func25.trans (congrArg some (by kernel_rfl))
  f215 := Try.func46.trans (congrArg some (by kernel_rfl))
  f216 := Try.func36.trans (congrArg some (by kernel_rfl))
  f257 := Try.func28.trans (congrArg some (by kernel_rfl))
  f294 := Try.func30.trans (congrArg some (by kernel_rfl))
  f295 := Try.func31.trans (congrArg some (by kernel_rfl))
  f296 := Try.func32.trans (congrArg some (by kernel_rfl))
  f297 := Try.func33.trans (congrArg some (by kernel_rfl))
  f298 := Try.func34.trans (congrArg some (by kernel_rfl))
  f299 := Try.func35.trans (congrArg some (by kernel_rfl))
  f300 := Try.func37.trans (congrArg some (by kernel_rfl))
  f301 := Try.func38.trans (congrArg some (by kernel_rfl))
  f328 := Try.func41.trans (congrArg some (by kernel_rfl))
  f329 := Try.func42.trans (congrArg some (by kernel_rfl))
  f330 := Try.func43.trans (congrArg some (by kernel_rfl))
  f331 := Try.func44.trans (congrArg some (by kernel_rfl))
  f332 := Try.func45.trans (congrArg some (by kernel_rfl))
  f343 := Try.func47.trans (congrArg some (by kernel_rfl))
  t0 := Try.underlying0
  a0 := Try.isAgg0
  z0 := Try.sizeOf0
  v0 := Try.zeroValue0
  t3 := Try.underlying3
  a3 := Try.isAgg3
  z3 := Try.sizeOf3
  v3 := Try.zeroValue3
  t4 := Try.underlying4
  a4 := Try.isAgg4
  z4 := Try.sizeOf4
  v4 := Try.zeroValue4
  t5 := Try.underlying5
  a5 := Try.isAgg5
  z5 := Try.sizeOf5
  v5 := Try.zeroValue5
  t9 := Try.underlying9
  a9 := Try.isAgg9
  z9 := Try.sizeOf9
  v9 := Try.zeroValue9
  t28 := Try.underlying24
  a28 := Try.isAgg24
  z28 := Try.sizeOf24
  v28 := Try.zeroValue24
  t46 := Try.underlying47
  a46 := Try.isAgg47
  z46 := Try.sizeOf47
  v46 := Try.zeroValue47
  t51 := Try.underlying61
  a51 := Try.isAgg61
  z51 := Try.sizeOf61
  v51 := Try.zeroValue61
  t53 := Try.underlying63
  a53 := Try.isAgg63
  z53 := Try.sizeOf63
  v53 := Try.zeroValue63
  t131 := Try.underlying58
  a131 := Try.isAgg58
  z131 := Try.sizeOf58
  v131 := Try.zeroValue58
  t182 := Try.underlying52
  a182 := Try.isAgg52
  z182 := Try.sizeOf52
  v182 := Try.zeroValue52
  t183 := Try.underlying53
  a183 := Try.isAgg53
  z183 := Try.sizeOf53
  v183 := Try.zeroValue53
  t218 := Try.underlying64
  a218 := Try.isAgg64
  z218 := Try.sizeOf64
  v218 := Try.zeroValue64
  t222 := Try.underlying68
  a222 := Try.isAgg68
  z222 := Try.sizeOf68
  v222 := Try.zeroValue68
  t228 := Try.underlying71
  a228 := Try.isAgg71
  z228 := Try.sizeOf71
  v228 := Try.zeroValue71
  t229 := Try.underlying28
  a229 := Try.isAgg28
  z229 := Try.sizeOf28
  v229 := Try.zeroValue28 }
open Go.Sort Go.RowKit in
theorem Try.slices_Sort_int (blk off cap : Nat) (zs : List Int) (w : World) (hH : Holds (Value.int .i64) w blk off zs.toArray) (hblk : blk < w.heap.size) (hsz : zs.length < 4611686018427387904) :
    Calls Try.prog 25 #[.slice (some ⟨blk, off, none⟩) zs.length cap] w fun e w' =>
      e = .returned (.tuple #[]) ∧ ∃ n os, w' = grow (putRow (Value.int .i64) (Sort.ahead w n) blk off (zs.mergeSort fun x y => decide (x ≤ y)).toArray) os := Any.slices_Sort_int Try.lays189 blk off cap zs w hH hblk hsz
def Try.lays108_ren : Go.Shelf.Ren := ⟨fun | 108 => 18 | n => n, fun | 28 => 24 | 3 => 3 | 0 => 0 | 4 => 4 | n => n, fun | n => n⟩
theorem Try.lays108 : Go.Proofs.Lays.n108 Try.prog Try.lays108_ren := {
  mixed := by kernel_rfl
  f108 := Try.func18.trans (congrArg some (by kernel_rfl))
  t0 := Try.underlying0
  a0 := Try.isAgg0
  z0 := Try.sizeOf0
  v0 := Try.zeroValue0
  t3 := Try.underlying3
  a3 := Try.isAgg3
  z3 := Try.sizeOf3
  v3 := Try.zeroValue3
  t4 := Try.underlying4
  a4 := Try.isAgg4
  z4 := Try.sizeOf4
  v4 := Try.zeroValue4
  t28 := Try.underlying24
  a28 := Try.isAgg24
  z28 := Try.sizeOf24
  v28 := Try.zeroValue24 }
open Go.Lib in
/-- slices.Index at []int: "Index returns the index of the first occurrence of v in s, or -1 if not present.": IT RETURNS 'Lib.idxOf (the elements) v'; the world is as it was. 'zs': what the cells behind the slice's address hold (its spare capacity too, if you have it); 'zs.take n': its elements. (LAID: no walk: one application.) -/
theorem Try.slices_Index_int (b off n c : Nat) (zs : List Int) (x : Int) (w : World) (hz : n ≤ zs.length) (hbig : n ≤ 9223372036854775807) (hc : ∀ j, j < zs.length → w.cell? ⟨b, off + j, none⟩ = some (.int .i64 (zs.getD j 0))) :
    Calls Try.prog 18 #[.slice (some ⟨b, off, none⟩) n c, .int .i64 x] w fun e w' => e = .returned (.int .i64 (Lib.idxOf (zs.take n) x)) ∧ w' = w := Any.slices_Index_int Try.lays108 b off n c zs x w hz hbig hc
def Try.lays113_ren : Go.Shelf.Ren := ⟨fun | 113 => 20 | n => n, fun | 28 => 24 | 3 => 3 | 4 => 4 | 9 => 9 | 20 => 20 | 0 => 0 | n => n, fun | n => n⟩
theorem Try.lays113 : Go.Proofs.Lays.n113 Try.prog Try.lays113_ren := {
  mixed := by kernel_rfl
  f113 := Try.func20.trans (congrArg some (by kernel_rfl))
  t0 := Try.underlying0
  a0 := Try.isAgg0
  z0 := Try.sizeOf0
  v0 := Try.zeroValue0
  t3 := Try.underlying3
  a3 := Try.isAgg3
  z3 := Try.sizeOf3
  v3 := Try.zeroValue3
  t4 := Try.underlying4
  a4 := Try.isAgg4
  z4 := Try.sizeOf4
  v4 := Try.zeroValue4
  t9 := Try.underlying9
  a9 := Try.isAgg9
  z9 := Try.sizeOf9
  v9 := Try.zeroValue9
  t20 := Try.underlying20
  a20 := Try.isAgg20
  z20 := Try.sizeOf20
  v20 := Try.zeroValue20
  t28 := Try.underlying24
  a28 := Try.isAgg24
  z28 := Try.sizeOf24
  v28 := Try.zeroValue24 }
open Go.Lib in
/-- slices.Max at []int: "Max returns the maximal value in x. It panics if x is empty.": OF A SLICE THAT IS NOT EMPTY IT RETURNS 'Lib.maxOf (the elements)'; the world is as it was. (Of an empty one it panics: no contract here.) (LAID: no walk: one application.) -/
theorem Try.slices_Max_int (b off n c : Nat) (zs : List Int) (w : World) (hn : 0 < n) (hz : n ≤ zs.length) (hbig : n ≤ 9223372036854775807) (hc : ∀ j, j < zs.length → w.cell? ⟨b, off + j, none⟩ = some (.int .i64 (zs.getD j 0))) :
    Calls Try.prog 20 #[.slice (some ⟨b, off, none⟩) n c] w fun e w' => e = .returned (.int .i64 (Lib.maxOf (zs.take n))) ∧ w' = w := Any.slices_Max_int Try.lays113 b off n c zs w hn hz hbig hc
def Try.lays114_ren : Go.Shelf.Ren := ⟨fun | 114 => 19 | n => n, fun | 28 => 24 | 3 => 3 | 4 => 4 | 9 => 9 | 20 => 20 | 0 => 0 | n => n, fun | n => n⟩
theorem Try.lays114 : Go.Proofs.Lays.n114 Try.prog Try.lays114_ren := {
  mixed := by kernel_rfl
  f114 := Try.func19.trans (congrArg some (by kernel_rfl))
  t0 := Try.underlying0
  a0 := Try.isAgg0
  z0 := Try.sizeOf0
  v0 := Try.zeroValue0
  t3 := Try.underlying3
  a3 := Try.isAgg3
  z3 := Try.sizeOf3
  v3 := Try.zeroValue3
  t4 := Try.underlying4
  a4 := Try.isAgg4
  z4 := Try.sizeOf4
  v4 := Try.zeroValue4
  t9 := Try.underlying9
  a9 := Try.isAgg9
  z9 := Try.sizeOf9
  v9 := Try.zeroValue9
  t20 := Try.underlying20
  a20 := Try.isAgg20
  z20 := Try.sizeOf20
  v20 := Try.zeroValue20
  t28 := Try.underlying24
  a28 := Try.isAgg24
  z28 := Try.sizeOf24
  v28 := Try.zeroValue24 }
open Go.Lib in
/-- slices.Min at []int: "Min returns the minimal value in x. It panics if x is empty.": OF A SLICE THAT IS NOT EMPTY IT RETURNS 'Lib.minOf (the elements)'; the world is as it was. (Of an empty one it panics: no contract here.) (LAID: no walk: one application.) -/
theorem Try.slices_Min_int (b off n c : Nat) (zs : List Int) (w : World) (hn : 0 < n) (hz : n ≤ zs.length) (hbig : n ≤ 9223372036854775807) (hc : ∀ j, j < zs.length → w.cell? ⟨b, off + j, none⟩ = some (.int .i64 (zs.getD j 0))) :
    Calls Try.prog 19 #[.slice (some ⟨b, off, none⟩) n c] w fun e w' => e = .returned (.int .i64 (Lib.minOf (zs.take n))) ∧ w' = w := Any.slices_Min_int Try.lays114 b off n c zs w hn hz hbig hc
def Try.laysNm220_ren : Go.Shelf.Ren := ⟨fun | 20 => 26 | n => n, fun | 22 => 24 | 3 => 3 | 4 => 4 | 0 => 0 | n => n, fun | n => n⟩
theorem Try.laysNm220 : Go.Proofs.Lays2.n20 Try.prog Try.laysNm220_ren := {
  mixed := by kernel_rfl
  f20 := Try.func26.trans (congrArg some (by kernel_rfl))
  t0 := Try.underlying0
  a0 := Try.isAgg0
  z0 := Try.sizeOf0
  v0 := Try.zeroValue0
  t3 := Try.underlying3
  a3 := Try.isAgg3
  z3 := Try.sizeOf3
  v3 := Try.zeroValue3
  t4 := Try.underlying4
  a4 := Try.isAgg4
  z4 := Try.sizeOf4
  v4 := Try.zeroValue4
  t22 := Try.underlying24
  a22 := Try.isAgg24
  z22 := Try.sizeOf24
  v22 := Try.zeroValue24
  i3 := by kernel_rfl }
open Go.RowKit Go.Lib Go.Sort in
/-- slices.Compact at []int: "Compact replaces consecutive runs of equal elements with a single copy. This is like the uniq command found on Unix. Compact modifies the contents of the slice s and returns the modified slice, which may have a smaller length. Compact zeroes the elements between the new length and the original length. The result preserves the nilness of s.": IT RETURNS THE SLICE CUT TO 'Lib.compact zs'; ITS CELLS HOLD 'Lib.compact zs', THEN ZERO VALUES up to the old length; all else is as it was, but for the count of draws. IN THE WORDS OF slices.Sort's CONTRACT ('Holds', 'putRow'): so the everyday 'slices.Sort(xs); xs = slices.Compact(xs)' goes from the one contract to the other. It asks 'zs.length ≤ cap' (every slice's: the reslicing 's[:k]' looks at it). Length 0, nil: '.._empty'. (LAID: no walk: one application.) -/
theorem Try.slices_Compact_int (blk off cap : Nat) (zs : List Int) (w : World) (hH : Holds (Value.int .i64) w blk off zs.toArray) (hsz : zs.length ≤ 9223372036854775807) (hcap : zs.length ≤ cap) :
    Calls Try.prog 26 #[.slice (some ⟨blk, off, none⟩) zs.length cap] w fun e w' => e = .returned (.slice (some ⟨blk, off, none⟩) (Lib.compact zs).length cap) ∧ ∃ q, w' = putRow (Value.int .i64) (Sort.ahead w q) blk off (Lib.compact zs ++ List.replicate (zs.length - (Lib.compact zs).length) 0).toArray := Any.slices_Compact_int Try.laysNm220 blk off cap zs w hH hsz hcap
open Go.RowKit Go.Lib Go.Sort in
/-- The same at a slice of length 0, a nil one too: it comes back as it is. (LAID: no walk: one application.) -/
theorem Try.slices_Compact_int_empty (a : Option Addr) (cap : Nat) (w : World) :
    Calls Try.prog 26 #[.slice a 0 cap] w fun e w' => e = .returned (.slice a 0 cap) ∧ w' = w := Any.slices_Compact_int_empty Try.laysNm220 a cap w
open Go.RowKit Go.Sort in
/-- .. and plain. (LAID: no walk: one application.) -/
theorem Try.slices_Sort_int_none (p : Option Addr) (cap : Nat) (w : World) :
    Calls Try.prog 25 #[.slice p 0 cap] w fun e w' => e = .returned (.tuple #[]) ∧ w' = w := Any.slices_Sort_int_none Try.lays189 p cap w
end Go.Proofs
