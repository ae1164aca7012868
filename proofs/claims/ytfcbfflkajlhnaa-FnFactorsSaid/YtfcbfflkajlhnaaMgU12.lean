/- Texts put together. -/
import Derived.Test.YtfcbfflkajlhnaaMgU11
import Derived.Test.YtfcbfflkajlhnaaMgU6
import Derived.Test.YtfcbfflkajlhnaaMgU9
import Derived.Deep.Matrix
import Derived.Test.YtfcbfflkajlhnaaMgU2
import Derived.Lib.Join
/- The program's sets of factors: canHaveFactors, factors, followed, led. Conditions: lengths. -/
namespace Go.Proofs.Ytfcbfflkajlhnaa
open Go.RowKit

theorem implCanHave (s : ByteArray) (n : Int) (w : World) (hs : s.size ≤ 1048576) :
    Calls Try.prog 82 #[.string s, .int .i64 n] w fun e w' => e = .returned (.bool (fctOk s n)) ∧ Below w.heap.size w w' := by
  cases hw : wordB s
  · have HV : Hid (fctOk s n = false) := by show fctOk s n = false; unfold fctOk; rw [hw]; rfl
    have HW := Lib.hid hw
    clear hw
    go_enter Try.func82, Try.ntmps82
    go_wp2_with fail
    refine (implOk s _ hs).mono ?_
    rintro e w1 ⟨rfl, hb⟩
    have HB := Lib.hid hb
    rw [HW.out]
    clear hb
    go_wp2_with fail
    go_ret
    exact ⟨ret_bool HV.out.symm, HB.out⟩
  · have HV : Hid (fctOk s n = (decide (1 ≤ n) && decide (n ≤ 400))) := by show fctOk s n = _; unfold fctOk; rw [hw]; rfl
    have HW := Lib.hid hw
    clear hw
    by_cases h1 : 1 ≤ n
    · have d1 : decide ((1 : Int) ≤ n) = true := by simpa using h1
      go_enter Try.func82, Try.ntmps82
      go_wp2_with fail
      refine (implOk s _ hs).mono ?_
      rintro e w1 ⟨rfl, hb⟩
      have HB := Lib.hid hb
      rw [HW.out]
      clear hb
      go_wp2_with fail
      go_ret
      exact ⟨ret_bool (by rw [HV.out, d1]; simp), HB.out⟩
    · have d1 : decide ((1 : Int) ≤ n) = false := by simpa using h1
      go_enter Try.func82, Try.ntmps82
      go_wp2_with fail
      refine (implOk s _ hs).mono ?_
      rintro e w1 ⟨rfl, hb⟩
      have HB := Lib.hid hb
      rw [HW.out]
      clear hb
      go_wp2_with fail
      go_ret
      exact ⟨ret_bool (by rw [HV.out, d1]; simp), HB.out⟩

abbrev tSet : TypeId := 89
theorem uSet : Try.prog.underlying tSet = some (.map fK 4) := Try.underlying89

theorem build_f (s : ByteArray) (w : World) : (Instr.build 124 #[(0, .string s)]).run Try.prog w = .ok (.agg #[.string s, .int .u8 0]) w := run_build w _ _ _ (by kernel_rfl)
theorem build_fb (s : ByteArray) (z : Int) (w : World) : (Instr.build 124 #[(0, .string s), (1, .int .u8 z)]).run Try.prog w = .ok (.agg #[.string s, .int .u8 z]) w := run_build w _ _ _ (by kernel_rfl)
theorem fok_part (s : ByteArray) (hs : s.size ≤ 1048576) (i n : Nat) (z : Int) (h : 0 ≤ z ∧ z ≤ 255) : FOk (s.extract i (i + n), z) :=
  ⟨by show (s.extract i (i + n)).size ≤ maxLen; rw [ByteArray.size_extract]; unfold maxLen; omega, h⟩

theorem index_at {P : Program} {t : TypeId} (ht : P.underlying t = some .string) (s : ByteArray) (z : Int) (k : Nat) (w : World) (hk : k < s.size) (hz : z = k) : (Instr.index t (.string s) (.int .i64 z)).run P w = .ok (.int .u8 (s[k].toNat : Int)) w := by
  subst hz
  rw [run_index_string _ _ _ _ _ ht]
  simp [hk]
/-- the keys of a set -/
def SetIs (L : List FK) (S : FK → Prop) : Prop := ∀ p, p ∈ L ↔ S p
def facS (s : ByteArray) (n i : Nat) (p : FK) : Prop := ∃ j, j < i ∧ p = (s.extract j (j + n), 0)
def folS (s : ByteArray) (n i : Nat) (p : FK) : Prop := ∃ j, j < i ∧ ∃ h : j + n < s.size, p = (s.extract j (j + n), (s[j + n].toNat : Int))
def ledS (s : ByteArray) (n i : Nat) (p : FK) : Prop := ∃ j, j < i ∧ ∃ h : j + n < s.size, p = (s.extract (j + 1) (j + 1 + n), ((s[j]'(by omega)).toNat : Int))
theorem set_empty {S : FK → Prop} (h : ∀ p, ¬ S p) : SetIs [] S := fun p => by simp [h p]
theorem set_next {L L' : List FK} {S S' : FK → Prop} {q : FK} (h : SetIs L S) (h' : ∀ p, p ∈ L' ↔ p = q ∨ p ∈ L) (hS : ∀ p, S' p ↔ p = q ∨ S p) : SetIs L' S' := fun p => by rw [h', h p, hS p]
theorem facS_zero (s : ByteArray) (n : Nat) (p : FK) : ¬ facS s n 0 p := by rintro ⟨j, h, _⟩; omega
theorem folS_zero (s : ByteArray) (n : Nat) (p : FK) : ¬ folS s n 0 p := by rintro ⟨j, h, _⟩; omega
theorem ledS_zero (s : ByteArray) (n : Nat) (p : FK) : ¬ ledS s n 0 p := by rintro ⟨j, h, _⟩; omega
theorem facS_next (s : ByteArray) (n i : Nat) (p : FK) : facS s n (i + 1) p ↔ p = (s.extract i (i + n), 0) ∨ facS s n i p := by
  constructor
  · rintro ⟨j, h, e⟩
    by_cases hj : j = i
    · subst hj; exact .inl e
    · exact .inr ⟨j, by omega, e⟩
  · rintro (e | ⟨j, h, e⟩)
    · exact ⟨i, by omega, e⟩
    · exact ⟨j, by omega, e⟩
theorem folS_next (s : ByteArray) (n i : Nat) (hin : i + n < s.size) (p : FK) : folS s n (i + 1) p ↔ p = (s.extract i (i + n), (s[i + n].toNat : Int)) ∨ folS s n i p := by
  constructor
  · rintro ⟨j, h, e⟩
    by_cases hj : j = i
    · subst hj; exact .inl e.2
    · exact .inr ⟨j, by omega, e⟩
  · rintro (e | ⟨j, h, e⟩)
    · exact ⟨i, by omega, hin, e⟩
    · exact ⟨j, by omega, e⟩
theorem ledS_next (s : ByteArray) (n i : Nat) (hin : i + n < s.size) (p : FK) : ledS s n (i + 1) p ↔ p = (s.extract (i + 1) (i + 1 + n), ((s[i]'(by omega)).toNat : Int)) ∨ ledS s n i p := by
  constructor
  · rintro ⟨j, h, e⟩
    by_cases hj : j = i
    · subst hj; exact .inl e.2
    · exact .inr ⟨j, by omega, e⟩
  · rintro (e | ⟨j, h, e⟩)
    · exact ⟨i, by omega, hin, e⟩
    · exact ⟨j, by omega, e⟩

set_option maxHeartbeats 400000 in
theorem implFactors (s : ByteArray) (n : Nat) (w : World) (hs : s.size ≤ 400) (h1 : 1 ≤ n) (h8 : n ≤ 1000) :
    Calls Try.prog 83 #[.string s, .int .i64 n] w fun e w' => ∃ L, e = .returned (.map (some w.heap.size)) ∧ FSet w' w.heap.size L ∧ SetIs L (facS s n (s.size + 1 - n)) ∧ L.length ≤ 400 ∧ Below w.heap.size w w' := by
  have hmm := @run_makeMap Try.prog
  have hbf := build_f
  go_enter Try.func83, Try.ntmps83
  go_wp2_with fail
  go_loopw [13] (fun ix w' => ∃ (i : Nat) (L : List FK), i ≤ s.size + 1 - n ∧ ix = .int .i64 (i : Int) ∧ FSet w' w.heap.size L ∧ SetIs L (facS s n i) ∧ L.length ≤ i ∧ Below w.heap.size w w') (fun ix _ => s.size + 1 - n - (intOf ix).toNat)
  case atStart => exact ⟨0, [], by omega, rfl, FMap.made w _, set_empty (facS_zero s n), Nat.le_refl _, (Below.refl _ _).alloc (Nat.le_refl _) _⟩
  case round =>
    obtain ⟨i, L, hi, rfl, hF, hL, hl, hb⟩ := hrel
    have HF := Lib.hid hF
    have HL := Lib.hid hL
    have HB := Lib.hid hb
    clear hF hL hb
    by_cases hlt : i < s.size + 1 - n
    · have dlt : (i : Int) < (s.size : Int) - (n : Int) + 1 := by omega
      have hsl : ∀ w : World, (Instr.slice 68 (.string s) (some (.int .i64 (i : Int))) (some (.int .i64 ((i : Int) + (n : Int)))) none).run Try.prog w = .ok (.string (s.extract i (i + n))) w := fun w => slice_at Try.underlying68 s i n w (by omega)
      go_wp2_with (at_mapUpdate; refine wp_put _ rfl _ _ _ tSet rfl fT fk_law uSet w.heap.size L (fun _ => .bool true) rfl HF.out (by unfold maxLen; omega) (s.extract i (i + n), 0) (.bool true) rfl rfl (fok_part s (by omega) i n 0 (by omega)) (fun _ => .bool true) (fun _ _ _ => rfl) (plainElem_bool Try.underlying4 true) ?_; intro w2 L2 hF2 hm2 hl2 hg2 hs2)
      go_roundw
      case rel =>
        exact ⟨i + 1, L2, by omega, by go_num, hF2, set_next HL.out hm2 (facS_next s n i), by omega, HB.out.grown hg2 HB.out.size (fun k hk => by injection hk with hk; omega)⟩
      case measure => simp [intOf]; omega
    · have hii : i = s.size + 1 - n := by omega
      have dlt : ¬ (i : Int) < (s.size : Int) - (n : Int) + 1 := by omega
      go_wp2_with fail
      go_ret
      exact ⟨rfl, L, HF.out, by rw [← hii]; exact HL.out, by omega, HB.out⟩

set_option maxHeartbeats 400000 in
theorem implFollowed (s : ByteArray) (n : Nat) (w : World) (hs : s.size ≤ 400) (h8 : n ≤ 1048576) :
    Calls Try.prog 88 #[.string s, .int .i64 n] w fun e w' => ∃ L, e = .returned (.map (some w.heap.size)) ∧ FSet w' w.heap.size L ∧ SetIs L (folS s n (s.size - n)) ∧ L.length ≤ 400 ∧ Below w.heap.size w w' := by
  have hmm := @run_makeMap Try.prog
  have hbf := build_fb
  go_enter Try.func88, Try.ntmps88
  go_wp2_with fail
  go_loopw [12] (fun ix w' => ∃ (i : Nat) (L : List FK), i ≤ s.size - n ∧ ix = .int .i64 (i : Int) ∧ FSet w' w.heap.size L ∧ SetIs L (folS s n i) ∧ L.length ≤ i ∧ Below w.heap.size w w') (fun ix _ => s.size - n - (intOf ix).toNat)
  case atStart => exact ⟨0, [], by omega, rfl, FMap.made w _, set_empty (folS_zero s n), Nat.le_refl _, (Below.refl _ _).alloc (Nat.le_refl _) _⟩
  case round =>
    obtain ⟨i, L, hi, rfl, hF, hL, hl, hb⟩ := hrel
    have HF := Lib.hid hF
    have HL := Lib.hid hL
    have HB := Lib.hid hb
    clear hF hL hb
    by_cases hlt : i < s.size - n
    · have hin : i + n < s.size := by omega
      have hi0 : i < s.size := by omega
      have dlt : (i : Int) < (s.size : Int) - (n : Int) := by omega
      have hq1 : IntKind.i64.wrap ((i : Int) + (n : Int)) = (i : Int) + (n : Int) := IntWalk.i64_in _ (by omega)
      have hsl : ∀ w : World, (Instr.slice 68 (.string s) (some (.int .i64 (i : Int))) (some (.int .i64 ((i : Int) + (n : Int)))) none).run Try.prog w = .ok (.string (s.extract i (i + n))) w := fun w => slice_at Try.underlying68 s i n w (by omega)
      have hix : ∀ w : World, (Instr.index 68 (.string s) (.int .i64 ((i : Int) + (n : Int)))).run Try.prog w = .ok (.int .u8 (s[i + n].toNat : Int)) w := fun w => index_at Try.underlying68 s _ (i + n) w hin (by omega)
      obtain ⟨w2, L2, hrun, hF2, hm2, hl2, hg2, hs2⟩ := HF.out.drew.put fT fk_law uSet (by unfold maxLen; omega) (s.extract i (i + n), (s[i + n].toNat : Int)) (.bool true) (fok_part s (by omega) i n _ (by have := s[i + n].toNat_lt; omega)) (fun _ => .bool true) (fun _ _ _ => rfl) (plainElem_bool Try.underlying4 true)
      have HF2 := Lib.hid hF2
      have HM2 := Lib.hid hm2
      have HG2 := Lib.hid hg2
      have HS : Hid (∀ p, folS s n (i + 1) p ↔ p = (s.extract i (i + n), (s[i + n].toNat : Int)) ∨ folS s n i p) := folS_next s n i hin
      clear hF2 hm2 hg2
      go_wp2_with fail
      go_region
      all_goals
        go_wp2_with fail
        go_roundw
        case rel => exact ⟨i + 1, L2, by omega, by go_num, HF2.out, set_next HL.out HM2.out HS.out, by omega, (below_drewN HB.out 1).grown HG2.out HB.out.size (fun k hk => by injection hk with hk; omega)⟩
        case measure => simp [intOf]; omega
    · have dlt : ¬ (i : Int) < (s.size : Int) - (n : Int) := by omega
      go_wp2_with fail
      go_ret
      exact ⟨rfl, L, HF.out, by rw [show s.size - n = i by omega]; exact HL.out, by omega, HB.out⟩

set_option maxHeartbeats 400000 in
theorem implLed (s : ByteArray) (n : Nat) (w : World) (hs : s.size ≤ 400) (h8 : n ≤ 1048576) :
    Calls Try.prog 90 #[.string s, .int .i64 n] w fun e w' => ∃ L, e = .returned (.map (some w.heap.size)) ∧ FSet w' w.heap.size L ∧ SetIs L (ledS s n (s.size - n)) ∧ L.length ≤ 400 ∧ Below w.heap.size w w' := by
  have hmm := @run_makeMap Try.prog
  have hbf := build_fb
  go_enter Try.func90, Try.ntmps90
  go_wp2_with fail
  go_loopw [12] (fun ix w' => ∃ (i : Nat) (L : List FK), i ≤ s.size - n ∧ ix = .int .i64 (i : Int) ∧ FSet w' w.heap.size L ∧ SetIs L (ledS s n i) ∧ L.length ≤ i ∧ Below w.heap.size w w') (fun ix _ => s.size - n - (intOf ix).toNat)
  case atStart => exact ⟨0, [], by omega, rfl, FMap.made w _, set_empty (ledS_zero s n), Nat.le_refl _, (Below.refl _ _).alloc (Nat.le_refl _) _⟩
  case round =>
    obtain ⟨i, L, hi, rfl, hF, hL, hl, hb⟩ := hrel
    have HF := Lib.hid hF
    have HL := Lib.hid hL
    have HB := Lib.hid hb
    clear hF hL hb
    by_cases hlt : i < s.size - n
    · have hin : i + n < s.size := by omega
      have hi0 : i < s.size := by omega
      have dlt : (i : Int) < (s.size : Int) - (n : Int) := by omega
      have hq1 : IntKind.i64.wrap ((i : Int) + 1) = (i : Int) + 1 := IntWalk.i64_in _ (by omega)
      have hq2 : IntKind.i64.wrap ((i : Int) + 1 + (n : Int)) = (i : Int) + 1 + (n : Int) := IntWalk.i64_in _ (by omega)
      have hsl : ∀ w : World, (Instr.slice 68 (.string s) (some (.int .i64 ((i : Int) + 1))) (some (.int .i64 ((i : Int) + 1 + (n : Int)))) none).run Try.prog w = .ok (.string (s.extract (i + 1) (i + 1 + n))) w := fun w => by
        have := slice_at (P := Try.prog) Try.underlying68 s (i + 1) n w (by omega)
        rwa [Int.natCast_add] at this
      have hix : ∀ w : World, (Instr.index 68 (.string s) (.int .i64 (i : Int))).run Try.prog w = .ok (.int .u8 ((s[i]'hi0).toNat : Int)) w := fun w => index_at Try.underlying68 s _ i w hi0 rfl
      obtain ⟨w2, L2, hrun, hF2, hm2, hl2, hg2, hs2⟩ := HF.out.drew.put fT fk_law uSet (by unfold maxLen; omega) (s.extract (i + 1) (i + 1 + n), ((s[i]'hi0).toNat : Int)) (.bool true) (fok_part s (by omega) (i + 1) n _ (by have := (s[i]'hi0).toNat_lt; omega)) (fun _ => .bool true) (fun _ _ _ => rfl) (plainElem_bool Try.underlying4 true)
      have HF2 := Lib.hid hF2
      have HM2 := Lib.hid hm2
      have HG2 := Lib.hid hg2
      have HS : Hid (∀ p, ledS s n (i + 1) p ↔ p = (s.extract (i + 1) (i + 1 + n), ((s[i]'hi0).toNat : Int)) ∨ ledS s n i p) := ledS_next s n i hin
      clear hF2 hm2 hg2
      go_wp2_with fail
      go_region
      all_goals
        go_wp2_with fail
        go_roundw
        case rel => exact ⟨i + 1, L2, by omega, by go_num, HF2.out, set_next HL.out HM2.out HS.out, by omega, (below_drewN HB.out 1).grown HG2.out HB.out.size (fun k hk => by injection hk with hk; omega)⟩
        case measure => simp [intOf]; omega
    · have dlt : ¬ (i : Int) < (s.size : Int) - (n : Int) := by omega
      go_wp2_with fail
      go_ret
      exact ⟨rfl, L, HF.out, by rw [show s.size - n = i by omega]; exact HL.out, by omega, HB.out⟩
end Go.Proofs.Ytfcbfflkajlhnaa

/- szIntSS: a bound on all that a slice of slices of ints holds. -/
namespace Go.Proofs.Ytfcbfflkajlhnaa
open Go.ChangeShapes Go.WideShapes Go.RowKit

def lens (m : List (List Int)) : List Nat := m.map List.length
theorem lens_at (m : List (List Int)) (j : Nat) (h : j < m.length) (h' : j < (lens m).length) : (lens m)[j] = m[j].length := by simp [lens]
/-- what szIntSS says -/
def SzMat (m : List (List Int)) (left : Int) (w : World) (e : Ending) (w' : World) : Prop :=
  w = w' ∧ ∃ r : Int, e = .returned (.int .i64 r) ∧ -1 ≤ r ∧ r ≤ left ∧ (0 ≤ r → (m.length : Int) + sumN (lens m) + r = left)
theorem szI_neg {left : Int} {n : Nat} (h : left < n) : szI left n = -1 := if_pos h
theorem szI_pos {left : Int} {n : Nat} (h : ¬ left < n) : szI left n = left - n := if_neg h

/-- a slice of slices of ints that came in, opened -/
theorem mat_cell {H : Type} {enc : TypeId × Value → H} {P : Program} {w : World} {base fuel : Nat} {t e q : TypeId} {v : Value} {y : DataW H × List MemPlace} (ht : P.underlying t = some (.slice e)) (he : P.underlying e = some (.slice q)) (hq : P.underlying q = some (.int .i64)) (ce : P.cellsOf e = 1) (cq : P.cellsOf q = 1)
    (hf : DataW.trod enc P w base (fun _ => true) true fuel t [v] = some y) : ∃ m : List (List Int), Mat w v m ∧ (∀ r ∈ m, ∀ z ∈ r, (Lit.int .i64 z).wf = true) ∧ m.length ≤ 9223372036854775807 := by
  rcases Deep.open_int_rows ht he hq ce cq hf with ⟨hcs, _⟩ | ⟨a, len, cap, A, L, C, Z, hcs, _, hl, hm, _, hrow⟩
  · simp at hcs
    subst hcs
    exact ⟨[], ⟨[], ⟨none, 0, by simp, by simp, by simp [maxLen], .inl rfl⟩, rfl, fun i h => absurd h (by simp)⟩, by simp, by simp⟩
  · simp at hcs
    subst hcs
    have hml : ((List.range len).map fun r => (Z r).take (L r)).length = len := by simp
    refine ⟨(List.range len).map fun r => (Z r).take (L r), ⟨(List.range len).map fun r => Value.slice (A r) (L r) (C r), ?_, by simp, fun i h h' => ?_⟩, fun r hr z hz => ?_, by simp; unfold maxLen at hm; omega⟩
    · refine ⟨some a, cap, by simp, by simpa using hl, hm, ?_⟩
      by_cases h0 : len = 0
      · subst h0
        exact .inl (by simp)
      · obtain ⟨b, off, spot⟩ := a
        have h1 := (hrow 0 (by omega)).1
        have hspot : spot = none := by simpa [Addr.add] using World.cell?_spot h1
        subst hspot
        refine .inr ⟨b, off, rfl, fun i u hu => ?_⟩
        have hi : i < len := by
          have := (List.getElem?_eq_some_iff.1 hu).1
          simpa using this
        have h2 := (hrow i (by omega)).1
        rw [Addr.add_lit] at h2
        rw [h2]
        simp [hi] at hu
        rw [hu]
    · have hi : i < len := by simpa using h'
      obtain ⟨_, hLC, hCm, hZ, _, hAn, hcell⟩ := hrow i (by omega)
      simp only [List.getElem_map, List.getElem_range]
      refine ⟨A i, C i, by simp [ints, hZ, Nat.min_eq_left hLC], by simp [ints, hZ, Nat.min_eq_left hLC]; exact hLC, hCm, ?_⟩
      by_cases h0 : L i = 0
      · exact .inl (by simp [ints, h0])
      · rcases hA : A i with _ | ⟨b, off, spot⟩
        · have := hAn hA
          omega
        · have h1 := (hcell _ hA).2 0 (by omega)
          have hspot : spot = none := by simpa [Addr.add] using World.cell?_spot h1
          subst hspot
          refine .inr ⟨b, off, rfl, fun c u hu => ?_⟩
          have hc : c < L i := by
            have := (List.getElem?_eq_some_iff.1 hu).1
            simp [ints, hZ, Nat.min_eq_left hLC] at this
            omega
          have h2 := (hcell _ hA).2 c (by omega)
          rw [Addr.add_lit] at h2
          rw [h2]
          simp [ints, hc] at hu
          obtain ⟨x, hx, rfl⟩ := hu
          simp [List.getD, hx]
    · obtain ⟨i, hi, rfl⟩ := List.mem_map.1 hr
      have hi' : i < len := by simpa using hi
      exact (hrow i (by omega)).2.2.2.2.1 z (List.mem_of_mem_take hz)
end Go.Proofs.Ytfcbfflkajlhnaa

/- What Join is to give. No program in it. -/
namespace Go.Proofs.Ytfcbfflkajlhnaa
open Go.RowKit

def joinS (xs : List ByteArray) (sep : ByteArray) : ByteArray := ⟨(Lib.join (xs.map (·.data.toList)) sep.data.toList).toArray⟩

def totalS (l : List ByteArray) : Nat := (l.map ByteArray.size).sum
theorem totalS_succ (l : List ByteArray) (k : Nat) (h : k < l.length) : totalS (l.take (k + 1)) = totalS (l.take k) + l[k].size := by
  unfold totalS
  rw [List.take_succ_eq_append_getElem h, List.map_append, List.sum_append]
  simp only [List.map_cons, List.map_nil, List.sum_cons, List.sum_nil, Nat.add_zero]
theorem joinS_nil (sep : ByteArray) : joinS [] sep = ⟨#[]⟩ := rfl
theorem joinS_one (x sep : ByteArray) : joinS [x] sep = x := by
  obtain ⟨⟨x⟩⟩ := x
  simp [joinS, Lib.join_one]
theorem joinS_first (l : List ByteArray) (sep : ByteArray) (k : Nat) (h0 : k = 0) (h : k < l.length) : joinS (l.take (k + 1)) sep = joinS (l.take k) sep ++ l[k] := by
  subst h0
  cases l with
  | nil => simp at h
  | cons x r =>
    show joinS [x] sep = joinS [] sep ++ x
    rw [joinS_one, joinS_nil]
    apply ByteArray.ext
    simp [ByteArray.data_append]
theorem bytes_eq (s : ByteArray) : s = ⟨s.data.toList.toArray⟩ := by obtain ⟨⟨l⟩⟩ := s; rfl
theorem joinS_next (l : List ByteArray) (sep : ByteArray) (k : Nat) (h0 : 0 < k) (h : k < l.length) : joinS (l.take (k + 1)) sep = joinS (l.take k) sep ++ sep ++ l[k] := by
  cases l with
  | nil => simp at h
  | cons x r =>
    obtain ⟨j, rfl⟩ : ∃ j, k = j + 1 := ⟨k - 1, by omega⟩
    have hj : j < r.length := by simpa using h
    have hr : (r.map (·.data.toList))[j]? = some r[j].data.toList := by simp [hj]
    have e1 : ((x :: r).take (j + 1 + 1)).map (·.data.toList) = x.data.toList :: (r.map (·.data.toList)).take (j + 1) := by simp [List.map_take]
    have e2 : ((x :: r).take (j + 1)).map (·.data.toList) = x.data.toList :: (r.map (·.data.toList)).take j := by simp [List.map_take]
    unfold joinS
    rw [e1, e2, Lib.join_cons, Lib.join_cons, Lib.joinTail_take_succ _ _ _ _ hr]
    rw [List.getElem_cons_succ]
    generalize r[j] = z
    obtain ⟨⟨z⟩⟩ := z
    obtain ⟨⟨p⟩⟩ := sep
    rw [show (ByteArray.mk { toList := p }) = ByteArray.mk p.toArray from rfl, show (ByteArray.mk { toList := z }) = ByteArray.mk z.toArray from rfl, ByteArray.mk_append_mk, ByteArray.mk_append_mk]
    simp only [List.append_assoc]
theorem lens_total (l : List ByteArray) : Lib.lens (l.map (·.data.toList)) = totalS l := by
  unfold Lib.lens totalS
  rw [List.map_map]
  congr 1
theorem joinS_size (l : List ByteArray) (sep : ByteArray) : (joinS l sep).size ≤ totalS l + l.length * sep.size := by
  cases l with
  | nil => exact Nat.zero_le _
  | cons x r =>
    have h1 : (joinS (x :: r) sep).size = x.size + (sep.size * r.length + totalS r) := by
      show (Lib.join _ _).toArray.size = _
      rw [List.size_toArray, List.map_cons, Lib.join_cons, List.length_append, Lib.joinTail_length, lens_total, List.length_map]
      rfl
    have h2 : totalS (x :: r) = x.size + totalS r := by simp [totalS]
    rw [h1, h2, List.length_cons, Nat.succ_mul, Nat.mul_comm]
    omega
theorem totalS_take (l : List ByteArray) (k : Nat) : totalS (l.take k) ≤ totalS l := by
  rw [← lens_total, ← lens_total, List.map_take]
  exact Lib.lens_take_le _ _
theorem joinS_small (l : List ByteArray) (sep : ByteArray) (h1 : l.length + totalS l ≤ 1048576) (h2 : sep.size ≤ 1048576) (k : Nat) : (joinS (l.take k) sep).size ≤ 1099512676352 := by
  have a := joinS_size (l.take k) sep
  have b := totalS_take l k
  have c : (l.take k).length * sep.size ≤ 1048576 * 1048576 := Nat.mul_le_mul (by rw [List.length_take]; omega) h2
  omega
end Go.Proofs.Ytfcbfflkajlhnaa
