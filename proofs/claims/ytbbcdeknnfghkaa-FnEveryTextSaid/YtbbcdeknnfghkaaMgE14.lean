/- Texts put together. -/
import Derived.Test.YtbbcdeknnfghkaaMgE2
import Derived.Test.YtbbcdeknnfghkaaMgE10
import Derived.Deep.QuietTactic
import Derived.BigQuiet
import Derived.Test.YtbbcdeknnfghkaaMgE13
/- What SplitAny is to give. No program in it. -/
namespace Go.Proofs.Ytbbcdeknnfghkaa
open Go.RowKit

def isSep (y : ByteArray) (c : UInt8) : Prop := ∃ i, ∃ h : i < y.size, y[i] = c
open Classical in
noncomputable def splitTo (s y : ByteArray) : Nat → List ByteArray × Nat
  | 0 => ([], 0)
  | k + 1 => if ∃ h : k < s.size, isSep y s[k] then ((splitTo s y k).1 ++ [s.extract (splitTo s y k).2 k], k + 1) else splitTo s y k
noncomputable def splitL (s y : ByteArray) : List ByteArray := (splitTo s y s.size).1 ++ [s.extract (splitTo s y s.size).2 s.size]
theorem splitTo_le (s y : ByteArray) : ∀ k, (splitTo s y k).1.length ≤ k ∧ (splitTo s y k).2 ≤ k
  | 0 => by simp [splitTo]
  | k + 1 => by
    have := splitTo_le s y k
    unfold splitTo
    split
    · simp; omega
    · omega
theorem splitTo_yes {s y : ByteArray} {k : Nat} (h : k < s.size) (hs : isSep y s[k]) : splitTo s y (k + 1) = ((splitTo s y k).1 ++ [s.extract (splitTo s y k).2 k], k + 1) := by
  rw [splitTo, if_pos ⟨h, hs⟩]
theorem splitTo_no {s y : ByteArray} {k : Nat} (h : k < s.size) (hs : ¬ isSep y s[k]) : splitTo s y (k + 1) = splitTo s y k := by
  rw [splitTo, if_neg (fun ⟨_, h2⟩ => hs h2)]
theorem splitTo_small (s y : ByteArray) : ∀ k, ∀ x ∈ (splitTo s y k).1, x.size ≤ s.size
  | 0 => by simp [splitTo]
  | k + 1 => by
    intro x hx
    unfold splitTo at hx
    split at hx
    · rcases List.mem_append.1 hx with hx | hx
      · exact splitTo_small s y k x hx
      · simp only [List.mem_singleton] at hx
        subst hx
        rw [ByteArray.size_extract]
        omega
    · exact splitTo_small s y k x hx
theorem splitL_small (s y : ByteArray) : ∀ x ∈ splitL s y, x.size ≤ s.size := by
  intro x hx
  unfold splitL at hx
  rcases List.mem_append.1 hx with hx | hx
  · exact splitTo_small s y _ x hx
  · simp only [List.mem_singleton] at hx
    subst hx
    rw [ByteArray.size_extract]
    omega
theorem splitL_length (s y : ByteArray) : (splitL s y).length ≤ s.size + 1 := by
  unfold splitL
  have := (splitTo_le s y s.size).1
  simp
  omega
theorem strs_one (l : List ByteArray) : ∀ u ∈ strs l, u.oneCell' = true := by
  intro u hu
  obtain ⟨_, _, rfl⟩ := List.mem_map.1 hu
  rfl
end Go.Proofs.Ytbbcdeknnfghkaa

/- SplitAny and SplitLines of the model and of the program return the same list of strings in a row of their own. Condition: texts of at most 2^20 bytes. -/
namespace Go.Proofs.Ytbbcdeknnfghkaa
open Go.RowKit

set_option maxHeartbeats 800000 in
theorem specSplitAny (s y : ByteArray) (w : World) (hs : s.size ≤ 1048576) (hy : y.size ≤ 1048576) :
    Calls Try.prog 45 #[.string s, .string y] w fun e w' => ∃ v, e = .returned v ∧ w'.ownsRow w.heap.size 9 1 v (splitL s y).length (strs (splitL s y)) ∧ Below w.heap.size w w' := by
  obtain ⟨i0, hi0, hz0, hz1, hz2⟩ := info_parts str_info
  go_enter Try.func45, Try.ntmps45
  go_wp2
  go_loopw [5, 6, 7] (fun o fr i w' => ∃ (k f : Nat) (ps : List ByteArray), k ≤ s.size ∧ splitTo s y k = (ps, f) ∧ i = .int .i64 k ∧ fr = .int .i64 f ∧ f ≤ k ∧ ps.length ≤ k ∧ w'.ownsRow w.heap.size 9 1 o ps.length (strs ps) ∧ Below w.heap.size w w') (fun _ _ i _ => s.size - (intOf i).toNat)
  case atStart =>
    exact ⟨0, 0, [], by omega, rfl, rfl, rfl, by omega, by simp, World.ownsRow_made w #[] 0 (Nat.le_refl _) (by simp [maxLen]) (by simp), (Below.refl _ _).alloc (Nat.le_refl _) _⟩
  case round =>
    obtain ⟨k, f, ps, hk, hsp, rfl, rfl, hfk, hpk, ho, hb⟩ := hrel
    have HSP := Lib.hid hsp
    clear hsp
    obtain ⟨wo, rfl⟩ : ∃ wo : World, wo = wr := ⟨_, rfl⟩
    obtain ⟨vo, hvo⟩ : ∃ vo : Value, vo = u5 := ⟨_, rfl⟩
    subst hvo
    have hsz := hb.size
    by_cases hlt : k < s.size
    · go_wp2
      go_loopw [5, 6, 8] (fun o fr j w' => ∃ (i n : Nat), i ≤ y.size ∧ o = vo ∧ fr = .int .i64 f ∧ j = .int .i64 i ∧ w' = wo.drewN n ∧ ∀ t (h : t < y.size), t < i → y[t] ≠ s[k]) (fun _ _ j _ => y.size - (intOf j).toNat)
      case atStart => exact ⟨0, 0, by omega, rfl, rfl, rfl, rfl, fun t _ h => absurd h (by omega)⟩
      case round =>
        obtain ⟨i, n, hi, rfl, rfl, rfl, rfl, hno⟩ := hrel
        have HNO := Lib.hid hno
        clear hno
        by_cases hlt2 : i < y.size
        · by_cases heq : y[i] = s[k]
          · have hbq : ((s[k].toNat : Int) == (y[i].toNat : Int)) = true := by rw [heq]; simp
            have HEQ := Lib.hid heq
            clear heq
            go_wp2
            go_quiet (fail)
            go_wp2_with (first
              | (at_builtin
                 refine wpList_append1 _ rfl (.tmp 29) (.tmp 34) _ rfl w.heap.size 9 i0 _ 16 Try.underlying22 hi0 hz0 hz1 hz2 rfl _ ps.length (strs ps) rfl ho (.string (s.extract f k)) rfl rfl (by unfold maxLen; omega) (by omega) hsz ?_
                 intro v' w1 hown1 hbel1))
            go_roundw
            case rel =>
              refine ⟨k + 1, k + 1, ps ++ [s.extract f k], by omega, ?_, by go_num, by go_num, by omega, by simp; omega, ?_, (below_drewN hb _).trans hbel1⟩
              · rw [splitTo_yes hlt ⟨i, hlt2, HEQ.out⟩, HSP.out]
              · rw [strs_snoc, List.length_append]
                exact hown1
            case measure => simp [intOf]; omega
          · have hbq : ((s[k].toNat : Int) == (y[i].toNat : Int)) = false := by
              rw [beq_eq_false_iff_ne]
              intro h
              exact heq (UInt8.toNat_inj.1 (by omega))
            have HEQ := Lib.hid heq
            clear heq
            go_wp2
            go_quiet (fail)
            go_wp2
            go_roundw
            case rel =>
              refine ⟨i + 1, _, by omega, rfl, rfl, by go_num, rfl, fun t h ht => ?_⟩
              by_cases e : t = i
              · subst e; exact HEQ.out
              · exact HNO.out t h (by omega)
            case measure => simp [intOf]; omega
        · go_wp2
          go_roundw
          case rel =>
            refine ⟨k + 1, f, ps, by omega, ?_, by go_num, rfl, by omega, by omega, ho, below_drewN hb _⟩
            rw [splitTo_no hlt (fun ⟨t, ht, hte⟩ => HNO.out t ht (by omega) hte)]
            exact HSP.out
          case measure => simp [intOf]; omega
    · have hks : k = s.size := by omega
      subst hks
      have hL : splitL s y = ps ++ [s.extract f s.size] := by unfold splitL; rw [HSP.out]
      have HL := Lib.hid hL
      clear hL
      go_wp2_with (first
        | (at_builtin
           refine wpList_append1 _ rfl (.tmp 38) (.tmp 42) _ rfl w.heap.size 9 i0 _ 16 Try.underlying22 hi0 hz0 hz1 hz2 rfl _ ps.length (strs ps) rfl ho _ rfl rfl (by unfold maxLen; omega) (by omega) hsz ?_
           intro v' w1 hown1 hbel1))
      go_ret
      refine ⟨_, rfl, ?_, hb.trans hbel1⟩
      rw [HL.out, strs_snoc, List.length_append]
      exact hown1
end Go.Proofs.Ytbbcdeknnfghkaa

/- FormatSubst, ParseSubst and NamedSubst of the model. Conditions: lengths of at most 2^20. -/
namespace Go.Proofs.Ytbbcdeknnfghkaa
open Go.RowKit

/-- what FormatSubst is to return -/
def fmtR (l : List ByteArray) : ByteArray := if substB l = true then joinS l ⟨#[44]⟩ else ⟨#[]⟩
theorem total_of_all : ∀ (l : List ByteArray) (m : Nat), (∀ x ∈ l, x.size ≤ m) → totalS l ≤ m * l.length
  | [], _, _ => by simp [totalS]
  | x :: l, m, h => by
    have h1 := h x (List.mem_cons_self ..)
    have h2 := total_of_all l m (fun y hy => h y (List.mem_cons_of_mem _ hy))
    unfold totalS at h2 ⊢
    rw [List.map_cons, List.sum_cons, List.length_cons, Nat.mul_succ]
    omega
theorem subst_total {l : List ByteArray} (h : substB l = true) : l.length + totalS l ≤ 36 := by
  obtain ⟨_, h4, hi⟩ := subst_parts h
  have := total_of_all l 8 (fun x hx => by
    obtain ⟨k, hk, rfl⟩ := List.mem_iff_getElem.1 hx
    exact (img_parts (hi k hk)).2.1)
  omega

theorem specFormatSubst (l : List ByteArray) (v : Value) (w : World) (h : Lst w v (strs l)) (hz : ∀ x ∈ l, x.size ≤ 1048576) (hn : l.length ≤ 1048576) :
    Calls Try.prog 47 #[.agg #[v]] w fun e w' => e = .returned (.string (fmtR l)) ∧ Below w.heap.size w w' := by
  obtain ⟨A, cp, rfl⟩ := lst_slice h
  rw [strs_length] at h ⊢
  have hb0 : Below w.heap.size w (w.alloc (.cells #[.slice A l.length cp] 24)) := (Below.refl _ _).alloc (Nat.le_refl _) _
  have HL := Lib.hid (h.below hb0)
  have HZ := Lib.hid hz
  have HB0 := Lib.hid hb0
  clear h hz hb0
  by_cases h1 : substB l = true
  · have ht := subst_total h1
    have HR : Hid (fmtR l = joinS l ⟨#[44]⟩) := if_pos h1
    go_enter Try.func47, Try.ntmps47
    go_wp2_with fail
    refine (specSubstOk l _ _ HL.out HZ.out hn).mono ?_
    rintro e w1 ⟨rfl, hb1⟩
    obtain ⟨hc, hf⟩ := below_reads hb1
    have HB1 := Lib.hid hb1
    have HB2 : Hid (Below w.heap.size w w1) := HB0.out.trans (hb1.mono (by simp))
    clear hb1
    go_wp2_with fail
    refine (specJoin_any l ⟨#[44]⟩ _ _ (HL.out.below HB1.out) (by omega) (by simp [ByteArray.size])).mono ?_
    rintro e w2 ⟨rfl, rfl⟩
    go_wp2_with fail
    go_ret
    exact ⟨ret_str HR.out.symm, HB2.out⟩
  · have h1' : substB l = false := by simpa using h1
    have HR : Hid (fmtR l = ⟨#[]⟩) := if_neg h1
    clear h1
    go_enter Try.func47, Try.ntmps47
    go_wp2_with fail
    refine (specSubstOk l _ _ HL.out HZ.out hn).mono ?_
    rintro e w1 ⟨rfl, hb1⟩
    have HB2 : Hid (Below w.heap.size w w1) := HB0.out.trans (hb1.mono (by simp))
    clear hb1
    go_wp2_with fail
    go_ret
    exact ⟨ret_str HR.out.symm, HB2.out⟩

/-- what ParseSubst is to return -/
noncomputable def parseOk (t : ByteArray) : Bool := decide (t.size ≤ 40) && (substB (splitL t ⟨#[44]⟩) && decide (fmtR (splitL t ⟨#[44]⟩) = t))
noncomputable def parseSub (t : ByteArray) : List ByteArray := if parseOk t = true then splitL t ⟨#[44]⟩ else []

theorem parseSub_le (t : ByteArray) : (parseSub t).length ≤ 41 := by
  unfold parseSub; split
  · rename_i h
    have h1 := splitL_length t ⟨#[44]⟩
    have h2 : t.size ≤ 40 := by
      unfold parseOk at h
      rw [Bool.and_eq_true] at h
      simpa using h.1
    omega
  · simp

set_option maxHeartbeats 1000000 in
theorem specParseSubst (t : ByteArray) (w : World) (_ : t.size ≤ 1048576) :
    Calls Try.prog 12 #[.string t] w (SubSaid (parseSub t) (parseOk t) w) := by
  have hb0 : Below w.heap.size w (w.alloc (.cells #[.slice none 0 0] 24)) := (Below.refl _ _).alloc (Nat.le_refl _) _
  have HB0 := Lib.hid hb0
  clear hb0
  by_cases h40 : t.size ≤ 40
  · have hs1 := splitL_length t ⟨#[44]⟩
    have HSM := Lib.hid (splitL_small t ⟨#[44]⟩)
    have HSP := Lib.hid (fun w => specSplitAny t ⟨#[44]⟩ w (by omega) (by simp [ByteArray.size]))
    have HOKS : Hid (parseOk t = (substB (splitL t ⟨#[44]⟩) && decide (fmtR (splitL t ⟨#[44]⟩) = t))) := by show parseOk t = _; unfold parseOk; rw [decide_eq_true h40]; rfl
    have HSUB : Hid (parseOk t = true → parseSub t = splitL t ⟨#[44]⟩) := fun h => if_pos h
    have HSUB2 : Hid (parseOk t = false → parseSub t = []) := fun h => if_neg (by rw [h]; decide)
    generalize splitL t ⟨#[44]⟩ = l at hs1 HSM HSP HOKS HSUB HSUB2
    go_enter Try.func12, Try.ntmps12
    go_wp2_with fail
    refine (HSP.out _).mono ?_
    rintro e w1 ⟨v, rfl, ho, hb1⟩
    obtain ⟨A, cp, rfl⟩ := own_slice ho
    obtain ⟨hc, hf⟩ := below_reads hb1
    have c1 : w1.cell? ⟨w.heap.size, 0, none⟩ = some (.slice none 0 0) := by rw [hc _ _ (by simp)]; go_simp
    have f1 : w1.frozen? ⟨w.heap.size, 0, none⟩ = false := by rw [hf _ _ (by simp)]; go_simp
    have hz1 : w.heap.size < w1.heap.size := by have := hb1.size; simp at this; omega
    have HB1 : Hid (Below w.heap.size w w1) := HB0.out.trans (hb1.mono (by simp))
    have HO : Hid (w1.ownsRow (w.heap.size + 1) 9 1 (.slice A l.length cp) l.length (strs l)) := own_mono ho (by simp)
    have hbd := build_sub A l.length cp
    have hbz := build_zero
    have hll : l.length ≤ 1048576 := by omega
    have HZ : Hid (∀ x ∈ l, x.size ≤ 1048576) := fun x hx => by have := HSM.out x hx; omega
    clear ho hb1 hc hf
    go_wp2_with fail
    refine (specSubstOk l _ _ ((Lst.of_own HO.out).below ((Below.refl _ _).alloc (Nat.le_refl _) _)) HZ.out hll).mono ?_
    rintro e w2 ⟨rfl, hb2⟩
    have c2 : w2.cell? ⟨w.heap.size, 0, none⟩ = some (.slice none 0 0) := (hb2.cell (p := ⟨w.heap.size, 0, none⟩) (by simp; omega)).trans (by go_simp)
    have f2 : w2.frozen? ⟨w.heap.size, 0, none⟩ = false := (hb2.frozen (p := ⟨w.heap.size, 0, none⟩) (by simp; omega)).trans (by go_simp)
    have d2 : w2.cell? ⟨w1.heap.size, 0, none⟩ = some (.slice A l.length cp) := (hb2.cell (p := ⟨w1.heap.size, 0, none⟩) (by simp)).trans (by go_simp)
    have hz2 : w1.heap.size < w2.heap.size := by have := hb2.size; simp at this; omega
    have hz20 : w.heap.size < w2.heap.size := by omega
    have HB2 : Hid (Below w.heap.size w w2) := (HB1.out.alloc (by omega) _).trans (hb2.mono (by simp; omega))
    have HO2 : Hid (w2.ownsRow (w.heap.size + 1) 9 1 (.slice A l.length cp) l.length (strs l)) := own_below (HO.out.alloc _) hb2
    clear hb2 c1 f1
    by_cases h1 : substB l = true
    · go_wp2_with fail
      refine (specFormatSubst l _ _ (Lst.of_own HO2.out) HZ.out hll).mono ?_
      rintro e w3 ⟨rfl, hb3⟩
      have c3 : w3.cell? ⟨w.heap.size, 0, none⟩ = some (.slice none 0 0) := (hb3.cell (p := ⟨w.heap.size, 0, none⟩) hz20).trans c2
      have f3 : w3.frozen? ⟨w.heap.size, 0, none⟩ = false := (hb3.frozen (p := ⟨w.heap.size, 0, none⟩) hz20).trans f2
      have d3 : w3.cell? ⟨w1.heap.size, 0, none⟩ = some (.slice A l.length cp) := (hb3.cell (p := ⟨w1.heap.size, 0, none⟩) hz2).trans d2
      have HB3 : Hid (Below w.heap.size w w3) := HB2.out.trans (hb3.mono (by omega))
      have HO3 : Hid (w3.ownsRow (w.heap.size + 1) 9 1 (.slice A l.length cp) l.length (strs l)) := own_below HO2.out hb3
      clear hb3 c2 f2 d2
      by_cases h2 : fmtR l = t
      · have HOK : Hid (parseOk t = true) := by rw [HOKS.out, h1, decide_eq_true h2]; rfl
        have HSB : Hid (parseSub t = l) := HSUB.out HOK.out
        have b1 : ((fmtR l).toList != t.toList) = false := by rw [h2]; simp
        have b2 : ((fmtR l).toList == t.toList) = true := by rw [h2]; simp
        clear h2
        go_wp2_with fail
        refine bodyPost_ret (v := .tuple #[.agg #[.slice A l.length cp], .bool true]) (by simp [results, Try.results12, go_sem, c3]) rfl ⟨.slice A l.length cp, ?_, ?_, ?_⟩
        · rw [HOK.out]
        · rw [HSB.out]
          exact own_mono (own_setCell HO3.out (by simp) _) (by omega)
        · exact HB3.out.setCell (by simp) _
      · have HOK : Hid (parseOk t = false) := by show parseOk t = false; rw [HOKS.out, decide_eq_false h2, Bool.and_false]
        have HSB : Hid (parseSub t = []) := HSUB2.out HOK.out
        have b2 : ((fmtR l).toList == t.toList) = false := by
          rw [beq_eq_false_iff_ne]
          exact fun h => h2 (bytes_ext h)
        have b1 : ((fmtR l).toList != t.toList) = true := by rw [bne, b2]; rfl
        clear h2
        go_wp2_with fail
        refine bodyPost_ret (v := .tuple #[.agg #[.slice none 0 0], .bool false]) (by simp [results, Try.results12, go_sem, c3]) rfl ⟨.slice none 0 0, ?_, ?_, ?_⟩
        · rw [HOK.out]
        · rw [HSB.out]
          exact World.ownsRow_nil _ _ _ _
        · exact HB3.out.setCell (by simp) _
    · have h1' : substB l = false := by simpa using h1
      have HOK : Hid (parseOk t = false) := by show parseOk t = false; rw [HOKS.out, h1', Bool.false_and]
      have HSB : Hid (parseSub t = []) := HSUB2.out HOK.out
      clear h1
      go_wp2_with fail
      refine bodyPost_ret (v := .tuple #[.agg #[.slice none 0 0], .bool false]) (by simp [results, Try.results12, go_sem, c2]) rfl ⟨.slice none 0 0, ?_, ?_, ?_⟩
      · rw [HOK.out]
      · rw [HSB.out]
        exact World.ownsRow_nil _ _ _ _
      · exact HB2.out.setCell (by simp) _
  · have HOK : Hid (parseOk t = false) := by show parseOk t = false; unfold parseOk; rw [decide_eq_false h40, Bool.false_and]
    have HSB : Hid (parseSub t = []) := if_neg (by rw [HOK.out]; decide)
    have hgt : 40 < t.size := by omega
    have hbz := build_zero
    go_enter Try.func12, Try.ntmps12
    go_wp2_with fail
    refine bodyPost_ret (v := .tuple #[.agg #[.slice none 0 0], .bool false]) (by simp [results, Try.results12, go_sem]) rfl ⟨.slice none 0 0, ?_, ?_, ?_⟩
    · rw [HOK.out]
    · rw [HSB.out]
      exact World.ownsRow_nil _ _ _ _
    · exact HB0.out
end Go.Proofs.Ytbbcdeknnfghkaa
