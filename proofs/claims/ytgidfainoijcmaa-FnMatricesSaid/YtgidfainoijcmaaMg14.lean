/- Texts put together. -/
import Derived.Test.YtgidfainoijcmaaMg9
import Derived.Test.YtgidfainoijcmaaMg13
import Derived.Deep.QuietTactic
import Derived.BigQuiet
import Derived.Test.YtgidfainoijcmaaMg8
import Derived.Test.YtgidfainoijcmaaMg7
import Derived.Deep.AppendLies
/- SplitAny and SplitLines of the model and of the program return the same list of strings in a row of their own. Condition: texts of at most 2^20 bytes. -/
namespace Go.Proofs.Ytgidfainoijcmaa
open Go.RowKit

set_option maxHeartbeats 800000 in
theorem specSplitAny (s y : ByteArray) (w : World) (hs : s.size ≤ 1048576) (hy : y.size ≤ 1048576) :
    Calls Try.prog 106 #[.string s, .string y] w fun e w' => ∃ v, e = .returned v ∧ w'.ownsRow w.heap.size 9 1 v (splitL s y).length (strs (splitL s y)) ∧ Below w.heap.size w w' := by
  obtain ⟨i0, hi0, hz0, hz1, hz2⟩ := info_parts str_info
  go_enter Try.func106, Try.ntmps106
  go_wp2
  go_loopw [5, 6, 7] (fun o fr i w' => ∃ (k f : Nat) (ps : List ByteArray), k ≤ s.size ∧ splitTo s y k = (ps, f) ∧ i = .int .i64 k ∧ fr = .int .i64 f ∧ f ≤ k ∧ ps.length ≤ k ∧ w'.ownsRow w.heap.size 9 1 o ps.length (strs ps) ∧ Below w.heap.size w w') (fun _ _ i _ => s.size - (intOf i).toNat)
  case atStart =>
    exact ⟨0, 0, [], by omega, rfl, rfl, rfl, by omega, by simp, World.ownsRow_made w #[] 0 (Nat.le_refl _) (by simp [maxLen]) (by simp), (Below.refl _ _).alloc (Nat.le_refl _) _⟩
  case round =>
    obtain ⟨k, f, ps, hk, hsp, rfl, rfl, hfk, hpk, ho, hb⟩ := hrel
    have HSP := Lib.hid hsp
    clear hsp
    obtain ⟨wo, rfl⟩ : ∃ wo : World, wo = wr := ⟨_, rfl⟩
    obtain ⟨vo, hvo⟩ : ∃ vo : Value, vo = u5 := ⟨_, rfl⟩
    subst hvo
    have hsz := hb.size
    by_cases hlt : k < s.size
    · go_wp2
      go_loopw [5, 6, 8] (fun o fr j w' => ∃ (i n : Nat), i ≤ y.size ∧ o = vo ∧ fr = .int .i64 f ∧ j = .int .i64 i ∧ w' = wo.drewN n ∧ ∀ t (h : t < y.size), t < i → y[t] ≠ s[k]) (fun _ _ j _ => y.size - (intOf j).toNat)
      case atStart => exact ⟨0, 0, by omega, rfl, rfl, rfl, rfl, fun t _ h => absurd h (by omega)⟩
      case round =>
        obtain ⟨i, n, hi, rfl, rfl, rfl, rfl, hno⟩ := hrel
        have HNO := Lib.hid hno
        clear hno
        by_cases hlt2 : i < y.size
        · by_cases heq : y[i] = s[k]
          · have hbq : ((s[k].toNat : Int) == (y[i].toNat : Int)) = true := by rw [heq]; simp
            have HEQ := Lib.hid heq
            clear heq
            go_wp2
            go_quiet (fail)
            go_wp2_with (first
              | (at_builtin
                 refine wpList_append1 _ rfl (.tmp 29) (.tmp 34) _ rfl w.heap.size 9 i0 _ 16 Try.underlying23 hi0 hz0 hz1 hz2 rfl _ ps.length (strs ps) rfl ho (.string (s.extract f k)) rfl rfl (by unfold maxLen; omega) (by omega) hsz ?_
                 intro v' w1 hown1 hbel1))
            go_roundw
            case rel =>
              refine ⟨k + 1, k + 1, ps ++ [s.extract f k], by omega, ?_, by go_num, by go_num, by omega, by simp; omega, ?_, (below_drewN hb _).trans hbel1⟩
              · rw [splitTo_yes hlt ⟨i, hlt2, HEQ.out⟩, HSP.out]
              · rw [strs_snoc, List.length_append]
                exact hown1
            case measure => simp [intOf]; omega
          · have hbq : ((s[k].toNat : Int) == (y[i].toNat : Int)) = false := by
              rw [beq_eq_false_iff_ne]
              intro h
              exact heq (UInt8.toNat_inj.1 (by omega))
            have HEQ := Lib.hid heq
            clear heq
            go_wp2
            go_quiet (fail)
            go_wp2
            go_roundw
            case rel =>
              refine ⟨i + 1, _, by omega, rfl, rfl, by go_num, rfl, fun t h ht => ?_⟩
              by_cases e : t = i
              · subst e; exact HEQ.out
              · exact HNO.out t h (by omega)
            case measure => simp [intOf]; omega
        · go_wp2
          go_roundw
          case rel =>
            refine ⟨k + 1, f, ps, by omega, ?_, by go_num, rfl, by omega, by omega, ho, below_drewN hb _⟩
            rw [splitTo_no hlt (fun ⟨t, ht, hte⟩ => HNO.out t ht (by omega) hte)]
            exact HSP.out
          case measure => simp [intOf]; omega
    · have hks : k = s.size := by omega
      subst hks
      have hL : splitL s y = ps ++ [s.extract f s.size] := by unfold splitL; rw [HSP.out]
      have HL := Lib.hid hL
      clear hL
      go_wp2_with (first
        | (at_builtin
           refine wpList_append1 _ rfl (.tmp 38) (.tmp 42) _ rfl w.heap.size 9 i0 _ 16 Try.underlying23 hi0 hz0 hz1 hz2 rfl _ ps.length (strs ps) rfl ho _ rfl rfl (by unfold maxLen; omega) (by omega) hsz ?_
           intro v' w1 hown1 hbel1))
      go_ret
      refine ⟨_, rfl, ?_, hb.trans hbel1⟩
      rw [HL.out, strs_snoc, List.length_append]
      exact hown1
end Go.Proofs.Ytgidfainoijcmaa

/- FormatSubst, ParseSubst and NamedSubst of the model. Conditions: lengths of at most 2^20. -/
namespace Go.Proofs.Ytgidfainoijcmaa
open Go.RowKit

/-- what FormatSubst is to return -/
def fmtR (l : List ByteArray) : ByteArray := if substB l = true then joinS l ⟨#[44]⟩ else ⟨#[]⟩
theorem total_of_all : ∀ (l : List ByteArray) (m : Nat), (∀ x ∈ l, x.size ≤ m) → totalS l ≤ m * l.length
  | [], _, _ => by simp [totalS]
  | x :: l, m, h => by
    have h1 := h x (List.mem_cons_self ..)
    have h2 := total_of_all l m (fun y hy => h y (List.mem_cons_of_mem _ hy))
    unfold totalS at h2 ⊢
    rw [List.map_cons, List.sum_cons, List.length_cons, Nat.mul_succ]
    omega
theorem subst_total {l : List ByteArray} (h : substB l = true) : l.length + totalS l ≤ 36 := by
  obtain ⟨_, h4, hi⟩ := subst_parts h
  have := total_of_all l 8 (fun x hx => by
    obtain ⟨k, hk, rfl⟩ := List.mem_iff_getElem.1 hx
    exact (img_parts (hi k hk)).2.1)
  omega

theorem specFormatSubst (l : List ByteArray) (v : Value) (w : World) (h : Lst w v (strs l)) (hz : ∀ x ∈ l, x.size ≤ 1048576) (hn : l.length ≤ 1048576) :
    Calls Try.prog 107 #[.agg #[v]] w fun e w' => e = .returned (.string (fmtR l)) ∧ Below w.heap.size w w' := by
  obtain ⟨A, cp, rfl⟩ := lst_slice h
  rw [strs_length] at h ⊢
  have hb0 : Below w.heap.size w (w.alloc (.cells #[.slice A l.length cp] 25)) := (Below.refl _ _).alloc (Nat.le_refl _) _
  have HL := Lib.hid (h.below hb0)
  have HZ := Lib.hid hz
  have HB0 := Lib.hid hb0
  clear h hz hb0
  by_cases h1 : substB l = true
  · have ht := subst_total h1
    have HR : Hid (fmtR l = joinS l ⟨#[44]⟩) := if_pos h1
    go_enter Try.func107, Try.ntmps107
    go_wp2_with fail
    refine (specSubstOk l _ _ HL.out HZ.out hn).mono ?_
    rintro e w1 ⟨rfl, hb1⟩
    obtain ⟨hc, hf⟩ := below_reads hb1
    have HB1 := Lib.hid hb1
    have HB2 : Hid (Below w.heap.size w w1) := HB0.out.trans (hb1.mono (by simp))
    clear hb1
    go_wp2_with fail
    refine (specJoin_any l ⟨#[44]⟩ _ _ (HL.out.below HB1.out) (by omega) (by simp [ByteArray.size])).mono ?_
    rintro e w2 ⟨rfl, rfl⟩
    go_wp2_with fail
    go_ret
    exact ⟨ret_str HR.out.symm, HB2.out⟩
  · have h1' : substB l = false := by simpa using h1
    have HR : Hid (fmtR l = ⟨#[]⟩) := if_neg h1
    clear h1
    go_enter Try.func107, Try.ntmps107
    go_wp2_with fail
    refine (specSubstOk l _ _ HL.out HZ.out hn).mono ?_
    rintro e w1 ⟨rfl, hb1⟩
    have HB2 : Hid (Below w.heap.size w w1) := HB0.out.trans (hb1.mono (by simp))
    clear hb1
    go_wp2_with fail
    go_ret
    exact ⟨ret_str HR.out.symm, HB2.out⟩

/-- what ParseSubst is to return -/
noncomputable def parseOk (t : ByteArray) : Bool := decide (t.size ≤ 40) && (substB (splitL t ⟨#[44]⟩) && decide (fmtR (splitL t ⟨#[44]⟩) = t))
noncomputable def parseSub (t : ByteArray) : List ByteArray := if parseOk t = true then splitL t ⟨#[44]⟩ else []

theorem parseSub_le (t : ByteArray) : (parseSub t).length ≤ 41 := by
  unfold parseSub; split
  · rename_i h
    have h1 := splitL_length t ⟨#[44]⟩
    have h2 : t.size ≤ 40 := by
      unfold parseOk at h
      rw [Bool.and_eq_true] at h
      simpa using h.1
    omega
  · simp

set_option maxHeartbeats 1000000 in
theorem specParseSubst (t : ByteArray) (w : World) (_ : t.size ≤ 1048576) :
    Calls Try.prog 103 #[.string t] w (SubSaid (parseSub t) (parseOk t) w) := by
  have hb0 : Below w.heap.size w (w.alloc (.cells #[.slice none 0 0] 25)) := (Below.refl _ _).alloc (Nat.le_refl _) _
  have HB0 := Lib.hid hb0
  clear hb0
  by_cases h40 : t.size ≤ 40
  · have hs1 := splitL_length t ⟨#[44]⟩
    have HSM := Lib.hid (splitL_small t ⟨#[44]⟩)
    have HSP := Lib.hid (fun w => specSplitAny t ⟨#[44]⟩ w (by omega) (by simp [ByteArray.size]))
    have HOKS : Hid (parseOk t = (substB (splitL t ⟨#[44]⟩) && decide (fmtR (splitL t ⟨#[44]⟩) = t))) := by show parseOk t = _; unfold parseOk; rw [decide_eq_true h40]; rfl
    have HSUB : Hid (parseOk t = true → parseSub t = splitL t ⟨#[44]⟩) := fun h => if_pos h
    have HSUB2 : Hid (parseOk t = false → parseSub t = []) := fun h => if_neg (by rw [h]; decide)
    generalize splitL t ⟨#[44]⟩ = l at hs1 HSM HSP HOKS HSUB HSUB2
    go_enter Try.func103, Try.ntmps103
    go_wp2_with fail
    refine (HSP.out _).mono ?_
    rintro e w1 ⟨v, rfl, ho, hb1⟩
    obtain ⟨A, cp, rfl⟩ := own_slice ho
    obtain ⟨hc, hf⟩ := below_reads hb1
    have c1 : w1.cell? ⟨w.heap.size, 0, none⟩ = some (.slice none 0 0) := by rw [hc _ _ (by simp)]; go_simp
    have f1 : w1.frozen? ⟨w.heap.size, 0, none⟩ = false := by rw [hf _ _ (by simp)]; go_simp
    have hz1 : w.heap.size < w1.heap.size := by have := hb1.size; simp at this; omega
    have HB1 : Hid (Below w.heap.size w w1) := HB0.out.trans (hb1.mono (by simp))
    have HO : Hid (w1.ownsRow (w.heap.size + 1) 9 1 (.slice A l.length cp) l.length (strs l)) := own_mono ho (by simp)
    have hbd := build_sub A l.length cp
    have hbz := build_zero
    have hll : l.length ≤ 1048576 := by omega
    have HZ : Hid (∀ x ∈ l, x.size ≤ 1048576) := fun x hx => by have := HSM.out x hx; omega
    clear ho hb1 hc hf
    go_wp2_with fail
    refine (specSubstOk l _ _ ((Lst.of_own HO.out).below ((Below.refl _ _).alloc (Nat.le_refl _) _)) HZ.out hll).mono ?_
    rintro e w2 ⟨rfl, hb2⟩
    have c2 : w2.cell? ⟨w.heap.size, 0, none⟩ = some (.slice none 0 0) := (hb2.cell (p := ⟨w.heap.size, 0, none⟩) (by simp; omega)).trans (by go_simp)
    have f2 : w2.frozen? ⟨w.heap.size, 0, none⟩ = false := (hb2.frozen (p := ⟨w.heap.size, 0, none⟩) (by simp; omega)).trans (by go_simp)
    have d2 : w2.cell? ⟨w1.heap.size, 0, none⟩ = some (.slice A l.length cp) := (hb2.cell (p := ⟨w1.heap.size, 0, none⟩) (by simp)).trans (by go_simp)
    have hz2 : w1.heap.size < w2.heap.size := by have := hb2.size; simp at this; omega
    have hz20 : w.heap.size < w2.heap.size := by omega
    have HB2 : Hid (Below w.heap.size w w2) := (HB1.out.alloc (by omega) _).trans (hb2.mono (by simp; omega))
    have HO2 : Hid (w2.ownsRow (w.heap.size + 1) 9 1 (.slice A l.length cp) l.length (strs l)) := own_below (HO.out.alloc _) hb2
    clear hb2 c1 f1
    by_cases h1 : substB l = true
    · go_wp2_with fail
      refine (specFormatSubst l _ _ (Lst.of_own HO2.out) HZ.out hll).mono ?_
      rintro e w3 ⟨rfl, hb3⟩
      have c3 : w3.cell? ⟨w.heap.size, 0, none⟩ = some (.slice none 0 0) := (hb3.cell (p := ⟨w.heap.size, 0, none⟩) hz20).trans c2
      have f3 : w3.frozen? ⟨w.heap.size, 0, none⟩ = false := (hb3.frozen (p := ⟨w.heap.size, 0, none⟩) hz20).trans f2
      have d3 : w3.cell? ⟨w1.heap.size, 0, none⟩ = some (.slice A l.length cp) := (hb3.cell (p := ⟨w1.heap.size, 0, none⟩) hz2).trans d2
      have HB3 : Hid (Below w.heap.size w w3) := HB2.out.trans (hb3.mono (by omega))
      have HO3 : Hid (w3.ownsRow (w.heap.size + 1) 9 1 (.slice A l.length cp) l.length (strs l)) := own_below HO2.out hb3
      clear hb3 c2 f2 d2
      by_cases h2 : fmtR l = t
      · have HOK : Hid (parseOk t = true) := by rw [HOKS.out, h1, decide_eq_true h2]; rfl
        have HSB : Hid (parseSub t = l) := HSUB.out HOK.out
        have b1 : ((fmtR l).toList != t.toList) = false := by rw [h2]; simp
        have b2 : ((fmtR l).toList == t.toList) = true := by rw [h2]; simp
        clear h2
        go_wp2_with fail
        refine bodyPost_ret (v := .tuple #[.agg #[.slice A l.length cp], .bool true]) (by simp [results, Try.results103, go_sem, c3]) rfl ⟨.slice A l.length cp, ?_, ?_, ?_⟩
        · rw [HOK.out]
        · rw [HSB.out]
          exact own_mono (own_setCell HO3.out (by simp) _) (by omega)
        · exact HB3.out.setCell (by simp) _
      · have HOK : Hid (parseOk t = false) := by show parseOk t = false; rw [HOKS.out, decide_eq_false h2, Bool.and_false]
        have HSB : Hid (parseSub t = []) := HSUB2.out HOK.out
        have b2 : ((fmtR l).toList == t.toList) = false := by
          rw [beq_eq_false_iff_ne]
          exact fun h => h2 (bytes_ext h)
        have b1 : ((fmtR l).toList != t.toList) = true := by rw [bne, b2]; rfl
        clear h2
        go_wp2_with fail
        refine bodyPost_ret (v := .tuple #[.agg #[.slice none 0 0], .bool false]) (by simp [results, Try.results103, go_sem, c3]) rfl ⟨.slice none 0 0, ?_, ?_, ?_⟩
        · rw [HOK.out]
        · rw [HSB.out]
          exact World.ownsRow_nil _ _ _ _
        · exact HB3.out.setCell (by simp) _
    · have h1' : substB l = false := by simpa using h1
      have HOK : Hid (parseOk t = false) := by show parseOk t = false; rw [HOKS.out, h1', Bool.false_and]
      have HSB : Hid (parseSub t = []) := HSUB2.out HOK.out
      clear h1
      go_wp2_with fail
      refine bodyPost_ret (v := .tuple #[.agg #[.slice none 0 0], .bool false]) (by simp [results, Try.results103, go_sem, c2]) rfl ⟨.slice none 0 0, ?_, ?_, ?_⟩
      · rw [HOK.out]
      · rw [HSB.out]
        exact World.ownsRow_nil _ _ _ _
      · exact HB2.out.setCell (by simp) _
  · have HOK : Hid (parseOk t = false) := by show parseOk t = false; unfold parseOk; rw [decide_eq_false h40, Bool.false_and]
    have HSB : Hid (parseSub t = []) := if_neg (by rw [HOK.out]; decide)
    have hgt : 40 < t.size := by omega
    have hbz := build_zero
    go_enter Try.func103, Try.ntmps103
    go_wp2_with fail
    refine bodyPost_ret (v := .tuple #[.agg #[.slice none 0 0], .bool false]) (by simp [results, Try.results103, go_sem]) rfl ⟨.slice none 0 0, ?_, ?_, ?_⟩
    · rw [HOK.out]
    · rw [HSB.out]
      exact World.ownsRow_nil _ _ _ _
    · exact HB0.out
end Go.Proofs.Ytgidfainoijcmaa

/- NamedSubst of the model. No condition. -/
namespace Go.Proofs.Ytgidfainoijcmaa
open Go.RowKit

/-- SplitAny, reckoned -/
def splitC (s y : ByteArray) : Nat → List ByteArray × Nat
  | 0 => ([], 0)
  | k + 1 => if h : k < s.size then (if y.data.toList.contains s[k] then ((splitC s y k).1 ++ [s.extract (splitC s y k).2 k], k + 1) else splitC s y k) else splitC s y k
theorem isSep_iff (y : ByteArray) (c : UInt8) : isSep y c ↔ y.data.toList.contains c = true := by
  rw [List.contains_iff_mem]
  constructor
  · rintro ⟨i, h, rfl⟩
    have : y[i] = y.data.toList[i]'(by simpa using h) := rfl
    rw [this]; exact List.getElem_mem _
  · intro h
    obtain ⟨i, hi, e⟩ := List.mem_iff_getElem.1 h
    exact ⟨i, by simpa using hi, e⟩
theorem splitC_eq (s y : ByteArray) : ∀ k, splitTo s y k = splitC s y k
  | 0 => rfl
  | k + 1 => by
    have ih := splitC_eq s y k
    rw [splitC]
    by_cases h : k < s.size
    · rw [dif_pos h]
      by_cases hs : isSep y s[k]
      · rw [splitTo_yes h hs, ih, if_pos ((isSep_iff _ _).1 hs)]
      · rw [splitTo_no h hs, ih, if_neg (fun h' => hs ((isSep_iff _ _).2 h'))]
    · rw [dif_neg h, splitTo, if_neg (fun ⟨h', _⟩ => h h'), ih]
theorem splitL_eq (s y : ByteArray) : splitL s y = (splitC s y s.size).1 ++ [s.extract (splitC s y s.size).2 s.size] := by
  unfold splitL
  rw [splitC_eq]
theorem parse_at {t : ByteArray} {l : List ByteArray} (h : (splitC t ⟨#[44]⟩ t.size).1 ++ [t.extract (splitC t ⟨#[44]⟩ t.size).2 t.size] = l) (h1 : t.size ≤ 40) (h2 : substB l = true) (h3 : fmtR l = t) : parseOk t = true ∧ parseSub t = l := by
  have e : splitL t ⟨#[44]⟩ = l := (splitL_eq _ _).trans h
  have a : parseOk t = true := by
    unfold parseOk
    rw [e, h2, decide_eq_true h1, decide_eq_true h3]
    rfl
  exact ⟨a, (if_pos a).trans e⟩
theorem parse_fibonacci : parseOk ⟨#[97, 98, 44, 97]⟩ = true ∧ parseSub ⟨#[97, 98, 44, 97]⟩ = [⟨#[97, 98]⟩, ⟨#[97]⟩] := parse_at (by kernel_rfl) (by decide) (by kernel_rfl) (by kernel_rfl)
theorem parse_thue : parseOk ⟨#[97, 98, 44, 98, 97]⟩ = true ∧ parseSub ⟨#[97, 98, 44, 98, 97]⟩ = [⟨#[97, 98]⟩, ⟨#[98, 97]⟩] := parse_at (by kernel_rfl) (by decide) (by kernel_rfl) (by kernel_rfl)
theorem parse_doubling : parseOk ⟨#[97, 98, 44, 97, 97]⟩ = true ∧ parseSub ⟨#[97, 98, 44, 97, 97]⟩ = [⟨#[97, 98]⟩, ⟨#[97, 97]⟩] := parse_at (by kernel_rfl) (by decide) (by kernel_rfl) (by kernel_rfl)
theorem parse_tribonacci : parseOk ⟨#[97, 98, 44, 97, 99, 44, 97]⟩ = true ∧ parseSub ⟨#[97, 98, 44, 97, 99, 44, 97]⟩ = [⟨#[97, 98]⟩, ⟨#[97, 99]⟩, ⟨#[97]⟩] := parse_at (by kernel_rfl) (by decide) (by kernel_rfl) (by kernel_rfl)
theorem parse_silver : parseOk ⟨#[97, 97, 98, 44, 97]⟩ = true ∧ parseSub ⟨#[97, 97, 98, 44, 97]⟩ = [⟨#[97, 97, 98]⟩, ⟨#[97]⟩] := parse_at (by kernel_rfl) (by decide) (by kernel_rfl) (by kernel_rfl)
theorem parse_squarefree : parseOk ⟨#[97, 98, 99, 44, 97, 99, 44, 98]⟩ = true ∧ parseSub ⟨#[97, 98, 99, 44, 97, 99, 44, 98]⟩ = [⟨#[97, 98, 99]⟩, ⟨#[97, 99]⟩, ⟨#[98]⟩] := parse_at (by kernel_rfl) (by decide) (by kernel_rfl) (by kernel_rfl)
theorem parse_rudin : parseOk ⟨#[97, 98, 44, 97, 99, 44, 100, 98, 44, 100, 99]⟩ = true ∧ parseSub ⟨#[97, 98, 44, 97, 99, 44, 100, 98, 44, 100, 99]⟩ = [⟨#[97, 98]⟩, ⟨#[97, 99]⟩, ⟨#[100, 98]⟩, ⟨#[100, 99]⟩] := parse_at (by kernel_rfl) (by decide) (by kernel_rfl) (by kernel_rfl)
/-- what NamedSubst is to return -/
def namedL (t : ByteArray) : List ByteArray :=
  if t = ⟨#[102, 105, 98, 111, 110, 97, 99, 99, 105]⟩ then [⟨#[97, 98]⟩, ⟨#[97]⟩]
  else if t = ⟨#[116, 104, 117, 101]⟩ then [⟨#[97, 98]⟩, ⟨#[98, 97]⟩]
  else if t = ⟨#[100, 111, 117, 98, 108, 105, 110, 103]⟩ then [⟨#[97, 98]⟩, ⟨#[97, 97]⟩]
  else if t = ⟨#[116, 114, 105, 98, 111, 110, 97, 99, 99, 105]⟩ then [⟨#[97, 98]⟩, ⟨#[97, 99]⟩, ⟨#[97]⟩]
  else if t = ⟨#[115, 105, 108, 118, 101, 114]⟩ then [⟨#[97, 97, 98]⟩, ⟨#[97]⟩]
  else if t = ⟨#[115, 113, 117, 97, 114, 101, 102, 114, 101, 101]⟩ then [⟨#[97, 98, 99]⟩, ⟨#[97, 99]⟩, ⟨#[98]⟩]
  else if t = ⟨#[114, 117, 100, 105, 110]⟩ then [⟨#[97, 98]⟩, ⟨#[97, 99]⟩, ⟨#[100, 98]⟩, ⟨#[100, 99]⟩]
  else []
def namedOk (t : ByteArray) : Bool := decide (namedL t ≠ [])
theorem namedL_le (t : ByteArray) : (namedL t).length ≤ 4 := by
  unfold namedL
  repeat' split
  all_goals decide
theorem eq_toList (t : ByteArray) (l : List UInt8) : (t.toList = l) ↔ t = ⟨l.toArray⟩ := by
  constructor
  · intro h
    apply bytes_ext
    rw [h, ByteArray.toList_eq]
  · intro h
    rw [h, ByteArray.toList_eq]

set_option maxHeartbeats 1000000 in
theorem specNamedSubst (t : ByteArray) (w : World) (_ : t.size ≤ 1048576) :
    Calls Try.prog 87 #[.string t] w (SubSaid (namedL t) (namedOk t) w) := by
  by_cases n0 : t = ⟨#[102, 105, 98, 111, 110, 97, 99, 99, 105]⟩
  · subst n0
    have hL := parse_fibonacci
    have HP := Lib.hid (fun w => specParseSubst ⟨#[97, 98, 44, 97]⟩ w (by decide))
    rw [hL.1, hL.2] at HP
    have hN : namedL ⟨#[102, 105, 98, 111, 110, 97, 99, 99, 105]⟩ = [⟨#[97, 98]⟩, ⟨#[97]⟩] := by decide
    have hK : namedOk ⟨#[102, 105, 98, 111, 110, 97, 99, 99, 105]⟩ = true := by decide
    rw [hN, hK]
    clear hL hN hK
    go_enter Try.func87, Try.ntmps87
    go_wp2_with fail
    refine (HP.out _).mono ?_
    rintro e w1 ⟨v, rfl, ho, hb1⟩
    obtain ⟨A, cp, rfl⟩ := own_slice ho
    have c1 : w1.cell? ⟨w.heap.size, 0, none⟩ = some (.slice none 0 0) := (hb1.cell (p := ⟨w.heap.size, 0, none⟩) (by simp)).trans (by go_simp)
    have f1 : w1.frozen? ⟨w.heap.size, 0, none⟩ = false := (hb1.frozen (p := ⟨w.heap.size, 0, none⟩) (by simp)).trans (by go_simp)
    have HO := Lib.hid ho
    have HB : Hid (Below w.heap.size w w1) := ((Below.refl _ _).alloc (Nat.le_refl _) _).trans (hb1.mono (by simp))
    clear ho hb1
    go_wp2_with fail
    exact bodyPost_ret (v := .tuple #[.agg #[_], .bool true]) (by simp [results, Try.results87, go_sem, c1]) rfl ⟨_, rfl, own_mono (own_setCell HO.out (by simp) _) (by simp), HB.out.setCell (by simp) _⟩
  · have b0 : (t.toList == [102, 105, 98, 111, 110, 97, 99, 99, 105]) = false := by rw [beq_eq_false_iff_ne]; exact fun h => n0 ((eq_toList _ _).1 h)
    by_cases n1 : t = ⟨#[116, 104, 117, 101]⟩
    · subst n1
      have hL := parse_thue
      have HP := Lib.hid (fun w => specParseSubst ⟨#[97, 98, 44, 98, 97]⟩ w (by decide))
      rw [hL.1, hL.2] at HP
      have hN : namedL ⟨#[116, 104, 117, 101]⟩ = [⟨#[97, 98]⟩, ⟨#[98, 97]⟩] := by decide
      have hK : namedOk ⟨#[116, 104, 117, 101]⟩ = true := by decide
      rw [hN, hK]
      clear hL hN hK
      go_enter Try.func87, Try.ntmps87
      go_wp2_with fail
      refine (HP.out _).mono ?_
      rintro e w1 ⟨v, rfl, ho, hb1⟩
      obtain ⟨A, cp, rfl⟩ := own_slice ho
      have c1 : w1.cell? ⟨w.heap.size, 0, none⟩ = some (.slice none 0 0) := (hb1.cell (p := ⟨w.heap.size, 0, none⟩) (by simp)).trans (by go_simp)
      have f1 : w1.frozen? ⟨w.heap.size, 0, none⟩ = false := (hb1.frozen (p := ⟨w.heap.size, 0, none⟩) (by simp)).trans (by go_simp)
      have HO := Lib.hid ho
      have HB : Hid (Below w.heap.size w w1) := ((Below.refl _ _).alloc (Nat.le_refl _) _).trans (hb1.mono (by simp))
      clear ho hb1
      go_wp2_with fail
      exact bodyPost_ret (v := .tuple #[.agg #[_], .bool true]) (by simp [results, Try.results87, go_sem, c1]) rfl ⟨_, rfl, own_mono (own_setCell HO.out (by simp) _) (by simp), HB.out.setCell (by simp) _⟩
    · have b1 : (t.toList == [116, 104, 117, 101]) = false := by rw [beq_eq_false_iff_ne]; exact fun h => n1 ((eq_toList _ _).1 h)
      by_cases n2 : t = ⟨#[100, 111, 117, 98, 108, 105, 110, 103]⟩
      · subst n2
        have hL := parse_doubling
        have HP := Lib.hid (fun w => specParseSubst ⟨#[97, 98, 44, 97, 97]⟩ w (by decide))
        rw [hL.1, hL.2] at HP
        have hN : namedL ⟨#[100, 111, 117, 98, 108, 105, 110, 103]⟩ = [⟨#[97, 98]⟩, ⟨#[97, 97]⟩] := by decide
        have hK : namedOk ⟨#[100, 111, 117, 98, 108, 105, 110, 103]⟩ = true := by decide
        rw [hN, hK]
        clear hL hN hK
        go_enter Try.func87, Try.ntmps87
        go_wp2_with fail
        refine (HP.out _).mono ?_
        rintro e w1 ⟨v, rfl, ho, hb1⟩
        obtain ⟨A, cp, rfl⟩ := own_slice ho
        have c1 : w1.cell? ⟨w.heap.size, 0, none⟩ = some (.slice none 0 0) := (hb1.cell (p := ⟨w.heap.size, 0, none⟩) (by simp)).trans (by go_simp)
        have f1 : w1.frozen? ⟨w.heap.size, 0, none⟩ = false := (hb1.frozen (p := ⟨w.heap.size, 0, none⟩) (by simp)).trans (by go_simp)
        have HO := Lib.hid ho
        have HB : Hid (Below w.heap.size w w1) := ((Below.refl _ _).alloc (Nat.le_refl _) _).trans (hb1.mono (by simp))
        clear ho hb1
        go_wp2_with fail
        exact bodyPost_ret (v := .tuple #[.agg #[_], .bool true]) (by simp [results, Try.results87, go_sem, c1]) rfl ⟨_, rfl, own_mono (own_setCell HO.out (by simp) _) (by simp), HB.out.setCell (by simp) _⟩
      · have b2 : (t.toList == [100, 111, 117, 98, 108, 105, 110, 103]) = false := by rw [beq_eq_false_iff_ne]; exact fun h => n2 ((eq_toList _ _).1 h)
        by_cases n3 : t = ⟨#[116, 114, 105, 98, 111, 110, 97, 99, 99, 105]⟩
        · subst n3
          have hL := parse_tribonacci
          have HP := Lib.hid (fun w => specParseSubst ⟨#[97, 98, 44, 97, 99, 44, 97]⟩ w (by decide))
          rw [hL.1, hL.2] at HP
          have hN : namedL ⟨#[116, 114, 105, 98, 111, 110, 97, 99, 99, 105]⟩ = [⟨#[97, 98]⟩, ⟨#[97, 99]⟩, ⟨#[97]⟩] := by decide
          have hK : namedOk ⟨#[116, 114, 105, 98, 111, 110, 97, 99, 99, 105]⟩ = true := by decide
          rw [hN, hK]
          clear hL hN hK
          go_enter Try.func87, Try.ntmps87
          go_wp2_with fail
          refine (HP.out _).mono ?_
          rintro e w1 ⟨v, rfl, ho, hb1⟩
          obtain ⟨A, cp, rfl⟩ := own_slice ho
          have c1 : w1.cell? ⟨w.heap.size, 0, none⟩ = some (.slice none 0 0) := (hb1.cell (p := ⟨w.heap.size, 0, none⟩) (by simp)).trans (by go_simp)
          have f1 : w1.frozen? ⟨w.heap.size, 0, none⟩ = false := (hb1.frozen (p := ⟨w.heap.size, 0, none⟩) (by simp)).trans (by go_simp)
          have HO := Lib.hid ho
          have HB : Hid (Below w.heap.size w w1) := ((Below.refl _ _).alloc (Nat.le_refl _) _).trans (hb1.mono (by simp))
          clear ho hb1
          go_wp2_with fail
          exact bodyPost_ret (v := .tuple #[.agg #[_], .bool true]) (by simp [results, Try.results87, go_sem, c1]) rfl ⟨_, rfl, own_mono (own_setCell HO.out (by simp) _) (by simp), HB.out.setCell (by simp) _⟩
        · have b3 : (t.toList == [116, 114, 105, 98, 111, 110, 97, 99, 99, 105]) = false := by rw [beq_eq_false_iff_ne]; exact fun h => n3 ((eq_toList _ _).1 h)
          by_cases n4 : t = ⟨#[115, 105, 108, 118, 101, 114]⟩
          · subst n4
            have hL := parse_silver
            have HP := Lib.hid (fun w => specParseSubst ⟨#[97, 97, 98, 44, 97]⟩ w (by decide))
            rw [hL.1, hL.2] at HP
            have hN : namedL ⟨#[115, 105, 108, 118, 101, 114]⟩ = [⟨#[97, 97, 98]⟩, ⟨#[97]⟩] := by decide
            have hK : namedOk ⟨#[115, 105, 108, 118, 101, 114]⟩ = true := by decide
            rw [hN, hK]
            clear hL hN hK
            go_enter Try.func87, Try.ntmps87
            go_wp2_with fail
            refine (HP.out _).mono ?_
            rintro e w1 ⟨v, rfl, ho, hb1⟩
            obtain ⟨A, cp, rfl⟩ := own_slice ho
            have c1 : w1.cell? ⟨w.heap.size, 0, none⟩ = some (.slice none 0 0) := (hb1.cell (p := ⟨w.heap.size, 0, none⟩) (by simp)).trans (by go_simp)
            have f1 : w1.frozen? ⟨w.heap.size, 0, none⟩ = false := (hb1.frozen (p := ⟨w.heap.size, 0, none⟩) (by simp)).trans (by go_simp)
            have HO := Lib.hid ho
            have HB : Hid (Below w.heap.size w w1) := ((Below.refl _ _).alloc (Nat.le_refl _) _).trans (hb1.mono (by simp))
            clear ho hb1
            go_wp2_with fail
            exact bodyPost_ret (v := .tuple #[.agg #[_], .bool true]) (by simp [results, Try.results87, go_sem, c1]) rfl ⟨_, rfl, own_mono (own_setCell HO.out (by simp) _) (by simp), HB.out.setCell (by simp) _⟩
          · have b4 : (t.toList == [115, 105, 108, 118, 101, 114]) = false := by rw [beq_eq_false_iff_ne]; exact fun h => n4 ((eq_toList _ _).1 h)
            by_cases n5 : t = ⟨#[115, 113, 117, 97, 114, 101, 102, 114, 101, 101]⟩
            · subst n5
              have hL := parse_squarefree
              have HP := Lib.hid (fun w => specParseSubst ⟨#[97, 98, 99, 44, 97, 99, 44, 98]⟩ w (by decide))
              rw [hL.1, hL.2] at HP
              have hN : namedL ⟨#[115, 113, 117, 97, 114, 101, 102, 114, 101, 101]⟩ = [⟨#[97, 98, 99]⟩, ⟨#[97, 99]⟩, ⟨#[98]⟩] := by decide
              have hK : namedOk ⟨#[115, 113, 117, 97, 114, 101, 102, 114, 101, 101]⟩ = true := by decide
              rw [hN, hK]
              clear hL hN hK
              go_enter Try.func87, Try.ntmps87
              go_wp2_with fail
              refine (HP.out _).mono ?_
              rintro e w1 ⟨v, rfl, ho, hb1⟩
              obtain ⟨A, cp, rfl⟩ := own_slice ho
              have c1 : w1.cell? ⟨w.heap.size, 0, none⟩ = some (.slice none 0 0) := (hb1.cell (p := ⟨w.heap.size, 0, none⟩) (by simp)).trans (by go_simp)
              have f1 : w1.frozen? ⟨w.heap.size, 0, none⟩ = false := (hb1.frozen (p := ⟨w.heap.size, 0, none⟩) (by simp)).trans (by go_simp)
              have HO := Lib.hid ho
              have HB : Hid (Below w.heap.size w w1) := ((Below.refl _ _).alloc (Nat.le_refl _) _).trans (hb1.mono (by simp))
              clear ho hb1
              go_wp2_with fail
              exact bodyPost_ret (v := .tuple #[.agg #[_], .bool true]) (by simp [results, Try.results87, go_sem, c1]) rfl ⟨_, rfl, own_mono (own_setCell HO.out (by simp) _) (by simp), HB.out.setCell (by simp) _⟩
            · have b5 : (t.toList == [115, 113, 117, 97, 114, 101, 102, 114, 101, 101]) = false := by rw [beq_eq_false_iff_ne]; exact fun h => n5 ((eq_toList _ _).1 h)
              by_cases n6 : t = ⟨#[114, 117, 100, 105, 110]⟩
              · subst n6
                have hL := parse_rudin
                have HP := Lib.hid (fun w => specParseSubst ⟨#[97, 98, 44, 97, 99, 44, 100, 98, 44, 100, 99]⟩ w (by decide))
                rw [hL.1, hL.2] at HP
                have hN : namedL ⟨#[114, 117, 100, 105, 110]⟩ = [⟨#[97, 98]⟩, ⟨#[97, 99]⟩, ⟨#[100, 98]⟩, ⟨#[100, 99]⟩] := by decide
                have hK : namedOk ⟨#[114, 117, 100, 105, 110]⟩ = true := by decide
                rw [hN, hK]
                clear hL hN hK
                go_enter Try.func87, Try.ntmps87
                go_wp2_with fail
                refine (HP.out _).mono ?_
                rintro e w1 ⟨v, rfl, ho, hb1⟩
                obtain ⟨A, cp, rfl⟩ := own_slice ho
                have c1 : w1.cell? ⟨w.heap.size, 0, none⟩ = some (.slice none 0 0) := (hb1.cell (p := ⟨w.heap.size, 0, none⟩) (by simp)).trans (by go_simp)
                have f1 : w1.frozen? ⟨w.heap.size, 0, none⟩ = false := (hb1.frozen (p := ⟨w.heap.size, 0, none⟩) (by simp)).trans (by go_simp)
                have HO := Lib.hid ho
                have HB : Hid (Below w.heap.size w w1) := ((Below.refl _ _).alloc (Nat.le_refl _) _).trans (hb1.mono (by simp))
                clear ho hb1
                go_wp2_with fail
                exact bodyPost_ret (v := .tuple #[.agg #[_], .bool true]) (by simp [results, Try.results87, go_sem, c1]) rfl ⟨_, rfl, own_mono (own_setCell HO.out (by simp) _) (by simp), HB.out.setCell (by simp) _⟩
              · have b6 : (t.toList == [114, 117, 100, 105, 110]) = false := by rw [beq_eq_false_iff_ne]; exact fun h => n6 ((eq_toList _ _).1 h)
                have hN : namedL t = [] := by unfold namedL; rw [if_neg n0, if_neg n1, if_neg n2, if_neg n3, if_neg n4, if_neg n5, if_neg n6]
                have hK : namedOk t = false := by unfold namedOk; rw [hN]; rfl
                rw [hN, hK]
                have hbz := build_zero
                clear hN hK n0 n1 n2 n3 n4 n5 n6
                go_enter Try.func87, Try.ntmps87
                go_wp2_with fail
                exact bodyPost_ret (v := .tuple #[.agg #[.slice none 0 0], .bool false]) (by simp [results, Try.results87, go_sem]) rfl ⟨_, rfl, World.ownsRow_nil _ _ _ _, (Below.refl _ _).alloc (Nat.le_refl _) _⟩
end Go.Proofs.Ytgidfainoijcmaa

/- The model's draws of substitutions: l01Once, l03Draw, MakeSubst. Condition: the bytes are at most 2^20. -/
namespace Go.Proofs.Ytgidfainoijcmaa
open Go.RowKit

theorem Cur.drewN {w : World} {g : Nat} {v : Value} {zs : List Int} (h : Cur w g v zs) (n : Nat) : Cur (w.drewN n) g v zs := h
def OnceSaid (g : Nat) (v : Value) (zs : List Int) (w : World) (e : Ending) (w' : World) : Prop := ∃ b : Bool, e = .returned (.bool b) ∧ Cur w' g v zs ∧ w.grownBy w' (some g)
theorem l01Once_any (g : Nat) (v : Value) (zs : List Int) (n : Int) (w : World) (hz : IsBytes zs) (hc : Cur w g v zs) (h0 : 0 < n) (h1 : n ≤ 256) :
    Calls Try.prog 86 #[.pointer (some ⟨g, 0, none⟩), .int .i64 n] w (OnceSaid g v zs w) := by
  have HB := Lib.hid (l01Below_small g v zs n w hz hc h0 h1)
  clear hz hc
  go_enter Try.func86, Try.ntmps86
  go_wp2_with fail
  refine HB.out.mono ?_
  rintro e w1 ⟨x, rfl, x0, x1, hc1, hg1⟩
  have HC := Lib.hid hc1
  clear hc1
  go_wp2_with fail
  go_ret
  exact ⟨_, rfl, HC.out, hg1⟩

def seven : List ByteArray := [⟨#[102, 105, 98, 111, 110, 97, 99, 99, 105]⟩, ⟨#[116, 104, 117, 101]⟩, ⟨#[100, 111, 117, 98, 108, 105, 110, 103]⟩, ⟨#[116, 114, 105, 98, 111, 110, 97, 99, 99, 105]⟩, ⟨#[115, 105, 108, 118, 101, 114]⟩, ⟨#[115, 113, 117, 97, 114, 101, 102, 114, 101, 101]⟩, ⟨#[114, 117, 100, 105, 110]⟩]
theorem seven_ok : ∀ s ∈ seven, substB (namedL s) = true ∧ s.size ≤ 1048576 := by
  intro s hs
  simp only [seven, List.mem_cons, List.not_mem_nil, or_false] at hs
  rcases hs with rfl | rfl | rfl | rfl | rfl | rfl | rfl <;> exact ⟨by kernel_rfl, by decide⟩
theorem grown_setCell {a b : World} {row : Option Nat} (h : a.grownBy b row) (p : Addr) (u : Value) (hp : a.heap.size ≤ p.block) : a.grownBy (b.setCell p u) row :=
  ⟨h.os, h.tape, h.output, by simpa using h.size, fun k hk hne => (heap_setCell_other b p k u (by omega)).trans (h.block k hk hne)⟩
theorem setCell_grown (w : World) (p : Addr) (u : Value) : w.grownBy (w.setCell p u) (some p.block) :=
  ⟨rfl, rfl, rfl, by simp, fun k _ hk => heap_setCell_other w p k u (fun e => hk (by rw [e]))⟩
theorem grown_below {a b c : World} {row : Option Nat} (h : a.grownBy b row) (k : Below b.heap.size b c) : a.grownBy c row := grown_trans h (grown_of_below k row)
/-- images of n letters, of which each has an image -/
def imgsB (n : Nat) (l : List ByteArray) : Prop := ∀ x ∈ l, imgB n x = true
theorem img_of_word {n : Nat} {s : ByteArray} (h1 : 1 ≤ s.size) (h4 : s.size ≤ 4) (hn : n ≤ 4) (h : ∀ c ∈ s.data.toList, 97 ≤ c.toNat ∧ (c.toNat : Int) < 97 + (n : Int)) : imgB n s = true := by
  refine img_yes h1 (by omega) ?_ ?_
  · unfold wordB
    rw [decide_eq_true (by omega)]
    show (true && s.data.toList.all isAbcd) = true
    rw [Bool.true_and, List.all_eq_true]
    intro c hc
    have := h c hc
    simp [isAbcd]
    omega
  · unfold withinB
    rw [List.all_eq_true]
    intro c hc
    have := h c hc
    simp
    omega
theorem subst_of_imgs {l : List ByteArray} (h1 : 1 ≤ l.length) (h4 : l.length ≤ 4) (h : imgsB l.length l) : substB l = true := by
  unfold substB
  rw [decide_eq_true h1, decide_eq_true h4]
  show (true && l.all (imgB l.length)) = true
  rw [Bool.true_and, List.all_eq_true]
  exact h

def SubDrawn (g : Nat) (w : World) (e : Ending) (w' : World) : Prop :=
  ∃ (u : Value) (l : List ByteArray), e = .returned (.agg #[u]) ∧ substB l = true ∧ w'.ownsRow w.heap.size 9 1 u l.length (strs l) ∧ w.grownBy w' (some g)

set_option maxHeartbeats 4000000 in
set_option maxRecDepth 100000 in
theorem l03Draw_any (g : Nat) (v : Value) (zs : List Int) (w : World) (hz : IsBytes zs) (hc : Cur w g v zs) :
    Calls Try.prog 48 #[.pointer (some ⟨g, 0, none⟩)] w (SubDrawn g w) := by
  obtain ⟨i0, hi0, hz0, hz1, hz2⟩ := info_parts str_info
  have HZ := Lib.hid hz
  have HC := Lib.hid hc
  have hgl := (cur_lt hc).1
  have hbz := build_zero
  clear hz hc
  go_enter Try.func48, Try.ntmps48
  go_wp2_with fail
  refine (l01Once_any g v zs 2 _ HZ.out (HC.out.below ((Below.refl _ _).alloc (Nat.le_refl _) _)) (by omega) (by omega)).mono ?_
  rintro e w1 ⟨b, rfl, hc1, hg1⟩
  have HC1 := Lib.hid hc1
  have HG1 : Hid (w.grownBy w1 (some g)) := grown_trans (World.grownBy_alloc _ _ _) hg1
  have hsz1 : w.heap.size + 1 ≤ w1.heap.size := by have := hg1.size; simpa using this
  have c1 : w1.cell? ⟨w.heap.size, 0, none⟩ = some (.slice none 0 0) := hg1.cell (a := ⟨w.heap.size, 0, none⟩) (by go_simp) (by simp; omega)
  have f1 : w1.frozen? ⟨w.heap.size, 0, none⟩ = false := (hg1.frozen_far ⟨w.heap.size, 0, none⟩ (by simp) (by simp; omega)).trans (by go_simp)
  clear hc1 hg1
  cases b
  · go_wp2_with fail
    refine (l01Below_small g v zs 3 _ HZ.out HC1.out (by omega) (by omega)).mono ?_
    rintro e w2 ⟨x, rfl, x0, x1, hc2, hg2⟩
    obtain ⟨m, rfl⟩ := Int.eq_ofNat_of_zero_le x0
    have HC2 := Lib.hid hc2
    have HG2 : Hid (w.grownBy w2 (some g)) := grown_trans HG1.out hg2
    have hsz2 := hg2.size
    have c2 : w2.cell? ⟨w.heap.size, 0, none⟩ = some (.slice none 0 0) := hg2.cell (a := ⟨w.heap.size, 0, none⟩) c1 (by simp; omega)
    have f2 : w2.frozen? ⟨w.heap.size, 0, none⟩ = false := (hg2.frozen_far ⟨w.heap.size, 0, none⟩ (by simp; omega) (by simp; omega)).trans f1
    clear hc2 hg2 c1 f1
    go_wp2_with fail
    go_loopw [7] (fun i w' => ∃ (j : Nat) (o : Value) (ls : List ByteArray), j ≤ m + 1 ∧ i = .int .i64 j ∧ ls.length = j ∧ imgsB (m + 1) ls ∧ w'.cell? ⟨w2.heap.size, 0, none⟩ = some o ∧ w'.frozen? ⟨w2.heap.size, 0, none⟩ = false ∧ w'.ownsRow (w2.heap.size + 1) 9 1 o j (strs ls) ∧ Cur w' g v zs ∧ w2.grownBy w' (some g) ∧ w2.heap.size < w'.heap.size) (fun i _ => m + 1 - (intOf i).toNat)
    case atStart => exact ⟨0, _, [], Nat.zero_le _, rfl, rfl, by intro x hx; simp at hx, by go_simp, by go_simp, World.ownsRow_nil _ _ _ _, HC2.out.below ((Below.refl _ _).alloc (Nat.le_refl _) _), World.grownBy_alloc _ _ _, by simp⟩
    case round =>
      obtain ⟨j, o, ls, hj, rfl, hll, him, co, fo, ho, hcr, hgr, hzr⟩ := hrel
      obtain ⟨A', cp2, rfl⟩ := own_slice ho
      have HO := Lib.hid ho
      have HIM := Lib.hid him
      have HCR := Lib.hid hcr
      have HGR := Lib.hid hgr
      have HLL := Lib.hid hll
      clear ho him hcr hgr hll
      by_cases hlt : j < m + 1
      · have hlt' : (j : Int) < 1 + (m : Int) := by omega
        go_wp2_with fail
        go_region_law (first
          | (refine step_own_g rfl (.tmp 28) (.tmp 35) 23 rfl (w2.heap.size + 1) 9 i0 _ 16 Try.underlying23 hi0 hz0 hz1 hz2 rfl _ j _ (by simp [Act.eval]) (HO4.out.alloc _) ⟨w4.heap.size, 0, none⟩ 1 1 [.string s] (by simp [Act.eval]) rfl (fun q u hu => cell_one _ _ _ q u hu) (fun u hu => by simp at hu; subst hu; rfl) (by unfold maxLen; omega) (by omega) (by simp; omega) ?_
             intro v' w5 hown5 hgr5
             obtain ⟨A5, cp5, rfl⟩ := own_slice hown5
             have hne5 : (some w2.heap.size : Option Nat) ≠ (Value.slice A' j cp2).ownBlock := fun e => by have := (HO4.out.lt _ e.symm).1; omega
             have c5 : w5.cell? ⟨w2.heap.size, 0, none⟩ = some (.slice A' j cp2) := hgr5.cell (a := ⟨w2.heap.size, 0, none⟩) (by go_simp) hne5
             have f5 : w5.frozen? ⟨w2.heap.size, 0, none⟩ = false := (hgr5.frozen_far ⟨w2.heap.size, 0, none⟩ (by simp; omega) hne5).trans (by go_simp)
             have HOW := Lib.hid hown5
             have HG5 := Lib.hid hgr5
             clear hown5 hgr5 hne5)
          | (go_simp
             go_wp2_with (first
               | (go_at_call 58
                  refine (l01Below_small g v zs 4 _ HZ.out (Cur.drewN HCR.out 1) (by omega) (by omega)).mono ?_
                  rintro e w3 ⟨y, rfl, y0, y1, hc3, hg3⟩
                  obtain ⟨q, rfl⟩ := Int.eq_ofNat_of_zero_le y0
                  have hwq : IntKind.i64.wrap ((1 : Int) + (q : Int)) = 1 + (q : Int) := IntWalk.i64_in _ (by omega)
                  have hz3 : w2.heap.size < w3.heap.size := by have := hg3.size; simp at this; omega
                  have c3 : w3.cell? ⟨w2.heap.size, 0, none⟩ = some (.slice A' j cp2) := hg3.cell (a := ⟨w2.heap.size, 0, none⟩) (by go_simp) (by simp; omega)
                  have f3 : w3.frozen? ⟨w2.heap.size, 0, none⟩ = false := (hg3.frozen_far ⟨w2.heap.size, 0, none⟩ (by simpa using hzr) (by simp; omega)).trans (by go_simp)
                  have HO3 : Hid (w3.ownsRow (w2.heap.size + 1) 9 1 (.slice A' j cp2) j (strs ls)) := own_apart (own_drewN HO.out 1) hg3 (fun x h1 h2 => by have := (HO.out.lt x h1).1; injection h2 with h2; omega)
                  have HC3 := Lib.hid hc3
                  have HG3 : Hid (w2.grownBy w3 (some g)) := grown_trans (grown_drewN HGR.out 1) hg3
                  clear hc3 hg3)
               | (go_at_call 89
                  refine (l02Word_any (1 + (q : Int)) (1 + (m : Int)) g v zs _ HZ.out HC3.out (by omega) (by omega) (by omega) (by omega)).mono ?_
                  rintro e w4 ⟨s, rfl, hss, hlet, hc4, hg4⟩
                  have hz4 : w2.heap.size < w4.heap.size := by have := hg4.size; omega
                  have c4 : w4.cell? ⟨w2.heap.size, 0, none⟩ = some (.slice A' j cp2) := hg4.cell (a := ⟨w2.heap.size, 0, none⟩) c3 (by simp; omega)
                  have f4 : w4.frozen? ⟨w2.heap.size, 0, none⟩ = false := (hg4.frozen_far ⟨w2.heap.size, 0, none⟩ hz3 (by simp; omega)).trans f3
                  have HO4 : Hid (w4.ownsRow (w2.heap.size + 1) 9 1 (.slice A' j cp2) j (strs ls)) := own_apart HO3.out hg4 (fun x h1 h2 => by have := (HO3.out.lt x h1).1; injection h2 with h2; omega)
                  have HC4 := Lib.hid hc4
                  have HG4 : Hid (w2.grownBy w4 (some g)) := grown_trans HG3.out hg4
                  have HLET := Lib.hid hlet
                  clear hc4 hg4 hlet))))
        all_goals
          go_wp2_with fail
          go_roundw
          case rel =>
            have hrw : ∀ x, (Value.slice A' j cp2).ownBlock = some x → w2.heap.size + 1 ≤ x := fun x hx => (HO4.out.lt x hx).1
            have hcA : Cur (w4.alloc (.cells #[.string s] 9)) g v zs := HC4.out.below ((Below.refl _ _).alloc (Nat.le_refl _) _)
            have hc5 : Cur w5 g v zs := Cur.made HC2.out hcA HG5.out hrw (by omega)
            have hg5 : w2.grownBy w5 (some g) := grown_made (grown_trans HG4.out (World.grownBy_alloc _ _ _)) HG5.out hrw (by omega)
            refine ⟨j + 1, .slice A5 (j + 1) cp5, ls ++ [s], by omega, by go_num, by simp [HLL.out], ?_, by go_simp, by go_simp, ?_, ?_, grown_setCell hg5 _ _ (by simp), ?_⟩
            · intro x hx
              rcases List.mem_append.1 hx with hx | hx
              · exact HIM.out x hx
              · simp at hx
                subst hx
                refine img_of_word (by omega) (by omega) (by omega) (fun c hc => ?_)
                have := HLET.out c hc
                omega
            · rw [strs_snoc]
              exact own_setCell (B := w2.heap.size + 1) HOW.out (by simp) _
            · exact Cur.made HC2.out hc5 (setCell_grown _ _ _) (B := w2.heap.size) (fun k hk => by injection hk with hk; simp at hk; omega) (Nat.le_refl _)
            · have := HG5.out.size
              simp at this ⊢
              omega
          case measure => simp [intOf]; omega
      · have hjm : j = m + 1 := by omega
        have HSB : Hid (substB ls = true) := subst_of_imgs (by rw [HLL.out]; omega) (by rw [HLL.out]; omega) (by rw [HLL.out, hjm]; exact HIM.out)
        have hge' : ¬ (j : Int) < 1 + (m : Int) := by omega
        have cr : wr.cell? ⟨w.heap.size, 0, none⟩ = some (.slice none 0 0) := HGR.out.cell (a := ⟨w.heap.size, 0, none⟩) c2 (by simp; omega)
        have fr : wr.frozen? ⟨w.heap.size, 0, none⟩ = false := (HGR.out.frozen_far ⟨w.heap.size, 0, none⟩ (by simp; omega) (by simp; omega)).trans f2
        clear hjm
        go_wp2_with fail
        refine bodyPost_ret (v := .agg #[.slice A' j cp2]) (by simp [results, Try.results48, go_sem, cr]) rfl ⟨_, ls, rfl, HSB.out, ?_, ?_⟩
        · rw [HLL.out]
          exact own_mono (own_setCell (B := w2.heap.size + 1) HO.out (by simp; omega) _) (by omega)
        · exact grown_setCell (grown_trans HG2.out HGR.out) _ _ (by simp)
  · go_wp2_with fail
    have hcells : ∀ j (hj : j < seven.length), (w1.alloc (.cells #[.string ⟨#[102, 105, 98, 111, 110, 97, 99, 99, 105]⟩, .string ⟨#[116, 104, 117, 101]⟩, .string ⟨#[100, 111, 117, 98, 108, 105, 110, 103]⟩, .string ⟨#[116, 114, 105, 98, 111, 110, 97, 99, 99, 105]⟩, .string ⟨#[115, 105, 108, 118, 101, 114]⟩, .string ⟨#[115, 113, 117, 97, 114, 101, 102, 114, 101, 101]⟩, .string ⟨#[114, 117, 100, 105, 110]⟩] 9)).cell? ⟨w1.heap.size, j, none⟩ = some (.string seven[j]) := by
      intro j hj
      rw [World.cell?_alloc_at _ _ _ _ rfl]
      have hj' : j < 7 := hj
      rcases j with _ | _ | _ | _ | _ | _ | _ | j <;> first | rfl | omega
    refine (l01Str_any g v zs w1.heap.size seven _ HZ.out (HC1.out.below ((Below.refl _ _).alloc (Nat.le_refl _) _)) (by decide) (by decide) (by omega) hcells).mono ?_
    rintro e w2 ⟨s, hs, rfl, hc2, hg2⟩
    obtain ⟨hsb, hss⟩ := seven_ok s hs
    have HSB := Lib.hid hsb
    have hw1 : w.heap.size < w1.heap.size := by omega
    have hne : (some w.heap.size : Option Nat) ≠ some g := fun e => by injection e with e; omega
    have HG2 : Hid (w.grownBy w2 (some g)) := grown_trans (grown_trans HG1.out (World.grownBy_alloc _ _ _)) hg2
    have hsz2 : w.heap.size + 2 ≤ w2.heap.size := by have := hg2.size; simp at this; omega
    have c2 : w2.cell? ⟨w.heap.size, 0, none⟩ = some (.slice none 0 0) := hg2.cell (a := ⟨w.heap.size, 0, none⟩) (by go_simp) hne
    have f2 : w2.frozen? ⟨w.heap.size, 0, none⟩ = false := (hg2.frozen_far ⟨w.heap.size, 0, none⟩ (by simp; omega) hne).trans (by go_simp)
    clear hc2 hg2 hs hcells c1 f1 hsb
    go_wp2_with fail
    refine (specNamedSubst s _ hss).mono ?_
    rintro e w3 ⟨u, rfl, ho, hb3⟩
    obtain ⟨A, cp, rfl⟩ := own_slice ho
    have hsz3 : w.heap.size + 2 ≤ w3.heap.size := by have := hb3.size; omega
    have hsz30 : w.heap.size < w3.heap.size := by omega
    have c3 : w3.cell? ⟨w.heap.size, 0, none⟩ = some (.slice none 0 0) := (hb3.cell (p := ⟨w.heap.size, 0, none⟩) (by simp; omega)).trans c2
    have f3 : w3.frozen? ⟨w.heap.size, 0, none⟩ = false := (hb3.frozen (p := ⟨w.heap.size, 0, none⟩) (by simp; omega)).trans f2
    have HO := Lib.hid ho
    have HG3 : Hid (w.grownBy w3 (some g)) := grown_below HG2.out hb3
    clear ho hb3 c2 f2
    go_wp2_with fail
    refine bodyPost_ret (v := .agg #[.slice A (namedL s).length cp]) (by simp [results, Try.results48, go_sem, c3, hsz30]) rfl ⟨_, namedL s, rfl, HSB.out, ?_, ?_⟩
    · first
        | exact own_mono ((own_setCell (B := w2.heap.size) HO.out (by simp; omega) _).alloc _) (by omega)
        | exact own_mono (own_setCell (B := w2.heap.size) (HO.out.alloc _) (by simp; omega) _) (by omega)
    · first
        | exact grown_trans (grown_setCell HG3.out _ _ (by simp)) (World.grownBy_alloc _ _ _)
        | exact grown_setCell (grown_trans HG3.out (World.grownBy_alloc _ _ _)) _ _ (by simp)

def SubMade (w : World) (e : Ending) (w' : World) : Prop :=
  ∃ (u : Value) (l : List ByteArray), e = .returned (.agg #[u]) ∧ substB l = true ∧ w'.ownsRow w.heap.size 9 1 u l.length (strs l) ∧ Below w.heap.size w w'

set_option maxHeartbeats 400000 in
theorem makeSubst_any (v : Value) (zs : List Int) (c : Int) (w : World) (hz : IsBytes zs) (hl : Lst w v (bytesV zs)) (h0 : 0 ≤ c) (h1 : c ≤ 1048576) :
    Calls Try.prog 12 #[v, .int .i64 c] w (SubMade w) := by
  have hb0 : Below w.heap.size w (w.alloc (.cells #[.slice none 0 0] 25)) := (Below.refl _ _).alloc (Nat.le_refl _) _
  have HN := Lib.hid (l31New_any v zs c _ hz (hl.below hb0) h0 h1)
  have HZ := Lib.hid hz
  have HB0 := Lib.hid hb0
  obtain ⟨A, cp, rfl, -, -, -⟩ := hl
  rw [bytesV_length] at HN ⊢
  clear hz hb0
  go_enter Try.func12, Try.ntmps12
  go_wp2_with fail
  refine HN.out.mono ?_
  rintro e w1 ⟨g, rfl, hg, hc1, hb1⟩
  have hsz1 : w.heap.size + 1 ≤ w1.heap.size := by have := hb1.size; simpa using this
  have c1 : w1.cell? ⟨w.heap.size, 0, none⟩ = some (.slice none 0 0) := (hb1.cell (p := ⟨w.heap.size, 0, none⟩) (by simp)).trans (by go_simp)
  have f1 : w1.frozen? ⟨w.heap.size, 0, none⟩ = false := (hb1.frozen (p := ⟨w.heap.size, 0, none⟩) (by simp)).trans (by go_simp)
  have HC := Lib.hid hc1
  have HB1 : Hid (Below w.heap.size w w1) := HB0.out.trans (hb1.mono (by simp))
  simp only [World.size_alloc] at hg
  clear hc1 hb1
  go_wp2_with fail
  refine (l03Draw_any g _ zs _ HZ.out HC.out).mono ?_
  rintro e w2 ⟨u, l, rfl, hsb, ho, hg2⟩
  obtain ⟨A2, cp2, rfl⟩ := own_slice ho
  have HSB := Lib.hid hsb
  have HO := Lib.hid ho
  have HB2 : Hid (Below w.heap.size w w2) := HB1.out.grown hg2 HB1.out.size (fun j hj => by cases hj; omega)
  have hne : (some w.heap.size : Option Nat) ≠ some g := fun e => by injection e with e; omega
  have c2 : w2.cell? ⟨w.heap.size, 0, none⟩ = some (.slice none 0 0) := hg2.cell (a := ⟨w.heap.size, 0, none⟩) c1 hne
  have f2 : w2.frozen? ⟨w.heap.size, 0, none⟩ = false := (hg2.frozen_far ⟨w.heap.size, 0, none⟩ (by simp; omega) hne).trans f1
  clear hsb ho hg2 c1 f1
  go_wp2_with fail
  refine bodyPost_ret (v := .agg #[.slice A2 l.length cp2]) (by simp [results, Try.results12, go_sem, c2]) rfl ⟨_, l, rfl, HSB.out, ?_, ?_⟩
  · exact own_mono (own_setCell (B := w1.heap.size) HO.out (by simp; omega) _) (by omega)
  · exact HB2.out.setCell (by simp) _
end Go.Proofs.Ytgidfainoijcmaa
