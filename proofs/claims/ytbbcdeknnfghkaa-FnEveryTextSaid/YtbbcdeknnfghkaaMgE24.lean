/- Texts put together. -/
import Derived.Test.YtbbcdeknnfghkaaMgE23
import Derived.Test.YtbbcdeknnfghkaaMgE15
import Derived.Test.YtbbcdeknnfghkaaMgE21
import Derived.Test.YtbbcdeknnfghkaaMgE4
import Derived.Deep.DeepCutAuto
import Derived.Deep.RegionHeld3
import Derived.Test.YtbbcdeknnfghkaaMgE6
import Derived.Test.YtbbcdeknnfghkaaMgE3
import Derived.Test.YtbbcdeknnfghkaaMgE5
/- LengthAfter of the program. Conditions: lengths of at most 2^20. -/
namespace Go.Proofs.Ytbbcdeknnfghkaa
open Go.RowKit

set_option maxHeartbeats 1000000 in
set_option maxRecDepth 100000 in
theorem implLengthAfter (l : List ByteArray) (v : Value) (t : ByteArray) (n : Int) (w : World) (h : Lst w v (strs l)) (hz : ∀ x ∈ l, x.size ≤ 1048576) (hn : l.length ≤ 1048576) (ht : t.size ≤ 1048576) :
    Calls Try.prog 23 #[.agg #[v], .string t, .int .i64 n] w fun e w' => e = .returned (.int .i64 (lenR l t n)) ∧ Below w.heap.size w w' := by
  obtain ⟨A, cp, rfl⟩ := lst_slice h
  rw [strs_length] at h ⊢
  have hb0 : Below w.heap.size w (w.alloc (.cells #[.slice A l.length cp] 24)) := (Below.refl _ _).alloc (Nat.le_refl _) _
  have HL := Lib.hid (h.below hb0)
  have HZ := Lib.hid hz
  have HB0 := Lib.hid hb0
  clear h hz hb0
  by_cases h0 : (letOk l t && substB l) = true
  · have HS := Lib.hid h0
    have HV : Hid (lenR l t n = if caOk l (unitC l.length (letN t)) n = true then isum (caR l (unitC l.length (letN t)) n) l.length else -1) := by show lenR l t n = _; unfold lenR; rw [h0]; rfl
    rw [Bool.and_eq_true] at h0
    obtain ⟨hl1, hl4, _⟩ := subst_parts h0.2
    obtain ⟨hle, hsb⟩ := h0
    unfold letOk at hle
    rw [Bool.and_eq_true, Bool.and_eq_true, decide_eq_true_eq, decide_eq_true_eq] at hle
    have hcl : (countsR t).length = 4 := by unfold countsR; rw [if_pos hle.1.2]; rfl
    have HCT := Lib.hid (letter_counts hle.1.1 hle.1.2 l.length hl4 hle.2)
    have HCL := Lib.hid hcl
    clear hle hsb hcl
    go_enter Try.func23, Try.ntmps23
    go_wp2_with fail
    refine (implHasLetter A l cp t _ HL.out HZ.out hn ht).mono ?_
    rintro e w1 ⟨rfl, hb1⟩
    rw [HS.out]
    have HB1 : Hid (Below w.heap.size w w1) := HB0.out.trans (hb1.mono (by simp))
    have ccp0 : w1.cell? ⟨w.heap.size, 0, none⟩ = some (.slice A l.length cp) := (hb1.cell (p := ⟨w.heap.size, 0, none⟩) (by simp)).trans (by go_simp)
    have zzp0 : w.heap.size < w1.heap.size := by have := hb1.size; simp at this; omega
    have HL1 := Lib.hid (HL.out.below hb1)
    clear hb1
    go_upto_region 3 with (fail)
    go_cut [7, 8] (fun s u wx => ∃ (A' : Option Addr) (cp' : Nat), s = .slice A' (caR l (unitC l.length (letN t)) n).length cp' ∧ u = .bool (caOk l (unitC l.length (letN t)) n) ∧ Hid (wx.ownsRow w1.heap.size 3 1 (.slice A' (caR l (unitC l.length (letN t)) n).length cp') (caR l (unitC l.length (letN t)) n).length (ints (caR l (unitC l.length (letN t)) n))) ∧ Below w1.heap.size w1 wx)
    case first =>
      have HBc : Hid (Below w1.heap.size w1 w1.drew) := below_drewN (Below.refl _ _) 1
      go_region_held3 (fun w' => w'.cell? ⟨w.heap.size, 0, none⟩ = some (.slice A l.length cp))
        (first | exact ccp0 | assumption | (go_simp; done))
        (first
          | (go_at_call 25
             refine (implCountsOf t _ ht).mono ?_
             rintro e wc ⟨vc, rfl, hoc, hb⟩
             rw [HCL.out] at hoc
             obtain ⟨gc, kc, rfl, hkc⟩ := own_some hoc (by decide)
             have HLC : Hid (Lst wc (.slice (some ⟨gc, 0, none⟩) l.length kc) (ints (unitC l.length (letN t)))) := by
               have := lst_take (Lst.of_own hoc) l.length (by rw [ints_length, HCL.out]; exact hl4)
               unfold ints at this
               rw [← List.map_take, HCT.out] at this
               exact this
             have hcut := cut_slice ⟨gc, 0, none⟩ 4 kc l.length (by omega)
             replace ccp0 : wc.cell? ⟨w.heap.size, 0, none⟩ = some (.slice A l.length cp) := (hb.cell (p := ⟨w.heap.size, 0, none⟩) (by first | assumption | (simp; omega) | simp)).trans (by first | assumption | go_simp)
             have hstwt := hb.size
             try simp at hstwt
             replace zzp0 : w.heap.size < wc.heap.size := by omega
             replace HBc : Hid (Below w1.heap.size w1 wc) := HBc.out.trans (hb.mono HBc.out.size)
             clear hb hoc)
          | (go_at_call 22
             refine (implCountAfter l _ (unitC l.length (letN t)) _ n _ (HL1.out.below HBc.out) HZ.out hn HLC.out (by rw [unitC_length]; exact hn)).mono ?_
             rintro e wd ⟨vd, rfl, hod, hb⟩
             obtain ⟨Ad, kd, rfl⟩ := own_slice hod
             have HOD := Lib.hid (own_mono hod HBc.out.size)
             replace ccp0 : wd.cell? ⟨w.heap.size, 0, none⟩ = some (.slice A l.length cp) := (hb.cell (p := ⟨w.heap.size, 0, none⟩) (by first | assumption | (simp; omega) | simp)).trans (by first | assumption | go_simp)
             replace HBc : Hid (Below w1.heap.size w1 wd) := HBc.out.trans (hb.mono HBc.out.size)
             clear hb hod))
      all_goals
        go_wp2_with fail
        go_meet
        exact ⟨_, _, rfl, rfl, HOD.out, HBc.out⟩
    case rest =>
      obtain ⟨A', cp', rfl, rfl, HO, hbx⟩ := hcut
      have HBX := Lib.hid (HB1.out.trans (hbx.mono HB1.out.size))
      clear hbx ccp0
      by_cases hok : caOk l (unitC l.length (letN t)) n = true
      · obtain ⟨hlen, hsm⟩ := caR_small hok
        have HSM := Lib.hid hsm
        have HIB := Lib.hid (isum_bound hsm)
        have HLEN := Lib.hid hlen
        have HV2 : Hid (lenR l t n = isum (caR l (unitC l.length (letN t)) n) l.length) := by show lenR l t n = _; rw [HV.out, if_pos hok]
        rw [hlen] at HO ⊢
        obtain ⟨g4, cc4, he4, _⟩ := own_some HO.out (by omega)
        injection he4 with hA4 _ hc4
        subst hA4; subst hc4
        rw [hok]
        generalize caR l (unitC l.length (letN t)) n = cs at HSM HIB HLEN HO HV2 ⊢
        clear hlen hsm hok
        go_wp2_with fail
        go_loop [9, 32] (fun s i => ∃ k : Nat, k ≤ l.length ∧ i = .int .i64 k ∧ s = .int .i64 (isum cs k)) (fun _ i => l.length - (intOf i).toNat)
        case atStart => exact ⟨0, by omega, rfl, rfl⟩
        case round =>
          obtain ⟨k, hk, rfl, rfl⟩ := hrel
          obtain ⟨t1, t2⟩ := HIB.out k hk
          by_cases hlt : k < l.length
          · have g3' := own_ints_at HO.out HLEN.out k hlt
            obtain ⟨s1, s2⟩ := HSM.out k hlt
            simp only [List.getD_eq_getElem?_getD] at s1 s2 g3'
            go_wp2_with fail
            go_round
            case rel => exact ⟨k + 1, by omega, by go_num, rfl⟩
            case measure => simp [intOf]; omega
          · have hkl : k = l.length := by omega
            have HV3 : Hid (isum cs k = lenR l t n) := by show isum cs k = _; rw [HV2.out, hkl]
            clear hkl
            go_wp2_with fail
            go_ret
            exact ⟨ret_int HV3.out, HBX.out⟩
      · have hok' : caOk l (unitC l.length (letN t)) n = false := by simpa only [Bool.not_eq_true] using hok
        have HV2 : Hid (lenR l t n = -1) := by show lenR l t n = _; rw [HV.out, if_neg hok]
        rw [hok']
        clear hok hok'
        go_wp2_with fail
        go_ret
        exact ⟨ret_int HV2.out.symm, HBX.out⟩
  · have h0' : (letOk l t && substB l) = false := by simpa only [Bool.not_eq_true] using h0
    have HS := Lib.hid h0'
    have HV : Hid (lenR l t n = -1) := by show lenR l t n = _; unfold lenR; rw [if_neg h0]
    clear h0 h0'
    go_enter Try.func23, Try.ntmps23
    go_wp2_with fail
    refine (implHasLetter A l cp t _ HL.out HZ.out hn ht).mono ?_
    rintro e w1 ⟨rfl, hb1⟩
    rw [HS.out]
    have HB1 : Hid (Below w.heap.size w w1) := HB0.out.trans (hb1.mono (by simp))
    clear hb1
    go_wp2_with fail
    go_ret
    exact ⟨ret_int HV.out.symm, HB1.out⟩
end Go.Proofs.Ytbbcdeknnfghkaa

/- IsFactor and PlacesIn of the model. Condition: texts of at most 2^20 bytes. -/
namespace Go.Proofs.Ytbbcdeknnfghkaa
open Go.RowKit

theorem slice_at {P : Program} {t : TypeId} (ht : P.underlying t = some .string) (s : ByteArray) (k n : Nat) (w : World) (h : k + n ≤ s.size) :
    (Instr.slice t (.string s) (some (.int .i64 (k : Int))) (some (.int .i64 ((k : Int) + (n : Int)))) none).run P w = .ok (.string (s.extract k (k + n))) w := by
  rw [run_slice_string (P := P) w t s .i64 .i64 (k : Int) ((k : Int) + (n : Int)) ht (by omega) (by omega) (by omega)]
  rw [show ((k : Int) + (n : Int)).toNat = k + n from by omega, Int.toNat_natCast]

/-- f begins at i in s -/
def At (s f : ByteArray) (i : Nat) : Prop := i + f.size ≤ s.size ∧ s.extract i (i + f.size) = f
noncomputable def hasR (s f : ByteArray) : Bool := @decide (∃ i, At s f i) (Classical.propDecidable _)
theorem hasR_yes {s f : ByteArray} {i : Nat} (h : At s f i) : hasR s f = true := by
  unfold hasR
  exact @decide_eq_true _ (Classical.propDecidable _) ⟨i, h⟩
theorem hasR_no {s f : ByteArray} {k : Nat} (h : ∀ i, i < k → ¬ At s f i) (hk : ¬ k + f.size ≤ s.size) : hasR s f = false := by
  unfold hasR
  rw [decide_eq_false_iff_not]
  rintro ⟨i, hi⟩
  rcases Nat.lt_or_ge i k with hlt | hge
  · exact h i hlt hi
  · exact hk (by have := hi.1; omega)

set_option maxHeartbeats 400000 in
theorem specHas (s f : ByteArray) (w : World) (hs : s.size ≤ 1048576) (hf : f.size ≤ 1048576) :
    Calls Try.prog 74 #[.string s, .string f] w fun e w' => e = .returned (.bool (hasR s f)) ∧ w = w' := by
  go_enter Try.func74, Try.ntmps74
  go_wp2
  go_loop [5] (fun i => ∃ k : Nat, k ≤ s.size + 1 ∧ i = .int .i64 k ∧ ∀ j, j < k → ¬ At s f j) (fun i => s.size + 1 - (intOf i).toNat)
  case atStart => exact ⟨0, by omega, rfl, fun j h => absurd h (by omega)⟩
  case round =>
    obtain ⟨k, hk, rfl, hno⟩ := hrel
    have HN := Lib.hid hno
    clear hno
    by_cases hlt : k + f.size ≤ s.size
    · have hsl : ∀ w : World, (Instr.slice 9 (.string s) (some (.int .i64 (k : Int))) (some (.int .i64 ((k : Int) + (f.size : Int)))) none).run Try.prog w = .ok (.string (s.extract k (k + f.size))) w := fun w => slice_at Try.underlying9 s k f.size w hlt
      by_cases he : s.extract k (k + f.size) = f
      · have HY := Lib.hid (hasR_yes (i := k) ⟨hlt, he⟩)
        have hb : ((s.extract k (k + f.size)).toList == f.toList) = true := by rw [he]; simp
        clear he
        go_wp2
        go_ret
        exact ⟨ret_bool HY.out.symm, rfl⟩
      · have hb : ((s.extract k (k + f.size)).toList == f.toList) = false := by
          rw [beq_eq_false_iff_ne]
          exact fun h => he (bytes_ext h)
        have HE := Lib.hid he
        clear he
        go_wp2
        go_round
        case rel =>
          refine ⟨k + 1, by omega, by go_num, fun j hj => ?_⟩
          by_cases e : j = k
          · subst e; exact fun h => HE.out h.2
          · exact HN.out j (by omega)
        case measure => simp [intOf]; omega
    · have HX := Lib.hid (hasR_no HN.out hlt)
      go_wp2
      go_ret
      exact ⟨ret_bool HX.out.symm, rfl⟩

/-- what IsFactor is to return -/
noncomputable def factR (s f : ByteArray) : Bool := wordB s && (wordB f && hasR s f)
open Classical in
/-- the places below k at which f begins -/
noncomputable def placesTo (s f : ByteArray) : Nat → List Int
  | 0 => []
  | k + 1 => if At s f k then placesTo s f k ++ [(k : Int)] else placesTo s f k
theorem placesTo_le (s f : ByteArray) : ∀ k, (placesTo s f k).length ≤ k
  | 0 => by simp [placesTo]
  | k + 1 => by
    have := placesTo_le s f k
    unfold placesTo
    split
    · simp; omega
    · omega
open Classical in
/-- what PlacesIn is to return -/
noncomputable def placesR (s f : ByteArray) : List Int := if wordB s = true ∧ wordB f = true ∧ f.size ≠ 0 then placesTo s f (s.size + 1) else []
theorem placesR_le (s f : ByteArray) : (placesR s f).length ≤ s.size + 1 := by
  unfold placesR; split
  · exact placesTo_le s f _
  · simp
theorem placesTo_more {s f : ByteArray} (k : Nat) (hk : ¬ k + f.size ≤ s.size) : ∀ n, placesTo s f (k + n) = placesTo s f k
  | 0 => rfl
  | n + 1 => by
    show placesTo s f ((k + n) + 1) = _
    rw [placesTo, if_neg (fun h => hk (by have := h.1; omega)), placesTo_more k hk n]

end Go.Proofs.Ytbbcdeknnfghkaa

/- The orbit of a letter, and the power after which some letter comes back. No program in it. -/
namespace Go.Proofs.Ytbbcdeknnfghkaa
open Go.RowKit

theorem goN_add (l : List ByteArray) (k j : Nat) : ∀ m, goN l (goN l k j) m = goN l k (j + m)
  | 0 => rfl
  | m + 1 => by
    show firstN l (goN l (goN l k j) m) = firstN l (goN l k (j + m))
    rw [goN_add l k j m]
theorem goN_succ' (l : List ByteArray) (k m : Nat) : goN l k (m + 1) = goN l (firstN l k) m := by
  have := goN_add l k 1 m
  rw [Nat.add_comm m 1, ← this]
  rfl
theorem pigeon : ∀ a b c d e : Fin 4, a ≠ b → c ≠ a → c ≠ b → d ≠ a → d ≠ b → d ≠ c → e = a ∨ e = b ∨ e = c ∨ e = d := by decide
/-- among the first four is one that comes back -/
theorem orb_some {l : List ByteArray} (hl : substB l = true) {k : Nat} (hk : k < l.length) (h1 : ¬ goN l k 1 ∈ orbTo l k 1) (h2 : ¬ goN l k 2 ∈ orbTo l k 2) (h3 : ¬ goN l k 3 ∈ orbTo l k 3) : goN l k 4 ∈ orbTo l k 4 := by
  have h4 := (subst_parts hl).2.1
  have lt : ∀ n, goN l k n < 4 := fun n => by have := goN_lt hl hk n; omega
  simp only [orbTo, List.nil_append, not_or, List.cons_append, List.mem_cons, List.not_mem_nil, or_false] at h1 h2 h3 ⊢
  have p := pigeon ⟨_, lt 0⟩ ⟨_, lt 1⟩ ⟨_, lt 2⟩ ⟨_, lt 3⟩ ⟨_, lt 4⟩
  simp only [ne_eq, Fin.mk.injEq] at p
  omega
theorem orbN_eq {l : List ByteArray} {k n : Nat} (h1 : 1 ≤ n) (h4 : n ≤ 4) (hno : ∀ m, 1 ≤ m → m < n → ¬ goN l k m ∈ orbTo l k m) (hy : goN l k n ∈ orbTo l k n) : orbN l k = n := by
  unfold orbN
  rcases (show n = 1 ∨ n = 2 ∨ n = 3 ∨ n = 4 by omega) with e | e | e | e <;> subst e
  · rw [if_pos hy]
  · rw [if_neg (hno 1 (by omega) (by omega)), if_pos hy]
  · rw [if_neg (hno 1 (by omega) (by omega)), if_neg (hno 2 (by omega) (by omega)), if_pos hy]
  · rw [if_neg (hno 1 (by omega) (by omega)), if_neg (hno 2 (by omega) (by omega)), if_neg (hno 3 (by omega) (by omega))]
theorem backB_iff {l : List ByteArray} {n : Nat} : backB l n = true ↔ ∃ k, k < l.length ∧ goN l k n = k := by
  unfold backB
  simp [List.any_eq_true]
theorem back_some {l : List ByteArray} (hl : substB l = true) : ∃ n, 1 ≤ n ∧ n ≤ 4 ∧ backB l n = true := by
  have hk : 0 < l.length := (subst_parts hl).1
  have key : ∃ n, 1 ≤ n ∧ n ≤ 4 ∧ goN l 0 n ∈ orbTo l 0 n := by
    by_cases h1 : goN l 0 1 ∈ orbTo l 0 1
    · exact ⟨1, by omega, by omega, h1⟩
    by_cases h2 : goN l 0 2 ∈ orbTo l 0 2
    · exact ⟨2, by omega, by omega, h2⟩
    by_cases h3 : goN l 0 3 ∈ orbTo l 0 3
    · exact ⟨3, by omega, by omega, h3⟩
    exact ⟨4, by omega, by omega, orb_some hl hk h1 h2 h3⟩
  obtain ⟨n, a, b, c⟩ := key
  obtain ⟨i, hi, e⟩ := (orbTo_mem l 0 _ n).1 c
  refine ⟨n - i, by omega, by omega, backB_iff.2 ⟨goN l 0 i, goN_lt hl hk i, ?_⟩⟩
  rw [goN_add, show i + (n - i) = n from by omega, e]
theorem powR_eq {l : List ByteArray} (hl : substB l = true) {n : Nat} (h1 : 1 ≤ n) (hno : ∀ m, 1 ≤ m → m < n → backB l m = false) (hy : backB l n = true) : powR l = (n : Int) := by
  have h4 : n ≤ 4 := by
    obtain ⟨m, a, b, c⟩ := back_some hl
    by_cases h : m < n
    · rw [hno m a h] at c; cases c
    · omega
  unfold powR
  rw [if_pos hl]
  rcases (show n = 1 ∨ n = 2 ∨ n = 3 ∨ n = 4 by omega) with e | e | e | e <;> subst e
  · rw [hy]; rfl
  · rw [hno 1 (by omega) (by omega), hy]; rfl
  · rw [hno 1 (by omega) (by omega), hno 2 (by omega) (by omega), hy]; rfl
  · rw [hno 1 (by omega) (by omega), hno 2 (by omega) (by omega), hno 3 (by omega) (by omega)]; rfl
theorem pow_go {l : List ByteArray} (hl : substB l = true) {n : Nat} (hno : ∀ m, 1 ≤ m → m < n → backB l m = false) : n ≤ 4 := by
  obtain ⟨m, a, b, c⟩ := back_some hl
  by_cases h : m < n
  · rw [hno m a h] at c; cases c
  · omega
/-- the letters of an orbit, as a text -/
def orbS (l : List ByteArray) (k n : Nat) : ByteArray := ⟨((orbTo l k n).map letterN).toArray⟩
theorem orbS_size (l : List ByteArray) (k n : Nat) : (orbS l k n).size = n := by
  show ((orbTo l k n).map letterN).toArray.size = n
  simp [orbTo_length]
theorem orbS_succ (l : List ByteArray) (k n : Nat) : orbS l k n ++ ⟨#[letterN (goN l k n)]⟩ = orbS l k (n + 1) := by
  apply bytes_ext
  rw [ByteArray.toList_eq, ByteArray.toList_eq, ByteArray.data_append]
  show _ = (List.map letterN (orbTo l k n ++ [goN l k n]))
  simp [orbS]
theorem letterN_inj {a b : Nat} (ha : a ≤ 3) (hb : b ≤ 3) (h : letterN a = letterN b) : a = b := by
  have := congrArg UInt8.toNat h
  rw [letterN_toNat a (by omega), letterN_toNat b (by omega)] at this
  omega
theorem orbS_has {l : List ByteArray} (hl : substB l = true) {k : Nat} (hk : k < l.length) (n : Nat) (x : Nat) (hx : x ≤ 3) : hasR (orbS l k n) ⟨#[letterN x]⟩ = true ↔ x ∈ orbTo l k n := by
  have h4 := (subst_parts hl).2.1
  have hlen : (orbTo l k n).length = n := orbTo_length l k n
  have hs1 : (⟨#[letterN x]⟩ : ByteArray).size = 1 := rfl
  have hat : ∀ i (hi : i < n), (orbS l k n).extract i (i + 1) = ⟨#[letterN ((orbTo l k n)[i]'(by omega))]⟩ := by
    intro i hi
    apply bytes_ext
    rw [ByteArray.toList_eq, ByteArray.toList_eq]
    simp only [ByteArray.data_extract, orbS]
    simp
    rw [List.drop_eq_getElem_cons (by simpa [hlen] using hi)]
    simp
  have hmem : ∀ y ∈ orbTo l k n, y ≤ 3 := by
    intro y hy
    obtain ⟨i, _, e⟩ := (orbTo_mem l k y n).1 hy
    have := goN_lt hl hk i
    omega
  constructor
  · intro h
    obtain ⟨i, h1, h2⟩ := @of_decide_eq_true _ (Classical.propDecidable _) h
    rw [hs1, orbS_size] at h1
    rw [hs1, hat i (by omega)] at h2
    have h3 : letterN ((orbTo l k n)[i]'(by omega)) = letterN x := by
      injection h2 with h2
      simpa using h2
    have hm : (orbTo l k n)[i]'(by omega) ∈ orbTo l k n := List.getElem_mem _
    rw [← letterN_inj (hmem _ hm) hx h3]
    exact hm
  · intro h
    obtain ⟨i, hi, e⟩ := List.mem_iff_getElem.1 h
    refine hasR_yes (i := i) ⟨by rw [hs1, orbS_size]; omega, ?_⟩
    rw [hs1, hat i (by omega), e]
end Go.Proofs.Ytbbcdeknnfghkaa
