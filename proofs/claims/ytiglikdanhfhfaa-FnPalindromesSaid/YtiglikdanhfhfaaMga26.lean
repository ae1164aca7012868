/- Texts put together. -/
import Derived.Test.YtiglikdanhfhfaaMga25
import Derived.Test.YtiglikdanhfhfaaMga4
import Derived.Deep.AppendLies
import Derived.Test.YtiglikdanhfhfaaMga9
import Derived.Deep.DeepCutAuto
import Derived.Deep.CutBlock
import Derived.Deep.QuietTactic
import Derived.BigQuiet
/- FormatSubst, ParseSubst and NamedSubst of the model. Conditions: lengths of at most 2^20. -/
namespace Go.Proofs.Ytiglikdanhfhfaa
open Go.RowKit

/-- what FormatSubst is to return -/
def fmtR (l : List ByteArray) : ByteArray := if substB l = true then joinS l ⟨#[44]⟩ else ⟨#[]⟩
theorem total_of_all : ∀ (l : List ByteArray) (m : Nat), (∀ x ∈ l, x.size ≤ m) → totalS l ≤ m * l.length
  | [], _, _ => by simp [totalS]
  | x :: l, m, h => by
    have h1 := h x (List.mem_cons_self ..)
    have h2 := total_of_all l m (fun y hy => h y (List.mem_cons_of_mem _ hy))
    unfold totalS at h2 ⊢
    rw [List.map_cons, List.sum_cons, List.length_cons, Nat.mul_succ]
    omega
theorem subst_total {l : List ByteArray} (h : substB l = true) : l.length + totalS l ≤ 36 := by
  obtain ⟨_, h4, hi⟩ := subst_parts h
  have := total_of_all l 8 (fun x hx => by
    obtain ⟨k, hk, rfl⟩ := List.mem_iff_getElem.1 hx
    exact (img_parts (hi k hk)).2.1)
  omega

/-- what ParseSubst is to return -/
noncomputable def parseOk (t : ByteArray) : Bool := decide (t.size ≤ 40) && (substB (splitL t ⟨#[44]⟩) && decide (fmtR (splitL t ⟨#[44]⟩) = t))
noncomputable def parseSub (t : ByteArray) : List ByteArray := if parseOk t = true then splitL t ⟨#[44]⟩ else []

theorem parseSub_le (t : ByteArray) : (parseSub t).length ≤ 41 := by
  unfold parseSub; split
  · rename_i h
    have h1 := splitL_length t ⟨#[44]⟩
    have h2 : t.size ≤ 40 := by
      unfold parseOk at h
      rw [Bool.and_eq_true] at h
      simpa using h.1
    omega
  · simp

end Go.Proofs.Ytiglikdanhfhfaa

/- NamedSubst of the model. No condition. -/
namespace Go.Proofs.Ytiglikdanhfhfaa
open Go.RowKit

/-- SplitAny, reckoned -/
def splitC (s y : ByteArray) : Nat → List ByteArray × Nat
  | 0 => ([], 0)
  | k + 1 => if h : k < s.size then (if y.data.toList.contains s[k] then ((splitC s y k).1 ++ [s.extract (splitC s y k).2 k], k + 1) else splitC s y k) else splitC s y k
theorem isSep_iff (y : ByteArray) (c : UInt8) : isSep y c ↔ y.data.toList.contains c = true := by
  rw [List.contains_iff_mem]
  constructor
  · rintro ⟨i, h, rfl⟩
    have : y[i] = y.data.toList[i]'(by simpa using h) := rfl
    rw [this]; exact List.getElem_mem _
  · intro h
    obtain ⟨i, hi, e⟩ := List.mem_iff_getElem.1 h
    exact ⟨i, by simpa using hi, e⟩
theorem splitC_eq (s y : ByteArray) : ∀ k, splitTo s y k = splitC s y k
  | 0 => rfl
  | k + 1 => by
    have ih := splitC_eq s y k
    rw [splitC]
    by_cases h : k < s.size
    · rw [dif_pos h]
      by_cases hs : isSep y s[k]
      · rw [splitTo_yes h hs, ih, if_pos ((isSep_iff _ _).1 hs)]
      · rw [splitTo_no h hs, ih, if_neg (fun h' => hs ((isSep_iff _ _).2 h'))]
    · rw [dif_neg h, splitTo, if_neg (fun ⟨h', _⟩ => h h'), ih]
theorem splitL_eq (s y : ByteArray) : splitL s y = (splitC s y s.size).1 ++ [s.extract (splitC s y s.size).2 s.size] := by
  unfold splitL
  rw [splitC_eq]
theorem parse_at {t : ByteArray} {l : List ByteArray} (h : (splitC t ⟨#[44]⟩ t.size).1 ++ [t.extract (splitC t ⟨#[44]⟩ t.size).2 t.size] = l) (h1 : t.size ≤ 40) (h2 : substB l = true) (h3 : fmtR l = t) : parseOk t = true ∧ parseSub t = l := by
  have e : splitL t ⟨#[44]⟩ = l := (splitL_eq _ _).trans h
  have a : parseOk t = true := by
    unfold parseOk
    rw [e, h2, decide_eq_true h1, decide_eq_true h3]
    rfl
  exact ⟨a, (if_pos a).trans e⟩
theorem parse_fibonacci : parseOk ⟨#[97, 98, 44, 97]⟩ = true ∧ parseSub ⟨#[97, 98, 44, 97]⟩ = [⟨#[97, 98]⟩, ⟨#[97]⟩] := parse_at (by kernel_rfl) (by decide) (by kernel_rfl) (by kernel_rfl)
theorem parse_thue : parseOk ⟨#[97, 98, 44, 98, 97]⟩ = true ∧ parseSub ⟨#[97, 98, 44, 98, 97]⟩ = [⟨#[97, 98]⟩, ⟨#[98, 97]⟩] := parse_at (by kernel_rfl) (by decide) (by kernel_rfl) (by kernel_rfl)
theorem parse_doubling : parseOk ⟨#[97, 98, 44, 97, 97]⟩ = true ∧ parseSub ⟨#[97, 98, 44, 97, 97]⟩ = [⟨#[97, 98]⟩, ⟨#[97, 97]⟩] := parse_at (by kernel_rfl) (by decide) (by kernel_rfl) (by kernel_rfl)
theorem parse_tribonacci : parseOk ⟨#[97, 98, 44, 97, 99, 44, 97]⟩ = true ∧ parseSub ⟨#[97, 98, 44, 97, 99, 44, 97]⟩ = [⟨#[97, 98]⟩, ⟨#[97, 99]⟩, ⟨#[97]⟩] := parse_at (by kernel_rfl) (by decide) (by kernel_rfl) (by kernel_rfl)
theorem parse_silver : parseOk ⟨#[97, 97, 98, 44, 97]⟩ = true ∧ parseSub ⟨#[97, 97, 98, 44, 97]⟩ = [⟨#[97, 97, 98]⟩, ⟨#[97]⟩] := parse_at (by kernel_rfl) (by decide) (by kernel_rfl) (by kernel_rfl)
theorem parse_squarefree : parseOk ⟨#[97, 98, 99, 44, 97, 99, 44, 98]⟩ = true ∧ parseSub ⟨#[97, 98, 99, 44, 97, 99, 44, 98]⟩ = [⟨#[97, 98, 99]⟩, ⟨#[97, 99]⟩, ⟨#[98]⟩] := parse_at (by kernel_rfl) (by decide) (by kernel_rfl) (by kernel_rfl)
theorem parse_rudin : parseOk ⟨#[97, 98, 44, 97, 99, 44, 100, 98, 44, 100, 99]⟩ = true ∧ parseSub ⟨#[97, 98, 44, 97, 99, 44, 100, 98, 44, 100, 99]⟩ = [⟨#[97, 98]⟩, ⟨#[97, 99]⟩, ⟨#[100, 98]⟩, ⟨#[100, 99]⟩] := parse_at (by kernel_rfl) (by decide) (by kernel_rfl) (by kernel_rfl)
/-- what NamedSubst is to return -/
def namedL (t : ByteArray) : List ByteArray :=
  if t = ⟨#[102, 105, 98, 111, 110, 97, 99, 99, 105]⟩ then [⟨#[97, 98]⟩, ⟨#[97]⟩]
  else if t = ⟨#[116, 104, 117, 101]⟩ then [⟨#[97, 98]⟩, ⟨#[98, 97]⟩]
  else if t = ⟨#[100, 111, 117, 98, 108, 105, 110, 103]⟩ then [⟨#[97, 98]⟩, ⟨#[97, 97]⟩]
  else if t = ⟨#[116, 114, 105, 98, 111, 110, 97, 99, 99, 105]⟩ then [⟨#[97, 98]⟩, ⟨#[97, 99]⟩, ⟨#[97]⟩]
  else if t = ⟨#[115, 105, 108, 118, 101, 114]⟩ then [⟨#[97, 97, 98]⟩, ⟨#[97]⟩]
  else if t = ⟨#[115, 113, 117, 97, 114, 101, 102, 114, 101, 101]⟩ then [⟨#[97, 98, 99]⟩, ⟨#[97, 99]⟩, ⟨#[98]⟩]
  else if t = ⟨#[114, 117, 100, 105, 110]⟩ then [⟨#[97, 98]⟩, ⟨#[97, 99]⟩, ⟨#[100, 98]⟩, ⟨#[100, 99]⟩]
  else []
def namedOk (t : ByteArray) : Bool := decide (namedL t ≠ [])
theorem namedL_le (t : ByteArray) : (namedL t).length ≤ 4 := by
  unfold namedL
  repeat' split
  all_goals decide
theorem eq_toList (t : ByteArray) (l : List UInt8) : (t.toList = l) ↔ t = ⟨l.toArray⟩ := by
  constructor
  · intro h
    apply bytes_ext
    rw [h, ByteArray.toList_eq]
  · intro h
    rw [h, ByteArray.toList_eq]

end Go.Proofs.Ytiglikdanhfhfaa

/- The model's draws of substitutions: l01Once, l03Draw, MakeSubst. Condition: the bytes are at most 2^20. -/
namespace Go.Proofs.Ytiglikdanhfhfaa
open Go.RowKit

theorem Cur.drewN {w : World} {g : Nat} {v : Value} {zs : List Int} (h : Cur w g v zs) (n : Nat) : Cur (w.drewN n) g v zs := h
def OnceSaid (g : Nat) (v : Value) (zs : List Int) (w : World) (e : Ending) (w' : World) : Prop := ∃ b : Bool, e = .returned (.bool b) ∧ Cur w' g v zs ∧ w.grownBy w' (some g)
theorem l01Once_any (g : Nat) (v : Value) (zs : List Int) (n : Int) (w : World) (hz : IsBytes zs) (hc : Cur w g v zs) (h0 : 0 < n) (h1 : n ≤ 256) :
    Calls Try.prog 61 #[.pointer (some ⟨g, 0, none⟩), .int .i64 n] w (OnceSaid g v zs w) := by
  have HB := Lib.hid (l01Below_small g v zs n w hz hc h0 h1)
  clear hz hc
  go_enter Try.func61, Try.ntmps61
  go_wp2_with fail
  refine HB.out.mono ?_
  rintro e w1 ⟨x, rfl, x0, x1, hc1, hg1⟩
  have HC := Lib.hid hc1
  clear hc1
  go_wp2_with fail
  go_ret
  exact ⟨_, rfl, HC.out, hg1⟩

def seven : List ByteArray := [⟨#[102, 105, 98, 111, 110, 97, 99, 99, 105]⟩, ⟨#[116, 104, 117, 101]⟩, ⟨#[100, 111, 117, 98, 108, 105, 110, 103]⟩, ⟨#[116, 114, 105, 98, 111, 110, 97, 99, 99, 105]⟩, ⟨#[115, 105, 108, 118, 101, 114]⟩, ⟨#[115, 113, 117, 97, 114, 101, 102, 114, 101, 101]⟩, ⟨#[114, 117, 100, 105, 110]⟩]
theorem seven_ok : ∀ s ∈ seven, substB (namedL s) = true ∧ s.size ≤ 1048576 := by
  intro s hs
  simp only [seven, List.mem_cons, List.not_mem_nil, or_false] at hs
  rcases hs with rfl | rfl | rfl | rfl | rfl | rfl | rfl <;> exact ⟨by kernel_rfl, by decide⟩
theorem grown_setCell {a b : World} {row : Option Nat} (h : a.grownBy b row) (p : Addr) (u : Value) (hp : a.heap.size ≤ p.block) : a.grownBy (b.setCell p u) row :=
  ⟨h.os, h.tape, h.output, by simpa using h.size, fun k hk hne => (heap_setCell_other b p k u (by omega)).trans (h.block k hk hne)⟩
theorem setCell_grown (w : World) (p : Addr) (u : Value) : w.grownBy (w.setCell p u) (some p.block) :=
  ⟨rfl, rfl, rfl, by simp, fun k _ hk => heap_setCell_other w p k u (fun e => hk (by rw [e]))⟩
theorem grown_below {a b c : World} {row : Option Nat} (h : a.grownBy b row) (k : Below b.heap.size b c) : a.grownBy c row := grown_trans h (grown_of_below k row)
/-- images of n letters, of which each has an image -/
def imgsB (n : Nat) (l : List ByteArray) : Prop := ∀ x ∈ l, imgB n x = true
theorem img_of_word {n : Nat} {s : ByteArray} (h1 : 1 ≤ s.size) (h4 : s.size ≤ 4) (hn : n ≤ 4) (h : ∀ c ∈ s.data.toList, 97 ≤ c.toNat ∧ (c.toNat : Int) < 97 + (n : Int)) : imgB n s = true := by
  refine img_yes h1 (by omega) ?_ ?_
  · unfold wordB
    rw [decide_eq_true (by omega)]
    show (true && s.data.toList.all isAbcd) = true
    rw [Bool.true_and, List.all_eq_true]
    intro c hc
    have := h c hc
    simp [isAbcd]
    omega
  · unfold withinB
    rw [List.all_eq_true]
    intro c hc
    have := h c hc
    simp
    omega
theorem subst_of_imgs {l : List ByteArray} (h1 : 1 ≤ l.length) (h4 : l.length ≤ 4) (h : imgsB l.length l) : substB l = true := by
  unfold substB
  rw [decide_eq_true h1, decide_eq_true h4]
  show (true && l.all (imgB l.length)) = true
  rw [Bool.true_and, List.all_eq_true]
  exact h

def SubDrawn (g : Nat) (w : World) (e : Ending) (w' : World) : Prop :=
  ∃ (u : Value) (l : List ByteArray), e = .returned (.agg #[u]) ∧ substB l = true ∧ w'.ownsRow w.heap.size 9 1 u l.length (strs l) ∧ w.grownBy w' (some g)

def SubMade (w : World) (e : Ending) (w' : World) : Prop :=
  ∃ (u : Value) (l : List ByteArray), e = .returned (.agg #[u]) ∧ substB l = true ∧ w'.ownsRow w.heap.size 9 1 u l.length (strs l) ∧ Below w.heap.size w w'

end Go.Proofs.Ytiglikdanhfhfaa

/- The model's draws of words: l02Draw, MakeWord. Condition: the bytes are at most 2^20, a word of at most 100 letters is asked for. -/
namespace Go.Proofs.Ytiglikdanhfhfaa
open Go.RowKit

def AllW (s : ByteArray) : Prop := ∀ c ∈ s.data.toList, isAbcd c = true
theorem allW_word {s : ByteArray} (h : AllW s) (h4 : s.size ≤ 400) : wordB s = true := by
  unfold wordB
  rw [decide_eq_true h4, Bool.true_and, List.all_eq_true]
  exact h
theorem allW_app {a b : ByteArray} (ha : AllW a) (hb : AllW b) : AllW (a ++ b) := by
  intro c hc
  rw [ByteArray.data_append, Array.toList_append, List.mem_append] at hc
  rcases hc with h | h
  · exact ha c h
  · exact hb c h
theorem allW_ext {a : ByteArray} (ha : AllW a) (n : Nat) : AllW (a.extract 0 n) := by
  intro c hc
  rw [ByteArray.data_extract, Array.toList_extract, List.extract_eq_take_drop, List.drop_zero] at hc
  exact ha c (List.mem_of_mem_take hc)
def strLen : Value → Nat | .string r => r.size | _ => 0
theorem slice_up (r : ByteArray) (k : Nat) (hk : k ≤ r.size) (w : World) : (Instr.slice 9 (.string r) none (some (.int .i64 (k : Int))) none).run Try.prog w = .ok (.string (r.extract 0 k)) w := by
  rw [run_slice_string_to_if (P := Try.prog) w 9 r .i64 (k : Int) Try.underlying9, if_pos ⟨by omega, by omega⟩]
  rfl
theorem up_size (r : ByteArray) (k : Nat) (hk : k ≤ r.size) : (r.extract 0 k).size = k := by rw [ByteArray.size_extract]; omega
def WordDrawn (p : Nat) (g : Nat) (v : Value) (zs : List Int) (w : World) (e : Ending) (w' : World) : Prop :=
  ∃ s : ByteArray, e = .returned (.string s) ∧ AllW s ∧ s.size ≤ p ∧ Cur w' g v zs ∧ w.grownBy w' (some g)

set_option maxHeartbeats 1000000 in
set_option maxRecDepth 100000 in
theorem l02Draw_any (p : Nat) (g : Nat) (v : Value) (zs : List Int) (w : World) (hz : IsBytes zs) (hc : Cur w g v zs) (hp : p ≤ 100) :
    Calls Try.prog 40 #[.pointer (some ⟨g, 0, none⟩), .int .i64 (p : Int)] w (WordDrawn p g v zs w) := by
  have HZ := Lib.hid hz
  have HC := Lib.hid hc
  clear hz hc
  go_enter Try.func40, Try.ntmps40
  go_wp2_with fail
  refine (l01Below_small g v zs 3 _ HZ.out HC.out (by omega) (by omega)).mono ?_
  rintro e w1 ⟨x, rfl, x0, x1, hc1, hg1⟩
  have HC1 := Lib.hid hc1
  have HG1 := Lib.hid hg1
  clear hc1 hg1
  go_wp2_with fail
  refine (l01Below_small g v zs ((p : Int) + 1) _ HZ.out HC1.out (by omega) (by omega)).mono ?_
  rintro e w2 ⟨y, rfl, y0, y1, hc2, hg2⟩
  have HC2 := Lib.hid hc2
  have HG2 := Lib.hid (grown_trans HG1.out hg2)
  clear hc2 hg2
  go_wp2_with fail
  refine (l02Word_any y (1 + x) g v zs _ HZ.out HC2.out (by omega) (by omega) (by omega) (by omega)).mono ?_
  rintro e w3 ⟨s, rfl, hs, hall, hc3, hg3⟩
  have HC3 := Lib.hid hc3
  have HG3 := Lib.hid (grown_trans HG2.out hg3)
  have HA : Hid (AllW s) := fun c h => by
    obtain ⟨a, b⟩ := hall c h
    unfold isAbcd
    rw [decide_eq_true a, decide_eq_true (by omega)]
    rfl
  have hsp : s.size ≤ p := by omega
  clear hc3 hg3 hall hs
  go_wp2_with fail
  refine (l01Once_any g v zs 4 _ HZ.out HC3.out (by omega) (by omega)).mono ?_
  rintro e w4 ⟨b, rfl, hc4, hg4⟩
  have HC4 := Lib.hid hc4
  have HG4 := Lib.hid (grown_trans HG3.out hg4)
  clear hc4 hg4
  cases b
  · go_wp2_with fail
    have HCq := HC4
    have HGq := HG4
    have HAR := HA
    have hRP := hsp
    refine (l01Once_any g v zs 6 _ HZ.out HCq.out (by omega) (by omega)).mono ?_
    rintro e w5 ⟨b2, rfl, hc5, hg5⟩
    have HC5 := Lib.hid hc5
    have HG5 := Lib.hid (grown_trans HGq.out hg5)
    clear hc5 hg5
    cases b2
    · go_wp2_with fail
      go_ret
      exact ⟨_, rfl, HAR.out, hRP, HC5.out, HG5.out⟩
    · go_wp2_with fail
      go_loop [7] (fun o => ∃ r : ByteArray, o = .string r ∧ AllW r ∧ 2 ≤ r.size ∧ r.size ≤ 2 * p + 4) (fun o => 2 * p + 4 - strLen o)
      case atStart => exact ⟨_, rfl, by intro c hc; simp at hc; rcases hc with rfl | rfl <;> rfl, by decide, by show 2 ≤ _; omega⟩
      case round =>
        obtain ⟨r, rfl, har, h2, hrp⟩ := hrel
        have HAr := Lib.hid har
        clear har
        by_cases hlt : r.size < p
        · have hsl := slice_up r (r.size / 2 + 1) (by omega)
          have q1 : ((r.size / 2 + 1 : Nat) : Int) = (r.size : Int) / 2 + 1 := by omega
          have HUS := Lib.hid (up_size r (r.size / 2 + 1) (by omega))
          go_wp2_with fail
          go_round
          case rel =>
            refine ⟨_, rfl, allW_app HAr.out (allW_ext HAr.out _), ?_, ?_⟩
            · rw [ByteArray.size_append]; omega
            · rw [ByteArray.size_append, HUS.out]; omega
          case measure => simp only [strLen, ByteArray.size_append, HUS.out]; omega
        · have hsl := slice_up r p (by omega)
          have q1 : min (r.size : Int) (p : Int) = (p : Int) := by omega
          have HUS := Lib.hid (up_size r p (by omega))
          go_wp2_with fail
          all_goals go_ret
          all_goals first | exact ⟨_, rfl, allW_ext HAr.out _, by rw [HUS.out]; exact Nat.le_refl _, HC5.out, HG5.out⟩ | exact ⟨_, rfl, HAr.out, by omega, HC5.out, HG5.out⟩
  · by_cases h1 : 1 < s.size
    · have d1 : decide ((1 : Int) < (s.size : Int)) = true := by simp; omega
      have hsl := slice_up s (s.size / 2) (by omega)
      have q0 : ((s.size / 2 : Nat) : Int) = (s.size : Int) / 2 := by omega
      have HUS0 := Lib.hid (up_size s (s.size / 2) (by omega))
      go_wp2_with fail
      go_quiet (fail)
      go_wp2_with fail
      have HCq := Lib.hid (HC4.out.drewN nq)
      have HGq := Lib.hid (grown_drewN HG4.out nq)
      have HAR := Lib.hid (allW_app (allW_ext HA.out (s.size / 2)) (allW_ext HA.out (s.size / 2)))
      have hRP : (s.extract 0 (s.size / 2) ++ s.extract 0 (s.size / 2)).size ≤ p := by rw [ByteArray.size_append, HUS0.out]; omega
      clear hsl q0
      generalize s.extract 0 (s.size / 2) ++ s.extract 0 (s.size / 2) = s' at HAR hRP ⊢
      refine (l01Once_any g v zs 6 _ HZ.out HCq.out (by omega) (by omega)).mono ?_
      rintro e w5 ⟨b2, rfl, hc5, hg5⟩
      have HC5 := Lib.hid hc5
      have HG5 := Lib.hid (grown_trans HGq.out hg5)
      clear hc5 hg5
      cases b2
      · go_wp2_with fail
        go_ret
        exact ⟨_, rfl, HAR.out, hRP, HC5.out, HG5.out⟩
      · go_wp2_with fail
        go_loop [7] (fun o => ∃ r : ByteArray, o = .string r ∧ AllW r ∧ 2 ≤ r.size ∧ r.size ≤ 2 * p + 4) (fun o => 2 * p + 4 - strLen o)
        case atStart => exact ⟨_, rfl, by intro c hc; simp at hc; rcases hc with rfl | rfl <;> rfl, by decide, by show 2 ≤ _; omega⟩
        case round =>
          obtain ⟨r, rfl, har, h2, hrp⟩ := hrel
          have HAr := Lib.hid har
          clear har
          by_cases hlt : r.size < p
          · have hsl := slice_up r (r.size / 2 + 1) (by omega)
            have q1 : ((r.size / 2 + 1 : Nat) : Int) = (r.size : Int) / 2 + 1 := by omega
            have HUS := Lib.hid (up_size r (r.size / 2 + 1) (by omega))
            go_wp2_with fail
            go_round
            case rel =>
              refine ⟨_, rfl, allW_app HAr.out (allW_ext HAr.out _), ?_, ?_⟩
              · rw [ByteArray.size_append]; omega
              · rw [ByteArray.size_append, HUS.out]; omega
            case measure => simp only [strLen, ByteArray.size_append, HUS.out]; omega
          · have hsl := slice_up r p (by omega)
            have q1 : min (r.size : Int) (p : Int) = (p : Int) := by omega
            have HUS := Lib.hid (up_size r p (by omega))
            go_wp2_with fail
            all_goals go_ret
            all_goals first | exact ⟨_, rfl, allW_ext HAr.out _, by rw [HUS.out]; exact Nat.le_refl _, HC5.out, HG5.out⟩ | exact ⟨_, rfl, HAr.out, by omega, HC5.out, HG5.out⟩
    · have d1 : decide ((1 : Int) < (s.size : Int)) = false := by simp; omega
      go_wp2_with fail
      have HCq := HC4
      have HGq := HG4
      have HAR := HA
      have hRP := hsp
      refine (l01Once_any g v zs 6 _ HZ.out HCq.out (by omega) (by omega)).mono ?_
      rintro e w5 ⟨b2, rfl, hc5, hg5⟩
      have HC5 := Lib.hid hc5
      have HG5 := Lib.hid (grown_trans HGq.out hg5)
      clear hc5 hg5
      cases b2
      · go_wp2_with fail
        go_ret
        exact ⟨_, rfl, HAR.out, hRP, HC5.out, HG5.out⟩
      · go_wp2_with fail
        go_loop [7] (fun o => ∃ r : ByteArray, o = .string r ∧ AllW r ∧ 2 ≤ r.size ∧ r.size ≤ 2 * p + 4) (fun o => 2 * p + 4 - strLen o)
        case atStart => exact ⟨_, rfl, by intro c hc; simp at hc; rcases hc with rfl | rfl <;> rfl, by decide, by show 2 ≤ _; omega⟩
        case round =>
          obtain ⟨r, rfl, har, h2, hrp⟩ := hrel
          have HAr := Lib.hid har
          clear har
          by_cases hlt : r.size < p
          · have hsl := slice_up r (r.size / 2 + 1) (by omega)
            have q1 : ((r.size / 2 + 1 : Nat) : Int) = (r.size : Int) / 2 + 1 := by omega
            have HUS := Lib.hid (up_size r (r.size / 2 + 1) (by omega))
            go_wp2_with fail
            go_round
            case rel =>
              refine ⟨_, rfl, allW_app HAr.out (allW_ext HAr.out _), ?_, ?_⟩
              · rw [ByteArray.size_append]; omega
              · rw [ByteArray.size_append, HUS.out]; omega
            case measure => simp only [strLen, ByteArray.size_append, HUS.out]; omega
          · have hsl := slice_up r p (by omega)
            have q1 : min (r.size : Int) (p : Int) = (p : Int) := by omega
            have HUS := Lib.hid (up_size r p (by omega))
            go_wp2_with fail
            all_goals go_ret
            all_goals first | exact ⟨_, rfl, allW_ext HAr.out _, by rw [HUS.out]; exact Nat.le_refl _, HC5.out, HG5.out⟩ | exact ⟨_, rfl, HAr.out, by omega, HC5.out, HG5.out⟩

def WordMade (p : Nat) (w : World) (e : Ending) (w' : World) : Prop := ∃ s : ByteArray, e = .returned (.string s) ∧ wordB s = true ∧ s.size ≤ p ∧ Below w.heap.size w w'
theorem makeWord_any (v : Value) (zs : List Int) (c : Int) (p : Nat) (w : World) (hz : IsBytes zs) (hl : Lst w v (bytesV zs)) (h0 : 0 ≤ c) (h1 : c ≤ 1048576) (hp : p ≤ 100) :
    Calls Try.prog 13 #[v, .int .i64 c, .int .i64 (p : Int)] w (WordMade p w) := by
  have HN := Lib.hid (l31New_any v zs c _ hz hl h0 h1)
  have HZ := Lib.hid hz
  obtain ⟨A, cp, rfl, -, -, -⟩ := hl
  rw [bytesV_length] at HN ⊢
  clear hz
  go_enter Try.func13, Try.ntmps13
  go_wp2_with fail
  refine HN.out.mono ?_
  rintro e w1 ⟨g, rfl, hg, hc1, hb1⟩
  have HC := Lib.hid hc1
  have HB1 := Lib.hid hb1
  clear hc1 hb1
  go_wp2_with fail
  refine (l02Draw_any p g _ zs _ HZ.out HC.out hp).mono ?_
  rintro e w2 ⟨s, rfl, ha, hsp, _, hg2⟩
  have HW : Hid (wordB s = true) := allW_word ha (by omega)
  have HB2 : Hid (Below w.heap.size w w2) := HB1.out.grown hg2 HB1.out.size (fun j hj => by cases hj; omega)
  clear ha hg2
  go_wp2_with fail
  go_ret
  exact ⟨_, rfl, HW.out, hsp, HB2.out⟩
end Go.Proofs.Ytiglikdanhfhfaa
