/- Texts put together. -/
import Derived.Test.YtgfhconcmoepcaaMgb29
import Derived.Test.YtgfhconcmoepcaaMgb30
import Derived.Test.YtgfhconcmoepcaaMgb8
import Derived.Deep.AppendLies
import Derived.Test.YtgfhconcmoepcaaMgb6
import Derived.Deep.DeepCutAuto
import Derived.Deep.CutBlock
import Derived.Deep.QuietTactic
import Derived.BigQuiet
import Derived.Test.YtgfhconcmoepcaaMgb3
/- The model's draws of substitutions: l01Once, l03Draw, MakeSubst. Condition: the bytes are at most 2^20. -/
namespace Go.Proofs.Ytgfhconcmoepcaa
open Go.RowKit

theorem Cur.drewN {w : World} {g : Nat} {v : Value} {zs : List Int} (h : Cur w g v zs) (n : Nat) : Cur (w.drewN n) g v zs := h
def OnceSaid (g : Nat) (v : Value) (zs : List Int) (w : World) (e : Ending) (w' : World) : Prop := ∃ b : Bool, e = .returned (.bool b) ∧ Cur w' g v zs ∧ w.grownBy w' (some g)
theorem l01Once_any (g : Nat) (v : Value) (zs : List Int) (n : Int) (w : World) (hz : IsBytes zs) (hc : Cur w g v zs) (h0 : 0 < n) (h1 : n ≤ 256) :
    Calls Try.prog 87 #[.pointer (some ⟨g, 0, none⟩), .int .i64 n] w (OnceSaid g v zs w) := by
  have HB := Lib.hid (l01Below_small g v zs n w hz hc h0 h1)
  clear hz hc
  go_enter Try.func87, Try.ntmps87
  go_wp2_with fail
  refine HB.out.mono ?_
  rintro e w1 ⟨x, rfl, x0, x1, hc1, hg1⟩
  have HC := Lib.hid hc1
  clear hc1
  go_wp2_with fail
  go_ret
  exact ⟨_, rfl, HC.out, hg1⟩

def seven : List ByteArray := [⟨#[102, 105, 98, 111, 110, 97, 99, 99, 105]⟩, ⟨#[116, 104, 117, 101]⟩, ⟨#[100, 111, 117, 98, 108, 105, 110, 103]⟩, ⟨#[116, 114, 105, 98, 111, 110, 97, 99, 99, 105]⟩, ⟨#[115, 105, 108, 118, 101, 114]⟩, ⟨#[115, 113, 117, 97, 114, 101, 102, 114, 101, 101]⟩, ⟨#[114, 117, 100, 105, 110]⟩]
theorem seven_ok : ∀ s ∈ seven, substB (namedL s) = true ∧ s.size ≤ 1048576 := by
  intro s hs
  simp only [seven, List.mem_cons, List.not_mem_nil, or_false] at hs
  rcases hs with rfl | rfl | rfl | rfl | rfl | rfl | rfl <;> exact ⟨by kernel_rfl, by decide⟩
theorem grown_setCell {a b : World} {row : Option Nat} (h : a.grownBy b row) (p : Addr) (u : Value) (hp : a.heap.size ≤ p.block) : a.grownBy (b.setCell p u) row :=
  ⟨h.os, h.tape, h.output, by simpa using h.size, fun k hk hne => (heap_setCell_other b p k u (by omega)).trans (h.block k hk hne)⟩
theorem setCell_grown (w : World) (p : Addr) (u : Value) : w.grownBy (w.setCell p u) (some p.block) :=
  ⟨rfl, rfl, rfl, by simp, fun k _ hk => heap_setCell_other w p k u (fun e => hk (by rw [e]))⟩
theorem grown_below {a b c : World} {row : Option Nat} (h : a.grownBy b row) (k : Below b.heap.size b c) : a.grownBy c row := grown_trans h (grown_of_below k row)
/-- images of n letters, of which each has an image -/
def imgsB (n : Nat) (l : List ByteArray) : Prop := ∀ x ∈ l, imgB n x = true
theorem img_of_word {n : Nat} {s : ByteArray} (h1 : 1 ≤ s.size) (h4 : s.size ≤ 4) (hn : n ≤ 4) (h : ∀ c ∈ s.data.toList, 97 ≤ c.toNat ∧ (c.toNat : Int) < 97 + (n : Int)) : imgB n s = true := by
  refine img_yes h1 (by omega) ?_ ?_
  · unfold wordB
    rw [decide_eq_true (by omega)]
    show (true && s.data.toList.all isAbcd) = true
    rw [Bool.true_and, List.all_eq_true]
    intro c hc
    have := h c hc
    simp [isAbcd]
    omega
  · unfold withinB
    rw [List.all_eq_true]
    intro c hc
    have := h c hc
    simp
    omega
theorem subst_of_imgs {l : List ByteArray} (h1 : 1 ≤ l.length) (h4 : l.length ≤ 4) (h : imgsB l.length l) : substB l = true := by
  unfold substB
  rw [decide_eq_true h1, decide_eq_true h4]
  show (true && l.all (imgB l.length)) = true
  rw [Bool.true_and, List.all_eq_true]
  exact h

def SubDrawn (g : Nat) (w : World) (e : Ending) (w' : World) : Prop :=
  ∃ (u : Value) (l : List ByteArray), e = .returned (.agg #[u]) ∧ substB l = true ∧ w'.ownsRow w.heap.size 9 1 u l.length (strs l) ∧ w.grownBy w' (some g)

def SubMade (w : World) (e : Ending) (w' : World) : Prop :=
  ∃ (u : Value) (l : List ByteArray), e = .returned (.agg #[u]) ∧ substB l = true ∧ w'.ownsRow w.heap.size 9 1 u l.length (strs l) ∧ Below w.heap.size w w'

end Go.Proofs.Ytgfhconcmoepcaa

/- The model's draws of words: l02Draw, MakeWord. Condition: the bytes are at most 2^20, a word of at most 100 letters is asked for. -/
namespace Go.Proofs.Ytgfhconcmoepcaa
open Go.RowKit

def AllW (s : ByteArray) : Prop := ∀ c ∈ s.data.toList, isAbcd c = true
theorem allW_word {s : ByteArray} (h : AllW s) (h4 : s.size ≤ 400) : wordB s = true := by
  unfold wordB
  rw [decide_eq_true h4, Bool.true_and, List.all_eq_true]
  exact h
theorem allW_app {a b : ByteArray} (ha : AllW a) (hb : AllW b) : AllW (a ++ b) := by
  intro c hc
  rw [ByteArray.data_append, Array.toList_append, List.mem_append] at hc
  rcases hc with h | h
  · exact ha c h
  · exact hb c h
theorem allW_ext {a : ByteArray} (ha : AllW a) (n : Nat) : AllW (a.extract 0 n) := by
  intro c hc
  rw [ByteArray.data_extract, Array.toList_extract, List.extract_eq_take_drop, List.drop_zero] at hc
  exact ha c (List.mem_of_mem_take hc)
def strLen : Value → Nat | .string r => r.size | _ => 0
theorem slice_up (r : ByteArray) (k : Nat) (hk : k ≤ r.size) (w : World) : (Instr.slice 9 (.string r) none (some (.int .i64 (k : Int))) none).run Try.prog w = .ok (.string (r.extract 0 k)) w := by
  rw [run_slice_string_to_if (P := Try.prog) w 9 r .i64 (k : Int) Try.underlying9, if_pos ⟨by omega, by omega⟩]
  rfl
theorem up_size (r : ByteArray) (k : Nat) (hk : k ≤ r.size) : (r.extract 0 k).size = k := by rw [ByteArray.size_extract]; omega
def WordDrawn (p : Nat) (g : Nat) (v : Value) (zs : List Int) (w : World) (e : Ending) (w' : World) : Prop :=
  ∃ s : ByteArray, e = .returned (.string s) ∧ AllW s ∧ s.size ≤ p ∧ Cur w' g v zs ∧ w.grownBy w' (some g)

set_option maxHeartbeats 1000000 in
set_option maxRecDepth 100000 in
theorem l02Draw_any (p : Nat) (g : Nat) (v : Value) (zs : List Int) (w : World) (hz : IsBytes zs) (hc : Cur w g v zs) (hp : p ≤ 100) :
    Calls Try.prog 59 #[.pointer (some ⟨g, 0, none⟩), .int .i64 (p : Int)] w (WordDrawn p g v zs w) := by
  have HZ := Lib.hid hz
  have HC := Lib.hid hc
  clear hz hc
  go_enter Try.func59, Try.ntmps59
  go_wp2_with fail
  refine (l01Below_small g v zs 3 _ HZ.out HC.out (by omega) (by omega)).mono ?_
  rintro e w1 ⟨x, rfl, x0, x1, hc1, hg1⟩
  have HC1 := Lib.hid hc1
  have HG1 := Lib.hid hg1
  clear hc1 hg1
  go_wp2_with fail
  refine (l01Below_small g v zs ((p : Int) + 1) _ HZ.out HC1.out (by omega) (by omega)).mono ?_
  rintro e w2 ⟨y, rfl, y0, y1, hc2, hg2⟩
  have HC2 := Lib.hid hc2
  have HG2 := Lib.hid (grown_trans HG1.out hg2)
  clear hc2 hg2
  go_wp2_with fail
  refine (l02Word_any y (1 + x) g v zs _ HZ.out HC2.out (by omega) (by omega) (by omega) (by omega)).mono ?_
  rintro e w3 ⟨s, rfl, hs, hall, hc3, hg3⟩
  have HC3 := Lib.hid hc3
  have HG3 := Lib.hid (grown_trans HG2.out hg3)
  have HA : Hid (AllW s) := fun c h => by
    obtain ⟨a, b⟩ := hall c h
    unfold isAbcd
    rw [decide_eq_true a, decide_eq_true (by omega)]
    rfl
  have hsp : s.size ≤ p := by omega
  clear hc3 hg3 hall hs
  go_wp2_with fail
  refine (l01Once_any g v zs 4 _ HZ.out HC3.out (by omega) (by omega)).mono ?_
  rintro e w4 ⟨b, rfl, hc4, hg4⟩
  have HC4 := Lib.hid hc4
  have HG4 := Lib.hid (grown_trans HG3.out hg4)
  clear hc4 hg4
  cases b
  · go_wp2_with fail
    have HCq := HC4
    have HGq := HG4
    have HAR := HA
    have hRP := hsp
    refine (l01Once_any g v zs 6 _ HZ.out HCq.out (by omega) (by omega)).mono ?_
    rintro e w5 ⟨b2, rfl, hc5, hg5⟩
    have HC5 := Lib.hid hc5
    have HG5 := Lib.hid (grown_trans HGq.out hg5)
    clear hc5 hg5
    cases b2
    · go_wp2_with fail
      go_ret
      exact ⟨_, rfl, HAR.out, hRP, HC5.out, HG5.out⟩
    · go_wp2_with fail
      go_loop [7] (fun o => ∃ r : ByteArray, o = .string r ∧ AllW r ∧ 2 ≤ r.size ∧ r.size ≤ 2 * p + 4) (fun o => 2 * p + 4 - strLen o)
      case atStart => exact ⟨_, rfl, by intro c hc; simp at hc; rcases hc with rfl | rfl <;> rfl, by decide, by show 2 ≤ _; omega⟩
      case round =>
        obtain ⟨r, rfl, har, h2, hrp⟩ := hrel
        have HAr := Lib.hid har
        clear har
        by_cases hlt : r.size < p
        · have hsl := slice_up r (r.size / 2 + 1) (by omega)
          have q1 : ((r.size / 2 + 1 : Nat) : Int) = (r.size : Int) / 2 + 1 := by omega
          have HUS := Lib.hid (up_size r (r.size / 2 + 1) (by omega))
          go_wp2_with fail
          go_round
          case rel =>
            refine ⟨_, rfl, allW_app HAr.out (allW_ext HAr.out _), ?_, ?_⟩
            · rw [ByteArray.size_append]; omega
            · rw [ByteArray.size_append, HUS.out]; omega
          case measure => simp only [strLen, ByteArray.size_append, HUS.out]; omega
        · have hsl := slice_up r p (by omega)
          have q1 : min (r.size : Int) (p : Int) = (p : Int) := by omega
          have HUS := Lib.hid (up_size r p (by omega))
          go_wp2_with fail
          all_goals go_ret
          all_goals first | exact ⟨_, rfl, allW_ext HAr.out _, by rw [HUS.out]; exact Nat.le_refl _, HC5.out, HG5.out⟩ | exact ⟨_, rfl, HAr.out, by omega, HC5.out, HG5.out⟩
  · by_cases h1 : 1 < s.size
    · have d1 : decide ((1 : Int) < (s.size : Int)) = true := by simp; omega
      have hsl := slice_up s (s.size / 2) (by omega)
      have q0 : ((s.size / 2 : Nat) : Int) = (s.size : Int) / 2 := by omega
      have HUS0 := Lib.hid (up_size s (s.size / 2) (by omega))
      go_wp2_with fail
      go_quiet (fail)
      go_wp2_with fail
      have HCq := Lib.hid (HC4.out.drewN nq)
      have HGq := Lib.hid (grown_drewN HG4.out nq)
      have HAR := Lib.hid (allW_app (allW_ext HA.out (s.size / 2)) (allW_ext HA.out (s.size / 2)))
      have hRP : (s.extract 0 (s.size / 2) ++ s.extract 0 (s.size / 2)).size ≤ p := by rw [ByteArray.size_append, HUS0.out]; omega
      clear hsl q0
      generalize s.extract 0 (s.size / 2) ++ s.extract 0 (s.size / 2) = s' at HAR hRP ⊢
      refine (l01Once_any g v zs 6 _ HZ.out HCq.out (by omega) (by omega)).mono ?_
      rintro e w5 ⟨b2, rfl, hc5, hg5⟩
      have HC5 := Lib.hid hc5
      have HG5 := Lib.hid (grown_trans HGq.out hg5)
      clear hc5 hg5
      cases b2
      · go_wp2_with fail
        go_ret
        exact ⟨_, rfl, HAR.out, hRP, HC5.out, HG5.out⟩
      · go_wp2_with fail
        go_loop [7] (fun o => ∃ r : ByteArray, o = .string r ∧ AllW r ∧ 2 ≤ r.size ∧ r.size ≤ 2 * p + 4) (fun o => 2 * p + 4 - strLen o)
        case atStart => exact ⟨_, rfl, by intro c hc; simp at hc; rcases hc with rfl | rfl <;> rfl, by decide, by show 2 ≤ _; omega⟩
        case round =>
          obtain ⟨r, rfl, har, h2, hrp⟩ := hrel
          have HAr := Lib.hid har
          clear har
          by_cases hlt : r.size < p
          · have hsl := slice_up r (r.size / 2 + 1) (by omega)
            have q1 : ((r.size / 2 + 1 : Nat) : Int) = (r.size : Int) / 2 + 1 := by omega
            have HUS := Lib.hid (up_size r (r.size / 2 + 1) (by omega))
            go_wp2_with fail
            go_round
            case rel =>
              refine ⟨_, rfl, allW_app HAr.out (allW_ext HAr.out _), ?_, ?_⟩
              · rw [ByteArray.size_append]; omega
              · rw [ByteArray.size_append, HUS.out]; omega
            case measure => simp only [strLen, ByteArray.size_append, HUS.out]; omega
          · have hsl := slice_up r p (by omega)
            have q1 : min (r.size : Int) (p : Int) = (p : Int) := by omega
            have HUS := Lib.hid (up_size r p (by omega))
            go_wp2_with fail
            all_goals go_ret
            all_goals first | exact ⟨_, rfl, allW_ext HAr.out _, by rw [HUS.out]; exact Nat.le_refl _, HC5.out, HG5.out⟩ | exact ⟨_, rfl, HAr.out, by omega, HC5.out, HG5.out⟩
    · have d1 : decide ((1 : Int) < (s.size : Int)) = false := by simp; omega
      go_wp2_with fail
      have HCq := HC4
      have HGq := HG4
      have HAR := HA
      have hRP := hsp
      refine (l01Once_any g v zs 6 _ HZ.out HCq.out (by omega) (by omega)).mono ?_
      rintro e w5 ⟨b2, rfl, hc5, hg5⟩
      have HC5 := Lib.hid hc5
      have HG5 := Lib.hid (grown_trans HGq.out hg5)
      clear hc5 hg5
      cases b2
      · go_wp2_with fail
        go_ret
        exact ⟨_, rfl, HAR.out, hRP, HC5.out, HG5.out⟩
      · go_wp2_with fail
        go_loop [7] (fun o => ∃ r : ByteArray, o = .string r ∧ AllW r ∧ 2 ≤ r.size ∧ r.size ≤ 2 * p + 4) (fun o => 2 * p + 4 - strLen o)
        case atStart => exact ⟨_, rfl, by intro c hc; simp at hc; rcases hc with rfl | rfl <;> rfl, by decide, by show 2 ≤ _; omega⟩
        case round =>
          obtain ⟨r, rfl, har, h2, hrp⟩ := hrel
          have HAr := Lib.hid har
          clear har
          by_cases hlt : r.size < p
          · have hsl := slice_up r (r.size / 2 + 1) (by omega)
            have q1 : ((r.size / 2 + 1 : Nat) : Int) = (r.size : Int) / 2 + 1 := by omega
            have HUS := Lib.hid (up_size r (r.size / 2 + 1) (by omega))
            go_wp2_with fail
            go_round
            case rel =>
              refine ⟨_, rfl, allW_app HAr.out (allW_ext HAr.out _), ?_, ?_⟩
              · rw [ByteArray.size_append]; omega
              · rw [ByteArray.size_append, HUS.out]; omega
            case measure => simp only [strLen, ByteArray.size_append, HUS.out]; omega
          · have hsl := slice_up r p (by omega)
            have q1 : min (r.size : Int) (p : Int) = (p : Int) := by omega
            have HUS := Lib.hid (up_size r p (by omega))
            go_wp2_with fail
            all_goals go_ret
            all_goals first | exact ⟨_, rfl, allW_ext HAr.out _, by rw [HUS.out]; exact Nat.le_refl _, HC5.out, HG5.out⟩ | exact ⟨_, rfl, HAr.out, by omega, HC5.out, HG5.out⟩

def WordMade (p : Nat) (w : World) (e : Ending) (w' : World) : Prop := ∃ s : ByteArray, e = .returned (.string s) ∧ wordB s = true ∧ s.size ≤ p ∧ Below w.heap.size w w'
theorem makeWord_any (v : Value) (zs : List Int) (c : Int) (p : Nat) (w : World) (hz : IsBytes zs) (hl : Lst w v (bytesV zs)) (h0 : 0 ≤ c) (h1 : c ≤ 1048576) (hp : p ≤ 100) :
    Calls Try.prog 15 #[v, .int .i64 c, .int .i64 (p : Int)] w (WordMade p w) := by
  have HN := Lib.hid (l31New_any v zs c _ hz hl h0 h1)
  have HZ := Lib.hid hz
  obtain ⟨A, cp, rfl, -, -, -⟩ := hl
  rw [bytesV_length] at HN ⊢
  clear hz
  go_enter Try.func15, Try.ntmps15
  go_wp2_with fail
  refine HN.out.mono ?_
  rintro e w1 ⟨g, rfl, hg, hc1, hb1⟩
  have HC := Lib.hid hc1
  have HB1 := Lib.hid hb1
  clear hc1 hb1
  go_wp2_with fail
  refine (l02Draw_any p g _ zs _ HZ.out HC.out hp).mono ?_
  rintro e w2 ⟨s, rfl, ha, hsp, _, hg2⟩
  have HW : Hid (wordB s = true) := allW_word ha (by omega)
  have HB2 : Hid (Below w.heap.size w w2) := HB1.out.grown hg2 HB1.out.size (fun j hj => by cases hj; omega)
  clear ha hg2
  go_wp2_with fail
  go_ret
  exact ⟨_, rfl, HW.out, hsp, HB2.out⟩
end Go.Proofs.Ytgfhconcmoepcaa

/- The model's draws of matrices: l04Draw, MakeMatrix, MakeSize. Condition: the bytes are at most 2^20. -/
namespace Go.Proofs.Ytgfhconcmoepcaa
open Go.RowKit

/-- n rows of n numbers from -2 to 4 -/
def SmallM (n : Nat) (m : List (List Int)) : Prop := m.length = n ∧ ∀ r ∈ m, r.length = n ∧ ∀ x ∈ r, -2 ≤ x ∧ x ≤ 4

/-- a matrix that is being drawn: its rows are known as they come -/
theorem rows_more {w : World} {B : Nat} {us : List Value} {m : List (List Int)} (h : RowsTo w B us m) (hl : us.length = m.length) (r : List Int) : RowsTo w B us (m ++ [r]) :=
  ⟨by simp; omega, fun i a b => by have hi : i < m.length := by omega
                                   rw [List.getElem_append_left hi]; exact h.2.1 i a hi, h.2.2⟩

def MatDrawn (n : Nat) (g : Nat) (w : World) (e : Ending) (w' : World) : Prop :=
  ∃ (u : Value) (m : List (List Int)), e = .returned u ∧ SmallM n m ∧ OwnMat w' w.heap.size w'.heap.size u m ∧ w.grownBy w' (some g)
theorem grown_two {a b c : World} {g B : Nat} {row : Option Nat} (h : a.grownBy b (some g)) (k : b.grownBy c row) (hr : ∀ j, row = some j → B ≤ j) (hB : a.heap.size ≤ B) : a.grownBy c (some g) := grown_made h k hr hB

def MatMade (n : Nat) (w : World) (e : Ending) (w' : World) : Prop :=
  ∃ (u : Value) (m : List (List Int)), e = .returned u ∧ SmallM n m ∧ OwnMat w' w.heap.size w'.heap.size u m ∧ Below w.heap.size w w'

def SizeSaid (lo hi : Int) (w : World) (e : Ending) (w' : World) : Prop := ∃ x : Int, e = .returned (.int .i64 x) ∧ lo ≤ x ∧ x ≤ hi ∧ Below w.heap.size w w'

set_option maxHeartbeats 400000 in
theorem makeSize_any (v : Value) (zs : List Int) (c : Int) (w : World) (hz : IsBytes zs) (hl : Lst w v (bytesV zs)) (h0 : 0 ≤ c) (h1 : c ≤ 1048576) :
    Calls Try.prog 27 #[v, .int .i64 c, .int .i64 1, .int .i64 3] w (SizeSaid 1 3 w) := by
  have HN := Lib.hid (fun w' (hb : Below w.heap.size w w') => l31New_any v zs c w' hz (hl.below hb) h0 h1)
  have HZ := Lib.hid hz
  obtain ⟨A, cp, rfl, -, -, -⟩ := hl
  rw [bytesV_length] at HN ⊢
  clear hz
  go_enter Try.func27, Try.ntmps27
  go_wp2_with fail
  go_loop [9, 10] (fun s k => ∃ j : Nat, j ≤ 2 ∧ k = .int .i64 ((j : Int) + 1) ∧ s = .int .i64 ((j : Int) + 1)) (fun _ k => 3 - (intOf k).toNat)
  case atStart => exact ⟨0, by omega, rfl, rfl⟩
  case round =>
    obtain ⟨j, hj, rfl, rfl⟩ := hrel
    by_cases hlt : j < 2
    · have d1 : decide ((j : Int) + 1 < 3) = true := by simp; omega
      have d2 : decide ((j : Int) + 1 < 100) = true := by simp; omega
      go_wp2_with fail
      go_round
      case rel => exact ⟨j + 1, by omega, by go_num, by go_num⟩
      case measure => simp [intOf]; omega
    · have hj2 : j = 2 := by omega
      subst hj2
      go_wp2_with fail
      refine (HN.out _ (Below.refl _ _)).mono ?_
      rintro e w1 ⟨g, rfl, hg, hc1, hb1⟩
      have HC := Lib.hid hc1
      have HB1 := Lib.hid hb1
      clear hc1 hb1
      go_wp2_with fail
      refine (l01Below_small g _ zs 3 _ HZ.out HC.out (by omega) (by omega)).mono ?_
      rintro e w2 ⟨x, rfl, x0, x1, hc2, hg2⟩
      have HB2 : Hid (Below w.heap.size w w2) := HB1.out.grown hg2 HB1.out.size (fun j hj => by cases hj; exact hg)
      obtain ⟨q, rfl⟩ := Int.eq_ofNat_of_zero_le x0
      clear hc2 hg2
      go_wp2_with fail
      go_loop [11, 12] (fun o k => ∃ r : Nat, r ≤ q ∧ k = .int .i64 r ∧ o = .int .i64 (1 + ((q : Int) - r))) (fun _ k => (intOf k).toNat)
      case atStart => exact ⟨q, Nat.le_refl _, rfl, by simp⟩
      case round =>
        obtain ⟨r, hr, rfl, rfl⟩ := hrel
        by_cases hlt2 : 0 < r
        · go_wp2_with fail
          go_round
          case rel => exact ⟨r - 1, by omega, by rw [show (r : Int) - 1 = ((r - 1 : Nat) : Int) from by omega], by congr 1; omega⟩
          case measure => simp [intOf]; omega
        · go_wp2_with fail
          go_ret
          exact ⟨_, rfl, by omega, by omega, HB2.out⟩
end Go.Proofs.Ytgfhconcmoepcaa

/- MakeSize for any two bounds that lie at most 98 apart. -/
namespace Go.Proofs.Ytgfhconcmoepcaa
open Go.RowKit

set_option maxHeartbeats 1000000 in
theorem makeSize_gen (v : Value) (zs : List Int) (c low high : Int) (w : World) (hz : IsBytes zs) (hl : Lst w v (bytesV zs)) (h0 : 0 ≤ c) (h1 : c ≤ 1048576) (hlow : 0 ≤ low) (hlh : low ≤ high) (hhi : high ≤ low + 98) (hmax : low ≤ 1000) :
    Calls Try.prog 27 #[v, .int .i64 c, .int .i64 low, .int .i64 high] w (SizeSaid low high w) := by
  have HN := Lib.hid (fun w' (hb : Below w.heap.size w w') => l31New_any v zs c w' hz (hl.below hb) h0 h1)
  have HZ := Lib.hid hz
  obtain ⟨n, hn⟩ : ∃ n : Nat, high = low + n := ⟨(high - low).toNat, by omega⟩
  subst hn
  obtain ⟨A, cp, rfl, -, -, -⟩ := hl
  rw [bytesV_length] at HN ⊢
  clear hz
  go_enter Try.func27, Try.ntmps27
  go_wp2_with fail
  go_loop [9, 10] (fun s k => ∃ j : Nat, j ≤ n ∧ k = .int .i64 (low + (j : Int)) ∧ s = .int .i64 ((j : Int) + 1)) (fun _ k => (low + n - intOf k).toNat)
  case atStart => exact ⟨0, by omega, by simp, rfl⟩
  case round =>
    obtain ⟨j, hj, rfl, rfl⟩ := hrel
    by_cases hlt : j < n
    · have d1 : decide (low + (j : Int) < low + (n : Int)) = true := by simp; omega
      have d2 : decide ((j : Int) + 1 < 100) = true := by simp; omega
      go_wp2_with fail
      go_round
      case rel => exact ⟨j + 1, by omega, by congr 1; omega, by go_num⟩
      case measure => simp [intOf]; omega
    · have hj2 : j = n := by omega
      subst hj2
      go_wp2_with fail
      refine (HN.out _ (Below.refl _ _)).mono ?_
      rintro e w1 ⟨g, rfl, hg, hc1, hb1⟩
      have HC := Lib.hid hc1
      have HB1 := Lib.hid hb1
      clear hc1 hb1
      go_wp2_with fail
      refine (l01Below_small g _ zs ((j : Int) + 1) _ HZ.out HC.out (by omega) (by omega)).mono ?_
      rintro e w2 ⟨x, rfl, x0, x1, hc2, hg2⟩
      have HB2 : Hid (Below w.heap.size w w2) := HB1.out.grown hg2 HB1.out.size (fun j hj => by cases hj; exact hg)
      obtain ⟨q, rfl⟩ := Int.eq_ofNat_of_zero_le x0
      clear hc2 hg2
      go_wp2_with fail
      go_loop [11, 12] (fun o k => ∃ r : Nat, r ≤ q ∧ k = .int .i64 r ∧ o = .int .i64 (low + ((q : Int) - r))) (fun _ k => (intOf k).toNat)
      case atStart => exact ⟨q, Nat.le_refl _, rfl, by simp⟩
      case round =>
        obtain ⟨r, hr, rfl, rfl⟩ := hrel
        by_cases hlt2 : 0 < r
        · go_wp2_with fail
          go_round
          case rel => exact ⟨r - 1, by omega, by rw [show (r : Int) - 1 = ((r - 1 : Nat) : Int) from by omega], by congr 1; omega⟩
          case measure => simp [intOf]; omega
        · go_wp2_with fail
          go_ret
          exact ⟨_, rfl, by omega, by omega, HB2.out⟩
end Go.Proofs.Ytgfhconcmoepcaa
