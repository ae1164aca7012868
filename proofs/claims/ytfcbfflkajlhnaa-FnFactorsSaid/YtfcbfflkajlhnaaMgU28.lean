/- Texts put together. -/
import Derived.Test.YtfcbfflkajlhnaaMgU25
import Derived.Test.YtfcbfflkajlhnaaMgU27
import Derived.Test.YtfcbfflkajlhnaaMgU9
import Derived.Deep.AppendLies
import Derived.Test.YtfcbfflkajlhnaaMgU6
import Derived.Deep.DeepCutAuto
import Derived.Deep.CutBlock
import Derived.Deep.QuietTactic
import Derived.BigQuiet
import Derived.Test.YtfcbfflkajlhnaaMgU4
/- The model's draws of substitutions: l01Once, l03Draw, MakeSubst. Condition: the bytes are at most 2^20. -/
namespace Go.Proofs.Ytfcbfflkajlhnaa
open Go.RowKit

theorem Cur.drewN {w : World} {g : Nat} {v : Value} {zs : List Int} (h : Cur w g v zs) (n : Nat) : Cur (w.drewN n) g v zs := h
def OnceSaid (g : Nat) (v : Value) (zs : List Int) (w : World) (e : Ending) (w' : World) : Prop := ∃ b : Bool, e = .returned (.bool b) ∧ Cur w' g v zs ∧ w.grownBy w' (some g)
theorem l01Once_any (g : Nat) (v : Value) (zs : List Int) (n : Int) (w : World) (hz : IsBytes zs) (hc : Cur w g v zs) (h0 : 0 < n) (h1 : n ≤ 256) :
    Calls Try.prog 104 #[.pointer (some ⟨g, 0, none⟩), .int .i64 n] w (OnceSaid g v zs w) := by
  have HB := Lib.hid (l01Below_small g v zs n w hz hc h0 h1)
  clear hz hc
  go_enter Try.func104, Try.ntmps104
  go_wp2_with fail
  refine HB.out.mono ?_
  rintro e w1 ⟨x, rfl, x0, x1, hc1, hg1⟩
  have HC := Lib.hid hc1
  clear hc1
  go_wp2_with fail
  go_ret
  exact ⟨_, rfl, HC.out, hg1⟩

def seven : List ByteArray := [⟨#[102, 105, 98, 111, 110, 97, 99, 99, 105]⟩, ⟨#[116, 104, 117, 101]⟩, ⟨#[100, 111, 117, 98, 108, 105, 110, 103]⟩, ⟨#[116, 114, 105, 98, 111, 110, 97, 99, 99, 105]⟩, ⟨#[115, 105, 108, 118, 101, 114]⟩, ⟨#[115, 113, 117, 97, 114, 101, 102, 114, 101, 101]⟩, ⟨#[114, 117, 100, 105, 110]⟩]
theorem seven_ok : ∀ s ∈ seven, substB (namedL s) = true ∧ s.size ≤ 1048576 := by
  intro s hs
  simp only [seven, List.mem_cons, List.not_mem_nil, or_false] at hs
  rcases hs with rfl | rfl | rfl | rfl | rfl | rfl | rfl <;> exact ⟨by kernel_rfl, by decide⟩
theorem grown_setCell {a b : World} {row : Option Nat} (h : a.grownBy b row) (p : Addr) (u : Value) (hp : a.heap.size ≤ p.block) : a.grownBy (b.setCell p u) row :=
  ⟨h.os, h.tape, h.output, by simpa using h.size, fun k hk hne => (heap_setCell_other b p k u (by omega)).trans (h.block k hk hne)⟩
theorem setCell_grown (w : World) (p : Addr) (u : Value) : w.grownBy (w.setCell p u) (some p.block) :=
  ⟨rfl, rfl, rfl, by simp, fun k _ hk => heap_setCell_other w p k u (fun e => hk (by rw [e]))⟩
theorem grown_below {a b c : World} {row : Option Nat} (h : a.grownBy b row) (k : Below b.heap.size b c) : a.grownBy c row := grown_trans h (grown_of_below k row)
/-- images of n letters, of which each has an image -/
def imgsB (n : Nat) (l : List ByteArray) : Prop := ∀ x ∈ l, imgB n x = true
theorem img_of_word {n : Nat} {s : ByteArray} (h1 : 1 ≤ s.size) (h4 : s.size ≤ 4) (hn : n ≤ 4) (h : ∀ c ∈ s.data.toList, 97 ≤ c.toNat ∧ (c.toNat : Int) < 97 + (n : Int)) : imgB n s = true := by
  refine img_yes h1 (by omega) ?_ ?_
  · unfold wordB
    rw [decide_eq_true (by omega)]
    show (true && s.data.toList.all isAbcd) = true
    rw [Bool.true_and, List.all_eq_true]
    intro c hc
    have := h c hc
    simp [isAbcd]
    omega
  · unfold withinB
    rw [List.all_eq_true]
    intro c hc
    have := h c hc
    simp
    omega
theorem subst_of_imgs {l : List ByteArray} (h1 : 1 ≤ l.length) (h4 : l.length ≤ 4) (h : imgsB l.length l) : substB l = true := by
  unfold substB
  rw [decide_eq_true h1, decide_eq_true h4]
  show (true && l.all (imgB l.length)) = true
  rw [Bool.true_and, List.all_eq_true]
  exact h

def SubDrawn (g : Nat) (w : World) (e : Ending) (w' : World) : Prop :=
  ∃ (u : Value) (l : List ByteArray), e = .returned (.agg #[u]) ∧ substB l = true ∧ w'.ownsRow w.heap.size 9 1 u l.length (strs l) ∧ w.grownBy w' (some g)

set_option maxHeartbeats 4000000 in
set_option maxRecDepth 100000 in
theorem l03Draw_any (g : Nat) (v : Value) (zs : List Int) (w : World) (hz : IsBytes zs) (hc : Cur w g v zs) :
    Calls Try.prog 62 #[.pointer (some ⟨g, 0, none⟩)] w (SubDrawn g w) := by
  obtain ⟨i0, hi0, hz0, hz1, hz2⟩ := info_parts str_info
  have HZ := Lib.hid hz
  have HC := Lib.hid hc
  have hgl := (cur_lt hc).1
  have hbz := build_zero
  clear hz hc
  go_enter Try.func62, Try.ntmps62
  go_wp2_with fail
  refine (l01Once_any g v zs 2 _ HZ.out (HC.out.below ((Below.refl _ _).alloc (Nat.le_refl _) _)) (by omega) (by omega)).mono ?_
  rintro e w1 ⟨b, rfl, hc1, hg1⟩
  have HC1 := Lib.hid hc1
  have HG1 : Hid (w.grownBy w1 (some g)) := grown_trans (World.grownBy_alloc _ _ _) hg1
  have hsz1 : w.heap.size + 1 ≤ w1.heap.size := by have := hg1.size; simpa using this
  have c1 : w1.cell? ⟨w.heap.size, 0, none⟩ = some (.slice none 0 0) := hg1.cell (a := ⟨w.heap.size, 0, none⟩) (by go_simp) (by simp; omega)
  have f1 : w1.frozen? ⟨w.heap.size, 0, none⟩ = false := (hg1.frozen_far ⟨w.heap.size, 0, none⟩ (by simp) (by simp; omega)).trans (by go_simp)
  clear hc1 hg1
  cases b
  · go_wp2_with fail
    refine (l01Below_small g v zs 3 _ HZ.out HC1.out (by omega) (by omega)).mono ?_
    rintro e w2 ⟨x, rfl, x0, x1, hc2, hg2⟩
    obtain ⟨m, rfl⟩ := Int.eq_ofNat_of_zero_le x0
    have HC2 := Lib.hid hc2
    have HG2 : Hid (w.grownBy w2 (some g)) := grown_trans HG1.out hg2
    have hsz2 := hg2.size
    have c2 : w2.cell? ⟨w.heap.size, 0, none⟩ = some (.slice none 0 0) := hg2.cell (a := ⟨w.heap.size, 0, none⟩) c1 (by simp; omega)
    have f2 : w2.frozen? ⟨w.heap.size, 0, none⟩ = false := (hg2.frozen_far ⟨w.heap.size, 0, none⟩ (by simp; omega) (by simp; omega)).trans f1
    clear hc2 hg2 c1 f1
    go_wp2_with fail
    go_loopw [7] (fun i w' => ∃ (j : Nat) (o : Value) (ls : List ByteArray), j ≤ m + 1 ∧ i = .int .i64 j ∧ ls.length = j ∧ imgsB (m + 1) ls ∧ w'.cell? ⟨w2.heap.size, 0, none⟩ = some o ∧ w'.frozen? ⟨w2.heap.size, 0, none⟩ = false ∧ w'.ownsRow (w2.heap.size + 1) 9 1 o j (strs ls) ∧ Cur w' g v zs ∧ w2.grownBy w' (some g) ∧ w2.heap.size < w'.heap.size) (fun i _ => m + 1 - (intOf i).toNat)
    case atStart => exact ⟨0, _, [], Nat.zero_le _, rfl, rfl, by intro x hx; simp at hx, by go_simp, by go_simp, World.ownsRow_nil _ _ _ _, HC2.out.below ((Below.refl _ _).alloc (Nat.le_refl _) _), World.grownBy_alloc _ _ _, by simp⟩
    case round =>
      obtain ⟨j, o, ls, hj, rfl, hll, him, co, fo, ho, hcr, hgr, hzr⟩ := hrel
      obtain ⟨A', cp2, rfl⟩ := own_slice ho
      have HO := Lib.hid ho
      have HIM := Lib.hid him
      have HCR := Lib.hid hcr
      have HGR := Lib.hid hgr
      have HLL := Lib.hid hll
      clear ho him hcr hgr hll
      by_cases hlt : j < m + 1
      · have hlt' : (j : Int) < 1 + (m : Int) := by omega
        go_wp2_with fail
        go_region_law (first
          | (refine step_own_g rfl (.tmp 28) (.tmp 35) 23 rfl (w2.heap.size + 1) 9 i0 _ 16 Try.underlying23 hi0 hz0 hz1 hz2 rfl _ j _ (by simp [Act.eval]) (HO4.out.alloc _) ⟨w4.heap.size, 0, none⟩ 1 1 [.string s] (by simp [Act.eval]) rfl (fun q u hu => cell_one _ _ _ q u hu) (fun u hu => by simp at hu; subst hu; rfl) (by unfold maxLen; omega) (by omega) (by simp; omega) ?_
             intro v' w5 hown5 hgr5
             obtain ⟨A5, cp5, rfl⟩ := own_slice hown5
             have hne5 : (some w2.heap.size : Option Nat) ≠ (Value.slice A' j cp2).ownBlock := fun e => by have := (HO4.out.lt _ e.symm).1; omega
             have c5 : w5.cell? ⟨w2.heap.size, 0, none⟩ = some (.slice A' j cp2) := hgr5.cell (a := ⟨w2.heap.size, 0, none⟩) (by go_simp) hne5
             have f5 : w5.frozen? ⟨w2.heap.size, 0, none⟩ = false := (hgr5.frozen_far ⟨w2.heap.size, 0, none⟩ (by simp; omega) hne5).trans (by go_simp)
             have HOW := Lib.hid hown5
             have HG5 := Lib.hid hgr5
             clear hown5 hgr5 hne5)
          | (go_simp
             go_wp2_with (first
               | (go_at_call 64
                  refine (l01Below_small g v zs 4 _ HZ.out (Cur.drewN HCR.out 1) (by omega) (by omega)).mono ?_
                  rintro e w3 ⟨y, rfl, y0, y1, hc3, hg3⟩
                  obtain ⟨q, rfl⟩ := Int.eq_ofNat_of_zero_le y0
                  have hwq : IntKind.i64.wrap ((1 : Int) + (q : Int)) = 1 + (q : Int) := IntWalk.i64_in _ (by omega)
                  have hz3 : w2.heap.size < w3.heap.size := by have := hg3.size; simp at this; omega
                  have c3 : w3.cell? ⟨w2.heap.size, 0, none⟩ = some (.slice A' j cp2) := hg3.cell (a := ⟨w2.heap.size, 0, none⟩) (by go_simp) (by simp; omega)
                  have f3 : w3.frozen? ⟨w2.heap.size, 0, none⟩ = false := (hg3.frozen_far ⟨w2.heap.size, 0, none⟩ (by simpa using hzr) (by simp; omega)).trans (by go_simp)
                  have HO3 : Hid (w3.ownsRow (w2.heap.size + 1) 9 1 (.slice A' j cp2) j (strs ls)) := own_apart (own_drewN HO.out 1) hg3 (fun x h1 h2 => by have := (HO.out.lt x h1).1; injection h2 with h2; omega)
                  have HC3 := Lib.hid hc3
                  have HG3 : Hid (w2.grownBy w3 (some g)) := grown_trans (grown_drewN HGR.out 1) hg3
                  clear hc3 hg3)
               | (go_at_call 107
                  refine (l02Word_any (1 + (q : Int)) (1 + (m : Int)) g v zs _ HZ.out HC3.out (by omega) (by omega) (by omega) (by omega)).mono ?_
                  rintro e w4 ⟨s, rfl, hss, hlet, hc4, hg4⟩
                  have hz4 : w2.heap.size < w4.heap.size := by have := hg4.size; omega
                  have c4 : w4.cell? ⟨w2.heap.size, 0, none⟩ = some (.slice A' j cp2) := hg4.cell (a := ⟨w2.heap.size, 0, none⟩) c3 (by simp; omega)
                  have f4 : w4.frozen? ⟨w2.heap.size, 0, none⟩ = false := (hg4.frozen_far ⟨w2.heap.size, 0, none⟩ hz3 (by simp; omega)).trans f3
                  have HO4 : Hid (w4.ownsRow (w2.heap.size + 1) 9 1 (.slice A' j cp2) j (strs ls)) := own_apart HO3.out hg4 (fun x h1 h2 => by have := (HO3.out.lt x h1).1; injection h2 with h2; omega)
                  have HC4 := Lib.hid hc4
                  have HG4 : Hid (w2.grownBy w4 (some g)) := grown_trans HG3.out hg4
                  have HLET := Lib.hid hlet
                  clear hc4 hg4 hlet))))
        all_goals
          go_wp2_with fail
          go_roundw
          case rel =>
            have hrw : ∀ x, (Value.slice A' j cp2).ownBlock = some x → w2.heap.size + 1 ≤ x := fun x hx => (HO4.out.lt x hx).1
            have hcA : Cur (w4.alloc (.cells #[.string s] 9)) g v zs := HC4.out.below ((Below.refl _ _).alloc (Nat.le_refl _) _)
            have hc5 : Cur w5 g v zs := Cur.made HC2.out hcA HG5.out hrw (by omega)
            have hg5 : w2.grownBy w5 (some g) := grown_made (grown_trans HG4.out (World.grownBy_alloc _ _ _)) HG5.out hrw (by omega)
            refine ⟨j + 1, .slice A5 (j + 1) cp5, ls ++ [s], by omega, by go_num, by simp [HLL.out], ?_, by go_simp, by go_simp, ?_, ?_, grown_setCell hg5 _ _ (by simp), ?_⟩
            · intro x hx
              rcases List.mem_append.1 hx with hx | hx
              · exact HIM.out x hx
              · simp at hx
                subst hx
                refine img_of_word (by omega) (by omega) (by omega) (fun c hc => ?_)
                have := HLET.out c hc
                omega
            · rw [strs_snoc]
              exact own_setCell (B := w2.heap.size + 1) HOW.out (by simp) _
            · exact Cur.made HC2.out hc5 (setCell_grown _ _ _) (B := w2.heap.size) (fun k hk => by injection hk with hk; simp at hk; omega) (Nat.le_refl _)
            · have := HG5.out.size
              simp at this ⊢
              omega
          case measure => simp [intOf]; omega
      · have hjm : j = m + 1 := by omega
        have HSB : Hid (substB ls = true) := subst_of_imgs (by rw [HLL.out]; omega) (by rw [HLL.out]; omega) (by rw [HLL.out, hjm]; exact HIM.out)
        have hge' : ¬ (j : Int) < 1 + (m : Int) := by omega
        have cr : wr.cell? ⟨w.heap.size, 0, none⟩ = some (.slice none 0 0) := HGR.out.cell (a := ⟨w.heap.size, 0, none⟩) c2 (by simp; omega)
        have fr : wr.frozen? ⟨w.heap.size, 0, none⟩ = false := (HGR.out.frozen_far ⟨w.heap.size, 0, none⟩ (by simp; omega) (by simp; omega)).trans f2
        clear hjm
        go_wp2_with fail
        refine bodyPost_ret (v := .agg #[.slice A' j cp2]) (by simp [results, Try.results62, go_sem, cr]) rfl ⟨_, ls, rfl, HSB.out, ?_, ?_⟩
        · rw [HLL.out]
          exact own_mono (own_setCell (B := w2.heap.size + 1) HO.out (by simp; omega) _) (by omega)
        · exact grown_setCell (grown_trans HG2.out HGR.out) _ _ (by simp)
  · go_wp2_with fail
    have hcells : ∀ j (hj : j < seven.length), (w1.alloc (.cells #[.string ⟨#[102, 105, 98, 111, 110, 97, 99, 99, 105]⟩, .string ⟨#[116, 104, 117, 101]⟩, .string ⟨#[100, 111, 117, 98, 108, 105, 110, 103]⟩, .string ⟨#[116, 114, 105, 98, 111, 110, 97, 99, 99, 105]⟩, .string ⟨#[115, 105, 108, 118, 101, 114]⟩, .string ⟨#[115, 113, 117, 97, 114, 101, 102, 114, 101, 101]⟩, .string ⟨#[114, 117, 100, 105, 110]⟩] 9)).cell? ⟨w1.heap.size, j, none⟩ = some (.string seven[j]) := by
      intro j hj
      rw [World.cell?_alloc_at _ _ _ _ rfl]
      have hj' : j < 7 := hj
      rcases j with _ | _ | _ | _ | _ | _ | _ | j <;> first | rfl | omega
    refine (l01Str_any g v zs w1.heap.size seven _ HZ.out (HC1.out.below ((Below.refl _ _).alloc (Nat.le_refl _) _)) (by decide) (by decide) (by omega) hcells).mono ?_
    rintro e w2 ⟨s, hs, rfl, hc2, hg2⟩
    obtain ⟨hsb, hss⟩ := seven_ok s hs
    have HSB := Lib.hid hsb
    have hw1 : w.heap.size < w1.heap.size := by omega
    have hne : (some w.heap.size : Option Nat) ≠ some g := fun e => by injection e with e; omega
    have HG2 : Hid (w.grownBy w2 (some g)) := grown_trans (grown_trans HG1.out (World.grownBy_alloc _ _ _)) hg2
    have hsz2 : w.heap.size + 2 ≤ w2.heap.size := by have := hg2.size; simp at this; omega
    have c2 : w2.cell? ⟨w.heap.size, 0, none⟩ = some (.slice none 0 0) := hg2.cell (a := ⟨w.heap.size, 0, none⟩) (by go_simp) hne
    have f2 : w2.frozen? ⟨w.heap.size, 0, none⟩ = false := (hg2.frozen_far ⟨w.heap.size, 0, none⟩ (by simp; omega) hne).trans (by go_simp)
    clear hc2 hg2 hs hcells c1 f1 hsb
    go_wp2_with fail
    refine (specNamedSubst s _ hss).mono ?_
    rintro e w3 ⟨u, rfl, ho, hb3⟩
    obtain ⟨A, cp, rfl⟩ := own_slice ho
    have hsz3 : w.heap.size + 2 ≤ w3.heap.size := by have := hb3.size; omega
    have hsz30 : w.heap.size < w3.heap.size := by omega
    have c3 : w3.cell? ⟨w.heap.size, 0, none⟩ = some (.slice none 0 0) := (hb3.cell (p := ⟨w.heap.size, 0, none⟩) (by simp; omega)).trans c2
    have f3 : w3.frozen? ⟨w.heap.size, 0, none⟩ = false := (hb3.frozen (p := ⟨w.heap.size, 0, none⟩) (by simp; omega)).trans f2
    have HO := Lib.hid ho
    have HG3 : Hid (w.grownBy w3 (some g)) := grown_below HG2.out hb3
    clear ho hb3 c2 f2
    go_wp2_with fail
    refine bodyPost_ret (v := .agg #[.slice A (namedL s).length cp]) (by simp [results, Try.results62, go_sem, c3, hsz30]) rfl ⟨_, namedL s, rfl, HSB.out, ?_, ?_⟩
    · first
        | exact own_mono ((own_setCell (B := w2.heap.size) HO.out (by simp; omega) _).alloc _) (by omega)
        | exact own_mono (own_setCell (B := w2.heap.size) (HO.out.alloc _) (by simp; omega) _) (by omega)
    · first
        | exact grown_trans (grown_setCell HG3.out _ _ (by simp)) (World.grownBy_alloc _ _ _)
        | exact grown_setCell (grown_trans HG3.out (World.grownBy_alloc _ _ _)) _ _ (by simp)

def SubMade (w : World) (e : Ending) (w' : World) : Prop :=
  ∃ (u : Value) (l : List ByteArray), e = .returned (.agg #[u]) ∧ substB l = true ∧ w'.ownsRow w.heap.size 9 1 u l.length (strs l) ∧ Below w.heap.size w w'

end Go.Proofs.Ytfcbfflkajlhnaa

/- The model's draws of words: l02Draw, MakeWord. Condition: the bytes are at most 2^20, a word of at most 100 letters is asked for. -/
namespace Go.Proofs.Ytfcbfflkajlhnaa
open Go.RowKit

def AllW (s : ByteArray) : Prop := ∀ c ∈ s.data.toList, isAbcd c = true
theorem allW_word {s : ByteArray} (h : AllW s) (h4 : s.size ≤ 400) : wordB s = true := by
  unfold wordB
  rw [decide_eq_true h4, Bool.true_and, List.all_eq_true]
  exact h
theorem allW_app {a b : ByteArray} (ha : AllW a) (hb : AllW b) : AllW (a ++ b) := by
  intro c hc
  rw [ByteArray.data_append, Array.toList_append, List.mem_append] at hc
  rcases hc with h | h
  · exact ha c h
  · exact hb c h
theorem allW_ext {a : ByteArray} (ha : AllW a) (n : Nat) : AllW (a.extract 0 n) := by
  intro c hc
  rw [ByteArray.data_extract, Array.toList_extract, List.extract_eq_take_drop, List.drop_zero] at hc
  exact ha c (List.mem_of_mem_take hc)
def strLen : Value → Nat | .string r => r.size | _ => 0
theorem slice_up (r : ByteArray) (k : Nat) (hk : k ≤ r.size) (w : World) : (Instr.slice 9 (.string r) none (some (.int .i64 (k : Int))) none).run Try.prog w = .ok (.string (r.extract 0 k)) w := by
  rw [run_slice_string_to_if (P := Try.prog) w 9 r .i64 (k : Int) Try.underlying9, if_pos ⟨by omega, by omega⟩]
  rfl
theorem up_size (r : ByteArray) (k : Nat) (hk : k ≤ r.size) : (r.extract 0 k).size = k := by rw [ByteArray.size_extract]; omega
def WordDrawn (p : Nat) (g : Nat) (v : Value) (zs : List Int) (w : World) (e : Ending) (w' : World) : Prop :=
  ∃ s : ByteArray, e = .returned (.string s) ∧ AllW s ∧ s.size ≤ p ∧ Cur w' g v zs ∧ w.grownBy w' (some g)

set_option maxHeartbeats 1000000 in
set_option maxRecDepth 100000 in
theorem l02Draw_any (p : Nat) (g : Nat) (v : Value) (zs : List Int) (w : World) (hz : IsBytes zs) (hc : Cur w g v zs) (hp : p ≤ 100) :
    Calls Try.prog 86 #[.pointer (some ⟨g, 0, none⟩), .int .i64 (p : Int)] w (WordDrawn p g v zs w) := by
  have HZ := Lib.hid hz
  have HC := Lib.hid hc
  clear hz hc
  go_enter Try.func86, Try.ntmps86
  go_wp2_with fail
  refine (l01Below_small g v zs 3 _ HZ.out HC.out (by omega) (by omega)).mono ?_
  rintro e w1 ⟨x, rfl, x0, x1, hc1, hg1⟩
  have HC1 := Lib.hid hc1
  have HG1 := Lib.hid hg1
  clear hc1 hg1
  go_wp2_with fail
  refine (l01Below_small g v zs ((p : Int) + 1) _ HZ.out HC1.out (by omega) (by omega)).mono ?_
  rintro e w2 ⟨y, rfl, y0, y1, hc2, hg2⟩
  have HC2 := Lib.hid hc2
  have HG2 := Lib.hid (grown_trans HG1.out hg2)
  clear hc2 hg2
  go_wp2_with fail
  refine (l02Word_any y (1 + x) g v zs _ HZ.out HC2.out (by omega) (by omega) (by omega) (by omega)).mono ?_
  rintro e w3 ⟨s, rfl, hs, hall, hc3, hg3⟩
  have HC3 := Lib.hid hc3
  have HG3 := Lib.hid (grown_trans HG2.out hg3)
  have HA : Hid (AllW s) := fun c h => by
    obtain ⟨a, b⟩ := hall c h
    unfold isAbcd
    rw [decide_eq_true a, decide_eq_true (by omega)]
    rfl
  have hsp : s.size ≤ p := by omega
  clear hc3 hg3 hall hs
  go_wp2_with fail
  refine (l01Once_any g v zs 4 _ HZ.out HC3.out (by omega) (by omega)).mono ?_
  rintro e w4 ⟨b, rfl, hc4, hg4⟩
  have HC4 := Lib.hid hc4
  have HG4 := Lib.hid (grown_trans HG3.out hg4)
  clear hc4 hg4
  cases b
  · go_wp2_with fail
    have HCq := HC4
    have HGq := HG4
    have HAR := HA
    have hRP := hsp
    refine (l01Once_any g v zs 6 _ HZ.out HCq.out (by omega) (by omega)).mono ?_
    rintro e w5 ⟨b2, rfl, hc5, hg5⟩
    have HC5 := Lib.hid hc5
    have HG5 := Lib.hid (grown_trans HGq.out hg5)
    clear hc5 hg5
    cases b2
    · go_wp2_with fail
      go_ret
      exact ⟨_, rfl, HAR.out, hRP, HC5.out, HG5.out⟩
    · go_wp2_with fail
      go_loop [7] (fun o => ∃ r : ByteArray, o = .string r ∧ AllW r ∧ 2 ≤ r.size ∧ r.size ≤ 2 * p + 4) (fun o => 2 * p + 4 - strLen o)
      case atStart => exact ⟨_, rfl, by intro c hc; simp at hc; rcases hc with rfl | rfl <;> rfl, by decide, by show 2 ≤ _; omega⟩
      case round =>
        obtain ⟨r, rfl, har, h2, hrp⟩ := hrel
        have HAr := Lib.hid har
        clear har
        by_cases hlt : r.size < p
        · have hsl := slice_up r (r.size / 2 + 1) (by omega)
          have q1 : ((r.size / 2 + 1 : Nat) : Int) = (r.size : Int) / 2 + 1 := by omega
          have HUS := Lib.hid (up_size r (r.size / 2 + 1) (by omega))
          go_wp2_with fail
          go_round
          case rel =>
            refine ⟨_, rfl, allW_app HAr.out (allW_ext HAr.out _), ?_, ?_⟩
            · rw [ByteArray.size_append]; omega
            · rw [ByteArray.size_append, HUS.out]; omega
          case measure => simp only [strLen, ByteArray.size_append, HUS.out]; omega
        · have hsl := slice_up r p (by omega)
          have q1 : min (r.size : Int) (p : Int) = (p : Int) := by omega
          have HUS := Lib.hid (up_size r p (by omega))
          go_wp2_with fail
          all_goals go_ret
          all_goals first | exact ⟨_, rfl, allW_ext HAr.out _, by rw [HUS.out]; exact Nat.le_refl _, HC5.out, HG5.out⟩ | exact ⟨_, rfl, HAr.out, by omega, HC5.out, HG5.out⟩
  · by_cases h1 : 1 < s.size
    · have d1 : decide ((1 : Int) < (s.size : Int)) = true := by simp; omega
      have hsl := slice_up s (s.size / 2) (by omega)
      have q0 : ((s.size / 2 : Nat) : Int) = (s.size : Int) / 2 := by omega
      have HUS0 := Lib.hid (up_size s (s.size / 2) (by omega))
      go_wp2_with fail
      go_quiet (fail)
      go_wp2_with fail
      have HCq := Lib.hid (HC4.out.drewN nq)
      have HGq := Lib.hid (grown_drewN HG4.out nq)
      have HAR := Lib.hid (allW_app (allW_ext HA.out (s.size / 2)) (allW_ext HA.out (s.size / 2)))
      have hRP : (s.extract 0 (s.size / 2) ++ s.extract 0 (s.size / 2)).size ≤ p := by rw [ByteArray.size_append, HUS0.out]; omega
      clear hsl q0
      generalize s.extract 0 (s.size / 2) ++ s.extract 0 (s.size / 2) = s' at HAR hRP ⊢
      refine (l01Once_any g v zs 6 _ HZ.out HCq.out (by omega) (by omega)).mono ?_
      rintro e w5 ⟨b2, rfl, hc5, hg5⟩
      have HC5 := Lib.hid hc5
      have HG5 := Lib.hid (grown_trans HGq.out hg5)
      clear hc5 hg5
      cases b2
      · go_wp2_with fail
        go_ret
        exact ⟨_, rfl, HAR.out, hRP, HC5.out, HG5.out⟩
      · go_wp2_with fail
        go_loop [7] (fun o => ∃ r : ByteArray, o = .string r ∧ AllW r ∧ 2 ≤ r.size ∧ r.size ≤ 2 * p + 4) (fun o => 2 * p + 4 - strLen o)
        case atStart => exact ⟨_, rfl, by intro c hc; simp at hc; rcases hc with rfl | rfl <;> rfl, by decide, by show 2 ≤ _; omega⟩
        case round =>
          obtain ⟨r, rfl, har, h2, hrp⟩ := hrel
          have HAr := Lib.hid har
          clear har
          by_cases hlt : r.size < p
          · have hsl := slice_up r (r.size / 2 + 1) (by omega)
            have q1 : ((r.size / 2 + 1 : Nat) : Int) = (r.size : Int) / 2 + 1 := by omega
            have HUS := Lib.hid (up_size r (r.size / 2 + 1) (by omega))
            go_wp2_with fail
            go_round
            case rel =>
              refine ⟨_, rfl, allW_app HAr.out (allW_ext HAr.out _), ?_, ?_⟩
              · rw [ByteArray.size_append]; omega
              · rw [ByteArray.size_append, HUS.out]; omega
            case measure => simp only [strLen, ByteArray.size_append, HUS.out]; omega
          · have hsl := slice_up r p (by omega)
            have q1 : min (r.size : Int) (p : Int) = (p : Int) := by omega
            have HUS := Lib.hid (up_size r p (by omega))
            go_wp2_with fail
            all_goals go_ret
            all_goals first | exact ⟨_, rfl, allW_ext HAr.out _, by rw [HUS.out]; exact Nat.le_refl _, HC5.out, HG5.out⟩ | exact ⟨_, rfl, HAr.out, by omega, HC5.out, HG5.out⟩
    · have d1 : decide ((1 : Int) < (s.size : Int)) = false := by simp; omega
      go_wp2_with fail
      have HCq := HC4
      have HGq := HG4
      have HAR := HA
      have hRP := hsp
      refine (l01Once_any g v zs 6 _ HZ.out HCq.out (by omega) (by omega)).mono ?_
      rintro e w5 ⟨b2, rfl, hc5, hg5⟩
      have HC5 := Lib.hid hc5
      have HG5 := Lib.hid (grown_trans HGq.out hg5)
      clear hc5 hg5
      cases b2
      · go_wp2_with fail
        go_ret
        exact ⟨_, rfl, HAR.out, hRP, HC5.out, HG5.out⟩
      · go_wp2_with fail
        go_loop [7] (fun o => ∃ r : ByteArray, o = .string r ∧ AllW r ∧ 2 ≤ r.size ∧ r.size ≤ 2 * p + 4) (fun o => 2 * p + 4 - strLen o)
        case atStart => exact ⟨_, rfl, by intro c hc; simp at hc; rcases hc with rfl | rfl <;> rfl, by decide, by show 2 ≤ _; omega⟩
        case round =>
          obtain ⟨r, rfl, har, h2, hrp⟩ := hrel
          have HAr := Lib.hid har
          clear har
          by_cases hlt : r.size < p
          · have hsl := slice_up r (r.size / 2 + 1) (by omega)
            have q1 : ((r.size / 2 + 1 : Nat) : Int) = (r.size : Int) / 2 + 1 := by omega
            have HUS := Lib.hid (up_size r (r.size / 2 + 1) (by omega))
            go_wp2_with fail
            go_round
            case rel =>
              refine ⟨_, rfl, allW_app HAr.out (allW_ext HAr.out _), ?_, ?_⟩
              · rw [ByteArray.size_append]; omega
              · rw [ByteArray.size_append, HUS.out]; omega
            case measure => simp only [strLen, ByteArray.size_append, HUS.out]; omega
          · have hsl := slice_up r p (by omega)
            have q1 : min (r.size : Int) (p : Int) = (p : Int) := by omega
            have HUS := Lib.hid (up_size r p (by omega))
            go_wp2_with fail
            all_goals go_ret
            all_goals first | exact ⟨_, rfl, allW_ext HAr.out _, by rw [HUS.out]; exact Nat.le_refl _, HC5.out, HG5.out⟩ | exact ⟨_, rfl, HAr.out, by omega, HC5.out, HG5.out⟩

def WordMade (p : Nat) (w : World) (e : Ending) (w' : World) : Prop := ∃ s : ByteArray, e = .returned (.string s) ∧ wordB s = true ∧ s.size ≤ p ∧ Below w.heap.size w w'
theorem makeWord_any (v : Value) (zs : List Int) (c : Int) (p : Nat) (w : World) (hz : IsBytes zs) (hl : Lst w v (bytesV zs)) (h0 : 0 ≤ c) (h1 : c ≤ 1048576) (hp : p ≤ 100) :
    Calls Try.prog 35 #[v, .int .i64 c, .int .i64 (p : Int)] w (WordMade p w) := by
  have HN := Lib.hid (l31New_any v zs c _ hz hl h0 h1)
  have HZ := Lib.hid hz
  obtain ⟨A, cp, rfl, -, -, -⟩ := hl
  rw [bytesV_length] at HN ⊢
  clear hz
  go_enter Try.func35, Try.ntmps35
  go_wp2_with fail
  refine HN.out.mono ?_
  rintro e w1 ⟨g, rfl, hg, hc1, hb1⟩
  have HC := Lib.hid hc1
  have HB1 := Lib.hid hb1
  clear hc1 hb1
  go_wp2_with fail
  refine (l02Draw_any p g _ zs _ HZ.out HC.out hp).mono ?_
  rintro e w2 ⟨s, rfl, ha, hsp, _, hg2⟩
  have HW : Hid (wordB s = true) := allW_word ha (by omega)
  have HB2 : Hid (Below w.heap.size w w2) := HB1.out.grown hg2 HB1.out.size (fun j hj => by cases hj; omega)
  clear ha hg2
  go_wp2_with fail
  go_ret
  exact ⟨_, rfl, HW.out, hsp, HB2.out⟩
end Go.Proofs.Ytfcbfflkajlhnaa

/- The model's draws of matrices: l04Draw, MakeMatrix, MakeSize. Condition: the bytes are at most 2^20. -/
namespace Go.Proofs.Ytfcbfflkajlhnaa
open Go.RowKit

/-- n rows of n numbers from -2 to 4 -/
def SmallM (n : Nat) (m : List (List Int)) : Prop := m.length = n ∧ ∀ r ∈ m, r.length = n ∧ ∀ x ∈ r, -2 ≤ x ∧ x ≤ 4

/-- a matrix that is being drawn: its rows are known as they come -/
theorem rows_more {w : World} {B : Nat} {us : List Value} {m : List (List Int)} (h : RowsTo w B us m) (hl : us.length = m.length) (r : List Int) : RowsTo w B us (m ++ [r]) :=
  ⟨by simp; omega, fun i a b => by have hi : i < m.length := by omega
                                   rw [List.getElem_append_left hi]; exact h.2.1 i a hi, h.2.2⟩

def MatDrawn (n : Nat) (g : Nat) (w : World) (e : Ending) (w' : World) : Prop :=
  ∃ (u : Value) (m : List (List Int)), e = .returned u ∧ SmallM n m ∧ OwnMat w' w.heap.size w'.heap.size u m ∧ w.grownBy w' (some g)
theorem grown_two {a b c : World} {g B : Nat} {row : Option Nat} (h : a.grownBy b (some g)) (k : b.grownBy c row) (hr : ∀ j, row = some j → B ≤ j) (hB : a.heap.size ≤ B) : a.grownBy c (some g) := grown_made h k hr hB

def MatMade (n : Nat) (w : World) (e : Ending) (w' : World) : Prop :=
  ∃ (u : Value) (m : List (List Int)), e = .returned u ∧ SmallM n m ∧ OwnMat w' w.heap.size w'.heap.size u m ∧ Below w.heap.size w w'

def SizeSaid (lo hi : Int) (w : World) (e : Ending) (w' : World) : Prop := ∃ x : Int, e = .returned (.int .i64 x) ∧ lo ≤ x ∧ x ≤ hi ∧ Below w.heap.size w w'

set_option maxHeartbeats 400000 in
theorem makeSize_any (v : Value) (zs : List Int) (c : Int) (w : World) (hz : IsBytes zs) (hl : Lst w v (bytesV zs)) (h0 : 0 ≤ c) (h1 : c ≤ 1048576) :
    Calls Try.prog 15 #[v, .int .i64 c, .int .i64 1, .int .i64 3] w (SizeSaid 1 3 w) := by
  have HN := Lib.hid (fun w' (hb : Below w.heap.size w w') => l31New_any v zs c w' hz (hl.below hb) h0 h1)
  have HZ := Lib.hid hz
  obtain ⟨A, cp, rfl, -, -, -⟩ := hl
  rw [bytesV_length] at HN ⊢
  clear hz
  go_enter Try.func15, Try.ntmps15
  go_wp2_with fail
  go_loop [9, 10] (fun s k => ∃ j : Nat, j ≤ 2 ∧ k = .int .i64 ((j : Int) + 1) ∧ s = .int .i64 ((j : Int) + 1)) (fun _ k => 3 - (intOf k).toNat)
  case atStart => exact ⟨0, by omega, rfl, rfl⟩
  case round =>
    obtain ⟨j, hj, rfl, rfl⟩ := hrel
    by_cases hlt : j < 2
    · have d1 : decide ((j : Int) + 1 < 3) = true := by simp; omega
      have d2 : decide ((j : Int) + 1 < 100) = true := by simp; omega
      go_wp2_with fail
      go_round
      case rel => exact ⟨j + 1, by omega, by go_num, by go_num⟩
      case measure => simp [intOf]; omega
    · have hj2 : j = 2 := by omega
      subst hj2
      go_wp2_with fail
      refine (HN.out _ (Below.refl _ _)).mono ?_
      rintro e w1 ⟨g, rfl, hg, hc1, hb1⟩
      have HC := Lib.hid hc1
      have HB1 := Lib.hid hb1
      clear hc1 hb1
      go_wp2_with fail
      refine (l01Below_small g _ zs 3 _ HZ.out HC.out (by omega) (by omega)).mono ?_
      rintro e w2 ⟨x, rfl, x0, x1, hc2, hg2⟩
      have HB2 : Hid (Below w.heap.size w w2) := HB1.out.grown hg2 HB1.out.size (fun j hj => by cases hj; exact hg)
      obtain ⟨q, rfl⟩ := Int.eq_ofNat_of_zero_le x0
      clear hc2 hg2
      go_wp2_with fail
      go_loop [11, 12] (fun o k => ∃ r : Nat, r ≤ q ∧ k = .int .i64 r ∧ o = .int .i64 (1 + ((q : Int) - r))) (fun _ k => (intOf k).toNat)
      case atStart => exact ⟨q, Nat.le_refl _, rfl, by simp⟩
      case round =>
        obtain ⟨r, hr, rfl, rfl⟩ := hrel
        by_cases hlt2 : 0 < r
        · go_wp2_with fail
          go_round
          case rel => exact ⟨r - 1, by omega, by rw [show (r : Int) - 1 = ((r - 1 : Nat) : Int) from by omega], by congr 1; omega⟩
          case measure => simp [intOf]; omega
        · go_wp2_with fail
          go_ret
          exact ⟨_, rfl, by omega, by omega, HB2.out⟩
end Go.Proofs.Ytfcbfflkajlhnaa
