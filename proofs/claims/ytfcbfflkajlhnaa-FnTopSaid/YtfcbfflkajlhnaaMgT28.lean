/- Texts put together. -/
import Derived.Test.YtfcbfflkajlhnaaMgT15
import Derived.Test.YtfcbfflkajlhnaaMgT18
import Derived.Test.YtfcbfflkajlhnaaMgT11
import Derived.Test.YtfcbfflkajlhnaaMgT27
import Derived.Test.YtfcbfflkajlhnaaMgT19
import Derived.Lib.IndexAny
import Derived.RangeFuncNested
import Derived.RangeFuncLeaves
import Derived.WalkKit
import Derived.Test.YtfcbfflkajlhnaaMgT1
import Derived.Test.YtfcbfflkajlhnaaMgT21
import Derived.Test.YtfcbfflkajlhnaaMgT16
import Derived.OwnWalkIn
import Derived.TacticsInMore
import Derived.LoopNIn
import Derived.LoopIn
import Derived.Sort.LoopGhostIn
import Derived.Deep.DeepCutAuto
import Derived.Deep.CutBlock
import Derived.Deep.LoopGhost
/- GrowingLetters and isGrowing of the program. Conditions: lengths of at most 2^20. -/
namespace Go.Proofs.Ytfcbfflkajlhnaa
open Go.RowKit

theorem outTo_snoc {s : Nat → Bool} {i : Nat} (h : s i = true) : outTo s (i + 1) = outTo s i ++ [letterN i] := by
  show outTo s i ++ (if s i = true then [letterN i] else []) = _
  rw [if_pos h]
theorem outTo_same {s : Nat → Bool} {i : Nat} (h : s i = false) : outTo s (i + 1) = outTo s i := by
  show outTo s i ++ (if s i = true then [letterN i] else []) = _
  rw [h]
  exact List.append_nil _
theorem outTo_le (s : Nat → Bool) : ∀ n, (outTo s n).length ≤ n
  | 0 => Nat.le_refl _
  | n + 1 => by
    have := outTo_le s n
    by_cases h : s n = true
    · rw [outTo_snoc h, List.length_append]; simp; exact this
    · rw [outTo_same (by simpa using h)]; omega

set_option maxRecDepth 100000 in
set_option maxHeartbeats 1000000 in
theorem implGrowingLetters (l : List ByteArray) (v : Value) (w : World) (h : Lst w v (strs l)) (hz : ∀ x ∈ l, x.size ≤ 1048576) (hn : l.length ≤ 1048576) :
    Calls Try.prog 28 #[.agg #[v]] w fun e w' => e = .returned (.string (growR l)) ∧ Below w.heap.size w w' := by
  obtain ⟨i0, hi0, hz0, hz1, hz2⟩ := info_parts u8_info
  obtain ⟨A, cp, rfl⟩ := lst_slice h
  rw [strs_length] at h ⊢
  have hb0 : Below w.heap.size w (w.alloc (.cells #[.slice A l.length cp] 25)) := (Below.refl _ _).alloc (Nat.le_refl _) _
  have HL := Lib.hid (h.below hb0)
  have HZ := Lib.hid hz
  have HB0 := Lib.hid hb0
  clear h hz hb0
  by_cases h1 : substB l = true
  · have HV : Hid (growR l = ⟨(outTo (growB l) l.length).toArray⟩) := if_pos h1
    have HSB := Lib.hid h1
    obtain ⟨hl1, hl4, _⟩ := subst_parts h1
    go_enter Try.func28, Try.ntmps28
    go_wp2_with fail
    refine (implSubstOkL l _ _ HL.out HZ.out (by omega)).mono ?_
    rintro e w1 ⟨rfl, hb1⟩
    rw [h1]
    have hbw1 : Below w.heap.size w w1 := HB0.out.trans (hb1.mono (by simp))
    have c1 : w1.cell? ⟨w.heap.size, 0, none⟩ = some (.slice A l.length cp) := (hb1.cell (p := ⟨w.heap.size, 0, none⟩) (by simp)).trans (by go_simp)
    obtain ⟨b, off, cp', he, hat⟩ := lst_at (HL.out.below hb1) (by omega)
    injection he with hA _ hc
    subst hA; subst hc
    have HAT := Lib.hid hat
    have HBW1 := Lib.hid hbw1
    have hsz1 : w.heap.size < w1.heap.size := by have := hb1.size; simp at this; omega
    clear hb1 hat hbw1 h1
    go_wp2_with fail
    go_loopw [3, 12] (fun o ix w' => ∃ i n, i ≤ l.length ∧ ix = .int .i64 (i : Int) ∧ n = (outTo (growB l) i).length ∧ w'.ownsRow w1.heap.size 5 1 o n (byteCells (outTo (growB l) i)) ∧ Below w1.heap.size w1 w') (fun _ ix _ => l.length - (intOf ix).toNat)
    case atStart => exact ⟨0, 0, by omega, rfl, rfl, World.ownsRow_nil _ _ _ _, Below.refl _ _⟩
    case round =>
      obtain ⟨i, n, hi, rfl, hnl, ho, hb⟩ := hrel
      have HN := Lib.hid hnl
      have hsz := hb.size
      have hn4 : n ≤ 4 := by have := outTo_le (growB l) i; omega
      clear hnl
      by_cases hlt : i < l.length
      · obtain ⟨h0, f1, f2⟩ := first_at HSB.out hlt
        have HG := Lib.hid (growB_at hlt)
        have g1 : wr.cell? ⟨b, off + i, none⟩ = some (.string l[i]) := (hb.cell (p := ⟨b, off + i, none⟩) (World.block_lt_of_cell? w1 _ (HAT.out i hlt))).trans (HAT.out i hlt)
        have c3 : wr.cell? ⟨w.heap.size, 0, none⟩ = some (.slice (some ⟨b, off, none⟩) l.length cp) := (hb.cell (p := ⟨w.heap.size, 0, none⟩) hsz1).trans c1
        have HLI := Lib.hid (fun w => letterAt (l[i][0].toNat : Int) (firstN l i : Int) w (by omega) (by omega) (by omega))
        have HF := Lib.hid f1
        have HO := Lib.hid ho
        have HB := Lib.hid hb
        have HAB := Lib.hid (fun h => outTo_snoc (s := growB l) (i := i) h)
        have HAS := Lib.hid (fun h => outTo_same (s := growB l) (i := i) h)
        clear f1 ho hb
        by_cases h2 : 1 < l[i].size
        · have dG : decide (1 < l[i].size) = true := by simpa using h2
          by_cases h3 : firstN l i = i
          · have HGT : Hid (growB l i = true) := by show _ = _; rw [HG.out, dG, decide_eq_true h3]; rfl
            have d3 : ((firstN l i : Int) == (i : Int)) = true := by simp; omega
            have HLE : Hid (letterN i = l[i][0]) := by
              show _ = _
              apply UInt8.toNat.inj
              rw [letterN_toNat i (by omega), HF.out, h3]
            clear h3
            go_wp2_with (first
              | (go_at_call 78; refine (HLI.out _).mono ?_; rintro e w' ⟨rfl, rfl⟩)
              | (at_builtin
                 refine wpList_append1 _ rfl (.tmp 27) (.tmp 30) _ rfl w1.heap.size 5 i0 _ 1 Try.underlying22 hi0 hz0 hz1 hz2 rfl _ n _ rfl HO.out (.int .u8 (l[i][0].toNat : Int)) rfl rfl (by unfold maxLen; omega) (by omega) hsz ?_
                 intro v' w2 hown2 hbel2))
            go_roundw
            case rel =>
              refine ⟨i + 1, n + 1, by omega, by go_num, ?_, ?_, HB.out.trans hbel2⟩
              · rw [HAB.out HGT.out, List.length_append, ← HN.out]; rfl
              · rw [HAB.out HGT.out, byteCells_snoc, HLE.out]; exact hown2
            case measure => simp [intOf]; omega
          · have HGF : Hid (growB l i = false) := by show _ = _; rw [HG.out, dG, decide_eq_false h3]; rfl
            have d3 : ((firstN l i : Int) == (i : Int)) = false := by simp; omega
            clear h3
            go_wp2_with (go_at_call 78; refine (HLI.out _).mono ?_; rintro e w' ⟨rfl, rfl⟩)
            go_roundw
            case rel => exact ⟨i + 1, n, by omega, by go_num, by rw [HAS.out HGF.out]; exact HN.out, by rw [HAS.out HGF.out]; exact HO.out, HB.out⟩
            case measure => simp [intOf]; omega
        · have dG : decide (1 < l[i].size) = false := by simpa using h2
          have HGF : Hid (growB l i = false) := by show _ = _; rw [HG.out, dG]; rfl
          go_wp2_with fail
          go_roundw
          case rel => exact ⟨i + 1, n, by omega, by go_num, by rw [HAS.out HGF.out]; exact HN.out, by rw [HAS.out HGF.out]; exact HO.out, HB.out⟩
          case measure => simp [intOf]; omega
      · have hii : i = l.length := by omega
        have hconv := conv_own_to Try.underlying9 ho
        have HE : Hid (outTo (growB l) i = outTo (growB l) l.length) := by show _ = _; rw [hii]
        have HB := Lib.hid hb
        clear hii ho hb
        go_wp2_with fail
        go_ret
        refine ⟨ret_str ?_, HBW1.out.trans (HB.out.mono HBW1.out.size)⟩
        rw [HV.out, HE.out]
  · have h1' : substB l = false := by simpa using h1
    have HV : Hid (growR l = ⟨#[]⟩) := if_neg h1
    clear h1
    go_enter Try.func28, Try.ntmps28
    go_wp2_with fail
    refine (implSubstOkL l _ _ HL.out HZ.out (by omega)).mono ?_
    rintro e w1 ⟨rfl, hb1⟩
    rw [h1']
    have HB1 : Hid (Below w.heap.size w w1) := HB0.out.trans (hb1.mono (by simp))
    clear hb1
    go_wp2_with fail
    go_ret
    exact ⟨ret_str HV.out.symm, HB1.out⟩
theorem mem_outTo (s : Nat → Bool) (k : Nat) (hk : k ≤ 3) : ∀ n, n ≤ 4 → (letterN k ∈ outTo s n ↔ k < n ∧ s k = true)
  | 0, _ => by constructor
               · intro h; cases h
               · rintro ⟨h, _⟩; omega
  | n + 1, hn => by
    have ih := mem_outTo s k hk n (by omega)
    have hne : letterN k = letterN n ↔ k = n := by
      constructor
      · intro h
        have := congrArg UInt8.toNat h
        rw [letterN_toNat k (by omega), letterN_toNat n (by omega)] at this
        omega
      · rintro rfl; rfl
    by_cases h : s n = true
    · rw [outTo_snoc h, List.mem_append, ih, List.mem_singleton, hne]
      constructor
      · rintro (⟨a, b⟩ | rfl)
        · exact ⟨by omega, b⟩
        · exact ⟨by omega, h⟩
      · rintro ⟨a, b⟩
        by_cases e : k = n
        · exact .inr e
        · exact .inl ⟨by omega, b⟩
    · rw [outTo_same (by simpa using h), ih]
      constructor
      · rintro ⟨a, b⟩; exact ⟨by omega, b⟩
      · rintro ⟨a, b⟩
        refine ⟨?_, b⟩
        rcases Nat.lt_or_ge k n with e | e
        · exact e
        · have : k = n := by omega
          subst this
          exact absurd b h
theorem grow_has {l : List ByteArray} {t : ByteArray} {c : UInt8} (hw : (decide (t.size = 1) && wordB t) = true) (h3 : c.toNat = 97 + letN t) (h4 : letN t ≤ 3) : decide (0 ≤ Lib.indexByte (growR l).data.toList c) = growOk l t := by
  rw [← Lib.contains_iff_indexByte]
  have hcl : c = letterN (letN t) := by
    apply UInt8.toNat.inj
    rw [letterN_toNat _ (by omega), h3]
  unfold growOk letOk
  rw [hw]
  by_cases h : substB l = true
  · have hl4 := (subst_parts h).2.1
    have hV : growR l = ⟨(outTo (growB l) l.length).toArray⟩ := if_pos h
    rw [hV, h]
    show (outTo (growB l) l.length).contains c = _
    have hm := mem_outTo (growB l) (letN t) h4 l.length hl4
    rw [Bool.eq_iff_iff, List.contains_iff_mem, hcl, hm]
    simp
  · have hV : growR l = ⟨#[]⟩ := if_neg h
    rw [hV]
    have h' : substB l = false := by simpa using h
    rw [h']
    simp

set_option maxRecDepth 100000 in
theorem implIsGrowing (l : List ByteArray) (v : Value) (t : ByteArray) (w : World) (h : Lst w v (strs l)) (hz : ∀ x ∈ l, x.size ≤ 1048576) (hn : l.length ≤ 1048576) (ht : t.size ≤ 1048576) :
    Calls Try.prog 65 #[.agg #[v], .string t] w fun e w' => e = .returned (.bool (growOk l t)) ∧ Below w.heap.size w w' := by
  obtain ⟨A, cp, rfl⟩ := lst_slice h
  rw [strs_length] at h ⊢
  have hb0 : Below w.heap.size w (w.alloc (.cells #[.slice A l.length cp] 25)) := (Below.refl _ _).alloc (Nat.le_refl _) _
  have HL := Lib.hid (h.below hb0)
  have HZ := Lib.hid hz
  have HB0 := Lib.hid hb0
  clear h hz hb0
  by_cases h2 : (decide (t.size = 1) && wordB t) = true
  · have H2 := Lib.hid h2
    have h2' := h2
    rw [Bool.and_eq_true, decide_eq_true_eq] at h2'
    obtain ⟨c, hc, h3, h4⟩ := letter_list h2'.1 h2'.2
    have HG := Lib.hid (grow_has (l := l) h2 h3 h4)
    have htc : t = ⟨#[c]⟩ := bytes_ext (by rw [ByteArray.toList_eq, ByteArray.toList_eq]; exact hc)
    have HC : Hid (∀ s w, Calls Try.prog 92 #[.string s, .string t] w fun e w' => e = .returned (.bool (decide (0 ≤ Lib.indexByte s.data.toList c))) ∧ w' = w) := by
      intro s w
      rw [htc]
      exact Try.strings_Contains_one s c w
    clear h2 h2' hc h3 h4 htc
    go_enter Try.func65, Try.ntmps65
    go_wp2_with fail
    refine (implIsLetterWord t _ ht).mono ?_
    rintro e w1 ⟨rfl, hb1⟩
    rw [H2.out]
    have HB1 : Hid (Below w.heap.size w w1) := HB0.out.trans (hb1.mono (by simp))
    have c1 : w1.cell? ⟨w.heap.size, 0, none⟩ = some (.slice A l.length cp) := (hb1.cell (p := ⟨w.heap.size, 0, none⟩) (by simp)).trans (by go_simp)
    have HL1 := Lib.hid (HL.out.below hb1)
    clear hb1
    go_wp2_with fail
    refine (implGrowingLetters l _ _ HL1.out HZ.out hn).mono ?_
    rintro e w2 ⟨rfl, hb2⟩
    have HB2 : Hid (Below w.heap.size w w2) := HB1.out.trans (hb2.mono HB1.out.size)
    clear hb2
    go_wp2_with fail
    refine (HC.out _ _).mono ?_
    rintro e w3 ⟨rfl, rfl⟩
    rw [HG.out]
    go_wp2_with fail
    go_ret
    exact ⟨rfl, HB2.out⟩
  · have h2' : (decide (t.size = 1) && wordB t) = false := by simpa only [Bool.not_eq_true] using h2
    have H2 := Lib.hid h2'
    clear h2 h2'
    go_enter Try.func65, Try.ntmps65
    go_wp2_with fail
    refine (implIsLetterWord t _ ht).mono ?_
    rintro e w1 ⟨rfl, hb1⟩
    rw [H2.out]
    have HB1 : Hid (Below w.heap.size w w1) := HB0.out.trans (hb1.mono (by simp))
    clear hb1
    go_wp2_with fail
    go_ret
    refine ⟨ret_bool ?_, HB1.out⟩
    unfold growOk letOk
    rw [H2.out]
    rfl
end Go.Proofs.Ytfcbfflkajlhnaa

/- A range over an iterator without end whose own blocks may turn: what it promises (Streams), and the statement out of it (rangeOver). No program in it. -/
namespace Go.Proofs.Ytfcbfflkajlhnaa
open Go.RowKit

/-- whatever lay outside X lies as it lay -/
structure Kept (X : Nat → Prop) (w w' : World) : Prop where
  os : w'.os = w.os
  tape : w'.tape = w.tape
  output : w'.output = w.output
  size : w.heap.size ≤ w'.heap.size
  block : ∀ k, k < w.heap.size → ¬ X k → w'.heap[k]? = w.heap[k]?

namespace Kept
variable {X Y : Nat → Prop} {a b c w : World}
theorem refl (X : Nat → Prop) (w : World) : Kept X w w := ⟨rfl, rfl, rfl, Nat.le_refl _, fun _ _ _ => rfl⟩
theorem trans (h : Kept X a b) (k : Kept X b c) : Kept X a c :=
  ⟨k.os.trans h.os, k.tape.trans h.tape, k.output.trans h.output, Nat.le_trans h.size k.size, fun i hi hx => (k.block i (Nat.lt_of_lt_of_le hi h.size) hx).trans (h.block i hi hx)⟩
theorem mono (h : Kept X a b) (hxy : ∀ k, X k → Y k) : Kept Y a b := ⟨h.os, h.tape, h.output, h.size, fun i hi hx => h.block i hi (fun e => hx (hxy i e))⟩
/-- only the blocks that lay in the first world matter -/
theorem mono' (h : Kept X a b) (hxy : ∀ k, k < a.heap.size → X k → Y k) : Kept Y a b := ⟨h.os, h.tape, h.output, h.size, fun i hi hx => h.block i hi (fun e => hx (hxy i hi e))⟩
theorem putObj {l : Nat} (o : Obj) (h : Kept X a b) (hl : X l) : Kept X a (b.putObj l o) :=
  h.trans ⟨rfl, rfl, rfl, by simp, fun k _ hk => World.putObj_heap_other (fun e => hk (e ▸ hl))⟩
theorem alloc (h : Kept X a b) (o : Obj) : Kept X a (b.alloc o) :=
  h.trans ⟨rfl, rfl, rfl, by simp, fun k hk _ => Below.heap_alloc _ _ _ hk⟩
theorem setCell (h : Kept X a b) {p : Addr} (hp : X p.block) (u : Value) : Kept X a (b.setCell p u) :=
  h.trans ⟨rfl, rfl, rfl, by simp [World.setCell], fun k _ hk => Below.heap_setCell _ _ _ _ (fun e => hk (e ▸ hp))⟩
theorem grown {row : Option Nat} (h : Kept X a b) (hg : b.grownBy c row) (hr : ∀ k, row = some k → X k) : Kept X a c :=
  h.trans ⟨hg.os, hg.tape, hg.output, hg.size, fun k hk hx => hg.block k hk (fun e => hx (hr k e.symm))⟩
theorem drew (h : Kept X a b) : Kept X a b.drew := ⟨h.os, h.tape, h.output, h.size, h.block⟩
theorem drewN (h : Kept X a b) (n : Nat) : Kept X a (b.drewN n) := ⟨h.os, h.tape, h.output, h.size, h.block⟩
theorem below {B : Nat} (h : Kept X a b) (hX : ∀ k, X k → B ≤ k) (hB : B ≤ a.heap.size) : Below B a b :=
  ⟨h.os, h.tape, h.output, h.size, fun k hk => h.block k (by omega) (fun e => by have := hX k e; omega)⟩
theorem of_below {B : Nat} (h : Below B a b) (hX : ∀ k, B ≤ k → k < a.heap.size → X k) : Kept X a b :=
  ⟨h.os, h.tape, h.output, h.size, fun k hk hx => h.block k (by rcases Nat.lt_or_ge k B with e | e; · exact e
                                                                exact absurd (hX k e hk) hx)⟩
theorem heap {k : Nat} {o : Obj} (h : Kept X a b) (hk : a.heap[k]? = some o) (hx : ¬ X k) : b.heap[k]? = some o :=
  (h.block k (Array.getElem?_eq_some_iff.1 hk).1 hx).trans hk
theorem cell {p : Addr} {v : Value} (h : Kept X a b) (hc : a.cell? p = some v) (hx : ¬ X p.block) : b.cell? p = some v :=
  (World.cell?_of_block (w := a) (h.block p.block (World.block_lt_of_cell? a _ hc) hx)).trans hc
theorem frozen {p : Addr} {v : Value} (h : Kept X a b) (hc : a.cell? p = some v) (hx : ¬ X p.block) : b.frozen? p = a.frozen? p :=
  World.frozen?_of_block (w := a) (h.block p.block (World.block_lt_of_cell? a _ hc) hx)
theorem boxed {B : Nat} {t : TypeId} {v : Value} (h : Kept X a b) (hc : Boxed a B t v) (hx : ¬ X B) : Boxed b B t v := h.heap hc hx
theorem row {base : Nat} {e : TypeId} {size n : Nat} {v : Value} {xs : List Value} (h : Kept X a b) (ho : a.ownsRow base e size v n xs) (hx : ∀ g, v.ownBlock = some g → ¬ X g) : b.ownsRow base e size v n xs := by
  obtain ⟨h1, h2⟩ := ho
  refine ⟨h1, ?_⟩
  rcases h2 with h2 | ⟨g, cap, cur, rfl, hb, hg, rest⟩
  · exact .inl h2
  · exact .inr ⟨g, cap, cur, rfl, hb, h.heap hg (hx g rfl), rest⟩
end Kept

/-- WHAT AN ITERATOR WITHOUT END PROMISES: at J, carried on from round to round, it hands over enc 0, enc 1, ..; it turns blocks laid since its call began (where Z), nothing else; a round keeps all outside X (and outside the loop's record l). -/
def Streams (P : Program) (gf : FuncId) (lb : Array Value) (enc : Nat → Value) (X : Nat → Prop) (Z : Prop) (N : Nat) (w : World) : Prop :=
  ∀ (l : Nat) (J : Nat → World → Prop) (Jx : World → Prop) (W : World), Below w.heap.size w W → w.heap.size ≤ l → l < W.heap.size →
    (∀ i A C, J i A → Kept (fun k => Z ∧ W.heap.size ≤ k) A C → J i C) →
    (∀ i A, J i A → i < N ∧ YieldAt Fence.wide 7 P l #[enc i] A fun e C => (e = .returned (.bool true) ∧ J (i + 1) C ∧ Kept (fun k => X k ∨ k = l) A C) ∨ (e = .returned (.bool false) ∧ Jx C)) →
    J 0 W → CallsIn Fence.wide 8 P gf (#[.func (.yield l) #[] #[]] ++ lb) W fun e C => (∃ v, e = .returned v) ∧ Jx C

/-- how a round's body may be left: off its end, or by the exit x -/
def overPost (X : Nat → Prop) (I : Nat → World → Prop) (Ix : World → Prop) (x i : Nat) (A : World) : Exit → Act → World → Prop
  | .normal, _, C => Kept X A C ∧ I (i + 1) C
  | .exit id, _, C => id = x ∧ Kept X A C ∧ Ix C
  | _, _, _ => False

theorem rangeOver {P : Program} {g : Operand} {ps : Array Tmp} {assign body : Code} {Q : Exit → Act → World → Prop} {a : Act} {w : World} {gf : Nat} {lb : Array Value}
    (hg : a.eval g = .func (.func gf) #[] lb) (eg : ∀ args w, (callFunc gf args).run P w = .ok (.enter gf args) w) (hps : ps.size = 1)
    {enc : Nat → Value} {X : Nat → Prop} {Z : Prop} {N : Nat} {w0 : World} (hseq : Streams P gf lb enc X Z N w0) (hw0 : Below w0.heap.size w0 w)
    (hX1 : ¬ X w.heap.size) (hX2 : ¬ X (w.heap.size + 1))
    (I : Nat → World → Prop) (Ix : World → Prop) (x : Nat)
    (hI : ∀ i A C, I i A → Kept (fun k => (k = w.heap.size ∨ k = w.heap.size + 1) ∨ (Z ∧ w.heap.size + 2 ≤ k)) A C → I i C)
    (hIx : ∀ A C, Ix A → Kept (fun k => k = w.heap.size + 1) A C → Ix C) (h0 : I 0 w) (a₁ : Nat → Act)
    (hassign : ∀ (l i : Nat) (A : World) (K : Act → World → Prop), K (a₁ i) A →
      assign.wpIn (Fence.wide.inRound l) 7 P (Exit.then K (fun _ _ _ => False)) { tmps := (ps.zip #[enc i]).foldl (fun t (p, v) => t.setIfInBounds p v) a.tmps, defers := [] } A)
    (hbody : ∀ (l i : Nat) (A : World), w.heap.size + 2 ≤ A.heap.size → I i A → i < N ∧ body.wpIn (Fence.wide.inRound l) 7 P (overPost X I Ix x i A) (a₁ i) A)
    (hstop : ∀ (D : Nat) (C : World), w.heap.size ≤ D → Ix C → C.heap[D]? = some (.deferred (some [])) → (Code.exit x).wpIn Fence.wide 9 P Q { a with defers := { target := .collected D, args := #[] } :: a.defers } C) :
    (Code.rangeFunc g ps assign body).wpIn Fence.wide 9 P Q a w := by
  refine wpIn_rangeFunc ?_
  intro fn hfn
  obtain ⟨rec, hrec⟩ : ∃ rec : LoopState → Option Code → Loop, rec = fun st pe => { state := st, pending := pe, fn, tmps := a.tmps, params := ps, assign, body, defers := w.heap.size } := ⟨_, rfl⟩
  obtain ⟨V, hV⟩ : ∃ V, (w.alloc (.deferred (some []))).alloc (.loop (rec .ready none)) = V := ⟨_, rfl⟩
  have kV : Kept (fun _ => False) w V := by rw [← hV]; exact ((Kept.refl _ w).alloc _).alloc _
  have sV : V.heap.size = w.heap.size + 2 := by rw [← hV]; simp
  have lV : V.heap[w.heap.size + 1]? = some (.loop (rec .ready none)) := by
    rw [← hV]
    have := World.alloc_heap_new (w.alloc (.deferred (some []))) (.loop (rec .ready none))
    rwa [World.size_alloc] at this
  have dV : V.heap[w.heap.size]? = some (.deferred (some [])) := by
    rw [← hV]; exact (Below.heap_alloc _ _ _ (by simp)).trans (World.alloc_heap_new w _)
  refine ⟨w.heap.size + 1, [{ target := .collected w.heap.size, args := #[] }], V, { target := .fn (.func gf) lb, args := #[.func (.yield (w.heap.size + 1)) #[] #[]] }, V, gf, #[.func (.yield (w.heap.size + 1)) #[] #[]] ++ lb, V, ?_, ?_, fun _ _ => trivial, ?_, fun _ => by omega, ?_⟩
  · rw [← hV, hrec]; exact run_enterLoop_outer _ _ _ _ _
  · simp only [resolve, hg]
    simp [go_sem]
  · simp [invoke, go_sem, eg]
  · refine (hseq (w.heap.size + 1) (fun i W => I i W ∧ W.heap[w.heap.size + 1]? = some (.loop (rec .ready none)) ∧ W.heap[w.heap.size]? = some (.deferred (some [])))
      (fun W => Ix W ∧ W.heap[w.heap.size + 1]? = some (.loop (rec .done (some (.exit x)))) ∧ W.heap[w.heap.size]? = some (.deferred (some []))) V
      (hw0.trans ((kV.below (fun _ h => h.elim) (Nat.le_refl _)).mono hw0.size)) (by have := hw0.size; omega) (by omega) ?_ ?_ ?_).mono ?_
    · rintro i A C ⟨h1, h2, h3⟩ hk
      have nb : ∀ k, k < w.heap.size + 2 → ¬ (Z ∧ V.heap.size ≤ k) := fun k hk' h => by omega
      exact ⟨hI i A C h1 (hk.mono fun k h => .inr ⟨h.1, by omega⟩), hk.heap h2 (nb _ (by omega)), hk.heap h3 (nb _ (by omega))⟩
    · rintro i A ⟨h1, h2, h3⟩
      have hlt : w.heap.size + 1 < A.heap.size := (Array.getElem?_eq_some_iff.1 h2).1
      refine ⟨(hbody 0 i A (by omega) h1).1, ?_⟩
      have hy := run_yield (P := P) (args := #[enc i]) h2 (by rw [hrec]; simp [hps])
      rw [hrec] at hy
      refine ⟨fn, _, assign, body, hy, roundIn_of_wpIn hfn (hassign _ i A _ ⟨_, run_beginRound h2 (by rw [hrec]), ?_⟩)⟩
      obtain ⟨A2, hA2⟩ : ∃ A2, A.putObj (w.heap.size + 1) (.loop { rec .ready none with state := .busy }) = A2 := ⟨_, rfl⟩
      rw [hA2]
      have k2 : Kept (fun k => k = w.heap.size + 1) A A2 := by rw [← hA2]; exact (Kept.refl _ A).putObj _ rfl
      have l2 : A2.heap[w.heap.size + 1]? = some (.loop { rec .ready none with state := .busy }) := by rw [← hA2]; exact World.putObj_heap_same hlt
      have d2 : A2.heap[w.heap.size]? = some (.deferred (some [])) := k2.heap h3 (by omega)
      refine wpIn_mono (hbody _ i A2 (by have := k2.size; omega) (hI i A A2 h1 (k2.mono fun k h => .inl (.inr h)))).2 ?_
      have fin : ∀ (jump : Option Code) (W3 : World), Kept X A2 W3 →
          (Instr.endRound (w.heap.size + 1) jump).run P W3 = .ok (.bool jump.isNone) (W3.putObj (w.heap.size + 1) (.loop (rec (if jump.isNone then .ready else .done) jump))) ∧
          (W3.putObj (w.heap.size + 1) (.loop (rec (if jump.isNone then .ready else .done) jump))).heap[w.heap.size + 1]? = some (.loop (rec (if jump.isNone then .ready else .done) jump)) ∧
          (W3.putObj (w.heap.size + 1) (.loop (rec (if jump.isNone then .ready else .done) jump))).heap[w.heap.size]? = some (.deferred (some [])) := fun jump W3 k3 => by
        have l3 := k3.heap l2 hX2
        have d3 := k3.heap d2 hX1
        have hr := run_endRound (P := P) jump l3
        rw [hrec] at hr ⊢
        exact ⟨hr, World.putObj_heap_same (Array.getElem?_eq_some_iff.1 l3).1, (World.putObj_heap_other (by omega)).trans d3⟩
      rintro e a3 W3 hp
      cases e with
      | normal =>
        obtain ⟨k3, i3⟩ := hp
        obtain ⟨hr, l4, d4⟩ := fin none W3 k3
        refine ⟨_, _, hr, .inl ⟨rfl, ⟨hI _ _ _ i3 ((Kept.refl _ W3).putObj _ (.inl (.inr rfl))), l4, d4⟩, ?_⟩⟩
        exact ((k2.mono fun k h => .inr h).trans (k3.mono fun k h => .inl h)).putObj _ (.inr rfl)
      | exit id =>
        obtain ⟨rfl, k3, i3⟩ := hp
        obtain ⟨hr, l4, d4⟩ := fin (some (.exit id)) W3 k3
        exact ⟨_, _, hr, .inr ⟨rfl, hIx _ _ i3 ((Kept.refl _ W3).putObj _ rfl), l4, d4⟩⟩
      | ret => exact hp.elim
      | goto t => exact hp.elim
      | panic ch => exact hp.elim
      | outgrown => exact hp.elim
    · exact ⟨hI 0 w V h0 (kV.mono fun _ h => h.elim), lV, dV⟩
    · rintro e C ⟨⟨v, rfl⟩, hx, hl, hd⟩
      have hr := run_endLoop (P := P) hl (by rw [hrec]; simp)
      refine ⟨some (.exit x), _, by rw [hrec] at hr; exact hr, ?_⟩
      exact hstop _ _ (Nat.le_refl _) (hIx _ _ hx ((Kept.refl _ C).putObj _ rfl)) ((World.putObj_heap_other (by omega)).trans hd)
/-- what follows is met off the statement's end alone -/
theorem wp_calm {P : Program} {c : Code} {K : Act → World → Prop} {Q : Exit → Act → World → Prop} {a : Act} {w : World} (h : c.wp P (Exit.then K (fun _ _ _ => False)) a w) : c.wp P (Exit.then K Q) a w :=
  (wpIn_wide (n := 0)).1 (wpIn_mono ((wpIn_wide (n := 0)).2 h) (fun e _ _ q => by cases e <;> first | exact q | exact q.elim))
end Go.Proofs.Ytfcbfflkajlhnaa

/- The letters of the fixed point: the program's iterator. Condition: the substitution is valid, its letter growing. -/
namespace Go.Proofs.Ytfcbfflkajlhnaa
open Go.RowKit
attribute [local go_sem] Oper.semAt_some

/-- the i-th letter of the fixed point -/
def fixB (l : List ByteArray) (k i : Nat) : UInt8 := (fixL l k (i + 1)).getD i 97
def encFix (l : List ByteArray) (k i : Nat) : Value := .int .u8 ((fixB l k i).toNat : Int)
section
variable {l : List ByteArray} {k : Nat} (hl : substB l = true) (hk : k < l.length) (hg : growB l k = true)
include hl hk hg
theorem fixB_at (m i : Nat) (h : i < (applyL l (fixL l k m)).length) : (applyL l (fixL l k m))[i] = fixB l k i := by
  have e := pre_take hl hk hg (build_pre m) (i + 1) (by omega)
  unfold fixB
  rw [← e, List.getD_eq_getElem?_getD, List.getElem?_take_of_lt (by omega), List.getElem?_eq_getElem h]
  rfl
theorem fixL_snoc (i : Nat) : fixL l k (i + 1) = fixL l k i ++ [fixB l k i] := by
  have e := pre_take hl hk hg (fixL_pre l k (i + 1)) i (by rw [fixL_length hl hk hg]; omega)
  have h := fixL_length hl hk hg (i + 1)
  have h2 : i < (fixL l k (i + 1)).length := by omega
  have h3 : fixL l k (i + 1) = (fixL l k (i + 1)).take (i + 1) := (List.take_of_length_le (by omega)).symm
  rw [h3, List.take_succ_eq_append_getElem h2, e]
  congr 2
  unfold fixB
  rw [List.getD_eq_getElem?_getD, List.getElem?_eq_getElem h2]
  rfl
theorem fix_step (i : Nat) (h : 1 ≤ i) : ∃ (j : Nat) (hj : j < l.length), (fixB l k i).toNat = 97 + j ∧ applyL l (fixL l k (i + 1)) = applyL l (fixL l k i) ++ l[j].data.toList := by
  obtain ⟨i', rfl⟩ : ∃ i', i = i' + 1 := ⟨i - 1, by omega⟩
  obtain ⟨h1, j, hj, h2, h3⟩ := build_step hl hk hg i'
  exact ⟨j, hj, by rw [← fixB_at hl hk hg (i' + 1) (i' + 1) h1]; exact h2, h3⟩
theorem fixL_len8 (m : Nat) : (applyL l (fixL l k m)).length ≤ 8 * m := by
  have := applyL_le hl (fixL l k m)
  rwa [fixL_length hl hk hg] at this
end

set_option maxRecDepth 100000 in
set_option maxHeartbeats 1000000 in
theorem fixStreams (l : List ByteArray) (k : Nat) (X : Nat → Prop) (N pt pg g cp S : Nat) (w : World) (hl : substB l = true) (hk : k < l.length) (hg : growB l k = true) (hN : N ≤ 10002)
    (hpg : w.cell? ⟨pg, 0, none⟩ = some (.int .u8 (97 + (k : Int)))) (hpt : w.cell? ⟨pt, 0, none⟩ = some (.slice (some ⟨g, 0, none⟩) l.length cp))
    (hat : ImgTab w S g l) (hx1 : ¬ X pt) (hx2 : ¬ X g) (hx3 : ∀ j, j < l.length → ¬ X (S + j)) (hx4 : ∀ q, w.heap.size ≤ q → ¬ X q) :
    Streams Try.prog 125 #[.pointer (some ⟨pt, 0, none⟩), .pointer (some ⟨pg, 0, none⟩)] (encFix l k) X True N w := by
  intro lp J Jx W hW hl1 hl2 hab hy h0
  obtain ⟨hm1, hm4, hm5⟩ := subst_parts hl
  have c1 := (hW.cell (World.block_lt_of_cell? w _ hpg)).trans hpg
  have c2 := (hW.cell (World.block_lt_of_cell? w _ hpt)).trans hpt
  have n2 : pt ≠ lp ∧ pt < W.heap.size := by have : pt < w.heap.size := World.block_lt_of_cell? w ⟨pt, 0, none⟩ hpt; omega
  have HAT : Hid (ImgTab W S g l) := hat.below hW
  have n3 : g ≠ lp ∧ g < W.heap.size := by have : g < w.heap.size := World.block_lt_of_cell? w ⟨g, 0, none⟩ (hat 0 (by omega)).1; omega
  have n4 : Hid (∀ j, j < l.length → S + j ≠ lp ∧ S + j < W.heap.size) := fun j hj => by have : S + j < w.heap.size := World.block_lt_of_cell? w ⟨S + j, 0, none⟩ (hat j hj).2; omega
  have n5 : Hid (∀ q, W.heap.size ≤ q → ¬ (X q ∨ q = lp)) := fun q hq h => by
    have := hW.size
    rcases h with h | h
    · exact hx4 q (by omega) h
    · omega
  have HY := Lib.hid hy
  have HC2 := Lib.hid c2
  have HAB := Lib.hid hab
  have g0 := (HAT.out k hk).1
  have g1 := (HAT.out k hk).2
  have HI := Lib.hid hm5
  have HX3 := Lib.hid hx3
  have HX4 := Lib.hid hx4
  unfold clo at g0
  have hsk := (img_parts (hm5 k hk)).2.1
  have e1 := build_one hl hk hg
  have HLI := Lib.hid (fun w => letterAt (97 + (k : Int)) (k : Int) w (by omega) (by omega) (by omega))
  have HAP := Lib.hid (implAppendText l[k] (S + k) W.heap.size (.slice none 0 0) 0 [] W.drew g1 (World.ownsRow_nil _ _ _ _) (by omega) (by omega) (by simp))
  have b1 : (k : Int) < (l.length : Int) := by omega
  clear hpg hpt hat hl1 hl2 hab hy hm5 hx3 hx4
  refine callsIn_of_wp Try.func125 rfl trivial ?_ rfl
  simp only [Try.ntmps125, List.size_toArray, List.length_cons, List.length_nil, Nat.reduceAdd, Nat.reduceSub, Array.replicate_succ, Array.replicate_zero, List.push_toArray, List.append_toArray, List.nil_append, List.cons_append]
  refine wpIn_wide.2 ?_
  go_upto_region 0 with (fail)
  go_cut [4] (fun o wx => wx.ownsRow W.heap.size 5 1 o (applyL l (fixL l k 1)).length (byteCells (applyL l (fixL l k 1))) ∧ Kept (fun _ => False) W wx)
  case first =>
    go_region_with (first
      | (go_at_call 78; refine (HLI.out _).mono ?_; rintro e w' ⟨rfl, rfl⟩)
      | (refine HAP.out.mono ?_; rintro e w1 ⟨v1, rfl, ho1, hg1⟩))
    all_goals
      go_wp2_with fail
      go_meet
      refine ⟨?_, ((Kept.refl _ W).drew).grown hg1 (fun q e => by cases e)⟩
      rw [e1]
      have := ho1
      simp only [Nat.zero_add, List.nil_append] at this
      rw [show l[k].data.toList.length = l[k].size by simp]
      exact this
  case rest =>
    obtain ⟨ho0, hk0⟩ := hcut
    obtain ⟨wx, rfl⟩ : ∃ x : World, x = wc := ⟨_, rfl⟩
    clear g0 g1 HAP HLI b1 e1 c1
    have HK0 : Hid (Kept (fun q => (X q ∨ q = lp) ∨ W.heap.size ≤ q) W wx) := hk0.mono fun _ h => h.elim
    have HJ0 : Hid (J 0 wx) := HAB.out 0 W wx h0 (hk0.mono fun _ h => h.elim)
    have HO0 := Lib.hid ho0
    have HB1 := Lib.hid (fun m i h => fixB_at hl hk hg m i h)
    have HB2 := Lib.hid (fun i => build_long hl hk hg i)
    have HB3 := Lib.hid (fun i h => fix_step hl hk hg i h)
    have HB8 := Lib.hid (fun m => fixL_len8 hl hk hg m)
    have HS0 := Lib.hid hk0.size
    clear ho0 hk0 h0 hsk
    go_wp2_with fail
    go_loopg [4, 5] N (fun mm o ix wr => ∃ i m, i + mm = N ∧ ((i = 0 ∧ m = 1) ∨ (1 ≤ i ∧ m = i)) ∧ ix = .int .i64 (i : Int) ∧ wr.ownsRow W.heap.size 5 1 o (applyL l (fixL l k m)).length (byteCells (applyL l (fixL l k m))) ∧ J i wr ∧ Kept (fun q => (X q ∨ q = lp) ∨ W.heap.size ≤ q) W wr)
    case atStart => exact ⟨0, 1, by omega, .inl ⟨rfl, rfl⟩, rfl, HO0.out, HJ0.out, HK0.out⟩
    case round =>
      obtain ⟨i, m, him, hmi, rfl, ho, hj, hkp⟩ := hrel
      obtain ⟨hlt, fn, tmps, assign, body, hy, hR⟩ := HY.out i _ hj
      have hlen : i < (applyL l (fixL l k m)).length := by
        rcases hmi with h | h
        · have := HB2.out 0
          rw [h.2]
          rw [show 0 + 1 = 1 from rfl] at this
          omega
        · have := HB2.out (i - 1)
          rw [show i - 1 + 1 = m by omega] at this
          omega
      have hfb := HB1.out m i hlen
      have h8 := HB8.out m
      have HM : Hid (m ≤ i + 1) := by show m ≤ i + 1; omega
      have HHIM := Lib.hid him
      have HR := Lib.hid hR
      have HKP := Lib.hid hkp
      have HPF : Hid (1 ≤ i → ∃ (j : Nat) (hj : j < l.length), (fixB l k i).toNat = 97 + j ∧ applyL l (fixL l k (i + 1)) = applyL l (fixL l k i) ++ l[j].data.toList) := HB3.out i
      unfold encFix at hy
      have HP : Hid (∃ p, applyL l (fixL l k m) = p) := ⟨_, rfl⟩
      obtain ⟨p, hp⟩ := HP.out
      rw [hp] at hlen ho h8
      have hpi : p[i] = fixB l k i := by rw [← hfb]; congr 1; exact hp.symm
      have HPP := Lib.hid hp
      clear hfb hR hkp hp HP
      obtain ⟨gr, cp', rfl, hcap⟩ := own_some ho (by omega)
      have gi := ho.cells (g := gr) rfl i (.int .u8 (p[i].toNat : Int)) (by simp [byteCells, List.getElem?_eq_getElem hlen])
      rw [hpi, Addr.add_lit, Nat.zero_add] at gi
      have hgr : W.heap.size ≤ gr := (ho.lt gr (by simp [Value.ownBlock])).1
      have HO := Lib.hid ho
      have bi : (i : Int) < (p.length : Int) := by omega
      have HNX : Hid (∀ q, (Value.slice (some ⟨gr, 0, none⟩) p.length cp').ownBlock = some q → ¬ (X q ∨ q = lp)) := fun q e => by
        simp [Value.ownBlock] at e
        exact n5.out q (by omega)
      have hiN : i ≤ 10002 := by omega
      rcases hmi with hi | hi
      · have HI0 := Lib.hid hi
        have d1 : ¬ 0 < i := by omega
        have d2 : decide (0 < i) = false := by simp; omega
        clear hi ho him
        refine (wpIn_wide (n := 8)).1 ?_
        gi_wp2
        refine HR.out.mono ?_
        rintro e W3 (⟨rfl, hJ3, hk3⟩ | ⟨rfl, hJx3⟩)
        · have HO3 : Hid (W3.ownsRow W.heap.size 5 1 (.slice (some ⟨gr, 0, none⟩) p.length cp') p.length (byteCells p)) := hk3.row HO.out HNX.out
          have HK3 : Hid (Kept (fun q => (X q ∨ q = lp) ∨ W.heap.size ≤ q) W W3) := HKP.out.trans (hk3.mono fun q h => .inl h)
          have HJ3 := Lib.hid hJ3
          clear hk3 hJ3
          gi_wp2
          go_roundg (gk - 1)
          case rel =>
            obtain ⟨h1, h2⟩ := HI0.out
            have h3 := HHIM.out
            refine ⟨i + 1, m, by omega, .inr ⟨by omega, by omega⟩, by go_num, ?_, HJ3.out, HK3.out⟩
            rw [HPP.out]
            exact HO3.out
          case measure => have h3 := HHIM.out; omega
        · gi_wp2
          go_end0
          exact ⟨⟨_, rfl⟩, hJx3⟩
      · have HI0 := Lib.hid hi
        obtain ⟨j, hjl, hbj, hnext⟩ := HPF.out hi.1
        have d1 : 0 < i := hi.1
        have d2 : decide (0 < i) = true := by simp; omega
        have HNEXT : Hid (applyL l (fixL l k (m + 1)) = p ++ l[j].data.toList) := by
          show _ = _
          rw [hi.2, hnext, ← hi.2, HPP.out]
        have hsj := (img_parts (HI.out j hjl)).2.1
        have HBJ := Lib.hid hbj
        clear hi ho him hnext hbj
        refine (wpIn_wide (n := 8)).1 ?_
        gi_wp2
        refine HR.out.mono ?_
        rintro e W3 (⟨rfl, hJ3, hk3⟩ | ⟨rfl, hJx3⟩)
        · have ho3 : W3.ownsRow W.heap.size 5 1 (.slice (some ⟨gr, 0, none⟩) p.length cp') p.length (byteCells p) := hk3.row HO.out HNX.out
          have HK3 : Hid (Kept (fun q => (X q ∨ q = lp) ∨ W.heap.size ≤ q) W W3) := HKP.out.trans (hk3.mono fun q h => .inl h)
          have HJ3 := Lib.hid hJ3
          have gi3 := ho3.cells (g := gr) rfl i (.int .u8 (p[i].toNat : Int)) (by simp [byteCells, List.getElem?_eq_getElem hlen])
          rw [hpi, Addr.add_lit, Nat.zero_add] at gi3
          have t3 : W3.cell? ⟨pt, 0, none⟩ = some (.slice (some ⟨g, 0, none⟩) l.length cp) := HK3.out.cell HC2.out (by simp [hx1]; omega)
          have t4 := HK3.out.cell (HAT.out j hjl).1 (by simp [hx2]; omega)
          have t5 := HK3.out.cell (HAT.out j hjl).2 (by have := n4.out j hjl; simp [HX3.out j hjl]; omega)
          unfold clo at t4
          have hs3 : W.heap.size ≤ W3.heap.size := HK3.out.size
          have HLI := Lib.hid (fun w => letterAt ((fixB l k i).toNat : Int) (j : Int) w (by have := HBJ.out; omega) (by omega) (by omega))
          have HAP := Lib.hid (implAppendText l[j] (S + j) W.heap.size (.slice (some ⟨gr, 0, none⟩) p.length cp') p.length p W3.drew t5 ho3.drew (by have := HM.out; omega) (by omega) (by simpa using hs3))
          have bj : (j : Int) < (l.length : Int) := by omega
          clear hk3 hJ3 ho3
          gi_wp2
          refine wpIn_wide.2 ?_
          go_region_with (first
            | (go_at_call 78; refine (HLI.out _).mono ?_; rintro e w' ⟨rfl, rfl⟩)
            | (refine HAP.out.mono ?_; rintro e w1 ⟨v1, rfl, ho1, hg1⟩))
          all_goals
            have HOX := Lib.hid ho1
            have HKX : Hid (Kept (fun q => W.heap.size ≤ q) W3 w1) := ((Kept.refl _ W3).drew).grown hg1 (fun q e => (HO.out.lt q e).1)
            clear ho1 hg1 t3 t4 t5 gi3
            go_wp2_with fail
            gi_wp2
            go_roundg (gk - 1)
            case rel =>
              obtain ⟨h1, h2⟩ := HI0.out
              have h3 := HHIM.out
              refine ⟨i + 1, m + 1, by omega, .inr ⟨by omega, by omega⟩, by go_num, ?_, HAB.out _ _ _ HJ3.out (HKX.out.mono fun q h => ⟨trivial, h⟩), HK3.out.trans (HKX.out.mono fun q h => .inr h)⟩
              rw [HNEXT.out, List.length_append, show l[j].data.toList.length = l[j].size by simp]
              exact HOX.out
            case measure => have h3 := HHIM.out; omega
        · gi_wp2
          go_end0
          exact ⟨⟨_, rfl⟩, hJx3⟩
end Go.Proofs.Ytfcbfflkajlhnaa
