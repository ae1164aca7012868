/- Texts put together. -/
import Derived.Test.YtiglikdanhfhfaaMga23
import Derived.Test.YtiglikdanhfhfaaMga19
import Derived.Test.YtiglikdanhfhfaaMga20
import Derived.Test.YtiglikdanhfhfaaMga9
import Derived.Test.YtiglikdanhfhfaaMga17
import Derived.Test.YtiglikdanhfhfaaChecked
import Derived.Test.YtiglikdanhfhfaaMga1
import Derived.Deep.QuietTactic
import Derived.BigQuiet
/- The program's IsClosedUnderTurn. Condition: a text of at most 2^20 bytes. -/
namespace Go.Proofs.Ytiglikdanhfhfaa
open Go.RowKit

/-- the keys that are no longer to come have their turned word, too -/
def Turned (L M : List FK) : Prop := ∀ p ∈ L, p ∉ M → (turnS p.1, (0 : Int)) ∈ L
theorem turned_start (L : List FK) : Turned L L := fun _ hp hn => absurd hp hn
theorem turned_next {L M M' : List FK} {p : FK} (h : Turned L M) (hM : Dels M' M p) (ht : (turnS p.1, (0 : Int)) ∈ L) : Turned L M' := fun q hq hn => by
  by_cases e : q = p
  · subst e; exact ht
  · exact h q hq fun hh => hn ((hM q).2 ⟨hh, e⟩)
theorem fac_in {s : ByteArray} {n i : Nat} {L : List FK} (h : SetIs L (facS s n i)) (x : ByteArray) : x ∈ facTo s n i ↔ (x, (0 : Int)) ∈ L := by
  rw [facTo_mem, h]
  constructor
  · rintro ⟨j, hj, rfl⟩; exact ⟨j, hj, rfl⟩
  · rintro ⟨j, hj, e⟩; exact ⟨j, hj, congrArg Prod.fst e⟩
theorem fac_flat {s : ByteArray} {n i : Nat} {L : List FK} (h : SetIs L (facS s n i)) {p : FK} (hp : p ∈ L) : p = (p.1, (0 : Int)) := by
  obtain ⟨j, _, e⟩ := (h p).1 hp
  rw [e]
theorem cuB_iff (s : ByteArray) (n : Nat) : cuB s n = true ↔ ∀ f ∈ facTo s n (s.size + 1 - n), turnS f ∈ facTo s n (s.size + 1 - n) := by unfold cuB; simp
theorem turned_end {s : ByteArray} {n : Nat} {L : List FK} (h : SetIs L (facS s n (s.size + 1 - n))) (ht : Turned L []) : cuB s n = true :=
  (cuB_iff s n).2 fun f hf => (fac_in h _).2 (ht _ ((fac_in h f).1 hf) (by simp))
theorem turned_not {s : ByteArray} {n : Nat} {L : List FK} (h : SetIs L (facS s n (s.size + 1 - n))) {p : FK} (hp : p ∈ L) (ht : (turnS p.1, (0 : Int)) ∉ L) : cuB s n = false := by
  cases hx : cuB s n
  · rfl
  · rw [fac_flat h hp] at hp
    exact absurd ((fac_in h _).1 ((cuB_iff s n).1 hx _ ((fac_in h _).2 hp))) ht
theorem fac_size {s : ByteArray} {n : Nat} {L : List FK} (h : SetIs L (facS s n (s.size + 1 - n))) {p : FK} (hp : p ∈ L) : p.1.size ≤ s.size := by
  obtain ⟨j, _, e⟩ := (h p).1 hp
  rw [e]
  show (s.extract j (j + n)).size ≤ _
  rw [ByteArray.size_extract]
  omega

set_option maxRecDepth 100000 in
set_option maxHeartbeats 1000000 in
theorem implIsClosedUnderTurn (s : ByteArray) (n : Int) (w : World) (hs : s.size ≤ 1048576) :
    Calls Try.prog 27 #[.string s, .int .i64 n] w fun e w' => e = .returned (.bool (cuR s n)) ∧ Below w.heap.size w w' := by
  have HV : Hid (cuR s n = (wordB s && ((decide (1 ≤ n) && decide (n ≤ 60)) && cuB s n.toNat))) := rfl
  cases hw : wordB s
  · have HW := Lib.hid hw
    have HR : Hid (cuR s n = false) := by show cuR s n = false; rw [HV.out, hw]; rfl
    clear hw HV
    go_enter Try.func27, Try.ntmps27
    go_wp2_with fail
    refine (implWordOk s _ hs).mono ?_
    rintro e w1 ⟨rfl, hb⟩
    have HB := Lib.hid hb
    rw [HW.out]
    clear hb
    go_wp2_with fail
    go_ret
    exact ⟨ret_bool HR.out.symm, HB.out⟩
  have HW := Lib.hid hw
  by_cases h1 : n < 1
  · have HR : Hid (cuR s n = false) := by show cuR s n = false; rw [HV.out, hw, decide_eq_false (show ¬ 1 ≤ n by omega)]; rfl
    have d1 : decide (n < 1) = true := by simp; omega
    clear hw HV
    go_enter Try.func27, Try.ntmps27
    go_wp2_with fail
    refine (implWordOk s _ hs).mono ?_
    rintro e w1 ⟨rfl, hb⟩
    have HB := Lib.hid hb
    rw [HW.out]
    clear hb
    go_wp2_with fail
    go_ret
    exact ⟨ret_bool HR.out.symm, HB.out⟩
  by_cases h6 : 60 < n
  · have HR : Hid (cuR s n = false) := by show cuR s n = false; rw [HV.out, hw, decide_eq_false (show ¬ n ≤ 60 by omega), Bool.and_false]; rfl
    have d1 : decide (n < 1) = false := by simp; omega
    have d2 : decide (60 < n) = true := by simp; omega
    clear hw HV
    go_enter Try.func27, Try.ntmps27
    go_wp2_with fail
    refine (implWordOk s _ hs).mono ?_
    rintro e w1 ⟨rfl, hb⟩
    have HB := Lib.hid hb
    rw [HW.out]
    clear hb
    go_wp2_with fail
    go_ret
    exact ⟨ret_bool HR.out.symm, HB.out⟩
  obtain ⟨m, rfl⟩ : ∃ m : Nat, n = m := ⟨n.toNat, by omega⟩
  have d1 : decide ((m : Int) < 1) = false := by simp; omega
  have d2 : decide (60 < (m : Int)) = false := by simp; omega
  have HR : Hid (cuR s (m : Int) = cuB s m) := by
    show cuR s (m : Int) = _
    rw [HV.out, hw, decide_eq_true (show (1 : Int) ≤ m by omega), decide_eq_true (show (m : Int) ≤ 60 by omega), Int.toNat_natCast]
    rfl
  have h4 := word_size hw
  have HFA := Lib.hid (fun w => implFactors s m w h4 (by omega) (by omega))
  have hbf := build_f
  clear hw HV
  generalize cuR s (m : Int) = r at HR ⊢
  go_enter Try.func27, Try.ntmps27
  go_wp2_with fail
  refine (implWordOk s _ hs).mono ?_
  rintro e w1 ⟨rfl, hb⟩
  have HB := Lib.hid hb
  rw [HW.out]
  clear hb
  go_wp2_with fail
  refine (HFA.out _).mono ?_
  rintro e w2 ⟨L, rfl, hF, hL, hl4, hb⟩
  have HF := Lib.hid hF
  have HL := Lib.hid hL
  have HB2 : Hid (Below w.heap.size w w2) := HB.out.trans (hb.mono HB.out.size)
  have hbw := hF.lt
  have hb1 := HB.out.size
  clear hF hL hb
  go_wp2_with (at_range; refine wp_range _ rfl _ tSet rfl fk_law uSet w1.heap.size L _ rfl HF.out ?_; intro w3 hF3 hg3 hs3)
  go_frame
  have HF3 := Lib.hid hF3
  have HB3 : Hid (Below w.heap.size w w3) := HB2.out.grown hg3 HB2.out.size (fun k hk => by cases hk)
  have HTS := Lib.hid (turned_start L)
  clear hF3 hg3
  go_loopw [6] (fun _ w' => ∃ M, FRange Try.prog fK 4 w' w1.heap.size w2.heap.size L (fun _ => .bool true) M ∧ Turned L M ∧ Below w.heap.size w w') (fun _ w' => w'.rangeLeft w1.heap.size w2.heap.size)
  case atStart => exact ⟨L, HF3.out, HTS.out, HB3.out⟩
  case round =>
    obtain ⟨M, hF, hT, hb⟩ := hrel
    have HFR := Lib.hid hF
    have HT := Lib.hid hT
    have HBR := Lib.hid hb
    have hrlt := hF.lt
    clear hF hT hb HTS HF3 HB3
    go_wp2_with (at_next; refine wp_step _ rfl _ rfl fT fk_law w1.heap.size w2.heap.size L _ M rfl HFR.out (fun _ => .bool true) vv_bool ?_ ?_)
    · intro hM0
      subst hM0
      have HE := Lib.hid (turned_end HL.out HT.out)
      go_wp2_with fail
      go_ret
      exact ⟨ret_bool (by rw [HR.out, HE.out]), HBR.out⟩
    · intro f z M' w4 hp hM' hl' hF4 hlt hg4 hs4 hen
      have hpL := HFR.out.sub _ hp
      have hfz : f.size ≤ s.size := fac_size HL.out hpL
      have hb4 : Below w.heap.size w w4 := HBR.out.grown hg4 HBR.out.size (fun k hk => by injection hk with hk; omega)
      have HY := Lib.hid (fun h => turned_next HT.out hM' h)
      have HN := Lib.hid (fun h => turned_not HL.out hpL h)
      have HF5 := Lib.hid (hF4.alloc (.cells #[.string f, .int .u8 z] 57))
      have HB5 : Hid (Below w.heap.size w (w4.alloc (.cells #[.string f, .int .u8 z] 57))) := hb4.alloc hb4.size _
      have HLT5 : Hid ((w4.alloc (.cells #[.string f, .int .u8 z] 57)).rangeLeft w1.heap.size w2.heap.size < wr.rangeLeft w1.heap.size w2.heap.size) := by
        show _ < _
        rw [rangeLeft_kept hF4 (World.grownBy_alloc _ _ none) (by simp) (by simp)]
        exact hlt
      have hc1 : (w4.alloc (.cells #[.string f, .int .u8 z] 57)).cell? ⟨wr.heap.size, 0, none⟩ = some (.string f) := by rw [World.cell?_alloc_at _ _ _ _ (by simp [hs4])]; rfl
      have HTU := Lib.hid (fun w => implTurned f w (by omega))
      have HTZ : Hid ((turnS f).size ≤ 400) := by show _ ≤ _; rw [turn_size]; omega
      clear hb4 hp hpL hM' hl' hlt hg4 hF4
      generalize turnS f = t at *
      by_cases hin : (t, (0 : Int)) ∈ L
      · have HX := Lib.hid (HY.out hin)
        have HC : Hid ((t, (0 : Int)) ∈ L) := hin
        clear hin HY HN
        go_wp2_with fail
        refine (HTU.out _).mono ?_
        rintro e w6 ⟨rfl, hb6⟩
        have HF6 := Lib.hid (HF5.out.below hb6)
        have HB6 : Hid (Below w.heap.size w w6) := HB5.out.trans (hb6.mono HB5.out.size)
        have HLT6 : Hid (w6.rangeLeft w1.heap.size w2.heap.size < wr.rangeLeft w1.heap.size w2.heap.size) := by
          show _ < _
          rw [rangeLeft_kept HF5.out (grown_of_below hb6 none) (by simp) (by simp)]
          exact HLT5.out
        clear hb6
        go_wp2_with (at_lookup; refine wp_lookB _ rfl _ _ tSet rfl fT fk_law uSet Try.underlying4 (zeroB _) w1.heap.size L rfl HF6.out.owns (t, (0 : Int)) rfl ⟨by show t.size ≤ maxLen; have := HTZ.out; unfold maxLen; omega, by show (0 : Int) ≤ 0; omega, by show (0 : Int) ≤ 255; omega⟩ true ⟨fun _ => HC.out, fun _ => rfl⟩ ?_)
        go_roundw
        case rel => exact ⟨M', HF6.out, HX.out, HB6.out⟩
        case measure => exact HLT6.out
      · have HX := Lib.hid (HN.out hin)
        have HC : Hid (¬ (t, (0 : Int)) ∈ L) := hin
        clear hin HY HN
        go_wp2_with fail
        refine (HTU.out _).mono ?_
        rintro e w6 ⟨rfl, hb6⟩
        have HF6 := Lib.hid (HF5.out.below hb6)
        have HB6 : Hid (Below w.heap.size w w6) := HB5.out.trans (hb6.mono HB5.out.size)
        clear hb6
        go_wp2_with (at_lookup; refine wp_lookB _ rfl _ _ tSet rfl fT fk_law uSet Try.underlying4 (zeroB _) w1.heap.size L rfl HF6.out.owns (t, (0 : Int)) rfl ⟨by show t.size ≤ maxLen; have := HTZ.out; unfold maxLen; omega, by show (0 : Int) ≤ 0; omega, by show (0 : Int) ≤ 255; omega⟩ false ⟨fun h => Bool.noConfusion h, fun h => absurd h HC.out⟩ ?_)
        go_ret
        exact ⟨ret_bool (by rw [HR.out, HX.out]), HB6.out⟩
end Go.Proofs.Ytiglikdanhfhfaa

/- IsFactor of the program. Conditions: texts of at most 2^20 bytes; the library's own variable holds an integer. -/
namespace Go.Proofs.Ytiglikdanhfhfaa
open Go.RowKit

theorem ext_list (s : ByteArray) (i n : Nat) : (s.extract i (i + n)).data.toList = (s.data.toList.drop i).take n := by
  rw [Lib.extract_data]
  rw [Nat.add_sub_cancel_left]
theorem occ_at (s f : ByteArray) (i : Nat) (hi : i ≤ s.size) : Lib.occAt s.data.toList f.data.toList i = true ↔ At s f i := by
  unfold Lib.occAt At
  rw [List.isPrefixOf_iff_prefix, List.prefix_iff_eq_take]
  have hsl : s.data.toList.length = s.size := by simp
  have hfl : f.data.toList.length = f.size := by simp
  constructor
  · intro h
    have hl := congrArg List.length h
    rw [List.length_take, List.length_drop, hsl, hfl] at hl
    refine ⟨by omega, ?_⟩
    apply bytes_ext
    rw [ByteArray.toList_eq, ByteArray.toList_eq, ext_list, ← hfl]
    exact h.symm
  · rintro ⟨_, h⟩
    rw [hfl, ← ext_list, h]
theorem contains_has (s f : ByteArray) : Lib.contains s.data.toList f.data.toList = hasR s f := by
  have hsl : s.data.toList.length = s.size := by simp
  unfold Lib.contains hasR
  rcases Lib.index_spec s.data.toList f.data.toList with ⟨h1, h2⟩ | ⟨i, h1, h2, h3, _⟩
  · rw [h1, @decide_eq_false _ (Classical.propDecidable _)]
    · rfl
    · rintro ⟨i, hi⟩
      have := h2 i (by have := hi.1; omega)
      rw [(occ_at s f i (by have := hi.1; omega)).2 hi] at this
      cases this
  · rw [h1, @decide_eq_true _ (Classical.propDecidable _) ⟨i, (occ_at s f i (by omega)).1 h3⟩]
    simp

theorem implIsFactor (s f : ByteArray) (m : Int) (w : World) (hm : w.cell? ⟨0, 0, none⟩ = some (.int .i64 m)) (hs : s.size ≤ 1048576) (hf : f.size ≤ 1048576) :
    Calls Try.prog 22 #[.string s, .string f] w fun e w' => e = .returned (.bool (factR s f)) ∧ Below w.heap.size w w' := by
  have HR : Hid (factR s f = (wordB s && (wordB f && hasR s f))) := rfl
  have HM := Lib.hid hm
  clear hm
  cases h1 : wordB s
  · go_enter Try.func22, Try.ntmps22
    go_wp2_with fail
    refine (implWordOk s _ hs).mono ?_
    rintro e w1 ⟨rfl, hb1⟩
    go_wp2_with fail
    go_ret
    exact ⟨ret_bool (by rw [HR.out, h1]; rfl), hb1⟩
  · cases h2 : wordB f
    · go_enter Try.func22, Try.ntmps22
      go_wp2_with fail
      refine (implWordOk s _ hs).mono ?_
      rintro e w1 ⟨rfl, hb1⟩
      go_wp2_with fail
      refine (implWordOk f _ hf).mono ?_
      rintro e w2 ⟨rfl, hb2⟩
      go_wp2_with fail
      go_ret
      exact ⟨ret_bool (by rw [HR.out, h1, h2]; rfl), hb1.trans (hb2.mono hb1.size)⟩
    · go_enter Try.func22, Try.ntmps22
      go_wp2_with fail
      refine (implWordOk s _ hs).mono ?_
      rintro e w1 ⟨rfl, hb1⟩
      go_wp2_with fail
      refine (implWordOk f _ hf).mono ?_
      rintro e w2 ⟨rfl, hb2⟩
      go_wp2_with fail
      have hb := hb1.trans (hb2.mono hb1.size)
      refine (Try.strings_Contains s f m _ (by omega) ((hb.cell (World.block_lt_of_cell? w _ HM.out)).trans HM.out)).mono ?_
      rintro e w3 ⟨rfl, rfl⟩
      go_wp2_with fail
      go_ret
      exact ⟨ret_bool (by rw [HR.out, h1, h2, contains_has]; rfl), hb⟩
end Go.Proofs.Ytiglikdanhfhfaa

/- The model's draws: l01New makes a cursor over the bytes, l01Byte gives a number from 0 to 255 and turns the cursor alone. Condition: the bytes are at most 2^20. -/
namespace Go.Proofs.Ytiglikdanhfhfaa
open Go.RowKit

def bytesV (zs : List Int) : List Value := zs.map (Value.int .u8)
theorem bytesV_length (zs : List Int) : (bytesV zs).length = zs.length := by simp [bytesV]
def IsBytes (zs : List Int) : Prop := zs.length ≤ 1048576 ∧ ∀ z ∈ zs, 0 ≤ z ∧ z ≤ 255
theorem and255 (y : Int) : 0 ≤ bits .and .i64 y 255 ∧ bits .and .i64 y 255 ≤ 255 := by
  have h : (BitVec.ofInt 64 y &&& BitVec.ofInt 64 255).toNat ≤ 255 := by
    rw [BitVec.toNat_and]
    exact Nat.and_le_right
  have e : bits .and .i64 y 255 = IntKind.i64.wrap ((BitVec.ofInt 64 y &&& BitVec.ofInt 64 255).toNat : Int) := rfl
  rw [e, IntWalk.i64_in _ (by omega)]
  omega

theorem Lst.far {w w' : World} {v : Value} {zs : List Int} {g : Nat} (h : Lst w v (bytesV zs)) (hg : w.grownBy w' (some g)) (hne : zs = [] ∨ v.ownBlock ≠ some g) : Lst w' v (bytesV zs) := by
  rcases hne with rfl | hne
  · obtain ⟨A, c, h1, h2, h3, _⟩ := h
    exact ⟨A, c, h1, h2, h3, .inl rfl⟩
  · exact h.grown hg (.inr hne)

/-- the cursor in block g, over the bytes zs that the slice v holds -/
def Cur (w : World) (g : Nat) (v : Value) (zs : List Int) : Prop :=
  ∃ (i : Nat) (h : Int), w.heap[g]? = some (.cells #[v, .int .i64 i, .int .i64 h] 77 (0, 0)) ∧ i ≤ zs.length ∧ Lst w v (bytesV zs) ∧ (zs = [] ∨ v.ownBlock ≠ some g)

theorem Cur.keep {w w' : World} {g : Nat} {v : Value} {zs : List Int} (h : Cur w g v zs) (hk : ∀ b, b < w.heap.size → w'.heap[b]? = w.heap[b]?) : Cur w' g v zs := by
  obtain ⟨i, hh, h1, h2, h3, h4⟩ := h
  have hg : g < w.heap.size := by
    rcases Nat.lt_or_ge g w.heap.size with hl | hl
    · exact hl
    · rw [Array.getElem?_eq_none hl] at h1; cases h1
  refine ⟨i, hh, (hk g hg).trans h1, h2, h3.keep (fun b o u _ hc => ?_), h4⟩
  rw [World.cell?_of_block (w := w) (hk b (World.block_lt_of_cell? w _ hc))]
  exact hc
theorem Cur.below {w w' : World} {g : Nat} {v : Value} {zs : List Int} (h : Cur w g v zs) (hb : Below w.heap.size w w') : Cur w' g v zs := h.keep hb.block

def ByteSaid (g : Nat) (v : Value) (zs : List Int) (w : World) (e : Ending) (w' : World) : Prop := ∃ x : Int, e = .returned (.int .i64 x) ∧ 0 ≤ x ∧ x ≤ 255 ∧ Cur w' g v zs ∧ w.grownBy w' (some g)

theorem row_set {w : World} {g : Nat} {cs : Array Value} {T : TypeId} (hg : w.heap[g]? = some (.cells cs T (0, 0))) (j : Nat) (u : Value) :
    (w.setCell ⟨g, j, none⟩ u).heap[g]? = some (.cells (cs.setIfInBounds j u) T (0, 0)) ∧ w.grownBy (w.setCell ⟨g, j, none⟩ u) (some g) :=
  ⟨heap_setCell_same w g j cs T u hg, ⟨rfl, rfl, rfl, by simp, fun k _ hk => heap_setCell_other w ⟨g, j, none⟩ k u (fun e => hk (by simp [e]))⟩⟩
theorem grown_drewN {a b : World} {row : Option Nat} (h : a.grownBy b row) (n : Nat) : a.grownBy (b.drewN n) row := ⟨h.os, h.tape, h.output, h.size, h.block⟩

set_option maxHeartbeats 1000000 in
theorem l01Byte_any (g : Nat) (v : Value) (zs : List Int) (w : World) (hz : IsBytes zs) (hc : Cur w g v zs) :
    Calls Try.prog 63 #[.pointer (some ⟨g, 0, none⟩)] w (ByteSaid g v zs w) := by
  obtain ⟨i, h, hg, hi, hl, hne⟩ := hc
  obtain ⟨hz1, hz2⟩ := hz
  have c2 : w.cell? ⟨g, 2, none⟩ = some (.int .i64 h) := cell_of_row w g 2 _ _ (0, 0) hg
  have f2 : w.frozen? ⟨g, 2, none⟩ = false := frozen_of_row w g 2 _ _ hg
  have HR := Lib.hid (fun u => row_set hg 2 u)
  have HL := Lib.hid hl
  have HN := Lib.hid hne
  have HZ := Lib.hid hz2
  obtain ⟨A, c, rfl, -, -, -⟩ := hl
  rw [bytesV_length] at HR HL HN ⊢
  clear hg hne hz2
  go_enter Try.func63, Try.ntmps63
  go_wp2_with fail
  generalize wrap64 (wrap64 (h * 6364136223846793005) + 1442695040888963407) = H
  obtain ⟨r1, r2⟩ := HR.out (.int .i64 H)
  have l1 : Lst (w.setCell ⟨g, 2, none⟩ (.int .i64 H)) (.slice A zs.length c) (bytesV zs) := HL.out.far r2 HN.out
  generalize w.setCell ⟨g, 2, none⟩ (.int .i64 H) = w1 at r1 r2 l1 ⊢
  clear c2 f2 HL HR
  have r1' : w1.heap[g]? = some (.cells #[.slice A zs.length c, .int .i64 i, .int .i64 H] 77 (0, 0)) := r1
  have c0 : w1.cell? ⟨g, 0, none⟩ = some (.slice A zs.length c) := cell_of_row w1 g 0 _ _ (0, 0) r1'
  have c1 : w1.cell? ⟨g, 1, none⟩ = some (.int .i64 i) := cell_of_row w1 g 1 _ _ (0, 0) r1'
  have c2 : w1.cell? ⟨g, 2, none⟩ = some (.int .i64 H) := cell_of_row w1 g 2 _ _ (0, 0) r1'
  have f1 : w1.frozen? ⟨g, 1, none⟩ = false := frozen_of_row w1 g 1 _ _ r1'
  have HR := Lib.hid r1'
  have HL := Lib.hid l1
  clear r1 r1' l1
  go_quiet (fail)
  go_wp2_with fail
  obtain ⟨x0, x1⟩ := and255 (bits .xor .i64 (H / 8589934592) (H / 35184372088832))
  generalize bits .and .i64 (bits .xor .i64 (H / 8589934592) (H / 35184372088832)) 255 = x at x0 x1 ⊢
  by_cases hin : i < zs.length
  · obtain ⟨A', c', he, -, -, l2⟩ := HL.out
    replace l2 := l2.resolve_left (by
      intro e
      have := congrArg List.length e
      rw [bytesV_length] at this
      simp only [List.length_nil] at this
      omega)
    obtain ⟨b, off, rfl, l2⟩ := l2
    rw [bytesV_length] at he
    injection he with hA _ _
    subst hA
    have hzi : zs[i]? = some zs[i] := List.getElem?_eq_getElem hin
    obtain ⟨z0, z1⟩ := HZ.out zs[i] (List.getElem_mem hin)
    have g1 : w1.cell? ⟨b, off + i, none⟩ = some (.int .u8 zs[i]) := l2 i _ (by simp [bytesV, hin])
    generalize zs[i] = z at z0 z1 g1
    have e1 : IntKind.i64.wrap (x + z) = x + z := IntWalk.i64_in _ (by omega)
    have e2 : IntKind.i64.wrap z = z := IntWalk.i64_in _ (by omega)
    have HC := Lib.hid hzi
    clear l2 hzi
    go_quiet (fail)
    go_wp2_with fail
    go_quiet (fail)
    go_wp2_with fail
    go_ret
    obtain ⟨y0, y1⟩ := and255 (x + z)
    refine ⟨_, rfl, y0, y1, ⟨i + 1, H, ?_, by omega, ?_, HN.out⟩, ?_⟩
    · exact (row_set (w := World.drewN _ _) HR.out 1 _).1
    · exact Lst.far (w := World.drewN _ _) HL.out (row_set (w := World.drewN _ _) HR.out 1 _).2 HN.out
    · exact grown_trans (grown_drewN r2 _) (row_set (w := World.drewN _ _) HR.out 1 _).2
  · go_quiet (fail)
    go_wp2_with fail
    go_ret
    exact ⟨x, rfl, x0, x1, ⟨i, H, HR.out, hi, HL.out, HN.out⟩, grown_drewN (grown_drewN r2 _) _⟩

theorem Cur.ptr {w : World} {g : Nat} {v : Value} {zs : List Int} (h : Cur w g v zs) : g < w.heap.size := by
  obtain ⟨_, _, h1, _⟩ := h
  rcases Nat.lt_or_ge g w.heap.size with hl | hl
  · exact hl
  · rw [Array.getElem?_eq_none hl] at h1; cases h1

def NewSaid (v : Value) (zs : List Int) (w : World) (e : Ending) (w' : World) : Prop := ∃ g : Nat, e = .returned (.pointer (some ⟨g, 0, none⟩)) ∧ w.heap.size ≤ g ∧ Cur w' g v zs ∧ Below w.heap.size w w'

set_option maxRecDepth 100000 in
set_option maxHeartbeats 1000000 in
theorem l01New_any (v : Value) (zs : List Int) (w : World) (hz : IsBytes zs) (hl : Lst w v (bytesV zs)) :
    Calls Try.prog 62 #[v] w (NewSaid v zs w) := by
  obtain ⟨hz1, hz2⟩ := hz
  have HL := Lib.hid hl
  have HZ := Lib.hid hz2
  obtain ⟨A, c, rfl, -, -, hA⟩ := hl
  rw [bytesV_length] at HL ⊢
  have HA : Hid (∀ k (hk : k < zs.length), ∃ b off, A = some ⟨b, off, none⟩ ∧ b < w.heap.size ∧ w.cell? ⟨b, off + k, none⟩ = some (.int .u8 zs[k])) := by
    intro k hk
    replace hA := hA.resolve_left (by
      intro e
      have := congrArg List.length e
      rw [bytesV_length] at this
      simp only [List.length_nil] at this
      omega)
    obtain ⟨b, off, rfl, l2⟩ := hA
    have hc := l2 k (.int .u8 zs[k]) (by simp [bytesV, hk])
    exact ⟨b, off, rfl, World.block_lt_of_cell? w _ hc, hc⟩
  clear hA hz2
  go_enter Try.func62, Try.ntmps62
  go_wp2_with fail
  go_loop [3, 4] (fun h i => ∃ (k : Nat) (H : Int), k ≤ zs.length ∧ i = .int .i64 k ∧ h = .int .i64 H) (fun _ i => zs.length - (intOf i).toNat)
  case atStart => exact ⟨0, _, by omega, rfl, rfl⟩
  case round =>
    obtain ⟨k, H, hk, rfl, rfl⟩ := hrel
    by_cases hlt : k < zs.length ∧ k < 4000
    · obtain ⟨hlt1, hlt2⟩ := hlt
      obtain ⟨b, off, rfl, -, g1⟩ := HA.out k hlt1
      obtain ⟨z0, z1⟩ := HZ.out zs[k] (List.getElem_mem hlt1)
      generalize zs[k] = z at g1 z0 z1
      have d1 : decide ((k : Int) < zs.length) = true := by simp; omega
      have d2 : decide ((k : Int) < 4000) = true := by simp; omega
      go_wp2_with fail
      go_round
      case rel => exact ⟨k + 1, _, by omega, by go_num, rfl⟩
      case measure => simp [intOf]; omega
    · have hor : ¬ k < zs.length ∨ (k < zs.length ∧ ¬ k < 4000) := by omega
      have hfin : ∀ H : Int, NewSaid (.slice A zs.length c) zs w (.returned (.pointer (some ⟨w.heap.size, 0, none⟩))) (w.alloc (.cells #[.slice A zs.length c, .int .i64 0, .int .i64 H] 77)) := by
        intro H
        refine ⟨w.heap.size, rfl, Nat.le_refl _, ⟨0, H, heap_alloc_new w _, by omega, HL.out.below ((Below.refl _ _).alloc (Nat.le_refl _) _), ?_⟩, (Below.refl _ _).alloc (Nat.le_refl _) _⟩
        by_cases h0 : 0 < zs.length
        · obtain ⟨b, off, rfl, hb, _⟩ := HA.out 0 h0
          refine .inr ?_
          simp only [Value.ownBlock, ne_eq, Option.some.injEq]
          omega
        · exact .inl (List.eq_nil_of_length_eq_zero (by omega))
      have HF := Lib.hid hfin
      clear hfin hlt
      rcases hor with h1 | ⟨h1, h2⟩
      · go_wp2_with fail
        go_ret
        exact HF.out H
      · have d1 : decide ((k : Int) < zs.length) = true := by simp; omega
        have d2 : decide ((k : Int) < 4000) = false := by simp; omega
        go_wp2_with fail
        go_ret
        exact HF.out H
end Go.Proofs.Ytiglikdanhfhfaa

/- More of the model's draws: l01Below, l01Str, l31New, MakeNum, MakeText: what they give is in range; nothing old turns. Condition: the bytes are at most 2^20. -/
namespace Go.Proofs.Ytiglikdanhfhfaa
open Go.RowKit

def BelowSaid (g : Nat) (v : Value) (zs : List Int) (n : Int) (w : World) (e : Ending) (w' : World) : Prop := ∃ x : Int, e = .returned (.int .i64 x) ∧ 0 ≤ x ∧ x < n ∧ Cur w' g v zs ∧ w.grownBy w' (some g)
theorem mod_in (x n : Int) (h : 0 < n) : 0 ≤ x % n ∧ x % n < n := ⟨Int.emod_nonneg _ (by omega), Int.emod_lt_of_pos _ h⟩

set_option maxHeartbeats 400000 in
theorem l01Below_small (g : Nat) (v : Value) (zs : List Int) (n : Int) (w : World) (hz : IsBytes zs) (hc : Cur w g v zs) (h0 : 0 < n) (h1 : n ≤ 256) :
    Calls Try.prog 59 #[.pointer (some ⟨g, 0, none⟩), .int .i64 n] w (BelowSaid g v zs n w) := by
  have HB := Lib.hid (l01Byte_any g v zs w hz hc)
  have HM := Lib.hid (fun x => mod_in x n h0)
  clear hz hc
  go_enter Try.func59, Try.ntmps59
  go_wp2_with fail
  refine HB.out.mono ?_
  rintro e w1 ⟨x, rfl, x0, x1, hc1, hg1⟩
  have HC := Lib.hid hc1
  clear hc1
  go_wp2_with fail
  go_ret
  exact ⟨x % n, rfl, (HM.out x).1, (HM.out x).2, HC.out, hg1⟩

def StrSaid (g : Nat) (v : Value) (zs : List Int) (L : List ByteArray) (w : World) (e : Ending) (w' : World) : Prop := ∃ s : ByteArray, s ∈ L ∧ e = .returned (.string s) ∧ Cur w' g v zs ∧ w.grownBy w' (some g)

set_option maxHeartbeats 400000 in
theorem l31New_any (v : Value) (zs : List Int) (n : Int) (w : World) (hz : IsBytes zs) (hl : Lst w v (bytesV zs)) (h0 : 0 ≤ n) (h1 : n ≤ 1048576) :
    Calls Try.prog 41 #[v, .int .i64 n] w (NewSaid v zs w) := by
  have HN := Lib.hid (l01New_any v zs w hz hl)
  have HZ := Lib.hid hz
  obtain ⟨m, rfl⟩ := Int.eq_ofNat_of_zero_le h0
  obtain ⟨A, c, rfl, -, -, -⟩ := hl
  rw [bytesV_length] at HN ⊢
  clear hz
  go_enter Try.func41, Try.ntmps41
  go_wp2_with fail
  refine HN.out.mono ?_
  rintro e w1 ⟨g, rfl, hg, hc1, hb1⟩
  have HC := Lib.hid hc1
  clear hc1
  go_wp2_with fail
  go_loopw [6] (fun i w' => ∃ k : Nat, k ≤ m ∧ i = .int .i64 k ∧ Cur w' g (.slice A zs.length c) zs ∧ Below w.heap.size w w') (fun i _ => m - (intOf i).toNat)
  case atStart => exact ⟨0, by omega, rfl, HC.out, hb1⟩
  case round =>
    obtain ⟨k, hk, rfl, hc, hb⟩ := hrel
    have HK := Lib.hid hc
    clear hc
    by_cases hlt : k < m
    · go_wp2_with fail
      refine (l01Byte_any g _ zs _ HZ.out HK.out).mono ?_
      rintro e w2 ⟨x, rfl, x0, x1, hc2, hg2⟩
      have HC2 := Lib.hid hc2
      clear hc2
      go_wp2_with fail
      go_roundw
      case rel => exact ⟨k + 1, by omega, by go_num, HC2.out, hb.grown hg2 hb.size (fun j hj => by cases hj; exact hg)⟩
      case measure => simp [intOf]; omega
    · go_wp2_with fail
      go_ret
      exact ⟨g, rfl, hg, HK.out, hb⟩

def NumSaid (w : World) (e : Ending) (w' : World) : Prop := ∃ x : Int, e = .returned (.int .i64 x) ∧ 0 ≤ x ∧ x ≤ 65535 ∧ Below w.heap.size w w'

end Go.Proofs.Ytiglikdanhfhfaa
