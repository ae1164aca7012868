/- Texts put together. -/
import Derived.Test.YtfcbfflkajlhnaaMgT21
import Derived.Test.YtfcbfflkajlhnaaMgT3
import Derived.Test.YtfcbfflkajlhnaaMgT2
import Derived.Deep.WholeRow
import Derived.Deep.MidRow
import Derived.Laws.CopyOwn
import Derived.Test.YtfcbfflkajlhnaaRows
import Derived.Lib.Hide
import Derived.OwnWalk
import Derived.IntWalk
import Derived.BigRegion
/- ApplySubst and IterateSubst of the program. Conditions: lengths of at most 2^20. -/
namespace Go.Proofs.Ytfcbfflkajlhnaa
open Go.RowKit

set_option maxHeartbeats 1000000 in
theorem implIterateSubst (l : List ByteArray) (v : Value) (s : ByteArray) (n : Int) (w : World) (h : Lst w v (strs l)) (hz : ∀ x ∈ l, x.size ≤ 1048576) (hn : l.length ≤ 1048576) (hs : s.size ≤ 1048576) :
    Calls Try.prog 23 #[.agg #[v], .string s, .int .i64 n] w (PairSaid (itR l s n) (itOk l s n) w) := by
  obtain ⟨A, cp, rfl⟩ := lst_slice h
  rw [strs_length] at h ⊢
  have hb0 : Below w.heap.size w (w.alloc (.cells #[.slice A l.length cp] 25)) := (Below.refl _ _).alloc (Nat.le_refl _) _
  have HL := Lib.hid (h.below hb0)
  have HZ := Lib.hid hz
  have HB0 := Lib.hid hb0
  clear h hz hb0
  by_cases h1 : substB l = true
  · obtain ⟨hl1, hl4, _⟩ := subst_parts h1
    have H1 := Lib.hid h1
    by_cases h2 : (wordB s && withinB l.length s) = true
    · have H2 := Lib.hid h2
      by_cases h3 : n < 0
      · have d1 : decide (n < 0) = true := by simpa using h3
        have HNO : Hid (itOk l s n = false) := by show itOk l s n = false; unfold itOk; rw [decide_eq_false (show ¬ 0 ≤ n by omega)]; simp
        go_enter Try.func23, Try.ntmps23
        go_wp2_with fail
        refine (implSubstOk l _ _ HL.out HZ.out hn).mono ?_
        rintro e w1 ⟨rfl, hb1⟩
        have HB1 : Hid (Below w.heap.size w w1) := HB0.out.trans (hb1.mono (by simp))
        have c0 : w1.cell? ⟨w.heap.size, 0, none⟩ = some (.slice A l.length cp) := (hb1.cell (p := ⟨w.heap.size, 0, none⟩) (by simp)).trans (by go_simp)
        clear hb1
        go_wp2_with fail
        refine (implHasImages A l.length cp s _ hn hs).mono ?_
        rintro e w2 ⟨rfl, hb2⟩
        have HB2 : Hid (Below w.heap.size w w2) := HB1.out.trans (hb2.mono HB1.out.size)
        clear hb2
        go_wp2_with fail
        go_ret2
        exact itR_no HNO.out HB2.out
      · by_cases h4 : 20 < n
        · have d1 : decide (n < 0) = false := by simpa using h3
          have d2 : decide ((20 : Int) < n) = true := by simpa using h4
          have HNO : Hid (itOk l s n = false) := by show itOk l s n = false; unfold itOk; rw [decide_eq_false (show ¬ n ≤ 20 by omega)]; simp
          go_enter Try.func23, Try.ntmps23
          go_wp2_with fail
          refine (implSubstOk l _ _ HL.out HZ.out hn).mono ?_
          rintro e w1 ⟨rfl, hb1⟩
          have HB1 : Hid (Below w.heap.size w w1) := HB0.out.trans (hb1.mono (by simp))
          have c0 : w1.cell? ⟨w.heap.size, 0, none⟩ = some (.slice A l.length cp) := (hb1.cell (p := ⟨w.heap.size, 0, none⟩) (by simp)).trans (by go_simp)
          clear hb1
          go_wp2_with fail
          refine (implHasImages A l.length cp s _ hn hs).mono ?_
          rintro e w2 ⟨rfl, hb2⟩
          have HB2 : Hid (Below w.heap.size w w2) := HB1.out.trans (hb2.mono HB1.out.size)
          clear hb2
          go_wp2_with fail
          go_ret2
          exact itR_no HNO.out HB2.out
        · have d1 : decide (n < 0) = false := by simpa using h3
          have d2 : decide ((20 : Int) < n) = false := by simpa using h4
          have hww : wordB s = true ∧ withinB l.length s = true := by rw [Bool.and_eq_true] at h2; exact h2
          have HWW := Lib.hid hww
          clear hww
          go_enter Try.func23, Try.ntmps23
          go_wp2_with fail
          refine (implSubstOk l _ _ HL.out HZ.out hn).mono ?_
          rintro e w1 ⟨rfl, hb1⟩
          have HB1 : Hid (Below w.heap.size w w1) := HB0.out.trans (hb1.mono (by simp))
          have c0 : w1.cell? ⟨w.heap.size, 0, none⟩ = some (.slice A l.length cp) := (hb1.cell (p := ⟨w.heap.size, 0, none⟩) (by simp)).trans (by go_simp)
          have hz1 : w.heap.size < w1.heap.size := by have := hb1.size; simp at this; omega
          have HL1 := Lib.hid (HL.out.below hb1)
          clear hb1
          go_wp2_with fail
          refine (implHasImages A l.length cp s _ hn hs).mono ?_
          rintro e w2 ⟨rfl, hb2⟩
          have HB2 : Hid (Below w.heap.size w w2) := HB1.out.trans (hb2.mono HB1.out.size)
          have c2 : w2.cell? ⟨w.heap.size, 0, none⟩ = some (.slice A l.length cp) := (hb2.cell (p := ⟨w.heap.size, 0, none⟩) hz1).trans c0
          have HL2 := Lib.hid (HL1.out.below hb2)
          clear hb2 c0
          go_wp2_with fail
          refine (implTable l _ _ HL2.out hl1 hl4).mono ?_
          rintro e w3 ⟨g, S, rfl, ht, hb3⟩
          have HB3 : Hid (Below w.heap.size w w3) := HB2.out.trans (hb3.mono HB2.out.size)
          have HT : Hid (ImgTab w3 S g l) := ht
          clear hb3 ht c2
          go_wp2_with fail
          go_loopw [9, 31] (fun u i w' => ∃ k : Nat, (k : Int) ≤ n ∧ i = .int .i64 k ∧ u = .string (iterS l s k) ∧ iterOk l s k = true ∧ Below w3.heap.size w3 w') (fun _ i _ => (n - intOf i).toNat)
          case atStart => exact ⟨0, by omega, rfl, rfl, rfl, Below.refl _ _⟩
          case round =>
            obtain ⟨k, hk, rfl, rfl, hok, hbk⟩ := hrel
            have hw1 := iter_word H1.out HWW.out.1 HWW.out.2 k hok
            have HW1 := Lib.hid hw1
            have HOK := Lib.hid hok
            have HBK := Lib.hid hbk
            clear hok hbk hw1
            by_cases hlt : (k : Int) < n
            · go_wp2_with fail
              refine (implWrite l g S _ (iterS l s k) wr (ImgTab.below HT.out HBK.out) H1.out HW1.out.1 HW1.out.2).mono ?_
              rintro e w4 ⟨rfl, hb4⟩
              have HB4 : Hid (Below w3.heap.size w3 w4) := HBK.out.trans (hb4.mono HBK.out.size)
              have hsz : (stepS l (iterS l s k)).size ≤ 1048576 := by
                have a := applyL_le H1.out (iterS l s k).data.toList
                have b := word_size HW1.out.1
                rw [stepS_size]
                have : (iterS l s k).data.toList.length = (iterS l s k).size := by simp
                omega
              clear hb4
              go_wp2_with fail
              refine (implOk (stepS l (iterS l s k)) _ hsz).mono ?_
              rintro e w5 ⟨rfl, hb5⟩
              have HB5 : Hid (Below w3.heap.size w3 w5) := HB4.out.trans (hb5.mono HB4.out.size)
              clear hb5
              by_cases h4 : (applyL l (iterS l s k).data.toList).length ≤ 400
              · have hy : wordB (stepS l (iterS l s k)) = true := (step_word H1.out HW1.out.1 HW1.out.2 h4).1
                have HOK2 : Hid (iterOk l s (k + 1) = true) := by show (iterOk l s k && _) = true; rw [HOK.out, decide_eq_true h4]; rfl
                clear h4
                go_wp2_with fail
                go_roundw
                case rel => exact ⟨k + 1, by omega, by go_num, rfl, HOK2.out, HB5.out⟩
                case measure => simp [intOf]; omega
              · have hy : wordB (stepS l (iterS l s k)) = false := word_long (by rw [stepS_size]; omega)
                have HNO : Hid (itOk l s n = false) := by
                  show itOk l s n = false
                  unfold itOk
                  have e1 : iterOk l s (k + 1) = false := by show (iterOk l s k && _) = false; rw [decide_eq_false h4, Bool.and_false]
                  have e2 := iterOk_mono e1 (n.toNat - (k + 1))
                  rw [show k + 1 + (n.toNat - (k + 1)) = n.toNat from by omega] at e2
                  rw [e2, Bool.and_false, Bool.and_false]
                clear h4
                go_wp2_with fail
                go_ret2
                exact itR_no HNO.out (HB3.out.trans (HB5.out.mono HB3.out.size))
            · have hkn : n = (k : Int) := by omega
              have HYES : Hid (itOk l s n = true) := by
                show itOk l s n = true
                unfold itOk
                rw [H1.out, HWW.out.1, HWW.out.2, hkn, Int.toNat_natCast, HOK.out]
                simp
                omega
              have HEQ : Hid (iterS l s k = iterS l s n.toNat) := by show iterS l s k = iterS l s n.toNat; rw [hkn, Int.toNat_natCast]
              clear hkn
              go_wp2_with fail
              go_ret2
              refine ⟨?_, HB3.out.trans (HBK.out.mono HB3.out.size)⟩
              have e2 : itR l s n = iterS l s n.toNat := if_pos HYES.out
              rw [HYES.out, e2, ← HEQ.out]
              rfl
    · have h2' : (wordB s && withinB l.length s) = false := by simpa only [Bool.not_eq_true] using h2
      have HNO : Hid (itOk l s n = false) := by show itOk l s n = false; unfold itOk; rw [h2']; simp
      clear h2
      go_enter Try.func23, Try.ntmps23
      go_wp2_with fail
      refine (implSubstOk l _ _ HL.out HZ.out hn).mono ?_
      rintro e w1 ⟨rfl, hb1⟩
      have HB1 : Hid (Below w.heap.size w w1) := HB0.out.trans (hb1.mono (by simp))
      have c0 : w1.cell? ⟨w.heap.size, 0, none⟩ = some (.slice A l.length cp) := (hb1.cell (p := ⟨w.heap.size, 0, none⟩) (by simp)).trans (by go_simp)
      clear hb1
      go_wp2_with fail
      refine (implHasImages A l.length cp s _ hn hs).mono ?_
      rintro e w2 ⟨rfl, hb2⟩
      have HB2 : Hid (Below w.heap.size w w2) := HB1.out.trans (hb2.mono HB1.out.size)
      clear hb2
      go_wp2_with fail
      go_ret2
      exact itR_no HNO.out HB2.out
  · have HNO : Hid (itOk l s n = false) := by show itOk l s n = false; unfold itOk; rw [show substB l = false by simpa using h1]; simp
    have h1' : substB l = false := by simpa using h1
    clear h1
    go_enter Try.func23, Try.ntmps23
    go_wp2_with fail
    refine (implSubstOk l _ _ HL.out HZ.out hn).mono ?_
    rintro e w1 ⟨rfl, hb1⟩
    have HB1 : Hid (Below w.heap.size w w1) := HB0.out.trans (hb1.mono (by simp))
    clear hb1
    go_wp2_with fail
    go_ret2
    exact itR_no HNO.out HB1.out

theorem it_one (l : List ByteArray) (s : ByteArray) : itOk l s 1 = appOk l s ∧ itR l s 1 = appR l s := by
  have e : itOk l s 1 = appOk l s := by
    unfold itOk appOk
    rfl
  refine ⟨e, ?_⟩
  unfold itR appR
  rw [e]
  rfl

theorem implApplySubst (l : List ByteArray) (v : Value) (s : ByteArray) (w : World) (h : Lst w v (strs l)) (hz : ∀ x ∈ l, x.size ≤ 1048576) (hn : l.length ≤ 1048576) (hs : s.size ≤ 1048576) :
    Calls Try.prog 20 #[.agg #[v], .string s] w (PairSaid (appR l s) (appOk l s) w) := by
  obtain ⟨A, cp, rfl⟩ := lst_slice h
  rw [strs_length] at h ⊢
  have hb0 : Below w.heap.size w (w.alloc (.cells #[.slice A l.length cp] 25)) := (Below.refl _ _).alloc (Nat.le_refl _) _
  have HL := Lib.hid (h.below hb0)
  have HZ := Lib.hid hz
  have HB0 := Lib.hid hb0
  clear h hz hb0
  have HE := Lib.hid (it_one l s)
  go_enter Try.func20, Try.ntmps20
  go_wp2_with fail
  refine (implIterateSubst l _ s 1 _ HL.out HZ.out hn hs).mono ?_
  rintro e w1 ⟨rfl, hb1⟩
  have HB1 : Hid (Below w.heap.size w w1) := HB0.out.trans (hb1.mono (by simp))
  clear hb1
  go_wp2_with fail
  go_ret2
  exact ⟨by rw [HE.out.1, HE.out.2]; rfl, HB1.out⟩
end Go.Proofs.Ytfcbfflkajlhnaa

/- Squares and rows of the program as cells of an array: 17 and 4 of them. -/
namespace Go.Proofs.Ytfcbfflkajlhnaa
open Go.RowKit

/-- the cells of a square: its size, its four rows -/
def sqA (n : Int) (f : Nat → Nat → Int) : Array Value := #[.int .i64 n,
  .int .i64 (f 0 0), .int .i64 (f 0 1), .int .i64 (f 0 2), .int .i64 (f 0 3),
  .int .i64 (f 1 0), .int .i64 (f 1 1), .int .i64 (f 1 2), .int .i64 (f 1 3),
  .int .i64 (f 2 0), .int .i64 (f 2 1), .int .i64 (f 2 2), .int .i64 (f 2 3),
  .int .i64 (f 3 0), .int .i64 (f 3 1), .int .i64 (f 3 2), .int .i64 (f 3 3)]
def rowA (c : Nat → Int) : Array Value := #[.int .i64 (c 0), .int .i64 (c 1), .int .i64 (c 2), .int .i64 (c 3)]
theorem sqA_size (n : Int) (f : Nat → Nat → Int) : (sqA n f).size = 17 := rfl
theorem rowA_size (c : Nat → Int) : (rowA c).size = 4 := rfl
theorem four_cases {k : Nat} (h : k < 4) : k = 0 ∨ k = 1 ∨ k = 2 ∨ k = 3 := by omega
theorem sqA_get (n : Int) (f : Nat → Nat → Int) (i k : Nat) (hi : i < 4) (hk : k < 4) : (sqA n f)[1 + i * 4 + k]? = some (.int .i64 (f i k)) := by
  rcases four_cases hi with rfl | rfl | rfl | rfl <;> rcases four_cases hk with rfl | rfl | rfl | rfl <;> rfl
theorem rowA_get (c : Nat → Int) (k : Nat) (hk : k < 4) : (rowA c)[k]? = some (.int .i64 (c k)) := by
  rcases four_cases hk with rfl | rfl | rfl | rfl <;> rfl
def upd2 (f : Nat → Nat → Int) (i k : Nat) (x : Int) : Nat → Nat → Int := fun a b => if a = i ∧ b = k then x else f a b
def upd1 (c : Nat → Int) (k : Nat) (x : Int) : Nat → Int := fun a => if a = k then x else c a
theorem sqA_set (n : Int) (f : Nat → Nat → Int) (i k : Nat) (x : Int) (hi : i < 4) (hk : k < 4) : (sqA n f).toList.set (1 + i * 4 + k) (.int .i64 x) = (sqA n (upd2 f i k x)).toList := by
  rcases four_cases hi with rfl | rfl | rfl | rfl <;> rcases four_cases hk with rfl | rfl | rfl | rfl <;> rfl
theorem rowA_set (c : Nat → Int) (k : Nat) (x : Int) (hk : k < 4) : (rowA c).toList.set k (.int .i64 x) = (rowA (upd1 c k x)).toList := by
  rcases four_cases hk with rfl | rfl | rfl | rfl <;> rfl
theorem sqA_congr {n : Int} {f g : Nat → Nat → Int} (h : ∀ i k, i < 4 → k < 4 → f i k = g i k) : sqA n f = sqA n g := by
  simp [sqA, h]
theorem rowA_congr {c d : Nat → Int} (h : ∀ k, k < 4 → c k = d k) : rowA c = rowA d := by
  simp [rowA, h]

/-- a block of the call's own that holds these cells, whole -/
def Arr (w : World) (B : Nat) (T : TypeId) (b : Nat) (c : Array Value) : Prop :=
  w.ownsRow B T 1 (.slice (some ⟨b, 0, none⟩) c.size c.size) c.size c.toList
theorem Arr.cell {w : World} {B : Nat} {T : TypeId} {b : Nat} {c : Array Value} (h : Arr w B T b c) (k : Nat) (u : Value) (hu : c[k]? = some u) : w.cell? ⟨b, k, none⟩ = some u := by
  have hk : k < c.size := (Array.getElem?_eq_some_iff.1 hu).1
  have h2 := World.ownsRow.cellAt h k (by omega)
  rw [h2]
  simpa using hu
theorem Arr.frozen {w : World} {B : Nat} {T : TypeId} {b : Nat} {c : Array Value} (h : Arr w B T b c) (k : Nat) : w.frozen? ⟨b, k, none⟩ = false :=
  World.ownsRow.frozenAt h k
theorem Arr.made (w : World) (B : Nat) (T : TypeId) (c : Array Value) (hB : B ≤ w.heap.size) (hm : c.size ≤ maxLen) : Arr (w.alloc (.cells c T)) B T w.heap.size c :=
  World.ownsRow_lit w c c.size hB hm (by omega)
theorem Arr.alloc {w : World} {B : Nat} {T : TypeId} {b : Nat} {c : Array Value} (h : Arr w B T b c) (o : Obj) : Arr (w.alloc o) B T b c := World.ownsRow.alloc h o
theorem Arr.below {w w' : World} {B : Nat} {T : TypeId} {b : Nat} {c : Array Value} (h : Arr w B T b c) (hb : Below w.heap.size w w') : Arr w' B T b c := own_below h hb
theorem Arr.lt {w : World} {B : Nat} {T : TypeId} {b : Nat} {c : Array Value} (h : Arr w B T b c) : B ≤ b ∧ b < w.heap.size := World.ownsRow.lt h b rfl
theorem Arr.set {w : World} {B : Nat} {T : TypeId} {b : Nat} {c c' : Array Value} (h : Arr w B T b c) (k : Nat) (u : Value) (hc : c.toList.set k u = c'.toList) : Arr (w.setCell ⟨b, k, none⟩ u) B T b c' := by
  have hs : c'.size = c.size := by
    have := congrArg List.length hc
    simpa using this.symm
  have := (World.ownsRow.stored h k u).1
  rw [hc] at this
  unfold Arr
  rw [hs]
  exact this
theorem Arr.other {w : World} {B : Nat} {T : TypeId} {b : Nat} {c : Array Value} (h : Arr w B T b c) {a : Addr} (ha : a.block ≠ b) (u : Value) : Arr (w.setCell a u) B T b c :=
  own_setCell2 h (fun k hk => by simp [Value.ownBlock] at hk; omega) u
theorem Arr.load {P : Program} {w : World} {B : Nat} {T : TypeId} {b : Nat} {c : Array Value} (h : Arr w B T b c) (n : Nat) (hn : c.size = n) :
    (loadCellsFrom ⟨b, 0, none⟩ 0 n #[]).run P w = .ok c w := by
  subst hn
  have := run_loadCells_list (P := P) w ⟨b, 0, none⟩ c.toList (fun j v hv => by
    have hadd : (⟨b, 0, none⟩ : Addr).add j = ⟨b, j, none⟩ := by unfold Addr.add; split <;> simp_all
    rw [hadd]
    exact h.cell j v (by simpa using hv))
  simpa [loadCells] using this
theorem Arr.heap {w : World} {B : Nat} {T : TypeId} {b : Nat} {c : Array Value} (h : Arr w B T b c) : w.heap[b]? = some (.cells c T (0, 0)) := by
  rcases h.2 with ⟨h', _⟩ | ⟨g', cap', cur, h', hb, hg, hnc, hcm, hcs, htake⟩
  · simp at h'
  · simp only [Value.slice.injEq, Option.some.injEq, Addr.mk.injEq, and_true, true_and] at h'
    obtain ⟨rfl, rfl⟩ := h'
    have e : cur.toList = c.toList := by
      rw [← htake, List.take_of_length_le]
      simp only [Array.length_toList]
      omega
    rw [hg, Array.toList_inj.1 e]
theorem Arr.row {w : World} {B : Nat} {T : TypeId} {b : Nat} {c c' : Array Value} (h : Arr w B T b c) (hs : c'.size = c.size) : Arr (w.setRow b c') B T b c' := by
  rcases h.2 with ⟨h', _⟩ | ⟨g', cap', cur, h', hb, hg, hnc, hcm, hcs, htake⟩
  · simp at h'
  · simp only [Value.slice.injEq, Option.some.injEq, Addr.mk.injEq, and_true, true_and] at h'
    obtain ⟨rfl, rfl⟩ := h'
    refine ⟨by simp, .inr ⟨b, c'.size, c', rfl, hb, setRow_heap w b _ _ T _ h.heap, Nat.le_refl _, by omega, by omega, ?_⟩⟩
    rw [List.take_of_length_le]
    simp
theorem Arr.store {P : Program} {w : World} {B : Nat} {T : TypeId} {b : Nat} {c c' : Array Value} (h : Arr w B T b c) (hs : c'.size = c.size) (hi : (P.info? T).map (·.size) = some c'.size) (h1 : c'.all (·.oneCell') = true) :
    (storeCells ⟨b, 0, none⟩ c'.toList 0).run P w = .ok () (w.setRow b c') := by
  have := run_storeVar_row (P := P) w b T T c c' h.heap hi hs.symm h1
  cases hq : P.info? T with
  | none => simp [hq] at hi
  | some i =>
    have hs : c'.size = i.size := by simp [hq] at hi; omega
    simpa [storeVar, sizeOf, typeInfo, hq, Value.cells, hs] using this
theorem Arr.otherRow {w : World} {B : Nat} {T : TypeId} {b : Nat} {c : Array Value} (h : Arr w B T b c) {g : Nat} (hg : g ≠ b) (cs : Array Value) : Arr (w.setRow g cs) B T b c := by
  refine World.ownsRow.kept h (row := some g) ⟨rfl, rfl, rfl, by simp, fun k _ hk => setRow_other w g k cs (fun e => hk (by rw [e]))⟩ (.inr ?_)
  intro e
  exact hg (by simpa [Value.ownBlock] using e.symm)
theorem sqA_one (n : Int) (f : Nat → Nat → Int) : (sqA n f).all (·.oneCell') = true := by simp [sqA, Value.oneCell']
theorem rowA_one (c : Nat → Int) : (rowA c).all (·.oneCell') = true := by simp [rowA, Value.oneCell']
theorem sq_size : (Try.prog.info? 78).map (·.size) = some 17 := by kernel_rfl
theorem row_size : (Try.prog.info? 75).map (·.size) = some 4 := by kernel_rfl
/-- the first j numbers of c, then 0 -/
def upTo (c : Nat → Int) (j : Nat) : Nat → Int := fun a => if a < j then c a else 0
theorem upTo_succ (c : Nat → Int) (j : Nat) : upd1 (upTo c j) j (c j) = upTo c (j + 1) := by
  funext a
  unfold upd1 upTo
  by_cases h : a = j
  · subst h; simp
  · have e : (a < j + 1) ↔ a < j := by omega
    simp [h, e]
theorem rowA_upTo (c : Nat → Int) : rowA (upTo c 4) = rowA c := rfl
/-- what a load and a store of a whole array or struct of that type ask of the program -/
def RowType (P : Program) (T : TypeId) (n : Nat) : Prop := ∃ d, P.underlying T = some d ∧ d.isRow = true ∧ (P.info? T).map (·.size) = some n
theorem sq_ty : RowType Try.prog 78 17 := ⟨_, Try.underlying78, rfl, by kernel_rfl⟩
theorem row_ty : RowType Try.prog 75 4 := ⟨_, Try.underlying75, rfl, by kernel_rfl⟩
theorem load_arr {P : Program} {w : World} {ops : Array Oper} {rest : List Oper} {op : Oper} {a : Act} {Q : Exit → Act → World → Prop} (hgd : op.guard = none) (ty : TypeId) (x : Operand) (ho : op.op = .load ty x)
    (b B : Nat) (T : TypeId) (c : Array Value) (hx : a.eval x = .pointer (some ⟨b, 0, none⟩)) (hc : Arr w B T b c) (n : Nat) (ht : RowType P ty n) (hn : c.size = n)
    (h : wpList P ops Q rest (a.put op.dst (.agg c)) w) : wpList P ops Q (op :: rest) a w := by
  obtain ⟨d, hu, hd, hi⟩ := ht
  refine wpList_load_mid hgd ty x ho b 0 hx c.toList d (fun j v hv => ?_) hu hd (by simpa [hn] using hi) (by simpa using h)
  rw [Nat.zero_add]
  exact hc.cell j v (by simpa using hv)
/-- the rows of a square, all at once -/
theorem load_part {P : Program} {w : World} {ops : Array Oper} {rest : List Oper} {op : Oper} {a : Act} {Q : Exit → Act → World → Prop} (hgd : op.guard = none) (ty : TypeId) (x : Operand) (ho : op.op = .load ty x)
    (b o B : Nat) (T : TypeId) (c c' : Array Value) (hx : a.eval x = .pointer (some ⟨b, o, none⟩)) (hc : Arr w B T b c) (n : Nat) (ht : RowType P ty n) (hn : c'.size = n)
    (hp : ∀ j v, c'[j]? = some v → c[o + j]? = some v)
    (h : wpList P ops Q rest (a.put op.dst (.agg c')) w) : wpList P ops Q (op :: rest) a w := by
  obtain ⟨d, hu, hd, hi⟩ := ht
  refine wpList_load_mid hgd ty x ho b o hx c'.toList d (fun j v hv => ?_) hu hd (by simpa [hn] using hi) (by simpa using h)
  exact hc.cell _ v (hp j v (by simpa using hv))
theorem store_arr {P : Program} {w : World} {ops : Array Oper} {rest : List Oper} {op : Oper} {a : Act} {Q : Exit → Act → World → Prop} (hgd : op.guard = none) (T : TypeId) (x y : Operand) (ho : op.op = .store T x y)
    (b B : Nat) (c c' : Array Value) (hx : a.eval x = .pointer (some ⟨b, 0, none⟩)) (hy : a.eval y = .agg c') (hc : Arr w B T b c) (n : Nat) (ht : RowType P T n) (hn : c'.size = n) (hs : c'.size = c.size) (h1 : c'.all (·.oneCell') = true)
    (h : wpList P ops Q rest (a.put op.dst undef) (w.setRow b c')) : wpList P ops Q (op :: rest) a w := by
  obtain ⟨d, hu, hd, hi⟩ := ht
  refine wpList_plain hgd fun _ hK => ?_
  unfold Oper.wp execOp
  have := run_storeVar_row (P := P) w b T T c c' hc.heap (by rw [hi, hn]) hs.symm h1
  simp only [ho, hx, hy, Instr.storeAt, Instr.sureAddr, Sem.run_bind, Sem.run_pure, Result.andThen_ok, this]
  exact hK _ _ h
/-- the block that was made last is overwritten -/
theorem store_new {P : Program} {w : World} {ops : Array Oper} {rest : List Oper} {op : Oper} {a : Act} {Q : Exit → Act → World → Prop} (hgd : op.guard = none) (T : TypeId) (x y : Operand) (ho : op.op = .store T x y)
    (b : Nat) (c c' : Array Value) (hb : w.heap.size = b) (hx : a.eval x = .pointer (some ⟨b, 0, none⟩)) (hy : a.eval y = .agg c') (n : Nat) (ht : RowType P T n) (hn : c'.size = n) (hs : c'.size = c.size) (h1 : c'.all (·.oneCell') = true)
    (h : wpList P ops Q rest (a.put op.dst undef) (w.alloc (.cells c' T))) : wpList P ops Q (op :: rest) a (w.alloc (.cells c T)) := by
  subst hb
  obtain ⟨d, hu, hd, hi⟩ := ht
  refine wpList_plain hgd fun _ hK => ?_
  unfold Oper.wp execOp
  have := run_storeVar_new (P := P) w T c c' (by rw [hi, hn]) hs.symm h1
  simp only [ho, hx, hy, Instr.storeAt, Instr.sureAddr, Sem.run_bind, Sem.run_pure, Result.andThen_ok, this]
  exact hK _ _ h
theorem below_drew {B : Nat} {w0 w : World} (hb : Below B w0 w) : Below B w0 w.drew := hb.drew
theorem below_row {B g : Nat} {w0 w : World} (hb : Below B w0 w) (hg : B ≤ g) (cs : Array Value) : Below B w0 (w.setRow g cs) := below_setRow hb hg cs
/-- the result variable in a block of its own -/
theorem result_arr {P : Program} {w : World} {B : Nat} {T : TypeId} {b n : Nat} {c : Array Value} (ty : TypeId) (hc : Arr w B T b c) (ht : RowType P ty n) (hn : c.size = n) :
    (loadVar ty ⟨b, 0, none⟩).run P w = .ok (.agg c) w := by
  obtain ⟨d, hu, hd, hi⟩ := ht
  exact run_loadVar_row w b T ty c (0, 0) d hc.heap hu (by cases d <;> simp_all) (by rw [hi, hn])
/-- a function whose one result is an array or a struct in a variable -/
theorem post_arr {P : Program} {fn : Func} {R : Ending → World → Prop} {a : Act} {w : World} {B : Nat} {T : TypeId} {b n p : Nat} {c : Array Value} (ty : TypeId) (hr : fn.results = #[.cell p ty]) (hp : a.tmps.getD p undef = .pointer (some ⟨b, 0, none⟩))
    (hc : Arr w B T b c) (ht : RowType P ty n) (hn : c.size = n) (hd : a.defers = []) (h : R (.returned (.agg c)) w) : bodyPost P fn R .ret a w := by
  refine bodyPost_ret (v := .agg c) ?_ hd h
  have hp' : a.tmps[p]?.getD undef = .pointer (some ⟨b, 0, none⟩) := by rw [← Array.getD_eq_getD_getElem?]; exact hp
  simp only [results, hr]
  simp [asAddr, hp', result_arr (P := P) ty hc ht hn]
/-- the sixteen numbers of a square, row by row -/
def rowsA (f : Nat → Nat → Int) : Array Value := #[.int .i64 (f 0 0), .int .i64 (f 0 1), .int .i64 (f 0 2), .int .i64 (f 0 3), .int .i64 (f 1 0), .int .i64 (f 1 1), .int .i64 (f 1 2), .int .i64 (f 1 3), .int .i64 (f 2 0), .int .i64 (f 2 1), .int .i64 (f 2 2), .int .i64 (f 2 3), .int .i64 (f 3 0), .int .i64 (f 3 1), .int .i64 (f 3 2), .int .i64 (f 3 3)]
theorem rows_ty : RowType Try.prog 76 16 := ⟨_, Try.underlying76, rfl, by kernel_rfl⟩
theorem rowPart (n : Int) (f : Nat → Nat → Int) (j : Nat) (v : Value) (h : (rowsA f)[j]? = some v) : (sqA n f)[1 + j]? = some v := by
  have e : (sqA n f).toList.tail = (rowsA f).toList := rfl
  rw [← Array.getElem?_toList] at h ⊢
  rw [← e] at h
  rw [Nat.add_comm]
  simpa using h
theorem index_rows {w : World} {ops : Array Oper} {rest : List Oper} {op : Oper} {a : Act} {Q : Exit → Act → World → Prop} (hgd : op.guard = none) (x y : Operand) (ho : op.op = .index 76 x y)
    (f : Nat → Nat → Int) (i : Nat) (hx : a.eval x = .agg (rowsA f)) (hy : a.eval y = .int .i64 i) (hi : i < 4)
    (h : wpList Try.prog ops Q rest (a.put op.dst (.agg (rowA (f i)))) w) : wpList Try.prog ops Q (op :: rest) a w := by
  refine wpList_plain hgd fun _ hK => ?_
  unfold Oper.wp execOp
  have : (Instr.index 76 (.agg (rowsA f)) (.int .i64 i)).run Try.prog w = .ok (.agg (rowA (f i))) w := by
    rcases four_cases hi with rfl | rfl | rfl | rfl <;> (simp [Instr.index, asIntOf, run_underlying Try.underlying76, part, rowsA, rowA]; try rfl)
  simp only [ho, hx, hy, this, Sem.run_bind, Result.andThen_ok]
  exact hK _ _ h
theorem index_row {w : World} {ops : Array Oper} {rest : List Oper} {op : Oper} {a : Act} {Q : Exit → Act → World → Prop} (hgd : op.guard = none) (T : TypeId) (hT : Try.prog.underlying T = some (.array 4 3)) (x y : Operand) (ho : op.op = .index T x y)
    (c : Nat → Int) (i : Nat) (hx : a.eval x = .agg (rowA c)) (hy : a.eval y = .int .i64 i) (hi : i < 4)
    (h : wpList Try.prog ops Q rest (a.put op.dst (.int .i64 (c i))) w) : wpList Try.prog ops Q (op :: rest) a w := by
  refine wpList_plain hgd fun _ hK => ?_
  unfold Oper.wp execOp
  have : (Instr.index T (.agg (rowA c)) (.int .i64 i)).run Try.prog w = .ok (.int .i64 (c i)) w := by
    rcases four_cases hi with rfl | rfl | rfl | rfl <;> (simp [Instr.index, asIntOf, run_underlying hT, part, rowA]; try rfl)
  simp only [ho, hx, hy, this, Sem.run_bind, Result.andThen_ok]
  exact hK _ _ h
end Go.Proofs.Ytfcbfflkajlhnaa

/- Columns, products and marks of the program's squares. -/
namespace Go.Proofs.Ytfcbfflkajlhnaa
open Go.RowKit
/-- the sum of the first j products of row i of the square and the column -/
def dotF (f : Nat → Nat → Int) (c : Nat → Int) (i : Nat) : Nat → Int
  | 0 => 0
  | j + 1 => dotF f c i j + f i j * c j
/-- each number of the square from -100 to 100, each of the column of at most 10^13 -/
def Small (f : Nat → Nat → Int) (c : Nat → Int) : Prop := ∀ i j, i < 4 → j < 4 → -1000000000000000 ≤ f i j * c j ∧ f i j * c j ≤ 1000000000000000
theorem dotF_small {f : Nat → Nat → Int} {c : Nat → Int} (h : Small f c) (i : Nat) (hi : i < 4) : ∀ j : Nat, j ≤ 4 → -((j : Int) * 1000000000000000) ≤ dotF f c i j ∧ dotF f c i j ≤ (j : Int) * 1000000000000000
  | 0, _ => by simp [dotF]
  | j + 1, hj => by
    have ih := dotF_small h i hi j (by omega)
    have := h i j hi (by omega)
    unfold dotF
    omega
/-- the result's cells while row i is at column j -/
def dotR (f : Nat → Nat → Int) (c : Nat → Int) (i j : Nat) : Nat → Int := fun a => if a < i then dotF f c a 4 else if a = i then dotF f c i j else 0
theorem dotR_at (f : Nat → Nat → Int) (c : Nat → Int) (i j : Nat) : dotR f c i j i = dotF f c i j := by simp [dotR]
theorem dotR_succ (f : Nat → Nat → Int) (c : Nat → Int) (i j : Nat) : upd1 (dotR f c i j) i (dotF f c i j + f i j * c j) = dotR f c i (j + 1) := by
  funext a
  unfold upd1 dotR
  by_cases h : a = i
  · subst h; simp [dotF]
  · simp [h]
theorem dotR_next (f : Nat → Nat → Int) (c : Nat → Int) (i : Nat) : dotR f c i 4 = dotR f c (i + 1) 0 := by
  funext a
  unfold dotR
  by_cases h : a < i
  · rw [if_pos h, if_pos (by omega)]
  · by_cases h2 : a = i
    · subst h2; simp
    · rw [if_neg h, if_neg h2, if_neg (by omega)]
      split <;> rfl

set_option maxHeartbeats 400000 in
theorem implTimesColumn (n : Int) (f : Nat → Nat → Int) (c : Nat → Int) (hsm : Small f c) (w : World) :
    Calls Try.prog 74 #[.agg (sqA n f), .agg (rowA c)] w fun e w' => e = .returned (.agg (rowA fun i => dotF f c i 4)) ∧ Below w.heap.size w w' := by
  have h0 := Arr.made w w.heap.size 78 (sqA n f) (Nat.le_refl _) (by simp [sqA_size, maxLen])
  have HSM := Lib.hid hsm
  have H0 := Lib.hid h0
  clear hsm h0
  go_enter Try.func74, Try.ntmps74
  go_wp2_with (with_reducible refine load_part rfl 76 (.tmp 10) rfl w.heap.size 1 _ _ (sqA n f) (rowsA f) rfl (((H0.out.alloc _).alloc _).alloc _) 16 rows_ty rfl (rowPart n f) ?_)
  go_loopw [12] (fun i w' => ∃ k : Nat, k ≤ 4 ∧ i = .int .i64 k ∧ Arr w' w.heap.size 75 (w.heap.size + 1) (rowA c) ∧ Arr w' w.heap.size 75 (w.heap.size + 1 + 1) (rowA fun _ => 0) ∧ Arr w' w.heap.size 75 (w.heap.size + 1 + 1 + 1) (rowA (dotR f c k 0)) ∧ Below w.heap.size w w') (fun i _ => 4 - (intOf i).toNat)
  case atStart =>
    refine ⟨0, by omega, rfl, ?_, ?_, ?_, ((((Below.refl _ _).alloc (Nat.le_refl _) _).alloc (by simp) _).alloc (by simp; omega) _).alloc (by simp; omega) _⟩
    · have := ((Arr.made (w.alloc (.cells (sqA n f) 78)) w.heap.size 75 (rowA c) (by simp) (by simp [rowA_size, maxLen])).alloc (.cells (rowA fun _ => 0) 75)).alloc (.cells (rowA fun _ => 0) 75)
      simp only [World.size_alloc] at this
      exact this
    · have := (Arr.made ((w.alloc (.cells (sqA n f) 78)).alloc (.cells (rowA c) 75)) w.heap.size 75 (rowA fun _ => 0) (by simp; omega) (by simp [rowA_size, maxLen])).alloc (.cells (rowA fun _ => 0) 75)
      simp only [World.size_alloc] at this
      exact this
    · have := Arr.made (((w.alloc (.cells (sqA n f) 78)).alloc (.cells (rowA c) 75)).alloc (.cells (rowA fun _ => 0) 75)) w.heap.size 75 (rowA fun _ => 0) (by simp; omega) (by simp [rowA_size, maxLen])
      simp only [World.size_alloc] at this
      exact this
  case round =>
    obtain ⟨k, hk, rfl, hcol, hres, hout, hb⟩ := hrel
    obtain ⟨wo, rfl⟩ : ∃ x : World, x = wr := ⟨_, rfl⟩
    have HC := Lib.hid hcol
    have HR := Lib.hid hres
    have HO := Lib.hid hout
    have HB := Lib.hid hb
    clear hcol hres hout hb
    by_cases hlt : k < 4
    · go_wp2_with (first
        | (with_reducible refine index_rows rfl (.tmp 11) (.tmp 12) rfl f k rfl rfl hlt ?_)
        | (with_reducible refine store_new rfl 75 (.tmp 7) (.tmp 15) rfl wo.heap.size _ (rowA (f k)) rfl rfl rfl 4 row_ty rfl rfl (rowA_one _) ?_)
        | (with_reducible refine load_arr rfl 75 (.tmp 7) rfl wo.heap.size _ _ _ rfl (Arr.made wo _ _ _ (Nat.le_refl _) (by simp [rowA_size, maxLen])) 4 row_ty rfl ?_))
      have HC2 := Lib.hid (HC.out.alloc (.cells (rowA (f k)) 75))
      have HR2 := Lib.hid (HR.out.alloc (.cells (rowA (f k)) 75))
      have HO2 := Lib.hid (HO.out.alloc (.cells (rowA (f k)) 75))
      have HB2 := Lib.hid (HB.out.alloc HB.out.size (.cells (rowA (f k)) 75))
      go_loopw [17] (fun i w' => ∃ j : Nat, j ≤ 4 ∧ i = .int .i64 j ∧ Arr w' w.heap.size 75 (w.heap.size + 1) (rowA c) ∧ Arr w' w.heap.size 75 (w.heap.size + 1 + 1) (rowA fun _ => 0) ∧ Arr w' w.heap.size 75 (w.heap.size + 1 + 1 + 1) (rowA (dotR f c k j)) ∧ Below w.heap.size w w') (fun i _ => 4 - (intOf i).toNat)
      case atStart => exact ⟨0, by omega, rfl, HC2.out, HR2.out, HO2.out, HB2.out⟩
      case round =>
        obtain ⟨j, hj, rfl, hcol, hres, hout, hb⟩ := hrel
        obtain ⟨wi, rfl⟩ : ∃ x : World, x = wr := ⟨_, rfl⟩
        have HC := Lib.hid hcol
        have HR := Lib.hid hres
        have HO := Lib.hid hout
        have HB := Lib.hid hb
        by_cases hlt2 : j < 4
        · have g1 := hcol.cell _ _ (rowA_get c j hlt2)
          have g2 := hout.cell _ _ (rowA_get _ k hlt)
          rw [dotR_at] at g2
          have g3 := hout.frozen k
          obtain ⟨p1, p2⟩ := HSM.out k j hlt hlt2
          obtain ⟨p3, p4⟩ := dotF_small HSM.out k hlt j hj
          have e1 : IntKind.i64.wrap (f k j * c j) = f k j * c j := IntWalk.i64_in _ (by omega)
          have e2 : IntKind.i64.wrap (dotF f c k j + f k j * c j) = dotF f c k j + f k j * c j := IntWalk.i64_in _ (by omega)
          clear hcol hres hout hb p1 p2 p3 p4
          go_wp2_with (with_reducible refine index_row rfl 75 Try.underlying75 (.tmp 16) (.tmp 17) rfl (f k) j rfl rfl hlt2 ?_)
          go_region
          go_wp2
          go_roundw
          case rel =>
            refine ⟨j + 1, by omega, by go_num, HC.out.other (by simp <;> omega) _, HR.out.other (by simp <;> omega) _, HO.out.set k _ ?_, below_drew (HB.out.setCell (by simp <;> omega) _)⟩
            rw [rowA_set _ _ _ hlt, dotR_succ]
          case measure => simp [intOf]; omega
        · have hj4 : j = 4 := by omega
          subst hj4
          clear hcol hres hout hb
          go_wp2_with fail
          go_roundw
          case rel => exact ⟨k + 1, by omega, by go_num, HC.out, HR.out, by rw [← dotR_next]; exact HO.out, HB.out⟩
          case measure => simp [intOf]; omega
    · have hk4 : k = 4 := by omega
      subst hk4
      go_wp2_with (first
        | (with_reducible refine load_arr rfl 75 (.tmp 5) rfl (w.heap.size + 1 + 1 + 1) _ _ _ rfl HO.out 4 row_ty rfl ?_)
        | (with_reducible refine store_arr rfl 75 (.tmp 4) (.tmp 33) rfl (w.heap.size + 1 + 1) _ _ (rowA (dotR f c 4 0)) rfl rfl HR.out 4 row_ty rfl rfl (rowA_one _) ?_))
      exact post_arr 75 rfl rfl (HR.out.row (c' := rowA (dotR f c 4 0)) rfl) row_ty rfl rfl ⟨rfl, below_row HB.out (by omega) _⟩
end Go.Proofs.Ytfcbfflkajlhnaa
