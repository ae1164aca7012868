/- Texts put together. -/
import Derived.Test.YtfcbfflkajlhnaaMgU10
import Derived.Test.YtfcbfflkajlhnaaMgU15
import Derived.Test.YtfcbfflkajlhnaaMgU14
import Derived.IntWalk
import Derived.Test.YtfcbfflkajlhnaaMgU11
import Derived.Test.YtfcbfflkajlhnaaMgU3
import Derived.Test.YtfcbfflkajlhnaaMgU2
import Derived.Deep.WholeRow
import Derived.Deep.MidRow
import Derived.Laws.CopyOwn
import Derived.Test.YtfcbfflkajlhnaaRows
import Derived.Lib.Hide
import Derived.OwnWalk
/- Growing letters of the model. Conditions: lengths of at most 2^20. -/
namespace Go.Proofs.Ytfcbfflkajlhnaa
open Go.RowKit

theorem growB_at {l : List ByteArray} {k : Nat} (hk : k < l.length) : growB l k = (decide (1 < l[k].size) && decide (firstN l k = k)) := by
  unfold growB; rw [getD_l hk]
end Go.Proofs.Ytfcbfflkajlhnaa

/- hasFirst, hasImages and SubstOk of the program. Conditions: lengths of at most 2^20. -/
namespace Go.Proofs.Ytfcbfflkajlhnaa
open Go.RowKit

theorem letterAt (n j : Int) (w : World) (h : n = 97 + j) (h1 : 0 ≤ j) (h2 : j ≤ 3) :
    Calls Try.prog 78 #[.int .u8 n] w fun e w' => e = .returned (.int .i64 j) ∧ w = w' := by
  have h3 : 97 ≤ n := by omega
  have h4 : n ≤ 100 := by omega
  have HJ := Lib.hid (show n - 97 = j by omega)
  clear h h1 h2
  go_enter Try.func78, Try.ntmps78
  go_wp2
  go_ret
  exact ⟨ret_int HJ.out, rfl⟩

set_option maxHeartbeats 400000 in
theorem implHasFirst (n : Nat) (s : ByteArray) (w : World) (_ : n ≤ 1048576) (hs : s.size ≤ 1048576) :
    Calls Try.prog 112 #[.string s, .int .i64 n] w fun e w' => e = .returned (.bool (wordB s && withinB n s)) ∧ Below w.heap.size w w' := by
  by_cases h : wordB s = true
  · have h400 := word_size h
    have HW := Lib.hid (word_at h)
    have HR : Hid ((wordB s && withinB n s) = withinB n s) := by show (wordB s && withinB n s) = withinB n s; rw [h]; rfl
    go_enter Try.func112, Try.ntmps112
    go_wp2_with fail
    refine (implOk s _ hs).mono ?_
    rintro e w1 ⟨rfl, hb1⟩
    have HB1 := Lib.hid hb1
    clear hb1
    go_wp2_with fail
    go_loop [11] (fun i => ∃ k : Nat, k ≤ s.size ∧ i = .int .i64 k ∧ (s.data.toList.take k).all (fun c => decide (c.toNat < 97 + n)) = true) (fun i => s.size - (intOf i).toNat)
    case atStart => exact ⟨0, Nat.zero_le _, rfl, rfl⟩
    case round =>
      obtain ⟨k, hk, rfl, ha⟩ := hrel
      have HA := Lib.hid ha
      clear ha
      by_cases hlt : k < s.size
      · obtain ⟨p1, p2⟩ := HW.out k hlt
        obtain ⟨j, hj, hj3⟩ : ∃ j : Nat, s[k].toNat = 97 + j ∧ j ≤ 3 := ⟨s[k].toNat - 97, by omega, by omega⟩
        have HLI := Lib.hid (fun w => letterAt (s[k].toNat : Int) (j : Int) w (by omega) (by omega) (by omega))
        by_cases hc : s[k].toNat < 97 + n
        · have hge : ¬ ((n : Int) ≤ (j : Int)) := by omega
          have d1 : decide ((n : Int) ≤ (j : Int)) = false := by simpa using hge
          have HC := Lib.hid hc
          clear hc p1 p2 hj
          go_wp2_with (go_at_call 78; refine (HLI.out _).mono ?_; rintro e w' ⟨rfl, rfl⟩)
          go_round
          case rel => exact ⟨k + 1, by omega, by go_num, all_snoc s k hlt HA.out (by simpa using HC.out)⟩
          case measure => simp [intOf]; omega
        · have hge : (n : Int) ≤ (j : Int) := by omega
          have d1 : decide ((n : Int) ≤ (j : Int)) = true := by simpa using hge
          have HN : Hid (withinB n s = false) := by
            show withinB n s = false
            exact all_not s k hlt (by simpa using hc)
          clear hc p1 p2 hj
          go_wp2_with (go_at_call 78; refine (HLI.out _).mono ?_; rintro e w' ⟨rfl, rfl⟩)
          go_ret
          exact ⟨ret_bool (by first | rw [HR.out, HN.out] | exact HN.out.symm), HB1.out⟩
      · have hk' : k = s.size := by omega
        have HY : Hid (withinB n s = true) := by
          have := HA.out
          rw [hk', take_all s _ (Nat.le_refl _)] at this
          exact this
        clear hk'
        go_wp2_with fail
        go_ret
        exact ⟨ret_bool (by first | rw [HR.out, HY.out] | exact HY.out.symm), HB1.out⟩
  · have h' : wordB s = false := by simpa using h
    have HR : Hid ((wordB s && withinB n s) = false) := by show (wordB s && withinB n s) = false; rw [h']; rfl
    clear h
    go_enter Try.func112, Try.ntmps112
    go_wp2_with fail
    refine (implOk s _ hs).mono ?_
    rintro e w1 ⟨rfl, hb1⟩
    go_wp2_with fail
    go_ret
    exact ⟨ret_bool HR.out.symm, hb1⟩

theorem implHasImages (A : Option Addr) (n cp : Nat) (s : ByteArray) (w : World) (hn : n ≤ 1048576) (hs : s.size ≤ 1048576) :
    Calls Try.prog 67 #[.agg #[.slice A n cp], .string s] w fun e w' => e = .returned (.bool (wordB s && withinB n s)) ∧ Below w.heap.size w w' := by
  go_enter Try.func67, Try.ntmps67
  go_wp2_with fail
  refine (implHasFirst n s _ hn hs).mono ?_
  rintro e w1 ⟨rfl, hb1⟩
  have hb0 : Below w.heap.size w (w.alloc (.cells #[.slice A n cp] 25)) := (Below.refl _ _).alloc (Nat.le_refl _) _
  have HB := Lib.hid (hb0.trans (hb1.mono (by simp)))
  clear hb0 hb1
  go_wp2_with fail
  go_ret
  exact ⟨rfl, HB.out⟩

theorem size_zero {s : ByteArray} (h : s.size = 0) : s = ⟨#[]⟩ := by
  apply bytes_ext
  rw [ByteArray.toList_eq, ByteArray.toList_eq]
  exact List.eq_nil_of_length_eq_zero (by simpa using h)

set_option maxHeartbeats 1000000 in
theorem implSubstOkL (l : List ByteArray) (v : Value) (w : World) (h : Lst w v (strs l)) (hz : ∀ x ∈ l, x.size ≤ 1048576) (hn : l.length ≤ 2097152) :
    Calls Try.prog 18 #[.agg #[v]] w fun e w' => e = .returned (.bool (substB l)) ∧ Below w.heap.size w w' := by
  obtain ⟨A, cp, rfl⟩ := lst_slice h
  rw [strs_length] at h ⊢
  by_cases hl : 1 ≤ l.length ∧ l.length ≤ 4
  · obtain ⟨hl1, hl4⟩ := hl
    have d1 : decide ((l.length : Int) < 1) = false := by simp; omega
    have d2 : decide ((4 : Int) < (l.length : Int)) = false := by simp; omega
    have hb0 : Below w.heap.size w (w.alloc (.cells #[.slice A l.length cp] 25)) := (Below.refl _ _).alloc (Nat.le_refl _) _
    obtain ⟨A', c', he, hc1, hc2, h1⟩ := h.below hb0
    rw [strs_length] at he hc1
    injection he with hA _ hc
    subst hA; subst hc
    replace h1 := h1.resolve_left (by
      intro e
      have := congrArg List.length e
      rw [strs_length] at this
      simp only [List.length_nil] at this
      omega)
    obtain ⟨b, off, rfl, h1⟩ := h1
    have H1 := Lib.hid (strs_at h1)
    have HZ := Lib.hid hz
    have HB := Lib.hid hb0
    clear h1 hz hc2 hc1 h hb0
    go_enter Try.func18, Try.ntmps18
    go_wp2_with fail
    go_loopw [18] (fun i w' => ∃ k : Nat, k ≤ l.length ∧ i = .int .i64 k ∧ (l.take k).all (imgB l.length) = true ∧ Below (w.heap.size + 1) (w.alloc (.cells #[.slice (some ⟨b, off, none⟩) l.length cp] 25)) w') (fun i _ => l.length - (intOf i).toNat)
    case atStart => exact ⟨0, Nat.zero_le _, rfl, rfl, Below.refl _ _⟩
    case round =>
      obtain ⟨k, hk, rfl, ha, hbk⟩ := hrel
      have HA := Lib.hid ha
      have HBK := Lib.hid hbk
      have hszw : w.heap.size + 1 ≤ wr.heap.size := by have := hbk.size; simpa using this
      have hcw : wr.cell? ⟨w.heap.size, 0, none⟩ = some (.slice (some ⟨b, off, none⟩) l.length cp) := (hbk.cell (p := ⟨w.heap.size, 0, none⟩) (by simp)).trans (by rw [World.cell?_alloc_at _ _ _ _ rfl]; rfl)
      clear ha hbk
      have HE : Hid (Below w.heap.size w wr) := HB.out.trans (HBK.out.mono (by omega))
      by_cases hlt : k < l.length
      · have g1 : wr.cell? ⟨b, off + k, none⟩ = some (.string l[k]) := by
          have hc := H1.out k hlt
          have hlt := World.block_lt_of_cell? _ _ hc
          exact (HBK.out.cell (p := ⟨b, off + k, none⟩) (by simpa using hlt)).trans hc
        have hsz := HZ.out _ (List.getElem_mem hlt)
        by_cases c1 : l[k].size = 0
        · have HN := Lib.hid (subst_no k hlt (img_no1 (by omega)))
          have e1 : (l[k].toList == []) = true := by rw [size_zero c1, ByteArray.toList_eq]; rfl
          clear c1
          go_wp2_with fail
          go_ret
          exact ⟨ret_bool HN.out.symm, HE.out⟩
        · have e1 : (l[k].toList == []) = false := by
            rw [beq_eq_false_iff_ne]
            intro h
            apply c1
            have e : l[k] = ⟨#[]⟩ := bytes_ext (by rw [h, ByteArray.toList_eq])
            rw [e]
            rfl
          by_cases c2 : 8 < l[k].size
          · have HN := Lib.hid (subst_no k hlt (img_no1 (by omega)))
            have e2 : decide ((8 : Int) < l[k].size) = true := by simp; omega
            clear c1
            go_wp2_with fail
            go_ret
            exact ⟨ret_bool HN.out.symm, HE.out⟩
          · have e2 : decide ((8 : Int) < l[k].size) = false := by simp; omega
            have HHI := Lib.hid (fun w => implHasImages (some ⟨b, off, none⟩) l.length cp l[k] w (by omega) hsz)
            by_cases c3 : (wordB l[k] && withinB l.length l[k]) = true
            · have HI : Hid (imgB l.length l[k] = true) := by
                show imgB l.length l[k] = true
                rw [Bool.and_eq_true] at c3
                exact img_yes (by omega) (by omega) c3.1 c3.2
              clear c1
              go_wp2_with fail
              refine (HHI.out _).mono ?_
              rintro e w2 ⟨rfl, hb2⟩
              have HB2 := Lib.hid hb2
              clear hb2
              go_wp2_with fail
              go_roundw
              case rel => exact ⟨k + 1, by omega, by go_num, lall_snoc l k hlt HA.out HI.out, HBK.out.trans (HB2.out.mono hszw)⟩
              case measure => simp [intOf]; omega
            · have HN : Hid (substB l = false) := by
                show substB l = false
                refine subst_no k hlt ?_
                by_cases q : wordB l[k] = true
                · exact img_no3 (by simpa [q] using c3)
                · exact img_no2 (by simpa using q)
              have c3' : (wordB l[k] && withinB l.length l[k]) = false := by simpa only [Bool.not_eq_true] using c3
              clear c1 c3
              go_wp2_with fail
              refine (HHI.out _).mono ?_
              rintro e w2 ⟨rfl, hb2⟩
              have HB2 := Lib.hid hb2
              clear hb2
              go_wp2_with fail
              go_ret
              exact ⟨ret_bool HN.out.symm, HE.out.trans (HB2.out.mono (by omega))⟩
      · have hk' : k = l.length := by omega
        have HY := Lib.hid (subst_yes hl1 hl4 (hk' ▸ HA.out))
        clear hk'
        go_wp2_with fail
        go_ret
        exact ⟨ret_bool HY.out.symm, HE.out⟩
  · have HN := Lib.hid (subst_len hl)
    have hb0 : Below w.heap.size w (w.alloc (.cells #[.slice A l.length cp] 25)) := (Below.refl _ _).alloc (Nat.le_refl _) _
    have HB := Lib.hid hb0
    by_cases hl1 : l.length < 1
    · have d1 : decide ((l.length : Int) < 1) = true := by simp; omega
      clear hl h hz hb0
      go_enter Try.func18, Try.ntmps18
      go_wp2_with fail
      go_ret
      exact ⟨ret_bool HN.out.symm, HB.out⟩
    · have d1 : decide ((l.length : Int) < 1) = false := by simp; omega
      have d2 : decide ((4 : Int) < (l.length : Int)) = true := by simp; omega
      clear h hz hb0
      go_enter Try.func18, Try.ntmps18
      go_wp2_with fail
      go_ret
      exact ⟨ret_bool HN.out.symm, HB.out⟩

theorem implSubstOk (l : List ByteArray) (v : Value) (w : World) (h : Lst w v (strs l)) (hz : ∀ x ∈ l, x.size ≤ 1048576) (hn : l.length ≤ 1048576) :
    Calls Try.prog 18 #[.agg #[v]] w fun e w' => e = .returned (.bool (substB l)) ∧ Below w.heap.size w w' := implSubstOkL l v w h hz (by omega)
end Go.Proofs.Ytfcbfflkajlhnaa

/- Squares and rows of the program as cells of an array: 17 and 4 of them. -/
namespace Go.Proofs.Ytfcbfflkajlhnaa
open Go.RowKit

/-- the cells of a square: its size, its four rows -/
def sqA (n : Int) (f : Nat → Nat → Int) : Array Value := #[.int .i64 n,
  .int .i64 (f 0 0), .int .i64 (f 0 1), .int .i64 (f 0 2), .int .i64 (f 0 3),
  .int .i64 (f 1 0), .int .i64 (f 1 1), .int .i64 (f 1 2), .int .i64 (f 1 3),
  .int .i64 (f 2 0), .int .i64 (f 2 1), .int .i64 (f 2 2), .int .i64 (f 2 3),
  .int .i64 (f 3 0), .int .i64 (f 3 1), .int .i64 (f 3 2), .int .i64 (f 3 3)]
def rowA (c : Nat → Int) : Array Value := #[.int .i64 (c 0), .int .i64 (c 1), .int .i64 (c 2), .int .i64 (c 3)]
theorem sqA_size (n : Int) (f : Nat → Nat → Int) : (sqA n f).size = 17 := rfl
theorem rowA_size (c : Nat → Int) : (rowA c).size = 4 := rfl
theorem four_cases {k : Nat} (h : k < 4) : k = 0 ∨ k = 1 ∨ k = 2 ∨ k = 3 := by omega
theorem sqA_get (n : Int) (f : Nat → Nat → Int) (i k : Nat) (hi : i < 4) (hk : k < 4) : (sqA n f)[1 + i * 4 + k]? = some (.int .i64 (f i k)) := by
  rcases four_cases hi with rfl | rfl | rfl | rfl <;> rcases four_cases hk with rfl | rfl | rfl | rfl <;> rfl
theorem rowA_get (c : Nat → Int) (k : Nat) (hk : k < 4) : (rowA c)[k]? = some (.int .i64 (c k)) := by
  rcases four_cases hk with rfl | rfl | rfl | rfl <;> rfl
def upd2 (f : Nat → Nat → Int) (i k : Nat) (x : Int) : Nat → Nat → Int := fun a b => if a = i ∧ b = k then x else f a b
def upd1 (c : Nat → Int) (k : Nat) (x : Int) : Nat → Int := fun a => if a = k then x else c a
theorem sqA_set (n : Int) (f : Nat → Nat → Int) (i k : Nat) (x : Int) (hi : i < 4) (hk : k < 4) : (sqA n f).toList.set (1 + i * 4 + k) (.int .i64 x) = (sqA n (upd2 f i k x)).toList := by
  rcases four_cases hi with rfl | rfl | rfl | rfl <;> rcases four_cases hk with rfl | rfl | rfl | rfl <;> rfl
theorem rowA_set (c : Nat → Int) (k : Nat) (x : Int) (hk : k < 4) : (rowA c).toList.set k (.int .i64 x) = (rowA (upd1 c k x)).toList := by
  rcases four_cases hk with rfl | rfl | rfl | rfl <;> rfl
theorem sqA_congr {n : Int} {f g : Nat → Nat → Int} (h : ∀ i k, i < 4 → k < 4 → f i k = g i k) : sqA n f = sqA n g := by
  simp [sqA, h]
theorem rowA_congr {c d : Nat → Int} (h : ∀ k, k < 4 → c k = d k) : rowA c = rowA d := by
  simp [rowA, h]

/-- a block of the call's own that holds these cells, whole -/
def Arr (w : World) (B : Nat) (T : TypeId) (b : Nat) (c : Array Value) : Prop :=
  w.ownsRow B T 1 (.slice (some ⟨b, 0, none⟩) c.size c.size) c.size c.toList
theorem Arr.cell {w : World} {B : Nat} {T : TypeId} {b : Nat} {c : Array Value} (h : Arr w B T b c) (k : Nat) (u : Value) (hu : c[k]? = some u) : w.cell? ⟨b, k, none⟩ = some u := by
  have hk : k < c.size := (Array.getElem?_eq_some_iff.1 hu).1
  have h2 := World.ownsRow.cellAt h k (by omega)
  rw [h2]
  simpa using hu
theorem Arr.frozen {w : World} {B : Nat} {T : TypeId} {b : Nat} {c : Array Value} (h : Arr w B T b c) (k : Nat) : w.frozen? ⟨b, k, none⟩ = false :=
  World.ownsRow.frozenAt h k
theorem Arr.made (w : World) (B : Nat) (T : TypeId) (c : Array Value) (hB : B ≤ w.heap.size) (hm : c.size ≤ maxLen) : Arr (w.alloc (.cells c T)) B T w.heap.size c :=
  World.ownsRow_lit w c c.size hB hm (by omega)
theorem Arr.alloc {w : World} {B : Nat} {T : TypeId} {b : Nat} {c : Array Value} (h : Arr w B T b c) (o : Obj) : Arr (w.alloc o) B T b c := World.ownsRow.alloc h o
theorem Arr.below {w w' : World} {B : Nat} {T : TypeId} {b : Nat} {c : Array Value} (h : Arr w B T b c) (hb : Below w.heap.size w w') : Arr w' B T b c := own_below h hb
theorem Arr.lt {w : World} {B : Nat} {T : TypeId} {b : Nat} {c : Array Value} (h : Arr w B T b c) : B ≤ b ∧ b < w.heap.size := World.ownsRow.lt h b rfl
theorem Arr.set {w : World} {B : Nat} {T : TypeId} {b : Nat} {c c' : Array Value} (h : Arr w B T b c) (k : Nat) (u : Value) (hc : c.toList.set k u = c'.toList) : Arr (w.setCell ⟨b, k, none⟩ u) B T b c' := by
  have hs : c'.size = c.size := by
    have := congrArg List.length hc
    simpa using this.symm
  have := (World.ownsRow.stored h k u).1
  rw [hc] at this
  unfold Arr
  rw [hs]
  exact this
theorem Arr.other {w : World} {B : Nat} {T : TypeId} {b : Nat} {c : Array Value} (h : Arr w B T b c) {a : Addr} (ha : a.block ≠ b) (u : Value) : Arr (w.setCell a u) B T b c :=
  own_setCell2 h (fun k hk => by simp [Value.ownBlock] at hk; omega) u
theorem Arr.load {P : Program} {w : World} {B : Nat} {T : TypeId} {b : Nat} {c : Array Value} (h : Arr w B T b c) (n : Nat) (hn : c.size = n) :
    (loadCellsFrom ⟨b, 0, none⟩ 0 n #[]).run P w = .ok c w := by
  subst hn
  have := run_loadCells_list (P := P) w ⟨b, 0, none⟩ c.toList (fun j v hv => by
    have hadd : (⟨b, 0, none⟩ : Addr).add j = ⟨b, j, none⟩ := by unfold Addr.add; split <;> simp_all
    rw [hadd]
    exact h.cell j v (by simpa using hv))
  simpa [loadCells] using this
theorem Arr.heap {w : World} {B : Nat} {T : TypeId} {b : Nat} {c : Array Value} (h : Arr w B T b c) : w.heap[b]? = some (.cells c T (0, 0)) := by
  rcases h.2 with ⟨h', _⟩ | ⟨g', cap', cur, h', hb, hg, hnc, hcm, hcs, htake⟩
  · simp at h'
  · simp only [Value.slice.injEq, Option.some.injEq, Addr.mk.injEq, and_true, true_and] at h'
    obtain ⟨rfl, rfl⟩ := h'
    have e : cur.toList = c.toList := by
      rw [← htake, List.take_of_length_le]
      simp only [Array.length_toList]
      omega
    rw [hg, Array.toList_inj.1 e]
theorem Arr.row {w : World} {B : Nat} {T : TypeId} {b : Nat} {c c' : Array Value} (h : Arr w B T b c) (hs : c'.size = c.size) : Arr (w.setRow b c') B T b c' := by
  rcases h.2 with ⟨h', _⟩ | ⟨g', cap', cur, h', hb, hg, hnc, hcm, hcs, htake⟩
  · simp at h'
  · simp only [Value.slice.injEq, Option.some.injEq, Addr.mk.injEq, and_true, true_and] at h'
    obtain ⟨rfl, rfl⟩ := h'
    refine ⟨by simp, .inr ⟨b, c'.size, c', rfl, hb, setRow_heap w b _ _ T _ h.heap, Nat.le_refl _, by omega, by omega, ?_⟩⟩
    rw [List.take_of_length_le]
    simp
theorem Arr.store {P : Program} {w : World} {B : Nat} {T : TypeId} {b : Nat} {c c' : Array Value} (h : Arr w B T b c) (hs : c'.size = c.size) (hi : (P.info? T).map (·.size) = some c'.size) (h1 : c'.all (·.oneCell') = true) :
    (storeCells ⟨b, 0, none⟩ c'.toList 0).run P w = .ok () (w.setRow b c') := by
  have := run_storeVar_row (P := P) w b T T c c' h.heap hi hs.symm h1
  cases hq : P.info? T with
  | none => simp [hq] at hi
  | some i =>
    have hs : c'.size = i.size := by simp [hq] at hi; omega
    simpa [storeVar, sizeOf, typeInfo, hq, Value.cells, hs] using this
theorem Arr.otherRow {w : World} {B : Nat} {T : TypeId} {b : Nat} {c : Array Value} (h : Arr w B T b c) {g : Nat} (hg : g ≠ b) (cs : Array Value) : Arr (w.setRow g cs) B T b c := by
  refine World.ownsRow.kept h (row := some g) ⟨rfl, rfl, rfl, by simp, fun k _ hk => setRow_other w g k cs (fun e => hk (by rw [e]))⟩ (.inr ?_)
  intro e
  exact hg (by simpa [Value.ownBlock] using e.symm)
theorem sqA_one (n : Int) (f : Nat → Nat → Int) : (sqA n f).all (·.oneCell') = true := by simp [sqA, Value.oneCell']
theorem rowA_one (c : Nat → Int) : (rowA c).all (·.oneCell') = true := by simp [rowA, Value.oneCell']
theorem sq_size : (Try.prog.info? 78).map (·.size) = some 17 := by kernel_rfl
theorem row_size : (Try.prog.info? 75).map (·.size) = some 4 := by kernel_rfl
/-- the first j numbers of c, then 0 -/
def upTo (c : Nat → Int) (j : Nat) : Nat → Int := fun a => if a < j then c a else 0
theorem upTo_succ (c : Nat → Int) (j : Nat) : upd1 (upTo c j) j (c j) = upTo c (j + 1) := by
  funext a
  unfold upd1 upTo
  by_cases h : a = j
  · subst h; simp
  · have e : (a < j + 1) ↔ a < j := by omega
    simp [h, e]
theorem rowA_upTo (c : Nat → Int) : rowA (upTo c 4) = rowA c := rfl
/-- what a load and a store of a whole array or struct of that type ask of the program -/
def RowType (P : Program) (T : TypeId) (n : Nat) : Prop := ∃ d, P.underlying T = some d ∧ d.isRow = true ∧ (P.info? T).map (·.size) = some n
theorem sq_ty : RowType Try.prog 78 17 := ⟨_, Try.underlying78, rfl, by kernel_rfl⟩
theorem row_ty : RowType Try.prog 75 4 := ⟨_, Try.underlying75, rfl, by kernel_rfl⟩
theorem load_arr {P : Program} {w : World} {ops : Array Oper} {rest : List Oper} {op : Oper} {a : Act} {Q : Exit → Act → World → Prop} (hgd : op.guard = none) (ty : TypeId) (x : Operand) (ho : op.op = .load ty x)
    (b B : Nat) (T : TypeId) (c : Array Value) (hx : a.eval x = .pointer (some ⟨b, 0, none⟩)) (hc : Arr w B T b c) (n : Nat) (ht : RowType P ty n) (hn : c.size = n)
    (h : wpList P ops Q rest (a.put op.dst (.agg c)) w) : wpList P ops Q (op :: rest) a w := by
  obtain ⟨d, hu, hd, hi⟩ := ht
  refine wpList_load_mid hgd ty x ho b 0 hx c.toList d (fun j v hv => ?_) hu hd (by simpa [hn] using hi) (by simpa using h)
  rw [Nat.zero_add]
  exact hc.cell j v (by simpa using hv)
/-- the rows of a square, all at once -/
theorem load_part {P : Program} {w : World} {ops : Array Oper} {rest : List Oper} {op : Oper} {a : Act} {Q : Exit → Act → World → Prop} (hgd : op.guard = none) (ty : TypeId) (x : Operand) (ho : op.op = .load ty x)
    (b o B : Nat) (T : TypeId) (c c' : Array Value) (hx : a.eval x = .pointer (some ⟨b, o, none⟩)) (hc : Arr w B T b c) (n : Nat) (ht : RowType P ty n) (hn : c'.size = n)
    (hp : ∀ j v, c'[j]? = some v → c[o + j]? = some v)
    (h : wpList P ops Q rest (a.put op.dst (.agg c')) w) : wpList P ops Q (op :: rest) a w := by
  obtain ⟨d, hu, hd, hi⟩ := ht
  refine wpList_load_mid hgd ty x ho b o hx c'.toList d (fun j v hv => ?_) hu hd (by simpa [hn] using hi) (by simpa using h)
  exact hc.cell _ v (hp j v (by simpa using hv))
theorem store_arr {P : Program} {w : World} {ops : Array Oper} {rest : List Oper} {op : Oper} {a : Act} {Q : Exit → Act → World → Prop} (hgd : op.guard = none) (T : TypeId) (x y : Operand) (ho : op.op = .store T x y)
    (b B : Nat) (c c' : Array Value) (hx : a.eval x = .pointer (some ⟨b, 0, none⟩)) (hy : a.eval y = .agg c') (hc : Arr w B T b c) (n : Nat) (ht : RowType P T n) (hn : c'.size = n) (hs : c'.size = c.size) (h1 : c'.all (·.oneCell') = true)
    (h : wpList P ops Q rest (a.put op.dst undef) (w.setRow b c')) : wpList P ops Q (op :: rest) a w := by
  obtain ⟨d, hu, hd, hi⟩ := ht
  refine wpList_plain hgd fun _ hK => ?_
  unfold Oper.wp execOp
  have := run_storeVar_row (P := P) w b T T c c' hc.heap (by rw [hi, hn]) hs.symm h1
  simp only [ho, hx, hy, Instr.storeAt, Instr.sureAddr, Sem.run_bind, Sem.run_pure, Result.andThen_ok, this]
  exact hK _ _ h
/-- the block that was made last is overwritten -/
theorem store_new {P : Program} {w : World} {ops : Array Oper} {rest : List Oper} {op : Oper} {a : Act} {Q : Exit → Act → World → Prop} (hgd : op.guard = none) (T : TypeId) (x y : Operand) (ho : op.op = .store T x y)
    (b : Nat) (c c' : Array Value) (hb : w.heap.size = b) (hx : a.eval x = .pointer (some ⟨b, 0, none⟩)) (hy : a.eval y = .agg c') (n : Nat) (ht : RowType P T n) (hn : c'.size = n) (hs : c'.size = c.size) (h1 : c'.all (·.oneCell') = true)
    (h : wpList P ops Q rest (a.put op.dst undef) (w.alloc (.cells c' T))) : wpList P ops Q (op :: rest) a (w.alloc (.cells c T)) := by
  subst hb
  obtain ⟨d, hu, hd, hi⟩ := ht
  refine wpList_plain hgd fun _ hK => ?_
  unfold Oper.wp execOp
  have := run_storeVar_new (P := P) w T c c' (by rw [hi, hn]) hs.symm h1
  simp only [ho, hx, hy, Instr.storeAt, Instr.sureAddr, Sem.run_bind, Sem.run_pure, Result.andThen_ok, this]
  exact hK _ _ h
theorem below_drew {B : Nat} {w0 w : World} (hb : Below B w0 w) : Below B w0 w.drew := hb.drew
theorem below_row {B g : Nat} {w0 w : World} (hb : Below B w0 w) (hg : B ≤ g) (cs : Array Value) : Below B w0 (w.setRow g cs) := below_setRow hb hg cs
/-- the result variable in a block of its own -/
theorem result_arr {P : Program} {w : World} {B : Nat} {T : TypeId} {b n : Nat} {c : Array Value} (ty : TypeId) (hc : Arr w B T b c) (ht : RowType P ty n) (hn : c.size = n) :
    (loadVar ty ⟨b, 0, none⟩).run P w = .ok (.agg c) w := by
  obtain ⟨d, hu, hd, hi⟩ := ht
  exact run_loadVar_row w b T ty c (0, 0) d hc.heap hu (by cases d <;> simp_all) (by rw [hi, hn])
/-- a function whose one result is an array or a struct in a variable -/
theorem post_arr {P : Program} {fn : Func} {R : Ending → World → Prop} {a : Act} {w : World} {B : Nat} {T : TypeId} {b n p : Nat} {c : Array Value} (ty : TypeId) (hr : fn.results = #[.cell p ty]) (hp : a.tmps.getD p undef = .pointer (some ⟨b, 0, none⟩))
    (hc : Arr w B T b c) (ht : RowType P ty n) (hn : c.size = n) (hd : a.defers = []) (h : R (.returned (.agg c)) w) : bodyPost P fn R .ret a w := by
  refine bodyPost_ret (v := .agg c) ?_ hd h
  have hp' : a.tmps[p]?.getD undef = .pointer (some ⟨b, 0, none⟩) := by rw [← Array.getD_eq_getD_getElem?]; exact hp
  simp only [results, hr]
  simp [asAddr, hp', result_arr (P := P) ty hc ht hn]
/-- the sixteen numbers of a square, row by row -/
def rowsA (f : Nat → Nat → Int) : Array Value := #[.int .i64 (f 0 0), .int .i64 (f 0 1), .int .i64 (f 0 2), .int .i64 (f 0 3), .int .i64 (f 1 0), .int .i64 (f 1 1), .int .i64 (f 1 2), .int .i64 (f 1 3), .int .i64 (f 2 0), .int .i64 (f 2 1), .int .i64 (f 2 2), .int .i64 (f 2 3), .int .i64 (f 3 0), .int .i64 (f 3 1), .int .i64 (f 3 2), .int .i64 (f 3 3)]
theorem rows_ty : RowType Try.prog 76 16 := ⟨_, Try.underlying76, rfl, by kernel_rfl⟩
theorem rowPart (n : Int) (f : Nat → Nat → Int) (j : Nat) (v : Value) (h : (rowsA f)[j]? = some v) : (sqA n f)[1 + j]? = some v := by
  have e : (sqA n f).toList.tail = (rowsA f).toList := rfl
  rw [← Array.getElem?_toList] at h ⊢
  rw [← e] at h
  rw [Nat.add_comm]
  simpa using h
theorem index_rows {w : World} {ops : Array Oper} {rest : List Oper} {op : Oper} {a : Act} {Q : Exit → Act → World → Prop} (hgd : op.guard = none) (x y : Operand) (ho : op.op = .index 76 x y)
    (f : Nat → Nat → Int) (i : Nat) (hx : a.eval x = .agg (rowsA f)) (hy : a.eval y = .int .i64 i) (hi : i < 4)
    (h : wpList Try.prog ops Q rest (a.put op.dst (.agg (rowA (f i)))) w) : wpList Try.prog ops Q (op :: rest) a w := by
  refine wpList_plain hgd fun _ hK => ?_
  unfold Oper.wp execOp
  have : (Instr.index 76 (.agg (rowsA f)) (.int .i64 i)).run Try.prog w = .ok (.agg (rowA (f i))) w := by
    rcases four_cases hi with rfl | rfl | rfl | rfl <;> (simp [Instr.index, asIntOf, run_underlying Try.underlying76, part, rowsA, rowA]; try rfl)
  simp only [ho, hx, hy, this, Sem.run_bind, Result.andThen_ok]
  exact hK _ _ h
theorem index_row {w : World} {ops : Array Oper} {rest : List Oper} {op : Oper} {a : Act} {Q : Exit → Act → World → Prop} (hgd : op.guard = none) (T : TypeId) (hT : Try.prog.underlying T = some (.array 4 3)) (x y : Operand) (ho : op.op = .index T x y)
    (c : Nat → Int) (i : Nat) (hx : a.eval x = .agg (rowA c)) (hy : a.eval y = .int .i64 i) (hi : i < 4)
    (h : wpList Try.prog ops Q rest (a.put op.dst (.int .i64 (c i))) w) : wpList Try.prog ops Q (op :: rest) a w := by
  refine wpList_plain hgd fun _ hK => ?_
  unfold Oper.wp execOp
  have : (Instr.index T (.agg (rowA c)) (.int .i64 i)).run Try.prog w = .ok (.int .i64 (c i)) w := by
    rcases four_cases hi with rfl | rfl | rfl | rfl <;> (simp [Instr.index, asIntOf, run_underlying hT, part, rowA]; try rfl)
  simp only [ho, hx, hy, this, Sem.run_bind, Result.andThen_ok]
  exact hK _ _ h
end Go.Proofs.Ytfcbfflkajlhnaa
