/- Texts put together. -/
import Derived.Test.YthckpgfhldocdaaMgp10
import Derived.Test.YthckpgfhldocdaaMgp19
import Derived.Test.YthckpgfhldocdaaChecked
import Derived.Test.YthckpgfhldocdaaMgp8
import Derived.Test.YthckpgfhldocdaaMgp9
import Derived.Test.YthckpgfhldocdaaMgp12
import Derived.Lib.IndexLaws
/- hasFirst, hasImages and SubstOk of the program. Conditions: lengths of at most 2^20. -/
namespace Go.Proofs.Ythckpgfhldocdaa
open Go.RowKit

theorem letterAt (n j : Int) (w : World) (h : n = 97 + j) (h1 : 0 ≤ j) (h2 : j ≤ 3) :
    Calls Try.prog 67 #[.int .u8 n] w fun e w' => e = .returned (.int .i64 j) ∧ w = w' := by
  have h3 : 97 ≤ n := by omega
  have h4 : n ≤ 100 := by omega
  have HJ := Lib.hid (show n - 97 = j by omega)
  clear h h1 h2
  go_enter Try.func67, Try.ntmps67
  go_wp2
  go_ret
  exact ⟨ret_int HJ.out, rfl⟩

set_option maxHeartbeats 400000 in
theorem implHasFirst (n : Nat) (s : ByteArray) (w : World) (_ : n ≤ 1048576) (hs : s.size ≤ 1048576) :
    Calls Try.prog 80 #[.string s, .int .i64 n] w fun e w' => e = .returned (.bool (wordB s && withinB n s)) ∧ Below w.heap.size w w' := by
  by_cases h : wordB s = true
  · have h400 := word_size h
    have HW := Lib.hid (word_at h)
    have HR : Hid ((wordB s && withinB n s) = withinB n s) := by show (wordB s && withinB n s) = withinB n s; rw [h]; rfl
    go_enter Try.func80, Try.ntmps80
    go_wp2_with fail
    refine (implOk s _ hs).mono ?_
    rintro e w1 ⟨rfl, hb1⟩
    have HB1 := Lib.hid hb1
    clear hb1
    go_wp2_with fail
    go_loop [11] (fun i => ∃ k : Nat, k ≤ s.size ∧ i = .int .i64 k ∧ (s.data.toList.take k).all (fun c => decide (c.toNat < 97 + n)) = true) (fun i => s.size - (intOf i).toNat)
    case atStart => exact ⟨0, Nat.zero_le _, rfl, rfl⟩
    case round =>
      obtain ⟨k, hk, rfl, ha⟩ := hrel
      have HA := Lib.hid ha
      clear ha
      by_cases hlt : k < s.size
      · obtain ⟨p1, p2⟩ := HW.out k hlt
        obtain ⟨j, hj, hj3⟩ : ∃ j : Nat, s[k].toNat = 97 + j ∧ j ≤ 3 := ⟨s[k].toNat - 97, by omega, by omega⟩
        have HLI := Lib.hid (fun w => letterAt (s[k].toNat : Int) (j : Int) w (by omega) (by omega) (by omega))
        by_cases hc : s[k].toNat < 97 + n
        · have hge : ¬ ((n : Int) ≤ (j : Int)) := by omega
          have d1 : decide ((n : Int) ≤ (j : Int)) = false := by simpa using hge
          have HC := Lib.hid hc
          clear hc p1 p2 hj
          go_wp2_with (go_at_call 67; refine (HLI.out _).mono ?_; rintro e w' ⟨rfl, rfl⟩)
          go_round
          case rel => exact ⟨k + 1, by omega, by go_num, all_snoc s k hlt HA.out (by simpa using HC.out)⟩
          case measure => simp [intOf]; omega
        · have hge : (n : Int) ≤ (j : Int) := by omega
          have d1 : decide ((n : Int) ≤ (j : Int)) = true := by simpa using hge
          have HN : Hid (withinB n s = false) := by
            show withinB n s = false
            exact all_not s k hlt (by simpa using hc)
          clear hc p1 p2 hj
          go_wp2_with (go_at_call 67; refine (HLI.out _).mono ?_; rintro e w' ⟨rfl, rfl⟩)
          go_ret
          exact ⟨ret_bool (by first | rw [HR.out, HN.out] | exact HN.out.symm), HB1.out⟩
      · have hk' : k = s.size := by omega
        have HY : Hid (withinB n s = true) := by
          have := HA.out
          rw [hk', take_all s _ (Nat.le_refl _)] at this
          exact this
        clear hk'
        go_wp2_with fail
        go_ret
        exact ⟨ret_bool (by first | rw [HR.out, HY.out] | exact HY.out.symm), HB1.out⟩
  · have h' : wordB s = false := by simpa using h
    have HR : Hid ((wordB s && withinB n s) = false) := by show (wordB s && withinB n s) = false; rw [h']; rfl
    clear h
    go_enter Try.func80, Try.ntmps80
    go_wp2_with fail
    refine (implOk s _ hs).mono ?_
    rintro e w1 ⟨rfl, hb1⟩
    go_wp2_with fail
    go_ret
    exact ⟨ret_bool HR.out.symm, hb1⟩

theorem implHasImages (A : Option Addr) (n cp : Nat) (s : ByteArray) (w : World) (hn : n ≤ 1048576) (hs : s.size ≤ 1048576) :
    Calls Try.prog 66 #[.agg #[.slice A n cp], .string s] w fun e w' => e = .returned (.bool (wordB s && withinB n s)) ∧ Below w.heap.size w w' := by
  go_enter Try.func66, Try.ntmps66
  go_wp2_with fail
  refine (implHasFirst n s _ hn hs).mono ?_
  rintro e w1 ⟨rfl, hb1⟩
  have hb0 : Below w.heap.size w (w.alloc (.cells #[.slice A n cp] 34)) := (Below.refl _ _).alloc (Nat.le_refl _) _
  have HB := Lib.hid (hb0.trans (hb1.mono (by simp)))
  clear hb0 hb1
  go_wp2_with fail
  go_ret
  exact ⟨rfl, HB.out⟩

theorem size_zero {s : ByteArray} (h : s.size = 0) : s = ⟨#[]⟩ := by
  apply bytes_ext
  rw [ByteArray.toList_eq, ByteArray.toList_eq]
  exact List.eq_nil_of_length_eq_zero (by simpa using h)

set_option maxHeartbeats 1000000 in
theorem implSubstOkL (l : List ByteArray) (v : Value) (w : World) (h : Lst w v (strs l)) (hz : ∀ x ∈ l, x.size ≤ 1048576) (hn : l.length ≤ 2097152) :
    Calls Try.prog 46 #[.agg #[v]] w fun e w' => e = .returned (.bool (substB l)) ∧ Below w.heap.size w w' := by
  obtain ⟨A, cp, rfl⟩ := lst_slice h
  rw [strs_length] at h ⊢
  by_cases hl : 1 ≤ l.length ∧ l.length ≤ 4
  · obtain ⟨hl1, hl4⟩ := hl
    have d1 : decide ((l.length : Int) < 1) = false := by simp; omega
    have d2 : decide ((4 : Int) < (l.length : Int)) = false := by simp; omega
    have hb0 : Below w.heap.size w (w.alloc (.cells #[.slice A l.length cp] 34)) := (Below.refl _ _).alloc (Nat.le_refl _) _
    obtain ⟨A', c', he, hc1, hc2, h1⟩ := h.below hb0
    rw [strs_length] at he hc1
    injection he with hA _ hc
    subst hA; subst hc
    replace h1 := h1.resolve_left (by
      intro e
      have := congrArg List.length e
      rw [strs_length] at this
      simp only [List.length_nil] at this
      omega)
    obtain ⟨b, off, rfl, h1⟩ := h1
    have H1 := Lib.hid (strs_at h1)
    have HZ := Lib.hid hz
    have HB := Lib.hid hb0
    clear h1 hz hc2 hc1 h hb0
    go_enter Try.func46, Try.ntmps46
    go_wp2_with fail
    go_loopw [18] (fun i w' => ∃ k : Nat, k ≤ l.length ∧ i = .int .i64 k ∧ (l.take k).all (imgB l.length) = true ∧ Below (w.heap.size + 1) (w.alloc (.cells #[.slice (some ⟨b, off, none⟩) l.length cp] 34)) w') (fun i _ => l.length - (intOf i).toNat)
    case atStart => exact ⟨0, Nat.zero_le _, rfl, rfl, Below.refl _ _⟩
    case round =>
      obtain ⟨k, hk, rfl, ha, hbk⟩ := hrel
      have HA := Lib.hid ha
      have HBK := Lib.hid hbk
      have hszw : w.heap.size + 1 ≤ wr.heap.size := by have := hbk.size; simpa using this
      have hcw : wr.cell? ⟨w.heap.size, 0, none⟩ = some (.slice (some ⟨b, off, none⟩) l.length cp) := (hbk.cell (p := ⟨w.heap.size, 0, none⟩) (by simp)).trans (by rw [World.cell?_alloc_at _ _ _ _ rfl]; rfl)
      clear ha hbk
      have HE : Hid (Below w.heap.size w wr) := HB.out.trans (HBK.out.mono (by omega))
      by_cases hlt : k < l.length
      · have g1 : wr.cell? ⟨b, off + k, none⟩ = some (.string l[k]) := by
          have hc := H1.out k hlt
          have hlt := World.block_lt_of_cell? _ _ hc
          exact (HBK.out.cell (p := ⟨b, off + k, none⟩) (by simpa using hlt)).trans hc
        have hsz := HZ.out _ (List.getElem_mem hlt)
        by_cases c1 : l[k].size = 0
        · have HN := Lib.hid (subst_no k hlt (img_no1 (by omega)))
          have e1 : (l[k].toList == []) = true := by rw [size_zero c1, ByteArray.toList_eq]; rfl
          clear c1
          go_wp2_with fail
          go_ret
          exact ⟨ret_bool HN.out.symm, HE.out⟩
        · have e1 : (l[k].toList == []) = false := by
            rw [beq_eq_false_iff_ne]
            intro h
            apply c1
            have e : l[k] = ⟨#[]⟩ := bytes_ext (by rw [h, ByteArray.toList_eq])
            rw [e]
            rfl
          by_cases c2 : 8 < l[k].size
          · have HN := Lib.hid (subst_no k hlt (img_no1 (by omega)))
            have e2 : decide ((8 : Int) < l[k].size) = true := by simp; omega
            clear c1
            go_wp2_with fail
            go_ret
            exact ⟨ret_bool HN.out.symm, HE.out⟩
          · have e2 : decide ((8 : Int) < l[k].size) = false := by simp; omega
            have HHI := Lib.hid (fun w => implHasImages (some ⟨b, off, none⟩) l.length cp l[k] w (by omega) hsz)
            by_cases c3 : (wordB l[k] && withinB l.length l[k]) = true
            · have HI : Hid (imgB l.length l[k] = true) := by
                show imgB l.length l[k] = true
                rw [Bool.and_eq_true] at c3
                exact img_yes (by omega) (by omega) c3.1 c3.2
              clear c1
              go_wp2_with fail
              refine (HHI.out _).mono ?_
              rintro e w2 ⟨rfl, hb2⟩
              have HB2 := Lib.hid hb2
              clear hb2
              go_wp2_with fail
              go_roundw
              case rel => exact ⟨k + 1, by omega, by go_num, lall_snoc l k hlt HA.out HI.out, HBK.out.trans (HB2.out.mono hszw)⟩
              case measure => simp [intOf]; omega
            · have HN : Hid (substB l = false) := by
                show substB l = false
                refine subst_no k hlt ?_
                by_cases q : wordB l[k] = true
                · exact img_no3 (by simpa [q] using c3)
                · exact img_no2 (by simpa using q)
              have c3' : (wordB l[k] && withinB l.length l[k]) = false := by simpa only [Bool.not_eq_true] using c3
              clear c1 c3
              go_wp2_with fail
              refine (HHI.out _).mono ?_
              rintro e w2 ⟨rfl, hb2⟩
              have HB2 := Lib.hid hb2
              clear hb2
              go_wp2_with fail
              go_ret
              exact ⟨ret_bool HN.out.symm, HE.out.trans (HB2.out.mono (by omega))⟩
      · have hk' : k = l.length := by omega
        have HY := Lib.hid (subst_yes hl1 hl4 (hk' ▸ HA.out))
        clear hk'
        go_wp2_with fail
        go_ret
        exact ⟨ret_bool HY.out.symm, HE.out⟩
  · have HN := Lib.hid (subst_len hl)
    have hb0 : Below w.heap.size w (w.alloc (.cells #[.slice A l.length cp] 34)) := (Below.refl _ _).alloc (Nat.le_refl _) _
    have HB := Lib.hid hb0
    by_cases hl1 : l.length < 1
    · have d1 : decide ((l.length : Int) < 1) = true := by simp; omega
      clear hl h hz hb0
      go_enter Try.func46, Try.ntmps46
      go_wp2_with fail
      go_ret
      exact ⟨ret_bool HN.out.symm, HB.out⟩
    · have d1 : decide ((l.length : Int) < 1) = false := by simp; omega
      have d2 : decide ((4 : Int) < (l.length : Int)) = true := by simp; omega
      clear h hz hb0
      go_enter Try.func46, Try.ntmps46
      go_wp2_with fail
      go_ret
      exact ⟨ret_bool HN.out.symm, HB.out⟩

theorem implSubstOk (l : List ByteArray) (v : Value) (w : World) (h : Lst w v (strs l)) (hz : ∀ x ∈ l, x.size ≤ 1048576) (hn : l.length ≤ 1048576) :
    Calls Try.prog 46 #[.agg #[v]] w fun e w' => e = .returned (.bool (substB l)) ∧ Below w.heap.size w w' := implSubstOkL l v w h hz (by omega)
end Go.Proofs.Ythckpgfhldocdaa

/- joinParts and Join of the program: the elements with the separator between them. Condition: the result has at most 2^47 bytes. -/
namespace Go.Proofs.Ythckpgfhldocdaa
open Go.RowKit
end Go.Proofs.Ythckpgfhldocdaa

/- The program's SplitAny gives the same list of strings as the model's. Condition: texts of at most 2^20 bytes. -/
namespace Go.Proofs.Ythckpgfhldocdaa
open Go.RowKit

theorem byte_back (c : UInt8) : ((c.toNat : Int)).toNat.toUInt8 = c := by simp
theorem sep_iff (y : ByteArray) (c : UInt8) : isSep y c ↔ 0 ≤ Lib.indexByte y.data.toList c := by
  have hge := Lib.indexByte_ge y.data.toList c
  constructor
  · rintro ⟨i, h, e⟩
    rcases Int.lt_or_le (Lib.indexByte y.data.toList c) 0 with hlt | hle
    · have := Lib.indexByte_none (show Lib.indexByte y.data.toList c = -1 by omega) i
      exact absurd (by rw [← e]; exact List.getElem?_eq_getElem (by simpa using h)) this
    · exact hle
  · intro h
    obtain ⟨o, ho⟩ := Int.eq_ofNat_of_zero_le h
    obtain ⟨h1, _⟩ := Lib.indexByte_some ho
    obtain ⟨hl, he⟩ := List.getElem?_eq_some_iff.1 h1
    exact ⟨o, by simpa using hl, he⟩

set_option maxHeartbeats 800000 in
theorem implSplitAny (s y : ByteArray) (w : World) (hs : s.size ≤ 1048576) :
    Calls Try.prog 45 #[.string s, .string y] w fun e w' => ∃ v, e = .returned v ∧ w'.ownsRow w.heap.size 9 1 v (splitL s y).length (strs (splitL s y)) ∧ Below w.heap.size w w' := by
  obtain ⟨i0, hi0, hz0, hz1, hz2⟩ := info_parts str_info
  go_enter Try.func45, Try.ntmps45
  go_wp2
  go_loopw [5, 6, 10] (fun o fr i w' => ∃ (k f : Nat) (ps : List ByteArray), k ≤ s.size ∧ splitTo s y k = (ps, f) ∧ i = .int .i64 k ∧ fr = .int .i64 f ∧ f ≤ k ∧ ps.length ≤ k ∧ w'.ownsRow w.heap.size 9 1 o ps.length (strs ps) ∧ Below w.heap.size w w') (fun _ _ i _ => s.size - (intOf i).toNat)
  case atStart =>
    exact ⟨0, 0, [], by omega, rfl, rfl, rfl, by omega, by simp, World.ownsRow_nil _ _ _ _, Below.refl _ _⟩
  case round =>
    obtain ⟨k, f, ps, hk, hsp, rfl, rfl, hfk, hpk, ho, hb⟩ := hrel
    have HSP := Lib.hid hsp
    clear hsp
    obtain ⟨wo, rfl⟩ : ∃ wo : World, wo = wr := ⟨_, rfl⟩
    obtain ⟨vo, hvo⟩ : ∃ vo : Value, vo = u5 := ⟨_, rfl⟩
    subst hvo
    have hsz := hb.size
    by_cases hlt : k < s.size
    · by_cases hsep : isSep y s[k]
      · have hdec : decide ((0 : Int) ≤ Lib.indexByte y.data.toList s[k]) = true := by simpa using (sep_iff _ _).1 hsep
        have HSEP := Lib.hid hsep
        clear hsep
        go_wp2_with (first
          | (go_at_call 65
             refine (Try.strings_IndexByte _ _ _).mono ?_
             rintro e w' ⟨rfl, rfl⟩
             rw [byte_back])
          | (at_builtin
             refine wpList_append1 _ rfl (.tmp 19) (.tmp 24) _ rfl w.heap.size 9 i0 _ 16 Try.underlying24 hi0 hz0 hz1 hz2 rfl _ ps.length (strs ps) rfl ho (.string (s.extract f k)) rfl rfl (by unfold maxLen; omega) (by omega) hsz ?_
             intro v' w1 hown1 hbel1))
        go_roundw
        case rel =>
          refine ⟨k + 1, k + 1, ps ++ [s.extract f k], by omega, ?_, by go_num, by go_num, by omega, by simp; omega, ?_, hb.trans hbel1⟩
          · rw [splitTo_yes hlt HSEP.out, HSP.out]
          · rw [strs_snoc, List.length_append]
            exact hown1
        case measure => simp [intOf]; omega
      · have hdec : decide ((0 : Int) ≤ Lib.indexByte y.data.toList s[k]) = false := by
          rw [decide_eq_false_iff_not]
          exact fun h => hsep ((sep_iff _ _).2 h)
        have HSEP := Lib.hid hsep
        clear hsep
        go_wp2_with (go_at_call 65; refine (Try.strings_IndexByte _ _ _).mono ?_; rintro e w' ⟨rfl, rfl⟩; rw [byte_back])
        go_roundw
        case rel =>
          refine ⟨k + 1, f, ps, by omega, ?_, by go_num, rfl, by omega, by omega, ho, hb⟩
          rw [splitTo_no hlt HSEP.out]
          exact HSP.out
        case measure => simp [intOf]; omega
    · have hks : k = s.size := by omega
      subst hks
      have hL : splitL s y = ps ++ [s.extract f s.size] := by unfold splitL; rw [HSP.out]
      have HL := Lib.hid hL
      clear hL
      go_wp2_with (first
        | (at_builtin
           refine wpList_append1 _ rfl (.tmp 29) (.tmp 33) _ rfl w.heap.size 9 i0 _ 16 Try.underlying24 hi0 hz0 hz1 hz2 rfl _ ps.length (strs ps) rfl ho _ rfl rfl (by unfold maxLen; omega) (by omega) hsz ?_
           intro v' w1 hown1 hbel1))
      go_ret
      refine ⟨_, rfl, ?_, hb.trans hbel1⟩
      rw [HL.out, strs_snoc, List.length_append]
      exact hown1
end Go.Proofs.Ythckpgfhldocdaa

/- What the lines of a text are. No program in it. -/
namespace Go.Proofs.Ythckpgfhldocdaa
open Go.RowKit

def nl : ByteArray := ⟨#[10]⟩
theorem splitL_pos (s y : ByteArray) : 0 < (splitL s y).length := by unfold splitL; simp
/-- the lines: without the last part if it is empty -/
noncomputable def linesL (s : ByteArray) : List ByteArray :=
  if (s.extract (splitTo s nl s.size).2 s.size).toList = [] then (splitTo s nl s.size).1 else splitL s nl
theorem linesL_le (s : ByteArray) : (linesL s).length ≤ s.size + 1 := by
  have := splitTo_le s nl s.size
  unfold linesL splitL
  split
  · omega
  · simp; omega
/-- what a slice's beginning owns -/
theorem own_init {w : World} {B : Nat} {e : TypeId} {g cap : Nat} {n : Nat} {xs ys : List Value} (h : w.ownsRow B e 1 (.slice (some ⟨g, 0, none⟩) n cap) n (xs ++ ys)) (m : Nat) (hm : xs.length = m) (hmn : m ≤ n) :
    w.ownsRow B e 1 (.slice (some ⟨g, 0, none⟩) m cap) m xs := by
  refine ⟨by omega, .inr ?_⟩
  rcases h.2 with ⟨h', _⟩ | ⟨g', cap', cur, h', hb, hg, hnc, hcm, hcs, htake⟩
  · simp at h'
  · simp only [Value.slice.injEq, Option.some.injEq, Addr.mk.injEq, and_true, true_and] at h'
    obtain ⟨rfl, rfl⟩ := h'
    refine ⟨g, cap, cur, rfl, hb, hg, by omega, hcm, hcs, ?_⟩
    have : (cur.toList.take (n * 1)).take (m * 1) = (xs ++ ys).take (m * 1) := by rw [htake]
    rw [List.take_take, Nat.min_eq_left (by omega), Nat.mul_one, List.take_left' hm] at this
    rw [Nat.mul_one]
    exact this
end Go.Proofs.Ythckpgfhldocdaa
