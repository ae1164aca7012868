/- Texts put together. -/
import Derived.Test.YtgfhconcmoepcaaMgb27
import Derived.Test.YtgfhconcmoepcaaMgb5
import Derived.Test.YtgfhconcmoepcaaMgb2
import Derived.BigQuiet
import Derived.Laws.Cover1
import Derived.Test.YtgfhconcmoepcaaMgb26
import Derived.Test.YtgfhconcmoepcaaMgb19
import Derived.Shelf.Strings.Search1
import Derived.Shelf.Strings.Search2
import Derived.Shelf.Strings.Search3
import Derived.Shelf.Strings.Count
import Derived.Shelf.LaysM
import Derived.Shelf.Strings.Shaped
import Derived.Test.YtgfhconcmoepcaaProg
import Derived.Test.YtgfhconcmoepcaaMgb6
/- The program's lyndonStart: the length of the longest Lyndon word at the beginning. Condition: a text of 1 to 2^20 letters. -/
namespace Go.Proofs.Ytgfhconcmoepcaa
open Go.RowKit

theorem lyN_at (s : ByteArray) (k : Nat) (h : k < s.size) : s[k].toNat = lyN s 0 k := by
  unfold lyN
  rw [Nat.zero_add, List.getD_eq_getElem?_getD, at_list s k h]
  rfl
set_option maxRecDepth 100000 in
set_option maxHeartbeats 1000000 in
theorem implLyndonStart (s : ByteArray) (w : World) (h1 : 1 ≤ s.size) (_ : s.size ≤ 1048576) :
    Calls Try.prog 66 #[.string s] w fun e w' => e = .returned (.int .i64 ((lyLen s 0 s.size : Nat) : Int)) ∧ ∃ n, w' = w.drewN n := by
  have HE : Hid (∀ k p, DvTo (lyN s 0) k p → k ≤ s.size → (k = s.size ∨ lyN s 0 k < lyN s 0 (k - p)) → lyLen s 0 s.size = p) := fun k p a b d => dv_len a (by omega) (d.imp (fun e => by omega) id)
  generalize lyLen s 0 s.size = r at HE ⊢
  go_enter Try.func66, Try.ntmps66
  go_wp2_with fail
  go_loopw [3, 4] (fun pv iv w' => ∃ p i : Nat, 1 ≤ p ∧ p ≤ i ∧ i ≤ s.size ∧ pv = .int .i64 (p : Int) ∧ iv = .int .i64 (i : Int) ∧ DvTo (lyN s 0) i p ∧ ∃ n, w' = w.drewN n) (fun _ iv _ => s.size - (intOf iv).toNat)
  case atStart => exact ⟨1, 1, Nat.le_refl _, Nat.le_refl _, h1, rfl, rfl, dv_start _, 0, rfl⟩
  case round =>
    obtain ⟨p, i, hp1, hpi, his, rfl, rfl, hd, n, rfl⟩ := hrel
    have HD := Lib.hid hd
    clear hd
    by_cases hlt : i < s.size
    · have hx : ∀ w : World, (Instr.index 54 (.string s) (.int .i64 (i : Int))).run Try.prog w = .ok (.int .u8 (s[i].toNat : Int)) w := fun w => index_at Try.underlying54 s i i w hlt rfl
      have hy : ∀ w : World, (Instr.index 54 (.string s) (.int .i64 ((i - p : Nat) : Int))).run Try.prog w = .ok (.int .u8 (s[i - p].toNat : Int)) w := fun w => index_at Try.underlying54 s _ (i - p) w (by omega) rfl
      have HX := Lib.hid (lyN_at s i hlt)
      have HY := Lib.hid (lyN_at s (i - p) (by omega))
      have e1 : IntKind.i64.wrap ((i : Int) - (p : Int)) = ((i - p : Nat) : Int) := by rw [IntWalk.i64_in _ (by omega)]; omega
      have d1 : decide ((i : Int) < (s.size : Int)) = true := decide_eq_true (by omega)
      have d2 : decide (i < s.size) = true := decide_eq_true hlt
      generalize s[i].toNat = x at hx HX
      generalize s[i - p].toNat = y at hy HY
      by_cases hxy : x < y
      · have HR := Lib.hid (HE.out i p HD.out his (.inr (by rw [← HX.out, ← HY.out]; exact hxy)))
        have d3 : decide ((y : Int) ≤ (x : Int)) = false := decide_eq_false (by omega)
        have d4 : decide (y ≤ x) = false := decide_eq_false (by omega)
        clear hxy
        go_wp2_with fail
        go_quiet (fail)
        go_wp2_with fail
        go_ret
        exact ⟨by rw [HR.out]; rfl, _, by first | rfl | exact World.drewN_drewN _ _ _⟩
      · have d3 : decide ((y : Int) ≤ (x : Int)) = true := decide_eq_true (by omega)
        have d4 : decide (y ≤ x) = true := decide_eq_true (by omega)
        by_cases hq : x = y
        · have HN := Lib.hid (dv_same HD.out (by rw [← HX.out, ← HY.out]; exact hq))
          have d5 : decide ((y : Int) < (x : Int)) = false := decide_eq_false (by omega)
          have d6 : decide (y < x) = false := decide_eq_false (by omega)
          clear hxy hq
          go_wp2_with fail
          go_quiet (fail)
          go_wp2_with fail
          go_quiet (fail)
          go_wp2_with fail
          go_roundw
          case rel => exact ⟨p, i + 1, hp1, by omega, by omega, rfl, by go_num, HN.out, _, by first | rfl | exact World.drewN_drewN _ _ _⟩
          case measure => simp [intOf]; omega
        · have HN := Lib.hid (dv_more HD.out (by rw [← HX.out, ← HY.out]; omega))
          have d5 : decide ((y : Int) < (x : Int)) = true := decide_eq_true (by omega)
          have d6 : decide (y < x) = true := decide_eq_true (by omega)
          clear hxy hq
          go_wp2_with fail
          go_quiet (fail)
          go_wp2_with fail
          go_quiet (fail)
          go_wp2_with fail
          go_roundw
          case rel => exact ⟨i + 1, i + 1, by omega, Nat.le_refl _, by omega, by go_num, by go_num, HN.out, _, by first | rfl | exact World.drewN_drewN _ _ _⟩
          case measure => simp [intOf]; omega
    · have hii : i = s.size := by omega
      have HR := Lib.hid (HE.out i p HD.out his (.inl hii))
      have d1 : decide ((i : Int) < (s.size : Int)) = false := decide_eq_false (by omega)
      have d2 : decide (i < s.size) = false := decide_eq_false hlt
      clear hii
      go_wp2_with fail
      go_quiet (fail)
      go_wp2_with fail
      go_ret
      exact ⟨by rw [HR.out]; rfl, _, by first | rfl | exact World.drewN_drewN _ _ _⟩
end Go.Proofs.Ytgfhconcmoepcaa

/- LyndonParts of the program. Condition: a text of at most 2^20 bytes. -/
namespace Go.Proofs.Ytgfhconcmoepcaa
open Go.RowKit Go.Lib

theorem ext_ext (s : ByteArray) {i a b : Nat} (_hb : i + b ≤ s.size) : (s.extract i s.size).extract a b = s.extract (i + a) (i + b) := by
  apply bytes_ext
  rw [ByteArray.toList_eq, ByteArray.toList_eq, ByteArray.data_extract, ByteArray.data_extract, ByteArray.data_extract, Array.toList_extract, Array.toList_extract, Array.toList_extract, List.extract_eq_take_drop, List.extract_eq_take_drop, List.extract_eq_take_drop]
  have hl : s.data.toList.length = s.size := by simp
  rw [List.take_of_length_le (l := s.data.toList.drop i) (i := s.size - i) (by rw [List.length_drop, hl]; omega), List.drop_drop, show i + b - (i + a) = b - a by omega]
/-- the longest Lyndon word at the beginning of what is left -/
theorem lyLen_rest (s : ByteArray) {i : Nat} (hi : i ≤ s.size) : ∀ n, i + n ≤ s.size → lyLen (s.extract i s.size) 0 n = lyLen s i n
  | 0, _ => rfl
  | n + 1, h => by
    unfold lyLen
    rw [lyLen_rest s hi n (by omega), ext_ext s (by omega), Nat.add_zero, Nat.zero_add]

set_option maxRecDepth 100000 in
set_option maxHeartbeats 1000000 in
theorem implLyndonParts (s : ByteArray) (w : World) (hs : s.size ≤ 1048576) :
    Calls Try.prog 22 #[.string s] w fun e w' => ∃ v, e = .returned v ∧ w'.ownsRow w.heap.size 9 1 v (lyP s).length (strs (lyP s)) ∧ Below w.heap.size w w' := by
  obtain ⟨i0, hi0, hz0, hz1, hz2⟩ := info_parts str_info
  have HC := Lib.hid (fun w => implWordOk s w hs)
  cases hw : wordB s
  · have hv : lyP s = [] := if_neg (by rw [hw]; decide)
    rw [hw] at HC
    rw [hv]
    clear hw hv
    go_enter Try.func22, Try.ntmps22
    go_wp2_with fail
    refine (HC.out _).mono ?_
    rintro e w1 ⟨rfl, hb1⟩
    have HB := Lib.hid hb1
    clear hb1
    go_wp2_with fail
    go_ret
    exact ⟨_, rfl, World.ownsRow_nil _ _ _ _, HB.out⟩
  rw [hw] at HC
  have h4 := word_size hw
  have HV : Hid (lyP s = lyTo s 0 s.size) := if_pos hw
  have h00 : s.extract 0 s.size = s := by
    apply bytes_ext
    rw [ByteArray.toList_eq, ByteArray.toList_eq, ByteArray.data_extract, Array.toList_extract, List.extract_eq_take_drop, List.drop_zero, List.take_of_length_le (by simp)]
  have H00 := Lib.hid h00
  clear hw h00
  go_enter Try.func22, Try.ntmps22
  go_wp2_with fail
  refine (HC.out _).mono ?_
  rintro e w1 ⟨rfl, hb1⟩
  have HB1 := Lib.hid hb1
  clear hb1
  go_wp2_with fail
  go_loopw [3, 4] (fun o rv w' => ∃ (i : Nat) (l : List ByteArray), i ≤ s.size ∧ rv = .string (s.extract i s.size) ∧ l.length ≤ i ∧ PartsTo s i l ∧ (∃ A cp, o = .slice A l.length cp) ∧ w'.ownsRow w.heap.size 9 1 o l.length (strs l) ∧ Below w.heap.size w w') (fun _ rv _ => match rv with | .string t => t.size | _ => 0)
  case atStart => exact ⟨0, [], Nat.zero_le _, by rw [H00.out], Nat.le_refl _, parts_start s, ⟨_, _, rfl⟩, World.ownsRow_nil _ _ _ _, HB1.out⟩
  case round =>
    obtain ⟨i, l, hi, rfl, hll, hp, ⟨A, cp, rfl⟩, ho, hb⟩ := hrel
    have HP := Lib.hid hp
    have HO := Lib.hid ho
    have HB := Lib.hid hb
    have hrz : (s.extract i s.size).size = s.size - i := by rw [ByteArray.size_extract]; omega
    clear hp ho hb
    obtain ⟨wo, rfl⟩ : ∃ x : World, x = wr := ⟨_, rfl⟩
    by_cases hlt : i < s.size
    · have HPOS := Lib.hid (lyLen_pos hlt)
      have hem := empty_no (show 1 ≤ (s.extract i s.size).size by omega)
      have HLS := Lib.hid (fun w => implLyndonStart (s.extract i s.size) w (by omega) (by omega))
      rw [hrz, lyLen_rest s hi _ (by omega)] at HLS
      have hn1 := HPOS.out
      have hn2 := lyLen_le s i (s.size - i)
      have HNX := Lib.hid (parts_next HP.out hlt)
      have hsl : ∀ w : World, (Instr.slice 9 (.string (s.extract i s.size)) none (some (.int .i64 ((lyLen s i (s.size - i) : Nat) : Int))) none).run Try.prog w = .ok (.string (s.extract i (i + lyLen s i (s.size - i)))) w := fun w => by
        rw [cut_lo Try.underlying9 _ _ (lyLen s i (s.size - i)) w rfl (by omega), ext_ext s (by omega), Nat.add_zero]
      have hsr : ∀ w : World, (Instr.slice 9 (.string (s.extract i s.size)) (some (.int .i64 ((lyLen s i (s.size - i) : Nat) : Int))) none none).run Try.prog w = .ok (.string (s.extract (i + lyLen s i (s.size - i)) s.size)) w := fun w => by
        rw [cut_hi Try.underlying9 _ _ (lyLen s i (s.size - i)) w rfl (by omega), hrz, ext_ext s (by omega), show i + (s.size - i) = s.size by omega]
      generalize lyLen s i (s.size - i) = n at *
      have hr2 : (s.extract (i + n) s.size).size = s.size - (i + n) := by rw [ByteArray.size_extract]; omega
      have hxz : (s.extract i (i + n)).size ≤ 400 := by rw [ByteArray.size_extract]; omega
      have HRZ := Lib.hid hrz
      have HR2 := Lib.hid hr2
      clear hrz hr2
      generalize hx : s.extract i s.size = x at *
      generalize hx2 : s.extract (i + n) s.size = x2 at *
      generalize s.extract i (i + n) = y at *
      have HX2 := Lib.hid hx2
      clear hx hx2
      go_wp2_with fail
      refine (HLS.out _).mono ?_
      rintro e w3 ⟨rfl, hq⟩
      have HB3 : Hid (Below wo.heap.size wo w3) := by
        obtain ⟨q, rfl⟩ := hq
        exact below_drewN (Below.refl _ _) q
      have HO3 := Lib.hid (own_below HO.out HB3.out)
      have HBW : Hid (Below w.heap.size w w3) := HB.out.trans (HB3.out.mono HB.out.size)
      have hbz := HBW.out.size
      clear hq
      go_wp2_with (at_builtin
                   refine wpList_append1p _ rfl (.tmp 14) (.tmp 18) _ rfl w.heap.size 9 i0 _ 16 Try.underlying31 hi0 hz0 hz1 hz2 rfl (.slice A l.length cp) l.length (strs l) rfl HO3.out (.string y) rfl rfl (by unfold maxLen; omega) (by omega) hbz ?_
                   intro v' w5 ho5 hg5 _)
      have ho5' : w5.ownsRow w.heap.size 9 1 v' (l ++ [y]).length (strs (l ++ [y])) := by rw [strs_snoc, List.length_append]; exact ho5
      obtain ⟨A5, cp5, rfl⟩ := own_slice ho5'
      go_wp2_with fail
      go_roundw
      case rel => exact ⟨i + n, l ++ [y], by omega, by rw [HX2.out], by rw [List.length_append, List.length_singleton]; omega, HNX.out, ⟨A5, cp5, rfl⟩, ho5', HBW.out.grown hg5 HBW.out.size (fun k hk => (HO3.out.lt _ hk).1)⟩
      case measure =>
        show x2.size < x.size
        rw [HRZ.out, HR2.out]
        omega
    · have hem := empty_is (show (s.extract i s.size).size = 0 by omega)
      have HE : Hid (lyP s = l) := by show _ = _; rw [HV.out]; exact (parts_end HP.out (by omega)).symm
      go_wp2_with fail
      go_ret
      exact ⟨_, rfl, by rw [HE.out]; exact HO.out, HB.out⟩
end Go.Proofs.Ytgfhconcmoepcaa

/-
  DERIVED: THE SHELF's CONTRACTS AT THIS DUMP, IN PLAIN WORDS (tools/lay-plain.mjs out of 'TryShelf.lean', which tools/lay-shelf.mjs wrote): THE SAME DECLARATIONS UNDER THE SAME NAMES: 'import', 'namespace', 'open', 'def', 'theorem' AND NOTHING ELSE: no command of the shelf's: FOR A HAND-IN. Each laying: the table of numbers ('.._ren') and one theorem, a field a fact of the dump's own or the kernel's comparison; each contract: ONE APPLICATION.
-/
namespace Go.Proofs
open Go.Shelf
def Try.lays144_ren : Go.Shelf.Ren := ⟨fun | 144 => 67 | 143 => 92 | 219 => 99 | 217 => 100 | 225 => 101 | 224 => 102 | 267 => 103 | 266 => 104 | 314 => 105 | n => n, fun | 9 => 9 | 4 => 4 | 3 => 3 | 5 => 5 | 46 => 79 | 146 => 82 | 51 => 81 | n => n, fun | 1 => 0 | n => n⟩
theorem Try.lays144 : Go.Proofs.Lays.n144 Try.prog Try.lays144_ren := {
  mixed := by kernel_rfl
  f143 := Try.func92.trans (congrArg some (by kernel_rfl))
  f144 := Try.func67.trans (congrArg some (by kernel_rfl))
  f217 := Try.func100.trans (congrArg some (by kernel_rfl))
  f219 := Try.func99.trans (congrArg some (by kernel_rfl))
  f224 := Try.func102.trans (congrArg some (by kernel_rfl))
  f225 := Try.func101.trans (congrArg some (by kernel_rfl))
  f266 := Try.func104.trans (congrArg some (by kernel_rfl))
  f267 := Try.func103.trans (congrArg some (by kernel_rfl))
  f314 := Try.func105.trans (congrArg some (by kernel_rfl))
  t3 := Try.underlying3
  a3 := Try.isAgg3
  z3 := Try.sizeOf3
  v3 := Try.zeroValue3
  t4 := Try.underlying4
  a4 := Try.isAgg4
  z4 := Try.sizeOf4
  v4 := Try.zeroValue4
  t5 := Try.underlying5
  a5 := Try.isAgg5
  z5 := Try.sizeOf5
  v5 := Try.zeroValue5
  t9 := Try.underlying9
  a9 := Try.isAgg9
  z9 := Try.sizeOf9
  v9 := Try.zeroValue9
  t46 := Try.underlying79
  a46 := Try.isAgg79
  z46 := Try.sizeOf79
  v46 := Try.zeroValue79
  t51 := Try.underlying81
  a51 := Try.isAgg81
  z51 := Try.sizeOf81
  v51 := Try.zeroValue81
  t146 := Try.underlying82
  a146 := Try.isAgg82
  z146 := Try.sizeOf82
  v146 := Try.zeroValue82
  g1 := by kernel_rfl }
open Go.RowKit Go.Lib in
/-- strings.Contains: "Contains reports whether substr is within s.": IT RETURNS 'Lib.contains s substr'; the world is as it was. (LAID: no walk: one application.) -/
theorem Try.strings_Contains (s sub : ByteArray) (m : Int) (w : World) (hs : s.size < 4294967281) (hm : w.cell? ⟨0, 0, none⟩ = some (.int .i64 m)) :
    Calls Try.prog 67 #[.string s, .string sub] w fun e w' => e = .returned (.bool (Lib.contains s.data.toList sub.data.toList)) ∧ w' = w := Any.strings_Contains Try.lays144 s sub m w hs hm
def Try.lays138_ren : Go.Shelf.Ren := ⟨fun | 138 => 75 | 195 => 95 | 218 => 96 | 143 => 92 | 219 => 99 | 217 => 100 | 225 => 101 | 224 => 102 | 267 => 103 | 266 => 104 | 314 => 105 | n => n, fun | 9 => 9 | 3 => 3 | 4 => 4 | 5 => 5 | 0 => 0 | 46 => 79 | 146 => 82 | 51 => 81 | n => n, fun | 1 => 0 | n => n⟩
theorem Try.lays138 : Go.Proofs.Lays.n138 Try.prog Try.lays138_ren := {
  mixed := by kernel_rfl
  f138 := Try.func75.trans (congrArg some (by kernel_rfl))
  f143 := Try.func92.trans (congrArg some (by kernel_rfl))
  f195 := Try.func95.trans (congrArg some (by kernel_rfl))
  f217 := Try.func100.trans (congrArg some (by kernel_rfl))
  f218 := Try.func96.trans (congrArg some (by kernel_rfl))
  f219 := Try.func99.trans (congrArg some (by kernel_rfl))
  f224 := Try.func102.trans (congrArg some (by kernel_rfl))
  f225 := Try.func101.trans (congrArg some (by kernel_rfl))
  f266 := Try.func104.trans (congrArg some (by kernel_rfl))
  f267 := Try.func103.trans (congrArg some (by kernel_rfl))
  f314 := Try.func105.trans (congrArg some (by kernel_rfl))
  t0 := Try.underlying0
  a0 := Try.isAgg0
  z0 := Try.sizeOf0
  v0 := Try.zeroValue0
  t3 := Try.underlying3
  a3 := Try.isAgg3
  z3 := Try.sizeOf3
  v3 := Try.zeroValue3
  t4 := Try.underlying4
  a4 := Try.isAgg4
  z4 := Try.sizeOf4
  v4 := Try.zeroValue4
  t5 := Try.underlying5
  a5 := Try.isAgg5
  z5 := Try.sizeOf5
  v5 := Try.zeroValue5
  t9 := Try.underlying9
  a9 := Try.isAgg9
  z9 := Try.sizeOf9
  v9 := Try.zeroValue9
  t46 := Try.underlying79
  a46 := Try.isAgg79
  z46 := Try.sizeOf79
  v46 := Try.zeroValue79
  t51 := Try.underlying81
  a51 := Try.isAgg81
  z51 := Try.sizeOf81
  v51 := Try.zeroValue81
  t146 := Try.underlying82
  a146 := Try.isAgg82
  z146 := Try.sizeOf82
  v146 := Try.zeroValue82
  g1 := by kernel_rfl }
open Go.RowKit Go.Lib in
/-- strings.Count AT A substr OF ONE BYTE ('hp'): "Count counts the number of non-overlapping instances of substr in s.": IT RETURNS 'Lib.countByte s (that byte)'; the world is as it was. ✋ NO CONTRACT HERE YET at an empty substr (utf8.RuneCountInString) or at a longer one (a loop over strings.Index). (LAID: no walk: one application.) -/
theorem Try.strings_Count_one (s : ByteArray) (c : UInt8) (w : World) :
    Calls Try.prog 75 #[.string s, .string ⟨#[c]⟩] w fun e w' => e = .returned (.int .i64 (Lib.countByte s.data.toList c)) ∧ w' = w := Any.strings_Count_one Try.lays138 s c w
def Try.laysM144_ren : Go.Shelf.Ren := ⟨fun | 144 => 67 | 143 => 92 | 219 => 99 | 217 => 100 | 225 => 101 | 224 => 102 | 267 => 103 | 266 => 104 | 314 => 105 | n => n, fun | 9 => 9 | 4 => 4 | 3 => 3 | 5 => 5 | 46 => 79 | 146 => 82 | 51 => 81 | n => n, fun | 1 => 0 | n => n⟩
theorem Try.laysM144 : Go.Proofs.LaysM.n144 Try.prog Try.laysM144_ren := {
  mixed := by kernel_rfl
  f143 := Try.func92.trans (congrArg some (by kernel_rfl))
  f144 := Try.func67.trans (congrArg some (by kernel_rfl))
  f217 := Try.func100.trans (congrArg some (by kernel_rfl))
  f219 := Try.func99.trans (congrArg some (by kernel_rfl))
  f224 := Try.func102.trans (congrArg some (by kernel_rfl))
  f225 := Try.func101.trans (congrArg some (by kernel_rfl))
  f266 := Try.func104.trans (congrArg some (by kernel_rfl))
  f267 := Try.func103.trans (congrArg some (by kernel_rfl))
  f314 := Try.func105.trans (congrArg some (by kernel_rfl))
  t3 := Try.underlying3
  a3 := Try.isAgg3
  z3 := Try.sizeOf3
  v3 := Try.zeroValue3
  t4 := Try.underlying4
  a4 := Try.isAgg4
  z4 := Try.sizeOf4
  v4 := Try.zeroValue4
  t5 := Try.underlying5
  a5 := Try.isAgg5
  z5 := Try.sizeOf5
  v5 := Try.zeroValue5
  t9 := Try.underlying9
  a9 := Try.isAgg9
  z9 := Try.sizeOf9
  v9 := Try.zeroValue9
  t46 := Try.underlying79
  a46 := Try.isAgg79
  z46 := Try.sizeOf79
  v46 := Try.zeroValue79
  t51 := Try.underlying81
  a51 := Try.isAgg81
  z51 := Try.sizeOf81
  v51 := Try.zeroValue81
  t146 := Try.underlying82
  a146 := Try.isAgg82
  z146 := Try.sizeOf82
  v146 := Try.zeroValue82
  g1 := by kernel_rfl
  i3 := by kernel_rfl
  i4 := by kernel_rfl
  i5 := by kernel_rfl
  i9 := by kernel_rfl
  i46 := by kernel_rfl
  i51 := by kernel_rfl
  i146 := by kernel_rfl
  m1 := by kernel_rfl
  s1_3 := fun w h => Go.Proofs.cell_of_shapedOpen_int (zero := #[.int .i64 0]) (t := 3) h (of_decide_eq_true (by kernel_rfl)) (by kernel_rfl) rfl (by kernel_rfl) (by kernel_rfl) Try.underlying3 }
end Go.Proofs

/- IsFactor of the program. Conditions: texts of at most 2^20 bytes; the library's own variable holds an integer. -/
namespace Go.Proofs.Ytgfhconcmoepcaa
open Go.RowKit

theorem ext_list (s : ByteArray) (i n : Nat) : (s.extract i (i + n)).data.toList = (s.data.toList.drop i).take n := by
  rw [Lib.extract_data]
  rw [Nat.add_sub_cancel_left]
theorem occ_at (s f : ByteArray) (i : Nat) (hi : i ≤ s.size) : Lib.occAt s.data.toList f.data.toList i = true ↔ At s f i := by
  unfold Lib.occAt At
  rw [List.isPrefixOf_iff_prefix, List.prefix_iff_eq_take]
  have hsl : s.data.toList.length = s.size := by simp
  have hfl : f.data.toList.length = f.size := by simp
  constructor
  · intro h
    have hl := congrArg List.length h
    rw [List.length_take, List.length_drop, hsl, hfl] at hl
    refine ⟨by omega, ?_⟩
    apply bytes_ext
    rw [ByteArray.toList_eq, ByteArray.toList_eq, ext_list, ← hfl]
    exact h.symm
  · rintro ⟨_, h⟩
    rw [hfl, ← ext_list, h]
theorem contains_has (s f : ByteArray) : Lib.contains s.data.toList f.data.toList = hasR s f := by
  have hsl : s.data.toList.length = s.size := by simp
  unfold Lib.contains hasR
  rcases Lib.index_spec s.data.toList f.data.toList with ⟨h1, h2⟩ | ⟨i, h1, h2, h3, _⟩
  · rw [h1, @decide_eq_false _ (Classical.propDecidable _)]
    · rfl
    · rintro ⟨i, hi⟩
      have := h2 i (by have := hi.1; omega)
      rw [(occ_at s f i (by have := hi.1; omega)).2 hi] at this
      cases this
  · rw [h1, @decide_eq_true _ (Classical.propDecidable _) ⟨i, (occ_at s f i (by omega)).1 h3⟩]
    simp

theorem implIsFactor (s f : ByteArray) (m : Int) (w : World) (hm : w.cell? ⟨0, 0, none⟩ = some (.int .i64 m)) (hs : s.size ≤ 1048576) (hf : f.size ≤ 1048576) :
    Calls Try.prog 39 #[.string s, .string f] w fun e w' => e = .returned (.bool (factR s f)) ∧ Below w.heap.size w w' := by
  have HR : Hid (factR s f = (wordB s && (wordB f && hasR s f))) := rfl
  have HM := Lib.hid hm
  clear hm
  cases h1 : wordB s
  · go_enter Try.func39, Try.ntmps39
    go_wp2_with fail
    refine (implWordOk s _ hs).mono ?_
    rintro e w1 ⟨rfl, hb1⟩
    go_wp2_with fail
    go_ret
    exact ⟨ret_bool (by rw [HR.out, h1]; rfl), hb1⟩
  · cases h2 : wordB f
    · go_enter Try.func39, Try.ntmps39
      go_wp2_with fail
      refine (implWordOk s _ hs).mono ?_
      rintro e w1 ⟨rfl, hb1⟩
      go_wp2_with fail
      refine (implWordOk f _ hf).mono ?_
      rintro e w2 ⟨rfl, hb2⟩
      go_wp2_with fail
      go_ret
      exact ⟨ret_bool (by rw [HR.out, h1, h2]; rfl), hb1.trans (hb2.mono hb1.size)⟩
    · go_enter Try.func39, Try.ntmps39
      go_wp2_with fail
      refine (implWordOk s _ hs).mono ?_
      rintro e w1 ⟨rfl, hb1⟩
      go_wp2_with fail
      refine (implWordOk f _ hf).mono ?_
      rintro e w2 ⟨rfl, hb2⟩
      go_wp2_with fail
      have hb := hb1.trans (hb2.mono hb1.size)
      refine (Try.strings_Contains s f m _ (by omega) ((hb.cell (World.block_lt_of_cell? w _ HM.out)).trans HM.out)).mono ?_
      rintro e w3 ⟨rfl, rfl⟩
      go_wp2_with fail
      go_ret
      exact ⟨ret_bool (by rw [HR.out, h1, h2, contains_has]; rfl), hb⟩
end Go.Proofs.Ytgfhconcmoepcaa
