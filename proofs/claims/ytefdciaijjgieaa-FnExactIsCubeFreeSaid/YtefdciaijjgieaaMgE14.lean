/- Texts put together. -/
import Derived.Test.YtefdciaijjgieaaMgE7
import Derived.Test.YtefdciaijjgieaaMgE9
import Derived.Test.YtefdciaijjgieaaChecked
import Derived.Test.YtefdciaijjgieaaMgE5
import Derived.Test.YtefdciaijjgieaaMgE13
import Derived.Test.YtefdciaijjgieaaMgE8
import Derived.Shelf.Small.Strs
import Derived.Shelf.Strings.Search1
import Derived.Shelf.Strings.Search2
import Derived.Shelf.Strings.Search3
import Derived.Shelf.LaysM
import Derived.Shelf.Strings.Shaped
import Derived.Shelf.Sort.Plain
import Derived.Shelf.Strings.Prefix
import Derived.Shelf.Slices.In.SortNone
import Derived.Test.YtefdciaijjgieaaProg
/- Factors of a word: what chapter 7 is to return. No program in it. -/
namespace Go.Proofs.Ytefdciaijjgieaa
open Go.RowKit

/-- the factors of n letters, ascending -/
def fctL (s : ByteArray) (n : Nat) : List ByteArray := facTo s n (s.size + 1 - n)
def fctOk (s : ByteArray) (n : Int) : Bool := wordB s && (decide (1 ≤ n) && decide (n ≤ 400))
def fctR (s : ByteArray) (n : Int) : List ByteArray := if fctOk s n = true then fctL s n.toNat else []
def cpxR (s : ByteArray) (n : Int) : Int := if fctOk s n = true then ((fctL s n.toNat).length : Int) else -1
def allTo (s : ByteArray) : Nat → Nat
  | 0 => 0
  | k + 1 => allTo s k + (fctL s (k + 1)).length
def allOk (s : ByteArray) : Bool := wordB s && decide (s.size ≤ 60)
def allR (s : ByteArray) : Int := if allOk s = true then (allTo s s.size : Int) else -1
/-- the factor and a letter behind it or ahead of it -/
def exL (f : ByteArray) (before : Bool) (k : Nat) : ByteArray := if before = true then ⟨#[letterN k]⟩ ++ f else f ++ ⟨#[letterN k]⟩
/-- the letters behind or ahead of a factor -/
noncomputable def nxtS (s f : ByteArray) (before : Bool) : ByteArray := ⟨(outTo (fun k => hasR s (exL f before k)) 4).toArray⟩
noncomputable def nxtR (s f : ByteArray) (before : Bool) : ByteArray := if (wordB s && wordB f) = true then nxtS s f before else ⟨#[]⟩
noncomputable def spcL (s : ByteArray) (n : Nat) (before : Bool) : List ByteArray := (fctL s n).filter fun f => decide (1 < (nxtS s f before).size)
noncomputable def spcR (s : ByteArray) (n : Int) (before : Bool) : List ByteArray := if fctOk s n = true then spcL s n.toNat before else []
/-- the index of a string in a list, or -1 -/
def atN (l : List ByteArray) (x : ByteArray) : Nat := l.findIdx fun y => x.toList == y.toList
def atR (l : List ByteArray) (x : ByteArray) : Int := if atN l x < l.length then (atN l x : Int) else -1
def edgeL (s : ByteArray) (n : Nat) : List (List Int) := (fctL s (n + 1)).map fun f => [atR (fctL s n) (f.extract 0 n), atR (fctL s n) (f.extract 1 f.size)]
def grfR (s : ByteArray) (n : Int) : List (List Int) := if fctOk s n = true then edgeL s n.toNat else []
end Go.Proofs.Ytefdciaijjgieaa

/- The program's WordOk: isLetter, ok and WordOk. No condition but that a text has at most 2^63 bytes. -/
namespace Go.Proofs.Ytefdciaijjgieaa
open Go.RowKit

theorem isLetter_any (n : Int) (w : World) :
    Calls Try.prog 83 #[.int .i32 n] w fun e w' => e = .returned (.bool (decide (97 ≤ n) && decide (n < 101))) ∧ w = w' := by
  by_cases h1 : 97 ≤ n
  · have hd1 : decide ((97 : Int) ≤ n) = true := by simpa using h1
    go_enter Try.func83, Try.ntmps83
    go_wp2
    go_ret
    exact ⟨ret_bool (by simp [h1]), rfl⟩
  · have hd1 : decide ((97 : Int) ≤ n) = false := by simpa using h1
    go_enter Try.func83, Try.ntmps83
    go_wp2
    go_ret
    exact ⟨ret_bool (by simp), rfl⟩

set_option maxHeartbeats 400000 in
theorem implOk (s : ByteArray) (w : World) (_ : s.size ≤ 1048576) :
    Calls Try.prog 71 #[.string s] w fun e w' => e = .returned (.bool (wordB s)) ∧ Below w.heap.size w w' := by
  by_cases hl : 400 < s.size
  · have HE := Lib.hid (word_long hl)
    go_enter Try.func71, Try.ntmps71
    go_wp2
    go_ret
    exact ⟨ret_bool HE.out.symm, Below.refl _ _⟩
  have hs : s.size ≤ 400 := by omega
  go_enter Try.func71, Try.ntmps71
  go_wp2
  go_loopw [4] (fun _ w' => ∃ k : Nat, k ≤ s.size ∧ w' = w.iter s k ∧ (s.data.toList.take k).all isAbcd = true) (fun _ w' => s.size - w'.iterPos w.heap.size)
  case atStart => exact ⟨0, Nat.zero_le _, rfl, rfl⟩
  case round =>
    obtain ⟨k, hk, rfl, ha⟩ := hrel
    have HA := Lib.hid ha
    clear ha
    by_cases hlt : k < s.size
    · by_cases hc : isAbcd s[k] = true
      · have hasc : s[k].toNat < 128 := by simp [isAbcd] at hc; omega
        have hnx : ∀ ty, (Instr.next (.pointer (some ⟨w.heap.size, 0, none⟩)) true ty).run Try.prog (w.iter s k) = _ := fun ty => run_next_ascii w s k ty hlt hasc
        have hd1 : (decide ((97 : Int) ≤ s[k].toNat) && decide ((s[k].toNat : Int) < 101)) = true := by simp [isAbcd] at hc; simp; omega
        have HC := Lib.hid hc
        clear hc
        go_wp2_with (go_at_call 83; refine (isLetter_any _ _).mono ?_; rintro e w' ⟨rfl, rfl⟩)
        go_roundw
        case rel => exact ⟨k + 1, by omega, rfl, all_snoc s k hlt HA.out HC.out⟩
        case measure => simp; omega
      · have hf : isAbcd s[k] = false := by simpa using hc
        have hn : ∃ n : Nat, ∃ m : Nat, (∀ ty, (Instr.next (.pointer (some ⟨w.heap.size, 0, none⟩)) true ty).run Try.prog (w.iter s k) = .ok (.tuple #[.bool true, .int .i64 k, .int .i32 n]) (w.iter s m)) ∧ (n < 97 ∨ 100 < n) := by
          by_cases hasc : s[k].toNat < 128
          · exact ⟨_, _, fun ty => run_next_ascii w s k ty hlt hasc, by simp [isAbcd] at hf; omega⟩
          · have hd := decode_high s k hlt (by omega)
            exact ⟨_, _, fun ty => run_next_any w s k ty hlt, by omega⟩
        obtain ⟨n, m, hnx, hor⟩ := hn
        have HF := Lib.hid hf
        clear hf hc
        have hd1 : (decide ((97 : Int) ≤ n) && decide ((n : Int) < 101)) = false := by simp; omega
        go_wp2_with (go_at_call 83; refine (isLetter_any _ _).mono ?_; rintro e w' ⟨rfl, rfl⟩)
        go_ret
        exact ⟨ret_bool (word_not k hlt HF.out).symm, below_iter _ _ _⟩
    · have hnx : ∀ ty, (Instr.next (.pointer (some ⟨w.heap.size, 0, none⟩)) true ty).run Try.prog (w.iter s k) = _ := fun ty => run_next_end w s k ty hlt
      have hk' : k = s.size := by omega
      have HY := Lib.hid (word_yes hs (hk' ▸ HA.out))
      clear hk'
      go_wp2
      go_ret
      exact ⟨ret_bool HY.out.symm, below_iter _ _ _⟩

theorem implWordOk (s : ByteArray) (w : World) (hs : s.size ≤ 1048576) :
    Calls Try.prog 46 #[.string s] w fun e w' => e = .returned (.bool (wordB s)) ∧ Below w.heap.size w w' := by
  go_enter Try.func46, Try.ntmps46
  go_wp2_with fail
  refine (implOk s _ hs).mono ?_
  rintro e w' ⟨rfl, hb⟩
  go_wp2_with fail
  go_ret
  exact ⟨rfl, hb⟩

theorem implIsLetterWord (s : ByteArray) (w : World) (hs : s.size ≤ 1048576) :
    Calls Try.prog 79 #[.string s] w fun e w' => e = .returned (.bool (decide (s.size = 1) && wordB s)) ∧ Below w.heap.size w w' := by
  by_cases h1 : s.size = 1
  · have b1 : ((s.size : Int) == 1) = true := by rw [h1]; rfl
    have HD := Lib.hid (decide_eq_true h1)
    clear h1
    go_enter Try.func79, Try.ntmps79
    go_wp2_with fail
    refine (implOk s _ hs).mono ?_
    rintro e w' ⟨rfl, hb⟩
    go_wp2_with fail
    go_ret
    exact ⟨ret_bool (by rw [HD.out, Bool.true_and]), hb⟩
  · have b1 : ((s.size : Int) == 1) = false := by rw [beq_eq_false_iff_ne]; omega
    have HD := Lib.hid (decide_eq_false h1)
    clear h1
    go_enter Try.func79, Try.ntmps79
    go_wp2_with fail
    go_ret
    exact ⟨ret_bool (by rw [HD.out, Bool.false_and]), Below.refl _ _⟩
end Go.Proofs.Ytefdciaijjgieaa

/- The program's sets of factors: canHaveFactors, factors, followed, led. Conditions: lengths. -/
namespace Go.Proofs.Ytefdciaijjgieaa
open Go.RowKit
abbrev tSet : TypeId := 69
theorem uSet : Try.prog.underlying tSet = some (.map fK 4) := Try.underlying69

theorem build_f (s : ByteArray) (w : World) : (Instr.build 72 #[(0, .string s)]).run Try.prog w = .ok (.agg #[.string s, .int .u8 0]) w := run_build w _ _ _ (by kernel_rfl)
theorem build_fb (s : ByteArray) (z : Int) (w : World) : (Instr.build 72 #[(0, .string s), (1, .int .u8 z)]).run Try.prog w = .ok (.agg #[.string s, .int .u8 z]) w := run_build w _ _ _ (by kernel_rfl)
theorem fok_part (s : ByteArray) (hs : s.size ≤ 1048576) (i n : Nat) (z : Int) (h : 0 ≤ z ∧ z ≤ 255) : FOk (s.extract i (i + n), z) :=
  ⟨by show (s.extract i (i + n)).size ≤ maxLen; rw [ByteArray.size_extract]; unfold maxLen; omega, h⟩

/-- the keys of a set -/
def SetIs (L : List FK) (S : FK → Prop) : Prop := ∀ p, p ∈ L ↔ S p
def facS (s : ByteArray) (n i : Nat) (p : FK) : Prop := ∃ j, j < i ∧ p = (s.extract j (j + n), 0)
def folS (s : ByteArray) (n i : Nat) (p : FK) : Prop := ∃ j, j < i ∧ ∃ h : j + n < s.size, p = (s.extract j (j + n), (s[j + n].toNat : Int))
def ledS (s : ByteArray) (n i : Nat) (p : FK) : Prop := ∃ j, j < i ∧ ∃ h : j + n < s.size, p = (s.extract (j + 1) (j + 1 + n), ((s[j]'(by omega)).toNat : Int))
theorem set_empty {S : FK → Prop} (h : ∀ p, ¬ S p) : SetIs [] S := fun p => by simp [h p]
theorem set_next {L L' : List FK} {S S' : FK → Prop} {q : FK} (h : SetIs L S) (h' : ∀ p, p ∈ L' ↔ p = q ∨ p ∈ L) (hS : ∀ p, S' p ↔ p = q ∨ S p) : SetIs L' S' := fun p => by rw [h', h p, hS p]
theorem facS_zero (s : ByteArray) (n : Nat) (p : FK) : ¬ facS s n 0 p := by rintro ⟨j, h, _⟩; omega
theorem folS_zero (s : ByteArray) (n : Nat) (p : FK) : ¬ folS s n 0 p := by rintro ⟨j, h, _⟩; omega
theorem ledS_zero (s : ByteArray) (n : Nat) (p : FK) : ¬ ledS s n 0 p := by rintro ⟨j, h, _⟩; omega
theorem facS_next (s : ByteArray) (n i : Nat) (p : FK) : facS s n (i + 1) p ↔ p = (s.extract i (i + n), 0) ∨ facS s n i p := by
  constructor
  · rintro ⟨j, h, e⟩
    by_cases hj : j = i
    · subst hj; exact .inl e
    · exact .inr ⟨j, by omega, e⟩
  · rintro (e | ⟨j, h, e⟩)
    · exact ⟨i, by omega, e⟩
    · exact ⟨j, by omega, e⟩
theorem folS_next (s : ByteArray) (n i : Nat) (hin : i + n < s.size) (p : FK) : folS s n (i + 1) p ↔ p = (s.extract i (i + n), (s[i + n].toNat : Int)) ∨ folS s n i p := by
  constructor
  · rintro ⟨j, h, e⟩
    by_cases hj : j = i
    · subst hj; exact .inl e.2
    · exact .inr ⟨j, by omega, e⟩
  · rintro (e | ⟨j, h, e⟩)
    · exact ⟨i, by omega, hin, e⟩
    · exact ⟨j, by omega, e⟩
theorem ledS_next (s : ByteArray) (n i : Nat) (hin : i + n < s.size) (p : FK) : ledS s n (i + 1) p ↔ p = (s.extract (i + 1) (i + 1 + n), ((s[i]'(by omega)).toNat : Int)) ∨ ledS s n i p := by
  constructor
  · rintro ⟨j, h, e⟩
    by_cases hj : j = i
    · subst hj; exact .inl e.2
    · exact .inr ⟨j, by omega, e⟩
  · rintro (e | ⟨j, h, e⟩)
    · exact ⟨i, by omega, hin, e⟩
    · exact ⟨j, by omega, e⟩

set_option maxHeartbeats 400000 in
theorem implFactors (s : ByteArray) (n : Nat) (w : World) (hs : s.size ≤ 400) (h1 : 1 ≤ n) (h8 : n ≤ 1000) :
    Calls Try.prog 72 #[.string s, .int .i64 n] w fun e w' => ∃ L, e = .returned (.map (some w.heap.size)) ∧ FSet w' w.heap.size L ∧ SetIs L (facS s n (s.size + 1 - n)) ∧ L.length ≤ 400 ∧ Below w.heap.size w w' := by
  have hmm := @run_makeMap Try.prog
  have hbf := build_f
  go_enter Try.func72, Try.ntmps72
  go_wp2_with fail
  go_loopw [13] (fun ix w' => ∃ (i : Nat) (L : List FK), i ≤ s.size + 1 - n ∧ ix = .int .i64 (i : Int) ∧ FSet w' w.heap.size L ∧ SetIs L (facS s n i) ∧ L.length ≤ i ∧ Below w.heap.size w w') (fun ix _ => s.size + 1 - n - (intOf ix).toNat)
  case atStart => exact ⟨0, [], by omega, rfl, FMap.made w _, set_empty (facS_zero s n), Nat.le_refl _, (Below.refl _ _).alloc (Nat.le_refl _) _⟩
  case round =>
    obtain ⟨i, L, hi, rfl, hF, hL, hl, hb⟩ := hrel
    have HF := Lib.hid hF
    have HL := Lib.hid hL
    have HB := Lib.hid hb
    clear hF hL hb
    by_cases hlt : i < s.size + 1 - n
    · have dlt : (i : Int) < (s.size : Int) - (n : Int) + 1 := by omega
      have hsl : ∀ w : World, (Instr.slice 48 (.string s) (some (.int .i64 (i : Int))) (some (.int .i64 ((i : Int) + (n : Int)))) none).run Try.prog w = .ok (.string (s.extract i (i + n))) w := fun w => slice_at Try.underlying48 s i n w (by omega)
      go_wp2_with (at_mapUpdate; refine wp_put _ rfl _ _ _ tSet rfl fT fk_law uSet w.heap.size L (fun _ => .bool true) rfl HF.out (by unfold maxLen; omega) (s.extract i (i + n), 0) (.bool true) rfl rfl (fok_part s (by omega) i n 0 (by omega)) (fun _ => .bool true) (fun _ _ _ => rfl) (plainElem_bool Try.underlying4 true) ?_; intro w2 L2 hF2 hm2 hl2 hg2 hs2)
      go_roundw
      case rel =>
        exact ⟨i + 1, L2, by omega, by go_num, hF2, set_next HL.out hm2 (facS_next s n i), by omega, HB.out.grown hg2 HB.out.size (fun k hk => by injection hk with hk; omega)⟩
      case measure => simp [intOf]; omega
    · have hii : i = s.size + 1 - n := by omega
      have dlt : ¬ (i : Int) < (s.size : Int) - (n : Int) + 1 := by omega
      go_wp2_with fail
      go_ret
      exact ⟨rfl, L, HF.out, by rw [← hii]; exact HL.out, by omega, HB.out⟩

end Go.Proofs.Ytefdciaijjgieaa

/-
  DERIVED: THE SHELF's CONTRACTS AT THIS DUMP, IN PLAIN WORDS (tools/lay-plain.mjs out of 'TryShelf.lean', which tools/lay-shelf.mjs wrote): THE SAME DECLARATIONS UNDER THE SAME NAMES: 'import', 'namespace', 'open', 'def', 'theorem' AND NOTHING ELSE: no command of the shelf's: FOR A HAND-IN. Each laying: the table of numbers ('.._ren') and one theorem, a field a fact of the dump's own or the kernel's comparison; each contract: ONE APPLICATION.
-/
namespace Go.Proofs
open Go.Shelf
def Try.lays137_ren : Go.Shelf.Ren := ⟨fun | 137 => 97 | 217 => 108 | 266 => 114 | n => n, fun | 9 => 9 | 5 => 5 | 3 => 3 | n => n, fun | n => n⟩
theorem Try.lays137 : Go.Proofs.Lays.n137 Try.prog Try.lays137_ren := {
  mixed := by kernel_rfl
  f137 := Try.func97.trans (congrArg some (by kernel_rfl))
  f217 := Try.func108.trans (congrArg some (by kernel_rfl))
  f266 := Try.func114.trans (congrArg some (by kernel_rfl))
  t3 := Try.underlying3
  a3 := Try.isAgg3
  z3 := Try.sizeOf3
  v3 := Try.zeroValue3
  t5 := Try.underlying5
  a5 := Try.isAgg5
  z5 := Try.sizeOf5
  v5 := Try.zeroValue5
  t9 := Try.underlying9
  a9 := Try.isAgg9
  z9 := Try.sizeOf9
  v9 := Try.zeroValue9 }
open Go.RowKit in
/-- strings.IndexByte: "IndexByte returns the index of the first instance of c in s, or -1 if c is not present in s.": IT RETURNS 'Lib.indexByte s c'; the world is as it was. (LAID: no walk: one application.) -/
theorem Try.strings_IndexByte (s : ByteArray) (c : Int) (w : World) :
    Calls Try.prog 97 #[.string s, .int .u8 c] w fun e w' => e = .returned (.int .i64 (Lib.indexByte s.data.toList c.toNat.toUInt8)) ∧ w' = w := Any.strings_IndexByte Try.lays137 s c w
def Try.lays144_ren : Go.Shelf.Ren := ⟨fun | 144 => 52 | 143 => 76 | 219 => 96 | 217 => 108 | 225 => 109 | 224 => 110 | 267 => 111 | 266 => 114 | 314 => 115 | n => n, fun | 9 => 9 | 4 => 4 | 3 => 3 | 5 => 5 | 46 => 75 | 146 => 116 | 51 => 98 | n => n, fun | 1 => 0 | n => n⟩
theorem Try.lays144 : Go.Proofs.Lays.n144 Try.prog Try.lays144_ren := {
  mixed := by kernel_rfl
  f143 := Try.func76.trans (congrArg some (by kernel_rfl))
  f144 := Try.func52.trans (congrArg some (by kernel_rfl))
  f217 := Try.func108.trans (congrArg some (by kernel_rfl))
  f219 := Try.func96.trans (congrArg some (by kernel_rfl))
  f224 := Try.func110.trans (congrArg some (by kernel_rfl))
  f225 := Try.func109.trans (congrArg some (by kernel_rfl))
  f266 := Try.func114.trans (congrArg some (by kernel_rfl))
  f267 := Try.func111.trans (congrArg some (by kernel_rfl))
  f314 := Try.func115.trans (congrArg some (by kernel_rfl))
  t3 := Try.underlying3
  a3 := Try.isAgg3
  z3 := Try.sizeOf3
  v3 := Try.zeroValue3
  t4 := Try.underlying4
  a4 := Try.isAgg4
  z4 := Try.sizeOf4
  v4 := Try.zeroValue4
  t5 := Try.underlying5
  a5 := Try.isAgg5
  z5 := Try.sizeOf5
  v5 := Try.zeroValue5
  t9 := Try.underlying9
  a9 := Try.isAgg9
  z9 := Try.sizeOf9
  v9 := Try.zeroValue9
  t46 := Try.underlying75
  a46 := Try.isAgg75
  z46 := Try.sizeOf75
  v46 := Try.zeroValue75
  t51 := Try.underlying98
  a51 := Try.isAgg98
  z51 := Try.sizeOf98
  v51 := Try.zeroValue98
  t146 := Try.underlying116
  a146 := Try.isAgg116
  z146 := Try.sizeOf116
  v146 := Try.zeroValue116
  g1 := by kernel_rfl }
open Go.RowKit Go.Lib in
/-- strings.Contains: "Contains reports whether substr is within s.": AT A substr OF ONE BYTE c: IT RETURNS 'decide (0 ≤ Lib.indexByte s c)'; the world is as it was. (LAID: no walk: one application.) -/
theorem Try.strings_Contains_one (s : ByteArray) (c : UInt8) (w : World) :
    Calls Try.prog 52 #[.string s, .string ⟨#[c]⟩] w fun e w' => e = .returned (.bool (decide (0 ≤ Lib.indexByte s.data.toList c))) ∧ w' = w := Any.strings_Contains_one Try.lays144 s c w
open Go.RowKit Go.Lib in
/-- strings.Contains: "Contains reports whether substr is within s.": IT RETURNS 'Lib.contains s substr'; the world is as it was. (LAID: no walk: one application.) -/
theorem Try.strings_Contains (s sub : ByteArray) (m : Int) (w : World) (hs : s.size < 4294967281) (hm : w.cell? ⟨0, 0, none⟩ = some (.int .i64 m)) :
    Calls Try.prog 52 #[.string s, .string sub] w fun e w' => e = .returned (.bool (Lib.contains s.data.toList sub.data.toList)) ∧ w' = w := Any.strings_Contains Try.lays144 s sub m w hs hm
def Try.laysM144_ren : Go.Shelf.Ren := ⟨fun | 144 => 52 | 143 => 76 | 219 => 96 | 217 => 108 | 225 => 109 | 224 => 110 | 267 => 111 | 266 => 114 | 314 => 115 | n => n, fun | 9 => 9 | 4 => 4 | 3 => 3 | 5 => 5 | 46 => 75 | 146 => 116 | 51 => 98 | n => n, fun | 1 => 0 | n => n⟩
theorem Try.laysM144 : Go.Proofs.LaysM.n144 Try.prog Try.laysM144_ren := {
  mixed := by kernel_rfl
  f143 := Try.func76.trans (congrArg some (by kernel_rfl))
  f144 := Try.func52.trans (congrArg some (by kernel_rfl))
  f217 := Try.func108.trans (congrArg some (by kernel_rfl))
  f219 := Try.func96.trans (congrArg some (by kernel_rfl))
  f224 := Try.func110.trans (congrArg some (by kernel_rfl))
  f225 := Try.func109.trans (congrArg some (by kernel_rfl))
  f266 := Try.func114.trans (congrArg some (by kernel_rfl))
  f267 := Try.func111.trans (congrArg some (by kernel_rfl))
  f314 := Try.func115.trans (congrArg some (by kernel_rfl))
  t3 := Try.underlying3
  a3 := Try.isAgg3
  z3 := Try.sizeOf3
  v3 := Try.zeroValue3
  t4 := Try.underlying4
  a4 := Try.isAgg4
  z4 := Try.sizeOf4
  v4 := Try.zeroValue4
  t5 := Try.underlying5
  a5 := Try.isAgg5
  z5 := Try.sizeOf5
  v5 := Try.zeroValue5
  t9 := Try.underlying9
  a9 := Try.isAgg9
  z9 := Try.sizeOf9
  v9 := Try.zeroValue9
  t46 := Try.underlying75
  a46 := Try.isAgg75
  z46 := Try.sizeOf75
  v46 := Try.zeroValue75
  t51 := Try.underlying98
  a51 := Try.isAgg98
  z51 := Try.sizeOf98
  v51 := Try.zeroValue98
  t146 := Try.underlying116
  a146 := Try.isAgg116
  z146 := Try.sizeOf116
  v146 := Try.zeroValue116
  g1 := by kernel_rfl
  i3 := by kernel_rfl
  i4 := by kernel_rfl
  i5 := by kernel_rfl
  i9 := by kernel_rfl
  i46 := by kernel_rfl
  i51 := by kernel_rfl
  i146 := by kernel_rfl
  m1 := by kernel_rfl
  s1_3 := fun w h => Go.Proofs.cell_of_shapedOpen_int (zero := #[.int .i64 0]) (t := 3) h (of_decide_eq_true (by kernel_rfl)) (by kernel_rfl) rfl (by kernel_rfl) (by kernel_rfl) Try.underlying3 }
def Try.lays190_ren : Go.Shelf.Ren := ⟨fun | 190 => 48 | 125 => 74 | 258 => 73 | 128 => 93 | 129 => 94 | 302 => 84 | 303 => 85 | 304 => 86 | 305 => 87 | 306 => 88 | 307 => 89 | 308 => 90 | 309 => 91 | 310 => 92 | 333 => 102 | 329 => 103 | 330 => 104 | 334 => 105 | 335 => 106 | 336 => 107 | 344 => 113 | n => n, fun | 31 => 24 | 9 => 9 | 3 => 3 | 46 => 75 | 0 => 0 | 51 => 98 | 53 => 100 | 4 => 4 | 183 => 91 | 182 => 90 | 131 => 95 | 5 => 5 | 218 => 107 | 222 => 111 | 228 => 114 | 229 => 27 | n => n, fun | n => n⟩
theorem Try.lays190 : Go.Proofs.Lays.n190 Try.prog Try.lays190_ren := {
  mixed := by kernel_rfl
  f125 := Try.func74.trans (congrArg some (by kernel_rfl))
  f128 := Try.func93.trans (congrArg some (by kernel_rfl))
  f129 := Try.func94.trans (congrArg some (by kernel_rfl))
  f190 := Try.func48.trans (congrArg some (by kernel_rfl))
  f258 := Try.func73.trans (congrArg some (by kernel_rfl))
  f302 := Try.func84.trans (congrArg some (by kernel_rfl))
  f303 := Try.func85.trans (congrArg some (by kernel_rfl))
  f304 := Try.func86.trans (congrArg some (by kernel_rfl))
  f305 := Try.func87.trans (congrArg some (by kernel_rfl))
  f306 := Try.func88.trans (congrArg some (by kernel_rfl))
  f307 := Try.func89.trans (congrArg some (by kernel_rfl))
  f308 := Try.func90.trans (congrArg some (by kernel_rfl))
  f309 := Try.func91.trans (congrArg some (by kernel_rfl))
  f310 := Try.func92.trans (congrArg some (by kernel_rfl))
  f329 := Try.func103.trans (congrArg some (by kernel_rfl))
  f330 := Try.func104.trans (congrArg some (by kernel_rfl))
  f333 := Try.func102.trans (congrArg some (by kernel_rfl))
  f334 := Try.func105.trans (congrArg some (by kernel_rfl))
  f335 := Try.func106.trans (congrArg some (by kernel_rfl))
  f336 := Try.func107.trans (congrArg some (by kernel_rfl))
  f344 := Try.func113.trans (congrArg some (by kernel_rfl))
  t0 := Try.underlying0
  a0 := Try.isAgg0
  z0 := Try.sizeOf0
  v0 := Try.zeroValue0
  t3 := Try.underlying3
  a3 := Try.isAgg3
  z3 := Try.sizeOf3
  v3 := Try.zeroValue3
  t4 := Try.underlying4
  a4 := Try.isAgg4
  z4 := Try.sizeOf4
  v4 := Try.zeroValue4
  t5 := Try.underlying5
  a5 := Try.isAgg5
  z5 := Try.sizeOf5
  v5 := Try.zeroValue5
  t9 := Try.underlying9
  a9 := Try.isAgg9
  z9 := Try.sizeOf9
  v9 := Try.zeroValue9
  t31 := Try.underlying24
  a31 := Try.isAgg24
  z31 := Try.sizeOf24
  v31 := Try.zeroValue24
  t46 := Try.underlying75
  a46 := Try.isAgg75
  z46 := Try.sizeOf75
  v46 := Try.zeroValue75
  t51 := Try.underlying98
  a51 := Try.isAgg98
  z51 := Try.sizeOf98
  v51 := Try.zeroValue98
  t53 := Try.underlying100
  a53 := Try.isAgg100
  z53 := Try.sizeOf100
  v53 := Try.zeroValue100
  t131 := Try.underlying95
  a131 := Try.isAgg95
  z131 := Try.sizeOf95
  v131 := Try.zeroValue95
  t182 := Try.underlying90
  a182 := Try.isAgg90
  z182 := Try.sizeOf90
  v182 := Try.zeroValue90
  t183 := Try.underlying91
  a183 := Try.isAgg91
  z183 := Try.sizeOf91
  v183 := Try.zeroValue91
  t218 := Try.underlying107
  a218 := Try.isAgg107
  z218 := Try.sizeOf107
  v218 := Try.zeroValue107
  t222 := Try.underlying111
  a222 := Try.isAgg111
  z222 := Try.sizeOf111
  v222 := Try.zeroValue111
  t228 := Try.underlying114
  a228 := Try.isAgg114
  z228 := Try.sizeOf114
  v228 := Try.zeroValue114
  t229 := Try.underlying27
  a229 := Try.isAgg27
  z229 := Try.sizeOf27
  v229 := Try.zeroValue27 }
open Go.Sort Go.RowKit in
theorem Try.slices_Sort_string (blk off cap : Nat) (ss : List (List UInt8)) (w : World) (hH : Holds encStr w blk off ss.toArray) (hblk : blk < w.heap.size) (hsz : ss.length < 4611686018427387904) :
    Calls Try.prog 48 #[.slice (some ⟨blk, off, none⟩) ss.length cap] w fun e w' =>
      e = .returned (.tuple #[]) ∧ ∃ n os, w' = grow (putRow encStr (Sort.ahead w n) blk off (ss.mergeSort fun x y => decide (x ≤ y)).toArray) os := Any.slices_Sort_string Try.lays190 blk off cap ss w hH hblk hsz
def Try.lays100_ren : Go.Shelf.Ren := ⟨fun | 100 => 75 | 207 => 95 | n => n, fun | 9 => 9 | 4 => 4 | 3 => 3 | n => n, fun | n => n⟩
theorem Try.lays100 : Go.Proofs.Lays.n100 Try.prog Try.lays100_ren := {
  mixed := by kernel_rfl
  f100 := Try.func75.trans (congrArg some (by kernel_rfl))
  f207 := Try.func95.trans (congrArg some (by kernel_rfl))
  t3 := Try.underlying3
  a3 := Try.isAgg3
  z3 := Try.sizeOf3
  v3 := Try.zeroValue3
  t4 := Try.underlying4
  a4 := Try.isAgg4
  z4 := Try.sizeOf4
  v4 := Try.zeroValue4
  t9 := Try.underlying9
  a9 := Try.isAgg9
  z9 := Try.sizeOf9
  v9 := Try.zeroValue9 }
open Go.RowKit Go.Lib in
/-- strings.HasSuffix: "HasSuffix reports whether the string s ends with suffix.": IT RETURNS 'Lib.hasSuffix s suffix'; the world is as it was. ('hs': no Go string is longer: a caller has it of every string that it was handed.) (LAID: no walk: one application.) -/
theorem Try.strings_HasSuffix (s p : ByteArray) (w : World) (hs : s.size ≤ 9223372036854775807) :
    Calls Try.prog 75 #[.string s, .string p] w fun e w' => e = .returned (.bool (Lib.hasSuffix s.data.toList p.data.toList)) ∧ w' = w := Any.strings_HasSuffix Try.lays100 s p w hs
open Go.RowKit Go.Sort in
/-- .. and plain. (LAID: no walk: one application.) -/
theorem Try.slices_Sort_string_none (p : Option Addr) (cap : Nat) (w : World) :
    Calls Try.prog 48 #[.slice p 0 cap] w fun e w' => e = .returned (.tuple #[]) ∧ w' = w := Any.slices_Sort_string_none Try.lays190 p cap w
end Go.Proofs
