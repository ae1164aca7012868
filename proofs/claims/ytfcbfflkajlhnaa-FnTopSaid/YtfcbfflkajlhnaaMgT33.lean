/- Texts put together. -/
import Derived.Test.YtfcbfflkajlhnaaMgT32
import Derived.Test.YtfcbfflkajlhnaaMgT11
import Derived.Test.YtfcbfflkajlhnaaMgT8
import Derived.Test.YtfcbfflkajlhnaaMgT2
import Derived.Test.YtfcbfflkajlhnaaMgT3
import Derived.IntWalk
import Derived.Test.YtfcbfflkajlhnaaMgT18
import Derived.Deep.AppendLies
/- The model's draws of words: l02Word. Condition: the bytes are at most 2^20. -/
namespace Go.Proofs.Ytfcbfflkajlhnaa
open Go.RowKit

theorem Cur.apart {w w' : World} {g : Nat} {v : Value} {zs : List Int} {row : Option Nat} (h : Cur w g v zs) (hg : w.grownBy w' row) (h1 : row ≠ some g) (h2 : zs = [] ∨ ∀ k, v.ownBlock = some k → row ≠ some k) : Cur w' g v zs := by
  obtain ⟨i, hh, a, b, c, d⟩ := h
  have hgl : g < w.heap.size := by
    rcases Nat.lt_or_ge g w.heap.size with hl | hl
    · exact hl
    · rw [Array.getElem?_eq_none hl] at a; cases a
  refine ⟨i, hh, (hg.block g hgl (fun e => h1 e.symm)).trans a, b, ?_, d⟩
  refine c.grown2 hg ?_
  rcases h2 with rfl | h2
  · exact .inl rfl
  · exact .inr h2
theorem cur_lt {w : World} {g : Nat} {v : Value} {zs : List Int} (h : Cur w g v zs) : g < w.heap.size ∧ (zs = [] ∨ ∀ k, v.ownBlock = some k → k < w.heap.size) := by
  obtain ⟨i, hh, a, b, c, d⟩ := id h
  refine ⟨h.ptr, ?_⟩
  rcases lst_lt c with e | e
  · left
    have := congrArg List.length e
    rw [bytesV_length] at this
    exact List.eq_nil_of_length_eq_zero this
  · exact .inr e
/-- what the call makes itself does not touch the cursor -/
theorem Cur.made {w w1 w2 : World} {g B : Nat} {v : Value} {zs : List Int} {row : Option Nat} (h0 : Cur w g v zs) (h : Cur w1 g v zs) (hg : w1.grownBy w2 row) (hr : ∀ k, row = some k → B ≤ k) (hB : w.heap.size ≤ B) : Cur w2 g v zs := by
  obtain ⟨a, b⟩ := cur_lt h0
  refine h.apart hg (fun e => by have := hr g e; omega) ?_
  rcases b with b | b
  · exact .inl b
  · exact .inr fun k hk e => by have := hr k e; have := b k hk; omega
theorem grown_made {w w1 w2 : World} {g B : Nat} {row : Option Nat} (h : w.grownBy w1 (some g)) (hg : w1.grownBy w2 row) (hr : ∀ k, row = some k → B ≤ k) (hB : w.heap.size ≤ B) : w.grownBy w2 (some g) :=
  ⟨hg.os.trans h.os, hg.tape.trans h.tape, hg.output.trans h.output, Nat.le_trans h.size hg.size, fun k hk hne => (hg.block k (Nat.lt_of_lt_of_le hk h.size) (fun e => by have := hr k e.symm; omega)).trans (h.block k hk hne)⟩

def WordSaid (n k : Int) (g : Nat) (v : Value) (zs : List Int) (w : World) (e : Ending) (w' : World) : Prop :=
  ∃ s : ByteArray, e = .returned (.string s) ∧ (s.size : Int) = n ∧ (∀ c ∈ s.data.toList, 97 ≤ c.toNat ∧ (c.toNat : Int) < 97 + k) ∧ Cur w' g v zs ∧ w.grownBy w' (some g)

set_option maxHeartbeats 1000000 in
set_option maxRecDepth 100000 in
theorem l02Word_any (n k : Int) (g : Nat) (v : Value) (zs : List Int) (w : World) (hz : IsBytes zs) (hc : Cur w g v zs) (hn0 : 0 ≤ n) (hn : n ≤ 400) (hk0 : 0 < k) (hk : k ≤ 4) :
    Calls Try.prog 107 #[.pointer (some ⟨g, 0, none⟩), .int .i64 n, .int .i64 k] w (WordSaid n k g v zs w) := by
  obtain ⟨i0, hi0, hz0, hz1, hz2⟩ := info_parts u8_info
  have HZ := Lib.hid hz
  have HC := Lib.hid hc
  have hgl := (cur_lt hc).1
  clear hz hc
  go_enter Try.func107, Try.ntmps107
  go_wp2_with fail
  go_loopw [7, 8] (fun b i w' => ∃ (j : Nat) (ys : List UInt8), (j : Int) ≤ n ∧ i = .int .i64 j ∧ ys.length = j ∧ (∀ c ∈ ys, 97 ≤ c.toNat ∧ (c.toNat : Int) < 97 + k) ∧ w'.ownsRow w.heap.size 5 1 b j (byteCells ys) ∧ Cur w' g v zs ∧ w.grownBy w' (some g)) (fun _ i _ => (n - intOf i).toNat)
  case atStart => exact ⟨0, [], hn0, rfl, rfl, by simp, own_made0 _ _ _ (Nat.le_refl _), HC.out.below ((Below.refl _ _).alloc (Nat.le_refl _) _), World.grownBy_alloc _ _ _⟩
  case round =>
    obtain ⟨j, ys, hj, rfl, hyl, hys, ho, hcr, hgr⟩ := hrel
    obtain ⟨A, cp, rfl⟩ := own_slice ho
    have HYS := Lib.hid hys
    have HO := Lib.hid ho
    have HCR := Lib.hid hcr
    have HGR := Lib.hid hgr
    have hszr := hgr.size
    clear hys ho hcr hgr
    by_cases hlt : (j : Int) < n
    · go_wp2_with (first
        | (go_at_call 64
           refine (l01Below_small g v zs k _ HZ.out HCR.out hk0 (by omega)).mono ?_
           rintro e w2 ⟨x, rfl, x0, x1, hc2, hg2⟩
           obtain ⟨m, rfl⟩ := Int.eq_ofNat_of_zero_le x0
           have q1 : IntKind.u8.wrap ((97 : Int) + (m : Int)) = ((letterN m).toNat : Int) := by rw [IntWalk.u8_in _ (by omega), letterN_toNat _ (by omega)]; omega
           have HC2 := Lib.hid hc2
           have HG2 := Lib.hid hg2
           have hsz2 := hg2.size
           have HO2 : Hid (w2.ownsRow w.heap.size 5 1 (.slice A j cp) j (byteCells ys)) := own_apart HO.out hg2 (fun x h1 h2 => by have := (HO.out.lt x h1).1; injection h2 with h2; omega)
           clear hc2 hg2)
        | (at_builtin
           refine wpList_append1g _ rfl (.tmp 15) (.tmp 21) _ rfl w.heap.size 5 i0 _ 1 Try.underlying22 hi0 hz0 hz1 hz2 rfl _ j _ rfl HO2.out (.int .u8 ((letterN m).toNat : Int)) rfl rfl (by unfold maxLen; omega) (by omega) (by omega) ?_
           intro v' w3 hown3 hgr3
           have HOW := Lib.hid hown3
           have HGW := Lib.hid hgr3
           clear hown3 hgr3))
      go_roundw
      case rel =>
        have hrw : ∀ x, (Value.slice A j cp).ownBlock = some x → w.heap.size ≤ x := fun x hx => (HO2.out.lt x hx).1
        have hg02 : w.grownBy w2 (some g) := ⟨HG2.out.os.trans HGR.out.os, HG2.out.tape.trans HGR.out.tape, HG2.out.output.trans HGR.out.output, Nat.le_trans HGR.out.size HG2.out.size, fun x hx hne => (HG2.out.block x (Nat.lt_of_lt_of_le hx HGR.out.size) hne).trans (HGR.out.block x hx hne)⟩
        refine ⟨j + 1, ys ++ [letterN m], by omega, by go_num, by simp [hyl], ?_, ?_, Cur.made HC.out HC2.out HGW.out hrw (Nat.le_refl _), grown_made hg02 HGW.out hrw (Nat.le_refl _)⟩
        · intro c hc
          rcases List.mem_append.1 hc with hc | hc
          · exact HYS.out c hc
          · simp at hc
            subst hc
            rw [letterN_toNat _ (by omega)]
            omega
        · rw [byteCells_snoc]
          exact HOW.out
      case measure => simp [intOf]; omega
    · have hjn : n = (j : Int) := by omega
      have hconv := conv_own HO.out
      have HJ := Lib.hid hjn
      clear hjn
      go_wp2_with fail
      go_ret
      exact ⟨_, rfl, by rw [HJ.out, ← hyl]; simp [ByteArray.size], HYS.out, HCR.out, HGR.out⟩
end Go.Proofs.Ytfcbfflkajlhnaa

/- NamedSubst of the model. No condition. -/
namespace Go.Proofs.Ytfcbfflkajlhnaa
open Go.RowKit

/-- SplitAny, reckoned -/
def splitC (s y : ByteArray) : Nat → List ByteArray × Nat
  | 0 => ([], 0)
  | k + 1 => if h : k < s.size then (if y.data.toList.contains s[k] then ((splitC s y k).1 ++ [s.extract (splitC s y k).2 k], k + 1) else splitC s y k) else splitC s y k
theorem isSep_iff (y : ByteArray) (c : UInt8) : isSep y c ↔ y.data.toList.contains c = true := by
  rw [List.contains_iff_mem]
  constructor
  · rintro ⟨i, h, rfl⟩
    have : y[i] = y.data.toList[i]'(by simpa using h) := rfl
    rw [this]; exact List.getElem_mem _
  · intro h
    obtain ⟨i, hi, e⟩ := List.mem_iff_getElem.1 h
    exact ⟨i, by simpa using hi, e⟩
theorem splitC_eq (s y : ByteArray) : ∀ k, splitTo s y k = splitC s y k
  | 0 => rfl
  | k + 1 => by
    have ih := splitC_eq s y k
    rw [splitC]
    by_cases h : k < s.size
    · rw [dif_pos h]
      by_cases hs : isSep y s[k]
      · rw [splitTo_yes h hs, ih, if_pos ((isSep_iff _ _).1 hs)]
      · rw [splitTo_no h hs, ih, if_neg (fun h' => hs ((isSep_iff _ _).2 h'))]
    · rw [dif_neg h, splitTo, if_neg (fun ⟨h', _⟩ => h h'), ih]
theorem splitL_eq (s y : ByteArray) : splitL s y = (splitC s y s.size).1 ++ [s.extract (splitC s y s.size).2 s.size] := by
  unfold splitL
  rw [splitC_eq]
theorem parse_at {t : ByteArray} {l : List ByteArray} (h : (splitC t ⟨#[44]⟩ t.size).1 ++ [t.extract (splitC t ⟨#[44]⟩ t.size).2 t.size] = l) (h1 : t.size ≤ 40) (h2 : substB l = true) (h3 : fmtR l = t) : parseOk t = true ∧ parseSub t = l := by
  have e : splitL t ⟨#[44]⟩ = l := (splitL_eq _ _).trans h
  have a : parseOk t = true := by
    unfold parseOk
    rw [e, h2, decide_eq_true h1, decide_eq_true h3]
    rfl
  exact ⟨a, (if_pos a).trans e⟩
theorem parse_fibonacci : parseOk ⟨#[97, 98, 44, 97]⟩ = true ∧ parseSub ⟨#[97, 98, 44, 97]⟩ = [⟨#[97, 98]⟩, ⟨#[97]⟩] := parse_at (by kernel_rfl) (by decide) (by kernel_rfl) (by kernel_rfl)
theorem parse_thue : parseOk ⟨#[97, 98, 44, 98, 97]⟩ = true ∧ parseSub ⟨#[97, 98, 44, 98, 97]⟩ = [⟨#[97, 98]⟩, ⟨#[98, 97]⟩] := parse_at (by kernel_rfl) (by decide) (by kernel_rfl) (by kernel_rfl)
theorem parse_doubling : parseOk ⟨#[97, 98, 44, 97, 97]⟩ = true ∧ parseSub ⟨#[97, 98, 44, 97, 97]⟩ = [⟨#[97, 98]⟩, ⟨#[97, 97]⟩] := parse_at (by kernel_rfl) (by decide) (by kernel_rfl) (by kernel_rfl)
theorem parse_tribonacci : parseOk ⟨#[97, 98, 44, 97, 99, 44, 97]⟩ = true ∧ parseSub ⟨#[97, 98, 44, 97, 99, 44, 97]⟩ = [⟨#[97, 98]⟩, ⟨#[97, 99]⟩, ⟨#[97]⟩] := parse_at (by kernel_rfl) (by decide) (by kernel_rfl) (by kernel_rfl)
theorem parse_silver : parseOk ⟨#[97, 97, 98, 44, 97]⟩ = true ∧ parseSub ⟨#[97, 97, 98, 44, 97]⟩ = [⟨#[97, 97, 98]⟩, ⟨#[97]⟩] := parse_at (by kernel_rfl) (by decide) (by kernel_rfl) (by kernel_rfl)
theorem parse_squarefree : parseOk ⟨#[97, 98, 99, 44, 97, 99, 44, 98]⟩ = true ∧ parseSub ⟨#[97, 98, 99, 44, 97, 99, 44, 98]⟩ = [⟨#[97, 98, 99]⟩, ⟨#[97, 99]⟩, ⟨#[98]⟩] := parse_at (by kernel_rfl) (by decide) (by kernel_rfl) (by kernel_rfl)
theorem parse_rudin : parseOk ⟨#[97, 98, 44, 97, 99, 44, 100, 98, 44, 100, 99]⟩ = true ∧ parseSub ⟨#[97, 98, 44, 97, 99, 44, 100, 98, 44, 100, 99]⟩ = [⟨#[97, 98]⟩, ⟨#[97, 99]⟩, ⟨#[100, 98]⟩, ⟨#[100, 99]⟩] := parse_at (by kernel_rfl) (by decide) (by kernel_rfl) (by kernel_rfl)
/-- what NamedSubst is to return -/
def namedL (t : ByteArray) : List ByteArray :=
  if t = ⟨#[102, 105, 98, 111, 110, 97, 99, 99, 105]⟩ then [⟨#[97, 98]⟩, ⟨#[97]⟩]
  else if t = ⟨#[116, 104, 117, 101]⟩ then [⟨#[97, 98]⟩, ⟨#[98, 97]⟩]
  else if t = ⟨#[100, 111, 117, 98, 108, 105, 110, 103]⟩ then [⟨#[97, 98]⟩, ⟨#[97, 97]⟩]
  else if t = ⟨#[116, 114, 105, 98, 111, 110, 97, 99, 99, 105]⟩ then [⟨#[97, 98]⟩, ⟨#[97, 99]⟩, ⟨#[97]⟩]
  else if t = ⟨#[115, 105, 108, 118, 101, 114]⟩ then [⟨#[97, 97, 98]⟩, ⟨#[97]⟩]
  else if t = ⟨#[115, 113, 117, 97, 114, 101, 102, 114, 101, 101]⟩ then [⟨#[97, 98, 99]⟩, ⟨#[97, 99]⟩, ⟨#[98]⟩]
  else if t = ⟨#[114, 117, 100, 105, 110]⟩ then [⟨#[97, 98]⟩, ⟨#[97, 99]⟩, ⟨#[100, 98]⟩, ⟨#[100, 99]⟩]
  else []
def namedOk (t : ByteArray) : Bool := decide (namedL t ≠ [])
theorem namedL_le (t : ByteArray) : (namedL t).length ≤ 4 := by
  unfold namedL
  repeat' split
  all_goals decide
theorem eq_toList (t : ByteArray) (l : List UInt8) : (t.toList = l) ↔ t = ⟨l.toArray⟩ := by
  constructor
  · intro h
    apply bytes_ext
    rw [h, ByteArray.toList_eq]
  · intro h
    rw [h, ByteArray.toList_eq]

set_option maxHeartbeats 1000000 in
theorem specNamedSubst (t : ByteArray) (w : World) (_ : t.size ≤ 1048576) :
    Calls Try.prog 105 #[.string t] w (SubSaid (namedL t) (namedOk t) w) := by
  by_cases n0 : t = ⟨#[102, 105, 98, 111, 110, 97, 99, 99, 105]⟩
  · subst n0
    have hL := parse_fibonacci
    have HP := Lib.hid (fun w => specParseSubst ⟨#[97, 98, 44, 97]⟩ w (by decide))
    rw [hL.1, hL.2] at HP
    have hN : namedL ⟨#[102, 105, 98, 111, 110, 97, 99, 99, 105]⟩ = [⟨#[97, 98]⟩, ⟨#[97]⟩] := by decide
    have hK : namedOk ⟨#[102, 105, 98, 111, 110, 97, 99, 99, 105]⟩ = true := by decide
    rw [hN, hK]
    clear hL hN hK
    go_enter Try.func105, Try.ntmps105
    go_wp2_with fail
    refine (HP.out _).mono ?_
    rintro e w1 ⟨v, rfl, ho, hb1⟩
    obtain ⟨A, cp, rfl⟩ := own_slice ho
    have c1 : w1.cell? ⟨w.heap.size, 0, none⟩ = some (.slice none 0 0) := (hb1.cell (p := ⟨w.heap.size, 0, none⟩) (by simp)).trans (by go_simp)
    have f1 : w1.frozen? ⟨w.heap.size, 0, none⟩ = false := (hb1.frozen (p := ⟨w.heap.size, 0, none⟩) (by simp)).trans (by go_simp)
    have HO := Lib.hid ho
    have HB : Hid (Below w.heap.size w w1) := ((Below.refl _ _).alloc (Nat.le_refl _) _).trans (hb1.mono (by simp))
    clear ho hb1
    go_wp2_with fail
    exact bodyPost_ret (v := .tuple #[.agg #[_], .bool true]) (by simp [results, Try.results105, go_sem, c1]) rfl ⟨_, rfl, own_mono (own_setCell HO.out (by simp) _) (by simp), HB.out.setCell (by simp) _⟩
  · have b0 : (t.toList == [102, 105, 98, 111, 110, 97, 99, 99, 105]) = false := by rw [beq_eq_false_iff_ne]; exact fun h => n0 ((eq_toList _ _).1 h)
    by_cases n1 : t = ⟨#[116, 104, 117, 101]⟩
    · subst n1
      have hL := parse_thue
      have HP := Lib.hid (fun w => specParseSubst ⟨#[97, 98, 44, 98, 97]⟩ w (by decide))
      rw [hL.1, hL.2] at HP
      have hN : namedL ⟨#[116, 104, 117, 101]⟩ = [⟨#[97, 98]⟩, ⟨#[98, 97]⟩] := by decide
      have hK : namedOk ⟨#[116, 104, 117, 101]⟩ = true := by decide
      rw [hN, hK]
      clear hL hN hK
      go_enter Try.func105, Try.ntmps105
      go_wp2_with fail
      refine (HP.out _).mono ?_
      rintro e w1 ⟨v, rfl, ho, hb1⟩
      obtain ⟨A, cp, rfl⟩ := own_slice ho
      have c1 : w1.cell? ⟨w.heap.size, 0, none⟩ = some (.slice none 0 0) := (hb1.cell (p := ⟨w.heap.size, 0, none⟩) (by simp)).trans (by go_simp)
      have f1 : w1.frozen? ⟨w.heap.size, 0, none⟩ = false := (hb1.frozen (p := ⟨w.heap.size, 0, none⟩) (by simp)).trans (by go_simp)
      have HO := Lib.hid ho
      have HB : Hid (Below w.heap.size w w1) := ((Below.refl _ _).alloc (Nat.le_refl _) _).trans (hb1.mono (by simp))
      clear ho hb1
      go_wp2_with fail
      exact bodyPost_ret (v := .tuple #[.agg #[_], .bool true]) (by simp [results, Try.results105, go_sem, c1]) rfl ⟨_, rfl, own_mono (own_setCell HO.out (by simp) _) (by simp), HB.out.setCell (by simp) _⟩
    · have b1 : (t.toList == [116, 104, 117, 101]) = false := by rw [beq_eq_false_iff_ne]; exact fun h => n1 ((eq_toList _ _).1 h)
      by_cases n2 : t = ⟨#[100, 111, 117, 98, 108, 105, 110, 103]⟩
      · subst n2
        have hL := parse_doubling
        have HP := Lib.hid (fun w => specParseSubst ⟨#[97, 98, 44, 97, 97]⟩ w (by decide))
        rw [hL.1, hL.2] at HP
        have hN : namedL ⟨#[100, 111, 117, 98, 108, 105, 110, 103]⟩ = [⟨#[97, 98]⟩, ⟨#[97, 97]⟩] := by decide
        have hK : namedOk ⟨#[100, 111, 117, 98, 108, 105, 110, 103]⟩ = true := by decide
        rw [hN, hK]
        clear hL hN hK
        go_enter Try.func105, Try.ntmps105
        go_wp2_with fail
        refine (HP.out _).mono ?_
        rintro e w1 ⟨v, rfl, ho, hb1⟩
        obtain ⟨A, cp, rfl⟩ := own_slice ho
        have c1 : w1.cell? ⟨w.heap.size, 0, none⟩ = some (.slice none 0 0) := (hb1.cell (p := ⟨w.heap.size, 0, none⟩) (by simp)).trans (by go_simp)
        have f1 : w1.frozen? ⟨w.heap.size, 0, none⟩ = false := (hb1.frozen (p := ⟨w.heap.size, 0, none⟩) (by simp)).trans (by go_simp)
        have HO := Lib.hid ho
        have HB : Hid (Below w.heap.size w w1) := ((Below.refl _ _).alloc (Nat.le_refl _) _).trans (hb1.mono (by simp))
        clear ho hb1
        go_wp2_with fail
        exact bodyPost_ret (v := .tuple #[.agg #[_], .bool true]) (by simp [results, Try.results105, go_sem, c1]) rfl ⟨_, rfl, own_mono (own_setCell HO.out (by simp) _) (by simp), HB.out.setCell (by simp) _⟩
      · have b2 : (t.toList == [100, 111, 117, 98, 108, 105, 110, 103]) = false := by rw [beq_eq_false_iff_ne]; exact fun h => n2 ((eq_toList _ _).1 h)
        by_cases n3 : t = ⟨#[116, 114, 105, 98, 111, 110, 97, 99, 99, 105]⟩
        · subst n3
          have hL := parse_tribonacci
          have HP := Lib.hid (fun w => specParseSubst ⟨#[97, 98, 44, 97, 99, 44, 97]⟩ w (by decide))
          rw [hL.1, hL.2] at HP
          have hN : namedL ⟨#[116, 114, 105, 98, 111, 110, 97, 99, 99, 105]⟩ = [⟨#[97, 98]⟩, ⟨#[97, 99]⟩, ⟨#[97]⟩] := by decide
          have hK : namedOk ⟨#[116, 114, 105, 98, 111, 110, 97, 99, 99, 105]⟩ = true := by decide
          rw [hN, hK]
          clear hL hN hK
          go_enter Try.func105, Try.ntmps105
          go_wp2_with fail
          refine (HP.out _).mono ?_
          rintro e w1 ⟨v, rfl, ho, hb1⟩
          obtain ⟨A, cp, rfl⟩ := own_slice ho
          have c1 : w1.cell? ⟨w.heap.size, 0, none⟩ = some (.slice none 0 0) := (hb1.cell (p := ⟨w.heap.size, 0, none⟩) (by simp)).trans (by go_simp)
          have f1 : w1.frozen? ⟨w.heap.size, 0, none⟩ = false := (hb1.frozen (p := ⟨w.heap.size, 0, none⟩) (by simp)).trans (by go_simp)
          have HO := Lib.hid ho
          have HB : Hid (Below w.heap.size w w1) := ((Below.refl _ _).alloc (Nat.le_refl _) _).trans (hb1.mono (by simp))
          clear ho hb1
          go_wp2_with fail
          exact bodyPost_ret (v := .tuple #[.agg #[_], .bool true]) (by simp [results, Try.results105, go_sem, c1]) rfl ⟨_, rfl, own_mono (own_setCell HO.out (by simp) _) (by simp), HB.out.setCell (by simp) _⟩
        · have b3 : (t.toList == [116, 114, 105, 98, 111, 110, 97, 99, 99, 105]) = false := by rw [beq_eq_false_iff_ne]; exact fun h => n3 ((eq_toList _ _).1 h)
          by_cases n4 : t = ⟨#[115, 105, 108, 118, 101, 114]⟩
          · subst n4
            have hL := parse_silver
            have HP := Lib.hid (fun w => specParseSubst ⟨#[97, 97, 98, 44, 97]⟩ w (by decide))
            rw [hL.1, hL.2] at HP
            have hN : namedL ⟨#[115, 105, 108, 118, 101, 114]⟩ = [⟨#[97, 97, 98]⟩, ⟨#[97]⟩] := by decide
            have hK : namedOk ⟨#[115, 105, 108, 118, 101, 114]⟩ = true := by decide
            rw [hN, hK]
            clear hL hN hK
            go_enter Try.func105, Try.ntmps105
            go_wp2_with fail
            refine (HP.out _).mono ?_
            rintro e w1 ⟨v, rfl, ho, hb1⟩
            obtain ⟨A, cp, rfl⟩ := own_slice ho
            have c1 : w1.cell? ⟨w.heap.size, 0, none⟩ = some (.slice none 0 0) := (hb1.cell (p := ⟨w.heap.size, 0, none⟩) (by simp)).trans (by go_simp)
            have f1 : w1.frozen? ⟨w.heap.size, 0, none⟩ = false := (hb1.frozen (p := ⟨w.heap.size, 0, none⟩) (by simp)).trans (by go_simp)
            have HO := Lib.hid ho
            have HB : Hid (Below w.heap.size w w1) := ((Below.refl _ _).alloc (Nat.le_refl _) _).trans (hb1.mono (by simp))
            clear ho hb1
            go_wp2_with fail
            exact bodyPost_ret (v := .tuple #[.agg #[_], .bool true]) (by simp [results, Try.results105, go_sem, c1]) rfl ⟨_, rfl, own_mono (own_setCell HO.out (by simp) _) (by simp), HB.out.setCell (by simp) _⟩
          · have b4 : (t.toList == [115, 105, 108, 118, 101, 114]) = false := by rw [beq_eq_false_iff_ne]; exact fun h => n4 ((eq_toList _ _).1 h)
            by_cases n5 : t = ⟨#[115, 113, 117, 97, 114, 101, 102, 114, 101, 101]⟩
            · subst n5
              have hL := parse_squarefree
              have HP := Lib.hid (fun w => specParseSubst ⟨#[97, 98, 99, 44, 97, 99, 44, 98]⟩ w (by decide))
              rw [hL.1, hL.2] at HP
              have hN : namedL ⟨#[115, 113, 117, 97, 114, 101, 102, 114, 101, 101]⟩ = [⟨#[97, 98, 99]⟩, ⟨#[97, 99]⟩, ⟨#[98]⟩] := by decide
              have hK : namedOk ⟨#[115, 113, 117, 97, 114, 101, 102, 114, 101, 101]⟩ = true := by decide
              rw [hN, hK]
              clear hL hN hK
              go_enter Try.func105, Try.ntmps105
              go_wp2_with fail
              refine (HP.out _).mono ?_
              rintro e w1 ⟨v, rfl, ho, hb1⟩
              obtain ⟨A, cp, rfl⟩ := own_slice ho
              have c1 : w1.cell? ⟨w.heap.size, 0, none⟩ = some (.slice none 0 0) := (hb1.cell (p := ⟨w.heap.size, 0, none⟩) (by simp)).trans (by go_simp)
              have f1 : w1.frozen? ⟨w.heap.size, 0, none⟩ = false := (hb1.frozen (p := ⟨w.heap.size, 0, none⟩) (by simp)).trans (by go_simp)
              have HO := Lib.hid ho
              have HB : Hid (Below w.heap.size w w1) := ((Below.refl _ _).alloc (Nat.le_refl _) _).trans (hb1.mono (by simp))
              clear ho hb1
              go_wp2_with fail
              exact bodyPost_ret (v := .tuple #[.agg #[_], .bool true]) (by simp [results, Try.results105, go_sem, c1]) rfl ⟨_, rfl, own_mono (own_setCell HO.out (by simp) _) (by simp), HB.out.setCell (by simp) _⟩
            · have b5 : (t.toList == [115, 113, 117, 97, 114, 101, 102, 114, 101, 101]) = false := by rw [beq_eq_false_iff_ne]; exact fun h => n5 ((eq_toList _ _).1 h)
              by_cases n6 : t = ⟨#[114, 117, 100, 105, 110]⟩
              · subst n6
                have hL := parse_rudin
                have HP := Lib.hid (fun w => specParseSubst ⟨#[97, 98, 44, 97, 99, 44, 100, 98, 44, 100, 99]⟩ w (by decide))
                rw [hL.1, hL.2] at HP
                have hN : namedL ⟨#[114, 117, 100, 105, 110]⟩ = [⟨#[97, 98]⟩, ⟨#[97, 99]⟩, ⟨#[100, 98]⟩, ⟨#[100, 99]⟩] := by decide
                have hK : namedOk ⟨#[114, 117, 100, 105, 110]⟩ = true := by decide
                rw [hN, hK]
                clear hL hN hK
                go_enter Try.func105, Try.ntmps105
                go_wp2_with fail
                refine (HP.out _).mono ?_
                rintro e w1 ⟨v, rfl, ho, hb1⟩
                obtain ⟨A, cp, rfl⟩ := own_slice ho
                have c1 : w1.cell? ⟨w.heap.size, 0, none⟩ = some (.slice none 0 0) := (hb1.cell (p := ⟨w.heap.size, 0, none⟩) (by simp)).trans (by go_simp)
                have f1 : w1.frozen? ⟨w.heap.size, 0, none⟩ = false := (hb1.frozen (p := ⟨w.heap.size, 0, none⟩) (by simp)).trans (by go_simp)
                have HO := Lib.hid ho
                have HB : Hid (Below w.heap.size w w1) := ((Below.refl _ _).alloc (Nat.le_refl _) _).trans (hb1.mono (by simp))
                clear ho hb1
                go_wp2_with fail
                exact bodyPost_ret (v := .tuple #[.agg #[_], .bool true]) (by simp [results, Try.results105, go_sem, c1]) rfl ⟨_, rfl, own_mono (own_setCell HO.out (by simp) _) (by simp), HB.out.setCell (by simp) _⟩
              · have b6 : (t.toList == [114, 117, 100, 105, 110]) = false := by rw [beq_eq_false_iff_ne]; exact fun h => n6 ((eq_toList _ _).1 h)
                have hN : namedL t = [] := by unfold namedL; rw [if_neg n0, if_neg n1, if_neg n2, if_neg n3, if_neg n4, if_neg n5, if_neg n6]
                have hK : namedOk t = false := by unfold namedOk; rw [hN]; rfl
                rw [hN, hK]
                have hbz := build_zero
                clear hN hK n0 n1 n2 n3 n4 n5 n6
                go_enter Try.func105, Try.ntmps105
                go_wp2_with fail
                exact bodyPost_ret (v := .tuple #[.agg #[.slice none 0 0], .bool false]) (by simp [results, Try.results105, go_sem]) rfl ⟨_, rfl, World.ownsRow_nil _ _ _ _, (Below.refl _ _).alloc (Nat.le_refl _) _⟩
end Go.Proofs.Ytfcbfflkajlhnaa

/- The model's draws of substitutions: l01Once, l03Draw, MakeSubst. Condition: the bytes are at most 2^20. -/
namespace Go.Proofs.Ytfcbfflkajlhnaa
open Go.RowKit

theorem Cur.drewN {w : World} {g : Nat} {v : Value} {zs : List Int} (h : Cur w g v zs) (n : Nat) : Cur (w.drewN n) g v zs := h
def OnceSaid (g : Nat) (v : Value) (zs : List Int) (w : World) (e : Ending) (w' : World) : Prop := ∃ b : Bool, e = .returned (.bool b) ∧ Cur w' g v zs ∧ w.grownBy w' (some g)
theorem l01Once_any (g : Nat) (v : Value) (zs : List Int) (n : Int) (w : World) (hz : IsBytes zs) (hc : Cur w g v zs) (h0 : 0 < n) (h1 : n ≤ 256) :
    Calls Try.prog 104 #[.pointer (some ⟨g, 0, none⟩), .int .i64 n] w (OnceSaid g v zs w) := by
  have HB := Lib.hid (l01Below_small g v zs n w hz hc h0 h1)
  clear hz hc
  go_enter Try.func104, Try.ntmps104
  go_wp2_with fail
  refine HB.out.mono ?_
  rintro e w1 ⟨x, rfl, x0, x1, hc1, hg1⟩
  have HC := Lib.hid hc1
  clear hc1
  go_wp2_with fail
  go_ret
  exact ⟨_, rfl, HC.out, hg1⟩

def seven : List ByteArray := [⟨#[102, 105, 98, 111, 110, 97, 99, 99, 105]⟩, ⟨#[116, 104, 117, 101]⟩, ⟨#[100, 111, 117, 98, 108, 105, 110, 103]⟩, ⟨#[116, 114, 105, 98, 111, 110, 97, 99, 99, 105]⟩, ⟨#[115, 105, 108, 118, 101, 114]⟩, ⟨#[115, 113, 117, 97, 114, 101, 102, 114, 101, 101]⟩, ⟨#[114, 117, 100, 105, 110]⟩]
theorem seven_ok : ∀ s ∈ seven, substB (namedL s) = true ∧ s.size ≤ 1048576 := by
  intro s hs
  simp only [seven, List.mem_cons, List.not_mem_nil, or_false] at hs
  rcases hs with rfl | rfl | rfl | rfl | rfl | rfl | rfl <;> exact ⟨by kernel_rfl, by decide⟩
theorem grown_setCell {a b : World} {row : Option Nat} (h : a.grownBy b row) (p : Addr) (u : Value) (hp : a.heap.size ≤ p.block) : a.grownBy (b.setCell p u) row :=
  ⟨h.os, h.tape, h.output, by simpa using h.size, fun k hk hne => (heap_setCell_other b p k u (by omega)).trans (h.block k hk hne)⟩
theorem setCell_grown (w : World) (p : Addr) (u : Value) : w.grownBy (w.setCell p u) (some p.block) :=
  ⟨rfl, rfl, rfl, by simp, fun k _ hk => heap_setCell_other w p k u (fun e => hk (by rw [e]))⟩
theorem grown_below {a b c : World} {row : Option Nat} (h : a.grownBy b row) (k : Below b.heap.size b c) : a.grownBy c row := grown_trans h (grown_of_below k row)
/-- images of n letters, of which each has an image -/
def imgsB (n : Nat) (l : List ByteArray) : Prop := ∀ x ∈ l, imgB n x = true
theorem img_of_word {n : Nat} {s : ByteArray} (h1 : 1 ≤ s.size) (h4 : s.size ≤ 4) (hn : n ≤ 4) (h : ∀ c ∈ s.data.toList, 97 ≤ c.toNat ∧ (c.toNat : Int) < 97 + (n : Int)) : imgB n s = true := by
  refine img_yes h1 (by omega) ?_ ?_
  · unfold wordB
    rw [decide_eq_true (by omega)]
    show (true && s.data.toList.all isAbcd) = true
    rw [Bool.true_and, List.all_eq_true]
    intro c hc
    have := h c hc
    simp [isAbcd]
    omega
  · unfold withinB
    rw [List.all_eq_true]
    intro c hc
    have := h c hc
    simp
    omega
theorem subst_of_imgs {l : List ByteArray} (h1 : 1 ≤ l.length) (h4 : l.length ≤ 4) (h : imgsB l.length l) : substB l = true := by
  unfold substB
  rw [decide_eq_true h1, decide_eq_true h4]
  show (true && l.all (imgB l.length)) = true
  rw [Bool.true_and, List.all_eq_true]
  exact h

def SubDrawn (g : Nat) (w : World) (e : Ending) (w' : World) : Prop :=
  ∃ (u : Value) (l : List ByteArray), e = .returned (.agg #[u]) ∧ substB l = true ∧ w'.ownsRow w.heap.size 9 1 u l.length (strs l) ∧ w.grownBy w' (some g)

set_option maxHeartbeats 4000000 in
set_option maxRecDepth 100000 in
theorem l03Draw_any (g : Nat) (v : Value) (zs : List Int) (w : World) (hz : IsBytes zs) (hc : Cur w g v zs) :
    Calls Try.prog 62 #[.pointer (some ⟨g, 0, none⟩)] w (SubDrawn g w) := by
  obtain ⟨i0, hi0, hz0, hz1, hz2⟩ := info_parts str_info
  have HZ := Lib.hid hz
  have HC := Lib.hid hc
  have hgl := (cur_lt hc).1
  have hbz := build_zero
  clear hz hc
  go_enter Try.func62, Try.ntmps62
  go_wp2_with fail
  refine (l01Once_any g v zs 2 _ HZ.out (HC.out.below ((Below.refl _ _).alloc (Nat.le_refl _) _)) (by omega) (by omega)).mono ?_
  rintro e w1 ⟨b, rfl, hc1, hg1⟩
  have HC1 := Lib.hid hc1
  have HG1 : Hid (w.grownBy w1 (some g)) := grown_trans (World.grownBy_alloc _ _ _) hg1
  have hsz1 : w.heap.size + 1 ≤ w1.heap.size := by have := hg1.size; simpa using this
  have c1 : w1.cell? ⟨w.heap.size, 0, none⟩ = some (.slice none 0 0) := hg1.cell (a := ⟨w.heap.size, 0, none⟩) (by go_simp) (by simp; omega)
  have f1 : w1.frozen? ⟨w.heap.size, 0, none⟩ = false := (hg1.frozen_far ⟨w.heap.size, 0, none⟩ (by simp) (by simp; omega)).trans (by go_simp)
  clear hc1 hg1
  cases b
  · go_wp2_with fail
    refine (l01Below_small g v zs 3 _ HZ.out HC1.out (by omega) (by omega)).mono ?_
    rintro e w2 ⟨x, rfl, x0, x1, hc2, hg2⟩
    obtain ⟨m, rfl⟩ := Int.eq_ofNat_of_zero_le x0
    have HC2 := Lib.hid hc2
    have HG2 : Hid (w.grownBy w2 (some g)) := grown_trans HG1.out hg2
    have hsz2 := hg2.size
    have c2 : w2.cell? ⟨w.heap.size, 0, none⟩ = some (.slice none 0 0) := hg2.cell (a := ⟨w.heap.size, 0, none⟩) c1 (by simp; omega)
    have f2 : w2.frozen? ⟨w.heap.size, 0, none⟩ = false := (hg2.frozen_far ⟨w.heap.size, 0, none⟩ (by simp; omega) (by simp; omega)).trans f1
    clear hc2 hg2 c1 f1
    go_wp2_with fail
    go_loopw [7] (fun i w' => ∃ (j : Nat) (o : Value) (ls : List ByteArray), j ≤ m + 1 ∧ i = .int .i64 j ∧ ls.length = j ∧ imgsB (m + 1) ls ∧ w'.cell? ⟨w2.heap.size, 0, none⟩ = some o ∧ w'.frozen? ⟨w2.heap.size, 0, none⟩ = false ∧ w'.ownsRow (w2.heap.size + 1) 9 1 o j (strs ls) ∧ Cur w' g v zs ∧ w2.grownBy w' (some g) ∧ w2.heap.size < w'.heap.size) (fun i _ => m + 1 - (intOf i).toNat)
    case atStart => exact ⟨0, _, [], Nat.zero_le _, rfl, rfl, by intro x hx; simp at hx, by go_simp, by go_simp, World.ownsRow_nil _ _ _ _, HC2.out.below ((Below.refl _ _).alloc (Nat.le_refl _) _), World.grownBy_alloc _ _ _, by simp⟩
    case round =>
      obtain ⟨j, o, ls, hj, rfl, hll, him, co, fo, ho, hcr, hgr, hzr⟩ := hrel
      obtain ⟨A', cp2, rfl⟩ := own_slice ho
      have HO := Lib.hid ho
      have HIM := Lib.hid him
      have HCR := Lib.hid hcr
      have HGR := Lib.hid hgr
      have HLL := Lib.hid hll
      clear ho him hcr hgr hll
      by_cases hlt : j < m + 1
      · have hlt' : (j : Int) < 1 + (m : Int) := by omega
        go_wp2_with fail
        go_region_law (first
          | (refine step_own_g rfl (.tmp 28) (.tmp 35) 23 rfl (w2.heap.size + 1) 9 i0 _ 16 Try.underlying23 hi0 hz0 hz1 hz2 rfl _ j _ (by simp [Act.eval]) (HO4.out.alloc _) ⟨w4.heap.size, 0, none⟩ 1 1 [.string s] (by simp [Act.eval]) rfl (fun q u hu => cell_one _ _ _ q u hu) (fun u hu => by simp at hu; subst hu; rfl) (by unfold maxLen; omega) (by omega) (by simp; omega) ?_
             intro v' w5 hown5 hgr5
             obtain ⟨A5, cp5, rfl⟩ := own_slice hown5
             have hne5 : (some w2.heap.size : Option Nat) ≠ (Value.slice A' j cp2).ownBlock := fun e => by have := (HO4.out.lt _ e.symm).1; omega
             have c5 : w5.cell? ⟨w2.heap.size, 0, none⟩ = some (.slice A' j cp2) := hgr5.cell (a := ⟨w2.heap.size, 0, none⟩) (by go_simp) hne5
             have f5 : w5.frozen? ⟨w2.heap.size, 0, none⟩ = false := (hgr5.frozen_far ⟨w2.heap.size, 0, none⟩ (by simp; omega) hne5).trans (by go_simp)
             have HOW := Lib.hid hown5
             have HG5 := Lib.hid hgr5
             clear hown5 hgr5 hne5)
          | (go_simp
             go_wp2_with (first
               | (go_at_call 64
                  refine (l01Below_small g v zs 4 _ HZ.out (Cur.drewN HCR.out 1) (by omega) (by omega)).mono ?_
                  rintro e w3 ⟨y, rfl, y0, y1, hc3, hg3⟩
                  obtain ⟨q, rfl⟩ := Int.eq_ofNat_of_zero_le y0
                  have hwq : IntKind.i64.wrap ((1 : Int) + (q : Int)) = 1 + (q : Int) := IntWalk.i64_in _ (by omega)
                  have hz3 : w2.heap.size < w3.heap.size := by have := hg3.size; simp at this; omega
                  have c3 : w3.cell? ⟨w2.heap.size, 0, none⟩ = some (.slice A' j cp2) := hg3.cell (a := ⟨w2.heap.size, 0, none⟩) (by go_simp) (by simp; omega)
                  have f3 : w3.frozen? ⟨w2.heap.size, 0, none⟩ = false := (hg3.frozen_far ⟨w2.heap.size, 0, none⟩ (by simpa using hzr) (by simp; omega)).trans (by go_simp)
                  have HO3 : Hid (w3.ownsRow (w2.heap.size + 1) 9 1 (.slice A' j cp2) j (strs ls)) := own_apart (own_drewN HO.out 1) hg3 (fun x h1 h2 => by have := (HO.out.lt x h1).1; injection h2 with h2; omega)
                  have HC3 := Lib.hid hc3
                  have HG3 : Hid (w2.grownBy w3 (some g)) := grown_trans (grown_drewN HGR.out 1) hg3
                  clear hc3 hg3)
               | (go_at_call 107
                  refine (l02Word_any (1 + (q : Int)) (1 + (m : Int)) g v zs _ HZ.out HC3.out (by omega) (by omega) (by omega) (by omega)).mono ?_
                  rintro e w4 ⟨s, rfl, hss, hlet, hc4, hg4⟩
                  have hz4 : w2.heap.size < w4.heap.size := by have := hg4.size; omega
                  have c4 : w4.cell? ⟨w2.heap.size, 0, none⟩ = some (.slice A' j cp2) := hg4.cell (a := ⟨w2.heap.size, 0, none⟩) c3 (by simp; omega)
                  have f4 : w4.frozen? ⟨w2.heap.size, 0, none⟩ = false := (hg4.frozen_far ⟨w2.heap.size, 0, none⟩ hz3 (by simp; omega)).trans f3
                  have HO4 : Hid (w4.ownsRow (w2.heap.size + 1) 9 1 (.slice A' j cp2) j (strs ls)) := own_apart HO3.out hg4 (fun x h1 h2 => by have := (HO3.out.lt x h1).1; injection h2 with h2; omega)
                  have HC4 := Lib.hid hc4
                  have HG4 : Hid (w2.grownBy w4 (some g)) := grown_trans HG3.out hg4
                  have HLET := Lib.hid hlet
                  clear hc4 hg4 hlet))))
        all_goals
          go_wp2_with fail
          go_roundw
          case rel =>
            have hrw : ∀ x, (Value.slice A' j cp2).ownBlock = some x → w2.heap.size + 1 ≤ x := fun x hx => (HO4.out.lt x hx).1
            have hcA : Cur (w4.alloc (.cells #[.string s] 9)) g v zs := HC4.out.below ((Below.refl _ _).alloc (Nat.le_refl _) _)
            have hc5 : Cur w5 g v zs := Cur.made HC2.out hcA HG5.out hrw (by omega)
            have hg5 : w2.grownBy w5 (some g) := grown_made (grown_trans HG4.out (World.grownBy_alloc _ _ _)) HG5.out hrw (by omega)
            refine ⟨j + 1, .slice A5 (j + 1) cp5, ls ++ [s], by omega, by go_num, by simp [HLL.out], ?_, by go_simp, by go_simp, ?_, ?_, grown_setCell hg5 _ _ (by simp), ?_⟩
            · intro x hx
              rcases List.mem_append.1 hx with hx | hx
              · exact HIM.out x hx
              · simp at hx
                subst hx
                refine img_of_word (by omega) (by omega) (by omega) (fun c hc => ?_)
                have := HLET.out c hc
                omega
            · rw [strs_snoc]
              exact own_setCell (B := w2.heap.size + 1) HOW.out (by simp) _
            · exact Cur.made HC2.out hc5 (setCell_grown _ _ _) (B := w2.heap.size) (fun k hk => by injection hk with hk; simp at hk; omega) (Nat.le_refl _)
            · have := HG5.out.size
              simp at this ⊢
              omega
          case measure => simp [intOf]; omega
      · have hjm : j = m + 1 := by omega
        have HSB : Hid (substB ls = true) := subst_of_imgs (by rw [HLL.out]; omega) (by rw [HLL.out]; omega) (by rw [HLL.out, hjm]; exact HIM.out)
        have hge' : ¬ (j : Int) < 1 + (m : Int) := by omega
        have cr : wr.cell? ⟨w.heap.size, 0, none⟩ = some (.slice none 0 0) := HGR.out.cell (a := ⟨w.heap.size, 0, none⟩) c2 (by simp; omega)
        have fr : wr.frozen? ⟨w.heap.size, 0, none⟩ = false := (HGR.out.frozen_far ⟨w.heap.size, 0, none⟩ (by simp; omega) (by simp; omega)).trans f2
        clear hjm
        go_wp2_with fail
        refine bodyPost_ret (v := .agg #[.slice A' j cp2]) (by simp [results, Try.results62, go_sem, cr]) rfl ⟨_, ls, rfl, HSB.out, ?_, ?_⟩
        · rw [HLL.out]
          exact own_mono (own_setCell (B := w2.heap.size + 1) HO.out (by simp; omega) _) (by omega)
        · exact grown_setCell (grown_trans HG2.out HGR.out) _ _ (by simp)
  · go_wp2_with fail
    have hcells : ∀ j (hj : j < seven.length), (w1.alloc (.cells #[.string ⟨#[102, 105, 98, 111, 110, 97, 99, 99, 105]⟩, .string ⟨#[116, 104, 117, 101]⟩, .string ⟨#[100, 111, 117, 98, 108, 105, 110, 103]⟩, .string ⟨#[116, 114, 105, 98, 111, 110, 97, 99, 99, 105]⟩, .string ⟨#[115, 105, 108, 118, 101, 114]⟩, .string ⟨#[115, 113, 117, 97, 114, 101, 102, 114, 101, 101]⟩, .string ⟨#[114, 117, 100, 105, 110]⟩] 9)).cell? ⟨w1.heap.size, j, none⟩ = some (.string seven[j]) := by
      intro j hj
      rw [World.cell?_alloc_at _ _ _ _ rfl]
      have hj' : j < 7 := hj
      rcases j with _ | _ | _ | _ | _ | _ | _ | j <;> first | rfl | omega
    refine (l01Str_any g v zs w1.heap.size seven _ HZ.out (HC1.out.below ((Below.refl _ _).alloc (Nat.le_refl _) _)) (by decide) (by decide) (by omega) hcells).mono ?_
    rintro e w2 ⟨s, hs, rfl, hc2, hg2⟩
    obtain ⟨hsb, hss⟩ := seven_ok s hs
    have HSB := Lib.hid hsb
    have hw1 : w.heap.size < w1.heap.size := by omega
    have hne : (some w.heap.size : Option Nat) ≠ some g := fun e => by injection e with e; omega
    have HG2 : Hid (w.grownBy w2 (some g)) := grown_trans (grown_trans HG1.out (World.grownBy_alloc _ _ _)) hg2
    have hsz2 : w.heap.size + 2 ≤ w2.heap.size := by have := hg2.size; simp at this; omega
    have c2 : w2.cell? ⟨w.heap.size, 0, none⟩ = some (.slice none 0 0) := hg2.cell (a := ⟨w.heap.size, 0, none⟩) (by go_simp) hne
    have f2 : w2.frozen? ⟨w.heap.size, 0, none⟩ = false := (hg2.frozen_far ⟨w.heap.size, 0, none⟩ (by simp; omega) hne).trans (by go_simp)
    clear hc2 hg2 hs hcells c1 f1 hsb
    go_wp2_with fail
    refine (specNamedSubst s _ hss).mono ?_
    rintro e w3 ⟨u, rfl, ho, hb3⟩
    obtain ⟨A, cp, rfl⟩ := own_slice ho
    have hsz3 : w.heap.size + 2 ≤ w3.heap.size := by have := hb3.size; omega
    have hsz30 : w.heap.size < w3.heap.size := by omega
    have c3 : w3.cell? ⟨w.heap.size, 0, none⟩ = some (.slice none 0 0) := (hb3.cell (p := ⟨w.heap.size, 0, none⟩) (by simp; omega)).trans c2
    have f3 : w3.frozen? ⟨w.heap.size, 0, none⟩ = false := (hb3.frozen (p := ⟨w.heap.size, 0, none⟩) (by simp; omega)).trans f2
    have HO := Lib.hid ho
    have HG3 : Hid (w.grownBy w3 (some g)) := grown_below HG2.out hb3
    clear ho hb3 c2 f2
    go_wp2_with fail
    refine bodyPost_ret (v := .agg #[.slice A (namedL s).length cp]) (by simp [results, Try.results62, go_sem, c3, hsz30]) rfl ⟨_, namedL s, rfl, HSB.out, ?_, ?_⟩
    · first
        | exact own_mono ((own_setCell (B := w2.heap.size) HO.out (by simp; omega) _).alloc _) (by omega)
        | exact own_mono (own_setCell (B := w2.heap.size) (HO.out.alloc _) (by simp; omega) _) (by omega)
    · first
        | exact grown_trans (grown_setCell HG3.out _ _ (by simp)) (World.grownBy_alloc _ _ _)
        | exact grown_setCell (grown_trans HG3.out (World.grownBy_alloc _ _ _)) _ _ (by simp)

def SubMade (w : World) (e : Ending) (w' : World) : Prop :=
  ∃ (u : Value) (l : List ByteArray), e = .returned (.agg #[u]) ∧ substB l = true ∧ w'.ownsRow w.heap.size 9 1 u l.length (strs l) ∧ Below w.heap.size w w'

end Go.Proofs.Ytfcbfflkajlhnaa
