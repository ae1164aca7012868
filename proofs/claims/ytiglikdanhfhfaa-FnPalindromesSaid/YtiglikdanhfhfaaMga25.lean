/- Texts put together. -/
import Derived.Test.YtiglikdanhfhfaaMga24
import Derived.Test.YtiglikdanhfhfaaMga10
import Derived.Test.YtiglikdanhfhfaaMga4
import Derived.Test.YtiglikdanhfhfaaMga5
import Derived.Test.YtiglikdanhfhfaaMga6
import Derived.IntWalk
import Derived.Test.YtiglikdanhfhfaaMga2
import Derived.Test.YtiglikdanhfhfaaChecked
import Derived.Test.YtiglikdanhfhfaaMga12
import Derived.Deep.QuietTactic
import Derived.BigQuiet
/- The model's draws of words: l02Word. Condition: the bytes are at most 2^20. -/
namespace Go.Proofs.Ytiglikdanhfhfaa
open Go.RowKit

theorem Cur.apart {w w' : World} {g : Nat} {v : Value} {zs : List Int} {row : Option Nat} (h : Cur w g v zs) (hg : w.grownBy w' row) (h1 : row ≠ some g) (h2 : zs = [] ∨ ∀ k, v.ownBlock = some k → row ≠ some k) : Cur w' g v zs := by
  obtain ⟨i, hh, a, b, c, d⟩ := h
  have hgl : g < w.heap.size := by
    rcases Nat.lt_or_ge g w.heap.size with hl | hl
    · exact hl
    · rw [Array.getElem?_eq_none hl] at a; cases a
  refine ⟨i, hh, (hg.block g hgl (fun e => h1 e.symm)).trans a, b, ?_, d⟩
  refine c.grown2 hg ?_
  rcases h2 with rfl | h2
  · exact .inl rfl
  · exact .inr h2
theorem cur_lt {w : World} {g : Nat} {v : Value} {zs : List Int} (h : Cur w g v zs) : g < w.heap.size ∧ (zs = [] ∨ ∀ k, v.ownBlock = some k → k < w.heap.size) := by
  obtain ⟨i, hh, a, b, c, d⟩ := id h
  refine ⟨h.ptr, ?_⟩
  rcases lst_lt c with e | e
  · left
    have := congrArg List.length e
    rw [bytesV_length] at this
    exact List.eq_nil_of_length_eq_zero this
  · exact .inr e
/-- what the call makes itself does not touch the cursor -/
theorem Cur.made {w w1 w2 : World} {g B : Nat} {v : Value} {zs : List Int} {row : Option Nat} (h0 : Cur w g v zs) (h : Cur w1 g v zs) (hg : w1.grownBy w2 row) (hr : ∀ k, row = some k → B ≤ k) (hB : w.heap.size ≤ B) : Cur w2 g v zs := by
  obtain ⟨a, b⟩ := cur_lt h0
  refine h.apart hg (fun e => by have := hr g e; omega) ?_
  rcases b with b | b
  · exact .inl b
  · exact .inr fun k hk e => by have := hr k e; have := b k hk; omega
theorem grown_made {w w1 w2 : World} {g B : Nat} {row : Option Nat} (h : w.grownBy w1 (some g)) (hg : w1.grownBy w2 row) (hr : ∀ k, row = some k → B ≤ k) (hB : w.heap.size ≤ B) : w.grownBy w2 (some g) :=
  ⟨hg.os.trans h.os, hg.tape.trans h.tape, hg.output.trans h.output, Nat.le_trans h.size hg.size, fun k hk hne => (hg.block k (Nat.lt_of_lt_of_le hk h.size) (fun e => by have := hr k e.symm; omega)).trans (h.block k hk hne)⟩

def WordSaid (n k : Int) (g : Nat) (v : Value) (zs : List Int) (w : World) (e : Ending) (w' : World) : Prop :=
  ∃ s : ByteArray, e = .returned (.string s) ∧ (s.size : Int) = n ∧ (∀ c ∈ s.data.toList, 97 ≤ c.toNat ∧ (c.toNat : Int) < 97 + k) ∧ Cur w' g v zs ∧ w.grownBy w' (some g)

set_option maxHeartbeats 1000000 in
set_option maxRecDepth 100000 in
theorem l02Word_any (n k : Int) (g : Nat) (v : Value) (zs : List Int) (w : World) (hz : IsBytes zs) (hc : Cur w g v zs) (hn0 : 0 ≤ n) (hn : n ≤ 400) (hk0 : 0 < k) (hk : k ≤ 4) :
    Calls Try.prog 60 #[.pointer (some ⟨g, 0, none⟩), .int .i64 n, .int .i64 k] w (WordSaid n k g v zs w) := by
  obtain ⟨i0, hi0, hz0, hz1, hz2⟩ := info_parts u8_info
  have HZ := Lib.hid hz
  have HC := Lib.hid hc
  have hgl := (cur_lt hc).1
  clear hz hc
  go_enter Try.func60, Try.ntmps60
  go_wp2_with fail
  go_loopw [7, 8] (fun b i w' => ∃ (j : Nat) (ys : List UInt8), (j : Int) ≤ n ∧ i = .int .i64 j ∧ ys.length = j ∧ (∀ c ∈ ys, 97 ≤ c.toNat ∧ (c.toNat : Int) < 97 + k) ∧ w'.ownsRow w.heap.size 5 1 b j (byteCells ys) ∧ Cur w' g v zs ∧ w.grownBy w' (some g)) (fun _ i _ => (n - intOf i).toNat)
  case atStart => exact ⟨0, [], hn0, rfl, rfl, by simp, own_made0 _ _ _ (Nat.le_refl _), HC.out.below ((Below.refl _ _).alloc (Nat.le_refl _) _), World.grownBy_alloc _ _ _⟩
  case round =>
    obtain ⟨j, ys, hj, rfl, hyl, hys, ho, hcr, hgr⟩ := hrel
    obtain ⟨A, cp, rfl⟩ := own_slice ho
    have HYS := Lib.hid hys
    have HO := Lib.hid ho
    have HCR := Lib.hid hcr
    have HGR := Lib.hid hgr
    have hszr := hgr.size
    clear hys ho hcr hgr
    by_cases hlt : (j : Int) < n
    · go_wp2_with (first
        | (go_at_call 59
           refine (l01Below_small g v zs k _ HZ.out HCR.out hk0 (by omega)).mono ?_
           rintro e w2 ⟨x, rfl, x0, x1, hc2, hg2⟩
           obtain ⟨m, rfl⟩ := Int.eq_ofNat_of_zero_le x0
           have q1 : IntKind.u8.wrap ((97 : Int) + (m : Int)) = ((letterN m).toNat : Int) := by rw [IntWalk.u8_in _ (by omega), letterN_toNat _ (by omega)]; omega
           have HC2 := Lib.hid hc2
           have HG2 := Lib.hid hg2
           have hsz2 := hg2.size
           have HO2 : Hid (w2.ownsRow w.heap.size 5 1 (.slice A j cp) j (byteCells ys)) := own_apart HO.out hg2 (fun x h1 h2 => by have := (HO.out.lt x h1).1; injection h2 with h2; omega)
           clear hc2 hg2)
        | (at_builtin
           refine wpList_append1g _ rfl (.tmp 15) (.tmp 21) _ rfl w.heap.size 5 i0 _ 1 Try.underlying22 hi0 hz0 hz1 hz2 rfl _ j _ rfl HO2.out (.int .u8 ((letterN m).toNat : Int)) rfl rfl (by unfold maxLen; omega) (by omega) (by omega) ?_
           intro v' w3 hown3 hgr3
           have HOW := Lib.hid hown3
           have HGW := Lib.hid hgr3
           clear hown3 hgr3))
      go_roundw
      case rel =>
        have hrw : ∀ x, (Value.slice A j cp).ownBlock = some x → w.heap.size ≤ x := fun x hx => (HO2.out.lt x hx).1
        have hg02 : w.grownBy w2 (some g) := ⟨HG2.out.os.trans HGR.out.os, HG2.out.tape.trans HGR.out.tape, HG2.out.output.trans HGR.out.output, Nat.le_trans HGR.out.size HG2.out.size, fun x hx hne => (HG2.out.block x (Nat.lt_of_lt_of_le hx HGR.out.size) hne).trans (HGR.out.block x hx hne)⟩
        refine ⟨j + 1, ys ++ [letterN m], by omega, by go_num, by simp [hyl], ?_, ?_, Cur.made HC.out HC2.out HGW.out hrw (Nat.le_refl _), grown_made hg02 HGW.out hrw (Nat.le_refl _)⟩
        · intro c hc
          rcases List.mem_append.1 hc with hc | hc
          · exact HYS.out c hc
          · simp at hc
            subst hc
            rw [letterN_toNat _ (by omega)]
            omega
        · rw [byteCells_snoc]
          exact HOW.out
      case measure => simp [intOf]; omega
    · have hjn : n = (j : Int) := by omega
      have hconv := conv_own HO.out
      have HJ := Lib.hid hjn
      clear hjn
      go_wp2_with fail
      go_ret
      exact ⟨_, rfl, by rw [HJ.out, ← hyl]; simp [ByteArray.size], HYS.out, HCR.out, HGR.out⟩
end Go.Proofs.Ytiglikdanhfhfaa

/- A struct of one slice of strings as a result; small facts on new rows. No condition. -/
namespace Go.Proofs.Ytiglikdanhfhfaa
open Go.RowKit

/-- a struct of one slice of strings, and whether there is one -/
def SubSaid (r : List ByteArray) (ok : Bool) (w : World) (e : Ending) (w' : World) : Prop := ∃ v, e = .returned (.tuple #[.agg #[v], .bool ok]) ∧ w'.ownsRow w.heap.size 9 1 v r.length (strs r) ∧ Below w.heap.size w w'
theorem cell_one (w : World) (e : TypeId) (y : Value) (j : Nat) (u : Value) (hu : [y][j]? = some u) : (w.alloc (.cells #[y] e)).cell? ((⟨w.heap.size, 0, none⟩ : Addr).add j) = some u := by
  rcases j with _ | j
  · simp at hu
    subst hu
    rw [Addr.add_lit, World.cell?_alloc_at _ _ _ _ (by simp)]
    rfl
  · simp at hu
end Go.Proofs.Ytiglikdanhfhfaa

/- Join of the model. Condition: the elements and their number together at most 2^20, the separator too. -/
namespace Go.Proofs.Ytiglikdanhfhfaa
open Go.RowKit
end Go.Proofs.Ytiglikdanhfhfaa

/- SplitAny and SplitLines of the model and of the program return the same list of strings in a row of their own. Condition: texts of at most 2^20 bytes. -/
namespace Go.Proofs.Ytiglikdanhfhfaa
open Go.RowKit
end Go.Proofs.Ytiglikdanhfhfaa
