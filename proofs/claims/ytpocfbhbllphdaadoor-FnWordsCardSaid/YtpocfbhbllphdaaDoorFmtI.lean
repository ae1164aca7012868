/- FormatInt of the program gives the same text as the model's, where strconv's table of powers of ten is as its initialiser lays it. -/
import Derived.Test.YtpocfbhbllphdaaDoorFmt
import Derived.Test.YtpocfbhbllphdaaDoorNum
import Derived.Test.YtpocfbhbllphdaaDoorShelf
import Derived.WalkSmall
import Derived.Lib.LaidTab
import Derived.Sort.Grow
namespace Go.Proofs.YtpocfbhbllphdaaDoor
open Go.RowKit Go.Sort

theorem below_grow (w : World) (os : Array Obj) : Below w.heap.size w (grow w os) := by
  refine ⟨rfl, rfl, rfl, by simp [grow], fun k hk => ?_⟩
  show (w.heap ++ os)[k]? = _
  rw [Array.getElem?_append_left hk]
theorem gPow : Tryd.prog.globalNamed "internal/strconv.uint64pow10" = some 3 := by kernel_rfl
def Tab (w : World) : Prop := Lib.TabIs Tryd.prog w "internal/strconv.uint64pow10" .u64 Lib.pow10Tab
theorem Tab.below {w w' : World} {B : Nat} (h : Tab w) (hb : Below B w w') (hB : w.heap.size ≤ B) : Tab w' := by
  have hv : w.var? Tryd.prog "internal/strconv.uint64pow10" = some (Lib.pow10Tab.map fun z => Value.int .u64 z).toArray := h
  have hlt : 3 < w.heap.size := by
    have := World.var?_cell gPow hv 0
    have hc : w.cell? ⟨3, 0, none⟩ = some (.int .u64 1) := by rw [this]; rfl
    exact World.block_lt_of_cell? w _ hc
  exact var?_below hb gPow (by omega) hv

theorem specFormatInt (n : Int) (w : World) (h0 : -9223372036854775808 ≤ n) (h1 : n ≤ 9223372036854775807) :
    Calls Tryd.prog 14 #[.int .i64 n] w fun e w' => e = .returned (.string (itoaS n)) ∧ Below w.heap.size w w' := by
  unfold itoaS
  by_cases h : n < 0
  · rw [itoa_neg h]
    exact specFormat_neg 19 n w h (by omega) h0
  · rw [itoa_pos h]
    exact specFormat_pos n w (by omega) h1

theorem implFormatInt (n : Int) (w : World) (h0 : -9223372036854775808 ≤ n) (h1 : n ≤ 9223372036854775807) (ht : Tab w) :
    Calls Tryd.prog 8 #[.int .i64 n] w fun e w' => e = .returned (.string (itoaS n)) ∧ Below w.heap.size w w' := by
  have H := Lib.hid (Tryd.strconv_Itoa n h0 h1 w ht)
  go_enter Tryd.func8, Tryd.ntmps8
  go_wp2_with (go_at_call 19; refine H.out.mono ?_; rintro e w' ⟨rfl, k, os, rfl⟩)
  go_ret
  have h2 : Below w.heap.size (w.drewN k) (grow (w.drewN k) os) := below_grow (w.drewN k) os
  exact ⟨rfl, (below_drewN (Below.refl _ _) k).trans h2⟩
end Go.Proofs.YtpocfbhbllphdaaDoor
