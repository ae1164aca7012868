/- A square of the program without its first row and one column. -/
import Derived.Test.YtgidfainoijcmaaSqD
import Derived.Test.YtgidfainoijcmaaSqE
import Derived.Deep.RegionLaw
namespace Go.Proofs.Ytgidfainoijcmaa
open Go.RowKit

/-- x[k:] of a row of a square -/
theorem cut_rest (b o k : Nat) (hk : k ≤ 4) (w : World) : (Instr.sliceAt 64 (.pointer (some ⟨b, o, none⟩)) (some (.int .i64 (k : Int))) none none).run Try.prog w = .ok (.slice (some ⟨b, if k < 4 then o + k else o, none⟩) (4 - k) (4 - k)) w := by
  by_cases h : k < 4
  · rw [if_pos h]
    exact cut_from b o k h w
  · have e : k = 4 := by omega
    subst e
    simp [Instr.sliceAt, Instr.sliceBounds, Instr.sliceBound, asIntOf, run_underlying Try.underlying64, Instr.sureAddr]
theorem cut_behind (b k : Nat) (hk : k ≤ 3) : ∃ X : Addr, (∀ w, (Instr.sliceAt 64 (.pointer (some ⟨b, 0, none⟩)) (some (.int .i64 ((k : Int) + 1))) none none).run Try.prog w = .ok (.slice (some X) (3 - k) (3 - k)) w) ∧ (k < 3 → X = ⟨b, k + 1, none⟩) := by
  refine ⟨⟨b, if k + 1 < 4 then 0 + (k + 1) else 0, none⟩, fun w => ?_, fun h => ?_⟩
  · have := cut_rest b 0 (k + 1) (by omega) w
    have e : 4 - (k + 1) = 3 - k := by omega
    rw [e] at this
    exact this
  · rw [if_pos (by omega), Nat.zero_add]
theorem step_copy_arr {P : Program} {ops : Array Oper} {o : Oper} {a : Act} {w : World} {K : Act → World → Prop} {Q : Exit → Act → World → Prop} {E : Prop} (hgd : o.guard = none) (d s : Operand) (dT sT : TypeId)
    (ho : o.op = .call { callee := .builtin .copy, args := #[d, s], argTypes := #[dT, sT] }) (elem : TypeId) (hu : P.underlying dT = some (.slice elem)) (hsz : (P.info? elem).map (·.size) = some 1)
    (B b off dLen dCap : Nat) (T : TypeId) (ad : Addr) (sLen sCap : Nat) (hd : a.eval d = .slice (some ⟨b, off, none⟩) dLen dCap) (hs : a.eval s = .slice (some ad) sLen sCap)
    (c c' : Array Value) (hc : Arr w B T b c) (g : Nat → Int) (n : Nat) (hn : n = Nat.min sLen dLen) (hsrc : ∀ j, j < n → w.cell? (ad.add j) = some (.int .i64 (g j))) (hfit : off + n ≤ c.size)
    (he : c.toList.take off ++ (numsTo g n ++ c.toList.drop (off + n)) = c'.toList)
    (h : K (a.put o.dst (goInt n)) (w.setRow b c')) : if Region.wanted o (yielded ops a.tmps) = true then Oper.wp P o a w K Q else E := by
  have hw : Region.wanted o (yielded ops a.tmps) = true := by simp [Region.wanted, hgd]
  rw [if_pos hw]
  have hrun := run_copy_row (P := P) w dT sT o.type elem b off dLen dCap ad sLen sCap c T (numsTo g n) hu hsz hc.heap (by rw [numsTo_length, hn]) (fun j u hj => by
    obtain ⟨h1, rfl⟩ := numsTo_at g n j u hj
    exact hsrc j h1) (by rw [numsTo_length]; exact hfit) (fun u hu => by
    obtain ⟨j, hj, rfl⟩ := List.mem_map.1 hu
    rfl)
  rw [List.append_assoc, numsTo_length, he] at hrun
  unfold Oper.wp
  simp only [execOp, ho, resolve, invoke, builtin]
  simp [hd, hs, hrun, Result.andThen]
  exact h
/-- a row without its number k -/
def minRow (k : Nat) (g : Nat → Int) : Nat → Int := fun c => if c < k then g c else if c < 3 then g (c + 1) else 0
/-- the first i rows of the smaller square -/
def minTo (f : Nat → Nat → Int) (k i : Nat) : Nat → Nat → Int := fun a c => if a < i then minRow k (f (a + 1)) c else 0
theorem minTo_zero (f : Nat → Nat → Int) (k : Nat) : minTo f k 0 = fun _ _ => 0 := by
  funext a c
  simp [minTo]
theorem minTo_succ (n : Int) (f : Nat → Nat → Int) (k i : Nat) (hk : k ≤ 3) : sqA n (putSeg (putSeg (minTo f k i) i 0 k (f (i + 1))) i k (3 - k) (fun c => f (i + 1) (k + 1 + c))) = sqA n (minTo f k (i + 1)) := by
  refine sqA_congr fun a c ha hc => ?_
  unfold putSeg minTo minRow
  by_cases h : a = i
  · subst h
    by_cases h1 : c < k
    · rw [if_neg (by omega), if_pos (by omega), if_pos (by omega), if_pos h1]
      rfl
    · by_cases h2 : c < 3
      · rw [if_pos (by omega), if_pos (by omega), if_neg h1, if_pos h2]
        show f (a + 1) (k + 1 + (c - k)) = f (a + 1) (c + 1)
        rw [show k + 1 + (c - k) = c + 1 from by omega]
      · rw [if_neg (by omega), if_neg (by omega), if_neg (by omega), if_pos (by omega), if_neg h1, if_neg h2]
  · rw [if_neg (by omega), if_neg (by omega)]
    have e : (a < i) ↔ (a < i + 1) := by omega
    simp only [e]
theorem rowPart2 (n : Int) (f : Nat → Nat → Int) (i : Nat) (hi : i < 4) (j : Nat) (v : Value) (h : (rowA (f i))[j]? = some v) : (sqA n f)[1 + i * 4 + j]? = some v := by
  obtain ⟨h1, h2⟩ := Array.getElem?_eq_some_iff.1 h
  have hj : j < 4 := h1
  rw [sqA_get n f i j hi hj, ← h, rowA_get (f i) j hj]

set_option maxHeartbeats 1000000 in
set_option maxRecDepth 100000 in
theorem implMinor (p : Nat) (hp : p ≤ 3) (f : Nat → Nat → Int) (k : Nat) (hk : k ≤ p) (w : World) :
    Calls Try.prog 95 #[.agg (sqA ((p : Int) + 1) f), .int .i64 k] w fun e w' => e = .returned (.agg (sqA p (minTo f k p))) ∧ Below w.heap.size w w' := by
  have hbld := build_sq p
  obtain ⟨i0, hi0, hz0, hz1, hz2⟩ := info_parts int_info
  have hsz : (Try.prog.info? 3).map (·.size) = some 1 := by rw [hi0, Option.map_some, hz1]
  have HSZ := Lib.hid hsz
  have hza := sqA_zero ((p : Int) + 1) f
  have hzb := sqA_zero p fun _ _ => 0
  have hwk : IntKind.i64.wrap ((k : Int) + 1) = (k : Int) + 1 := IntWalk.i64_in _ (by omega)
  clear hsz hz0 hz2
  go_enter Try.func95, Try.ntmps95
  go_wp2_with (with_reducible refine store_new rfl 67 (.tmp 5) (.tmp 11) rfl (w.heap.size + 1 + 1) _ (sqA p fun _ _ => 0) (by simp) rfl rfl 17 sq_ty rfl rfl (sqA_one _ _) ?_)
  go_loopw [14] (fun i w' => ∃ j : Nat, j ≤ p ∧ i = .int .i64 j ∧ Arr w' w.heap.size 67 w.heap.size (sqA ((p : Int) + 1) f) ∧ Arr w' w.heap.size 67 (w.heap.size + 1) (sqA 0 fun _ _ => 0) ∧ Arr w' w.heap.size 67 (w.heap.size + 1 + 1) (sqA p (minTo f k j)) ∧ Below w.heap.size w w') (fun i _ => p - (intOf i).toNat)
  case atStart =>
    refine ⟨0, by omega, rfl, ?_, ?_, ?_, (((Below.refl _ _).alloc (Nat.le_refl _) _).alloc (by simp) _).alloc (by simp; omega) _⟩
    · exact ((Arr.made _ _ _ _ (Nat.le_refl _) (by simp [sqA_size, maxLen])).alloc _).alloc _
    · have := (Arr.made (w.alloc (.cells (sqA ((p : Int) + 1) f) 67)) w.heap.size 67 (sqA 0 fun _ _ => 0) (by simp) (by simp [sqA_size, maxLen])).alloc (.cells (sqA p fun _ _ => 0) 67)
      simp only [World.size_alloc] at this
      exact this
    · rw [minTo_zero]
      have := Arr.made ((w.alloc (.cells (sqA ((p : Int) + 1) f) 67)).alloc (.cells (sqA 0 fun _ _ => 0) 67)) w.heap.size 67 (sqA p fun _ _ => 0) (by simp; omega) (by simp [sqA_size, maxLen])
      simp only [World.size_alloc] at this
      exact this
  case round =>
    obtain ⟨j, hj, rfl, hm, hres, hs, hb⟩ := hrel
    obtain ⟨wo, rfl⟩ : ∃ x : World, x = wr := ⟨_, rfl⟩
    have HM := Lib.hid hm
    have HR := Lib.hid hres
    have HS := Lib.hid hs
    have HB := Lib.hid hb
    clear hm hres hs hb
    by_cases hlt : j < p
    · have hj4 : j < 4 := by omega
      have hj5 : j + 1 < 4 := by omega
      go_upto_region 6 with (first
        | (with_reducible refine load_part rfl 64 (.tmp 20) rfl w.heap.size (1 + (j + 1) * 4) _ _ (sqA ((p : Int) + 1) f) (rowA (f (j + 1))) rfl HM.out 4 row_ty rfl (rowPart2 _ f (j + 1) hj5) ?_)
        | (with_reducible refine store_new rfl 64 (.tmp 7) (.tmp 21) rfl wo.heap.size _ (rowA (f (j + 1))) rfl rfl rfl 4 row_ty rfl rfl (rowA_one _) ?_))
      have HN1 := Lib.hid (Arr.made wo wo.heap.size 64 (rowA (f (j + 1))) (Nat.le_refl _) (by simp [rowA_size, maxLen]))
      have HS1 := Lib.hid (HS.out.alloc (.cells (rowA (f (j + 1))) 64))
      have hlo : w.heap.size + 1 + 1 < wo.heap.size := HS.out.lt.2
      have hne : wo.heap.size ≠ w.heap.size + 1 + 1 := by omega
      have HE1 := Lib.hid (sqA_seg p (minTo f k j) j 0 k (f (j + 1)) hj4 (by omega))
      have HE2 := Lib.hid (sqA_seg p (putSeg (minTo f k j) j 0 k (f (j + 1))) j k (3 - k) (fun c => f (j + 1) (k + 1 + c)) hj4 (by omega))
      have hc1 := cut_upto (w.heap.size + 1 + 1) (1 + j * 4) k (by omega)
      have hc2 := cut_upto wo.heap.size 0 k (by omega)
      have hc3 := cut_from (w.heap.size + 1 + 1) (1 + j * 4) k (by omega)
      obtain ⟨X, hc4, hX⟩ := cut_behind wo.heap.size k (by omega)
      have HX := Lib.hid hX
      clear hX
      have hji : (j : Int) < 4 := by omega
      go_region_law (refine step_copy_arr rfl (.tmp 26) (.tmp 28) 30 30 rfl 3 Try.underlying30 HSZ.out w.heap.size (w.heap.size + 1 + 1) (1 + j * 4) k 4 67 ⟨wo.heap.size, 0, none⟩ k 4 (by simp [Act.eval, Act.put]) (by simp [Act.eval, Act.put]) (sqA p (minTo f k j)) (sqA p (putSeg (minTo f k j) j 0 k (f (j + 1)))) HS1.out (f (j + 1)) k (Nat.min_self k).symm (fun q hq => by rw [Addr.add_lit, Nat.zero_add]; exact HN1.out.cell q _ (rowA_get _ q (by omega))) (by rw [sqA_size]; omega) HE1.out ?_)
      have hm2 : Arr ((wo.alloc (.cells (rowA (f (j + 1))) 64)).drew.setRow (w.heap.size + 1 + 1) (sqA p (putSeg (minTo f k j) j 0 k (f (j + 1))))) w.heap.size 67 w.heap.size (sqA ((p : Int) + 1) f) := Arr.otherRow (w := (wo.alloc (.cells (rowA (f (j + 1))) 64)).drew) (HM.out.alloc _) (by omega) _
      have hr2 : Arr ((wo.alloc (.cells (rowA (f (j + 1))) 64)).drew.setRow (w.heap.size + 1 + 1) (sqA p (putSeg (minTo f k j) j 0 k (f (j + 1))))) w.heap.size 67 (w.heap.size + 1) (sqA 0 fun _ _ => 0) := Arr.otherRow (w := (wo.alloc (.cells (rowA (f (j + 1))) 64)).drew) (HR.out.alloc _) (by omega) _
      have hs2 : Arr ((wo.alloc (.cells (rowA (f (j + 1))) 64)).drew.setRow (w.heap.size + 1 + 1) (sqA p (putSeg (minTo f k j) j 0 k (f (j + 1))))) w.heap.size 67 (w.heap.size + 1 + 1) (sqA p (putSeg (minTo f k j) j 0 k (f (j + 1)))) := Arr.row (w := (wo.alloc (.cells (rowA (f (j + 1))) 64)).drew) HS1.out rfl
      have hn2 : Arr ((wo.alloc (.cells (rowA (f (j + 1))) 64)).drew.setRow (w.heap.size + 1 + 1) (sqA p (putSeg (minTo f k j) j 0 k (f (j + 1))))) wo.heap.size 64 wo.heap.size (rowA (f (j + 1))) := Arr.otherRow (w := (wo.alloc (.cells (rowA (f (j + 1))) 64)).drew) HN1.out (by omega) _
      have hb2 : Below w.heap.size w ((wo.alloc (.cells (rowA (f (j + 1))) 64)).drew.setRow (w.heap.size + 1 + 1) (sqA p (putSeg (minTo f k j) j 0 k (f (j + 1))))) := below_row (below_drew (HB.out.alloc HB.out.size _)) (by omega) _
      generalize ((wo.alloc (.cells (rowA (f (j + 1))) 64)).drew.setRow (w.heap.size + 1 + 1) (sqA p (putSeg (minTo f k j) j 0 k (f (j + 1))))) = w2 at hm2 hr2 hs2 hn2 hb2 ⊢
      have HM2 := Lib.hid hm2
      have HR2 := Lib.hid hr2
      have HS2 := Lib.hid hs2
      have HN2 := Lib.hid hn2
      have HB2 := Lib.hid hb2
      clear hm2 hr2 hs2 hn2 hb2 hc1 hc2
      go_upto_region 7 with (fail)
      go_region_law (refine step_copy_arr rfl (.tmp 34) (.tmp 37) 30 30 rfl 3 Try.underlying30 HSZ.out w.heap.size (w.heap.size + 1 + 1) (1 + j * 4 + k) (4 - k) (4 - k) 67 X (3 - k) (3 - k) (by simp [Act.eval, Act.put]) (by simp [Act.eval, Act.put]) (sqA p (putSeg (minTo f k j) j 0 k (f (j + 1)))) (sqA p (putSeg (putSeg (minTo f k j) j 0 k (f (j + 1))) j k (3 - k) (fun c => f (j + 1) (k + 1 + c)))) HS2.out (fun c => f (j + 1) (k + 1 + c)) (3 - k) (Nat.min_eq_left (by omega)).symm (fun q hq => by rw [HX.out (by omega), Addr.add_lit]; exact HN2.out.cell (k + 1 + q) _ (rowA_get _ (k + 1 + q) (by omega))) (by rw [sqA_size]; omega) HE2.out ?_)
      go_wp2_with fail
      go_roundw
      case rel =>
        refine ⟨j + 1, by omega, by go_num, ?_, ?_, ?_, ?_⟩
        · exact Arr.otherRow (w := w2.drew) HM2.out (by omega) _
        · exact Arr.otherRow (w := w2.drew) HR2.out (by omega) _
        · rw [← minTo_succ p f k j (by omega)]
          exact Arr.row (w := w2.drew) HS2.out rfl
        · exact below_row (below_drew HB2.out) (by omega) _
      case measure => simp [intOf]; omega
    · have hjp : j = p := by omega
      subst hjp
      go_wp2_with (first
        | (with_reducible refine load_arr rfl 67 (.tmp 5) rfl (w.heap.size + 1 + 1) _ _ _ rfl HS.out 17 sq_ty rfl ?_)
        | (with_reducible refine store_arr rfl 67 (.tmp 4) (.tmp 40) rfl (w.heap.size + 1) _ _ (sqA j (minTo f k j)) rfl rfl HR.out 17 sq_ty rfl rfl (sqA_one _ _) ?_))
      exact post_arr 67 rfl rfl (HR.out.row (c' := sqA j (minTo f k j)) rfl) sq_ty rfl rfl ⟨rfl, below_row HB.out (by omega) _⟩
end Go.Proofs.Ytgidfainoijcmaa
