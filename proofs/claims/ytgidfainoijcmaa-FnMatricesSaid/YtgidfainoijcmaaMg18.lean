/- Texts put together. -/
import Derived.Test.YtgidfainoijcmaaMg17
import Derived.Test.YtgidfainoijcmaaMg5
import Derived.Test.YtgidfainoijcmaaMg12
import Derived.Test.YtgidfainoijcmaaMg8
import Derived.Test.YtgidfainoijcmaaMg10
import Derived.Test.YtgidfainoijcmaaMg3
/- A slice of slices read into a square of the program; its trace. Conditions: lengths of at most 2^20. -/
namespace Go.Proofs.Ytgidfainoijcmaa
open Go.RowKit

theorem foldl_min_ge (L : Int) : ∀ (zs : List Int) (a : Int), L ≤ zs.foldl min a ↔ L ≤ a ∧ ∀ x ∈ zs, L ≤ x
  | [], a => by simp
  | z :: zs, a => by
    rw [List.foldl_cons, foldl_min_ge L zs (min a z)]
    simp only [List.mem_cons, forall_eq_or_imp]
    exact ⟨fun h => ⟨by omega, by omega, h.2⟩, fun h => ⟨by omega, h.2.2⟩⟩
theorem foldl_max_le (L : Int) : ∀ (zs : List Int) (a : Int), zs.foldl max a ≤ L ↔ a ≤ L ∧ ∀ x ∈ zs, x ≤ L
  | [], a => by simp
  | z :: zs, a => by
    rw [List.foldl_cons, foldl_max_le L zs (max a z)]
    simp only [List.mem_cons, forall_eq_or_imp]
    exact ⟨fun h => ⟨by omega, by omega, h.2⟩, fun h => ⟨by omega, h.2.2⟩⟩
theorem minOf_ge (L : Int) (zs : List Int) (h : 0 < zs.length) : L ≤ Lib.minOf zs ↔ ∀ x ∈ zs, L ≤ x := by
  unfold Lib.minOf
  rw [foldl_min_ge]
  cases zs with
  | nil => simp at h
  | cons z zs => simp
theorem maxOf_le (L : Int) (zs : List Int) (h : 0 < zs.length) : Lib.maxOf zs ≤ L ↔ ∀ x ∈ zs, x ≤ L := by
  unfold Lib.maxOf
  rw [foldl_max_le]
  cases zs with
  | nil => simp at h
  | cons z zs => simp
theorem rowOk_iff (n : Nat) (r : List Int) (hn : r.length = n) (h : 0 < n) : rowOk n r = true ↔ -100 ≤ Lib.minOf r ∧ Lib.maxOf r ≤ 100 := by
  rw [minOf_ge _ _ (by omega), maxOf_le _ _ (by omega)]
  unfold rowOk
  simp only [hn, decide_true, Bool.true_and, List.all_eq_true, Bool.and_eq_true, decide_eq_true_eq]
  exact ⟨fun h => ⟨fun x hx => (h x hx).1, fun x hx => (h x hx).2⟩, fun h x hx => ⟨h.1 x hx, h.2 x hx⟩⟩
/-- n numbers written from column o on into row i -/
def putSeg (f : Nat → Nat → Int) (i o n : Nat) (g : Nat → Int) : Nat → Nat → Int := fun a c => if a = i ∧ o ≤ c ∧ c < o + n then g (c - o) else f a c
def numsTo (g : Nat → Int) (n : Nat) : List Value := (List.range n).map fun c => .int .i64 (g c)
theorem numsTo_length (g : Nat → Int) (n : Nat) : (numsTo g n).length = n := by simp [numsTo]
theorem numsTo_at (g : Nat → Int) (n j : Nat) (u : Value) (h : (numsTo g n)[j]? = some u) : j < n ∧ u = .int .i64 (g j) := by
  obtain ⟨h1, h2⟩ := List.getElem?_eq_some_iff.1 h
  rw [numsTo_length] at h1
  refine ⟨h1, ?_⟩
  rw [← h2]
  simp [numsTo]
theorem sqA_seg (N : Int) (f : Nat → Nat → Int) (i o n : Nat) (g : Nat → Int) (hi : i < 4) (ho : o + n ≤ 4) : (sqA N f).toList.take (1 + i * 4 + o) ++ (numsTo g n ++ (sqA N f).toList.drop (1 + i * 4 + o + n)) = (sqA N (putSeg f i o n g)).toList := by
  rcases (by omega : n = 0 ∨ n = 1 ∨ n = 2 ∨ n = 3 ∨ n = 4) with rfl | rfl | rfl | rfl | rfl <;>
  rcases (by omega : o = 0 ∨ o = 1 ∨ o = 2 ∨ o = 3 ∨ o = 4) with rfl | rfl | rfl | rfl | rfl <;> first
    | (exfalso; omega)
    | (rcases four_cases hi with rfl | rfl | rfl | rfl <;> rfl)
/-- copy into a row of a square that the call owns -/
theorem copy_arr {P : Program} {w : World} {ops : Array Oper} {rest : List Oper} {o : Oper} {a : Act} {Q : Exit → Act → World → Prop} (hgd : o.guard = none) (d s : Operand) (dT sT : TypeId)
    (ho : o.op = .call { callee := .builtin .copy, args := #[d, s], argTypes := #[dT, sT] }) (elem : TypeId) (hu : P.underlying dT = some (.slice elem)) (hsz : (P.info? elem).map (·.size) = some 1)
    (B b off dLen dCap : Nat) (T : TypeId) (ad : Addr) (sLen sCap : Nat) (hd : a.eval d = .slice (some ⟨b, off, none⟩) dLen dCap) (hs : a.eval s = .slice (some ad) sLen sCap)
    (c c' : Array Value) (hc : Arr w B T b c) (g : Nat → Int) (n : Nat) (hn : n = Nat.min sLen dLen) (hsrc : ∀ j, j < n → w.cell? (ad.add j) = some (.int .i64 (g j))) (hfit : off + n ≤ c.size)
    (he : c.toList.take off ++ (numsTo g n ++ c.toList.drop (off + n)) = c'.toList)
    (h : wpList P ops Q rest (a.put o.dst (goInt n)) (w.setRow b c')) : wpList P ops Q (o :: rest) a w := by
  refine wpList_copy_own hgd d s dT sT ho elem hu hsz b off dLen dCap ad sLen sCap hd hs c T hc.heap (numsTo g n) (by rw [numsTo_length, hn]) (fun j u hj => ?_) (by rw [numsTo_length]; exact hfit) (fun u hu => ?_) ?_
  · obtain ⟨h1, rfl⟩ := numsTo_at g n j u hj
    exact hsrc j h1
  · obtain ⟨j, hj, rfl⟩ := List.mem_map.1 hu
    rfl
  · rw [numsTo_length, he]
    simpa using h
/-- a function whose results are an array or a struct in a variable, and one more -/
theorem post_arr2 {P : Program} {fn : Func} {R : Ending → World → Prop} {a : Act} {w : World} {B : Nat} {T : TypeId} {b n p q : Nat} {c : Array Value} {u : Value} (ty : TypeId) (hr : fn.results = #[.cell p ty, .tmp q]) (hp : a.tmps.getD p undef = .pointer (some ⟨b, 0, none⟩))
    (hq : a.tmps.getD q undef = u) (hc : Arr w B T b c) (ht : RowType P ty n) (hn : c.size = n) (hd : a.defers = []) (h : R (.returned (.tuple #[.agg c, u])) w) : bodyPost P fn R .ret a w := by
  refine bodyPost_ret (v := .tuple #[.agg c, u]) ?_ hd h
  have hp' : a.tmps[p]?.getD undef = .pointer (some ⟨b, 0, none⟩) := by rw [← Array.getD_eq_getD_getElem?]; exact hp
  have hq' : a.tmps[q]?.getD undef = u := by rw [← Array.getD_eq_getD_getElem?]; exact hq
  simp only [results, hr]
  simp [asAddr, hp', hq', result_arr (P := P) ty hc ht hn]
/-- the rows before k of a matrix -/
def rowsM (m : List (List Int)) (k : Nat) : Nat → Nat → Int := fun a c => if a < k then at2 m a c else 0
theorem rowsM_zero (m : List (List Int)) : rowsM m 0 = fun _ _ => 0 := by
  funext a c
  simp [rowsM]
theorem at2_out (m : List (List Int)) (a c : Nat) (h : m.length ≤ a) : at2 m a c = 0 := by
  unfold at2
  rw [List.getD_eq_getElem?_getD (l := m), List.getElem?_eq_none h]
  rfl
theorem at2_outc (m : List (List Int)) (n a c : Nat) (ha : a < m.length) (h : m[a].length = n) (hc : n ≤ c) : at2 m a c = 0 := by
  unfold at2
  rw [List.getD_eq_getElem?_getD (l := m), List.getElem?_eq_getElem ha, Option.getD_some, List.getD_eq_getElem?_getD, List.getElem?_eq_none (by omega)]
  rfl
theorem rowsM_succ (m : List (List Int)) (n k : Nat) (hk : k < m.length) (h : m[k].length = n) : putSeg (rowsM m k) k 0 n (fun c => at2 m k c) = rowsM m (k + 1) := by
  funext a c
  unfold putSeg rowsM
  by_cases ha : a = k
  · subst ha
    by_cases hc : c < n
    · rw [if_pos (by omega), if_pos (by omega), Nat.sub_zero]
    · rw [if_neg (by omega), if_neg (by omega), if_pos (by omega), at2_outc m n a c hk h (by omega)]
  · rw [if_neg (by omega)]
    have e : (a < k) ↔ (a < k + 1) := by omega
    simp only [e]
theorem rowsM_end (m : List (List Int)) : rowsM m m.length = at2 m := by
  funext a c
  unfold rowsM
  by_cases h : a < m.length
  · rw [if_pos h]
  · rw [if_neg h, at2_out m a c (by omega)]
/-- what squareOf gives -/
def SquareSaid (m : List (List Int)) (w : World) (e : Ending) (w' : World) : Prop :=
  e = .returned (.tuple #[.agg (if sqB m = true then sqA m.length (at2 m) else sqA 0 fun _ _ => 0), .bool (sqB m)]) ∧ Below w.heap.size w w'
theorem squareSaid_no {m : List (List Int)} {w w' : World} (h : sqB m = false) (hb : Below w.heap.size w w') : SquareSaid m w (.returned (.tuple #[.agg (sqA 0 fun _ _ => 0), .bool false])) w' :=
  ⟨by rw [h, if_neg (by decide)], hb⟩

set_option maxHeartbeats 1000000 in
set_option maxRecDepth 100000 in
theorem implSquareOf (m : List (List Int)) (v : Value) (w : World) (h : Mat w v m) (hm : m.length ≤ 1048576) (hr : ∀ r ∈ m, r.length ≤ 1048576) :
    Calls Try.prog 56 #[v] w (SquareSaid m w) := by
  have hbld := build_sq m.length
  have hbld0 := build_sq0
  obtain ⟨i0, hi0, hz0, hz1, hz2⟩ := info_parts int_info
  have hsz : (Try.prog.info? 3).map (·.size) = some 1 := by rw [hi0, Option.map_some, hz1]
  have HSZ := Lib.hid hsz
  by_cases hl : 1 ≤ m.length ∧ m.length ≤ 4
  · obtain ⟨hl1, hl4⟩ := hl
    have d1 : decide ((m.length : Int) < 1) = false := by simp; omega
    have d2 : decide ((4 : Int) < m.length) = false := by simp; omega
    obtain ⟨A, cp, rfl⟩ := mat_slice h
    have HM := Lib.hid h
    have HR := Lib.hid hr
    clear h hr hsz
    have hz2 := sqA_zero m.length fun _ _ => 0
    go_enter Try.func56, Try.ntmps56
    go_wp2_with (with_reducible refine store_new rfl 67 (.tmp 4) (.tmp 9) rfl (w.heap.size + 1) _ (sqA m.length fun _ _ => 0) (by simp) rfl rfl 17 sq_ty rfl rfl (sqA_one _ _) ?_)
    go_loopw [21] (fun i w' => ∃ k : Nat, k ≤ m.length ∧ i = .int .i64 k ∧ (m.take k).all (rowOk m.length) = true ∧ Arr w' w.heap.size 67 w.heap.size (sqA 0 fun _ _ => 0) ∧ Arr w' w.heap.size 67 (w.heap.size + 1) (sqA m.length (rowsM m k)) ∧ Below w.heap.size w w') (fun i _ => m.length - (intOf i).toNat)
    case atStart =>
      refine ⟨0, by omega, rfl, rfl, (Arr.made _ _ _ _ (Nat.le_refl _) (by simp [maxLen])).alloc _, ?_, ((Below.refl _ _).alloc (Nat.le_refl _) _).alloc (by simp) _⟩
      rw [rowsM_zero]
      have := Arr.made (w.alloc (.cells (sqA 0 fun _ _ => 0) 67)) w.heap.size 67 (sqA m.length fun _ _ => 0) (by simp) (by simp [sqA_size, maxLen])
      simp only [World.size_alloc] at this
      exact this
    case round =>
      obtain ⟨k, hk, rfl, ha, hres, hs, hb⟩ := hrel
      obtain ⟨wo, rfl⟩ : ∃ x : World, x = wr := ⟨_, rfl⟩
      have HA := Lib.hid ha
      have HRes := Lib.hid hres
      have HS := Lib.hid hs
      have HB := Lib.hid hb
      have gs := hs.cell 0 _ (sqA_zero _ _)
      clear ha hres hs
      by_cases hlt : k < m.length
      · obtain ⟨b, off, cap, he, _, _, hrows⟩ := mat_rows (HM.out.below hb) (by omega)
        injection he with hA _ hc
        subst hA; subst hc
        obtain ⟨u, g1, lu⟩ := hrows k hlt
        have hrl := HR.out _ (List.getElem_mem hlt)
        obtain ⟨Au, cu, rfl⟩ := lst_slice lu
        rw [ints_length] at g1 lu
        clear hrows hb
        by_cases hlen : m[k].length = m.length
        · have b1 : ((m[k].length : Int) != (m.length : Int)) = false := by rw [hlen]; simp
          obtain ⟨A', c', he, hc1, hc2, h1⟩ := lu
          rw [ints_length] at he hc1
          injection he with hA _ hc
          subst hA; subst hc
          replace h1 := h1.resolve_left (by
            intro e
            have := congrArg List.length e
            rw [ints_length] at this
            simp only [List.length_nil] at this
            omega)
          obtain ⟨b2, off2, rfl, h1⟩ := h1
          have H2 := Lib.hid (ints_at h1)
          have HLN := Lib.hid hlen
          have HOK := Lib.hid (rowOk_iff m.length m[k] hlen (by omega))
          have HMIN : Hid (∀ W : World, wo = W → Calls Try.prog 76 #[.slice (some ⟨b2, off2, none⟩) m[k].length cu] W fun e w' => e = .returned (.int .i64 (Lib.minOf m[k])) ∧ w' = W) := by
            rintro W rfl
            have := Try.slices_Min_int b2 off2 m[k].length cu m[k] wo (by omega) (Nat.le_refl _) (by omega) (fun j hj => by rw [List.getD_eq_getElem?_getD, List.getElem?_eq_getElem hj]; exact H2.out j hj)
            rwa [List.take_length] at this
          have HMAX : Hid (∀ W : World, wo = W → Calls Try.prog 77 #[.slice (some ⟨b2, off2, none⟩) m[k].length cu] W fun e w' => e = .returned (.int .i64 (Lib.maxOf m[k])) ∧ w' = W) := by
            rintro W rfl
            have := Try.slices_Max_int b2 off2 m[k].length cu m[k] wo (by omega) (Nat.le_refl _) (by omega) (fun j hj => by rw [List.getD_eq_getElem?_getD, List.getElem?_eq_getElem hj]; exact H2.out j hj)
            rwa [List.take_length] at this
          clear h1 hc1 hc2 hlen
          by_cases hmin : Lib.minOf m[k] < -100
          · have e1 : decide (Lib.minOf m[k] < -100) = true := decide_eq_true hmin
            have HN : Hid (sqB m = false) := by
              show sqB m = false
              refine sq_no k hlt ?_
              rw [← Bool.not_eq_true, HOK.out]
              omega
            clear hmin
            go_wp2_with (first
              | (go_at_call 76; refine (HMIN.out _ rfl).mono ?_; rintro e w' ⟨rfl, rfl⟩)
              | (with_reducible refine store_arr rfl 67 (.tmp 2) (.tmp 41) rfl w.heap.size _ _ (sqA 0 fun _ _ => 0) rfl rfl HRes.out 17 sq_ty rfl rfl (sqA_one _ _) ?_))
            exact post_arr2 67 rfl rfl rfl (HRes.out.row (c' := sqA 0 fun _ _ => 0) rfl) sq_ty rfl rfl (squareSaid_no HN.out (below_row HB.out (Nat.le_refl _) _))
          · have e1 : decide (Lib.minOf m[k] < -100) = false := decide_eq_false hmin
            by_cases hmax : 100 < Lib.maxOf m[k]
            · have e2 : decide (100 < Lib.maxOf m[k]) = true := decide_eq_true hmax
              have HN : Hid (sqB m = false) := by
                show sqB m = false
                refine sq_no k hlt ?_
                rw [← Bool.not_eq_true, HOK.out]
                omega
              clear hmax
              go_wp2_with (first
                | (go_at_call 76; refine (HMIN.out _ rfl).mono ?_; rintro e w' ⟨rfl, rfl⟩)
                | (go_at_call 77; refine (HMAX.out _ rfl).mono ?_; rintro e w' ⟨rfl, rfl⟩)
                | (with_reducible refine store_arr rfl 67 (.tmp 2) (.tmp 41) rfl w.heap.size _ _ (sqA 0 fun _ _ => 0) rfl rfl HRes.out 17 sq_ty rfl rfl (sqA_one _ _) ?_))
              exact post_arr2 67 rfl rfl rfl (HRes.out.row (c' := sqA 0 fun _ _ => 0) rfl) sq_ty rfl rfl (squareSaid_no HN.out (below_row HB.out (Nat.le_refl _) _))
            · have e2 : decide (100 < Lib.maxOf m[k]) = false := decide_eq_false hmax
              have HK := Lib.hid (HOK.out.2 ⟨by omega, by omega⟩)
              have h4 : k < 4 := by omega
              have HS0 := Lib.hid (sqA_seg m.length (rowsM m k) k 0 m.length (fun c => at2 m k c) h4 (by omega))
              have HSQ : Hid (∀ j, j < m.length → wo.cell? ((⟨b2, off2, none⟩ : Addr).add j) = some (.int .i64 (at2 m k j))) := by
                intro j hj
                rw [Addr.add_lit, at2_eq m k j hlt (by rw [HLN.out]; exact hj)]
                exact H2.out j (by rw [HLN.out]; exact hj)
              clear hmin hmax
              go_wp2_with (first
                | (go_at_call 76; refine (HMIN.out _ rfl).mono ?_; rintro e w' ⟨rfl, rfl⟩)
                | (go_at_call 77; refine (HMAX.out _ rfl).mono ?_; rintro e w' ⟨rfl, rfl⟩)
                | (refine copy_arr rfl (.tmp 45) (.tmp 46) 30 30 rfl 3 Try.underlying30 HSZ.out w.heap.size (w.heap.size + 1) (1 + k * 4) 4 4 67 ⟨b2, off2, none⟩ m[k].length cu rfl rfl (sqA m.length (rowsM m k)) (sqA m.length (rowsM m (k + 1))) HS.out (fun c => at2 m k c) m.length (by rw [HLN.out]; exact (Nat.min_eq_left (by omega)).symm) HSQ.out (by rw [sqA_size]; omega) (by rw [← rowsM_succ m m.length k hlt HLN.out]; exact HS0.out) ?_))
              go_roundw
              case rel => exact ⟨k + 1, by omega, by go_num, lall_snoc m k hlt HA.out HK.out, HRes.out.otherRow (by omega) _, HS.out.row rfl, below_row HB.out (by omega) _⟩
              case measure => simp [intOf]; omega
        · have b1 : ((m[k].length : Int) != (m.length : Int)) = true := by rw [bne_iff_ne]; omega
          have HN : Hid (sqB m = false) := by
            show sqB m = false
            refine sq_no k hlt ?_
            unfold rowOk
            rw [decide_eq_false hlen]
            rfl
          clear hlen lu
          go_wp2_with (first
            | (with_reducible refine store_arr rfl 67 (.tmp 2) (.tmp 41) rfl w.heap.size _ _ (sqA 0 fun _ _ => 0) rfl rfl HRes.out 17 sq_ty rfl rfl (sqA_one _ _) ?_))
          exact post_arr2 67 rfl rfl rfl (HRes.out.row (c' := sqA 0 fun _ _ => 0) rfl) sq_ty rfl rfl (squareSaid_no HN.out (below_row HB.out (Nat.le_refl _) _))
      · have hk' : k = m.length := by omega
        have HY := Lib.hid (sq_yes hl1 hl4 (hk' ▸ HA.out))
        subst hk'
        clear hb
        go_wp2_with (first
          | (with_reducible refine load_arr rfl 67 (.tmp 4) rfl (w.heap.size + 1) _ _ _ rfl HS.out 17 sq_ty rfl ?_)
          | (with_reducible refine store_arr rfl 67 (.tmp 2) (.tmp 49) rfl w.heap.size _ _ (sqA m.length (rowsM m m.length)) rfl rfl HRes.out 17 sq_ty rfl rfl (sqA_one _ _) ?_))
        exact post_arr2 67 rfl rfl rfl (HRes.out.row (c' := sqA m.length (rowsM m m.length)) rfl) sq_ty rfl rfl ⟨by rw [HY.out, if_pos rfl, rowsM_end]; rfl, below_row HB.out (Nat.le_refl _) _⟩
  · have HN := Lib.hid (sq_len hl)
    have d1 : (decide ((m.length : Int) < 1) || decide ((4 : Int) < m.length)) = true := by simp; omega
    obtain ⟨A, cp, rfl⟩ := mat_slice h
    have hz2 := sqA_zero m.length fun _ _ => 0
    have hr0 := Arr.made w w.heap.size 67 (sqA 0 fun _ _ => 0) (Nat.le_refl _) (by simp [sqA_size, maxLen])
    have HR0 := Lib.hid (hr0.alloc (.cells (sqA m.length fun _ _ => 0) 67))
    have HB : Hid (Below w.heap.size w ((w.alloc (.cells (sqA 0 fun _ _ => 0) 67)).alloc (.cells (sqA m.length fun _ _ => 0) 67))) := ((Below.refl _ _).alloc (Nat.le_refl _) _).alloc (by simp) _
    clear h hr hr0
    by_cases h1 : (m.length : Int) < 1
    · have d3 : decide ((m.length : Int) < 1) = true := decide_eq_true h1
      go_enter Try.func56, Try.ntmps56
      go_wp2_with (first
        | (with_reducible refine store_new rfl 67 (.tmp 4) (.tmp 9) rfl (w.heap.size + 1) _ (sqA m.length fun _ _ => 0) (by simp) rfl rfl 17 sq_ty rfl rfl (sqA_one _ _) ?_)
        | (with_reducible refine store_arr rfl 67 (.tmp 2) (.tmp 18) rfl w.heap.size _ _ (sqA 0 fun _ _ => 0) rfl rfl HR0.out 17 sq_ty rfl rfl (sqA_one _ _) ?_))
      exact post_arr2 67 rfl rfl rfl HR0.out sq_ty rfl rfl (squareSaid_no HN.out HB.out)
    · have d3 : decide ((m.length : Int) < 1) = false := decide_eq_false h1
      have h2 : (4 : Int) < m.length := by omega
      have d4 : decide ((4 : Int) < m.length) = true := decide_eq_true h2
      go_enter Try.func56, Try.ntmps56
      go_wp2_with (first
        | (with_reducible refine store_new rfl 67 (.tmp 4) (.tmp 9) rfl (w.heap.size + 1) _ (sqA m.length fun _ _ => 0) (by simp) rfl rfl 17 sq_ty rfl rfl (sqA_one _ _) ?_)
        | (with_reducible refine store_arr rfl 67 (.tmp 2) (.tmp 18) rfl w.heap.size _ _ (sqA 0 fun _ _ => 0) rfl rfl HR0.out 17 sq_ty rfl rfl (sqA_one _ _) ?_))
      exact post_arr2 67 rfl rfl rfl HR0.out sq_ty rfl rfl (squareSaid_no HN.out HB.out)

set_option maxHeartbeats 1000000 in
theorem implTraceOf (m : List (List Int)) (v : Value) (w : World) (h : Mat w v m) (hm : m.length ≤ 1048576) (hr : ∀ r ∈ m, r.length ≤ 1048576) :
    Calls Try.prog 21 #[v] w fun e w' => e = .returned (.int .i64 (trR m)) ∧ Below w.heap.size w w' := by
  have HSQ := Lib.hid (implSquareOf m v w h hm hr)
  by_cases hs : sqB m = true
  · have HV : Hid (trR m = trTo m m.length) := if_pos hs
    obtain ⟨_, h4, _, _⟩ := sq_parts hs
    have HSM := Lib.hid (at2_small hs)
    have HTB := Lib.hid (trTo_bound hs)
    have HS := Lib.hid hs
    obtain ⟨A, cp, rfl⟩ := mat_slice h
    clear h hr hs
    go_enter Try.func21, Try.ntmps21
    go_wp2_with fail
    refine HSQ.out.mono ?_
    rintro e w1 ⟨rfl, hb1⟩
    rw [HS.out, if_pos rfl]
    have hz2 := sqA_zero m.length (at2 m)
    have HA := Lib.hid (Arr.made w1 w1.heap.size 67 (sqA m.length (at2 m)) (Nat.le_refl _) (by simp [sqA_size, maxLen]))
    have HB : Hid (Below w.heap.size w (w1.alloc (.cells (sqA m.length (at2 m)) 67))) := hb1.alloc hb1.size _
    clear hb1
    go_wp2_with (with_reducible refine store_new rfl 67 (.tmp 3) (.tmp 10) rfl w1.heap.size _ (sqA m.length (at2 m)) rfl rfl rfl 17 sq_ty rfl rfl (sqA_one _ _) ?_)
    go_loop [5, 16] (fun n i => ∃ k : Nat, k ≤ m.length ∧ i = .int .i64 k ∧ n = .int .i64 (trTo m k)) (fun _ i => m.length - (intOf i).toNat)
    case atStart => exact ⟨0, Nat.zero_le _, rfl, rfl⟩
    case round =>
      obtain ⟨k, hk, rfl, rfl⟩ := hrel
      by_cases hlt : k < m.length
      · have g2 := HA.out.cell _ _ (sqA_get m.length (at2 m) k k (by omega) (by omega))
        have g3 : (sqA m.length (at2 m))[1 + k * 4 + k]? = some (.int .i64 (at2 m k k)) := sqA_get m.length (at2 m) k k (by omega) (by omega)
        have hk4 : k < 4 := by omega
        obtain ⟨s1, s2⟩ := HSM.out k k hlt hlt
        obtain ⟨t1, t2⟩ := HTB.out k hk
        go_wp2_with fail
        go_round
        case rel => exact ⟨k + 1, by omega, by go_num, rfl⟩
        case measure => simp [intOf]; omega
      · have hkm : k = m.length := by omega
        have HV2 : Hid (trTo m k = trR m) := by show trTo m k = trR m; rw [HV.out, hkm]
        clear hkm
        go_wp2_with fail
        go_ret
        exact ⟨ret_int HV2.out, HB.out⟩
  · have hs' : sqB m = false := by simpa using hs
    have HV : Hid (trR m = 0) := if_neg hs
    have HS := Lib.hid hs'
    obtain ⟨A, cap, rfl⟩ := mat_slice h
    clear h hs hs'
    go_enter Try.func21, Try.ntmps21
    go_wp2_with fail
    refine HSQ.out.mono ?_
    rintro e w1 ⟨rfl, hb1⟩
    rw [HS.out, if_neg (by decide)]
    have HB : Hid (Below w.heap.size w (w1.alloc (.cells (sqA 0 fun _ _ => 0) 67))) := hb1.alloc hb1.size _
    clear hb1
    go_wp2_with (with_reducible refine store_new rfl 67 (.tmp 3) (.tmp 10) rfl w1.heap.size _ (sqA 0 fun _ _ => 0) rfl rfl rfl 17 sq_ty rfl rfl (sqA_one _ _) ?_)
    go_ret
    exact ⟨ret_int HV.out.symm, HB.out⟩
end Go.Proofs.Ytgidfainoijcmaa

/- MultiplyMatrices of the model. Conditions: lengths of at most 2^20. -/
namespace Go.Proofs.Ytgidfainoijcmaa
open Go.RowKit

/-- a matrix, and whether there is one -/
def MatSaid (r : List (List Int)) (ok : Bool) (w : World) (e : Ending) (w' : World) : Prop := ∃ v, e = .returned (.tuple #[v, .bool ok]) ∧ OwnMat w' w.heap.size w'.heap.size v r ∧ Below w.heap.size w w'
theorem matSaid_no {r : List (List Int)} {ok : Bool} {w w' : World} (h1 : r = []) (h2 : ok = false) (hb : Below w.heap.size w w') : MatSaid r ok w (.returned (.tuple #[.slice none 0 0, .bool false])) w' :=
  ⟨_, by rw [h2], by rw [h1]; exact OwnMat.nil _ _ _, hb⟩
theorem mulR_no {a b : List (List Int)} (h : mulOk a b = false) : mulR a b = [] := if_neg (by rw [h]; decide)

theorem mul_cell {a b : List (List Int)} (ha : sqB a = true) (hb : sqB b = true) (hab : a.length = b.length) (i k : Nat) (hi : i < a.length) (hk : k < b.length) :
    (∀ j, j < b.length → -10000 ≤ at2 a i j * at2 b j k ∧ at2 a i j * at2 b j k ≤ 10000) ∧ ∀ j, j ≤ b.length → -40000 ≤ colTo a b i k j ∧ colTo a b i k j ≤ 40000 := by
  have h1 : ∀ j, j < b.length → -(100 : Int) ≤ at2 a i j ∧ at2 a i j ≤ 100 := fun j hj => at2_small ha i j hi (by omega)
  have h2 : ∀ j, j < b.length → -(100 : Int) ≤ at2 b j k ∧ at2 b j k ≤ 100 := fun j hj => at2_small hb j k hj hk
  have h4 := (sq_parts hb).2.1
  refine ⟨fun j hj => by have := mul_bound (h1 j hj) (h2 j hj); omega, fun j hj => ?_⟩
  have := colTo_bound b.length h1 h2 j hj
  omega

set_option maxHeartbeats 2000000 in
set_option maxRecDepth 100000 in
theorem specMultiplyMatrices (a b : List (List Int)) (va vb : Value) (w : World) (h1 : Mat w va a) (h2 : Mat w vb b) (hm : a.length ≤ 1048576) (hr : ∀ r ∈ a, r.length ≤ 1048576) (hm2 : b.length ≤ 1048576) (hr2 : ∀ r ∈ b, r.length ≤ 1048576) :
    Calls Try.prog 47 #[va, vb] w (MatSaid (mulR a b) (mulOk a b) w) := by
  have HSA := Lib.hid (specSquare a va w h1 hm hr)
  have HSB := Lib.hid (specSquare b vb w h2 hm2 hr2)
  by_cases ha : sqB a = true
  · by_cases hb : sqB b = true
    · by_cases hab : a.length = b.length
      · have HOK : Hid (mulOk a b = true) := by show mulOk a b = true; unfold mulOk; rw [ha, hb, decide_eq_true hab]; rfl
        have HR : Hid (mulR a b = mulM a b) := if_pos HOK.out
        obtain ⟨i0, hi0, hz0, hz1, hz2⟩ := info_parts int_info
        obtain ⟨i1, hj0, hy0, hy1, hy2⟩ := info_parts ints_info
        obtain ⟨_, ha4, _, _⟩ := sq_parts ha
        obtain ⟨hb1, hb4, _, _⟩ := sq_parts hb
        obtain ⟨ba, oa, ca, rfl, _, hra⟩ := sq_row h1 ha
        obtain ⟨bb, ob, cb, rfl, _, hrb⟩ := sq_row h2 hb
        have HRA := Lib.hid hra
        have HRB := Lib.hid hrb
        have HMC := Lib.hid (mul_cell ha hb hab)
        have HAB := Lib.hid hab
        have HML := Lib.hid (mulM_length a b)
        have bn : ((a.length : Int) != (b.length : Int)) = false := by rw [hab]; simp
        clear h1 h2 hr hr2 hra hrb hab
        go_enter Try.func47, Try.ntmps47
        go_wp2_with fail
        refine HSA.out.mono ?_
        rintro e w' ⟨rfl, rfl⟩
        go_wp2_with fail
        refine HSB.out.mono ?_
        rintro e w' ⟨rfl, rfl⟩
        go_wp2_with fail
        go_loopw [6, 32] (fun o i w' => ∃ (us : List Value), us.length ≤ a.length ∧ i = .int .i64 us.length ∧ GrowMat w' w.heap.size o us (mulM a b) ∧ Below w.heap.size w w') (fun _ i _ => a.length - (intOf i).toNat)
        case atStart =>
          have hown0 := World.ownsRow_made (e := 30) (size := 1) w #[] 0 (Nat.le_refl _) (by simp [maxLen]) (by simp)
          exact ⟨[], by simp, rfl, ⟨hown0, ⟨by simp, fun i h => absurd h (by simp), fun i j h => absurd h (by simp)⟩⟩, (Below.refl _ _).alloc (Nat.le_refl _) _⟩
        case round =>
          obtain ⟨us, hk, rfl, hgm, hbk⟩ := hrel
          obtain ⟨wo, rfl⟩ : ∃ x : World, x = wr := ⟨_, rfl⟩
          obtain ⟨A, cpo, rfl⟩ := own_slice hgm.1
          have HGM := Lib.hid hgm
          have HBK := Lib.hid hbk
          have hszr : w.heap.size ≤ wo.heap.size := hbk.size
          clear hgm hbk
          by_cases hlt : us.length < a.length
          · obtain ⟨b2, o2, c2, g1, _, _, hrow⟩ := HRA.out us.length hlt
            have g1w : wo.cell? ⟨ba, oa + us.length, none⟩ = some (.slice (some ⟨b2, o2, none⟩) a.length c2) := (HBK.out.cell (p := ⟨ba, oa + us.length, none⟩) (World.block_lt_of_cell? w _ g1)).trans g1
            have HROW := Lib.hid hrow
            clear hrow g1
            go_wp2_with fail
            go_loopw [9, 39] (fun r j w' => ∃ (k : Nat), k ≤ b.length ∧ j = .int .i64 k ∧ w'.ownsRow wo.heap.size 3 1 r k (ints ((mulRow a b us.length).take k)) ∧ Below wo.heap.size wo w') (fun _ j _ => b.length - (intOf j).toNat)
            case atStart =>
              have hown0 := World.ownsRow_made (e := 3) (size := 1) wo #[] 0 (Nat.le_refl _) (by simp [maxLen]) (by simp)
              exact ⟨0, by omega, rfl, hown0, (Below.refl _ _).alloc (Nat.le_refl _) _⟩
            case round =>
              obtain ⟨k, hk2, rfl, ho, hb2⟩ := hrel
              obtain ⟨wi, rfl⟩ : ∃ x : World, x = wr := ⟨_, rfl⟩
              obtain ⟨Ar, cpr, rfl⟩ := own_slice ho
              have HO := Lib.hid ho
              have HB2 := Lib.hid hb2
              have hszq := hb2.size
              have HBW : Hid (Below w.heap.size w wi) := HBK.out.trans (hb2.mono hszr)
              clear ho hb2
              by_cases hlt2 : k < b.length
              · have HMC2 := Lib.hid (HMC.out us.length k hlt hlt2)
                have HS := Lib.hid (mulRow_take a b us.length k hlt2)
                go_wp2_with fail
                go_loop [11, 44] (fun s q => ∃ (j : Nat), j ≤ a.length ∧ q = .int .i64 j ∧ s = .int .i64 (colTo a b us.length k j)) (fun _ q => a.length - (intOf q).toNat)
                case atStart => exact ⟨0, by omega, rfl, rfl⟩
                case round =>
                  obtain ⟨j, hj, rfl, rfl⟩ := hrel
                  by_cases hlt3 : j < a.length
                  · have hjb : j < b.length := by have := HAB.out; omega
                    obtain ⟨b3, o3, c3, q1, _, _, hrow3⟩ := HRB.out j hjb
                    have p1 := HROW.out j hlt3
                    have p2 := hrow3 k hlt2
                    have g2 : wi.cell? ⟨b2, o2 + j, none⟩ = some (.int .i64 (at2 a us.length j)) := (HBW.out.cell (p := ⟨b2, o2 + j, none⟩) (World.block_lt_of_cell? w _ p1)).trans p1
                    have g3 : wi.cell? ⟨bb, ob + j, none⟩ = some (.slice (some ⟨b3, o3, none⟩) b.length c3) := (HBW.out.cell (p := ⟨bb, ob + j, none⟩) (World.block_lt_of_cell? w _ q1)).trans q1
                    have g4 : wi.cell? ⟨b3, o3 + k, none⟩ = some (.int .i64 (at2 b j k)) := (HBW.out.cell (p := ⟨b3, o3 + k, none⟩) (World.block_lt_of_cell? w _ p2)).trans p2
                    obtain ⟨s1, s2⟩ := HMC2.out.1 j hjb
                    obtain ⟨s3, s4⟩ := HMC2.out.2 j (by omega)
                    clear hrow3 q1 p1 p2
                    go_wp2_with fail
                    go_round
                    case rel => exact ⟨j + 1, by omega, by go_num, rfl⟩
                    case measure => simp [intOf]; omega
                  · have hja : j = b.length := by have := HAB.out; omega
                    have HJA := Lib.hid hja
                    clear hja
                    go_wp2_with (at_builtin
                                 refine wpList_append1 _ rfl (.tmp 61) (.tmp 63) _ rfl wo.heap.size 3 i0 _ 8 Try.underlying30 hi0 hz0 hz1 hz2 rfl _ k _ rfl HO.out (.int .i64 (colTo a b us.length k j)) rfl rfl (by unfold maxLen; omega) (by omega) hszq ?_
                                 intro v' w1 hown1 hbel1
                                 have HOW := Lib.hid hown1
                                 have HBE := Lib.hid hbel1
                                 clear hown1 hbel1)
                    go_roundw
                    case rel =>
                      refine ⟨k + 1, by omega, by go_num, ?_, HB2.out.trans HBE.out⟩
                      rw [HS.out, ← HJA.out]
                      exact HOW.out
                    case measure => simp [intOf]; omega
              · have hkl : k = b.length := by omega
                have HO2 : Hid (wi.ownsRow wo.heap.size 3 1 (.slice Ar k cpr) b.length (ints (mulRow a b us.length))) := by
                  have := HO.out
                  rw [hkl, List.take_of_length_le (by rw [mulRow_length]; exact Nat.le_refl _)] at this
                  rw [hkl]
                  exact this
                have HG1 := Lib.hid (GrowMat.below HGM.out HB2.out)
                have HGU := Lib.hid HG1.out.1
                clear hkl
                go_wp2_with (at_builtin
                             refine wpList_append1g _ rfl (.tmp 66) (.tmp 68) _ rfl w.heap.size 30 i1 _ 24 Try.underlying27 hj0 hy0 hy1 hy2 rfl _ us.length us rfl HGU.out (.slice Ar k cpr) rfl rfl (by unfold maxLen; omega) (by omega) (by omega) ?_
                             intro v' w1 hown1 hgr1
                             have HOW := Lib.hid hown1
                             have HGR := Lib.hid hgr1
                             clear hown1 hgr1)
                go_roundw
                case rel =>
                  have hmm : us.length < (mulM a b).length := by rw [HML.out]; exact hlt
                  have hrow : (mulM a b)[us.length] = mulRow a b us.length := mulM_at a b us.length hmm
                  refine ⟨us ++ [.slice Ar k cpr], by simp; omega, by simp, ?_, ?_⟩
                  · refine GrowMat.snoc HGM.out HB2.out hszr hmm ?_ HOW.out HGR.out
                    rw [hrow, mulRow_length]
                    exact HO2.out
                  · exact HBW.out.grown HGR.out (by omega) (fun x hx => (HGU.out.lt x hx).1)
                case measure => simp [intOf]; omega
          · have hkl : us.length = (mulM a b).length := by have := HML.out; omega
            have HOM : Hid (OwnMat wo w.heap.size wo.heap.size (.slice A us.length cpo) (mulM a b)) := HGM.out.own hkl
            clear hkl
            go_wp2_with fail
            go_ret2
            exact ⟨_, by rw [HOK.out]; rfl, by rw [HR.out]; exact HOM.out, HBK.out⟩
      · have HOK : Hid (mulOk a b = false) := by show mulOk a b = false; unfold mulOk; rw [decide_eq_false hab]; simp
        have bn : ((a.length : Int) != (b.length : Int)) = true := by rw [bne_iff_ne]; omega
        obtain ⟨A, cap, rfl⟩ := mat_slice h1
        obtain ⟨B, cap2, rfl⟩ := mat_slice h2
        clear h1 h2 hr hr2 hab
        go_enter Try.func47, Try.ntmps47
        go_wp2_with fail
        refine HSA.out.mono ?_
        rintro e w' ⟨rfl, rfl⟩
        go_wp2_with fail
        refine HSB.out.mono ?_
        rintro e w' ⟨rfl, rfl⟩
        go_wp2_with fail
        go_ret2
        exact matSaid_no (mulR_no HOK.out) HOK.out (Below.refl _ _)
    · have HOK : Hid (mulOk a b = false) := by show mulOk a b = false; unfold mulOk; rw [show sqB b = false by simpa using hb]; simp
      have hb' : sqB b = false := by simpa using hb
      clear h1 h2 hr hr2 hb
      go_enter Try.func47, Try.ntmps47
      go_wp2_with fail
      refine HSA.out.mono ?_
      rintro e w' ⟨rfl, rfl⟩
      go_wp2_with fail
      refine HSB.out.mono ?_
      rintro e w' ⟨rfl, rfl⟩
      go_wp2_with fail
      go_ret2
      exact matSaid_no (mulR_no HOK.out) HOK.out (Below.refl _ _)
  · have HOK : Hid (mulOk a b = false) := by show mulOk a b = false; unfold mulOk; rw [show sqB a = false by simpa using ha]; simp
    have ha' : sqB a = false := by simpa using ha
    clear h1 h2 hr hr2 ha
    go_enter Try.func47, Try.ntmps47
    go_wp2_with fail
    refine HSA.out.mono ?_
    rintro e w' ⟨rfl, rfl⟩
    go_wp2_with fail
    go_ret2
    exact matSaid_no (mulR_no HOK.out) HOK.out (Below.refl _ _)
theorem mulR_sum (a b : List (List Int)) : sumN ((mulR a b).map List.length) ≤ 16 := by
  have h1 := mulR_le a b
  have h2 := sum_rect (m := mulR a b) (c := 4) (fun x hx => by
    unfold mulR at hx
    split at hx
    · rename_i h
      unfold mulOk at h
      simp only [Bool.and_eq_true, decide_eq_true_eq] at h
      obtain ⟨i, hi, rfl⟩ := List.mem_iff_getElem.1 hx
      rw [mulM_at, mulRow_length]
      exact (sq_parts h.2.1).2.1
    · simp at hx)
  omega
end Go.Proofs.Ytgidfainoijcmaa

/- MultiplyMatrices of the program. Conditions: lengths of at most 2^20. -/
namespace Go.Proofs.Ytgidfainoijcmaa
open Go.RowKit

theorem at2_small4 {m : List (List Int)} (hs : sqB m = true) (i k : Nat) : -100 ≤ at2 m i k ∧ at2 m i k ≤ 100 := by
  by_cases hi : i < m.length
  · by_cases hk : k < m.length
    · exact at2_small hs i k hi hk
    · rw [at2_outc m m.length i k hi ((sq_parts hs).2.2.1 i hi) (by omega)]
      decide
  · rw [at2_out m i k (by omega)]
    decide
theorem at2_zero_right {m : List (List Int)} (hs : sqB m = true) (i k : Nat) (hk : m.length ≤ k) : at2 m i k = 0 := by
  by_cases hi : i < m.length
  · exact at2_outc m m.length i k hi ((sq_parts hs).2.2.1 i hi) hk
  · exact at2_out m i k (by omega)
theorem small_of {f : Nat → Nat → Int} {c : Nat → Int} {B C : Int} (hf : ∀ i j, -B ≤ f i j ∧ f i j ≤ B) (hc : ∀ j, -C ≤ c j ∧ c j ≤ C) (h : B * C ≤ 1000000000000000) : Small f c := fun i j _ _ => by
  have := mul_bound (hf i j) (hc j)
  omega
theorem dotF_more (f : Nat → Nat → Int) (c : Nat → Int) (i n : Nat) (h : ∀ j, n ≤ j → f i j = 0) : ∀ k, dotF f c i (n + k) = dotF f c i n
  | 0 => rfl
  | k + 1 => by
    show dotF f c i (n + k) + f i (n + k) * c (n + k) = _
    rw [dotF_more f c i n h k, h (n + k) (by omega)]
    simp
theorem dotF_upto (f : Nat → Nat → Int) (c : Nat → Int) (i n : Nat) (hn : n ≤ 4) (h : ∀ j, n ≤ j → f i j = 0) : dotF f c i 4 = dotF f c i n := by
  have := dotF_more f c i n h (4 - n)
  rwa [Nat.add_sub_cancel' hn] at this
theorem colTo_dotF (a b : List (List Int)) (i k : Nat) : ∀ j, colTo a b i k j = dotF (at2 a) (fun j => at2 b j k) i j
  | 0 => rfl
  | j + 1 => by
    unfold colTo dotF
    rw [colTo_dotF a b i k j]
theorem mulM_of {a b : List (List Int)} (ha : sqB a = true) (hl : a.length = b.length) : matOf a.length (timesF a.length (at2 a) (at2 b)) = mulM a b := by
  unfold matOf mulM mulRow
  refine List.map_congr_left fun i hi => ?_
  rw [← hl]
  refine List.map_congr_left fun k hk => ?_
  unfold timesF
  rw [if_pos (List.mem_range.1 hk), colTo_dotF, dotF_upto _ _ i a.length (sq_parts ha).2.1 (fun j hj => at2_zero_right ha i j hj)]
theorem square_some (m : List (List Int)) : ∃ (n : Int) (f : Nat → Nat → Int), (if sqB m = true then sqA m.length (at2 m) else sqA 0 fun _ _ => 0) = sqA n f := by
  by_cases h : sqB m = true
  · exact ⟨_, _, if_pos h⟩
  · exact ⟨_, _, if_neg h⟩

set_option maxHeartbeats 1000000 in
theorem implMultiplyMatrices (a b : List (List Int)) (va vb : Value) (w : World) (h1 : Mat w va a) (h2 : Mat w vb b) (hm : a.length ≤ 1048576) (hr : ∀ r ∈ a, r.length ≤ 1048576) (hm2 : b.length ≤ 1048576) (hr2 : ∀ r ∈ b, r.length ≤ 1048576) :
    Calls Try.prog 16 #[va, vb] w (MatSaid (mulR a b) (mulOk a b) w) := by
  have HSQ := Lib.hid (implSquareOf a va w h1 hm hr)
  have HSQ2 : Hid (∀ W : World, Below w.heap.size w W → Calls Try.prog 56 #[vb] W (SquareSaid b W)) := fun W hW => implSquareOf b vb W (h2.below hW) hm2 hr2
  obtain ⟨A, cp, rfl⟩ := mat_slice h1
  obtain ⟨A2, cp2, rfl⟩ := mat_slice h2
  clear h1 h2 hr hr2 hm hm2
  by_cases hsa : sqB a = true
  · by_cases hsb : sqB b = true
    · have HSA := Lib.hid hsa
      have HSB := Lib.hid hsb
      obtain ⟨ha1, ha4, _, _⟩ := sq_parts hsa
      obtain ⟨hb1', hb4, _, _⟩ := sq_parts hsb
      have hza := sqA_zero a.length (at2 a)
      have hzb := sqA_zero b.length (at2 b)
      clear hsa hsb
      go_enter Try.func16, Try.ntmps16
      go_wp2_with fail
      refine HSQ.out.mono ?_
      rintro e w1 ⟨rfl, hb1⟩
      rw [HSA.out, if_pos rfl]
      have HB1 : Hid (Below w.heap.size w (w1.alloc (.cells (sqA a.length (at2 a)) 67))) := hb1.alloc hb1.size _
      have HA1 := Lib.hid (Arr.made w1 w1.heap.size 67 (sqA a.length (at2 a)) (Nat.le_refl _) (by simp [sqA_size, maxLen]))
      have hsz1 : w.heap.size ≤ w1.heap.size := hb1.size
      clear hb1
      go_wp2_with (with_reducible refine store_new rfl 67 (.tmp 6) (.tmp 13) rfl w1.heap.size _ (sqA a.length (at2 a)) rfl rfl rfl 17 sq_ty rfl rfl (sqA_one _ _) ?_)
      refine (HSQ2.out _ HB1.out).mono ?_
      rintro e w2 ⟨rfl, hb2⟩
      rw [HSB.out, if_pos rfl]
      have HB2 : Hid (Below w.heap.size w (w2.alloc (.cells (sqA b.length (at2 b)) 67))) := (HB1.out.trans (hb2.mono (by simp; omega))).alloc (by have := hb2.size; simp at this; omega) _
      have HA2 := Lib.hid (Arr.made w2 w1.heap.size 67 (sqA b.length (at2 b)) (by have := hb2.size; simp at this; omega) (by simp [sqA_size, maxLen]))
      have HA1' := Lib.hid ((HA1.out.below hb2).alloc (.cells (sqA b.length (at2 b)) 67))
      have g1 := HA1'.out.cell 0 _ (sqA_zero _ _)
      have hlt2 : w1.heap.size < w2.heap.size := by have := hb2.size; simp at this; omega
      clear hb2
      by_cases hl : a.length = b.length
      · have b1 : ((a.length : Int) != (b.length : Int)) = false := by rw [hl]; simp
        have HOK : Hid (mulOk a b = true) := by show mulOk a b = true; unfold mulOk; rw [HSA.out, HSB.out, decide_eq_true hl]; rfl
        have HEQ := Lib.hid hl
        clear hl
        go_wp2_with (first
          | (with_reducible refine store_new rfl 67 (.tmp 8) (.tmp 18) rfl w2.heap.size _ (sqA b.length (at2 b)) rfl rfl rfl 17 sq_ty rfl rfl (sqA_one _ _) ?_)
          | (with_reducible refine load_arr rfl 67 (.tmp 6) rfl w1.heap.size _ _ _ rfl HA1'.out 17 sq_ty rfl ?_)
          | (with_reducible refine load_arr rfl 67 (.tmp 8) rfl w2.heap.size _ _ _ rfl HA2.out 17 sq_ty rfl ?_))
        refine (implTimes a.length b.length (at2 a) (at2 b) ha4 (fun k _ => small_of (at2_small4 HSA.out) (fun j => at2_small4 HSB.out j k) (by decide)) _).mono ?_
        rintro e w3 ⟨rfl, hb3⟩
        have HB3 : Hid (Below w.heap.size w w3) := HB2.out.trans (hb3.mono (by simp; omega))
        clear hb3
        go_wp2_with fail
        refine (implLists a.length (timesF a.length (at2 a) (at2 b)) ha1 ha4 _).mono ?_
        rintro e w4 ⟨v, rfl, ho, hb4⟩
        rw [mulM_of HSA.out HEQ.out] at ho
        obtain ⟨A4, cp4, rfl⟩ := mat_slice ho.mat
        have HO := Lib.hid ho
        have hsz3 := HB3.out.size
        have HB4 : Hid (Below w.heap.size w w4) := HB3.out.trans (hb4.mono HB3.out.size)
        clear ho hb4
        go_wp2_with fail
        go_ret2
        refine ⟨_, by rw [HOK.out]; rfl, ?_, HB4.out⟩
        have e : mulR a b = mulM a b := if_pos HOK.out
        rw [e]
        exact HO.out.mono hsz3
      · have b1 : ((a.length : Int) != (b.length : Int)) = true := by rw [bne_iff_ne]; omega
        have HNO : Hid (mulOk a b = false) := by show mulOk a b = false; unfold mulOk; rw [decide_eq_false hl, Bool.and_false, Bool.and_false]
        clear hl
        go_wp2_with (with_reducible refine store_new rfl 67 (.tmp 8) (.tmp 18) rfl w2.heap.size _ (sqA b.length (at2 b)) rfl rfl rfl 17 sq_ty rfl rfl (sqA_one _ _) ?_)
        go_ret2
        exact matSaid_no (mulR_no HNO.out) HNO.out HB2.out
    · have hsb' : sqB b = false := by simpa using hsb
      have HSA := Lib.hid hsa
      have HSB := Lib.hid hsb'
      have HNO : Hid (mulOk a b = false) := by show mulOk a b = false; unfold mulOk; rw [hsb', Bool.false_and, Bool.and_false]
      clear hsa hsb hsb'
      go_enter Try.func16, Try.ntmps16
      go_wp2_with fail
      refine HSQ.out.mono ?_
      rintro e w1 ⟨rfl, hb1⟩
      rw [HSA.out, if_pos rfl]
      have HB1 : Hid (Below w.heap.size w (w1.alloc (.cells (sqA a.length (at2 a)) 67))) := hb1.alloc hb1.size _
      have hsz1 : w.heap.size ≤ w1.heap.size := hb1.size
      clear hb1
      go_wp2_with (with_reducible refine store_new rfl 67 (.tmp 6) (.tmp 13) rfl w1.heap.size _ (sqA a.length (at2 a)) rfl rfl rfl 17 sq_ty rfl rfl (sqA_one _ _) ?_)
      refine (HSQ2.out _ HB1.out).mono ?_
      rintro e w2 ⟨rfl, hb2⟩
      rw [HSB.out, if_neg (by decide)]
      have HB2 : Hid (Below w.heap.size w (w2.alloc (.cells (sqA 0 fun _ _ => 0) 67))) := (HB1.out.trans (hb2.mono (by simp; omega))).alloc (by have := hb2.size; simp at this; omega) _
      clear hb2
      go_wp2_with (with_reducible refine store_new rfl 67 (.tmp 8) (.tmp 18) rfl w2.heap.size _ (sqA 0 fun _ _ => 0) rfl rfl rfl 17 sq_ty rfl rfl (sqA_one _ _) ?_)
      go_ret2
      exact matSaid_no (mulR_no HNO.out) HNO.out HB2.out
  · have hsa' : sqB a = false := by simpa using hsa
    have HSA := Lib.hid hsa'
    have HNO : Hid (mulOk a b = false) := by show mulOk a b = false; unfold mulOk; rw [hsa', Bool.false_and]
    clear hsa hsa'
    go_enter Try.func16, Try.ntmps16
    go_wp2_with fail
    refine HSQ.out.mono ?_
    rintro e w1 ⟨rfl, hb1⟩
    rw [HSA.out, if_neg (by decide)]
    have HB1 : Hid (Below w.heap.size w (w1.alloc (.cells (sqA 0 fun _ _ => 0) 67))) := hb1.alloc hb1.size _
    have hsz1 : w.heap.size ≤ w1.heap.size := hb1.size
    clear hb1
    go_wp2_with (with_reducible refine store_new rfl 67 (.tmp 6) (.tmp 13) rfl w1.heap.size _ (sqA 0 fun _ _ => 0) rfl rfl rfl 17 sq_ty rfl rfl (sqA_one _ _) ?_)
    refine (HSQ2.out _ HB1.out).mono ?_
    rintro e w2 ⟨rfl, hb2⟩
    obtain ⟨nb, fb, hX⟩ := square_some b
    rw [hX]
    have HB2 : Hid (Below w.heap.size w (w2.alloc (.cells (sqA nb fb) 67))) := (HB1.out.trans (hb2.mono (by simp; omega))).alloc (by have := hb2.size; simp at this; omega) _
    clear hb2 hX
    go_wp2_with (with_reducible refine store_new rfl 67 (.tmp 8) (.tmp 18) rfl w2.heap.size _ (sqA nb fb) rfl rfl rfl 17 sq_ty rfl rfl (sqA_one _ _) ?_)
    go_ret2
    exact matSaid_no (mulR_no HNO.out) HNO.out HB2.out
end Go.Proofs.Ytgidfainoijcmaa

/- The model's CountLetter, CountsOf, ShiftWord, BeforeWord and IsFactor. Condition: texts of at most 2^20 bytes. -/
namespace Go.Proofs.Ytgidfainoijcmaa
open Go.RowKit

/-- what CountLetter is to return -/
def countR (s t : ByteArray) : Int := if h : wordB s = true ∧ t.size = 1 ∧ wordB t = true then (cnt s.data.toList (t[0]'(by omega)) : Int) else -1

/-- what CountsOf is to return -/
def countsR (s : ByteArray) : List Int := if wordB s = true then [(cnt s.data.toList 97 : Int), (cnt s.data.toList 98 : Int), (cnt s.data.toList 99 : Int), (cnt s.data.toList 100 : Int)] else []

theorem countsR_le (s : ByteArray) : (countsR s).length ≤ 4 := by
  unfold countsR; split <;> simp

/-- what BeforeWord is to return -/
def beforeR (s t : ByteArray) : Bool := wordB s && (wordB t && Op.bytesLess s.toList t.toList)
/-- what ShiftWord is to return -/
def shiftR (s : ByteArray) (k : Int) : ByteArray := if wordB s = true ∧ 0 ≤ k ∧ k ≤ s.size then s.extract k.toNat s.size ++ s.extract 0 k.toNat else ⟨#[]⟩
end Go.Proofs.Ytgidfainoijcmaa
