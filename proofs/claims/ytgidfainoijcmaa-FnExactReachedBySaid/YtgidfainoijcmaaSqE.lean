/- A slice of slices read into a square of the program; its trace. Conditions: lengths of at most 2^20. -/
import Derived.Test.YtgidfainoijcmaaSqC
import Derived.Test.YtgidfainoijcmaaSquare
import Derived.Test.YtgidfainoijcmaaShelf
namespace Go.Proofs.Ytgidfainoijcmaa
open Go.RowKit

theorem foldl_min_ge (L : Int) : ∀ (zs : List Int) (a : Int), L ≤ zs.foldl min a ↔ L ≤ a ∧ ∀ x ∈ zs, L ≤ x
  | [], a => by simp
  | z :: zs, a => by
    rw [List.foldl_cons, foldl_min_ge L zs (min a z)]
    simp only [List.mem_cons, forall_eq_or_imp]
    exact ⟨fun h => ⟨by omega, by omega, h.2⟩, fun h => ⟨by omega, h.2.2⟩⟩
theorem foldl_max_le (L : Int) : ∀ (zs : List Int) (a : Int), zs.foldl max a ≤ L ↔ a ≤ L ∧ ∀ x ∈ zs, x ≤ L
  | [], a => by simp
  | z :: zs, a => by
    rw [List.foldl_cons, foldl_max_le L zs (max a z)]
    simp only [List.mem_cons, forall_eq_or_imp]
    exact ⟨fun h => ⟨by omega, by omega, h.2⟩, fun h => ⟨by omega, h.2.2⟩⟩
theorem minOf_ge (L : Int) (zs : List Int) (h : 0 < zs.length) : L ≤ Lib.minOf zs ↔ ∀ x ∈ zs, L ≤ x := by
  unfold Lib.minOf
  rw [foldl_min_ge]
  cases zs with
  | nil => simp at h
  | cons z zs => simp
theorem maxOf_le (L : Int) (zs : List Int) (h : 0 < zs.length) : Lib.maxOf zs ≤ L ↔ ∀ x ∈ zs, x ≤ L := by
  unfold Lib.maxOf
  rw [foldl_max_le]
  cases zs with
  | nil => simp at h
  | cons z zs => simp
theorem rowOk_iff (n : Nat) (r : List Int) (hn : r.length = n) (h : 0 < n) : rowOk n r = true ↔ -100 ≤ Lib.minOf r ∧ Lib.maxOf r ≤ 100 := by
  rw [minOf_ge _ _ (by omega), maxOf_le _ _ (by omega)]
  unfold rowOk
  simp only [hn, decide_true, Bool.true_and, List.all_eq_true, Bool.and_eq_true, decide_eq_true_eq]
  exact ⟨fun h => ⟨fun x hx => (h x hx).1, fun x hx => (h x hx).2⟩, fun h x hx => ⟨h.1 x hx, h.2 x hx⟩⟩
/-- n numbers written from column o on into row i -/
def putSeg (f : Nat → Nat → Int) (i o n : Nat) (g : Nat → Int) : Nat → Nat → Int := fun a c => if a = i ∧ o ≤ c ∧ c < o + n then g (c - o) else f a c
def numsTo (g : Nat → Int) (n : Nat) : List Value := (List.range n).map fun c => .int .i64 (g c)
theorem numsTo_length (g : Nat → Int) (n : Nat) : (numsTo g n).length = n := by simp [numsTo]
theorem numsTo_at (g : Nat → Int) (n j : Nat) (u : Value) (h : (numsTo g n)[j]? = some u) : j < n ∧ u = .int .i64 (g j) := by
  obtain ⟨h1, h2⟩ := List.getElem?_eq_some_iff.1 h
  rw [numsTo_length] at h1
  refine ⟨h1, ?_⟩
  rw [← h2]
  simp [numsTo]
theorem sqA_seg (N : Int) (f : Nat → Nat → Int) (i o n : Nat) (g : Nat → Int) (hi : i < 4) (ho : o + n ≤ 4) : (sqA N f).toList.take (1 + i * 4 + o) ++ (numsTo g n ++ (sqA N f).toList.drop (1 + i * 4 + o + n)) = (sqA N (putSeg f i o n g)).toList := by
  rcases (by omega : n = 0 ∨ n = 1 ∨ n = 2 ∨ n = 3 ∨ n = 4) with rfl | rfl | rfl | rfl | rfl <;>
  rcases (by omega : o = 0 ∨ o = 1 ∨ o = 2 ∨ o = 3 ∨ o = 4) with rfl | rfl | rfl | rfl | rfl <;> first
    | (exfalso; omega)
    | (rcases four_cases hi with rfl | rfl | rfl | rfl <;> rfl)
/-- copy into a row of a square that the call owns -/
theorem copy_arr {P : Program} {w : World} {ops : Array Oper} {rest : List Oper} {o : Oper} {a : Act} {Q : Exit → Act → World → Prop} (hgd : o.guard = none) (d s : Operand) (dT sT : TypeId)
    (ho : o.op = .call { callee := .builtin .copy, args := #[d, s], argTypes := #[dT, sT] }) (elem : TypeId) (hu : P.underlying dT = some (.slice elem)) (hsz : (P.info? elem).map (·.size) = some 1)
    (B b off dLen dCap : Nat) (T : TypeId) (ad : Addr) (sLen sCap : Nat) (hd : a.eval d = .slice (some ⟨b, off, none⟩) dLen dCap) (hs : a.eval s = .slice (some ad) sLen sCap)
    (c c' : Array Value) (hc : Arr w B T b c) (g : Nat → Int) (n : Nat) (hn : n = Nat.min sLen dLen) (hsrc : ∀ j, j < n → w.cell? (ad.add j) = some (.int .i64 (g j))) (hfit : off + n ≤ c.size)
    (he : c.toList.take off ++ (numsTo g n ++ c.toList.drop (off + n)) = c'.toList)
    (h : wpList P ops Q rest (a.put o.dst (goInt n)) (w.setRow b c')) : wpList P ops Q (o :: rest) a w := by
  refine wpList_copy_own hgd d s dT sT ho elem hu hsz b off dLen dCap ad sLen sCap hd hs c T hc.heap (numsTo g n) (by rw [numsTo_length, hn]) (fun j u hj => ?_) (by rw [numsTo_length]; exact hfit) (fun u hu => ?_) ?_
  · obtain ⟨h1, rfl⟩ := numsTo_at g n j u hj
    exact hsrc j h1
  · obtain ⟨j, hj, rfl⟩ := List.mem_map.1 hu
    rfl
  · rw [numsTo_length, he]
    simpa using h
/-- a function whose results are an array or a struct in a variable, and one more -/
theorem post_arr2 {P : Program} {fn : Func} {R : Ending → World → Prop} {a : Act} {w : World} {B : Nat} {T : TypeId} {b n p q : Nat} {c : Array Value} {u : Value} (ty : TypeId) (hr : fn.results = #[.cell p ty, .tmp q]) (hp : a.tmps.getD p undef = .pointer (some ⟨b, 0, none⟩))
    (hq : a.tmps.getD q undef = u) (hc : Arr w B T b c) (ht : RowType P ty n) (hn : c.size = n) (hd : a.defers = []) (h : R (.returned (.tuple #[.agg c, u])) w) : bodyPost P fn R .ret a w := by
  refine bodyPost_ret (v := .tuple #[.agg c, u]) ?_ hd h
  have hp' : a.tmps[p]?.getD undef = .pointer (some ⟨b, 0, none⟩) := by rw [← Array.getD_eq_getD_getElem?]; exact hp
  have hq' : a.tmps[q]?.getD undef = u := by rw [← Array.getD_eq_getD_getElem?]; exact hq
  simp only [results, hr]
  simp [asAddr, hp', hq', result_arr (P := P) ty hc ht hn]
/-- the rows before k of a matrix -/
def rowsM (m : List (List Int)) (k : Nat) : Nat → Nat → Int := fun a c => if a < k then at2 m a c else 0
theorem rowsM_zero (m : List (List Int)) : rowsM m 0 = fun _ _ => 0 := by
  funext a c
  simp [rowsM]
theorem at2_out (m : List (List Int)) (a c : Nat) (h : m.length ≤ a) : at2 m a c = 0 := by
  unfold at2
  rw [List.getD_eq_getElem?_getD (l := m), List.getElem?_eq_none h]
  rfl
theorem at2_outc (m : List (List Int)) (n a c : Nat) (ha : a < m.length) (h : m[a].length = n) (hc : n ≤ c) : at2 m a c = 0 := by
  unfold at2
  rw [List.getD_eq_getElem?_getD (l := m), List.getElem?_eq_getElem ha, Option.getD_some, List.getD_eq_getElem?_getD, List.getElem?_eq_none (by omega)]
  rfl
theorem rowsM_succ (m : List (List Int)) (n k : Nat) (hk : k < m.length) (h : m[k].length = n) : putSeg (rowsM m k) k 0 n (fun c => at2 m k c) = rowsM m (k + 1) := by
  funext a c
  unfold putSeg rowsM
  by_cases ha : a = k
  · subst ha
    by_cases hc : c < n
    · rw [if_pos (by omega), if_pos (by omega), Nat.sub_zero]
    · rw [if_neg (by omega), if_neg (by omega), if_pos (by omega), at2_outc m n a c hk h (by omega)]
  · rw [if_neg (by omega)]
    have e : (a < k) ↔ (a < k + 1) := by omega
    simp only [e]
theorem rowsM_end (m : List (List Int)) : rowsM m m.length = at2 m := by
  funext a c
  unfold rowsM
  by_cases h : a < m.length
  · rw [if_pos h]
  · rw [if_neg h, at2_out m a c (by omega)]
/-- what squareOf gives -/
def SquareSaid (m : List (List Int)) (w : World) (e : Ending) (w' : World) : Prop :=
  e = .returned (.tuple #[.agg (if sqB m = true then sqA m.length (at2 m) else sqA 0 fun _ _ => 0), .bool (sqB m)]) ∧ Below w.heap.size w w'
theorem squareSaid_no {m : List (List Int)} {w w' : World} (h : sqB m = false) (hb : Below w.heap.size w w') : SquareSaid m w (.returned (.tuple #[.agg (sqA 0 fun _ _ => 0), .bool false])) w' :=
  ⟨by rw [h, if_neg (by decide)], hb⟩

set_option maxHeartbeats 1000000 in
set_option maxRecDepth 100000 in
theorem implSquareOf (m : List (List Int)) (v : Value) (w : World) (h : Mat w v m) (hm : m.length ≤ 1048576) (hr : ∀ r ∈ m, r.length ≤ 1048576) :
    Calls Try.prog 56 #[v] w (SquareSaid m w) := by
  have hbld := build_sq m.length
  have hbld0 := build_sq0
  obtain ⟨i0, hi0, hz0, hz1, hz2⟩ := info_parts int_info
  have hsz : (Try.prog.info? 3).map (·.size) = some 1 := by rw [hi0, Option.map_some, hz1]
  have HSZ := Lib.hid hsz
  by_cases hl : 1 ≤ m.length ∧ m.length ≤ 4
  · obtain ⟨hl1, hl4⟩ := hl
    have d1 : decide ((m.length : Int) < 1) = false := by simp; omega
    have d2 : decide ((4 : Int) < m.length) = false := by simp; omega
    obtain ⟨A, cp, rfl⟩ := mat_slice h
    have HM := Lib.hid h
    have HR := Lib.hid hr
    clear h hr hsz
    have hz2 := sqA_zero m.length fun _ _ => 0
    go_enter Try.func56, Try.ntmps56
    go_wp2_with (with_reducible refine store_new rfl 67 (.tmp 4) (.tmp 9) rfl (w.heap.size + 1) _ (sqA m.length fun _ _ => 0) (by simp) rfl rfl 17 sq_ty rfl rfl (sqA_one _ _) ?_)
    go_loopw [21] (fun i w' => ∃ k : Nat, k ≤ m.length ∧ i = .int .i64 k ∧ (m.take k).all (rowOk m.length) = true ∧ Arr w' w.heap.size 67 w.heap.size (sqA 0 fun _ _ => 0) ∧ Arr w' w.heap.size 67 (w.heap.size + 1) (sqA m.length (rowsM m k)) ∧ Below w.heap.size w w') (fun i _ => m.length - (intOf i).toNat)
    case atStart =>
      refine ⟨0, by omega, rfl, rfl, (Arr.made _ _ _ _ (Nat.le_refl _) (by simp [maxLen])).alloc _, ?_, ((Below.refl _ _).alloc (Nat.le_refl _) _).alloc (by simp) _⟩
      rw [rowsM_zero]
      have := Arr.made (w.alloc (.cells (sqA 0 fun _ _ => 0) 67)) w.heap.size 67 (sqA m.length fun _ _ => 0) (by simp) (by simp [sqA_size, maxLen])
      simp only [World.size_alloc] at this
      exact this
    case round =>
      obtain ⟨k, hk, rfl, ha, hres, hs, hb⟩ := hrel
      obtain ⟨wo, rfl⟩ : ∃ x : World, x = wr := ⟨_, rfl⟩
      have HA := Lib.hid ha
      have HRes := Lib.hid hres
      have HS := Lib.hid hs
      have HB := Lib.hid hb
      have gs := hs.cell 0 _ (sqA_zero _ _)
      clear ha hres hs
      by_cases hlt : k < m.length
      · obtain ⟨b, off, cap, he, _, _, hrows⟩ := mat_rows (HM.out.below hb) (by omega)
        injection he with hA _ hc
        subst hA; subst hc
        obtain ⟨u, g1, lu⟩ := hrows k hlt
        have hrl := HR.out _ (List.getElem_mem hlt)
        obtain ⟨Au, cu, rfl⟩ := lst_slice lu
        rw [ints_length] at g1 lu
        clear hrows hb
        by_cases hlen : m[k].length = m.length
        · have b1 : ((m[k].length : Int) != (m.length : Int)) = false := by rw [hlen]; simp
          obtain ⟨A', c', he, hc1, hc2, h1⟩ := lu
          rw [ints_length] at he hc1
          injection he with hA _ hc
          subst hA; subst hc
          replace h1 := h1.resolve_left (by
            intro e
            have := congrArg List.length e
            rw [ints_length] at this
            simp only [List.length_nil] at this
            omega)
          obtain ⟨b2, off2, rfl, h1⟩ := h1
          have H2 := Lib.hid (ints_at h1)
          have HLN := Lib.hid hlen
          have HOK := Lib.hid (rowOk_iff m.length m[k] hlen (by omega))
          have HMIN : Hid (∀ W : World, wo = W → Calls Try.prog 76 #[.slice (some ⟨b2, off2, none⟩) m[k].length cu] W fun e w' => e = .returned (.int .i64 (Lib.minOf m[k])) ∧ w' = W) := by
            rintro W rfl
            have := Try.slices_Min_int b2 off2 m[k].length cu m[k] wo (by omega) (Nat.le_refl _) (by omega) (fun j hj => by rw [List.getD_eq_getElem?_getD, List.getElem?_eq_getElem hj]; exact H2.out j hj)
            rwa [List.take_length] at this
          have HMAX : Hid (∀ W : World, wo = W → Calls Try.prog 77 #[.slice (some ⟨b2, off2, none⟩) m[k].length cu] W fun e w' => e = .returned (.int .i64 (Lib.maxOf m[k])) ∧ w' = W) := by
            rintro W rfl
            have := Try.slices_Max_int b2 off2 m[k].length cu m[k] wo (by omega) (Nat.le_refl _) (by omega) (fun j hj => by rw [List.getD_eq_getElem?_getD, List.getElem?_eq_getElem hj]; exact H2.out j hj)
            rwa [List.take_length] at this
          clear h1 hc1 hc2 hlen
          by_cases hmin : Lib.minOf m[k] < -100
          · have e1 : decide (Lib.minOf m[k] < -100) = true := decide_eq_true hmin
            have HN : Hid (sqB m = false) := by
              show sqB m = false
              refine sq_no k hlt ?_
              rw [← Bool.not_eq_true, HOK.out]
              omega
            clear hmin
            go_wp2_with (first
              | (go_at_call 76; refine (HMIN.out _ rfl).mono ?_; rintro e w' ⟨rfl, rfl⟩)
              | (with_reducible refine store_arr rfl 67 (.tmp 2) (.tmp 41) rfl w.heap.size _ _ (sqA 0 fun _ _ => 0) rfl rfl HRes.out 17 sq_ty rfl rfl (sqA_one _ _) ?_))
            exact post_arr2 67 rfl rfl rfl (HRes.out.row (c' := sqA 0 fun _ _ => 0) rfl) sq_ty rfl rfl (squareSaid_no HN.out (below_row HB.out (Nat.le_refl _) _))
          · have e1 : decide (Lib.minOf m[k] < -100) = false := decide_eq_false hmin
            by_cases hmax : 100 < Lib.maxOf m[k]
            · have e2 : decide (100 < Lib.maxOf m[k]) = true := decide_eq_true hmax
              have HN : Hid (sqB m = false) := by
                show sqB m = false
                refine sq_no k hlt ?_
                rw [← Bool.not_eq_true, HOK.out]
                omega
              clear hmax
              go_wp2_with (first
                | (go_at_call 76; refine (HMIN.out _ rfl).mono ?_; rintro e w' ⟨rfl, rfl⟩)
                | (go_at_call 77; refine (HMAX.out _ rfl).mono ?_; rintro e w' ⟨rfl, rfl⟩)
                | (with_reducible refine store_arr rfl 67 (.tmp 2) (.tmp 41) rfl w.heap.size _ _ (sqA 0 fun _ _ => 0) rfl rfl HRes.out 17 sq_ty rfl rfl (sqA_one _ _) ?_))
              exact post_arr2 67 rfl rfl rfl (HRes.out.row (c' := sqA 0 fun _ _ => 0) rfl) sq_ty rfl rfl (squareSaid_no HN.out (below_row HB.out (Nat.le_refl _) _))
            · have e2 : decide (100 < Lib.maxOf m[k]) = false := decide_eq_false hmax
              have HK := Lib.hid (HOK.out.2 ⟨by omega, by omega⟩)
              have h4 : k < 4 := by omega
              have HS0 := Lib.hid (sqA_seg m.length (rowsM m k) k 0 m.length (fun c => at2 m k c) h4 (by omega))
              have HSQ : Hid (∀ j, j < m.length → wo.cell? ((⟨b2, off2, none⟩ : Addr).add j) = some (.int .i64 (at2 m k j))) := by
                intro j hj
                rw [Addr.add_lit, at2_eq m k j hlt (by rw [HLN.out]; exact hj)]
                exact H2.out j (by rw [HLN.out]; exact hj)
              clear hmin hmax
              go_wp2_with (first
                | (go_at_call 76; refine (HMIN.out _ rfl).mono ?_; rintro e w' ⟨rfl, rfl⟩)
                | (go_at_call 77; refine (HMAX.out _ rfl).mono ?_; rintro e w' ⟨rfl, rfl⟩)
                | (refine copy_arr rfl (.tmp 45) (.tmp 46) 30 30 rfl 3 Try.underlying30 HSZ.out w.heap.size (w.heap.size + 1) (1 + k * 4) 4 4 67 ⟨b2, off2, none⟩ m[k].length cu rfl rfl (sqA m.length (rowsM m k)) (sqA m.length (rowsM m (k + 1))) HS.out (fun c => at2 m k c) m.length (by rw [HLN.out]; exact (Nat.min_eq_left (by omega)).symm) HSQ.out (by rw [sqA_size]; omega) (by rw [← rowsM_succ m m.length k hlt HLN.out]; exact HS0.out) ?_))
              go_roundw
              case rel => exact ⟨k + 1, by omega, by go_num, lall_snoc m k hlt HA.out HK.out, HRes.out.otherRow (by omega) _, HS.out.row rfl, below_row HB.out (by omega) _⟩
              case measure => simp [intOf]; omega
        · have b1 : ((m[k].length : Int) != (m.length : Int)) = true := by rw [bne_iff_ne]; omega
          have HN : Hid (sqB m = false) := by
            show sqB m = false
            refine sq_no k hlt ?_
            unfold rowOk
            rw [decide_eq_false hlen]
            rfl
          clear hlen lu
          go_wp2_with (first
            | (with_reducible refine store_arr rfl 67 (.tmp 2) (.tmp 41) rfl w.heap.size _ _ (sqA 0 fun _ _ => 0) rfl rfl HRes.out 17 sq_ty rfl rfl (sqA_one _ _) ?_))
          exact post_arr2 67 rfl rfl rfl (HRes.out.row (c' := sqA 0 fun _ _ => 0) rfl) sq_ty rfl rfl (squareSaid_no HN.out (below_row HB.out (Nat.le_refl _) _))
      · have hk' : k = m.length := by omega
        have HY := Lib.hid (sq_yes hl1 hl4 (hk' ▸ HA.out))
        subst hk'
        clear hb
        go_wp2_with (first
          | (with_reducible refine load_arr rfl 67 (.tmp 4) rfl (w.heap.size + 1) _ _ _ rfl HS.out 17 sq_ty rfl ?_)
          | (with_reducible refine store_arr rfl 67 (.tmp 2) (.tmp 49) rfl w.heap.size _ _ (sqA m.length (rowsM m m.length)) rfl rfl HRes.out 17 sq_ty rfl rfl (sqA_one _ _) ?_))
        exact post_arr2 67 rfl rfl rfl (HRes.out.row (c' := sqA m.length (rowsM m m.length)) rfl) sq_ty rfl rfl ⟨by rw [HY.out, if_pos rfl, rowsM_end]; rfl, below_row HB.out (Nat.le_refl _) _⟩
  · have HN := Lib.hid (sq_len hl)
    have d1 : (decide ((m.length : Int) < 1) || decide ((4 : Int) < m.length)) = true := by simp; omega
    obtain ⟨A, cp, rfl⟩ := mat_slice h
    have hz2 := sqA_zero m.length fun _ _ => 0
    have hr0 := Arr.made w w.heap.size 67 (sqA 0 fun _ _ => 0) (Nat.le_refl _) (by simp [sqA_size, maxLen])
    have HR0 := Lib.hid (hr0.alloc (.cells (sqA m.length fun _ _ => 0) 67))
    have HB : Hid (Below w.heap.size w ((w.alloc (.cells (sqA 0 fun _ _ => 0) 67)).alloc (.cells (sqA m.length fun _ _ => 0) 67))) := ((Below.refl _ _).alloc (Nat.le_refl _) _).alloc (by simp) _
    clear h hr hr0
    by_cases h1 : (m.length : Int) < 1
    · have d3 : decide ((m.length : Int) < 1) = true := decide_eq_true h1
      go_enter Try.func56, Try.ntmps56
      go_wp2_with (first
        | (with_reducible refine store_new rfl 67 (.tmp 4) (.tmp 9) rfl (w.heap.size + 1) _ (sqA m.length fun _ _ => 0) (by simp) rfl rfl 17 sq_ty rfl rfl (sqA_one _ _) ?_)
        | (with_reducible refine store_arr rfl 67 (.tmp 2) (.tmp 18) rfl w.heap.size _ _ (sqA 0 fun _ _ => 0) rfl rfl HR0.out 17 sq_ty rfl rfl (sqA_one _ _) ?_))
      exact post_arr2 67 rfl rfl rfl HR0.out sq_ty rfl rfl (squareSaid_no HN.out HB.out)
    · have d3 : decide ((m.length : Int) < 1) = false := decide_eq_false h1
      have h2 : (4 : Int) < m.length := by omega
      have d4 : decide ((4 : Int) < m.length) = true := decide_eq_true h2
      go_enter Try.func56, Try.ntmps56
      go_wp2_with (first
        | (with_reducible refine store_new rfl 67 (.tmp 4) (.tmp 9) rfl (w.heap.size + 1) _ (sqA m.length fun _ _ => 0) (by simp) rfl rfl 17 sq_ty rfl rfl (sqA_one _ _) ?_)
        | (with_reducible refine store_arr rfl 67 (.tmp 2) (.tmp 18) rfl w.heap.size _ _ (sqA 0 fun _ _ => 0) rfl rfl HR0.out 17 sq_ty rfl rfl (sqA_one _ _) ?_))
      exact post_arr2 67 rfl rfl rfl HR0.out sq_ty rfl rfl (squareSaid_no HN.out HB.out)

set_option maxHeartbeats 1000000 in
theorem implTraceOf (m : List (List Int)) (v : Value) (w : World) (h : Mat w v m) (hm : m.length ≤ 1048576) (hr : ∀ r ∈ m, r.length ≤ 1048576) :
    Calls Try.prog 21 #[v] w fun e w' => e = .returned (.int .i64 (trR m)) ∧ Below w.heap.size w w' := by
  have HSQ := Lib.hid (implSquareOf m v w h hm hr)
  by_cases hs : sqB m = true
  · have HV : Hid (trR m = trTo m m.length) := if_pos hs
    obtain ⟨_, h4, _, _⟩ := sq_parts hs
    have HSM := Lib.hid (at2_small hs)
    have HTB := Lib.hid (trTo_bound hs)
    have HS := Lib.hid hs
    obtain ⟨A, cp, rfl⟩ := mat_slice h
    clear h hr hs
    go_enter Try.func21, Try.ntmps21
    go_wp2_with fail
    refine HSQ.out.mono ?_
    rintro e w1 ⟨rfl, hb1⟩
    rw [HS.out, if_pos rfl]
    have hz2 := sqA_zero m.length (at2 m)
    have HA := Lib.hid (Arr.made w1 w1.heap.size 67 (sqA m.length (at2 m)) (Nat.le_refl _) (by simp [sqA_size, maxLen]))
    have HB : Hid (Below w.heap.size w (w1.alloc (.cells (sqA m.length (at2 m)) 67))) := hb1.alloc hb1.size _
    clear hb1
    go_wp2_with (with_reducible refine store_new rfl 67 (.tmp 3) (.tmp 10) rfl w1.heap.size _ (sqA m.length (at2 m)) rfl rfl rfl 17 sq_ty rfl rfl (sqA_one _ _) ?_)
    go_loop [5, 16] (fun n i => ∃ k : Nat, k ≤ m.length ∧ i = .int .i64 k ∧ n = .int .i64 (trTo m k)) (fun _ i => m.length - (intOf i).toNat)
    case atStart => exact ⟨0, Nat.zero_le _, rfl, rfl⟩
    case round =>
      obtain ⟨k, hk, rfl, rfl⟩ := hrel
      by_cases hlt : k < m.length
      · have g2 := HA.out.cell _ _ (sqA_get m.length (at2 m) k k (by omega) (by omega))
        have g3 : (sqA m.length (at2 m))[1 + k * 4 + k]? = some (.int .i64 (at2 m k k)) := sqA_get m.length (at2 m) k k (by omega) (by omega)
        have hk4 : k < 4 := by omega
        obtain ⟨s1, s2⟩ := HSM.out k k hlt hlt
        obtain ⟨t1, t2⟩ := HTB.out k hk
        go_wp2_with fail
        go_round
        case rel => exact ⟨k + 1, by omega, by go_num, rfl⟩
        case measure => simp [intOf]; omega
      · have hkm : k = m.length := by omega
        have HV2 : Hid (trTo m k = trR m) := by show trTo m k = trR m; rw [HV.out, hkm]
        clear hkm
        go_wp2_with fail
        go_ret
        exact ⟨ret_int HV2.out, HB.out⟩
  · have hs' : sqB m = false := by simpa using hs
    have HV : Hid (trR m = 0) := if_neg hs
    have HS := Lib.hid hs'
    obtain ⟨A, cap, rfl⟩ := mat_slice h
    clear h hs hs'
    go_enter Try.func21, Try.ntmps21
    go_wp2_with fail
    refine HSQ.out.mono ?_
    rintro e w1 ⟨rfl, hb1⟩
    rw [HS.out, if_neg (by decide)]
    have HB : Hid (Below w.heap.size w (w1.alloc (.cells (sqA 0 fun _ _ => 0) 67))) := hb1.alloc hb1.size _
    clear hb1
    go_wp2_with (with_reducible refine store_new rfl 67 (.tmp 3) (.tmp 10) rfl w1.heap.size _ (sqA 0 fun _ _ => 0) rfl rfl rfl 17 sq_ty rfl rfl (sqA_one _ _) ?_)
    go_ret
    exact ⟨ret_int HV.out.symm, HB.out⟩
end Go.Proofs.Ytgidfainoijcmaa
