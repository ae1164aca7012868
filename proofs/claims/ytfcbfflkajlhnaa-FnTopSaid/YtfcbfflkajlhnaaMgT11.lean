/- Texts put together. -/
import Derived.Test.YtfcbfflkajlhnaaMgT9
import Derived.Test.YtfcbfflkajlhnaaMgT8
import Derived.Test.YtfcbfflkajlhnaaMgT10
import Derived.Test.YtfcbfflkajlhnaaMgT2
import Derived.Test.YtfcbfflkajlhnaaMgT6
import Derived.Test.YtfcbfflkajlhnaaChecked
import Derived.Laws.IdiomStrings
/- For the laws over ints and matrices: the helpers' contracts with one kind of end; arguments opened. -/
namespace Go.Proofs.Ytfcbfflkajlhnaa
open Go.ChangeShapes Go.WideShapes Go.RowKit

theorem eqIntS_b (l : List Int) (v1 v2 : Value) (w : World) (h1 : Lst w v1 (ints l)) (h2 : Lst w v2 (ints l)) :
    Calls Try.prog 101 #[v1, v2] w fun e w' => e = .returned (.bool true) ∧ Below w.heap.size w w' :=
  (eqIntS_same l v1 v2 w h1 h2).mono (by rintro e w' ⟨h, n, rfl⟩; exact ⟨h, below_drewN (Below.refl _ _) n⟩)
theorem eqStringS_b (l : List ByteArray) (v1 v2 : Value) (w : World) (h1 : Lst w v1 (strs l)) (h2 : Lst w v2 (strs l)) :
    Calls Try.prog 48 #[v1, v2] w fun e w' => e = .returned (.bool true) ∧ Below w.heap.size w w' :=
  (eqStringS_same l v1 v2 w h1 h2).mono (by rintro e w' ⟨h, n, rfl⟩; exact ⟨h, below_drewN (Below.refl _ _) n⟩)
theorem heldIntS_b (v : Value) (k : Int) (n : Nat) (w : World) (hk : 0 ≤ k) (hkn : k + n ≤ 9223372036854775807) (h1 : Lst w v (ints (upto k n))) :
    Calls Try.prog 103 #[v, .int .i64 k] w fun e w' => e = .returned (.int .i64 (k + n)) ∧ Below w.heap.size w w' :=
  (heldIntS_marks v k n w hk hkn h1).mono (by rintro e w' ⟨h, n, rfl⟩; exact ⟨h, below_drewN (Below.refl _ _) n⟩)
theorem eqIntSS_b (m : List (List Int)) (v1 v2 : Value) (w : World) (h1 : Mat w v1 m) (h2 : Mat w v2 m) :
    Calls Try.prog 58 #[v1, v2] w fun e w' => e = .returned (.bool true) ∧ Below w.heap.size w w' :=
  (eqIntSS_same m v1 v2 w h1 h2).mono (by rintro e w' ⟨h, n, rfl⟩; exact ⟨h, below_drewN (Below.refl _ _) n⟩)
theorem heldIntSS_b (v : Value) (k : Int) (ns : List Nat) (w : World) (hk : 0 ≤ k) (hkn : k + sumN ns ≤ 1099511627776) (hn : ns.length ≤ 1048576) (h1 : Mat w v (marksM k ns)) :
    Calls Try.prog 60 #[v, .int .i64 k] w fun e w' => e = .returned (.int .i64 (k + sumN ns)) ∧ Below w.heap.size w w' :=
  (heldIntSS_marks v k ns w hk hkn hn h1).mono (by rintro e w' ⟨h, n, rfl⟩; exact ⟨h, below_drewN (Below.refl _ _) n⟩)
theorem len_le_sumN : ∀ {m : List (List Int)} {x : List Int}, x ∈ m → x.length ≤ sumN (m.map List.length)
  | y :: m, x, h => by
    unfold sumN
    rw [List.map_cons, List.sum_cons]
    rcases List.mem_cons.1 h with rfl | h
    · omega
    · have := len_le_sumN h
      unfold sumN at this
      omega
theorem szM_use {m : List (List Int)} {r left : Int} (h : (m.length : Int) + sumN (lens m) + r = left) (h0 : 0 ≤ r) (h1 : left ≤ 1048576) : m.length ≤ 1048576 ∧ (∀ x ∈ m, x.length ≤ 1048576) ∧ sumN (m.map List.length) ≤ 1048576 := by
  have e : sumN (lens m) = sumN (m.map List.length) := rfl
  rw [e] at h
  exact ⟨by omega, fun x hx => by have := len_le_sumN hx; omega, by omega⟩
theorem KeepsOut.cell {lo hi : Nat} {w w' : World} {a : Nat} {u : Value} (k : KeepsOut lo hi w w') (h : w.cell? ⟨a, 0, none⟩ = some u) (hne : a < lo ∨ hi ≤ a) : w'.cell? ⟨a, 0, none⟩ = some u := by
  have hlt := World.block_lt_of_cell? w _ h
  have e := k.2.2.2.2 a hlt hne
  rw [← h]
  unfold World.cell?
  rw [e]
theorem KeepsOut.size {lo hi : Nat} {w w' : World} (k : KeepsOut lo hi w w') : w.heap.size ≤ w'.heap.size := k.2.2.2.1
theorem ints_arg {H : Type} {enc : TypeId × Value → H} {P : Program} {w : World} {base : Nat} {r : Reach} {b0 : Nat} {t e : TypeId} {v : Value} {d : DataW H} {ps : List MemPlace} (ht : P.underlying t = some (.slice e)) (he : P.underlying e = some (.int .i64)) (hc : P.cellsOf e = 1)
    (hval : Value.okWide P w r b0 t v) (h : DataW.Trod enc P w base (fun _ => true) true t v d ps) : ∃ l : List Int, Lst w v (ints l) ∧ ∀ z ∈ l, (Lit.int .i64 z).wf = true := by
  obtain ⟨A, ln, cp, rfl⟩ := okWide_slice ht hval
  obtain ⟨fuel, hf⟩ := h
  exact ints_cell (y := (d, ps)) ht he hc hf
theorem mat_arg {H : Type} {enc : TypeId × Value → H} {P : Program} {w : World} {base : Nat} {r : Reach} {b0 : Nat} {t e q : TypeId} {v : Value} {d : DataW H} {ps : List MemPlace} (ht : P.underlying t = some (.slice e)) (he : P.underlying e = some (.slice q)) (hq : P.underlying q = some (.int .i64)) (ce : P.cellsOf e = 1) (cq : P.cellsOf q = 1)
    (hval : Value.okWide P w r b0 t v) (h : DataW.Trod enc P w base (fun _ => true) true t v d ps) : ∃ m : List (List Int), Mat w v m ∧ (∀ r ∈ m, ∀ z ∈ r, (Lit.int .i64 z).wf = true) ∧ m.length ≤ 9223372036854775807 := by
  obtain ⟨A, ln, cp, rfl⟩ := okWide_slice ht hval
  obtain ⟨fuel, hf⟩ := h
  exact mat_cell (y := (d, ps)) ht he hq ce cq hf
theorem sum_rect : ∀ {m : List (List Int)} {c : Nat}, (∀ x ∈ m, x.length ≤ c) → sumN (m.map List.length) ≤ c * m.length
  | [], _, _ => by simp [sumN]
  | y :: m, c, h => by
    have h1 := h y (List.mem_cons_self ..)
    have h2 := sum_rect (m := m) (c := c) (fun x hx => h x (List.mem_cons_of_mem _ hx))
    unfold sumN at h2 ⊢
    rw [List.map_cons, List.sum_cons, List.length_cons, Nat.mul_succ]
    omega
end Go.Proofs.Ytfcbfflkajlhnaa

/- SubstOk of the model, and what it asks of each image. Conditions: lengths of at most 2^20. -/
namespace Go.Proofs.Ytfcbfflkajlhnaa
open Go.RowKit

theorem specIn (x a b : Int) (w : World) :
    Calls Try.prog 95 #[.int .i64 x, .int .i64 a, .int .i64 b] w fun e w' => e = .returned (.bool (decide (a ≤ x) && decide (x ≤ b))) ∧ w = w' := by
  by_cases h1 : a ≤ x
  · have hd1 : decide (a ≤ x) = true := by simpa using h1
    go_enter Try.func95, Try.ntmps95
    go_wp2
    go_ret
    exact ⟨ret_bool (by simp [h1]), rfl⟩
  · have hd1 : decide (a ≤ x) = false := by simpa using h1
    go_enter Try.func95, Try.ntmps95
    go_wp2
    go_ret
    exact ⟨ret_bool (by simp), rfl⟩

set_option maxHeartbeats 400000 in
theorem specWithin (n : Nat) (s : ByteArray) (w : World) (_ : n ≤ 1048576) (h : wordB s = true) :
    Calls Try.prog 152 #[.int .i64 n, .string s] w fun e w' => e = .returned (.bool (withinB n s)) ∧ w = w' := by
  have hs := word_size h
  have HW := Lib.hid (word_at h)
  clear h
  go_enter Try.func152, Try.ntmps152
  go_wp2
  go_loop [5] (fun i => ∃ k : Nat, k ≤ s.size ∧ i = .int .i64 k ∧ (s.data.toList.take k).all (fun c => decide (c.toNat < 97 + n)) = true) (fun i => s.size - (intOf i).toNat)
  case atStart => exact ⟨0, Nat.zero_le _, rfl, rfl⟩
  case round =>
    obtain ⟨k, hk, rfl, ha⟩ := hrel
    have HA := Lib.hid ha
    clear ha
    by_cases hlt : k < s.size
    · obtain ⟨p1, p2⟩ := HW.out k hlt
      have p1' : (97 : Int) ≤ s[k].toNat := by omega
      have p2' : (s[k].toNat : Int) ≤ 100 := by omega
      clear p1 p2
      by_cases hc : s[k].toNat < 97 + n
      · have hge : ¬ ((n : Int) ≤ (s[k].toNat : Int) - 97) := by omega
        have HC := Lib.hid hc
        clear hc
        go_wp2
        go_round
        case rel => exact ⟨k + 1, by omega, by go_num, all_snoc s k hlt HA.out (by simpa using HC.out)⟩
        case measure => simp [intOf]; omega
      · have hge : (n : Int) ≤ (s[k].toNat : Int) - 97 := by omega
        have HN : Hid (withinB n s = false) := by
          show withinB n s = false
          exact all_not s k hlt (by simpa using hc)
        clear hc
        go_wp2
        go_ret
        exact ⟨ret_bool HN.out.symm, rfl⟩
    · have hk' : k = s.size := by omega
      subst hk'
      have HY : Hid (withinB n s = true) := by
        have := HA.out
        rw [take_all s _ (Nat.le_refl _)] at this
        exact this
      go_wp2
      go_ret
      exact ⟨ret_bool HY.out.symm, rfl⟩

set_option maxHeartbeats 1000000 in
theorem specSubstOk (l : List ByteArray) (v : Value) (w : World) (h : Lst w v (strs l)) (hz : ∀ x ∈ l, x.size ≤ 1048576) (hn : l.length ≤ 1048576) :
    Calls Try.prog 141 #[.agg #[v]] w fun e w' => e = .returned (.bool (substB l)) ∧ Below w.heap.size w w' := by
  obtain ⟨A, cp, rfl⟩ := lst_slice h
  rw [strs_length] at h ⊢
  by_cases hl : 1 ≤ l.length ∧ l.length ≤ 4
  · obtain ⟨hl1, hl4⟩ := hl
    have d1 : decide ((1 : Int) ≤ l.length) = true := by simp; omega
    have d2 : decide ((l.length : Int) ≤ 4) = true := by simp; omega
    have hb0 : Below w.heap.size w (w.alloc (.cells #[.slice A l.length cp] 25)) := (Below.refl _ _).alloc (Nat.le_refl _) _
    obtain ⟨A', c', he, hc1, hc2, h1⟩ := h.below hb0
    rw [strs_length] at he hc1
    injection he with hA _ hc
    subst hA; subst hc
    replace h1 := h1.resolve_left (by
      intro e
      have := congrArg List.length e
      rw [strs_length] at this
      simp only [List.length_nil] at this
      omega)
    obtain ⟨b, off, rfl, h1⟩ := h1
    have H1 := Lib.hid (strs_at h1)
    have HZ := Lib.hid hz
    have HB := Lib.hid hb0
    clear h1 hz hc2 hc1 h hb0
    go_enter Try.func141, Try.ntmps141
    go_wp2_with (go_at_call 95; refine (specIn _ _ _ _).mono ?_; rintro e w' ⟨rfl, rfl⟩)
    go_loop [15] (fun i => ∃ k : Nat, k ≤ l.length ∧ i = .int .i64 k ∧ (l.take k).all (imgB l.length) = true) (fun i => l.length - (intOf i).toNat)
    case atStart => exact ⟨0, Nat.zero_le _, rfl, rfl⟩
    case round =>
      obtain ⟨k, hk, rfl, ha⟩ := hrel
      have HA := Lib.hid ha
      clear ha
      by_cases hlt : k < l.length
      · have g1 := H1.out k hlt
        have hsz := HZ.out _ (List.getElem_mem hlt)
        by_cases c1 : 1 ≤ l[k].size ∧ l[k].size ≤ 8
        · obtain ⟨c1, c2⟩ := c1
          have e1 : decide ((1 : Int) ≤ l[k].size) = true := by simp; omega
          have e2 : decide ((l[k].size : Int) ≤ 8) = true := by simp; omega
          by_cases c3 : wordB l[k] = true
          · have HWI := Lib.hid (fun w => specWithin l.length l[k] w (by omega) c3)
            by_cases c4 : withinB l.length l[k] = true
            · have HI := Lib.hid (img_yes c1 c2 c3 c4)
              go_wp2_with (first
                | (go_at_call 95; refine (specIn _ _ _ _).mono ?_; rintro e w' ⟨rfl, rfl⟩)
                | (go_at_call 94; refine (specWordOk _ _).mono ?_; rintro e w' ⟨rfl, rfl⟩)
                | (go_at_call 152; refine (HWI.out _).mono ?_; rintro e w' ⟨rfl, rfl⟩))
              go_round
              case rel => exact ⟨k + 1, by omega, by go_num, lall_snoc l k hlt HA.out HI.out⟩
              case measure => simp [intOf]; omega
            · have c4' : withinB l.length l[k] = false := by simpa using c4
              have HN := Lib.hid (subst_no k hlt (img_no3 c4'))
              clear c4
              go_wp2_with (first
                | (go_at_call 95; refine (specIn _ _ _ _).mono ?_; rintro e w' ⟨rfl, rfl⟩)
                | (go_at_call 94; refine (specWordOk _ _).mono ?_; rintro e w' ⟨rfl, rfl⟩)
                | (go_at_call 152; refine (HWI.out _).mono ?_; rintro e w' ⟨rfl, rfl⟩))
              go_ret
              exact ⟨ret_bool HN.out.symm, HB.out⟩
          · have c3' : wordB l[k] = false := by simpa using c3
            have HN := Lib.hid (subst_no k hlt (img_no2 c3'))
            clear c3
            go_wp2_with (first
              | (go_at_call 95; refine (specIn _ _ _ _).mono ?_; rintro e w' ⟨rfl, rfl⟩)
              | (go_at_call 94; refine (specWordOk _ _).mono ?_; rintro e w' ⟨rfl, rfl⟩))
            go_ret
            exact ⟨ret_bool HN.out.symm, HB.out⟩
        · have HN := Lib.hid (subst_no k hlt (img_no1 c1))
          have e1 : (decide ((1 : Int) ≤ l[k].size) && decide ((l[k].size : Int) ≤ 8)) = false := by simp; omega
          clear c1
          go_wp2_with (go_at_call 95; refine (specIn _ _ _ _).mono ?_; rintro e w' ⟨rfl, rfl⟩)
          go_ret
          exact ⟨ret_bool HN.out.symm, HB.out⟩
      · have hk' : k = l.length := by omega
        have HY := Lib.hid (subst_yes hl1 hl4 (hk' ▸ HA.out))
        clear hk'
        go_wp2
        go_ret
        exact ⟨ret_bool HY.out.symm, HB.out⟩
  · have HN := Lib.hid (subst_len hl)
    have hb0 : Below w.heap.size w (w.alloc (.cells #[.slice A l.length cp] 25)) := (Below.refl _ _).alloc (Nat.le_refl _) _
    have d1 : (decide ((1 : Int) ≤ l.length) && decide ((l.length : Int) ≤ 4)) = false := by simp; omega
    have HB := Lib.hid hb0
    clear hl h hz hb0
    go_enter Try.func141, Try.ntmps141
    go_wp2_with (go_at_call 95; refine (specIn _ _ _ _).mono ?_; rintro e w' ⟨rfl, rfl⟩)
    go_ret
    exact ⟨ret_bool HN.out.symm, HB.out⟩
end Go.Proofs.Ytfcbfflkajlhnaa

/- A row of bytes of the call's own: its conversion to a text. -/
namespace Go.Proofs.Ytfcbfflkajlhnaa
open Go.RowKit

def byteCells (l : List UInt8) : List Value := l.map fun b => .int .u8 (b.toNat : Int)
theorem byteCells_length (l : List UInt8) : (byteCells l).length = l.length := by simp [byteCells]
theorem byteCells_snoc (l : List UInt8) (b : UInt8) : byteCells (l ++ [b]) = byteCells l ++ [.int .u8 (b.toNat : Int)] := by simp [byteCells]
theorem byteCells_one (l : List UInt8) : ∀ u ∈ byteCells l, u.oneCell' = true := by
  intro u hu
  simp only [byteCells, List.mem_map] at hu
  obtain ⟨b, _, rfl⟩ := hu
  rfl
theorem u8_info : (Try.prog.info? 5).map (fun i => (i.zero, i.size, i.bytes)) = some (some (.int .u8 0), 1, 1) := by kernel_rfl
theorem conv_own_to {ts : TypeId} (hts : Try.prog.underlying ts = some .string) {w : World} {B n : Nat} {v : Value} {l : List UInt8} (h : w.ownsRow B 5 1 v n (byteCells l)) :
    (convert 22 ts v).run Try.prog w = .ok (.string ⟨l.toArray⟩) w := by
  have hl := h.1
  rw [Nat.mul_one, byteCells_length] at hl
  subst hl
  rcases h.2 with ⟨rfl, hn⟩ | ⟨g, cap, cur, rfl, _, _, _, _, _, _⟩
  · have e := List.eq_nil_of_length_eq_zero hn
    subst e
    rw [run_convert_bytes_string w _ _ _ none 0 0 Try.underlying22 Try.underlying5 hts]
    simp [Conv.bytesToString]
    rfl
  · refine run_convert_bytes_back w _ _ _ _ _ l Try.underlying22 Try.underlying5 hts (fun j hj => ?_)
    exact h.cells (g := g) rfl j _ (by simp [byteCells, hj])
theorem conv_own {w : World} {B n : Nat} {v : Value} {l : List UInt8} (h : w.ownsRow B 5 1 v n (byteCells l)) :
    (convert 22 9 v).run Try.prog w = .ok (.string ⟨l.toArray⟩) w := conv_own_to Try.underlying9 h
/-- one more byte of L laid over the old cells zs -/
theorem byteCells_set (L : List UInt8) (zs : List Value) (k : Nat) (hk : k < L.length) (hz : zs.length = L.length) :
    (byteCells (L.take k) ++ zs.drop k).set k (.int .u8 (L[k].toNat : Int)) = byteCells (L.take (k + 1)) ++ zs.drop (k + 1) := by
  have hd : zs.drop k = zs[k]'(by omega) :: zs.drop (k + 1) := List.drop_eq_getElem_cons _
  have hlk : (byteCells (L.take k)).length = k := by rw [byteCells_length, List.length_take]; omega
  rw [List.take_succ_eq_append_getElem hk, hd, List.set_append_right _ _ (by omega), hlk, Nat.sub_self, List.set_cons_zero, byteCells_snoc, List.append_assoc]
  rfl
theorem byteCells_get (L : List UInt8) (zs : List Value) (k : Nat) (hk : k < L.length) (hz : zs.length = L.length) : ∃ u, (byteCells (L.take k) ++ zs.drop k)[k]? = some u :=
  ⟨(byteCells (L.take k) ++ zs.drop k)[k]'(by rw [List.length_append, byteCells_length, List.length_take, List.length_drop]; omega), List.getElem?_eq_getElem _⟩
theorem byteCells_end (L : List UInt8) (zs : List Value) (hz : zs.length = L.length) : byteCells (L.take L.length) ++ zs.drop L.length = byteCells L := by
  rw [List.take_length, List.drop_of_length_le (by omega), List.append_nil]

set_option maxRecDepth 100000 in
/-- a text turned into a new row of bytes -/
theorem conv_text (w : World) (s : ByteArray) {ts : TypeId} (hts : Try.prog.underlying ts = some .string) :
    ∃ c wc, (convert ts 22 (.string s)).run Try.prog w = .ok (.slice (some ⟨w.heap.size, 0, none⟩) s.size c) wc ∧ Below w.heap.size w wc ∧ w.heap.size < wc.heap.size ∧ ∀ (j : Nat) (u : Value), (byteCells s.data.toList)[j]? = some u → wc.cell? ⟨w.heap.size, j, none⟩ = some u := by
  refine ⟨_, _, run_bytes_of_string w _ _ 5 s hts Try.underlying22 Try.underlying5, ((Below.refl _ _).drew).alloc (Nat.le_refl _) _, by simp, fun j u hu => ?_⟩
  have hj : j < s.data.size := by
    have := (List.getElem?_eq_some_iff.1 hu).1
    rw [byteCells_length] at this
    simpa using this
  have e : u = .int .u8 (s.data[j].toNat : Int) := by
    simp only [byteCells, List.getElem?_map, Option.map_eq_some_iff] at hu
    obtain ⟨a, ha, rfl⟩ := hu
    rw [Array.getElem?_toList, Array.getElem?_eq_getElem hj] at ha
    injection ha with ha
    rw [ha]
  rw [e, ← bytesRow_at s (grownCap w s.size 0 5) j hj]
  exact cell_of_row _ w.heap.size j (bytesRow s (grownCap w s.size 0 5)) 5 ((bytesRow s (grownCap w s.size 0 5)).size, (bytesRow s (grownCap w s.size 0 5)).size + 1) (by simp [World.alloc, World.drew, -World.alloc_eq, -World.drew_eq])
end Go.Proofs.Ytfcbfflkajlhnaa
