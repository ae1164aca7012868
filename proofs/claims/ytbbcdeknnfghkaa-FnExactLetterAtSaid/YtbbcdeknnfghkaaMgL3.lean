/- Texts put together. -/
import Derived.Test.YtbbcdeknnfghkaaMgL2
import Derived.SliceStrings
import Derived.Lib.SmallJoins
import Derived.Test.YtbbcdeknnfghkaaMgL1
/- The laws' helpers on an argument that is a slice of strings: szStringS bounds it, toStringS copies it; and the argument opened to the list that it holds. -/
namespace Go.Proofs.Ytbbcdeknnfghkaa
open Go.ChangeShapes Go.WideShapes Go.RowKit

theorem lst_arg {H : Type} {enc : TypeId × Value → H} {P : Program} {w : World} {base : Nat} {r : Reach} {b0 : Nat} {t e : TypeId} {v : Value} {d : DataW H} {ps : List MemPlace} (ht : P.underlying t = some (.slice e)) (he : P.underlying e = some .string) (hc : P.cellsOf e = 1)
    (hval : Value.okWide P w r b0 t v) (h : DataW.Trod enc P w base (fun _ => true) true t v d ps) : ∃ l : List ByteArray, Lst w v (strs l) ∧ ∀ x ∈ l, x.size ≤ maxLen := by
  obtain ⟨fuel, hf⟩ := h
  have hcells : v.cells = #[v] ∨ v.cells ≠ #[v] := Classical.em _
  obtain ⟨A, ln, cp, rfl⟩ : ∃ A ln cp, v = .slice A ln cp := by
    simp only [Value.okWide, ht, Cell.okWide] at hval
    cases v <;> simp_all [Cell.ok]
  rcases open_strings ht he hc hf with ⟨hcs, _⟩ | ⟨a, len, cap, ss, hcs, _, hl, hm, hlen, _, hcell, hss⟩
  · simp [Value.cells] at hcs
    obtain ⟨rfl, rfl, rfl⟩ := hcs
    exact ⟨[], ⟨none, 0, by simp [strs], by simp [strs], by simp [maxLen], .inl rfl⟩, by simp⟩
  · simp [Value.cells] at hcs
    obtain ⟨rfl, rfl, rfl⟩ := hcs
    simp at hlen
    refine ⟨ss.take ln, ?_, fun x hx => hss x (List.mem_of_mem_take hx)⟩
    refine ⟨some a, cp, by simp [strs, hlen, Nat.min_eq_left hl], by simp [strs, hlen]; omega, hm, ?_⟩
    by_cases h0 : ln = 0
    · subst h0
      exact .inl (by simp [strs])
    · obtain ⟨b, off, spot⟩ := a
      have h1 := hcell 0 (by omega)
      have hspot : spot = none := by simpa [Addr.add] using World.cell?_spot h1
      subst hspot
      refine .inr ⟨b, off, rfl, fun i u hu => ?_⟩
      have hi : i < ln := by
        have := (List.getElem?_eq_some_iff.1 hu).1
        simp [strs, hlen] at this
        omega
      have h2 := hcell i (by omega)
      rw [Addr.add_lit] at h2
      rw [h2]
      simp [strs, hi] at hu
      obtain ⟨x, hx, rfl⟩ := hu
      simp [List.getD, hx]

/-- what szStringS says: a bound on all that the slice holds, or -1 -/
def SzSaid (l : List ByteArray) (left : Int) (w : World) (e : Ending) (w' : World) : Prop :=
  w = w' ∧ ∃ r : Int, e = .returned (.int .i64 r) ∧ -1 ≤ r ∧ r ≤ left ∧ (0 ≤ r → (l.length : Int) + totalS l + r = left)

set_option maxHeartbeats 400000 in
theorem szStringS_any (l : List ByteArray) (v : Value) (left : Int) (w : World) (h1 : Lst w v (strs l)) (hz : ∀ x ∈ l, x.size ≤ maxLen) (hl0 : 0 ≤ left) (hl1 : left ≤ 1048576) :
    Calls Try.prog 69 #[v, .int .i64 left] w (SzSaid l left w) := by
  obtain ⟨A, c, rfl, hc1, hc2, h1⟩ := h1
  rw [strs_length] at hc1
  rw [strs_length]
  unfold maxLen at hc2 hz
  have hmax : l.length ≤ 9223372036854775807 := by omega
  clear hc1 hc2
  by_cases hlen : left < l.length
  · clear h1 hz
    have : left - (l.length : Int) < 0 := by omega
    go_enter Try.func69, Try.ntmps69
    go_wp2
    go_ret
    exact ⟨rfl, -1, rfl, by omega, by omega, by omega⟩
  by_cases hl : l = []
  · subst hl
    go_enter Try.func69, Try.ntmps69
    go_wp2
    refine wp_loop_rounds 1 ?_
    rw [rounds_succ]
    go_wp2
    go_ret
    exact ⟨rfl, left, rfl, by omega, by omega, by simp [totalS]⟩
  replace h1 := h1.resolve_left (by simp [strs, hl])
  obtain ⟨b, off, rfl, h1⟩ := h1
  have hpos : 0 < l.length := List.length_pos_iff.2 hl
  have H1 := Lib.hid (strs_at h1)
  have HZ := Lib.hid hz
  clear h1 hz hl
  go_enter Try.func69, Try.ntmps69
  go_wp2
  go_loop [1, 5] (fun q i => ∃ (k : Nat) (r : Int), k ≤ l.length ∧ i = .int .i64 k ∧ q = .int .i64 r ∧ 0 ≤ r ∧ (l.length : Int) + totalS (l.take k) + r = left) (fun _ i => l.length - (intOf i).toNat)
  case atStart => exact ⟨0, left - l.length, by omega, rfl, rfl, by omega, by simp [totalS]; omega⟩
  case round =>
    obtain ⟨k, r, hk, rfl, rfl, hr, ht⟩ := hrel
    have hr1 : r ≤ left := by omega
    have HT := Lib.hid ht
    clear ht
    by_cases hlt : k < l.length
    · have g1 := H1.out k hlt
      have gz : l[k].size ≤ 9223372036854775807 := by have := HZ.out _ (List.getElem_mem hlt); omega
      have HS := Lib.hid (totalS_succ l k hlt)
      by_cases hneg : r - (l[k].size : Int) < 0
      · go_wp2
        go_ret
        refine ⟨rfl, -1, rfl, by omega, by omega, by omega⟩
      · go_wp2
        go_round
        case rel => exact ⟨k + 1, r - l[k].size, by omega, by go_num, rfl, by omega, by rw [HS.out]; have := HT.out; omega⟩
        case measure => simp [intOf]; omega
    · go_wp2
      go_ret
      refine ⟨rfl, r, rfl, by omega, by omega, fun _ => ?_⟩
      have := HT.out
      rwa [List.take_of_length_le (by omega)] at this

set_option maxHeartbeats 400000 in
theorem toStringS_any (l : List ByteArray) (v : Value) (w : World) (h1 : Lst w v (strs l)) (hn : l.length ≤ 1048576) :
    Calls Try.prog 71 #[v] w fun e w' => ∃ v', e = .returned v' ∧ w'.ownsRow w.heap.size 9 1 v' l.length (strs l) ∧ Below w.heap.size w w' := by
  have hlst := h1
  obtain ⟨A, c, rfl, hc1, hc2, h1⟩ := h1
  rw [strs_length] at hc1
  rw [strs_length] at hlst ⊢
  obtain ⟨i0, hi0, hz0, hz1, hz2⟩ := info_parts str_info
  clear hc2
  go_enter Try.func71, Try.ntmps71
  go_wp2_with (at_make; refine wpList_make_full _ rfl _ _ 22 rfl w.heap.size 9 i0 (.string ⟨#[]⟩) 1 Try.underlying22 hi0 hz0 hz1 .i64 .i64 _ _ l.length rfl rfl rfl rfl (by rw [hz2]; omega) (by unfold maxLen; omega) (Nat.le_refl _) ?_; intro w1 hown hgrow)
  have hb1 : Below w.heap.size w w1 := (Below.refl _ _).grown hgrow (Nat.le_refl _) (fun k hk => by cases hk)
  have hlst1 := hlst.below hb1
  have HD : Hid (((madeCells (Value.string ⟨#[]⟩).cells (l.length * 1)).toList).length = l.length) := by
    have := hown.1
    unfold Hid
    omega
  generalize (madeCells (Value.string ⟨#[]⟩).cells (l.length * 1)).toList = zs at hown HD
  have hb := World.block_lt_of_cell?
  clear hb
  go_loopw [4] (fun i w' => ∃ (k : Nat), k ≤ l.length ∧ i = .int .i64 k ∧ w'.ownsRow w.heap.size 9 1 (.slice (some ⟨w.heap.size, 0, none⟩) l.length l.length) l.length (strs (l.take k) ++ zs.drop k) ∧ Below w.heap.size w w') (fun i _ => l.length - (intOf i).toNat)
  case atStart => exact ⟨0, by omega, rfl, by simpa [strs] using hown, hb1⟩
  case round =>
    obtain ⟨k, hk, rfl, ho, hbk⟩ := hrel
    by_cases hlt : k < l.length
    · have hlk := hlst.below hbk
      obtain ⟨A', c', he', _, _, h1'⟩ := hlk
      rw [strs_length] at he'
      injection he' with hA _ hc
      subst hA
      subst hc
      replace h1' := h1'.resolve_left (by
        intro e
        have := congrArg List.length e
        rw [strs_length] at this
        simp only [List.length_nil] at this
        omega)
      obtain ⟨b, off, rfl, h1'⟩ := h1'
      have g1 := strs_at h1' k hlt
      have hcell : ∃ u, (strs (l.take k) ++ zs.drop k)[k]? = some u := ⟨(strs (l.take k) ++ zs.drop k)[k]'(by rw [List.length_append, strs_length, List.length_take, List.length_drop, HD.out]; omega), List.getElem?_eq_getElem _⟩
      obtain ⟨u, hu⟩ := hcell
      have g2 := (ho.cellAt k (by omega)).trans hu
      have g3 := ho.frozenAt k
      have hset : (strs (l.take k) ++ zs.drop k).set k (.string l[k]) = strs (l.take (k + 1)) ++ zs.drop (k + 1) := by
        have hd : zs.drop k = zs[k]'(by rw [HD.out]; exact hlt) :: zs.drop (k + 1) := List.drop_eq_getElem_cons _
        have hlk : (strs (l.take k)).length = k := by rw [strs_length, List.length_take]; omega
        rw [List.take_succ_eq_append_getElem hlt, hd, List.set_append_right _ _ (by omega), hlk, Nat.sub_self, List.set_cons_zero, strs_snoc, List.append_assoc]
        rfl
      have HS := Lib.hid hset
      have HU := Lib.hid hu
      clear hset hu h1' h1
      go_wp2
      go_roundw
      case rel =>
        refine ⟨k + 1, by omega, by go_num, ?_, hbk.setCell (Nat.le_refl _) _⟩
        have := (ho.stored k (.string l[k])).1
        rwa [HS.out] at this
      case measure => simp [intOf]; omega
    · have hkl : k = l.length := by omega
      subst hkl
      go_wp2
      go_ret
      rw [List.drop_of_length_le (by rw [HD.out]; exact Nat.le_refl _), List.append_nil, List.take_length] at ho
      exact ⟨_, rfl, ho, hbk⟩
end Go.Proofs.Ytbbcdeknnfghkaa

/- The laws' helpers on an argument that is a struct of one slice of strings: bounded, copied, compared, marked; and the argument opened to the list that it holds. -/
namespace Go.Proofs.Ytbbcdeknnfghkaa
open Go.ChangeShapes Go.WideShapes Go.RowKit

theorem array1 {α : Type} {cs : Array α} (h : cs.size = 1) : ∃ c0, cs = #[c0] := by
  obtain ⟨l⟩ := cs
  match l, h with
  | [c0], _ => exact ⟨c0, rfl⟩

theorem lst_cell {H : Type} {enc : TypeId × Value → H} {P : Program} {w : World} {base fuel : Nat} {t e : TypeId} {v : Value} {y : DataW H × List MemPlace} (ht : P.underlying t = some (.slice e)) (he : P.underlying e = some .string) (hc : P.cellsOf e = 1)
    (hf : DataW.trod enc P w base (fun _ => true) true fuel t [v] = some y) : ∃ l : List ByteArray, Lst w v (strs l) ∧ ∀ x ∈ l, x.size ≤ maxLen := by
  obtain ⟨A, ln, cp, hv⟩ := Joins.slice_form ht hf
  injection hv with hv _
  subst hv
  rcases open_strings ht he hc hf with ⟨hcs, _⟩ | ⟨a, len, cap, ss, hcs, _, hl, hm, hlen, _, hcell, hss⟩
  · simp at hcs
    obtain ⟨rfl, rfl, rfl⟩ := hcs
    exact ⟨[], ⟨none, 0, by simp [strs], by simp [strs], by simp [maxLen], .inl rfl⟩, by simp⟩
  · simp at hcs
    obtain ⟨rfl, rfl, rfl⟩ := hcs
    simp at hlen
    refine ⟨ss.take ln, ?_, fun x hx => hss x (List.mem_of_mem_take hx)⟩
    refine ⟨some a, cp, by simp [strs, hlen, Nat.min_eq_left hl], by simp [strs, hlen]; omega, hm, ?_⟩
    by_cases h0 : ln = 0
    · subst h0
      exact .inl (by simp [strs])
    · obtain ⟨b, off, spot⟩ := a
      have h1 := hcell 0 (by omega)
      have hspot : spot = none := by simpa [Addr.add] using World.cell?_spot h1
      subst hspot
      refine .inr ⟨b, off, rfl, fun i u hu => ?_⟩
      have hi : i < ln := by
        have := (List.getElem?_eq_some_iff.1 hu).1
        simp [strs, hlen] at this
        omega
      have h2 := hcell i (by omega)
      rw [Addr.add_lit] at h2
      rw [h2]
      simp [strs, hi] at hu
      obtain ⟨x, hx, rfl⟩ := hu
      simp [List.getD, hx]

/-- a struct of one field, a slice of strings, opened -/
theorem subst_arg {H : Type} {enc : TypeId × Value → H} {P : Program} {w : World} {base : Nat} {r : Reach} {b0 : Nat} {t e : TypeId} {f0 : Field} {v : Value} {d : DataW H} {ps : List MemPlace} (hs : P.underlying t = some (.struct #[f0])) (hC : P.cellsOf t = 1) (ho : f0.offset = 0) (h1 : P.cellsOf f0.type = 1)
    (ht : P.underlying f0.type = some (.slice e)) (he : P.underlying e = some .string) (hc : P.cellsOf e = 1)
    (hval : Value.okWide P w r b0 t v) (h : DataW.Trod enc P w base (fun _ => true) true t v d ps) : ∃ (u : Value) (l : List ByteArray), v = .agg #[u] ∧ Lst w u (strs l) ∧ ∀ x ∈ l, x.size ≤ maxLen := by
  obtain ⟨cs, rfl, hsz⟩ := okWide_struct hs hval
  obtain ⟨c0, rfl⟩ := array1 (hsz.trans hC)
  obtain ⟨fuel, hf⟩ := h
  obtain ⟨xs, n, _, _, hl, hlen, hf0⟩ := DataW.trod_struct hs hf
  have h0 := hf0 0 f0 rfl
  rw [ho, h1] at h0
  obtain ⟨y0, hy0⟩ : ∃ y0, xs[0]? = some y0 := ⟨xs[0]'(by simp at hlen; omega), List.getElem?_eq_getElem _⟩
  rw [hy0] at h0
  obtain ⟨l, hl1, hl2⟩ := lst_cell ht he hc (y := y0) (by simpa [Value.cells] using h0)
  exact ⟨c0, l, rfl, hl1, hl2⟩

/-- what szSubst says: a bound on all that the struct holds, or -1 -/
def SzSub (l : List ByteArray) (left : Int) (w : World) (e : Ending) (w' : World) : Prop :=
  Below w.heap.size w w' ∧ ∃ r : Int, e = .returned (.int .i64 r) ∧ -1 ≤ r ∧ r ≤ left ∧ (0 ≤ r → (l.length : Int) + totalS l + r = left)

set_option maxHeartbeats 400000 in
theorem szSubst_any (l : List ByteArray) (v : Value) (left : Int) (w : World) (h1 : Lst w v (strs l)) (hz : ∀ x ∈ l, x.size ≤ maxLen) (hl0 : 0 ≤ left) (hl1 : left ≤ 1048576) :
    Calls Try.prog 26 #[.agg #[v], .int .i64 left] w (SzSub l left w) := by
  have HL := Lib.hid h1
  have HZ := Lib.hid hz
  clear h1 hz
  go_enter Try.func26, Try.ntmps26
  go_wp2_with fail
  refine (szStringS_any l v left _ (HL.out.below ((Below.refl _ _).alloc (Nat.le_refl _) _)) HZ.out hl0 hl1).mono ?_
  rintro e w1 ⟨rfl, r, rfl, hr1, hr2, hr3⟩
  have HR := Lib.hid hr3
  clear hr3
  by_cases hneg : r < 0
  · go_wp2_with fail
    go_ret
    exact ⟨(Below.refl _ _).alloc (Nat.le_refl _) _, -1, rfl, by omega, by omega, by omega⟩
  · go_wp2_with fail
    go_ret
    exact ⟨(Below.refl _ _).alloc (Nat.le_refl _) _, r, rfl, hr1, hr2, HR.out⟩

theorem toSubst_any (l : List ByteArray) (v : Value) (w : World) (h1 : Lst w v (strs l)) (hn : l.length ≤ 1048576) :
    Calls Try.prog 28 #[.agg #[v]] w fun e w' => ∃ v', e = .returned (.agg #[v']) ∧ w'.ownsRow w.heap.size 9 1 v' l.length (strs l) ∧ Below w.heap.size w w' := by
  have HL := Lib.hid h1
  clear h1
  go_enter Try.func28, Try.ntmps28
  go_wp2_with fail
  have hb0 : Below w.heap.size w (((w.alloc (.cells #[v] 39)).alloc (.cells #[.slice none 0 0] 24)).alloc (.cells #[.slice none 0 0] 24)) := (((Below.refl _ _).alloc (Nat.le_refl _) _).alloc (by simp) _).alloc (by simp; omega) _
  refine (toStringS_any l v _ (HL.out.below hb0) hn).mono ?_
  rintro e w1 ⟨v', rfl, ho, hb1⟩
  obtain ⟨A, cp, rfl⟩ := own_slice ho
  obtain ⟨hc, hf⟩ := below_reads hb1
  have HO := Lib.hid ho
  have HB := Lib.hid hb1
  have hz : w.heap.size + 3 ≤ w1.heap.size := by have := hb1.size; simpa using this
  have HB0 := Lib.hid hb0
  clear ho hb1 hb0
  go_wp2_with fail
  refine bodyPost_ret (v := .agg #[.slice A l.length cp]) (by simp [results, Try.results28, go_sem, hc]) rfl ⟨_, rfl, ?_, ?_⟩
  · exact own_mono (own_setCell (own_setCell HO.out (by simp) _) (by simp) _) (by simp; omega)
  · exact ((HB0.out.trans (HB.out.mono (by simp; omega))).setCell (by simp; omega) _).setCell (by simp) _

theorem eqSubst_same (l : List ByteArray) (v1 v2 : Value) (w : World) (h1 : Lst w v1 (strs l)) (h2 : Lst w v2 (strs l)) :
    Calls Try.prog 30 #[.agg #[v1], .agg #[v2]] w fun e w' => e = .returned (.bool true) ∧ Below w.heap.size w w' := by
  have H1 := Lib.hid h1
  have H2 := Lib.hid h2
  clear h1 h2
  go_enter Try.func30, Try.ntmps30
  go_wp2_with fail
  have hb0 : Below w.heap.size w ((w.alloc (.cells #[v1] 24)).alloc (.cells #[v2] 24)) := ((Below.refl _ _).alloc (Nat.le_refl _) _).alloc (by simp) _
  refine (eqStringS_same l v1 v2 _ (H1.out.below hb0) (H2.out.below hb0)).mono ?_
  rintro e w1 ⟨rfl, n, rfl⟩
  have HB0 := Lib.hid hb0
  clear hb0
  go_wp2_with fail
  go_ret
  exact ⟨rfl, below_drewN HB0.out n⟩

theorem markSubst_own (B : Nat) (v : Value) (k : Int) (n : Nat) (xs : List Value) (w : World) (hk : 0 ≤ k) (hkn : k + n ≤ 9223372036854775807) (hown : w.ownsRow B 9 1 v n xs) :
    Calls Try.prog 40 #[.agg #[v], .int .i64 k] w fun e w' => e = .returned (.int .i64 (k + n)) ∧ w'.ownsRow B 9 1 v n (strs (marks k n)) ∧ w.grownBy w' v.ownBlock := by
  have HO := Lib.hid hown
  clear hown
  go_enter Try.func40, Try.ntmps40
  go_wp2_with fail
  refine (markStringS_own B v k n xs _ hk hkn (HO.out.alloc _)).mono ?_
  rintro e w1 ⟨rfl, ho1, hg1⟩
  have HO1 := Lib.hid ho1
  have HG1 := Lib.hid hg1
  clear ho1 hg1
  go_wp2_with fail
  go_ret
  exact ⟨rfl, HO1.out, grown_trans (World.grownBy_alloc _ _ _) HG1.out⟩

theorem sz_use {l : List ByteArray} {r left : Int} (h : (l.length : Int) + totalS l + r = left) (h0 : 0 ≤ r) (h1 : left ≤ 1048576) : l.length ≤ 1048576 ∧ ∀ x ∈ l, x.size ≤ 1048576 := by
  refine ⟨by omega, fun x hx => ?_⟩
  obtain ⟨k, hk, rfl⟩ := List.mem_iff_getElem.1 hx
  have a := totalS_succ l k hk
  have b := totalS_take l (k + 1)
  omega
end Go.Proofs.Ytbbcdeknnfghkaa

/- Plain facts on the digits of a text. No program in it. -/
namespace Go.Proofs.Ytbbcdeknnfghkaa
open Go.RowKit

def isDigB (c : UInt8) : Bool := decide (48 ≤ c.toNat) && decide (c.toNat ≤ 57)
def isLowB (c : UInt8) : Bool := decide (97 ≤ c.toNat) && decide (c.toNat ≤ 122)
def digs (l : List UInt8) : Bool := l.all isDigB && !l.isEmpty

theorem take_snoc (s : ByteArray) (k : Nat) (h : k < s.size) : s.data.toList.take (k + 1) = s.data.toList.take k ++ [s[k]] := by
  rw [List.take_succ_eq_append_getElem (by simpa using h)]; rfl
theorem take_all (s : ByteArray) (k : Nat) (h : s.size ≤ k) : s.data.toList.take k = s.data.toList := List.take_of_length_le (by simpa using h)
theorem all_snoc {p : UInt8 → Bool} (s : ByteArray) (k : Nat) (h : k < s.size) (ha : (s.data.toList.take k).all p = true) (hp : p s[k] = true) : (s.data.toList.take (k + 1)).all p = true := by
  rw [take_snoc s k h, List.all_append, ha]; simp [hp]
theorem all_not {p : UInt8 → Bool} (s : ByteArray) (k : Nat) (h : k < s.size) (hp : p s[k] = false) : s.data.toList.all p = false := by
  have hm : s[k] ∈ s.data.toList := by
    have : s[k] = s.data.toList[k]'(by simpa using h) := rfl
    rw [this]; exact List.getElem_mem _
  exact List.all_eq_false.2 ⟨_, hm, by simp [hp]⟩
theorem digs_no (s : ByteArray) (k : Nat) (h : k < s.size) (hp : isDigB s[k] = false) : digs s.data.toList = false := by
  unfold digs; rw [all_not s k h hp]; rfl
theorem digs_end (s : ByteArray) (ha : (s.data.toList.take s.size).all isDigB = true) : digs s.data.toList = decide (0 < s.size) := by
  rw [take_all s _ (Nat.le_refl _)] at ha
  unfold digs; rw [ha]
  obtain ⟨⟨l⟩⟩ := s
  cases l <;> simp [ByteArray.size]
end Go.Proofs.Ytbbcdeknnfghkaa
