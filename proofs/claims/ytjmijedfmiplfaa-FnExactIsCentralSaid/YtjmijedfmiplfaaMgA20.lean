/- Texts put together. -/
import Derived.Test.YtjmijedfmiplfaaMgA9
import Derived.Test.YtjmijedfmiplfaaMgA13
import Derived.Test.YtjmijedfmiplfaaMgA3
import Derived.BigQuiet
import Derived.Test.YtjmijedfmiplfaaMgA14
import Derived.Test.YtjmijedfmiplfaaMgA10
import Derived.Test.YtjmijedfmiplfaaMgA8
import Derived.Laws.Cover1
import Derived.Test.YtjmijedfmiplfaaMgA16
/- Chapter 10 of the model: BordersOf, PeriodsOf, RootOf, IsPrimitiveWord. Conditions: lengths of at most 2^20. -/
namespace Go.Proofs.Ytjmijedfmiplfaa
open Go.RowKit

theorem cut_lo {P : Program} {t : TypeId} (ht : P.underlying t = some .string) (s : ByteArray) (b : Int) (y : Nat) (w : World) (hb : b = y) (h : y ≤ s.size) :
    (Instr.slice t (.string s) none (some (.int .i64 b)) none).run P w = .ok (.string (s.extract 0 y)) w := by
  subst hb
  rw [run_slice_string_to_if (P := P) w t s .i64 (y : Int) ht, if_pos (by omega)]
  rfl
theorem cut_hi {P : Program} {t : TypeId} (ht : P.underlying t = some .string) (s : ByteArray) (b : Int) (y : Nat) (w : World) (hb : b = y) (h : y ≤ s.size) :
    (Instr.slice t (.string s) (some (.int .i64 b)) none none).run P w = .ok (.string (s.extract y s.size)) w := by
  subst hb
  rw [run_slice_string_from_if (P := P) w t s .i64 (y : Int) ht, if_pos (by omega)]
  rfl

theorem rt_yes {s : ByteArray} {p : Nat} (h1 : 1 ≤ p) (h2 : p < s.size) (h : RootAt s p) (hno : ∀ q, 1 ≤ q → q < p → ¬ RootAt s q) : rtN s = p :=
  firstP_eq _ _ _ h1 (by omega) (fun r hr1 hr2 => hno r hr1 hr2) h
theorem rt_self {s : ByteArray} (h1 : 1 ≤ s.size) (hno : ∀ q, 1 ≤ q → q < s.size → ¬ RootAt s q) : rtN s = s.size := by
  have hr : RootAt s s.size := ⟨Nat.mod_self _, fun i hi => absurd hi (by omega)⟩
  exact firstP_eq _ _ _ h1 (by omega) (fun r hr1 hr2 => hno r hr1 hr2) hr

end Go.Proofs.Ytjmijedfmiplfaa

/- Chapter 11 of the model: IsBinary, SpreadOf, IsBalanced. Conditions: lengths of at most 2^20. -/
namespace Go.Proofs.Ytjmijedfmiplfaa
open Go.RowKit Go.Lib

theorem cnt_cb (s : ByteArray) (i : Nat) : ∀ n, i + n ≤ s.size → cnt (s.extract i (i + n)).data.toList 98 = cbN (bX s) i n
  | 0, _ => by
    rw [ByteArray.data_extract, Array.toList_extract, List.extract_eq_take_drop, Nat.add_sub_cancel_left, List.take_zero]
    rfl
  | n + 1, h => by
    have ih := cnt_cb s i n (by omega)
    rw [ByteArray.data_extract, Array.toList_extract, List.extract_eq_take_drop, Nat.add_sub_cancel_left] at ih ⊢
    have hl : s.data.toList.length = s.size := by simp
    have hi : i + n < s.data.toList.length := by omega
    have e : (s.data.toList.drop i)[n]? = some (s.data.toList[i + n]'hi) := by rw [List.getElem?_drop, List.getElem?_eq_getElem hi]
    rw [List.take_add_one, e]
    show cnt (_ ++ [_]) 98 = cbN (bX s) i n + (bX s (i + n)).toNat
    unfold cnt at ih ⊢
    rw [List.count_append, ih, List.count_singleton]
    congr 1
    unfold bX
    rw [List.getElem?_eq_getElem hi]
    generalize s.data.toList[i + n]'hi = c
    by_cases hc : c = 98
    · subst hc; rfl
    · have h1 : (c == 98) = false := by rw [beq_eq_false_iff_ne]; exact hc
      have h2 : (some c == some (98 : UInt8)) = false := by rw [beq_eq_false_iff_ne]; exact fun e => hc (Option.some.inj e)
      rw [h1, h2]
      rfl

set_option maxHeartbeats 400000 in
theorem specIsBinaryQ (s : ByteArray) (w : World) (_ : s.size ≤ 1048576) :
    Calls Try.prog 49 #[.string s] w fun e w' => e = .returned (.bool (binB s)) ∧ w = w' := by
  cases hw : wordB s
  · have HW := Lib.hid hw
    have HV : Hid (binB s = false) := by show _ = _; unfold binB; rw [hw]; rfl
    clear hw
    go_enter Try.func49, Try.ntmps49
    go_wp2_with fail
    refine (specWordOk s _).mono ?_
    rintro e w' ⟨rfl, rfl⟩
    rw [HW.out]
    go_wp2_with fail
    go_ret
    exact ⟨ret_bool HV.out.symm, rfl⟩
  · have HW := Lib.hid hw
    have HV : Hid (binB s = withinB 2 s) := by show _ = _; unfold binB; rw [hw]; rfl
    have HI := Lib.hid (fun w => specWithin 2 s w (by omega) hw)
    clear hw
    generalize withinB 2 s = b at HV HI
    go_enter Try.func49, Try.ntmps49
    go_wp2_with fail
    refine (specWordOk s _).mono ?_
    rintro e w' ⟨rfl, rfl⟩
    rw [HW.out]
    go_wp2_with fail
    refine (HI.out _).mono ?_
    rintro e w' ⟨rfl, rfl⟩
    go_wp2_with fail
    go_ret
    exact ⟨ret_bool HV.out.symm, rfl⟩

theorem specIsBinary (s : ByteArray) (w : World) (hs : s.size ≤ 1048576) :
    Calls Try.prog 49 #[.string s] w fun e w' => e = .returned (.bool (binB s)) ∧ Below w.heap.size w w' := by
  exact (specIsBinaryQ s w hs).mono (fun _ _ h => ⟨h.1, by rw [← h.2]; exact Below.refl _ _⟩)
end Go.Proofs.Ytjmijedfmiplfaa

/- Chapter 9 of the model: IsPalindrome, PalindromesIn, DefectOf, IsRich. Conditions: lengths of at most 2^20. -/
namespace Go.Proofs.Ytjmijedfmiplfaa
open Go.RowKit Go.Lib

theorem specIs (s : ByteArray) (w : World) (hs : s.size ≤ 1048576) :
    Calls Try.prog 50 #[.string s] w fun e w' => e = .returned (.bool (palB s)) ∧ Below w.heap.size w w' := by
  have HI := Lib.hid (palB_iff s)
  have HT := Lib.hid (fun w => specTurn s w hs)
  cases hp : palB s
  · have hne : turnS s ≠ s := fun h => by rw [HI.out.2 h] at hp; cases hp
    have bq := ne_bytes hne
    clear HI hp hne
    generalize turnS s = t at HT bq
    go_enter Try.func50, Try.ntmps50
    go_wp2_with fail
    refine (HT.out _).mono ?_
    rintro e w1 ⟨rfl, hb⟩
    have HB := Lib.hid hb
    clear hb
    go_wp2_with fail
    go_ret
    exact ⟨rfl, HB.out⟩
  · have he : turnS s = s := HI.out.1 hp
    have bq : (s.toList == s.toList) = true := by simp
    rw [he] at HT
    clear HI hp he
    go_enter Try.func50, Try.ntmps50
    go_wp2_with fail
    refine (HT.out _).mono ?_
    rintro e w1 ⟨rfl, hb⟩
    have HB := Lib.hid hb
    clear hb
    go_wp2_with fail
    go_ret
    exact ⟨rfl, HB.out⟩

end Go.Proofs.Ytjmijedfmiplfaa

/- The mathematics of FnPeriods, second part: Lyndon words and their parts. No program in it. -/
namespace Go.Proofs.Ytjmijedfmiplfaa
open Go.RowKit

/-! ### the order of words -/
theorem bl_cons (x y : UInt8) (a b : List UInt8) : Op.bytesLess (x :: a) (y :: b) = true ↔ x < y ∨ (x = y ∧ Op.bytesLess a b = true) := by
  simp only [Op.bytesLess, Bool.or_eq_true, Bool.and_eq_true, decide_eq_true_eq, beq_iff_eq]
theorem bl_nil (a : List UInt8) : Op.bytesLess a [] = false := by cases a <;> rfl
/-- two words that part before the first one ends -/
theorem bl_app : ∀ a b : List UInt8, Op.bytesLess a b = true → ¬ a <+: b → ∀ x y, Op.bytesLess (a ++ x) (b ++ y) = true
  | [], _, _, h => absurd List.nil_prefix h
  | x :: a, [], h, _ => by rw [bl_nil] at h; cases h
  | x :: a, y :: b, h, hp => fun u v => by
    rw [bl_cons] at h
    show Op.bytesLess (x :: (a ++ u)) (y :: (b ++ v)) = true
    rw [bl_cons]
    rcases h with h | ⟨rfl, h⟩
    · exact .inl h
    · exact .inr ⟨rfl, bl_app a b h (fun hh => hp (List.cons_prefix_cons.2 ⟨rfl, hh⟩)) u v⟩
theorem bl_pre : ∀ p a b : List UInt8, Op.bytesLess (p ++ a) (p ++ b) = true ↔ Op.bytesLess a b = true
  | [], _, _ => Iff.rfl
  | x :: p, a, b => by
    show Op.bytesLess (x :: (p ++ a)) (x :: (p ++ b)) = true ↔ _
    rw [bl_cons, bl_pre p a b]
    constructor
    · rintro (h | ⟨_, h⟩)
      · exact absurd h (UInt8.lt_irrefl x)
      · exact h
    · exact fun h => .inr ⟨rfl, h⟩
theorem bl_asym {a b : List UInt8} (h : Op.bytesLess a b = true) (k : Op.bytesLess b a = true) : False := by
  have := bl_trans a b a h k
  rw [bl_self] at this
  cases this
theorem bl_len : ∀ u t v v' : List UInt8, u.length = t.length → Op.bytesLess (u ++ v) (t ++ v') = true → Op.bytesLess u t = true ∨ (u = t ∧ Op.bytesLess v v' = true)
  | [], [], _, _, _, h => .inr ⟨rfl, h⟩
  | [], _ :: _, _, _, hl, _ => by simp at hl
  | _ :: _, [], _, _, hl, _ => by simp at hl
  | x :: u, y :: t, v, v', hl, h => by
    have h0 : Op.bytesLess (x :: (u ++ v)) (y :: (t ++ v')) = true := h
    rw [bl_cons] at h0
    rw [bl_cons]
    rcases h0 with h1 | ⟨rfl, h1⟩
    · exact .inl (.inl h1)
    · rcases bl_len u t v v' (by simpa using hl) h1 with k | ⟨rfl, k⟩
      · exact .inl (.inr ⟨rfl, k⟩)
      · exact .inr ⟨rfl, k⟩

/-! ### before all shifts, before all ends -/
def LySuf (w : List UInt8) : Prop := w ≠ [] ∧ ∀ u v, w = u ++ v → u ≠ [] → v ≠ [] → Op.bytesLess w v = true
def LyRot (w : List UInt8) : Prop := w ≠ [] ∧ ∀ u v, w = u ++ v → u ≠ [] → v ≠ [] → Op.bytesLess w (v ++ u) = true
theorem long_pre {u v : List UInt8} (hu : u ≠ []) : ¬ (u ++ v) <+: v := fun h => by
  have := h.length_le
  rw [List.length_append] at this
  have := List.length_pos_iff.2 hu
  omega
theorem ly_suf_rot {w : List UInt8} (h : LySuf w) : LyRot w := ⟨h.1, fun u v e hu hv => by
  have h1 := h.2 u v e hu hv
  have := bl_app w v h1 (by rw [e]; exact long_pre hu) [] u
  rwa [List.append_nil] at this⟩
theorem ly_rot_suf {w : List UInt8} (h : LyRot w) : LySuf w := ⟨h.1, fun u v e hu hv => by
  have h1 := h.2 u v e hu hv
  rcases bl_tri w v with k | k | k
  · exact k
  · exfalso
    have := congrArg List.length (e.symm.trans k)
    rw [List.length_append] at this
    have := List.length_pos_iff.2 hu
    omega
  · exfalso
    by_cases hp : v <+: w
    · obtain ⟨t, ht⟩ := hp
      have hlen : t.length = u.length := by
        have := congrArg List.length (ht.trans e)
        rw [List.length_append, List.length_append] at this
        omega
      have ht0 : t ≠ [] := fun hh => hu (by rw [hh] at hlen; exact List.eq_nil_of_length_eq_zero hlen.symm)
      have h2 := h.2 v t ht.symm hv ht0
      have h3 : Op.bytesLess t u = true := by
        rw [← ht] at h1
        exact (bl_pre v t u).1 h1
      rw [e] at h2
      rcases bl_len u t v v hlen.symm h2 with k2 | ⟨_, k2⟩
      · exact bl_asym h3 k2
      · rw [bl_self] at k2; cases k2
    · have := bl_app v w k hp u []
      rw [List.append_nil] at this
      exact bl_asym h1 this⟩
/-- two Lyndon words of which the first comes before the second make one -/
theorem ly_app {u v : List UInt8} (hu : LySuf u) (hv : LySuf v) (h : Op.bytesLess u v = true) : LySuf (u ++ v) := by
  have huv : Op.bytesLess (u ++ v) v = true := by
    by_cases hp : u <+: v
    · obtain ⟨t, ht⟩ := hp
      have ht0 : t ≠ [] := fun hh => by
        rw [hh, List.append_nil] at ht
        rw [ht, bl_self] at h
        cases h
      have h1 := hv.2 u t ht.symm hu.1 ht0
      have : Op.bytesLess (u ++ v) (u ++ t) = true := (bl_pre u v t).2 h1
      rwa [ht] at this
    · have := bl_app u v h hp v []
      rwa [List.append_nil] at this
  refine ⟨fun hh => hu.1 (List.append_eq_nil_iff.1 hh).1, fun x y e hx hy => ?_⟩
  rcases List.append_eq_append_iff.1 e with ⟨a, ha1, ha2⟩ | ⟨c, hc1, hc2⟩
  · by_cases ha : a = []
    · rw [ha, List.nil_append] at ha2
      rw [← ha2]
      exact huv
    · exact bl_trans _ _ _ huv (hv.2 a y ha2 ha hy)
  · by_cases hc : c = []
    · rw [hc, List.nil_append] at hc2
      rw [hc2]
      exact huv
    · rw [hc2]
      exact bl_app u c (hu.2 x c hc1 hx hc) (by rw [hc1]; exact long_pre hx) v v
theorem ly_one (a : UInt8) : LySuf [a] := ⟨by simp, fun u v e hu hv => by
  have := congrArg List.length e
  rw [List.length_append] at this
  have h1 := List.length_pos_iff.2 hu
  have h2 := List.length_pos_iff.2 hv
  simp only [List.length_cons, List.length_nil] at this
  omega⟩

/-! ### .. of the words themselves -/
theorem rot_list (s : ByteArray) (k : Nat) (_ : k ≤ s.size) : (rotS s k).data.toList = s.data.toList.drop k ++ s.data.toList.take k := by
  have hl : s.data.toList.length = s.size := by simp
  unfold rotS
  rw [ByteArray.data_append, Array.toList_append, ByteArray.data_extract, ByteArray.data_extract, Array.toList_extract, Array.toList_extract, List.extract_eq_take_drop, List.extract_eq_take_drop, List.drop_zero, Nat.sub_zero, List.take_of_length_le (by rw [List.length_drop, hl]; omega)]
theorem lyn_suf (s : ByteArray) : LynAt s ↔ LySuf s.data.toList := by
  have hl : s.data.toList.length = s.size := by simp
  unfold LynAt
  constructor
  · rintro ⟨h1, h2⟩
    refine ly_rot_suf ⟨fun hh => by rw [hh] at hl; simp at hl; omega, fun u v e hu hv => ?_⟩
    have hul := List.length_pos_iff.2 hu
    have hvl := List.length_pos_iff.2 hv
    have hle : u.length + v.length = s.size := by rw [← List.length_append, ← e, hl]
    have := h2 u.length (by omega) (by omega)
    unfold lessB at this
    rw [ByteArray.toList_eq, ByteArray.toList_eq, rot_list s _ (by omega), e, List.drop_left, List.take_left] at this
    rwa [e]
  · intro h
    have h0 := List.length_pos_iff.2 h.1
    refine ⟨by omega, fun k h1 h2 => ?_⟩
    have := (ly_suf_rot h).2 (s.data.toList.take k) (s.data.toList.drop k) (List.take_append_drop _ _).symm (fun hh => by
      have := congrArg List.length hh
      rw [List.length_take, hl, List.length_nil] at this
      omega) (fun hh => by
      have := congrArg List.length hh
      rw [List.length_drop, hl, List.length_nil] at this
      omega)
    unfold lessB
    rwa [ByteArray.toList_eq, ByteArray.toList_eq, rot_list s _ (by omega)]
theorem part_list (s : ByteArray) (i n : Nat) : (s.extract i (i + n)).data.toList = (s.data.toList.drop i).take n := by
  rw [ByteArray.data_extract, Array.toList_extract, List.extract_eq_take_drop, Nat.add_sub_cancel_left]

/-! ### the parts -/
theorem lyLen_spec (s : ByteArray) (i : Nat) : ∀ n, (1 ≤ lyLen s i n → LynAt (s.extract i (i + lyLen s i n))) ∧ ∀ m, lyLen s i n < m → m ≤ n → ¬ LynAt (s.extract i (i + m))
  | 0 => ⟨fun h => absurd h (by show ¬ 1 ≤ 0; omega), fun m h1 h2 => by have h1 : 0 < m := h1; omega⟩
  | n + 1 => by
    obtain ⟨a, b⟩ := lyLen_spec s i n
    cases h : lyB (s.extract i (i + (n + 1)))
    · have e : lyLen s i (n + 1) = lyLen s i n := if_neg (by rw [h]; decide)
      rw [e]
      refine ⟨a, fun m h1 h2 hm => ?_⟩
      by_cases hn : m = n + 1
      · subst hn
        rw [(lyB_iff _).2 hm] at h
        cases h
      · exact b m h1 (by omega) hm
    · have e : lyLen s i (n + 1) = n + 1 := if_pos h
      rw [e]
      exact ⟨fun _ => (lyB_iff _).1 h, fun m h1 h2 => by omega⟩
theorem lyLen_pos {s : ByteArray} {i : Nat} (h : i < s.size) : 1 ≤ lyLen s i (s.size - i) := by
  by_cases h0 : lyLen s i (s.size - i) = 0
  · exfalso
    refine (lyLen_spec s i (s.size - i)).2 1 (by omega) (by omega) ?_
    rw [lyn_suf, part_list]
    have hl : s.data.toList.length = s.size := by simp
    rw [List.drop_eq_getElem_cons (by rw [hl]; exact h), List.take_succ_cons, List.take_zero]
    exact ly_one _
  · omega
/-- the next part does not come behind -/
theorem ly_down {s : ByteArray} {i m : Nat} (h : i < s.size) (hm : 1 ≤ m) (hi : i + lyLen s i (s.size - i) + m ≤ s.size) (hl : LynAt (s.extract (i + lyLen s i (s.size - i)) (i + lyLen s i (s.size - i) + m))) : ¬ lessB (s.extract i (i + lyLen s i (s.size - i))) (s.extract (i + lyLen s i (s.size - i)) (i + lyLen s i (s.size - i) + m)) = true := by
  obtain ⟨a, b⟩ := lyLen_spec s i (s.size - i)
  have hp := lyLen_pos h
  have h1 := a hp
  generalize lyLen s i (s.size - i) = n at *
  intro hless
  refine b (n + m) (by omega) (by omega) ?_
  rw [lyn_suf, part_list] at h1 hl ⊢
  unfold lessB at hless
  rw [ByteArray.toList_eq, ByteArray.toList_eq, part_list, part_list] at hless
  have := ly_app h1 hl hless
  rw [← List.drop_drop] at this
  rwa [List.take_add]
end Go.Proofs.Ytjmijedfmiplfaa
