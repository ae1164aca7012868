/- Texts put together. -/
import Derived.Test.YtnejalefpenbfaaMgA14
import Derived.Test.YtnejalefpenbfaaMgA17
import Derived.Test.YtnejalefpenbfaaMgA18
import Derived.Test.YtnejalefpenbfaaMgA6
/- The mathematics of FnPalindromes, first part: how many palindromes there are, turned words, the longest one, closing. No program in it. -/
namespace Go.Proofs.Ytnejalefpenbfaa
open Go.RowKit

/-! ### letters -/
theorem pl_len (s : ByteArray) : s.data.toList.length = s.size := by simp
theorem pl_ext {s t : ByteArray} (hz : s.size = t.size) (h : ∀ i, i < s.size → s.data.toList[i]? = t.data.toList[i]?) : s = t := by
  apply bytes_ext
  rw [ByteArray.toList_eq, ByteArray.toList_eq]
  apply List.ext_getElem?
  intro i
  by_cases hi : i < s.size
  · exact h i hi
  · rw [List.getElem?_eq_none (by rw [pl_len]; omega), List.getElem?_eq_none (by rw [pl_len]; omega)]
theorem pl_ext2 {s t : ByteArray} {i k h : Nat} (h1 : i + h ≤ s.size) (h2 : k + h ≤ t.size) : s.extract i (i + h) = t.extract k (k + h) ↔ ∀ j, j < h → s.data.toList[i + j]? = t.data.toList[k + j]? := by
  have z1 := pz_size s i h h1
  have z2 := pz_size t k h h2
  constructor
  · intro e j hj
    rw [← pz_list s i h j hj, ← pz_list t k h j hj, e]
  · intro e
    refine pl_ext (by omega) fun j hj => ?_
    rw [pz_list s i h j (by omega), pz_list t k h j (by omega)]
    exact e j (by omega)
theorem pl_turn (s : ByteArray) {i : Nat} (h : i < s.size) : (turnS s).data.toList[i]? = s.data.toList[s.size - 1 - i]? := by
  show (s.data.toList.reverse.toArray).toList[i]? = _
  rw [List.getElem?_reverse (by rw [pl_len]; exact h), pl_len]
theorem pal_get (s : ByteArray) : PalS s ↔ ∀ i, i < s.size → s.data.toList[i]? = s.data.toList[s.size - 1 - i]? := by
  unfold PalS
  constructor
  · intro e i hi
    rw [← pl_turn s hi, e]
  · intro e
    refine pl_ext (turn_size s) fun i hi => ?_
    rw [turn_size] at hi
    rw [pl_turn s hi, e i hi]
theorem pl_at {s : ByteArray} {j n : Nat} (h : j + n ≤ s.size) : PalS (s.extract j (j + n)) ↔ ∀ i, i < n → s.data.toList[j + i]? = s.data.toList[j + (n - 1 - i)]? := by
  rw [pal_get, pz_size s j n h]
  constructor
  · intro e i hi
    have := e i hi
    rwa [pz_list s j n i hi, pz_list s j n (n - 1 - i) (by omega)] at this
  · intro e i hi
    rw [pz_list s j n i hi, pz_list s j n (n - 1 - i) (by omega)]
    exact e i hi
theorem pal_whole (s : ByteArray) : PalS (s.extract 0 s.size) ↔ PalS s := by
  have : s.extract 0 s.size = s := by
    refine pl_ext (by rw [ByteArray.size_extract]; omega) fun i hi => ?_
    rw [ByteArray.size_extract] at hi
    have := pz_list s 0 s.size i (by omega)
    rwa [Nat.zero_add, Nat.zero_add] at this
  rw [this]

/-! ### at most one more than letters -/
def OccE (s x : ByteArray) (e : Nat) : Prop := x.size ≤ e ∧ e ≤ s.size ∧ s.extract (e - x.size) e = x
noncomputable def feN (s x : ByteArray) : Nat := firstP (OccE s x) 0 s.size
theorem fe_spec {s x : ByteArray} {e : Nat} (h : OccE s x e) : OccE s x (feN s x) ∧ ∀ e, OccE s x e → feN s x ≤ e := by
  obtain ⟨a, b⟩ := firstP_spec (P := OccE s x) s.size 0 ⟨e, Nat.zero_le _, by have := h.2.1; omega, h⟩
  exact ⟨a, fun e he => b e (Nat.zero_le _) he⟩
theorem pl_border {s : ByteArray} {a b n m : Nat} (he : a + m = b + n) (hs : a + m ≤ s.size) (hnm : n ≤ m) (hx : PalS (s.extract b (b + n))) (hy : PalS (s.extract a (a + m))) : s.extract a (a + n) = s.extract b (b + n) := by
  rw [pl_ext2 (by omega) (by omega)]
  intro i hi
  rw [(pl_at hs).1 hy i (by omega), (pl_at (by omega)).1 hx i hi]
  congr 1
  omega
theorem fe_inj {s x y : ByteArray} {e1 e2 : Nat} (hx : PalS x) (hy : PalS y) (h1 : OccE s x e1) (h2 : OccE s y e2) (h : feN s x = feN s y) (hxy : x.size ≤ y.size) : x = y := by
  obtain ⟨⟨a1, a2, a3⟩, a4⟩ := fe_spec h1
  obtain ⟨⟨b1, b2, b3⟩, b4⟩ := fe_spec h2
  rw [← h] at b1 b2 b3 b4
  generalize feN s x = e at *
  by_cases hz : x.size = y.size
  · rw [← a3, ← b3, hz]
  · exfalso
    have ex : s.extract (e - x.size) (e - x.size + x.size) = x := by rw [Nat.sub_add_cancel a1]; exact a3
    have ey : s.extract (e - y.size) (e - y.size + y.size) = y := by rw [Nat.sub_add_cancel b1]; exact b3
    have hb := pl_border (s := s) (a := e - y.size) (b := e - x.size) (n := x.size) (m := y.size) (by omega) (by omega) hxy (by rw [ex]; exact hx) (by rw [ey]; exact hy)
    rw [ex] at hb
    have := a4 (e - y.size + x.size) ⟨by omega, by omega, by rw [Nat.add_sub_cancel]; exact hb⟩
    omega
theorem pp_occ {s x : ByteArray} (h : x ∈ ppL s) (h0 : x.size ≠ 0) : PalS x ∧ ∃ e, OccE s x e := by
  rcases (ppL_mem s x).1 h with rfl | ⟨j, n, h1, h2, h3, rfl⟩
  · exact absurd rfl h0
  · have hz := pz_size s j n h2
    exact ⟨h3, j + n, by omega, h2, by rw [hz, Nat.add_sub_cancel]⟩
theorem pl_zero {x : ByteArray} (h : x.size = 0) : x = ⟨#[]⟩ := pl_ext h fun i hi => absurd hi (by omega)
theorem pp_count (s : ByteArray) : (ppL s).length ≤ s.size + 1 := by
  have hnd : ((ppL s).map fun x => if x.size = 0 then 0 else feN s x).Nodup := by
    refine List.pairwise_map.2 ((asc_nodup (ppTo_asc s s.size)).imp_of_mem fun {a b} ha hb hab => ?_)
    intro e
    apply hab
    by_cases ha0 : a.size = 0
    · by_cases hb0 : b.size = 0
      · rw [pl_zero ha0, pl_zero hb0]
      · rw [if_pos ha0, if_neg hb0] at e
        obtain ⟨_, e2, h2⟩ := pp_occ hb hb0
        have := (fe_spec h2).1.1
        omega
    · obtain ⟨p1, e1, h1⟩ := pp_occ ha ha0
      by_cases hb0 : b.size = 0
      · rw [if_neg ha0, if_pos hb0] at e
        have := (fe_spec h1).1.1
        omega
      · rw [if_neg ha0, if_neg hb0] at e
        obtain ⟨p2, e2, h2⟩ := pp_occ hb hb0
        by_cases hs : a.size ≤ b.size
        · exact fe_inj p1 p2 h1 h2 e hs
        · exact (fe_inj p2 p1 h2 h1 e.symm (by omega)).symm
  have := nodup_le hnd (m := List.range (s.size + 1)) (fun k hk => by
    obtain ⟨x, hx, rfl⟩ := List.mem_map.1 hk
    rw [List.mem_range]
    by_cases h0 : x.size = 0
    · rw [if_pos h0]; omega
    · rw [if_neg h0]
      obtain ⟨_, e, h⟩ := pp_occ hx h0
      have := (fe_spec h).1.2.1
      omega)
  rwa [List.length_map, List.length_range] at this

/-! ### turned -/
theorem turn_turn (s : ByteArray) : turnS (turnS s) = s := by
  refine pl_ext (by rw [turn_size, turn_size]) fun i hi => ?_
  rw [turn_size, turn_size] at hi
  rw [pl_turn _ (by rw [turn_size]; exact hi), turn_size, pl_turn s (by omega)]
  congr 1
  omega
theorem turn_part {s : ByteArray} {j n : Nat} (h : j + n ≤ s.size) : turnS (s.extract j (j + n)) = (turnS s).extract (s.size - j - n) (s.size - j - n + n) := by
  have hz := pz_size s j n h
  have hz2 := pz_size (turnS s) (s.size - j - n) n (by rw [turn_size]; omega)
  refine pl_ext (by rw [turn_size]; omega) fun i hi => ?_
  rw [turn_size, hz] at hi
  rw [pl_turn _ (by omega), hz, pz_list s j n _ (by omega), pz_list _ _ n i hi, pl_turn s (by omega)]
  congr 1
  omega
theorem pp_turn_in {s x : ByteArray} (h : x ∈ ppL s) : x ∈ ppL (turnS s) := by
  rcases (ppL_mem s x).1 h with e | ⟨j, n, h1, h2, h3, e⟩
  · exact (ppL_mem _ x).2 (.inl e)
  · refine (ppL_mem _ x).2 (.inr ⟨s.size - j - n, n, h1, by rw [turn_size]; omega, ?_, ?_⟩)
    · rw [← turn_part h2, h3]; exact h3
    · rw [← turn_part h2, h3]; exact e
theorem pp_turn (s : ByteArray) : ppL (turnS s) = ppL s :=
  asc_ext (ppTo_asc _ _) (ppTo_asc _ _) fun x => ⟨fun h => by have := pp_turn_in h; rwa [turn_turn] at this, pp_turn_in⟩

/-! ### the longest one -/
theorem lp_is (s : ByteArray) : LpAt s (lpD s) (lpI s) ∧ ∀ d i, LpAt s d i → lpD s ≤ d := by
  have h0 : LpAt s s.size 0 := ⟨Nat.zero_le _, Nat.le_refl _, pal_small (by rw [ByteArray.size_extract]; omega)⟩
  obtain ⟨⟨i, hi⟩, m1⟩ := firstP_spec (P := fun d => ∃ i, LpAt s d i) s.size 0 ⟨s.size, Nat.zero_le _, by omega, 0, h0⟩
  have hi' : LpAt s (lpD s) i := hi
  obtain ⟨m2, _⟩ := firstP_spec (P := LpAt s (lpD s)) s.size 0 ⟨i, Nat.zero_le _, by have := hi'.1; have := hi'.2.1; omega, hi'⟩
  exact ⟨m2, fun d i h => m1 d (Nat.zero_le _) ⟨i, h⟩⟩
theorem pp_longest {s x : ByteArray} (h : x ∈ ppL s) : x.size ≤ s.size - lpD s := by
  rcases (ppL_mem s x).1 h with rfl | ⟨j, n, h1, h2, h3, rfl⟩
  · exact Nat.zero_le _
  · have hz := pz_size s j n h2
    have := (lp_is s).2 (s.size - n) j ⟨by omega, by omega, by rw [show s.size - (s.size - n) = n by omega]; exact h3⟩
    omega

/-! ### closing -/
theorem cl_spec (s : ByteArray) : PalS (s.extract (clK s) s.size) ∧ ∀ j, PalS (s.extract j s.size) → clK s ≤ j := by
  obtain ⟨a, b⟩ := firstP_spec (P := fun k => PalS (s.extract k s.size)) s.size 0 ⟨s.size, Nat.zero_le _, by omega, cl_end s⟩
  exact ⟨a, fun j h => b j (Nat.zero_le _) h⟩
theorem cl_get (s : ByteArray) : (∀ i, i < s.size → (clS s).data.toList[i]? = s.data.toList[i]?) ∧ ∀ i, s.size ≤ i → i < s.size + clK s → (clS s).data.toList[i]? = s.data.toList[s.size + clK s - 1 - i]? := by
  have hk := clK_le s
  have hz : (s.extract 0 (clK s)).size = clK s := by rw [ByteArray.size_extract]; omega
  constructor
  · intro i hi
    unfold clS
    rw [ByteArray.data_append, Array.toList_append, List.getElem?_append_left (by rw [pl_len]; exact hi)]
  · intro i h1 h2
    unfold clS
    rw [ByteArray.data_append, Array.toList_append, List.getElem?_append_right (by rw [pl_len]; exact h1), pl_len, pl_turn _ (by omega), hz]
    have := pz_list s 0 (clK s) (clK s - 1 - (i - s.size)) (by omega)
    rw [Nat.zero_add] at this
    rw [this]
    congr 1
    omega
theorem cl_pal (s : ByteArray) : PalS (clS s) := by
  obtain ⟨g1, g2⟩ := cl_get s
  have hk := clK_le s
  have hp : PalS (s.extract (clK s) (clK s + (s.size - clK s))) := by
    rw [Nat.add_sub_cancel' hk]; exact (cl_spec s).1
  rw [pl_at (by omega)] at hp
  rw [pal_get, clS_size]
  generalize clK s = k at *
  intro i hi
  by_cases h1 : i < s.size
  · by_cases h2 : s.size + k - 1 - i < s.size
    · rw [g1 i h1, g1 _ h2]
      have := hp (i - k) (by omega)
      rw [show k + (i - k) = i by omega] at this
      rw [this]
      congr 1
      omega
    · rw [g1 i h1, g2 _ (by omega) (by omega)]
      congr 1
      omega
  · rw [g2 i (by omega) hi, g1 _ (by omega)]
theorem cl_start (s : ByteArray) : s.data.toList <+: (clS s).data.toList := by
  unfold clS
  rw [ByteArray.data_append, Array.toList_append]
  exact List.prefix_append _ _
theorem cl_self (s : ByteArray) : clS s = s ↔ PalS s := by
  constructor
  · intro h
    have := cl_pal s
    rwa [h] at this
  · intro h
    have h0 : clK s = 0 := by
      have := (cl_spec s).2 0 ((pal_whole s).2 h)
      omega
    refine pl_ext (by rw [clS_size, h0]; rfl) fun i hi => ?_
    rw [clS_size, h0] at hi
    exact (cl_get s).1 i hi
theorem cl_short {s : ByteArray} {n : Nat} (h1 : s.size ≤ n) (h2 : n < s.size + clK s) : ¬ PalS ((clS s).extract 0 n) := by
  intro h
  obtain ⟨g1, g2⟩ := cl_get s
  have hz := clS_size s
  have hk := clK_le s
  have hp := (pl_at (s := clS s) (j := 0) (n := n) (by omega)).1 (by rw [Nat.zero_add]; exact h)
  have : PalS (s.extract (n - s.size) (n - s.size + (2 * s.size - n))) := by
    rw [pl_at (by omega)]
    intro i hi
    have := hp (n - s.size + i) (by omega)
    rw [Nat.zero_add, Nat.zero_add, g1 _ (by omega), g1 _ (by omega)] at this
    rw [this]
    congr 1
    omega
  rw [show n - s.size + (2 * s.size - n) = s.size by omega] at this
  have := (cl_spec s).2 _ this
  omega
end Go.Proofs.Ytnejalefpenbfaa

/- The mathematics of FnPeriods, third part: shifts. No program in it. -/
namespace Go.Proofs.Ytnejalefpenbfaa
open Go.RowKit

theorem rot_size (s : ByteArray) {k : Nat} (hk : k ≤ s.size) : (rotS s k).size = s.size := by
  unfold rotS
  rw [ByteArray.size_append, ByteArray.size_extract, ByteArray.size_extract]
  omega
theorem rot_get (s : ByteArray) {k i : Nat} (hk : k ≤ s.size) (hi : i < s.size) : (rotS s k).data.toList[i]? = s.data.toList[(k + i) % s.size]? := by
  have hl := pl_len s
  rw [rot_list s k hk]
  by_cases h : i < s.size - k
  · rw [List.getElem?_append_left (by rw [List.length_drop, hl]; exact h), List.getElem?_drop, Nat.mod_eq_of_lt (by omega)]
  · rw [List.getElem?_append_right (by rw [List.length_drop, hl]; omega), List.length_drop, hl, List.getElem?_take, if_pos (by omega)]
    congr 1
    rw [Nat.mod_eq_sub_mod (by omega), Nat.mod_eq_of_lt (by omega)]
    omega
theorem rot_rot (s : ByteArray) {k j : Nat} (hk : k ≤ s.size) (hj : j < s.size) : rotS (rotS s k) j = rotS s ((k + j) % s.size) := by
  have hz := rot_size s hk
  have hm : (k + j) % s.size < s.size := Nat.mod_lt _ (by omega)
  refine pl_ext (by rw [rot_size _ (by omega), hz, rot_size s (by omega)]) fun i hi => ?_
  rw [rot_size _ (by omega), hz] at hi
  rw [rot_get _ (by omega) (by omega), hz, rot_get s hk (Nat.mod_lt _ (by omega)), rot_get s (by omega) hi]
  congr 1
  rw [Nat.add_mod_mod, Nat.mod_add_mod, Nat.add_assoc]
theorem rot_zero (s : ByteArray) : rotS s 0 = s := by
  refine pl_ext (rot_size s (Nat.zero_le _)) fun i hi => ?_
  rw [rot_size s (Nat.zero_le _)] at hi
  rw [rot_get s (Nat.zero_le _) hi, Nat.zero_add, Nat.mod_eq_of_lt hi]
/-- the least shift is not behind any other -/
theorem ls_least (s : ByteArray) : ∀ k, ∀ j, j < k → ¬ lessB (rotS s j) (rotS s (lsTo s k)) = true
  | 0, j, h => absurd h (by omega)
  | k + 1, j, h => by
    have ih := ls_least s k
    by_cases hc : lessB (rotS s k) (rotS s (lsTo s k)) = true
    · have e : lsTo s (k + 1) = k := if_pos hc
      rw [e]
      by_cases hj : j = k
      · subst hj; exact less_self _
      · intro hh
        exact ih j (by omega) (less_trans hh hc)
    · have e : lsTo s (k + 1) = lsTo s k := if_neg hc
      rw [e]
      by_cases hj : j = k
      · subst hj; exact hc
      · exact ih j (by omega)
theorem ls_lt {s : ByteArray} (h : 1 ≤ s.size) : lsTo s s.size < s.size := by
  have : ∀ k, 1 ≤ k → lsTo s k < k := by
    intro k
    induction k with
    | zero => intro hk; omega
    | succ k ih =>
      intro _
      by_cases hc : lessB (rotS s k) (rotS s (lsTo s k)) = true
      · have e : lsTo s (k + 1) = k := if_pos hc
        omega
      · have e : lsTo s (k + 1) = lsTo s k := if_neg hc
        have := lsTo_lt s k
        omega
  exact this _ h
/-- two shifts of a word that is no power part -/
theorem rot_part {s : ByteArray} (h : 1 ≤ s.size) (hr : rtN s = s.size) {a b : Nat} (hab : a < b) (hb : b < s.size) : rotS s a ≠ rotS s b := fun he => by
  have hall : ∀ i, s.data.toList[(a + i) % s.size]? = s.data.toList[(b + i) % s.size]? := fun i => by
    have hm : i % s.size < s.size := Nat.mod_lt _ (by omega)
    have h1 := rot_get s (k := a) (i := i % s.size) (by omega) hm
    have h2 := rot_get s (k := b) (i := i % s.size) (by omega) hm
    rw [Nat.add_mod_mod] at h1 h2
    rw [← h1, ← h2, he]
  let f : Nat → Option UInt8 := fun i => s.data.toList[i % s.size]?
  have hp : PdF f (s.size + (b - a)) (b - a) := fun i _ => by
    have := hall (i + (s.size - a))
    show s.data.toList[i % s.size]? = s.data.toList[(i + (b - a)) % s.size]?
    rw [show a + (i + (s.size - a)) = i + s.size by omega, Nat.add_mod_right, show b + (i + (s.size - a)) = i + (b - a) + s.size by omega, Nat.add_mod_right] at this
    exact this
  have hq : PdF f (s.size + (b - a)) s.size := fun i _ => by
    show s.data.toList[i % s.size]? = s.data.toList[(i + s.size) % s.size]?
    rw [Nat.add_mod_right]
  have hg := fine_wilf f ((b - a) + s.size) (b - a) s.size (s.size + (b - a)) (Nat.le_refl _) (by omega) h (by omega) hp hq
  have hgd : Nat.gcd (b - a) s.size ∣ s.size := Nat.gcd_dvd_right _ _
  have hgl : Nat.gcd (b - a) s.size ≤ b - a := Nat.le_of_dvd (by omega) (Nat.gcd_dvd_left _ _)
  have hg1 : 1 ≤ Nat.gcd (b - a) s.size := Nat.gcd_pos_of_pos_left _ (by omega)
  have hper : PerAt s (Nat.gcd (b - a) s.size) := fun i hi => by
    have := hg i (by omega)
    have this : s.data.toList[i % s.size]? = s.data.toList[(i + Nat.gcd (b - a) s.size) % s.size]? := this
    rwa [Nat.mod_eq_of_lt (by omega), Nat.mod_eq_of_lt hi] at this
  have := (rt_spec h).2.2.2 _ hg1 ⟨Nat.mod_eq_zero_of_dvd hgd, hper⟩
  omega
/-- a power is one of its own shifts -/
theorem rot_power {s : ByteArray} (h : 1 ≤ s.size) (hr : rtN s < s.size) {k : Nat} (hk : k < s.size) : rotS (rotS s k) (rtN s) = rotS s k := by
  obtain ⟨⟨a1, a2⟩, b, c, _⟩ := rt_spec h
  have hd : rtN s ∣ s.size := Nat.dvd_of_mod_eq_zero a1
  rw [rot_rot s (by omega) hr]
  have hm : (k + rtN s) % s.size < s.size := Nat.mod_lt _ (by omega)
  refine pl_ext (by rw [rot_size s (by omega), rot_size s (by omega)]) fun i hi => ?_
  rw [rot_size s (by omega)] at hi
  rw [rot_get s (by omega) hi, rot_get s (by omega) hi, Nat.mod_add_mod, per_mod a2 _ (Nat.mod_lt _ (by omega)), per_mod a2 ((k + i) % s.size) (Nat.mod_lt _ (by omega)), Nat.mod_mod_of_dvd _ hd, Nat.mod_mod_of_dvd _ hd]
  congr 1
  rw [show k + rtN s + i = k + i + rtN s by omega, Nat.add_mod_right]
/-- the least shift is a Lyndon word exactly if the word is no power -/
theorem ls_lyn {s : ByteArray} (h : 1 ≤ s.size) : LynAt (rotS s (lsTo s s.size)) ↔ rtN s = s.size := by
  have hk := ls_lt h
  have hl := ls_least s s.size
  generalize lsTo s s.size = k at *
  have hz := rot_size s (k := k) (by omega)
  obtain ⟨_, b, c, _⟩ := rt_spec h
  constructor
  · intro hL
    by_cases hr : rtN s < s.size
    · exfalso
      have := hL.2 (rtN s) b (by rw [hz]; exact hr)
      rw [rot_power h hr hk] at this
      exact less_self _ this
    · omega
  · intro hr
    refine ⟨by omega, fun j h1 h2 => ?_⟩
    rw [hz] at h2
    rw [rot_rot s (by omega) h2]
    have hm : (k + j) % s.size < s.size := Nat.mod_lt _ (by omega)
    have hne : (k + j) % s.size ≠ k := fun e => by
      by_cases hc : k + j < s.size
      · rw [Nat.mod_eq_of_lt hc] at e; omega
      · rw [Nat.mod_eq_sub_mod (by omega), Nat.mod_eq_of_lt (by omega)] at e; omega
    rcases less_tri (rotS s k) (rotS s ((k + j) % s.size)) with q | q | q
    · exact q
    · exfalso
      by_cases hlt : k < (k + j) % s.size
      · exact rot_part h hr hlt hm q
      · exact rot_part h hr (by omega) hk q.symm
    · exact absurd q (hl _ hm)
end Go.Proofs.Ytnejalefpenbfaa

/- The mathematics of FnPeriods, fourth part: the parts make the word. No program in it. -/
namespace Go.Proofs.Ytnejalefpenbfaa
open Go.RowKit

/-- one text of many -/
def flatB : List ByteArray → ByteArray
  | [] => ⟨#[]⟩
  | x :: l => x ++ flatB l
theorem cut_app (s : ByteArray) {i n : Nat} (h : i + n ≤ s.size) : s.extract i (i + n) ++ s.extract (i + n) s.size = s.extract i s.size := by
  have h1 : s.extract i s.size = s.extract i (i + (s.size - i)) := by rw [Nat.add_sub_cancel' (by omega)]
  have h2 : s.extract (i + n) s.size = s.extract (i + n) (i + n + (s.size - (i + n))) := by rw [Nat.add_sub_cancel' h]
  apply bytes_ext
  rw [ByteArray.toList_eq, ByteArray.toList_eq, ByteArray.data_append, Array.toList_append, h1, h2, part_list, part_list, part_list, ← List.drop_drop]
  rw [show s.size - i = n + (s.size - (i + n)) by omega, List.take_add]
theorem lyTo_spec (s : ByteArray) : ∀ f i, i ≤ s.size → s.size ≤ i + f → flatB (lyTo s i f) = s.extract i s.size ∧ (∀ x ∈ lyTo s i f, LynAt x)
  | 0, i, h1, h2 => by
    have : i = s.size := by omega
    subst this
    refine ⟨?_, fun x hx => by cases hx⟩
    exact (pl_zero (by rw [ByteArray.size_extract]; omega)).symm
  | f + 1, i, h1, h2 => by
    by_cases hi : i < s.size
    · have e : lyTo s i (f + 1) = s.extract i (i + lyLen s i (s.size - i)) :: lyTo s (i + lyLen s i (s.size - i)) f := if_pos hi
      have hp := lyLen_pos hi
      have hl := lyLen_le s i (s.size - i)
      have hL := (lyLen_spec s i (s.size - i)).1 hp
      rw [e]
      generalize lyLen s i (s.size - i) = n at *
      obtain ⟨a, b⟩ := lyTo_spec s f (i + n) (by omega) (by omega)
      refine ⟨?_, fun x hx => ?_⟩
      · show s.extract i (i + n) ++ flatB (lyTo s (i + n) f) = _
        rw [a]
        exact cut_app s (by omega)
      · rcases List.mem_cons.1 hx with rfl | hx
        · exact hL
        · exact b x hx
    · have e : lyTo s i (f + 1) = [] := if_neg hi
      have : i = s.size := by omega
      rw [e]
      subst this
      refine ⟨?_, fun x hx => by cases hx⟩
      exact (pl_zero (by rw [ByteArray.size_extract]; omega)).symm
/-- no part comes behind the one before it -/
theorem lyTo_down (s : ByteArray) : ∀ f i, i ≤ s.size → s.size ≤ i + f → ∀ q (h : q + 1 < (lyTo s i f).length), ¬ lessB (lyTo s i f)[q] (lyTo s i f)[q + 1] = true
  | 0, i, h1, h2 => fun q h => by have h : q + 1 < 0 := h; omega
  | f + 1, i, h1, h2 => fun q h => by
    by_cases hi : i < s.size
    · have e : lyTo s i (f + 1) = s.extract i (i + lyLen s i (s.size - i)) :: lyTo s (i + lyLen s i (s.size - i)) f := if_pos hi
      have hp := lyLen_pos hi
      have hl := lyLen_le s i (s.size - i)
      have hd := fun m a b c => ly_down (s := s) (i := i) (m := m) hi a b c
      simp only [e] at h ⊢
      generalize hn : lyLen s i (s.size - i) = n at *
      rcases q with _ | q
      · rw [List.getElem_cons_zero, List.getElem_cons_succ]
        rw [List.length_cons] at h
        by_cases hi2 : i + n < s.size
        · obtain ⟨f', rfl⟩ : ∃ f', f = f' + 1 := ⟨f - 1, by omega⟩
          have e2 : lyTo s (i + n) (f' + 1) = s.extract (i + n) (i + n + lyLen s (i + n) (s.size - (i + n))) :: lyTo s (i + n + lyLen s (i + n) (s.size - (i + n))) f' := if_pos hi2
          have hp2 := lyLen_pos hi2
          have hl2 := lyLen_le s (i + n) (s.size - (i + n))
          have hL2 := (lyLen_spec s (i + n) (s.size - (i + n))).1 hp2
          simp only [e2, List.getElem_cons_zero]
          exact hd _ hp2 (by omega) hL2
        · exfalso
          have e2 : lyTo s (i + n) f = [] := by
            cases f with
            | zero => rfl
            | succ f => exact if_neg hi2
          rw [e2] at h
          simp at h
      · rw [List.length_cons] at h
        exact lyTo_down s f (i + n) (by omega) (by omega) q (by omega)
    · exfalso
      have e : lyTo s i (f + 1) = [] := if_neg hi
      rw [e] at h
      simp at h
theorem lyTo_one {s : ByteArray} (h : 1 ≤ s.size) : (lyTo s 0 s.size).length = 1 ↔ LynAt s := by
  obtain ⟨f, hf⟩ : ∃ f, s.size = f + 1 := ⟨s.size - 1, by omega⟩
  have e : lyTo s 0 (f + 1) = s.extract 0 (0 + lyLen s 0 (s.size - 0)) :: lyTo s (0 + lyLen s 0 (s.size - 0)) f := if_pos (by omega)
  have hp := lyLen_pos (s := s) (i := 0) (by omega)
  have hl := lyLen_le s 0 (s.size - 0)
  have hs := lyLen_spec s 0 (s.size - 0)
  have hw : s.extract 0 s.size = s := by
    refine pl_ext (by rw [ByteArray.size_extract]; omega) fun i hi => ?_
    rw [ByteArray.size_extract] at hi
    have := pz_list s 0 s.size i (by omega)
    rwa [Nat.zero_add, Nat.zero_add] at this
  rw [show lyTo s 0 s.size = lyTo s 0 (f + 1) by rw [hf], e, List.length_cons]
  rw [Nat.zero_add] at *
  rw [Nat.sub_zero] at *
  constructor
  · intro h1
    have h2 : lyTo s (lyLen s 0 s.size) f = [] := List.eq_nil_of_length_eq_zero (by omega)
    have h3 : lyLen s 0 s.size = s.size := by
      by_cases hlt : lyLen s 0 s.size < s.size
      · obtain ⟨f', rfl⟩ : ∃ f', f = f' + 1 := ⟨f - 1, by omega⟩
        have e2 : lyTo s (lyLen s 0 s.size) (f' + 1) = _ :: _ := if_pos hlt
        rw [e2] at h2
        cases h2
      · omega
    have := hs.1 hp
    rwa [h3, hw] at this
  · intro hL
    have h3 : lyLen s 0 s.size = s.size := by
      by_cases hlt : lyLen s 0 s.size < s.size
      · exact absurd (by rw [Nat.zero_add, hw]; exact hL) (hs.2 s.size hlt (Nat.le_refl _))
      · omega
    have h2 : lyTo s (lyLen s 0 s.size) f = [] := by
      rw [h3]
      cases f with
      | zero => rfl
      | succ f => exact if_neg (by omega)
    rw [h2]
    rfl
end Go.Proofs.Ytnejalefpenbfaa

/- The mathematics of FnPeriods, fifth part: how many Lyndon words there are, reckoned for small numbers. No program in it. -/
namespace Go.Proofs.Ytnejalefpenbfaa
open Go.RowKit

/-- the sum of those of l at the divisors of m among 1 .. k -/
def prSum (l : List Int) (m : Nat) : Nat → Int
  | 0 => 0
  | d + 1 => prSum l m d + if m % (d + 1) = 0 then l.getD (d + 1) 0 else 0
/-- how many words of 0 .. m letters are no powers -/
def prT (L : Nat) : Nat → List Int
  | 0 => [0]
  | m + 1 => prT L m ++ [(L : Int) ^ (m + 1) - prSum (prT L m) (m + 1) m]
def clyOk (a b : Int) : Bool := (decide (1 ≤ a) && decide (a ≤ 4)) && (decide (1 ≤ b) && decide (b ≤ 12))
/-- what CountLyndon is to return -/
def clyR (a b : Int) : Int := if clyOk a b = true then ((prT a.toNat b.toNat).getD b.toNat 0).tdiv b else -1
/-- a Lyndon word, reckoned -/
def lyC (w : List UInt8) : Bool := !w.isEmpty && (List.range w.length).all fun k => decide (k = 0) || Op.bytesLess w (w.drop k ++ w.take k)
theorem lyC_eq (s : ByteArray) : lyB s = lyC s.data.toList := by
  have hl := pl_len s
  rw [Bool.eq_iff_iff, lyB_iff]
  unfold lyC LynAt
  rw [Bool.and_eq_true, Bool.not_eq_true', List.isEmpty_eq_false_iff, List.all_eq_true, hl]
  constructor
  · rintro ⟨h1, h2⟩
    refine ⟨fun hh => by rw [hh] at hl; simp at hl; omega, fun k hk => ?_⟩
    rw [List.mem_range] at hk
    by_cases h0 : k = 0
    · rw [decide_eq_true h0, Bool.true_or]
    · have := h2 k (by omega) hk
      unfold lessB at this
      rw [ByteArray.toList_eq, ByteArray.toList_eq, rot_list s k (by omega)] at this
      rw [this, Bool.or_true]
  · rintro ⟨h1, h2⟩
    have := List.length_pos_iff.2 h1
    refine ⟨by omega, fun k h3 h4 => ?_⟩
    have := h2 k (List.mem_range.2 h4)
    rw [decide_eq_false (by omega), Bool.false_or] at this
    unfold lessB
    rw [ByteArray.toList_eq, ByteArray.toList_eq, rot_list s k (by omega)]
    exact this
/-- all words of m of the first L letters -/
def allW (L : Nat) : Nat → List (List UInt8)
  | 0 => [[]]
  | m + 1 => (allW L m).flatMap fun w => (List.range L).map fun j => w ++ [letterN j]
theorem cly_small : ∀ L ∈ [1, 2, 3], ∀ m ∈ [1, 2, 3, 4], clyR (L : Nat) (m : Nat) = (((allW L m).filter lyC).length : Int) := by decide +kernel
theorem cly_range : ∀ L ∈ [1, 2, 3, 4], ∀ m ∈ [1, 2, 3, 4, 5, 6, 7, 8, 9, 10, 11, 12], 0 ≤ clyR (L : Nat) (m : Nat) ∧ clyR (L : Nat) (m : Nat) ≤ 16777216 := by decide +kernel
end Go.Proofs.Ytnejalefpenbfaa
