/- Slices of slices of ints that the call has made: toIntSS copies, szIntSS bounds. -/
import Derived.Test.YtgidfainoijcmaaMat
namespace Go.Proofs.Ytgidfainoijcmaa
open Go.RowKit

/-- v is a slice of the call's own, in blocks from B to S, whose elements are rows of the call's own, each by itself -/
def OwnMat (w : World) (B S : Nat) (v : Value) (m : List (List Int)) : Prop :=
  ∃ (t0 : TypeId) (vs : List Value), vs.length = m.length ∧ w.ownsRow B t0 1 v m.length vs ∧
    (∀ i (h : i < vs.length) (h' : i < m.length), ∃ te, w.ownsRow B te 1 vs[i] m[i].length (ints m[i])) ∧
    (∀ i j (hi : i < vs.length) (hj : j < vs.length) k, vs[i].ownBlock = some k → vs[j].ownBlock = some k → i = j) ∧
    (∀ i (hi : i < vs.length) k, vs[i].ownBlock = some k → v.ownBlock ≠ some k ∧ k < S) ∧ (∀ k, v.ownBlock = some k → k < S)
theorem OwnMat.mat {w : World} {B S : Nat} {v : Value} {m : List (List Int)} (h : OwnMat w B S v m) : Mat w v m := by
  obtain ⟨t0, vs, h1, h2, h3, _⟩ := h
  exact ⟨vs, Lst.of_own h2, h1, fun i a b => by obtain ⟨te, h⟩ := h3 i a b; exact Lst.of_own h⟩
theorem OwnMat.below {w w' : World} {B S : Nat} {v : Value} {m : List (List Int)} (h : OwnMat w B S v m) (hb : Below w.heap.size w w') : OwnMat w' B S v m := by
  obtain ⟨t0, vs, h1, h2, h3, h4⟩ := h
  exact ⟨t0, vs, h1, own_below h2 hb, fun i a b => by obtain ⟨te, h⟩ := h3 i a b; exact ⟨te, own_below h hb⟩, h4⟩
theorem OwnMat.drewN {w : World} {B S : Nat} {v : Value} {m : List (List Int)} (h : OwnMat w B S v m) (n : Nat) : OwnMat (w.drewN n) B S v m := h
theorem OwnMat.mono {w : World} {B B' S : Nat} {v : Value} {m : List (List Int)} (h : OwnMat w B S v m) (hb : B' ≤ B) : OwnMat w B' S v m := by
  obtain ⟨t0, vs, h1, h2, h3, h4⟩ := h
  exact ⟨t0, vs, h1, own_mono h2 hb, fun i a b => by obtain ⟨te, h⟩ := h3 i a b; exact ⟨te, own_mono h hb⟩, h4⟩
theorem ints_info : (Try.prog.info? 30).map (fun i => (i.zero, i.size, i.bytes)) = some (some (.slice none 0 0), 1, 24) := by kernel_rfl

/-- the rows that have been laid -/
def RowsTo (w : World) (B : Nat) (us : List Value) (m : List (List Int)) : Prop :=
  us.length ≤ m.length ∧ (∀ i (h : i < us.length) (h' : i < m.length), w.ownsRow B 3 1 us[i] m[i].length (ints m[i])) ∧
    (∀ i j (hi : i < us.length) (hj : j < us.length) k, us[i].ownBlock = some k → us[j].ownBlock = some k → i = j)
theorem RowsTo.snoc {w w' : World} {B : Nat} {us : List Value} {m : List (List Int)} {u : Value} (h : RowsTo w B us m) (hb : Below w.heap.size w w') (hB : B ≤ w.heap.size) (hk : us.length < m.length) (hu : w'.ownsRow w.heap.size 3 1 u m[us.length].length (ints m[us.length])) : RowsTo w' B (us ++ [u]) m := by
  obtain ⟨h1, h2, h3⟩ := h
  have hlt : ∀ i (hi : i < us.length) k, us[i].ownBlock = some k → k < w.heap.size := fun i hi k hk => ((h2 i hi (by omega)).lt k hk).2
  refine ⟨by simp; omega, fun i hi hi' => ?_, fun i j hi hj k e1 e2 => ?_⟩
  · by_cases e : i < us.length
    · rw [List.getElem_append_left e]
      exact own_below (h2 i e hi') hb
    · have e' : i = us.length := by simp at hi; omega
      subst e'
      rw [List.getElem_append_right (Nat.le_refl _)]
      simpa using own_mono hu hB
  · by_cases a : i < us.length <;> by_cases b : j < us.length
    · rw [List.getElem_append_left a] at e1
      rw [List.getElem_append_left b] at e2
      exact h3 i j a b k e1 e2
    · rw [List.getElem_append_left a] at e1
      rw [List.getElem_append_right (by omega)] at e2
      have := hlt i a k e1
      simp at e2
      have := (hu.lt k e2).1
      omega
    · rw [List.getElem_append_right (by omega)] at e1
      rw [List.getElem_append_left b] at e2
      have := hlt j b k e2
      simp at e1
      have := (hu.lt k e1).1
      omega
    · simp at hi hj
      omega
theorem RowsTo.below {w w' : World} {B : Nat} {us : List Value} {m : List (List Int)} (h : RowsTo w B us m) (hb : Below w.heap.size w w') : RowsTo w' B us m :=
  ⟨h.1, fun i a b => own_below (h.2.1 i a b) hb, h.2.2⟩
theorem RowsTo.setCell {w : World} {B : Nat} {us : List Value} {m : List (List Int)} (h : RowsTo w B us m) {a : Addr} (ha : a.block < B) (u : Value) : RowsTo (w.setCell a u) B us m :=
  ⟨h.1, fun i x y => own_setCell (h.2.1 i x y) ha u, h.2.2⟩

set_option maxHeartbeats 1000000 in
theorem toIntSS_any (m : List (List Int)) (v : Value) (w : World) (h1 : Mat w v m) (hn : m.length ≤ 1048576) (hr : ∀ r ∈ m, r.length ≤ 1048576) :
    Calls Try.prog 45 #[v] w fun e w' => ∃ v', e = .returned v' ∧ OwnMat w' w.heap.size w'.heap.size v' m ∧ Below w.heap.size w w' := by
  obtain ⟨i0, hi0, hz0, hz1, hz2⟩ := info_parts ints_info
  obtain ⟨A, cp, rfl⟩ := mat_slice h1
  have HM := Lib.hid h1
  have HR := Lib.hid hr
  clear h1 hr
  go_enter Try.func45, Try.ntmps45
  go_wp2_with (at_make; refine wpList_make_full _ rfl _ _ 27 rfl w.heap.size 30 i0 (.slice none 0 0) 1 Try.underlying27 hi0 hz0 hz1 .i64 .i64 _ _ m.length rfl rfl rfl rfl (by rw [hz2]; omega) (by unfold maxLen; omega) (Nat.le_refl _) ?_; intro w1 hown hgrow)
  have hb1 : Below w.heap.size w w1 := (Below.refl _ _).grown hgrow (Nat.le_refl _) (fun k hk => by cases hk)
  have HD : Hid (((madeCells (Value.slice none 0 0).cells (m.length * 1)).toList).length = m.length) := by
    have := hown.1
    unfold Hid
    omega
  generalize (madeCells (Value.slice none 0 0).cells (m.length * 1)).toList = zs at hown HD
  have hz1' : w.heap.size + 1 ≤ w1.heap.size := by have := (hown.lt w.heap.size rfl).2; omega
  go_loopw [4] (fun i w' => ∃ (us : List Value), us.length ≤ m.length ∧ i = .int .i64 us.length ∧ w'.ownsRow w.heap.size 30 1 (.slice (some ⟨w.heap.size, 0, none⟩) m.length m.length) m.length (us ++ zs.drop us.length) ∧ RowsTo w' (w.heap.size + 1) us m ∧ Below w.heap.size w w' ∧ w.heap.size + 1 ≤ w'.heap.size) (fun i _ => m.length - (intOf i).toNat)
  case atStart => exact ⟨[], by simp, rfl, by simpa using hown, ⟨by simp, fun i h => absurd h (by simp), fun i j h => absurd h (by simp)⟩, hb1, hz1'⟩
  case round =>
    obtain ⟨us, hk, rfl, ho, hrw, hbk, hzk⟩ := hrel
    by_cases hlt : us.length < m.length
    · obtain ⟨b, off, cap, he, _, _, hrows⟩ := mat_rows (HM.out.below hbk) (by omega)
      injection he with hA _ hc
      subst hA; subst hc
      obtain ⟨u, g1, lu⟩ := hrows us.length hlt
      have hrl := HR.out _ (List.getElem_mem hlt)
      have HO := Lib.hid ho
      have HW := Lib.hid hrw
      have HB := Lib.hid hbk
      have HL := Lib.hid lu
      have hcell : ∃ u0, (us ++ zs.drop us.length)[us.length]? = some u0 := ⟨(us ++ zs.drop us.length)[us.length]'(by rw [List.length_append, List.length_drop, HD.out]; omega), List.getElem?_eq_getElem _⟩
      obtain ⟨u0, hu0⟩ := hcell
      have HC0 : Hid (wr.cell? ⟨w.heap.size, us.length, none⟩ = some u0) := (ho.cellAt us.length (by omega)).trans hu0
      have HF0 : Hid (wr.frozen? ⟨w.heap.size, us.length, none⟩ = false) := ho.frozenAt us.length
      clear ho hrw hbk lu hrows hu0
      go_wp2_with fail
      refine (toIntS_any m[us.length] u _ HL.out hrl).mono ?_
      rintro e w2 ⟨v2, rfl, ho2, hb2⟩
      obtain ⟨A2, cp2, rfl⟩ := own_slice ho2
      have c2 : w2.cell? ⟨w.heap.size, us.length, none⟩ = some u0 := (hb2.cell (p := ⟨w.heap.size, us.length, none⟩) (by simp; omega)).trans HC0.out
      have f2 : w2.frozen? ⟨w.heap.size, us.length, none⟩ = false := (hb2.frozen (p := ⟨w.heap.size, us.length, none⟩) (by simp; omega)).trans HF0.out
      have HO2 := Lib.hid ho2
      have HB2 := Lib.hid hb2
      have hz2' := hb2.size
      clear ho2 hb2
      go_wp2_with fail
      go_roundw
      case rel =>
        have hset : (us ++ zs.drop us.length).set us.length (.slice A2 m[us.length].length cp2) = (us ++ [.slice A2 m[us.length].length cp2]) ++ zs.drop (us.length + 1) := by
          have hd : zs.drop us.length = zs[us.length]'(by rw [HD.out]; exact hlt) :: zs.drop (us.length + 1) := List.drop_eq_getElem_cons _
          rw [hd, List.set_append_right _ _ (Nat.le_refl _), Nat.sub_self, List.set_cons_zero, List.append_assoc]
          rfl
        refine ⟨us ++ [.slice A2 m[us.length].length cp2], by simp; omega, by simp, ?_, ?_, ?_, ?_⟩
        · have := ((own_below HO.out HB2.out).stored us.length (.slice A2 m[us.length].length cp2)).1
          rw [hset] at this
          simpa using this
        · exact (HW.out.snoc HB2.out hzk hlt HO2.out).setCell (by simp) _
        · exact (HB.out.trans (HB2.out.mono (by omega))).setCell (by simp) _
        · simp; omega
      case measure => simp [intOf]; omega
    · have hkl : us.length = m.length := by omega
      have HO := Lib.hid ho
      have HW := Lib.hid hrw
      have HB := Lib.hid hbk
      have HKL := Lib.hid hkl
      clear ho hrw hbk hkl
      go_wp2_with fail
      go_ret
      refine ⟨_, rfl, ⟨30, us, HKL.out, ?_, fun i a b => ⟨3, own_mono (HW.out.2.1 i a b) (by omega)⟩, HW.out.2.2, fun i a k e => ⟨fun h => ?_, ((HW.out.2.1 i a (by omega)).lt k e).2⟩, fun k e => (HO.out.lt k e).2⟩, HB.out⟩
      · have := HO.out
        rwa [HKL.out, List.drop_of_length_le (by rw [HD.out]; exact Nat.le_refl _), List.append_nil] at this
      · have h1 := ((HW.out.2.1 i a (by omega)).lt k e).1
        have h2 : w.heap.size = k := by simpa [Value.ownBlock] using h
        omega
end Go.Proofs.Ytgidfainoijcmaa
