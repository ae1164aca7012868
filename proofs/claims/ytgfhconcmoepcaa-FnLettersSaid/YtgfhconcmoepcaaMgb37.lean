/- Texts put together. -/
import Derived.Test.YtgfhconcmoepcaaMgb36
import Derived.Test.YtgfhconcmoepcaaMgb11
import Derived.Test.YtgfhconcmoepcaaMgb2
import Derived.Test.YtgfhconcmoepcaaMgb19
/- starts and sum of the laws. -/
namespace Go.Proofs.Ytgfhconcmoepcaa
open Go.RowKit
set_option maxHeartbeats 400000 in
theorem sumC (cs : List Int) (v : Value) (w : World) (h : Lst w v (ints cs)) (h4 : cs.length ≤ 4) (hs : ∀ k, k < cs.length → 0 ≤ cs.getD k 0 ∧ cs.getD k 0 ≤ 1000000000000) :
    Calls Try.prog 32 #[v] w fun e w' => e = .returned (.int .i64 (isum cs cs.length)) ∧ w = w' := by
  obtain ⟨A, c, rfl, hc1, hc2, h1⟩ := h
  rw [ints_length] at hc1 ⊢
  have HSM := Lib.hid hs
  have HIB := Lib.hid (isum_bound hs)
  have HAT : Hid (∀ k, k < cs.length → ∃ b off, A = some ⟨b, off, none⟩ ∧ w.cell? ⟨b, off + k, none⟩ = some (.int .i64 (cs.getD k 0))) := fun k hk => by
    rcases h1 with h1 | ⟨b, off, e, h1⟩
    · have := congrArg List.length h1
      rw [ints_length, List.length_nil] at this
      omega
    · refine ⟨b, off, e, ?_⟩
      rw [ints_at h1 k hk, List.getD_eq_getElem?_getD, List.getElem?_eq_getElem hk]
      rfl
  clear h1 hs
  go_enter Try.func32, Try.ntmps32
  go_wp2_with fail
  go_loop [3, 8] (fun s i => ∃ k : Nat, k ≤ cs.length ∧ i = .int .i64 k ∧ s = .int .i64 (isum cs k)) (fun _ i => cs.length - (intOf i).toNat)
  case atStart => exact ⟨0, by omega, rfl, rfl⟩
  case round =>
    obtain ⟨k, hk, rfl, rfl⟩ := hrel
    obtain ⟨t1, t2⟩ := HIB.out k hk
    by_cases hlt : k < cs.length
    · obtain ⟨b, off, rfl, g⟩ := HAT.out k hlt
      obtain ⟨s1, s2⟩ := HSM.out k hlt
      have HN : Hid (isum cs (k + 1) = isum cs k + cs.getD k 0) := rfl
      generalize cs.getD k 0 = x at g s1 s2 HN
      go_wp2_with fail
      go_round
      case rel => exact ⟨k + 1, by omega, by go_num, by rw [HN.out]⟩
      case measure => simp [intOf]; omega
    · have hkl : k = cs.length := by omega
      have HE : Hid (isum cs k = isum cs cs.length) := by show isum cs k = _; rw [hkl]
      clear hkl
      go_wp2_with fail
      go_ret
      exact ⟨ret_int HE.out, rfl⟩
theorem long_cell {l : List ByteArray} (hl : substB l = true) (hg : growB l 0 = true) (i : Nat) (hi : i < 400) (w : World) :
    (Instr.slice 9 (.string (fxS l 400)) (some (.int .i64 (i : Int))) (some (.int .i64 ((i : Int) + 1))) none).run Try.prog w = .ok (.string (latR l aS i)) w := by
  have hs := fxS_size hl hg 400
  rw [fx_lat hl hg hi, run_slice_string (P := Try.prog) w 9 (fxS l 400) .i64 .i64 (i : Int) ((i : Int) + 1) Try.underlying9 (by omega) (by omega) (by omega)]
  have e1 : ((i : Int)).toNat = i := by omega
  have e2 : ((i : Int) + 1).toNat = i + 1 := by omega
  rw [e1, e2]
theorem ev_longCell {l : List ByteArray} (hl : substB l = true) (hg : growB l 0 = true) {a : ByteArray} (ha : a = aS) (i : Nat) (hi : i < 400) (w : World) :
    (Instr.slice 9 (.string (fxS l 400)) (some (.int .i64 (i : Int))) (some (.int .i64 ((i : Int) + 1))) none).run Try.prog w = .ok (.string (latR l a i)) w := by
  subst ha
  exact long_cell hl hg i hi w
theorem ev_ints_at {w : World} {A : Option Addr} {n c : Nat} {cs : List Int} (h : Lst w (.slice A n c) (ints cs)) (h0 : 0 < cs.length) : ∃ b off, A = some ⟨b, off, none⟩ ∧ ∀ j, j < cs.length → w.cell? ⟨b, off + j, none⟩ = some (.int .i64 (cs.getD j 0)) := by
  obtain ⟨A', c', he, _, _, h1⟩ := h
  injection he with hA hn hc
  subst hA
  replace h1 := h1.resolve_left (by
    intro e
    have := congrArg List.length e
    rw [ints_length] at this
    simp only [List.length_nil] at this
    omega)
  obtain ⟨b, off, rfl, h1⟩ := h1
  refine ⟨b, off, rfl, fun j hj => ?_⟩
  rw [List.getD_eq_getElem?_getD, List.getElem?_eq_getElem hj]
  exact ints_at h1 j hj
end Go.Proofs.Ytgfhconcmoepcaa

/- laws.has: whether a number is in a list. -/
namespace Go.Proofs.Ytgfhconcmoepcaa
open Go.RowKit

set_option maxHeartbeats 400000 in
theorem hasC (l : List Int) (v : Value) (x : Int) (w : World) (h : Lst w v (ints l)) :
    Calls Try.prog 38 #[v, .int .i64 x] w fun e w' => e = .returned (.bool (decide (x ∈ l))) ∧ w = w' := by
  obtain ⟨A, c, rfl, hc1, hc2, h1⟩ := h
  rw [ints_length] at hc1 ⊢
  unfold maxLen at hc2
  by_cases hl : l = []
  · subst hl
    go_enter Try.func38, Try.ntmps38
    go_wp2
    refine wp_loop_rounds 1 ?_
    rw [rounds_succ]
    go_wp2
    go_ret
    exact ⟨rfl, rfl⟩
  obtain ⟨b, off, rfl, h2⟩ := h1.resolve_left (by simp [ints, hl])
  have H1 := Lib.hid (ints_at h2)
  have HNO : Hid (∀ k, k = l.length → (∀ j (hj : j < l.length), j < k → l[j] ≠ x) → decide (x ∈ l) = false) := fun k hk hno => by
    subst hk
    refine decide_eq_false fun hx => ?_
    obtain ⟨j, hj, e⟩ := List.getElem_of_mem hx
    exact hno j hj hj e
  have HYES : Hid (∀ k (hk : k < l.length), l[k] = x → decide (x ∈ l) = true) := fun k hk e => decide_eq_true (by rw [← e]; exact List.getElem_mem hk)
  generalize decide (x ∈ l) = r at HNO HYES ⊢
  clear h1 h2 hl
  go_enter Try.func38, Try.ntmps38
  go_wp2
  go_loop [9] (fun i => ∃ k : Nat, k ≤ l.length ∧ i = .int .i64 (k : Int) ∧ ∀ j (hj : j < l.length), j < k → l[j] ≠ x) (fun i => l.length - (intOf i).toNat)
  case atStart => exact ⟨0, by omega, rfl, fun j hj h => absurd h (by omega)⟩
  case round =>
    obtain ⟨k, hk, rfl, hno⟩ := hrel
    have HN := Lib.hid hno
    clear hno
    by_cases hlt : k < l.length
    · have g1 := H1.out k hlt
      obtain ⟨u, hu⟩ : ∃ u, l[k]'hlt = u := ⟨_, rfl⟩
      have HU := Lib.hid hu
      rw [hu] at g1
      clear hu
      by_cases he : u = x
      · have HR := Lib.hid (HYES.out k hlt (HU.out.trans he))
        have b1 : (u == x) = true := by simpa using he
        clear he
        go_wp2_with fail
        go_ret
        exact ⟨ret_bool HR.out.symm, rfl⟩
      · have b1 : (u == x) = false := by simpa using he
        have HE := Lib.hid he
        clear he
        go_wp2_with fail
        go_round
        case rel => exact ⟨k + 1, by omega, by go_num, fun j hj h => by
          by_cases e : j = k
          · subst e; rw [HU.out]; exact HE.out
          · exact HN.out j hj (by omega)⟩
        case measure => simp [intOf]; omega
    · have HR := Lib.hid (HNO.out k (by omega) HN.out)
      go_wp2_with fail
      go_ret
      exact ⟨ret_bool HR.out.symm, rfl⟩
end Go.Proofs.Ytgfhconcmoepcaa

/- The mathematics of FnLetters, second part: places, common beginnings. No program in it. -/
namespace Go.Proofs.Ytgfhconcmoepcaa
open Go.RowKit

theorem lcp_spec : ∀ l m : List UInt8, (lcp l m ≤ l.length ∧ lcp l m ≤ m.length) ∧ l.take (lcp l m) = m.take (lcp l m) ∧ (lcp l m < l.length → lcp l m < m.length → l[lcp l m]? ≠ m[lcp l m]?)
  | [], [] => ⟨⟨Nat.le_refl _, Nat.le_refl _⟩, rfl, fun h => absurd h (by simp [lcp])⟩
  | [], _ :: _ => ⟨⟨Nat.le_refl _, Nat.zero_le _⟩, rfl, fun h => absurd h (by simp [lcp])⟩
  | _ :: _, [] => ⟨⟨Nat.zero_le _, Nat.le_refl _⟩, rfl, fun _ h => absurd h (by simp [lcp])⟩
  | a :: l, b :: m => by
    by_cases h : a = b
    · subst h
      have e : lcp (a :: l) (a :: m) = lcp l m + 1 := if_pos rfl
      obtain ⟨⟨h1, h2⟩, h3, h4⟩ := lcp_spec l m
      rw [e]
      refine ⟨⟨by rw [List.length_cons]; omega, by rw [List.length_cons]; omega⟩, by rw [List.take_succ_cons, List.take_succ_cons, h3], fun k1 k2 => ?_⟩
      rw [List.length_cons] at k1 k2
      rw [List.getElem?_cons_succ, List.getElem?_cons_succ]
      exact h4 (by omega) (by omega)
    · have e : lcp (a :: l) (b :: m) = 0 := if_neg h
      rw [e]
      refine ⟨⟨Nat.zero_le _, Nat.zero_le _⟩, rfl, fun _ _ => ?_⟩
      rw [List.getElem?_cons_zero, List.getElem?_cons_zero]
      exact fun hh => h (Option.some.inj hh)
theorem placesTo_yes {s f : ByteArray} {k : Nat} (h : At s f k) : placesTo s f (k + 1) = placesTo s f k ++ [(k : Int)] := if_pos h
theorem placesTo_no {s f : ByteArray} {k : Nat} (h : ¬ At s f k) : placesTo s f (k + 1) = placesTo s f k := if_neg h
theorem places_mem {s f : ByteArray} {x : Int} : ∀ {k : Nat}, x ∈ placesTo s f k ↔ ∃ i : Nat, x = i ∧ i < k ∧ At s f i
  | 0 => by
    constructor
    · intro h; cases h
    · rintro ⟨i, _, h, _⟩; omega
  | k + 1 => by
    have ih := places_mem (s := s) (f := f) (x := x) (k := k)
    by_cases h : At s f k
    · rw [placesTo_yes h, List.mem_append, ih, List.mem_singleton]
      constructor
      · rintro (⟨i, a, b, c⟩ | e)
        · exact ⟨i, a, by omega, c⟩
        · exact ⟨k, e, by omega, h⟩
      · rintro ⟨i, a, b, c⟩
        by_cases e : i = k
        · subst e; exact .inr a
        · exact .inl ⟨i, a, by omega, c⟩
    · rw [placesTo_no h, ih]
      constructor
      · rintro ⟨i, a, b, c⟩; exact ⟨i, a, by omega, c⟩
      · rintro ⟨i, a, b, c⟩
        by_cases e : i = k
        · subst e; exact absurd c h
        · exact ⟨i, a, by omega, c⟩
/-- behind the last place at which f can begin there is none -/
theorem placesTo_end {s f : ByteArray} (h : 1 ≤ f.size) : ∀ d, placesTo s f (s.size + 1 - f.size + d) = placesTo s f (s.size + 1 - f.size)
  | 0 => rfl
  | d + 1 => by
    have : ¬ At s f (s.size + 1 - f.size + d) := fun hh => by have := hh.1; omega
    rw [show s.size + 1 - f.size + (d + 1) = s.size + 1 - f.size + d + 1 by omega, placesTo_no this, placesTo_end h d]
theorem places_all {s f : ByteArray} (h1 : wordB s = true) (h2 : wordB f = true) (h : 1 ≤ f.size) : placesR s f = placesTo s f (s.size + 1 - f.size) := by
  have : placesR s f = placesTo s f (s.size + 1) := if_pos ⟨h1, h2, by omega⟩
  rw [this]
  by_cases hl : f.size ≤ s.size + 1
  · have := placesTo_end (s := s) h f.size
    rwa [Nat.sub_add_cancel hl] at this
  · have := placesTo_end (s := s) h (s.size + 1)
    rwa [show s.size + 1 - f.size + (s.size + 1) = s.size + 1 by omega] at this
/-- a factor is one that has a place -/
theorem places_has {s f : ByteArray} (h1 : wordB s = true) (h2 : wordB f = true) (h : 1 ≤ f.size) : factR s f = decide (0 < (placesR s f).length) := by
  have hr : placesR s f = placesTo s f (s.size + 1) := if_pos ⟨h1, h2, by omega⟩
  unfold factR
  rw [h1, h2, hr, Bool.true_and, Bool.true_and, Bool.eq_iff_iff, decide_eq_true_eq]
  unfold hasR
  constructor
  · intro hh
    obtain ⟨i, hi⟩ := @of_decide_eq_true _ (Classical.propDecidable _) hh
    exact List.length_pos_of_mem (places_mem.2 ⟨i, rfl, by have := hi.1; omega, hi⟩)
  · intro hh
    obtain ⟨x, hx⟩ := List.exists_mem_of_length_pos hh
    obtain ⟨i, _, _, hi⟩ := places_mem.1 hx
    exact @decide_eq_true _ (Classical.propDecidable _) ⟨i, hi⟩
theorem fact_nil {s : ByteArray} (h : wordB s = true) : factR s ⟨#[]⟩ = true := by
  have : hasR s ⟨#[]⟩ = true := hasR_yes (i := 0) ⟨by show 0 + 0 ≤ _; omega, pl_zero (by rw [ByteArray.size_extract]; show min (0 + 0) _ - 0 = 0; omega)⟩
  unfold factR
  rw [h, this]
  rfl
end Go.Proofs.Ytgfhconcmoepcaa
