/- Texts put together. -/
import Derived.Test.YtfcbfflkajlhnaaMgC16
import Derived.Test.YtfcbfflkajlhnaaMgC40
/- The longest part of a word that lacks a factor: the mathematics of ReachOf. No program in it. -/
namespace Go.Proofs.Ytfcbfflkajlhnaa
open Go.RowKit

/-- the part from a to b lacks f, which has n letters -/
def LackP (s f : ByteArray) (n a b : Nat) : Prop := a ≤ b ∧ b ≤ s.size ∧ ∀ i, a ≤ i → i + n ≤ b → s.extract i (i + n) ≠ f
/-- some part of k letters lacks a factor of n letters -/
def LackK (s : ByteArray) (n k : Nat) : Prop := ∃ f ∈ fctL s n, ∃ a, LackP s f n a (a + k)
noncomputable def topTo (P : Nat → Prop) : Nat → Nat
  | 0 => 0
  | k + 1 => if @decide (P (k + 1)) (Classical.propDecidable _) = true then k + 1 else topTo P k
theorem topTo_le (P : Nat → Prop) : ∀ k, topTo P k ≤ k
  | 0 => Nat.le_refl _
  | k + 1 => by
    have := topTo_le P k
    unfold topTo
    split <;> omega
theorem topTo_eq {P : Nat → Prop} {m : Nat} (hm : P m) : ∀ N, m ≤ N → (∀ k, m < k → k ≤ N → ¬ P k) → topTo P N = m
  | 0, h, _ => by
    have : m = 0 := by omega
    rw [this]; rfl
  | N + 1, h, hn => by
    unfold topTo
    by_cases e : m = N + 1
    · subst e
      rw [if_pos (@decide_eq_true _ (Classical.propDecidable _) hm)]
    · rw [@decide_eq_false _ (Classical.propDecidable _) (hn (N + 1) (by omega) (Nat.le_refl _)), if_neg (by decide)]
      exact topTo_eq hm N (by omega) (fun k h1 h2 => hn k h1 (by omega))
/-- what ReachOf is to return -/
noncomputable def rchR (s : ByteArray) (n : Int) : Int := if fctOk s n = true then (if fctL s n.toNat = [] then 0 else (topTo (LackK s n.toNat) s.size : Int) + 1) else -1
/-- the longest part without f, as far as the letters before i tell -/
def Gap (s f : ByteArray) (n c0 i fr c : Nat) : Prop :=
  fr ≤ i ∧ (∀ j, fr ≤ j → j < i → s.extract j (j + n) ≠ f) ∧ c0 ≤ c ∧ (c = c0 ∨ ∃ a, LackP s f n a (a + c)) ∧ ∀ a b, a < fr → LackP s f n a b → b - a ≤ c
theorem gap_zero (s f : ByteArray) (n c0 : Nat) : Gap s f n c0 0 0 c0 :=
  ⟨Nat.le_refl _, fun j _ h => absurd h (by omega), Nat.le_refl _, .inl rfl, fun a b h => absurd h (by omega)⟩
theorem gap_no {s f : ByteArray} {n c0 i fr c : Nat} (h : Gap s f n c0 i fr c) (hn : s.extract i (i + n) ≠ f) : Gap s f n c0 (i + 1) fr c := by
  obtain ⟨h1, h2, h3, h4, h5⟩ := h
  refine ⟨by omega, fun j a b => ?_, h3, h4, h5⟩
  by_cases e : j = i
  · subst e; exact hn
  · exact h2 j a (by omega)
theorem gap_yes {s f : ByteArray} {n c0 i fr c : Nat} (h : Gap s f n c0 i fr c) (hn : 1 ≤ n) (hi : i + n ≤ s.size) (he : s.extract i (i + n) = f) : Gap s f n c0 (i + 1) (i + 1) (max c (i + n - 1 - fr)) := by
  obtain ⟨h1, h2, h3, h4, h5⟩ := h
  refine ⟨Nat.le_refl _, fun j a b => absurd a (by omega), by omega, ?_, fun a b ha hl => ?_⟩
  · by_cases hc : c < i + n - 1 - fr
    · right
      refine ⟨fr, by omega, by omega, fun j a b => h2 j a (by omega)⟩
    · rw [show max c (i + n - 1 - fr) = c by omega]
      exact h4
  · by_cases hf : a < fr
    · have := h5 a b hf hl
      omega
    · have hb : b < i + n := by
        by_cases hb : i + n ≤ b
        · exact absurd he (hl.2.2 i (by omega) hb)
        · omega
      omega
theorem gap_end {s f : ByteArray} {n c0 i fr c : Nat} (h : Gap s f n c0 i fr c) (hi : ¬ i + n ≤ s.size) (hf : fr ≤ s.size) : c0 ≤ max c (s.size - fr) ∧ (max c (s.size - fr) = c0 ∨ ∃ a, LackP s f n a (a + max c (s.size - fr))) ∧ ∀ a b, LackP s f n a b → b - a ≤ max c (s.size - fr) := by
  obtain ⟨h1, h2, h3, h4, h5⟩ := h
  refine ⟨by omega, ?_, fun a b hl => ?_⟩
  · by_cases hc : c < s.size - fr
    · right
      refine ⟨fr, by omega, by omega, fun j a b => h2 j a (by omega)⟩
    · rw [show max c (s.size - fr) = c by omega]
      exact h4
  · by_cases hf : a < fr
    · have := h5 a b hf hl
      omega
    · have := hl.2.1
      omega
/-- the longest part without one of the first factors -/
def Most (s : ByteArray) (n : Nat) (L : List ByteArray) (q c : Nat) : Prop :=
  c ≤ s.size ∧ (c = 0 ∨ ∃ f ∈ L, ∃ a, LackP s f n a (a + c)) ∧ ∀ j (hj : j < L.length), j < q → ∀ a b, LackP s L[j] n a b → b - a ≤ c
theorem most_zero (s : ByteArray) (n : Nat) (L : List ByteArray) : Most s n L 0 0 := ⟨Nat.zero_le _, .inl rfl, fun j _ h => absurd h (by omega)⟩
theorem most_next {s : ByteArray} {n : Nat} {L : List ByteArray} {q c i fr d : Nat} (h : Most s n L q c) (hq : q < L.length) (hg : Gap s L[q] n c i fr d) (hi : ¬ i + n ≤ s.size) (hf : fr ≤ s.size) : Most s n L (q + 1) (max d (s.size - fr)) := by
  obtain ⟨h1, h2, h3⟩ := h
  obtain ⟨g1, g2, g3⟩ := gap_end hg hi hf
  refine ⟨?_, ?_, fun j hj hjq a b hl => ?_⟩
  · rcases g2 with g2 | ⟨a, g2⟩
    · omega
    · have := g2.2.1; omega
  · rcases g2 with g2 | ⟨a, g2⟩
    · rw [g2]; exact h2
    · exact .inr ⟨L[q], List.getElem_mem _, a, g2⟩
  · by_cases e : j = q
    · subst e; exact g3 a b hl
    · have := h3 j hj (by omega) a b hl
      omega
theorem most_top {s : ByteArray} {n c : Nat} (h1 : 1 ≤ n) (hne : fctL s n ≠ []) (h : Most s n (fctL s n) (fctL s n).length c) : topTo (LackK s n) s.size = c := by
  obtain ⟨p1, p2, p3⟩ := h
  refine topTo_eq ?_ _ p1 (fun k hk hks => ?_)
  · rcases p2 with rfl | p2
    · obtain ⟨f, hf⟩ := List.exists_mem_of_ne_nil _ hne
      exact ⟨f, hf, 0, Nat.le_refl _, by omega, fun i _ h => absurd h (by omega)⟩
    · exact p2
  · rintro ⟨f, hf, a, hl⟩
    obtain ⟨j, hj, rfl⟩ := List.mem_iff_getElem.1 hf
    have := p3 j hj hj a (a + k) hl
    omega


/-! ### all factors at once -/
/-- f was met last just ahead of fr; no part without f that begins ahead of fr is longer than c -/
def GapF (s f : ByteArray) (n i fr c : Nat) : Prop := fr ≤ i ∧ (∀ j, fr ≤ j → j < i → s.extract j (j + n) ≠ f) ∧ ∀ a b, a < fr → LackP s f n a b → b - a ≤ c
/-- some part of c letters lacks a factor -/
def LackC (s : ByteArray) (n c : Nat) : Prop := c = 0 ∨ ∃ f ∈ fctL s n, ∃ a, LackP s f n a (a + c)
def RchAt (s : ByteArray) (n i : Nat) (N : ByteArray → Nat) (c : Nat) : Prop := LackC s n c ∧ (∀ f, GapF s f n i (N f) c) ∧ ∀ f, (∀ j, j < i → s.extract j (j + n) ≠ f) → N f = 0
theorem lackC_le {s : ByteArray} {n c : Nat} (h : LackC s n c) : c ≤ s.size := by
  rcases h with rfl | ⟨f, _, a, h⟩
  · omega
  · have := h.2.1; omega
theorem rch_start (s : ByteArray) (n : Nat) : RchAt s n 0 (fun _ => 0) 0 :=
  ⟨.inl rfl, fun _ => ⟨Nat.le_refl _, fun j _ h => absurd h (by omega), fun a _ h => absurd h (Nat.not_lt_zero a)⟩, fun _ _ => rfl⟩
theorem rch_step {s : ByteArray} {n i : Nat} {N N' : ByteArray → Nat} {c : Nat} (h : RchAt s n i N c) (hn : 1 ≤ n) (hi : i + n ≤ s.size) (hf : s.extract i (i + n) ∈ fctL s n) (h1 : N' (s.extract i (i + n)) = i + 1) (h2 : ∀ f, f ≠ s.extract i (i + n) → N' f = N f) :
    RchAt s n (i + 1) N' (max c (i + n - 1 - N (s.extract i (i + n)))) := by
  obtain ⟨w, g, z⟩ := h
  obtain ⟨g1, g2, g3⟩ := g (s.extract i (i + n))
  refine ⟨?_, fun f => ?_, fun f hz => ?_⟩
  · by_cases hc : c < i + n - 1 - N (s.extract i (i + n))
    · rw [show max c (i + n - 1 - N (s.extract i (i + n))) = i + n - 1 - N (s.extract i (i + n)) by omega]
      exact .inr ⟨_, hf, N (s.extract i (i + n)), by omega, by omega, fun j a b => g2 j a (by omega)⟩
    · rw [show max c (i + n - 1 - N (s.extract i (i + n))) = c by omega]
      exact w
  · by_cases e : f = s.extract i (i + n)
    · rw [e, h1]
      refine ⟨Nat.le_refl _, fun j a b => absurd a (by omega), fun a b ha hl => ?_⟩
      by_cases hfa : a < N (s.extract i (i + n))
      · have := g3 a b hfa hl
        omega
      · have hb : b < i + n := by
          by_cases hb : i + n ≤ b
          · exact absurd rfl (hl.2.2 i (by omega) hb)
          · omega
        omega
    · obtain ⟨k1, k2, k3⟩ := g f
      rw [h2 f e]
      refine ⟨by omega, fun j a b => ?_, fun a b ha hl => by have := k3 a b ha hl; omega⟩
      by_cases hj : j = i
      · subst hj; exact fun hh => e hh.symm
      · exact k2 j a (by omega)
  · rw [h2 f (fun e => hz i (by omega) e.symm)]
    exact z f fun j hj => hz j (by omega)
/-- the second loop: what has been done is bounded -/
def RchEnd (s : ByteArray) (n : Nat) (N : ByteArray → Nat) (M : ByteArray → Prop) (c : Nat) : Prop := LackC s n c ∧ (∀ f, GapF s f n (s.size + 1 - n) (N f) c) ∧ ∀ f ∈ fctL s n, ¬ M f → ∀ a b, LackP s f n a b → b - a ≤ c
theorem rend_start {s : ByteArray} {n c : Nat} {N : ByteArray → Nat} {M : ByteArray → Prop} (h : RchAt s n (s.size + 1 - n) N c) (hM : ∀ f ∈ fctL s n, M f) : RchEnd s n N M c :=
  ⟨h.1, h.2.1, fun f hf hn => absurd (hM f hf) hn⟩
theorem rend_step {s f : ByteArray} {n c : Nat} {N : ByteArray → Nat} {M M' : ByteArray → Prop} (h : RchEnd s n N M c) (hn2 : 1 ≤ n ∧ n ≤ s.size) (hf : f ∈ fctL s n) (hM : ∀ g, M g → g ≠ f → M' g) : RchEnd s n N M' (max c (s.size - N f)) := by
  obtain ⟨w, g, d⟩ := h
  obtain ⟨g1, g2, g3⟩ := g f
  refine ⟨?_, fun f' => ?_, fun f' hf' hn' a b hl => ?_⟩
  · by_cases hc : c < s.size - N f
    · rw [show max c (s.size - N f) = s.size - N f by omega]
      exact .inr ⟨_, hf, N f, by omega, by omega, fun j a b => g2 j a (by omega)⟩
    · rw [show max c (s.size - N f) = c by omega]
      exact w
  · obtain ⟨k1, k2, k3⟩ := g f'
    exact ⟨k1, k2, fun a b ha hl => by have := k3 a b ha hl; omega⟩
  · by_cases e : f' = f
    · subst e
      by_cases ha : a < N f'
      · have := g3 a b ha hl
        omega
      · have := hl.2.1
        omega
    · have := d f' hf' (fun hm => hn' (hM f' hm e)) a b hl
      omega
theorem rend_end {s : ByteArray} {n c : Nat} {N : ByteArray → Nat} {M : ByteArray → Prop} (h : RchEnd s n N M c) (hn : 1 ≤ n) (hne : fctL s n ≠ []) (hM : ∀ f, ¬ M f) : topTo (LackK s n) s.size = c := by
  obtain ⟨w, _, d⟩ := h
  refine topTo_eq ?_ _ (lackC_le w) (fun k hk _ => ?_)
  · rcases w with rfl | w
    · obtain ⟨f, hf⟩ := List.exists_mem_of_ne_nil _ hne
      exact ⟨f, hf, 0, Nat.le_refl _, by omega, fun i _ h => absurd h (by omega)⟩
    · exact w
  · rintro ⟨f, hf, a, hl⟩
    have := d f hf (hM f) a (a + k) hl
    omega
end Go.Proofs.Ytfcbfflkajlhnaa

/- ReachOf of the model. Conditions: lengths of at most 2^20. -/
namespace Go.Proofs.Ytfcbfflkajlhnaa
open Go.RowKit

set_option maxHeartbeats 1000000 in
theorem specReachOf (s : ByteArray) (n : Int) (w : World) (_ : s.size ≤ 1048576) :
    Calls Try.prog 61 #[.string s, .int .i64 n] w fun e w' => e = .returned (.int .i64 (rchR s n)) ∧ Below w.heap.size w w' := by
  by_cases hw : wordB s = true
  · by_cases hn : 1 ≤ n ∧ n ≤ 400
    · obtain ⟨m, rfl⟩ : ∃ m : Nat, n = m := ⟨n.toNat, by omega⟩
      have hm1 : 1 ≤ m := by omega
      have hm2 : m ≤ 400 := by omega
      have h4 := word_size hw
      have d1 : decide ((1 : Int) ≤ (m : Int)) = true := by simp; omega
      have d2 : decide ((m : Int) ≤ (400 : Int)) = true := by simp; omega
      have HW := Lib.hid hw
      have HOK : Hid (fctOk s m = true) := by show fctOk s m = true; unfold fctOk; rw [hw, d1, d2]; rfl
      have HF1 := Lib.hid (fun w => specFactors s m w h4 hm1 (by omega))
      have HV0 : Hid (fctL s m = [] → rchR s m = 0) := fun h => by
        unfold rchR
        rw [if_pos HOK.out, Int.toNat_natCast, if_pos h]
      have HV : Hid (fctL s m ≠ [] → ∀ c, Most s m (fctL s m) (fctL s m).length c → rchR s m = (c : Int) + 1) := fun h c hc => by
        unfold rchR
        rw [if_pos HOK.out, Int.toNat_natCast, if_neg h, most_top hm1 h hc]
      have hll : (fctL s m).length ≤ 400 := by have := fctL_length s m; omega
      have e1 : facTo s m (s.size + 1 - m) = fctL s m := rfl
      rw [e1] at HF1
      clear e1
      generalize fctL s m = L at HF1 HV0 HV hll
      clear hw hn
      go_enter Try.func61, Try.ntmps61
      go_wp2_with fail
      refine (specWordOk s _).mono ?_
      rintro e w' ⟨rfl, rfl⟩
      rw [HW.out]
      go_wp2_with fail
      refine (specIn _ _ _ _).mono ?_
      rintro e w' ⟨rfl, rfl⟩
      go_wp2_with fail
      refine (HF1.out _).mono ?_
      rintro e w1 ⟨v, rfl, ho, hb⟩
      obtain ⟨AL, cL, rfl⟩ := own_slice ho
      have HO := Lib.hid ho
      have HB1 := Lib.hid hb
      clear hb HF1
      by_cases h0 : L.length = 0
      · have HE := Lib.hid (HV0.out (List.eq_nil_of_length_eq_zero h0))
        rw [h0]
        clear h0 ho
        go_wp2_with fail
        go_ret
        exact ⟨by rw [HE.out]; rfl, HB1.out⟩
      · have HVV := Lib.hid (HV.out (fun h => h0 (by rw [h]; rfl)))
        have b0 : (((L.length : Int)) == 0) = false := by
          rw [beq_eq_false_iff_ne]
          omega
        have b0' : (L.length == 0) = false := by
          rw [beq_eq_false_iff_ne]
          exact h0
        obtain ⟨g, c, he, _⟩ := own_some ho (by omega)
        injection he with hA _ hc
        subst hA; subst hc
        clear ho
        go_wp2_with fail
        go_loop [6, 27] (fun x i => ∃ q d : Nat, q ≤ L.length ∧ i = .int .i64 q ∧ x = .int .i64 d ∧ Most s m L q d) (fun _ i => L.length - (intOf i).toNat)
        case atStart => exact ⟨0, 0, by omega, rfl, rfl, most_zero s m L⟩
        case round =>
          obtain ⟨q, d, hq, rfl, rfl, hmo⟩ := hrel
          have HMO := Lib.hid hmo
          have hd := hmo.1
          clear hmo
          by_cases hlt : q < L.length
          · have g1 := own_str_at HO.out q hlt
            go_wp2_with fail
            go_loop [6, 9, 10] (fun x y i => ∃ k fr e : Nat, k ≤ s.size + 1 ∧ i = .int .i64 k ∧ y = .int .i64 fr ∧ x = .int .i64 e ∧ fr ≤ s.size ∧ e ≤ s.size ∧ Gap s L[q] m d k fr e) (fun _ _ i => s.size + 1 - (intOf i).toNat)
            case atStart => exact ⟨0, 0, d, by omega, rfl, rfl, rfl, by omega, hd, gap_zero _ _ _ _⟩
            case round =>
              obtain ⟨k, fr, e, hk, rfl, rfl, rfl, hfr, hes, hgap⟩ := hrel
              have HGA := Lib.hid hgap
              have hfk := hgap.1
              clear hgap
              by_cases hkn : k + m ≤ s.size
              · have hsl : ∀ w : World, (Instr.slice 9 (.string s) (some (.int .i64 (k : Int))) (some (.int .i64 ((k : Int) + (m : Int)))) none).run Try.prog w = .ok (.string (s.extract k (k + m))) w := fun w => slice_at Try.underlying9 s k m w hkn
                by_cases hx : s.extract k (k + m) = L[q]
                · have HY := Lib.hid (gap_yes HGA.out hm1 hkn hx)
                  have bx : ((s.extract k (k + m)).toList == L[q].toList) = true := by rw [hx]; simp
                  have HX := Lib.hid hx
                  generalize s.extract k (k + m) = f at hsl bx
                  clear hx
                  go_wp2_with fail
                  go_round
                  case rel =>
                    refine ⟨k + 1, k + 1, max e (k + m - 1 - fr), by omega, by go_num, by go_num, ?_, by omega, by omega, HY.out⟩
                    congr 1
                    first | (split <;> omega) | omega
                  case measure => simp [intOf]; omega
                · have HNX := Lib.hid (gap_no HGA.out hx)
                  have bx : ((s.extract k (k + m)).toList == L[q].toList) = false := by
                    rw [beq_eq_false_iff_ne]
                    exact fun e => hx (bytes_ext e)
                  generalize s.extract k (k + m) = f at hsl bx
                  clear hx
                  go_wp2_with fail
                  go_round
                  case rel => exact ⟨k + 1, fr, e, by omega, by go_num, rfl, rfl, hfr, hes, HNX.out⟩
                  case measure => simp [intOf]; omega
              · have HMN := Lib.hid (most_next HMO.out hlt HGA.out hkn hfr)
                go_wp2_with fail
                go_round
                case rel =>
                  refine ⟨q + 1, max e (s.size - fr), by omega, by go_num, ?_, HMN.out⟩
                  congr 1
                  first | (split <;> omega) | omega
                case measure => simp [intOf]; omega
          · have hql : q = L.length := by omega
            have HR := Lib.hid (HVV.out d (by rw [← hql]; exact HMO.out))
            clear hql
            go_wp2_with fail
            go_ret
            exact ⟨by rw [HR.out]; rfl, HB1.out⟩
    · have d1 : (decide ((1 : Int) ≤ n) && decide (n ≤ (400 : Int))) = false := by simp; omega
      have HNO : Hid (fctOk s n = false) := by show fctOk s n = false; unfold fctOk; rw [d1, Bool.and_false]
      have HW := Lib.hid hw
      have HV : Hid (rchR s n = -1) := by show rchR s n = -1; unfold rchR; rw [HNO.out]; rfl
      clear hw hn
      go_enter Try.func61, Try.ntmps61
      go_wp2_with fail
      refine (specWordOk s _).mono ?_
      rintro e w' ⟨rfl, rfl⟩
      rw [HW.out]
      go_wp2_with fail
      refine (specIn _ _ _ _).mono ?_
      rintro e w' ⟨rfl, rfl⟩
      go_wp2_with fail
      go_ret
      exact ⟨by rw [HV.out]; rfl, Below.refl _ _⟩
  · have hw' : wordB s = false := by simpa using hw
    have HW := Lib.hid hw'
    have HNO : Hid (fctOk s n = false) := by show fctOk s n = false; unfold fctOk; rw [hw']; rfl
    have HV : Hid (rchR s n = -1) := by show rchR s n = -1; unfold rchR; rw [HNO.out]; rfl
    clear hw hw'
    go_enter Try.func61, Try.ntmps61
    go_wp2_with fail
    refine (specWordOk s _).mono ?_
    rintro e w' ⟨rfl, rfl⟩
    rw [HW.out]
    go_wp2_with fail
    go_ret
    exact ⟨by rw [HV.out]; rfl, Below.refl _ _⟩
end Go.Proofs.Ytfcbfflkajlhnaa
