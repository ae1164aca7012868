/- Texts put together. -/
import Derived.Test.YtjmijedfmiplfaaMgA16
import Derived.Test.YtjmijedfmiplfaaMgA3
import Derived.Laws.Cover1
import Derived.BigQuiet
import Derived.Test.YtjmijedfmiplfaaMgA1
import Derived.Laws.CopyOwn
/- The program's QuotientsOf. No condition. -/
namespace Go.Proofs.Ytjmijedfmiplfaa
open Go.RowKit Go.Lib

set_option maxRecDepth 100000 in
set_option maxHeartbeats 1000000 in
theorem implQuotientsOf (p q : Int) (w : World) :
    Calls Try.prog 13 #[.int .i64 p, .int .i64 q] w fun e w' => ∃ v, e = .returned v ∧ w'.ownsRow w.heap.size 3 1 v (quR p q).length (ints (quR p q)) ∧ Below w.heap.size w w' := by
  obtain ⟨i0, hi0, hz0, hz1, hz2⟩ := info_parts int_info
  by_cases hok : (0 ≤ p ∧ p ≤ 100000) ∧ (1 ≤ q ∧ q ≤ 100000)
  · obtain ⟨h1, h2⟩ := hok
    have hv : quR p q = quL p.toNat q.toNat := if_pos (by unfold quOk; simp only [Bool.and_eq_true, decide_eq_true_eq]; exact ⟨h1, h2⟩)
    rw [hv]
    obtain ⟨P, rfl⟩ : ∃ m : Nat, p = m := ⟨p.toNat, by omega⟩
    obtain ⟨Q, rfl⟩ : ∃ m : Nat, q = m := ⟨q.toNat, by omega⟩
    rw [Int.toNat_natCast, Int.toNat_natCast]
    have hP : P ≤ 100000 := by omega
    have hQ : Q ≤ 100000 := by omega
    have hQ1 : 1 ≤ Q := by omega
    obtain ⟨R, hR⟩ : ∃ R, R = quL P Q := ⟨_, rfl⟩
    rw [← hR]
    have HR := Lib.hid hR
    clear hv h1 h2 hR
    go_enter Try.func13, Try.ntmps13
    go_wp2_with fail
    go_loopw [0, 1, 5] (fun pv qv o w' => ∃ (a b : Nat) (K : List Int), a ≤ 100000 ∧ b ≤ 100000 ∧ pv = .int .i64 (a : Int) ∧ qv = .int .i64 (b : Int) ∧ K ++ quL a b = R ∧ K.length + b ≤ Q ∧ (∃ A cp, o = .slice A K.length cp) ∧ w'.ownsRow w.heap.size 3 1 o K.length (ints K) ∧ Below w.heap.size w w') (fun _ qv _ _ => (RowKit.intOf qv).toNat)
    case atStart => exact ⟨P, Q, [], hP, hQ, rfl, rfl, HR.out.symm, by simp, ⟨_, _, rfl⟩, World.ownsRow_nil _ _ _ _, Below.refl _ _⟩
    case round =>
      obtain ⟨a, b, K, ha, hb, rfl, rfl, hK, hl, ⟨A, cp, rfl⟩, ho, hbw⟩ := hrel
      have HK := Lib.hid hK
      have HO := Lib.hid ho
      have HB := Lib.hid hbw
      have hbz := hbw.size
      clear hK ho hbw
      by_cases h0 : 0 < b
      · have h0' : (0 : Int) < (b : Int) := by omega
        have hz : ¬ (b : Int) = 0 := by omega
        have hz' : ¬ b = 0 := by omega
        have HS : Hid ((K ++ [((a / b : Nat) : Int)]) ++ quL b (a % b) = R) := by
          show _ = _
          rw [← HK.out, quL_step h0, List.append_assoc]
          rfl
        have hm : a % b < b := Nat.mod_lt _ h0
        have hd : a / b ≤ a := Nat.div_le_self _ _
        have e1 : (a : Int).tdiv (b : Int) = ((a / b : Nat) : Int) := rfl
        have e2 : (a : Int) / (b : Int) = ((a / b : Nat) : Int) := rfl
        have e3 : (a : Int).tmod (b : Int) = ((a % b : Nat) : Int) := rfl
        have e4 : (a : Int) % (b : Int) = ((a % b : Nat) : Int) := rfl
        generalize a / b = x at *
        generalize a % b = y at *
        go_wp2_with (at_builtin
                     refine wpList_append1 wr rfl (.tmp 22) (.tmp 26) _ rfl w.heap.size 3 i0 _ 8 Try.underlying22 hi0 hz0 hz1 hz2 rfl (.slice A K.length cp) K.length (ints K) rfl HO.out (.int .i64 (x : Int)) rfl rfl (by unfold maxLen; omega) (by omega) hbz ?_
                     intro v' w1 hown1 hbel1)
        have ho' : w1.ownsRow w.heap.size 3 1 v' (K ++ [(x : Int)]).length (ints (K ++ [(x : Int)])) := by
          rw [List.length_append, ints_snoc]
          exact hown1
        obtain ⟨A5, cp5, rfl⟩ := own_slice ho'
        have HO' := Lib.hid ho'
        have HB' : Hid (Below w.heap.size w w1) := HB.out.trans hbel1
        clear ho' hown1 hbel1
        go_quiet (fail)
        go_wp2_with fail
        go_roundw
        case rel => exact ⟨b, y, K ++ [(x : Int)], hb, by omega, rfl, rfl, HS.out, by rw [List.length_append]; show _ + 1 + _ ≤ _; omega, ⟨A5, cp5, by first | rfl | simp⟩, HO'.out, below_drewN HB'.out _⟩
        case measure => simp [RowKit.intOf]; omega
      · have hb0 : b = 0 := by omega
        subst hb0
        have h0' : ¬ (0 : Int) < ((0 : Nat) : Int) := by omega
        have HE : Hid (R = K) := by
          show _ = _
          rw [← HK.out, quL_zero, List.append_nil]
        go_wp2_with fail
        go_ret
        exact ⟨_, rfl, by rw [HE.out]; exact HO.out, HB.out⟩
  · have hv : quR p q = [] := if_neg (by unfold quOk; simp only [Bool.and_eq_true, decide_eq_true_eq]; exact hok)
    rw [hv]
    have hcs : p < 0 ∨ (¬ p < 0 ∧ 100000 < p) ∨ (¬ p < 0 ∧ ¬ 100000 < p ∧ q < 1) ∨ (¬ p < 0 ∧ ¬ 100000 < p ∧ ¬ q < 1 ∧ 100000 < q) := by omega
    clear hok hv
    rcases hcs with h1 | ⟨h1, h2⟩ | ⟨h1, h2, h3⟩ | ⟨h1, h2, h3, h4⟩
    all_goals
      go_enter Try.func13, Try.ntmps13
      go_wp2_with fail
      go_ret
      exact ⟨_, rfl, World.ownsRow_nil _ _ _ _, Below.refl _ _⟩
end Go.Proofs.Ytjmijedfmiplfaa

/- Fractions from the end: continuants, held below a limit. No program in it. -/
namespace Go.Proofs.Ytjmijedfmiplfaa

def ctA : List Int → Int × Int
  | [] => (1, 0)
  | k :: l => (k * (ctA l).1 + (ctA l).2, (ctA l).1)
theorem ct_pos : ∀ (l : List Int), (∀ x ∈ l, 1 ≤ x) → 1 ≤ (ctA l).1 ∧ 0 ≤ (ctA l).2 ∧ (ctA l).2 ≤ (ctA l).1
  | [], _ => by decide
  | k :: l, h => by
    have ih := ct_pos l fun x hx => h x (List.mem_cons_of_mem _ hx)
    have hk : 1 ≤ k := h k List.mem_cons_self
    have h1 : 1 * (ctA l).1 ≤ k * (ctA l).1 := Int.mul_le_mul_of_nonneg_right hk (by omega)
    show 1 ≤ k * (ctA l).1 + (ctA l).2 ∧ 0 ≤ (ctA l).1 ∧ (ctA l).1 ≤ k * (ctA l).1 + (ctA l).2
    omega
theorem ct_nonneg : ∀ (l : List Int), (∀ x ∈ l, 0 ≤ x) → 0 ≤ (ctA l).1 ∧ 0 ≤ (ctA l).2
  | [], _ => by decide
  | k :: l, h => by
    have ih := ct_nonneg l fun x hx => h x (List.mem_cons_of_mem _ hx)
    have := Int.mul_nonneg (h k List.mem_cons_self) ih.1
    show 0 ≤ k * (ctA l).1 + (ctA l).2 ∧ 0 ≤ (ctA l).1
    omega
theorem fr_ct (l : List Int) : ∀ (p q a b : Int), (∀ x ∈ l, 1 ≤ x) → 0 ≤ p → 0 ≤ q → 0 ≤ a → 0 ≤ b → p ≤ 1000000000 → q ≤ 1000000000 →
    frGo l p q a b = if p * (ctA l).1 + a * (ctA l).2 ≤ 1000000000 ∧ q * (ctA l).1 + b * (ctA l).2 ≤ 1000000000 then some (p * (ctA l).1 + a * (ctA l).2, q * (ctA l).1 + b * (ctA l).2) else none := by
  induction l with
  | nil =>
    intro p q a b _ hp hq ha hb h1 h2
    have e : ∀ x y : Int, x * (ctA []).1 + y * (ctA []).2 = x := fun x y => by
      show x * 1 + y * 0 = x
      omega
    rw [e, e, if_pos ⟨h1, h2⟩]
    rfl
  | cons k l ih =>
    intro p q a b hl hp hq ha hb h1 h2
    have hk : 1 ≤ k := hl k List.mem_cons_self
    have hl2 : ∀ x ∈ l, 1 ≤ x := fun x hx => hl x (List.mem_cons_of_mem _ hx)
    obtain ⟨c1, c2, c3⟩ := ct_pos l hl2
    have kp := Int.mul_nonneg (show 0 ≤ k by omega) hp
    have kq := Int.mul_nonneg (show 0 ≤ k by omega) hq
    have e : ∀ x y : Int, x * (ctA (k :: l)).1 + y * (ctA (k :: l)).2 = (k * x + y) * (ctA l).1 + x * (ctA l).2 := fun x y => by
      show x * (k * (ctA l).1 + (ctA l).2) + y * (ctA l).1 = _
      grind
    have up : ∀ x y : Int, 0 ≤ x → 0 ≤ y → y ≤ y * (ctA l).1 + x * (ctA l).2 := fun x y hx hy => by
      have a1 := Int.mul_le_mul_of_nonneg_left c1 hy
      have a2 := Int.mul_nonneg hx c2
      omega
    rw [e, e]
    show (if 1000000000 < k * p + a ∨ 1000000000 < k * q + b then none else frGo l (k * p + a) (k * q + b) p q) = _
    by_cases hx : 1000000000 < k * p + a ∨ 1000000000 < k * q + b
    · rw [if_pos hx, if_neg]
      rintro ⟨g1, g2⟩
      have u1 := up p (k * p + a) hp (by omega)
      have u2 := up q (k * q + b) hq (by omega)
      omega
    · rw [if_neg hx]
      exact ih (k * p + a) (k * q + b) p q hl2 (by omega) (by omega) hp hq (by omega) (by omega)
/-- a list of valid quotients -/
def Quots (l : List Int) : Prop := (1 ≤ l.length ∧ l.length ≤ 20) ∧ ∀ j (h : j < l.length), 0 ≤ l[j] ∧ l[j] ≤ 1000 ∧ (1 ≤ j → 1 ≤ l[j])
theorem qt_quots {l : List Int} : qtB l = true ↔ Quots l := by
  constructor
  · intro h
    refine ⟨qt_len h, fun j hj => ?_⟩
    unfold qtB at h
    rw [Bool.and_eq_true] at h
    have := qtTo_at _ h.2 j hj
    unfold qtAt at this
    simp only [Bool.and_eq_true, decide_eq_true_eq] at this
    rw [List.getD_eq_getElem?_getD, List.getElem?_eq_getElem hj] at this
    have h2 : ((min j 1 : Nat) : Int) ≤ l[j] := this.1
    have h3 : l[j] ≤ 1000 := this.2
    omega
  · rintro ⟨h1, h2⟩
    unfold qtB
    rw [Bool.and_eq_true, Bool.and_eq_true, decide_eq_true_eq, decide_eq_true_eq]
    refine ⟨h1, ?_⟩
    refine Bool.eq_false_or_eq_true (qtTo l l.length) |>.resolve_right fun hf => ?_
    have : ∀ k, k ≤ l.length → qtTo l k = true := by
      intro k
      induction k with
      | zero => intro _; rfl
      | succ k ih =>
        intro hk
        unfold qtTo
        have hk2 : k < l.length := hk
        rw [ih (by omega), Bool.true_and]
        unfold qtAt
        rw [List.getD_eq_getElem?_getD, List.getElem?_eq_getElem hk2, Option.getD_some]
        simp only [Bool.and_eq_true, decide_eq_true_eq]
        have := h2 k hk2
        omega
    rw [this _ (Nat.le_refl _)] at hf
    cases hf
theorem qu_tail {k : Int} {t : List Int} (h : Quots (k :: t)) : (0 ≤ k ∧ k ≤ 1000) ∧ ∀ x ∈ t, 1 ≤ x := by
  refine ⟨by have := h.2 0 (by simp); exact ⟨this.1, this.2.1⟩, fun x hx => ?_⟩
  obtain ⟨j, hj, rfl⟩ := List.mem_iff_getElem.1 hx
  exact (h.2 (j + 1) (by simp; omega)).2.2 (by omega)
theorem fr_whole {l : List Int} (h : Quots l) : frO l = if (ctA l).1 ≤ 1000000000 ∧ (ctA l).2 ≤ 1000000000 then some ((ctA l).1, (ctA l).2) else none := by
  unfold frO
  rw [if_pos (qt_quots.2 h)]
  match l, h with
  | k :: t, h =>
    obtain ⟨hk, ht⟩ := qu_tail h
    show (if 1000000000 < k * 1 + 0 ∨ 1000000000 < k * 0 + 1 then none else frGo t (k * 1 + 0) (k * 0 + 1) 1 0) = _
    rw [if_neg (by omega), fr_ct t _ _ _ _ ht (by omega) (by omega) (by omega) (by omega) (by omega) (by omega)]
    have e1 : (k * 1 + 0) * (ctA t).1 + 1 * (ctA t).2 = (ctA (k :: t)).1 := by
      show _ = k * (ctA t).1 + (ctA t).2
      grind
    have e2 : (k * 0 + 1) * (ctA t).1 + 0 * (ctA t).2 = (ctA (k :: t)).2 := by
      show _ = (ctA t).1
      grind
    rw [e1, e2]
/-- the numbers from the end, held -/
def nuS (l : List Int) (i : Nat) : Int := min (ctA (l.drop i)).1 1000000001
def nuL (l : List Int) : List Int := (List.range (l.length + 1)).map (nuS l)
theorem nuL_len (l : List Int) : (nuL l).length = l.length + 1 := by simp [nuL]
theorem nuL_at (l : List Int) (i : Nat) (h : i < (nuL l).length) : (nuL l)[i] = nuS l i := by simp [nuL]
theorem nu_end (l : List Int) : nuS l l.length = 1 := by
  unfold nuS
  rw [List.drop_length]
  rfl
theorem ct_drop {l : List Int} {i : Nat} (h : i < l.length) : ctA (l.drop i) = (l[i] * (ctA (l.drop (i + 1))).1 + (ctA (l.drop (i + 1))).2, (ctA (l.drop (i + 1))).1) := by
  rw [List.drop_eq_getElem_cons h]
  rfl
theorem nu_last {l : List Int} (h : Quots l) : nuS l (l.length - 1) = l[l.length - 1]'(by have := h.1.1; omega) := by
  have h1 := h.1.1
  unfold nuS
  rw [ct_drop (show l.length - 1 < l.length by omega), List.drop_of_length_le (by omega)]
  have := h.2 (l.length - 1) (by omega)
  show min (l[l.length - 1] * 1 + 0) 1000000001 = _
  omega
theorem mul_cap {k x : Int} (h1 : 0 ≤ k) (h0 : 0 ≤ x) : k = 0 ∨ (1000000001 ≤ x → 1000000001 ≤ k * x) := by
  by_cases hk : k = 0
  · exact .inl hk
  · refine .inr fun h => ?_
    have := Int.mul_le_mul_of_nonneg_right (show 1 ≤ k by omega) h0
    omega
theorem nu_step {l : List Int} (h : Quots l) {i : Nat} (hi : i + 2 ≤ l.length) : nuS l i = min (l[i] * nuS l (i + 1) + nuS l (i + 2)) 1000000001 := by
  have hb := h.2 i (by omega)
  have e1 := ct_drop (show i < l.length by omega)
  have e2 := ct_drop (show i + 1 < l.length by omega)
  have n1 := ct_nonneg (l.drop (i + 1)) fun x hx => by
    obtain ⟨j, hj, rfl⟩ := List.mem_iff_getElem.1 (List.mem_of_mem_drop hx)
    exact (h.2 j hj).1
  have n2 := ct_nonneg (l.drop (i + 2)) fun x hx => by
    obtain ⟨j, hj, rfl⟩ := List.mem_iff_getElem.1 (List.mem_of_mem_drop hx)
    exact (h.2 j hj).1
  have e3 : (ctA (l.drop (i + 1))).2 = (ctA (l.drop (i + 2))).1 := by rw [e2]
  unfold nuS
  rw [e1, e3]
  show min (l[i] * (ctA (l.drop (i + 1))).1 + (ctA (l.drop (i + 2))).1) 1000000001 = _
  generalize (ctA (l.drop (i + 1))).1 = x at *
  generalize (ctA (l.drop (i + 2))).1 = y at *
  generalize l[i] = k at *
  have m0 := Int.mul_nonneg hb.1 n1.1
  rcases mul_cap hb.1 n1.1 with hk | hk
  · subst hk
    rw [Int.zero_mul, Int.zero_mul]
    omega
  · by_cases hx : 1000000001 ≤ x
    · have := hk hx
      rw [show min x 1000000001 = 1000000001 by omega]
      have hk1 := Int.mul_nonneg hb.1 (show (0 : Int) ≤ 1000000001 by decide)
      by_cases hk0 : k = 0
      · subst hk0
        rw [Int.zero_mul] at this
        omega
      · have := Int.mul_le_mul_of_nonneg_right (show 1 ≤ k by omega) (show (0 : Int) ≤ 1000000001 by decide)
        omega
    · rw [show min x 1000000001 = x by omega]
      omega
theorem nu_low {l : List Int} (h : Quots l) (i : Nat) : 0 ≤ nuS l i ∧ nuS l i ≤ 1000000001 := by
  have n1 := ct_nonneg (l.drop i) fun x hx => by
    obtain ⟨j, hj, rfl⟩ := List.mem_iff_getElem.1 (List.mem_of_mem_drop hx)
    exact (h.2 j hj).1
  unfold nuS
  omega
/-- the numbers fall from the second one on -/
theorem ct_falls {l : List Int} (h : Quots l) : ∀ i, 1 ≤ i → i ≤ l.length → (ctA (l.drop i)).1 ≤ (ctA (l.drop 1)).1 := by
  intro i
  induction i with
  | zero => intro h1; omega
  | succ i ih =>
    intro _ h2
    by_cases h0 : i = 0
    · subst h0; exact Int.le_refl _
    · have a := ih (by omega) (by omega)
      have e := ct_drop (show i < l.length by omega)
      have p := ct_pos (l.drop i) fun x hx => by
        obtain ⟨j, hj, rfl⟩ := List.mem_iff_getElem.1 hx
        rw [List.getElem_drop]
        rw [List.length_drop] at hj
        exact (h.2 (i + j) (by omega)).2.2 (by omega)
      have e2 : (ctA (l.drop i)).2 = (ctA (l.drop (i + 1))).1 := by rw [e]
      omega
/-- what the numbers say of the fraction -/
theorem nu_says {l : List Int} (h : Quots l) :
    ((1000000001 : Int) ∈ nuL l → frA l = 0 ∧ frB l = 0 ∧ frOk l = false) ∧
    (¬ (1000000001 : Int) ∈ nuL l → frA l = nuS l 0 ∧ frB l = nuS l 1 ∧ frOk l = true) := by
  have hw := fr_whole h
  have h1 := h.1.1
  have e0 : (ctA (l.drop 1)).1 = (ctA l).2 := by
    have := ct_drop (show 0 < l.length by omega)
    rw [List.drop_zero] at this
    rw [this]
  have hm : (1000000001 : Int) ∈ nuL l ↔ ¬ ((ctA l).1 ≤ 1000000000 ∧ (ctA l).2 ≤ 1000000000) := by
    rw [← e0]
    unfold nuL
    rw [List.mem_map]
    constructor
    · rintro ⟨i, hi, hv⟩ ⟨g1, g2⟩
      rw [List.mem_range] at hi
      unfold nuS at hv
      by_cases hi0 : i = 0
      · subst hi0
        rw [List.drop_zero] at hv
        omega
      · have := ct_falls h i (by omega) (by omega)
        omega
    · intro hn
      by_cases g : (ctA l).1 ≤ 1000000000
      · refine ⟨1, by rw [List.mem_range]; omega, ?_⟩
        unfold nuS
        omega
      · refine ⟨0, by rw [List.mem_range]; omega, ?_⟩
        unfold nuS
        rw [List.drop_zero]
        omega
  constructor
  · intro hin
    have hn := hm.1 hin
    rw [if_neg hn] at hw
    unfold frA frB frOk
    rw [hw]
    exact ⟨rfl, rfl, rfl⟩
  · intro hin
    have hy : (ctA l).1 ≤ 1000000000 ∧ (ctA l).2 ≤ 1000000000 := Classical.byContradiction fun hc => hin (hm.2 hc)
    rw [if_pos hy] at hw
    unfold frA frB frOk
    rw [hw]
    refine ⟨?_, ?_, rfl⟩
    · unfold nuS
      rw [List.drop_zero]
      show (ctA l).1 = _
      omega
    · unfold nuS
      rw [e0]
      show (ctA l).2 = _
      omega
end Go.Proofs.Ytjmijedfmiplfaa

/- The program's areQuotients. No condition. -/
namespace Go.Proofs.Ytjmijedfmiplfaa
open Go.RowKit

/-- at least one quotient, at most 'm', none greater than 'g', and at most the first one 0 -/
def Few (l : List Int) (m g : Int) : Prop := (1 ≤ l.length ∧ (l.length : Int) ≤ m) ∧ ∀ j (h : j < l.length), 0 ≤ l[j] ∧ l[j] ≤ g ∧ (1 ≤ j → 1 ≤ l[j])
noncomputable def fewB (l : List Int) (m g : Int) : Bool := @decide (Few l m g) (Classical.propDecidable _)
theorem few_iff {l : List Int} {m g : Int} : fewB l m g = true ↔ Few l m g := by
  unfold fewB
  exact @decide_eq_true_iff _ (Classical.propDecidable _)

set_option maxRecDepth 100000 in
set_option maxHeartbeats 1000000 in
theorem implAre (l : List Int) (m g : Int) (v : Value) (w : World) (h : Lst w v (ints l)) :
    Calls Try.prog 42 #[v, .int .i64 m, .int .i64 g] w fun e w' => e = .returned (.bool (fewB l m g)) ∧ w = w' := by
  obtain ⟨A, c, rfl, hc1, hc2, h1⟩ := h
  rw [ints_length] at hc1 ⊢
  unfold maxLen at hc2
  have H1 : Hid (∀ k (hk : k < l.length), ∃ b off, A = some ⟨b, off, none⟩ ∧ w.cell? ⟨b, off + k, none⟩ = some (.int .i64 l[k])) := fun k hk => by
    have hl : l ≠ [] := fun e => by subst e; simp at hk
    obtain ⟨b, off, e, h2⟩ := h1.resolve_left (by simp [ints, hl])
    exact ⟨b, off, e, ints_at h2 k hk⟩
  have HNO : Hid (∀ k (hk : k < l.length), ¬ (0 ≤ l[k] ∧ l[k] ≤ g ∧ (1 ≤ k → 1 ≤ l[k])) → fewB l m g = false) := fun k hk hn => by
    rw [Bool.eq_false_iff]
    exact fun hf => hn ((few_iff.1 hf).2 k hk)
  have HYES : Hid ((∀ k (hk : k < l.length), 0 ≤ l[k] ∧ l[k] ≤ g ∧ (1 ≤ k → 1 ≤ l[k])) → fewB l m g = (decide (1 ≤ l.length) && decide ((l.length : Int) ≤ m))) := fun hy => by
    rw [Bool.eq_iff_iff, few_iff, Bool.and_eq_true, decide_eq_true_eq, decide_eq_true_eq]
    exact ⟨fun hf => hf.1, fun hf => ⟨hf, hy⟩⟩
  clear h1
  generalize fewB l m g = r at *
  go_enter Try.func42, Try.ntmps42
  go_wp2_with fail
  go_loopw [11] (fun iv w' => ∃ k : Nat, k ≤ l.length ∧ iv = .int .i64 (k : Int) ∧ (∀ j (hj : j < l.length), j < k → 0 ≤ l[j] ∧ l[j] ≤ g ∧ (1 ≤ j → 1 ≤ l[j])) ∧ w = w') (fun iv _ => l.length - (RowKit.intOf iv).toNat)
  case atStart => exact ⟨0, Nat.zero_le _, rfl, fun j _ h => absurd h (Nat.not_lt_zero _), rfl⟩
  case round =>
    obtain ⟨k, hk, rfl, hall, rfl⟩ := hrel
    have HALL := Lib.hid hall
    clear hall
    by_cases hlt : k < l.length
    · have hlt' : (k : Int) < (l.length : Int) := by omega
      obtain ⟨b, off, rfl, g1⟩ := H1.out k hlt
      have HNK := Lib.hid (HNO.out k hlt)
      have HUP : Hid ((0 ≤ l[k] ∧ l[k] ≤ g ∧ (1 ≤ k → 1 ≤ l[k])) → ∀ j (hj : j < l.length), j < k + 1 → 0 ≤ l[j] ∧ l[j] ≤ g ∧ (1 ≤ j → 1 ≤ l[j])) := fun hg j hj hjk => by
        by_cases e : j = k
        · subst e; exact hg
        · exact HALL.out j hj (by omega)
      generalize l[k] = x at *
      by_cases c1 : x < 0
      · have HF := Lib.hid (HNK.out (by omega))
        go_wp2_with fail
        go_ret
        exact ⟨ret_bool HF.out.symm, rfl⟩
      · by_cases c2 : g < x
        · have HF := Lib.hid (HNK.out (by omega))
          go_wp2_with fail
          go_ret
          exact ⟨ret_bool HF.out.symm, rfl⟩
        · by_cases c3 : x = 0
          · have d3 : (x == 0) = true := by rw [beq_iff_eq]; exact c3
            by_cases c4 : 0 < k
            · have c4' : (0 : Int) < (k : Int) := by omega
              have HF := Lib.hid (HNK.out (by omega))
              clear c3
              go_wp2_with fail
              go_ret
              exact ⟨ret_bool HF.out.symm, rfl⟩
            · have c4' : ¬ (0 : Int) < (k : Int) := by omega
              have HG := Lib.hid (HUP.out (by omega))
              clear c3
              go_wp2_with fail
              go_roundw
              case rel => exact ⟨k + 1, by omega, by go_num, HG.out, by trivial⟩
              case measure => simp [RowKit.intOf]; omega
          · have d3 : (x == 0) = false := by rw [beq_eq_false_iff_ne]; exact c3
            have HG := Lib.hid (HUP.out (by omega))
            clear c3
            go_wp2_with fail
            go_roundw
            case rel => exact ⟨k + 1, by omega, by go_num, HG.out, by trivial⟩
            case measure => simp [RowKit.intOf]; omega
    · have hlt' : ¬ (k : Int) < (l.length : Int) := by omega
      have HE := Lib.hid (HYES.out fun j hj => HALL.out j hj (by omega))
      by_cases c1 : 1 ≤ l.length
      · have c1' : (1 : Int) ≤ (l.length : Int) := by omega
        have HE2 : Hid (r = decide ((l.length : Int) ≤ m)) := by show _ = _; rw [HE.out, decide_eq_true c1, Bool.true_and]
        go_wp2_with fail
        go_ret
        exact ⟨ret_bool HE2.out.symm, rfl⟩
      · have c1' : ¬ (1 : Int) ≤ (l.length : Int) := by omega
        have HE2 : Hid (r = false) := by show _ = _; rw [HE.out, decide_eq_false c1, Bool.false_and]
        go_wp2_with fail
        go_ret
        exact ⟨ret_bool HE2.out.symm, rfl⟩
end Go.Proofs.Ytjmijedfmiplfaa

/- 'copy(row, list)', the row one that the call owns: at least as many elements as the list has. No program in it. -/
namespace Go.Proofs.Ytjmijedfmiplfaa
open Go.RowKit

theorem wpList_copy_row {P : Program} {w : World} {ops : Array Oper} {rest : List Oper} {o : Oper} {a : Act} {Q : Exit → Act → World → Prop} (hgd : o.guard = none) (d s : Operand) (dT sT : TypeId)
    (ho : o.op = .call { callee := .builtin .copy, args := #[d, s], argTypes := #[dT, sT] }) (elem : TypeId) (hu : P.underlying dT = some (.slice elem)) (hsz : (P.info? elem).map (·.size) = some 1)
    (base g n cap : Nat) (xs ys : List Value) (hd : a.eval d = .slice (some ⟨g, 0, none⟩) n cap) (hown : w.ownsRow base elem 1 (.slice (some ⟨g, 0, none⟩) n cap) n ys) (hL : Lst w (a.eval s) xs) (hx : xs.length ≤ n) (hne : xs ≠ []) (h1 : ∀ v ∈ xs, v.oneCell' = true)
    (h : ∀ w', w'.ownsRow base elem 1 (.slice (some ⟨g, 0, none⟩) n cap) n (xs ++ ys.drop xs.length) → Below base w w' → wpList P ops Q rest (a.put o.dst (goInt xs.length)) w') : wpList P ops Q (o :: rest) a w := by
  obtain ⟨A, c, hs, hc1, hc2, h3⟩ := hL
  obtain ⟨b, off, rfl, h4⟩ := h3.resolve_left hne
  obtain ⟨hlen, hrow⟩ := hown
  rcases hrow with ⟨e, _⟩ | ⟨g', cap', cur, e, hb, hg, k1, k2, k3, k4⟩
  · cases e
  · injection e with e1 _ e2
    injection e1 with e1
    injection e1 with e1
    subst e1
    subst e2
    refine wpList_copy_own hgd d s dT sT ho elem hu hsz g 0 n cap ⟨b, off, none⟩ xs.length c hd hs cur elem hg xs (Nat.min_eq_left hx).symm (fun j v hv => by rw [Addr.add_lit]; exact h4 j v hv) (by omega) h1 ?_
    refine h _ ⟨?_, .inr ⟨g, cap, _, rfl, hb, setRow_heap w g _ _ elem _ hg, k1, k2, ?_, ?_⟩⟩ (below_setRow (Below.refl _ _) hb _)
    · rw [List.length_append, List.length_drop, hlen]
      omega
    · simp
      omega
    · rw [← k4]
      simp only [List.take_zero, List.nil_append, Nat.zero_add]
      rw [List.take_append, List.take_of_length_le (by omega), List.drop_take]
/-- the same as a run, to be laid ahead of the walk -/
theorem run_copy_own {P : Program} {w : World} (dT sT ty elem : TypeId) (hu : P.underlying dT = some (.slice elem)) (hsz : (P.info? elem).map (·.size) = some 1)
    (base g n cap : Nat) (sv : Value) (xs ys : List Value) (hown : w.ownsRow base elem 1 (.slice (some ⟨g, 0, none⟩) n cap) n ys) (hL : Lst w sv xs) (hx : xs.length ≤ n) (hne : xs ≠ []) (h1 : ∀ v ∈ xs, v.oneCell' = true) :
    ∃ w', (Builtin.copy_ #[dT, sT] ty #[.slice (some ⟨g, 0, none⟩) n cap, sv]).run P w = .ok (goInt xs.length) w' ∧ w'.ownsRow base elem 1 (.slice (some ⟨g, 0, none⟩) n cap) n (xs ++ ys.drop xs.length) ∧ Below base w w' := by
  obtain ⟨A, c, rfl, hc1, hc2, h3⟩ := hL
  obtain ⟨b, off, rfl, h4⟩ := h3.resolve_left hne
  obtain ⟨hlen, hrow⟩ := hown
  rcases hrow with ⟨e, _⟩ | ⟨g', cap', cur, e, hb, hg, k1, k2, k3, k4⟩
  · cases e
  · injection e with e1 _ e2
    injection e1 with e1
    injection e1 with e1
    subst e1
    subst e2
    refine ⟨_, run_copy_row (P := P) w dT sT ty elem g 0 n cap ⟨b, off, none⟩ xs.length c cur elem xs hu hsz hg (Nat.min_eq_left hx).symm (fun j v hv => by rw [Addr.add_lit]; exact h4 j v hv) (by omega) h1, ⟨?_, .inr ⟨g, cap, _, rfl, hb, setRow_heap w g _ _ elem _ hg, k1, k2, ?_, ?_⟩⟩, below_setRow (Below.refl _ _) hb _⟩
    · rw [List.length_append, List.length_drop, hlen]
      omega
    · simp
      omega
    · rw [← k4]
      simp only [List.take_zero, List.nil_append, Nat.zero_add]
      rw [List.take_append, List.take_of_length_le (by omega), List.drop_take]
end Go.Proofs.Ytjmijedfmiplfaa
