/- Texts put together. -/
import Derived.Test.YtbbcdeknnfghkaaMgX9
import Derived.Test.YtbbcdeknnfghkaaChecked
import Derived.Test.YtbbcdeknnfghkaaMgX7
import Derived.Test.YtbbcdeknnfghkaaMgX3
/- Lists of texts in ascending order, each once; the factors of a word. No program in it. -/
namespace Go.Proofs.Ytbbcdeknnfghkaa
open Go.RowKit

def lessB (a b : ByteArray) : Bool := Op.bytesLess a.toList b.toList
theorem bl_self : ∀ a : List UInt8, Op.bytesLess a a = false
  | [] => rfl
  | x :: a => by simp [Op.bytesLess, bl_self a]
theorem bl_trans : ∀ a b c : List UInt8, Op.bytesLess a b = true → Op.bytesLess b c = true → Op.bytesLess a c = true
  | _, [], c, h, _ => by cases ‹List UInt8› <;> simp [Op.bytesLess] at h
  | _, _ :: _, [], _, k => by simp [Op.bytesLess] at k
  | [], _ :: _, _ :: _, _, _ => by simp [Op.bytesLess]
  | x :: a, y :: b, z :: c, h, k => by
    have ih := bl_trans a b c
    simp only [Op.bytesLess, Bool.or_eq_true, Bool.and_eq_true, decide_eq_true_eq, beq_iff_eq] at h k ⊢
    rcases h with h | ⟨rfl, h⟩
    · rcases k with k | ⟨rfl, _⟩
      · exact .inl (UInt8.lt_trans h k)
      · exact .inl h
    · rcases k with k | ⟨rfl, k⟩
      · exact .inl k
      · exact .inr ⟨rfl, ih h k⟩
theorem bl_tri : ∀ a b : List UInt8, Op.bytesLess a b = true ∨ a = b ∨ Op.bytesLess b a = true
  | [], [] => .inr (.inl rfl)
  | [], _ :: _ => .inl (by simp [Op.bytesLess])
  | _ :: _, [] => .inr (.inr (by simp [Op.bytesLess]))
  | x :: a, y :: b => by
    simp only [Op.bytesLess, Bool.or_eq_true, Bool.and_eq_true, decide_eq_true_eq, beq_iff_eq]
    rcases (show x < y ∨ x = y ∨ y < x by
      rcases Nat.lt_trichotomy x.toNat y.toNat with h | h | h
      · exact .inl (UInt8.lt_iff_toNat_lt.2 h)
      · exact .inr (.inl (UInt8.toNat.inj h))
      · exact .inr (.inr (UInt8.lt_iff_toNat_lt.2 h))) with h | rfl | h
    · exact .inl (.inl h)
    · rcases bl_tri a b with k | rfl | k
      · exact .inl (.inr ⟨rfl, k⟩)
      · exact .inr (.inl rfl)
      · exact .inr (.inr (.inr ⟨rfl, k⟩))
    · exact .inr (.inr (.inl h))
theorem less_self (a : ByteArray) : ¬ lessB a a = true := by unfold lessB; rw [bl_self]; decide
theorem less_trans {a b c : ByteArray} (h : lessB a b = true) (k : lessB b c = true) : lessB a c = true := bl_trans _ _ _ h k
theorem less_tri (a b : ByteArray) : lessB a b = true ∨ a = b ∨ lessB b a = true := by
  rcases bl_tri a.toList b.toList with h | h | h
  · exact .inl h
  · exact .inr (.inl (bytes_ext h))
  · exact .inr (.inr h)
def Asc (l : List ByteArray) : Prop := l.Pairwise fun a b => lessB a b = true
theorem asc_ext : ∀ {l m : List ByteArray}, Asc l → Asc m → (∀ x, x ∈ l ↔ x ∈ m) → l = m
  | [], [], _, _, _ => rfl
  | [], b :: m, _, _, h => absurd ((h b).2 (List.mem_cons_self ..)) (by simp)
  | a :: l, [], _, _, h => absurd ((h a).1 (List.mem_cons_self ..)) (by simp)
  | a :: l, b :: m, hl, hm, h => by
    obtain ⟨l1, l2⟩ := List.pairwise_cons.1 hl
    obtain ⟨m1, m2⟩ := List.pairwise_cons.1 hm
    have e : a = b := by
      rcases List.mem_cons.1 ((h a).1 (List.mem_cons_self ..)) with e | e
      · exact e
      · rcases List.mem_cons.1 ((h b).2 (List.mem_cons_self ..)) with e' | e'
        · exact e'.symm
        · exact absurd (less_trans (m1 a e) (l1 b e')) (less_self b)
    subst e
    congr 1
    refine asc_ext l2 m2 (fun x => ⟨fun hx => ?_, fun hx => ?_⟩)
    · rcases List.mem_cons.1 ((h x).1 (List.mem_cons_of_mem _ hx)) with e | e
      · subst e; exact absurd (l1 x hx) (less_self x)
      · exact e
    · rcases List.mem_cons.1 ((h x).2 (List.mem_cons_of_mem _ hx)) with e | e
      · subst e; exact absurd (m1 x hx) (less_self x)
      · exact e
/-- one more text, if it is not there -/
def insL : List ByteArray → ByteArray → List ByteArray
  | [], x => [x]
  | a :: l, x => if lessB x a = true then x :: a :: l else if lessB a x = true then a :: insL l x else a :: l
theorem insL_mem : ∀ (l : List ByteArray) (x y : ByteArray), y ∈ insL l x ↔ (y = x ∨ y ∈ l)
  | [], x, y => by simp [insL]
  | a :: l, x, y => by
    unfold insL
    by_cases h1 : lessB x a = true
    · rw [if_pos h1]; simp
    · rw [if_neg h1]
      by_cases h2 : lessB a x = true
      · rw [if_pos h2, List.mem_cons, insL_mem l x y, List.mem_cons]
        constructor
        · rintro (e | e | e)
          · exact .inr (.inl e)
          · exact .inl e
          · exact .inr (.inr e)
        · rintro (e | e | e)
          · exact .inr (.inl e)
          · exact .inl e
          · exact .inr (.inr e)
      · rw [if_neg h2]
        have e : a = x := by
          rcases less_tri a x with e | e | e
          · exact absurd e h2
          · exact e
          · exact absurd e h1
        subst e
        simp
theorem insL_asc : ∀ {l : List ByteArray} (x : ByteArray), Asc l → Asc (insL l x)
  | [], x, _ => by simp [insL, Asc]
  | a :: l, x, h => by
    obtain ⟨h1, h2⟩ := List.pairwise_cons.1 h
    unfold insL
    by_cases k1 : lessB x a = true
    · rw [if_pos k1]
      refine List.pairwise_cons.2 ⟨fun y hy => ?_, h⟩
      rcases List.mem_cons.1 hy with e | e
      · rw [e]; exact k1
      · exact less_trans k1 (h1 y e)
    · rw [if_neg k1]
      by_cases k2 : lessB a x = true
      · rw [if_pos k2]
        refine List.pairwise_cons.2 ⟨fun y hy => ?_, insL_asc x h2⟩
        rcases (insL_mem l x y).1 hy with e | e
        · rw [e]; exact k2
        · exact h1 y e
      · rw [if_neg k2]; exact h
theorem insL_there {l : List ByteArray} {x : ByteArray} (h : Asc l) (hx : x ∈ l) : insL l x = l :=
  asc_ext (insL_asc x h) h fun y => by
    rw [insL_mem]
    constructor
    · rintro (rfl | e)
      · exact hx
      · exact e
    · exact .inr
/-- laid at its place -/
theorem insL_at {l : List ByteArray} {x : ByteArray} (h : Asc l) {k : Nat} (hk : k ≤ l.length) (h1 : ∀ (j : Nat) (hj : j < l.length), k ≤ j → lessB x l[j] = true) (h2 : ∀ (j : Nat) (hj : j < l.length), j < k → lessB l[j] x = true) : l.take k ++ x :: l.drop k = insL l x := by
  refine asc_ext ?_ (insL_asc x h) fun y => ?_
  · refine List.pairwise_append.2 ⟨h.sublist (List.take_sublist _ _), List.pairwise_cons.2 ⟨fun y hy => ?_, h.sublist (List.drop_sublist _ _)⟩, fun a ha b hb => ?_⟩
    · obtain ⟨j, hj, rfl⟩ := List.mem_iff_getElem.1 hy
      rw [List.length_drop] at hj
      rw [List.getElem_drop]
      exact h1 _ (by omega) (by omega)
    · obtain ⟨j, hj, rfl⟩ := List.mem_iff_getElem.1 ha
      rw [List.length_take] at hj
      rw [List.getElem_take]
      have hjx := h2 j (by omega) (by omega)
      rcases List.mem_cons.1 hb with e | e
      · rw [e]; exact hjx
      · obtain ⟨i, hi, rfl⟩ := List.mem_iff_getElem.1 e
        rw [List.length_drop] at hi
        rw [List.getElem_drop]
        exact less_trans hjx (h1 _ (by omega) (by omega))
  · rw [insL_mem]
    have e : y ∈ l ↔ y ∈ l.take k ∨ y ∈ l.drop k := by
      rw [← List.mem_append, List.take_append_drop]
    rw [e, List.mem_append, List.mem_cons]
    constructor
    · rintro (a | a | a)
      · exact .inr (.inl a)
      · exact .inl a
      · exact .inr (.inr a)
    · rintro (a | a | a)
      · exact .inr (.inl a)
      · exact .inl a
      · exact .inr (.inr a)
/-- the factors of n letters that begin at the first indexes -/
def facTo (s : ByteArray) (n : Nat) : Nat → List ByteArray
  | 0 => []
  | i + 1 => insL (facTo s n i) (s.extract i (i + n))
theorem facTo_asc (s : ByteArray) (n : Nat) : ∀ i, Asc (facTo s n i)
  | 0 => List.Pairwise.nil
  | i + 1 => insL_asc _ (facTo_asc s n i)
theorem facTo_mem (s : ByteArray) (n : Nat) (x : ByteArray) : ∀ i, x ∈ facTo s n i ↔ ∃ j, j < i ∧ x = s.extract j (j + n)
  | 0 => by simp [facTo]
  | i + 1 => by
    show x ∈ insL _ _ ↔ _
    rw [insL_mem, facTo_mem s n x i]
    constructor
    · rintro (e | ⟨j, h, e⟩)
      · exact ⟨i, by omega, e⟩
      · exact ⟨j, by omega, e⟩
    · rintro ⟨j, h, e⟩
      by_cases hj : j = i
      · subst hj; exact .inl e
      · exact .inr ⟨j, by omega, e⟩
/-- what FixedFactors is to return -/
def facOk (l : List ByteArray) (t : ByteArray) (n : Int) : Bool := growOk l t && (decide (1 ≤ n) && decide (n ≤ 8))
def facR (l : List ByteArray) (t : ByteArray) (n : Int) : List ByteArray := if facOk l t n = true then facTo ⟨(fixL l (letN t) 400).toArray⟩ n.toNat (401 - n.toNat) else []
end Go.Proofs.Ytbbcdeknnfghkaa

/- WordOk of the model and its count of a letter. No condition but that a text has at most 2^63 bytes. -/
namespace Go.Proofs.Ytbbcdeknnfghkaa
open Go.RowKit

set_option maxHeartbeats 400000 in
theorem specWordOk (s : ByteArray) (w : World) :
    Calls Try.prog 53 #[.string s] w fun e w' => e = .returned (.bool (wordB s)) ∧ w = w' := by
  by_cases hl : 400 < s.size
  · have HE := Lib.hid (word_long hl)
    go_enter Try.func53, Try.ntmps53
    go_wp2
    go_ret
    exact ⟨ret_bool HE.out.symm, rfl⟩
  have hs : s.size ≤ 400 := by omega
  go_enter Try.func53, Try.ntmps53
  go_wp2
  go_loop [3] (fun i => ∃ k : Nat, k ≤ s.size ∧ i = .int .i64 k ∧ (s.data.toList.take k).all isAbcd = true) (fun i => s.size - (intOf i).toNat)
  case atStart => exact ⟨0, Nat.zero_le _, rfl, rfl⟩
  case round =>
    obtain ⟨k, hk, rfl, ha⟩ := hrel
    have HA := Lib.hid ha
    clear ha
    by_cases hlt : k < s.size
    · by_cases h1 : s[k].toNat < 97
      · have h1' : ((s[k].toNat : Int) < 97) := by omega
        have HN := Lib.hid (word_not (s := s) k hlt (by simp [isAbcd]; omega))
        go_wp2
        go_ret
        exact ⟨ret_bool HN.out.symm, rfl⟩
      · by_cases h2 : 100 < s[k].toNat
        · have h1' : ¬ ((s[k].toNat : Int) < 97) := by omega
          have h2' : ((100 : Int) < s[k].toNat) := by omega
          have HN := Lib.hid (word_not (s := s) k hlt (by simp [isAbcd]; omega))
          go_wp2
          go_ret
          exact ⟨ret_bool HN.out.symm, rfl⟩
        · have h1' : ¬ ((s[k].toNat : Int) < 97) := by omega
          have h2' : ¬ ((100 : Int) < s[k].toNat) := by omega
          go_wp2
          go_round
          case rel => exact ⟨k + 1, by omega, by go_num, all_snoc s k hlt HA.out (by simp [isAbcd]; omega)⟩
          case measure => simp [intOf]; omega
    · have hk' : k = s.size := by omega
      subst hk'
      have HY := Lib.hid (word_yes hs HA.out)
      go_wp2
      go_ret
      exact ⟨ret_bool HY.out.symm, rfl⟩

set_option maxHeartbeats 400000 in
theorem specCount (s : ByteArray) (c : UInt8) (w : World) (hs : s.size ≤ 1048576) :
    Calls Try.prog 88 #[.string s, .int .u8 c.toNat] w fun e w' => e = .returned (.int .i64 (cnt s.data.toList c)) ∧ w = w' := by
  go_enter Try.func88, Try.ntmps88
  go_wp2
  go_loop [5, 6] (fun n i => ∃ (k m : Nat), k ≤ s.size ∧ i = .int .i64 k ∧ n = .int .i64 m ∧ m ≤ k ∧ m = cnt (s.data.toList.take k) c) (fun _ i => s.size - (intOf i).toNat)
  case atStart => exact ⟨0, 0, Nat.zero_le _, rfl, rfl, by omega, rfl⟩
  case round =>
    obtain ⟨k, m, hk, rfl, rfl, hm, hc⟩ := hrel
    have HC := Lib.hid hc
    clear hc
    by_cases hlt : k < s.size
    · have HS := Lib.hid (cnt_succ s k hlt c)
      by_cases he : s[k] = c
      · have hb : ((s[k].toNat : Int) == (c.toNat : Int)) = true := by rw [he]; simp
        have HE := Lib.hid he
        clear he
        go_wp2
        go_round
        case rel => exact ⟨k + 1, m + 1, by omega, by go_num, by go_num, by omega, by rw [HS.out, if_pos HE.out, HC.out]⟩
        case measure => simp [intOf]; omega
      · have hb : ((s[k].toNat : Int) == (c.toNat : Int)) = false := by
          rw [beq_eq_false_iff_ne]
          intro h
          exact he (UInt8.toNat_inj.1 (by omega))
        have HE := Lib.hid he
        clear he
        go_wp2
        go_round
        case rel => exact ⟨k + 1, m, by omega, by go_num, rfl, by omega, by rw [HS.out, if_neg HE.out, HC.out]; rfl⟩
        case measure => simp [intOf]; omega
    · have hk' : k = s.size := by omega
      subst hk'
      go_wp2
      go_ret
      refine ⟨ret_int ?_, rfl⟩
      rw [HC.out, take_all s _ (Nat.le_refl _)]
end Go.Proofs.Ytbbcdeknnfghkaa

/- IsFactor and PlacesIn of the model. Condition: texts of at most 2^20 bytes. -/
namespace Go.Proofs.Ytbbcdeknnfghkaa
open Go.RowKit

theorem slice_at {P : Program} {t : TypeId} (ht : P.underlying t = some .string) (s : ByteArray) (k n : Nat) (w : World) (h : k + n ≤ s.size) :
    (Instr.slice t (.string s) (some (.int .i64 (k : Int))) (some (.int .i64 ((k : Int) + (n : Int)))) none).run P w = .ok (.string (s.extract k (k + n))) w := by
  rw [run_slice_string (P := P) w t s .i64 .i64 (k : Int) ((k : Int) + (n : Int)) ht (by omega) (by omega) (by omega)]
  rw [show ((k : Int) + (n : Int)).toNat = k + n from by omega, Int.toNat_natCast]

/-- f begins at i in s -/
def At (s f : ByteArray) (i : Nat) : Prop := i + f.size ≤ s.size ∧ s.extract i (i + f.size) = f
noncomputable def hasR (s f : ByteArray) : Bool := @decide (∃ i, At s f i) (Classical.propDecidable _)
theorem hasR_yes {s f : ByteArray} {i : Nat} (h : At s f i) : hasR s f = true := by
  unfold hasR
  exact @decide_eq_true _ (Classical.propDecidable _) ⟨i, h⟩
theorem hasR_no {s f : ByteArray} {k : Nat} (h : ∀ i, i < k → ¬ At s f i) (hk : ¬ k + f.size ≤ s.size) : hasR s f = false := by
  unfold hasR
  rw [decide_eq_false_iff_not]
  rintro ⟨i, hi⟩
  rcases Nat.lt_or_ge i k with hlt | hge
  · exact h i hlt hi
  · exact hk (by have := hi.1; omega)

set_option maxHeartbeats 400000 in
theorem specHas (s f : ByteArray) (w : World) (hs : s.size ≤ 1048576) (hf : f.size ≤ 1048576) :
    Calls Try.prog 74 #[.string s, .string f] w fun e w' => e = .returned (.bool (hasR s f)) ∧ w = w' := by
  go_enter Try.func74, Try.ntmps74
  go_wp2
  go_loop [5] (fun i => ∃ k : Nat, k ≤ s.size + 1 ∧ i = .int .i64 k ∧ ∀ j, j < k → ¬ At s f j) (fun i => s.size + 1 - (intOf i).toNat)
  case atStart => exact ⟨0, by omega, rfl, fun j h => absurd h (by omega)⟩
  case round =>
    obtain ⟨k, hk, rfl, hno⟩ := hrel
    have HN := Lib.hid hno
    clear hno
    by_cases hlt : k + f.size ≤ s.size
    · have hsl : ∀ w : World, (Instr.slice 9 (.string s) (some (.int .i64 (k : Int))) (some (.int .i64 ((k : Int) + (f.size : Int)))) none).run Try.prog w = .ok (.string (s.extract k (k + f.size))) w := fun w => slice_at Try.underlying9 s k f.size w hlt
      by_cases he : s.extract k (k + f.size) = f
      · have HY := Lib.hid (hasR_yes (i := k) ⟨hlt, he⟩)
        have hb : ((s.extract k (k + f.size)).toList == f.toList) = true := by rw [he]; simp
        clear he
        go_wp2
        go_ret
        exact ⟨ret_bool HY.out.symm, rfl⟩
      · have hb : ((s.extract k (k + f.size)).toList == f.toList) = false := by
          rw [beq_eq_false_iff_ne]
          exact fun h => he (bytes_ext h)
        have HE := Lib.hid he
        clear he
        go_wp2
        go_round
        case rel =>
          refine ⟨k + 1, by omega, by go_num, fun j hj => ?_⟩
          by_cases e : j = k
          · subst e; exact fun h => HE.out h.2
          · exact HN.out j (by omega)
        case measure => simp [intOf]; omega
    · have HX := Lib.hid (hasR_no HN.out hlt)
      go_wp2
      go_ret
      exact ⟨ret_bool HX.out.symm, rfl⟩

/-- what IsFactor is to return -/
noncomputable def factR (s f : ByteArray) : Bool := wordB s && (wordB f && hasR s f)
open Classical in
/-- the places below k at which f begins -/
noncomputable def placesTo (s f : ByteArray) : Nat → List Int
  | 0 => []
  | k + 1 => if At s f k then placesTo s f k ++ [(k : Int)] else placesTo s f k
theorem placesTo_le (s f : ByteArray) : ∀ k, (placesTo s f k).length ≤ k
  | 0 => by simp [placesTo]
  | k + 1 => by
    have := placesTo_le s f k
    unfold placesTo
    split
    · simp; omega
    · omega
open Classical in
/-- what PlacesIn is to return -/
noncomputable def placesR (s f : ByteArray) : List Int := if wordB s = true ∧ wordB f = true ∧ f.size ≠ 0 then placesTo s f (s.size + 1) else []
theorem placesR_le (s f : ByteArray) : (placesR s f).length ≤ s.size + 1 := by
  unfold placesR; split
  · exact placesTo_le s f _
  · simp
theorem placesTo_more {s f : ByteArray} (k : Nat) (hk : ¬ k + f.size ≤ s.size) : ∀ n, placesTo s f (k + n) = placesTo s f k
  | 0 => rfl
  | n + 1 => by
    show placesTo s f ((k + n) + 1) = _
    rw [placesTo, if_neg (fun h => hk (by have := h.1; omega)), placesTo_more k hk n]

end Go.Proofs.Ytbbcdeknnfghkaa
