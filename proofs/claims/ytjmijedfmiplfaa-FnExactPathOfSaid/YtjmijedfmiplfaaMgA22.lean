/- Texts put together. -/
import Derived.Test.YtjmijedfmiplfaaMgA20
import Derived.Test.YtjmijedfmiplfaaMgA21
import Derived.Test.YtjmijedfmiplfaaMgA6
import Derived.Test.YtjmijedfmiplfaaMgA4
import Derived.Maps.AppendAt
/- The mathematics of FnPeriods, third part: shifts. No program in it. -/
namespace Go.Proofs.Ytjmijedfmiplfaa
open Go.RowKit

theorem rot_size (s : ByteArray) {k : Nat} (hk : k ≤ s.size) : (rotS s k).size = s.size := by
  unfold rotS
  rw [ByteArray.size_append, ByteArray.size_extract, ByteArray.size_extract]
  omega
theorem rot_get (s : ByteArray) {k i : Nat} (hk : k ≤ s.size) (hi : i < s.size) : (rotS s k).data.toList[i]? = s.data.toList[(k + i) % s.size]? := by
  have hl := pl_len s
  rw [rot_list s k hk]
  by_cases h : i < s.size - k
  · rw [List.getElem?_append_left (by rw [List.length_drop, hl]; exact h), List.getElem?_drop, Nat.mod_eq_of_lt (by omega)]
  · rw [List.getElem?_append_right (by rw [List.length_drop, hl]; omega), List.length_drop, hl, List.getElem?_take, if_pos (by omega)]
    congr 1
    rw [Nat.mod_eq_sub_mod (by omega), Nat.mod_eq_of_lt (by omega)]
    omega
theorem rot_rot (s : ByteArray) {k j : Nat} (hk : k ≤ s.size) (hj : j < s.size) : rotS (rotS s k) j = rotS s ((k + j) % s.size) := by
  have hz := rot_size s hk
  have hm : (k + j) % s.size < s.size := Nat.mod_lt _ (by omega)
  refine pl_ext (by rw [rot_size _ (by omega), hz, rot_size s (by omega)]) fun i hi => ?_
  rw [rot_size _ (by omega), hz] at hi
  rw [rot_get _ (by omega) (by omega), hz, rot_get s hk (Nat.mod_lt _ (by omega)), rot_get s (by omega) hi]
  congr 1
  rw [Nat.add_mod_mod, Nat.mod_add_mod, Nat.add_assoc]
theorem rot_zero (s : ByteArray) : rotS s 0 = s := by
  refine pl_ext (rot_size s (Nat.zero_le _)) fun i hi => ?_
  rw [rot_size s (Nat.zero_le _)] at hi
  rw [rot_get s (Nat.zero_le _) hi, Nat.zero_add, Nat.mod_eq_of_lt hi]
/-- the least shift is not behind any other -/
theorem ls_least (s : ByteArray) : ∀ k, ∀ j, j < k → ¬ lessB (rotS s j) (rotS s (lsTo s k)) = true
  | 0, j, h => absurd h (by omega)
  | k + 1, j, h => by
    have ih := ls_least s k
    by_cases hc : lessB (rotS s k) (rotS s (lsTo s k)) = true
    · have e : lsTo s (k + 1) = k := if_pos hc
      rw [e]
      by_cases hj : j = k
      · subst hj; exact less_self _
      · intro hh
        exact ih j (by omega) (less_trans hh hc)
    · have e : lsTo s (k + 1) = lsTo s k := if_neg hc
      rw [e]
      by_cases hj : j = k
      · subst hj; exact hc
      · exact ih j (by omega)
theorem ls_lt {s : ByteArray} (h : 1 ≤ s.size) : lsTo s s.size < s.size := by
  have : ∀ k, 1 ≤ k → lsTo s k < k := by
    intro k
    induction k with
    | zero => intro hk; omega
    | succ k ih =>
      intro _
      by_cases hc : lessB (rotS s k) (rotS s (lsTo s k)) = true
      · have e : lsTo s (k + 1) = k := if_pos hc
        omega
      · have e : lsTo s (k + 1) = lsTo s k := if_neg hc
        have := lsTo_lt s k
        omega
  exact this _ h
/-- two shifts of a word that is no power part -/
theorem rot_part {s : ByteArray} (h : 1 ≤ s.size) (hr : rtN s = s.size) {a b : Nat} (hab : a < b) (hb : b < s.size) : rotS s a ≠ rotS s b := fun he => by
  have hall : ∀ i, s.data.toList[(a + i) % s.size]? = s.data.toList[(b + i) % s.size]? := fun i => by
    have hm : i % s.size < s.size := Nat.mod_lt _ (by omega)
    have h1 := rot_get s (k := a) (i := i % s.size) (by omega) hm
    have h2 := rot_get s (k := b) (i := i % s.size) (by omega) hm
    rw [Nat.add_mod_mod] at h1 h2
    rw [← h1, ← h2, he]
  let f : Nat → Option UInt8 := fun i => s.data.toList[i % s.size]?
  have hp : PdF f (s.size + (b - a)) (b - a) := fun i _ => by
    have := hall (i + (s.size - a))
    show s.data.toList[i % s.size]? = s.data.toList[(i + (b - a)) % s.size]?
    rw [show a + (i + (s.size - a)) = i + s.size by omega, Nat.add_mod_right, show b + (i + (s.size - a)) = i + (b - a) + s.size by omega, Nat.add_mod_right] at this
    exact this
  have hq : PdF f (s.size + (b - a)) s.size := fun i _ => by
    show s.data.toList[i % s.size]? = s.data.toList[(i + s.size) % s.size]?
    rw [Nat.add_mod_right]
  have hg := fine_wilf f ((b - a) + s.size) (b - a) s.size (s.size + (b - a)) (Nat.le_refl _) (by omega) h (by omega) hp hq
  have hgd : Nat.gcd (b - a) s.size ∣ s.size := Nat.gcd_dvd_right _ _
  have hgl : Nat.gcd (b - a) s.size ≤ b - a := Nat.le_of_dvd (by omega) (Nat.gcd_dvd_left _ _)
  have hg1 : 1 ≤ Nat.gcd (b - a) s.size := Nat.gcd_pos_of_pos_left _ (by omega)
  have hper : PerAt s (Nat.gcd (b - a) s.size) := fun i hi => by
    have := hg i (by omega)
    have this : s.data.toList[i % s.size]? = s.data.toList[(i + Nat.gcd (b - a) s.size) % s.size]? := this
    rwa [Nat.mod_eq_of_lt (by omega), Nat.mod_eq_of_lt hi] at this
  have := (rt_spec h).2.2.2 _ hg1 ⟨Nat.mod_eq_zero_of_dvd hgd, hper⟩
  omega
/-- a power is one of its own shifts -/
theorem rot_power {s : ByteArray} (h : 1 ≤ s.size) (hr : rtN s < s.size) {k : Nat} (hk : k < s.size) : rotS (rotS s k) (rtN s) = rotS s k := by
  obtain ⟨⟨a1, a2⟩, b, c, _⟩ := rt_spec h
  have hd : rtN s ∣ s.size := Nat.dvd_of_mod_eq_zero a1
  rw [rot_rot s (by omega) hr]
  have hm : (k + rtN s) % s.size < s.size := Nat.mod_lt _ (by omega)
  refine pl_ext (by rw [rot_size s (by omega), rot_size s (by omega)]) fun i hi => ?_
  rw [rot_size s (by omega)] at hi
  rw [rot_get s (by omega) hi, rot_get s (by omega) hi, Nat.mod_add_mod, per_mod a2 _ (Nat.mod_lt _ (by omega)), per_mod a2 ((k + i) % s.size) (Nat.mod_lt _ (by omega)), Nat.mod_mod_of_dvd _ hd, Nat.mod_mod_of_dvd _ hd]
  congr 1
  rw [show k + rtN s + i = k + i + rtN s by omega, Nat.add_mod_right]
/-- the least shift is a Lyndon word exactly if the word is no power -/
theorem ls_lyn {s : ByteArray} (h : 1 ≤ s.size) : LynAt (rotS s (lsTo s s.size)) ↔ rtN s = s.size := by
  have hk := ls_lt h
  have hl := ls_least s s.size
  generalize lsTo s s.size = k at *
  have hz := rot_size s (k := k) (by omega)
  obtain ⟨_, b, c, _⟩ := rt_spec h
  constructor
  · intro hL
    by_cases hr : rtN s < s.size
    · exfalso
      have := hL.2 (rtN s) b (by rw [hz]; exact hr)
      rw [rot_power h hr hk] at this
      exact less_self _ this
    · omega
  · intro hr
    refine ⟨by omega, fun j h1 h2 => ?_⟩
    rw [hz] at h2
    rw [rot_rot s (by omega) h2]
    have hm : (k + j) % s.size < s.size := Nat.mod_lt _ (by omega)
    have hne : (k + j) % s.size ≠ k := fun e => by
      by_cases hc : k + j < s.size
      · rw [Nat.mod_eq_of_lt hc] at e; omega
      · rw [Nat.mod_eq_sub_mod (by omega), Nat.mod_eq_of_lt (by omega)] at e; omega
    rcases less_tri (rotS s k) (rotS s ((k + j) % s.size)) with q | q | q
    · exact q
    · exfalso
      by_cases hlt : k < (k + j) % s.size
      · exact rot_part h hr hlt hm q
      · exact rot_part h hr (by omega) hk q.symm
    · exact absurd q (hl _ hm)
end Go.Proofs.Ytjmijedfmiplfaa

/- The mathematics of FnPeriods, fourth part: the parts make the word. No program in it. -/
namespace Go.Proofs.Ytjmijedfmiplfaa
open Go.RowKit

/-- one text of many -/
def flatB : List ByteArray → ByteArray
  | [] => ⟨#[]⟩
  | x :: l => x ++ flatB l
theorem cut_app (s : ByteArray) {i n : Nat} (h : i + n ≤ s.size) : s.extract i (i + n) ++ s.extract (i + n) s.size = s.extract i s.size := by
  have h1 : s.extract i s.size = s.extract i (i + (s.size - i)) := by rw [Nat.add_sub_cancel' (by omega)]
  have h2 : s.extract (i + n) s.size = s.extract (i + n) (i + n + (s.size - (i + n))) := by rw [Nat.add_sub_cancel' h]
  apply bytes_ext
  rw [ByteArray.toList_eq, ByteArray.toList_eq, ByteArray.data_append, Array.toList_append, h1, h2, part_list, part_list, part_list, ← List.drop_drop]
  rw [show s.size - i = n + (s.size - (i + n)) by omega, List.take_add]
theorem lyTo_spec (s : ByteArray) : ∀ f i, i ≤ s.size → s.size ≤ i + f → flatB (lyTo s i f) = s.extract i s.size ∧ (∀ x ∈ lyTo s i f, LynAt x)
  | 0, i, h1, h2 => by
    have : i = s.size := by omega
    subst this
    refine ⟨?_, fun x hx => by cases hx⟩
    exact (pl_zero (by rw [ByteArray.size_extract]; omega)).symm
  | f + 1, i, h1, h2 => by
    by_cases hi : i < s.size
    · have e : lyTo s i (f + 1) = s.extract i (i + lyLen s i (s.size - i)) :: lyTo s (i + lyLen s i (s.size - i)) f := if_pos hi
      have hp := lyLen_pos hi
      have hl := lyLen_le s i (s.size - i)
      have hL := (lyLen_spec s i (s.size - i)).1 hp
      rw [e]
      generalize lyLen s i (s.size - i) = n at *
      obtain ⟨a, b⟩ := lyTo_spec s f (i + n) (by omega) (by omega)
      refine ⟨?_, fun x hx => ?_⟩
      · show s.extract i (i + n) ++ flatB (lyTo s (i + n) f) = _
        rw [a]
        exact cut_app s (by omega)
      · rcases List.mem_cons.1 hx with rfl | hx
        · exact hL
        · exact b x hx
    · have e : lyTo s i (f + 1) = [] := if_neg hi
      have : i = s.size := by omega
      rw [e]
      subst this
      refine ⟨?_, fun x hx => by cases hx⟩
      exact (pl_zero (by rw [ByteArray.size_extract]; omega)).symm
/-- no part comes behind the one before it -/
theorem lyTo_down (s : ByteArray) : ∀ f i, i ≤ s.size → s.size ≤ i + f → ∀ q (h : q + 1 < (lyTo s i f).length), ¬ lessB (lyTo s i f)[q] (lyTo s i f)[q + 1] = true
  | 0, i, h1, h2 => fun q h => by have h : q + 1 < 0 := h; omega
  | f + 1, i, h1, h2 => fun q h => by
    by_cases hi : i < s.size
    · have e : lyTo s i (f + 1) = s.extract i (i + lyLen s i (s.size - i)) :: lyTo s (i + lyLen s i (s.size - i)) f := if_pos hi
      have hp := lyLen_pos hi
      have hl := lyLen_le s i (s.size - i)
      have hd := fun m a b c => ly_down (s := s) (i := i) (m := m) hi a b c
      simp only [e] at h ⊢
      generalize hn : lyLen s i (s.size - i) = n at *
      rcases q with _ | q
      · rw [List.getElem_cons_zero, List.getElem_cons_succ]
        rw [List.length_cons] at h
        by_cases hi2 : i + n < s.size
        · obtain ⟨f', rfl⟩ : ∃ f', f = f' + 1 := ⟨f - 1, by omega⟩
          have e2 : lyTo s (i + n) (f' + 1) = s.extract (i + n) (i + n + lyLen s (i + n) (s.size - (i + n))) :: lyTo s (i + n + lyLen s (i + n) (s.size - (i + n))) f' := if_pos hi2
          have hp2 := lyLen_pos hi2
          have hl2 := lyLen_le s (i + n) (s.size - (i + n))
          have hL2 := (lyLen_spec s (i + n) (s.size - (i + n))).1 hp2
          simp only [e2, List.getElem_cons_zero]
          exact hd _ hp2 (by omega) hL2
        · exfalso
          have e2 : lyTo s (i + n) f = [] := by
            cases f with
            | zero => rfl
            | succ f => exact if_neg hi2
          rw [e2] at h
          simp at h
      · rw [List.length_cons] at h
        exact lyTo_down s f (i + n) (by omega) (by omega) q (by omega)
    · exfalso
      have e : lyTo s i (f + 1) = [] := if_neg hi
      rw [e] at h
      simp at h
theorem lyTo_one {s : ByteArray} (h : 1 ≤ s.size) : (lyTo s 0 s.size).length = 1 ↔ LynAt s := by
  obtain ⟨f, hf⟩ : ∃ f, s.size = f + 1 := ⟨s.size - 1, by omega⟩
  have e : lyTo s 0 (f + 1) = s.extract 0 (0 + lyLen s 0 (s.size - 0)) :: lyTo s (0 + lyLen s 0 (s.size - 0)) f := if_pos (by omega)
  have hp := lyLen_pos (s := s) (i := 0) (by omega)
  have hl := lyLen_le s 0 (s.size - 0)
  have hs := lyLen_spec s 0 (s.size - 0)
  have hw : s.extract 0 s.size = s := by
    refine pl_ext (by rw [ByteArray.size_extract]; omega) fun i hi => ?_
    rw [ByteArray.size_extract] at hi
    have := pz_list s 0 s.size i (by omega)
    rwa [Nat.zero_add, Nat.zero_add] at this
  rw [show lyTo s 0 s.size = lyTo s 0 (f + 1) by rw [hf], e, List.length_cons]
  rw [Nat.zero_add] at *
  rw [Nat.sub_zero] at *
  constructor
  · intro h1
    have h2 : lyTo s (lyLen s 0 s.size) f = [] := List.eq_nil_of_length_eq_zero (by omega)
    have h3 : lyLen s 0 s.size = s.size := by
      by_cases hlt : lyLen s 0 s.size < s.size
      · obtain ⟨f', rfl⟩ : ∃ f', f = f' + 1 := ⟨f - 1, by omega⟩
        have e2 : lyTo s (lyLen s 0 s.size) (f' + 1) = _ :: _ := if_pos hlt
        rw [e2] at h2
        cases h2
      · omega
    have := hs.1 hp
    rwa [h3, hw] at this
  · intro hL
    have h3 : lyLen s 0 s.size = s.size := by
      by_cases hlt : lyLen s 0 s.size < s.size
      · exact absurd (by rw [Nat.zero_add, hw]; exact hL) (hs.2 s.size hlt (Nat.le_refl _))
      · omega
    have h2 : lyTo s (lyLen s 0 s.size) f = [] := by
      rw [h3]
      cases f with
      | zero => rfl
      | succ f => exact if_neg (by omega)
    rw [h2]
    rfl
end Go.Proofs.Ytjmijedfmiplfaa

/- The mathematics of FnPeriods, fifth part: how many Lyndon words there are, reckoned for small numbers. No program in it. -/
namespace Go.Proofs.Ytjmijedfmiplfaa
open Go.RowKit

/-- the sum of those of l at the divisors of m among 1 .. k -/
def prSum (l : List Int) (m : Nat) : Nat → Int
  | 0 => 0
  | d + 1 => prSum l m d + if m % (d + 1) = 0 then l.getD (d + 1) 0 else 0
/-- how many words of 0 .. m letters are no powers -/
def prT (L : Nat) : Nat → List Int
  | 0 => [0]
  | m + 1 => prT L m ++ [(L : Int) ^ (m + 1) - prSum (prT L m) (m + 1) m]
def clyOk (a b : Int) : Bool := (decide (1 ≤ a) && decide (a ≤ 4)) && (decide (1 ≤ b) && decide (b ≤ 12))
/-- what CountLyndon is to return -/
def clyR (a b : Int) : Int := if clyOk a b = true then ((prT a.toNat b.toNat).getD b.toNat 0).tdiv b else -1
/-- a Lyndon word, reckoned -/
def lyC (w : List UInt8) : Bool := !w.isEmpty && (List.range w.length).all fun k => decide (k = 0) || Op.bytesLess w (w.drop k ++ w.take k)
theorem lyC_eq (s : ByteArray) : lyB s = lyC s.data.toList := by
  have hl := pl_len s
  rw [Bool.eq_iff_iff, lyB_iff]
  unfold lyC LynAt
  rw [Bool.and_eq_true, Bool.not_eq_true', List.isEmpty_eq_false_iff, List.all_eq_true, hl]
  constructor
  · rintro ⟨h1, h2⟩
    refine ⟨fun hh => by rw [hh] at hl; simp at hl; omega, fun k hk => ?_⟩
    rw [List.mem_range] at hk
    by_cases h0 : k = 0
    · rw [decide_eq_true h0, Bool.true_or]
    · have := h2 k (by omega) hk
      unfold lessB at this
      rw [ByteArray.toList_eq, ByteArray.toList_eq, rot_list s k (by omega)] at this
      rw [this, Bool.or_true]
  · rintro ⟨h1, h2⟩
    have := List.length_pos_iff.2 h1
    refine ⟨by omega, fun k h3 h4 => ?_⟩
    have := h2 k (List.mem_range.2 h4)
    rw [decide_eq_false (by omega), Bool.false_or] at this
    unfold lessB
    rw [ByteArray.toList_eq, ByteArray.toList_eq, rot_list s k (by omega)]
    exact this
/-- all words of m of the first L letters -/
def allW (L : Nat) : Nat → List (List UInt8)
  | 0 => [[]]
  | m + 1 => (allW L m).flatMap fun w => (List.range L).map fun j => w ++ [letterN j]
theorem cly_small : ∀ L ∈ [1, 2, 3], ∀ m ∈ [1, 2, 3, 4], clyR (L : Nat) (m : Nat) = (((allW L m).filter lyC).length : Int) := by decide +kernel
theorem cly_range : ∀ L ∈ [1, 2, 3, 4], ∀ m ∈ [1, 2, 3, 4, 5, 6, 7, 8, 9, 10, 11, 12], 0 ≤ clyR (L : Nat) (m : Nat) ∧ clyR (L : Nat) (m : Nat) ≤ 16777216 := by decide +kernel
end Go.Proofs.Ytjmijedfmiplfaa

/- append of one element that the walk has just laid, and where the new slice lies: so that a row read meanwhile is seen to stay. -/
namespace Go.Proofs.Ytjmijedfmiplfaa
open Go.RowKit

theorem wpList_append1p {P : Program} (w : World) {ops : Array Oper} {rest : List Oper} {o : Oper} {a : Act} {Q : Exit → Act → World → Prop} (hgd : o.guard = none) (s x : Operand) (t : TypeId)
    (ho : o.op = .call { callee := .builtin .append, args := #[s, x], argTypes := #[t, t] })
    (base : Nat) (e : TypeId) (i : TypeInfo) (z : Value) (bytes : Nat) (ht : P.underlying t = some (.slice e)) (hi : P.info? e = some i) (hz : i.zero = some z)
    (hsize : i.size = 1) (hby : i.bytes = bytes) (hzs : z.cells.size = 1)
    (v : Value) (n : Nat) (xs : List Value) (hs : a.eval s = v) (hown : w.ownsRow base e 1 v n xs)
    (y : Value) (hy : y.oneCell' = true) (hx : a.eval x = .slice (some ⟨w.heap.size, 0, none⟩) 1 1)
    (h63 : n + 1 ≤ maxLen) (hbytes : (n + 1) * bytes ≤ 140737488355328) (hbase : base ≤ w.heap.size)
    (h : ∀ v' w', w'.ownsRow base e 1 v' (n + 1) (xs ++ [y]) → w.grownBy w' v.ownBlock → (v'.ownBlock = v.ownBlock ∨ v'.ownBlock = some (w.heap.size + 1)) → wpList P ops Q rest (a.put o.dst v') w') :
    wpList P ops Q (o :: rest) a (w.alloc (.cells #[y] e)) := by
  refine wpList_append_own_at _ hgd s x t ho base e i z 1 bytes ht hi hz hsize hby hzs (by decide) v n xs hs (hown.alloc _) ⟨w.heap.size, 0, none⟩ 1 1 [y] hx rfl ?_ ?_ h63 hbytes (by simp; omega) ?_
  · intro j u hu
    rcases j with _ | j
    · simp at hu
      subst hu
      rw [Addr.add_lit, World.cell?_alloc_at _ _ _ _ (by simp)]
      rfl
    · simp at hu
  · intro u hu
    simp at hu
    subst hu
    exact hy
  · intro v' w' h1 h2 _ h4
    simp only [World.size_alloc] at h4
    exact h v' w' h1 (grown_trans (World.grownBy_alloc _ _ _) h2) h4
/-- a slice that lies in block B or in none before S -/
def Away (B S : Nat) (v : Value) : Prop := ∀ k, v.ownBlock = some k → k = B ∨ S ≤ k
theorem Away.next {B S : Nat} {v v' : Value} {w : World} (h : Away B S v) (hS : S ≤ w.heap.size) (h2 : v'.ownBlock = v.ownBlock ∨ v'.ownBlock = some (w.heap.size + 1)) : Away B S v' := by
  intro k hk
  rcases h2 with e | e
  · exact h k (by rw [← e]; exact hk)
  · rw [e] at hk
    injection hk with hk
    exact .inr (by omega)
/-- a row that lies between them stays -/
theorem Away.keeps {B S L : Nat} {v : Value} {w w' : World} {e : TypeId} {u : Value} {n : Nat} {xs : List Value} (h : Away B S v) (hg : w.grownBy w' v.ownBlock) (hu : w.ownsRow L e 1 u n xs) (hB : B < L) (hS : ∀ k, u.ownBlock = some k → k < S) : w'.ownsRow L e 1 u n xs := by
  refine own_apart hu hg (fun k hk hk2 => ?_)
  have h1 := (hu.lt k hk).1
  have h2 := hS k hk
  rcases h k hk2 with h3 | h3 <;> omega
end Go.Proofs.Ytjmijedfmiplfaa
