/- Texts put together. -/
import Derived.Test.YtfcbfflkajlhnaaMgU7
import Derived.Test.YtfcbfflkajlhnaaMgU9
import Derived.Laws.Cover1
import Derived.Test.YtfcbfflkajlhnaaMgU5
import Derived.Test.YtfcbfflkajlhnaaMgU6
import Derived.Test.YtfcbfflkajlhnaaMgU3
/- flip and in, of the laws. Conditions: lengths of at most 2^20. -/
namespace Go.Proofs.Ytfcbfflkajlhnaa
open Go.RowKit

def flipS (s : ByteArray) : ByteArray := ⟨s.data.toList.reverse.toArray⟩
/-- the last i letters, the last one first -/
theorem rev_snoc (l : List UInt8) (i : Nat) (h : i < l.length) : l.reverse.take (i + 1) = l.reverse.take i ++ [l[l.length - 1 - i]'(by omega)] := by
  rw [List.take_succ_eq_append_getElem (by simpa using h), List.getElem_reverse]

set_option maxRecDepth 100000 in
set_option maxHeartbeats 1000000 in
theorem flipC (s : ByteArray) (w : World) (hs : s.size ≤ 1048576) :
    Calls Try.prog 38 #[.string s] w fun e w' => e = .returned (.string (flipS s)) ∧ Below w.heap.size w w' := by
  obtain ⟨i0, hi0, hz0, hz1, hz2⟩ := info_parts u8_info
  go_enter Try.func38, Try.ntmps38
  go_wp2_with fail
  go_loopw [3, 4] (fun o ix w' => ∃ (j n : Nat), j ≤ s.size ∧ n = j ∧ ix = .int .i64 ((s.size : Int) - 1 - (j : Int)) ∧ w'.ownsRow w.heap.size 5 1 o n (byteCells (s.data.toList.reverse.take j)) ∧ Below w.heap.size w w') (fun _ ix _ => (intOf ix + 1).toNat)
  case atStart => exact ⟨0, 0, by omega, rfl, by simp, own_made0 _ _ _ (Nat.le_refl _), (Below.refl _ _).alloc (Nat.le_refl _) _⟩
  case round =>
    obtain ⟨j, n, hj, hnj, rfl, ho, hb⟩ := hrel
    have HO := Lib.hid ho
    have HB := Lib.hid hb
    have hsz := hb.size
    have HN := Lib.hid hnj
    have hn : n ≤ 1048576 := by omega
    clear ho hb hnj
    by_cases hlt : j < s.size
    · obtain ⟨q, hq⟩ : ∃ q : Nat, s.size = j + 1 + q := ⟨s.size - 1 - j, by omega⟩
      have hqs : q < s.size := by omega
      have e0 : (s.size : Int) - 1 - (j : Int) = (q : Int) := by omega
      have HQ := Lib.hid hq
      have HRV := Lib.hid (rev_snoc s.data.toList j (by simpa using hlt))
      rw [e0]
      clear hq e0
      go_wp2_with (at_builtin
                   refine wpList_append1 _ rfl (.tmp 13) (.tmp 17) _ rfl w.heap.size 5 i0 _ 1 Try.underlying22 hi0 hz0 hz1 hz2 rfl _ n _ rfl HO.out (.int .u8 (s[q].toNat : Int)) rfl rfl (by unfold maxLen; omega) (by omega) hsz ?_
                   intro v' w2 hown2 hbel2)
      go_roundw
      case rel =>
        have hq := HQ.out
        refine ⟨j + 1, n + 1, by omega, by rw [HN.out], by congr 1; omega, ?_, HB.out.trans hbel2⟩
        have e1 : s.data.toList[s.data.toList.length - 1 - j]'(by simp; omega) = s[q] := by
          have e2 : s.data.toList.length - 1 - j = q := by simp; omega
          simp only [e2]
          rfl
        rw [HRV.out, e1, byteCells_snoc]
        exact hown2
      case measure => have hq := HQ.out; simp only [intOf]; omega
    · have e0 : (s.size : Int) - 1 - (j : Int) = -1 := by omega
      have hconv := conv_own_to Try.underlying9 HO.out
      have HE : Hid (s.data.toList.reverse.take j = s.data.toList.reverse) := List.take_of_length_le (by simp; omega)
      rw [e0]
      clear e0
      go_wp2_with fail
      go_ret
      refine ⟨ret_str ?_, HB.out⟩
      rw [HE.out]
      rfl

def inB (l : List ByteArray) (x : ByteArray) : Bool := l.any fun y => x.toList == y.toList
theorem inB_iff (l : List ByteArray) (x : ByteArray) : inB l x = true ↔ x ∈ l := by
  unfold inB
  rw [List.any_eq_true]
  constructor
  · rintro ⟨y, hy, e⟩
    rw [bytes_ext (eq_of_beq e)]
    exact hy
  · exact fun h => ⟨x, h, by simp⟩
set_option maxRecDepth 100000 in
theorem inC (l : List ByteArray) (v : Value) (x : ByteArray) (w : World) (h : Lst w v (strs l)) (hn : l.length ≤ 1048576) :
    Calls Try.prog 44 #[v, .string x] w fun e w' => e = .returned (.bool (inB l x)) ∧ w = w' := by
  obtain ⟨A, c, rfl, hc1, hc2, h1⟩ := h
  rw [strs_length] at hc1 ⊢
  have H1 := Lib.hid h1
  clear h1
  go_enter Try.func44, Try.ntmps44
  go_wp2_with fail
  go_loop [9] (fun i => ∃ k : Nat, k ≤ l.length ∧ i = .int .i64 (k : Int) ∧ ∀ j (hj : j < l.length), j < k → (x.toList == l[j].toList) = false) (fun i => l.length - (intOf i).toNat)
  case atStart => exact ⟨0, by omega, rfl, fun j _ h => by omega⟩
  case round =>
    obtain ⟨k, hk, rfl, hno⟩ := hrel
    have HNO := Lib.hid hno
    clear hno
    by_cases hlt : k < l.length
    · have h2 := H1.out.resolve_left (by
        intro e
        have := congrArg List.length e
        rw [strs_length] at this
        simp only [List.length_nil] at this
        omega)
      obtain ⟨b, off, rfl, h2⟩ := h2
      have g1 := strs_at h2 k hlt
      rcases hq : (x.toList == l[k].toList) with _ | _
      · have HQ := Lib.hid hq
        clear h2
        go_wp2_with fail
        go_round
        case rel => exact ⟨k + 1, by omega, by go_num, fun j hj h => by
          by_cases e : j = k
          · subst e; exact HQ.out
          · exact HNO.out j hj (by omega)⟩
        case measure => simp [intOf]; omega
      · have HI : Hid (inB l x = true) := (inB_iff l x).2 (by rw [bytes_ext (eq_of_beq hq)]; exact List.getElem_mem _)
        clear h2
        go_wp2_with fail
        go_ret
        exact ⟨ret_bool HI.out.symm, rfl⟩
    · have HI : Hid (inB l x = false) := by
        rcases hi : inB l x with _ | _
        · rfl
        · obtain ⟨j, hj, e⟩ := List.mem_iff_getElem.1 ((inB_iff l x).1 hi)
          have := HNO.out j hj (by omega)
          rw [e] at this
          simp at this
      go_wp2_with fail
      go_ret
      exact ⟨ret_bool HI.out.symm, rfl⟩
end Go.Proofs.Ytfcbfflkajlhnaa

/- The orbit of a letter, and the power after which some letter comes back. No program in it. -/
namespace Go.Proofs.Ytfcbfflkajlhnaa
open Go.RowKit

theorem goN_add (l : List ByteArray) (k j : Nat) : ∀ m, goN l (goN l k j) m = goN l k (j + m)
  | 0 => rfl
  | m + 1 => by
    show firstN l (goN l (goN l k j) m) = firstN l (goN l k (j + m))
    rw [goN_add l k j m]
theorem goN_succ' (l : List ByteArray) (k m : Nat) : goN l k (m + 1) = goN l (firstN l k) m := by
  have := goN_add l k 1 m
  rw [Nat.add_comm m 1, ← this]
  rfl
theorem pigeon : ∀ a b c d e : Fin 4, a ≠ b → c ≠ a → c ≠ b → d ≠ a → d ≠ b → d ≠ c → e = a ∨ e = b ∨ e = c ∨ e = d := by decide
/-- among the first four is one that comes back -/
theorem orb_some {l : List ByteArray} (hl : substB l = true) {k : Nat} (hk : k < l.length) (h1 : ¬ goN l k 1 ∈ orbTo l k 1) (h2 : ¬ goN l k 2 ∈ orbTo l k 2) (h3 : ¬ goN l k 3 ∈ orbTo l k 3) : goN l k 4 ∈ orbTo l k 4 := by
  have h4 := (subst_parts hl).2.1
  have lt : ∀ n, goN l k n < 4 := fun n => by have := goN_lt hl hk n; omega
  simp only [orbTo, List.nil_append, not_or, List.cons_append, List.mem_cons, List.not_mem_nil, or_false] at h1 h2 h3 ⊢
  have p := pigeon ⟨_, lt 0⟩ ⟨_, lt 1⟩ ⟨_, lt 2⟩ ⟨_, lt 3⟩ ⟨_, lt 4⟩
  simp only [ne_eq, Fin.mk.injEq] at p
  omega
theorem orbN_eq {l : List ByteArray} {k n : Nat} (h1 : 1 ≤ n) (h4 : n ≤ 4) (hno : ∀ m, 1 ≤ m → m < n → ¬ goN l k m ∈ orbTo l k m) (hy : goN l k n ∈ orbTo l k n) : orbN l k = n := by
  unfold orbN
  rcases (show n = 1 ∨ n = 2 ∨ n = 3 ∨ n = 4 by omega) with e | e | e | e <;> subst e
  · rw [if_pos hy]
  · rw [if_neg (hno 1 (by omega) (by omega)), if_pos hy]
  · rw [if_neg (hno 1 (by omega) (by omega)), if_neg (hno 2 (by omega) (by omega)), if_pos hy]
  · rw [if_neg (hno 1 (by omega) (by omega)), if_neg (hno 2 (by omega) (by omega)), if_neg (hno 3 (by omega) (by omega))]
theorem backB_iff {l : List ByteArray} {n : Nat} : backB l n = true ↔ ∃ k, k < l.length ∧ goN l k n = k := by
  unfold backB
  simp [List.any_eq_true]
theorem back_some {l : List ByteArray} (hl : substB l = true) : ∃ n, 1 ≤ n ∧ n ≤ 4 ∧ backB l n = true := by
  have hk : 0 < l.length := (subst_parts hl).1
  have key : ∃ n, 1 ≤ n ∧ n ≤ 4 ∧ goN l 0 n ∈ orbTo l 0 n := by
    by_cases h1 : goN l 0 1 ∈ orbTo l 0 1
    · exact ⟨1, by omega, by omega, h1⟩
    by_cases h2 : goN l 0 2 ∈ orbTo l 0 2
    · exact ⟨2, by omega, by omega, h2⟩
    by_cases h3 : goN l 0 3 ∈ orbTo l 0 3
    · exact ⟨3, by omega, by omega, h3⟩
    exact ⟨4, by omega, by omega, orb_some hl hk h1 h2 h3⟩
  obtain ⟨n, a, b, c⟩ := key
  obtain ⟨i, hi, e⟩ := (orbTo_mem l 0 _ n).1 c
  refine ⟨n - i, by omega, by omega, backB_iff.2 ⟨goN l 0 i, goN_lt hl hk i, ?_⟩⟩
  rw [goN_add, show i + (n - i) = n from by omega, e]
theorem powR_eq {l : List ByteArray} (hl : substB l = true) {n : Nat} (h1 : 1 ≤ n) (hno : ∀ m, 1 ≤ m → m < n → backB l m = false) (hy : backB l n = true) : powR l = (n : Int) := by
  have h4 : n ≤ 4 := by
    obtain ⟨m, a, b, c⟩ := back_some hl
    by_cases h : m < n
    · rw [hno m a h] at c; cases c
    · omega
  unfold powR
  rw [if_pos hl]
  rcases (show n = 1 ∨ n = 2 ∨ n = 3 ∨ n = 4 by omega) with e | e | e | e <;> subst e
  · rw [hy]; rfl
  · rw [hno 1 (by omega) (by omega), hy]; rfl
  · rw [hno 1 (by omega) (by omega), hno 2 (by omega) (by omega), hy]; rfl
  · rw [hno 1 (by omega) (by omega), hno 2 (by omega) (by omega), hno 3 (by omega) (by omega)]; rfl
theorem pow_go {l : List ByteArray} (hl : substB l = true) {n : Nat} (hno : ∀ m, 1 ≤ m → m < n → backB l m = false) : n ≤ 4 := by
  obtain ⟨m, a, b, c⟩ := back_some hl
  by_cases h : m < n
  · rw [hno m a h] at c; cases c
  · omega
/-- the letters of an orbit, as a text -/
def orbS (l : List ByteArray) (k n : Nat) : ByteArray := ⟨((orbTo l k n).map letterN).toArray⟩
theorem orbS_size (l : List ByteArray) (k n : Nat) : (orbS l k n).size = n := by
  show ((orbTo l k n).map letterN).toArray.size = n
  simp [orbTo_length]
theorem orbS_succ (l : List ByteArray) (k n : Nat) : orbS l k n ++ ⟨#[letterN (goN l k n)]⟩ = orbS l k (n + 1) := by
  apply bytes_ext
  rw [ByteArray.toList_eq, ByteArray.toList_eq, ByteArray.data_append]
  show _ = (List.map letterN (orbTo l k n ++ [goN l k n]))
  simp [orbS]
theorem letterN_inj {a b : Nat} (ha : a ≤ 3) (hb : b ≤ 3) (h : letterN a = letterN b) : a = b := by
  have := congrArg UInt8.toNat h
  rw [letterN_toNat a (by omega), letterN_toNat b (by omega)] at this
  omega
theorem orbS_has {l : List ByteArray} (hl : substB l = true) {k : Nat} (hk : k < l.length) (n : Nat) (x : Nat) (hx : x ≤ 3) : hasR (orbS l k n) ⟨#[letterN x]⟩ = true ↔ x ∈ orbTo l k n := by
  have h4 := (subst_parts hl).2.1
  have hlen : (orbTo l k n).length = n := orbTo_length l k n
  have hs1 : (⟨#[letterN x]⟩ : ByteArray).size = 1 := rfl
  have hat : ∀ i (hi : i < n), (orbS l k n).extract i (i + 1) = ⟨#[letterN ((orbTo l k n)[i]'(by omega))]⟩ := by
    intro i hi
    apply bytes_ext
    rw [ByteArray.toList_eq, ByteArray.toList_eq]
    simp only [ByteArray.data_extract, orbS]
    simp
    rw [List.drop_eq_getElem_cons (by simpa [hlen] using hi)]
    simp
  have hmem : ∀ y ∈ orbTo l k n, y ≤ 3 := by
    intro y hy
    obtain ⟨i, _, e⟩ := (orbTo_mem l k y n).1 hy
    have := goN_lt hl hk i
    omega
  constructor
  · intro h
    obtain ⟨i, h1, h2⟩ := @of_decide_eq_true _ (Classical.propDecidable _) h
    rw [hs1, orbS_size] at h1
    rw [hs1, hat i (by omega)] at h2
    have h3 : letterN ((orbTo l k n)[i]'(by omega)) = letterN x := by
      injection h2 with h2
      simpa using h2
    have hm : (orbTo l k n)[i]'(by omega) ∈ orbTo l k n := List.getElem_mem _
    rw [← letterN_inj (hmem _ hm) hx h3]
    exact hm
  · intro h
    obtain ⟨i, hi, e⟩ := List.mem_iff_getElem.1 h
    refine hasR_yes (i := i) ⟨by rw [hs1, orbS_size]; omega, ?_⟩
    rw [hs1, hat i (by omega), e]
end Go.Proofs.Ytfcbfflkajlhnaa

/- The mathematics of FnFactors: members of the list of factors, a word turned round. No program in it. -/
namespace Go.Proofs.Ytfcbfflkajlhnaa
open Go.RowKit

theorem fct_mem (s : ByteArray) (n : Nat) (x : ByteArray) : x ∈ fctL s n ↔ ∃ j, j < s.size + 1 - n ∧ x = s.extract j (j + n) := by
  unfold fctL
  exact facTo_mem s n x _
theorem asc_nodup {l : List ByteArray} (h : Asc l) : l.Nodup := h.imp fun {a b} hab e => by
  rw [e] at hab
  exact less_self _ hab
theorem nodup_le {α : Type} : ∀ {l m : List α}, l.Nodup → (∀ x ∈ l, x ∈ m) → l.length ≤ m.length
  | [], _, _, _ => Nat.zero_le _
  | a :: l, m, hl, h => by
    obtain ⟨h1, h2⟩ := List.pairwise_cons.1 hl
    obtain ⟨m1, m2, rfl⟩ := List.append_of_mem (h a (List.mem_cons_self ..))
    have := nodup_le (m := m1 ++ m2) h2 (fun x hx => by
      rcases List.mem_append.1 (h x (List.mem_cons_of_mem _ hx)) with e | e
      · exact List.mem_append_left _ e
      · rcases List.mem_cons.1 e with e | e
        · exact absurd e.symm (h1 x hx)
        · exact List.mem_append_right _ e)
    rw [List.length_append] at this
    rw [List.length_append, List.length_cons, List.length_cons]
    omega
theorem nodup_eq {α : Type} {l m : List α} (hl : l.Nodup) (hm : m.Nodup) (h : ∀ x, x ∈ l ↔ x ∈ m) : l.length = m.length :=
  Nat.le_antisymm (nodup_le hl fun x hx => (h x).1 hx) (nodup_le hm fun x hx => (h x).2 hx)
theorem flip_flip (s : ByteArray) : flipS (flipS s) = s := by
  unfold flipS
  apply bytes_ext
  rw [ByteArray.toList_eq, ByteArray.toList_eq]
  simp
theorem flip_size (s : ByteArray) : (flipS s).size = s.size := by
  show (s.data.toList.reverse.toArray).size = s.size
  simp
theorem flip_ext (s : ByteArray) (j n : Nat) (h : j + n ≤ s.size) : (flipS s).extract j (j + n) = flipS (s.extract (s.size - j - n) (s.size - j - n + n)) := by
  apply bytes_ext
  rw [ByteArray.toList_eq, ByteArray.toList_eq]
  show ((flipS s).extract j (j + n)).data.toList = (s.extract (s.size - j - n) (s.size - j - n + n)).data.toList.reverse
  rw [ByteArray.data_extract, ByteArray.data_extract, Array.toList_extract, Array.toList_extract, List.extract_eq_take_drop, List.extract_eq_take_drop]
  show ((s.data.toList.reverse).drop j).take (j + n - j) = _
  have hl : s.data.toList.length = s.size := by simp
  generalize s.data.toList = l at hl
  rw [← hl] at h ⊢
  rw [Nat.add_sub_cancel_left, Nat.add_sub_cancel_left]
  apply List.ext_getElem
  · simp; omega
  · intro i h1 h2
    simp only [List.getElem_take, List.getElem_drop, List.getElem_reverse]
    congr 1
    simp at h1 h2 ⊢
    omega
theorem flip_inj {a b : ByteArray} (h : flipS a = flipS b) : a = b := by rw [← flip_flip a, h, flip_flip]
theorem flip_fct (s : ByteArray) (n : Nat) (x : ByteArray) : x ∈ fctL (flipS s) n ↔ x ∈ (fctL s n).map flipS := by
  rw [fct_mem, List.mem_map]
  constructor
  · rintro ⟨j, hj, rfl⟩
    rw [flip_size] at hj
    exact ⟨s.extract (s.size - j - n) (s.size - j - n + n), (fct_mem s n _).2 ⟨s.size - j - n, by omega, rfl⟩, (flip_ext s j n (by omega)).symm⟩
  · rintro ⟨y, hy, rfl⟩
    obtain ⟨j, hj, rfl⟩ := (fct_mem s n y).1 hy
    refine ⟨s.size - j - n, by rw [flip_size]; omega, ?_⟩
    rw [flip_ext s (s.size - j - n) n (by omega)]
    congr 2 <;> omega
/-- a word and the word turned round have as many factors of a length -/
theorem flip_len (s : ByteArray) (n : Nat) : (fctL (flipS s) n).length = (fctL s n).length := by
  have h1 : (fctL (flipS s) n).Nodup := asc_nodup (facTo_asc _ _ _)
  have h2 : ((fctL s n).map flipS).Nodup := List.pairwise_map.2 ((asc_nodup (facTo_asc s n (s.size + 1 - n))).imp fun {a b} hab e => hab (flip_inj e))
  rw [nodup_eq h1 h2 (flip_fct s n), List.length_map]

/-! ### the letters behind and ahead of factors -/
theorem exL_sz (f : ByteArray) (b : Bool) (k : Nat) : (exL f b k).size = f.size + 1 := by
  have h1 : (⟨#[letterN k]⟩ : ByteArray).size = 1 := rfl
  unfold exL
  split
  · rw [ByteArray.size_append, h1]; omega
  · rw [ByteArray.size_append, h1]
theorem exL_list (f : ByteArray) (b : Bool) (k : Nat) : (exL f b k).data.toList = if b = true then letterN k :: f.data.toList else f.data.toList ++ [letterN k] := by
  unfold exL
  split
  · rw [ByteArray.data_append, Array.toList_append]; rfl
  · rw [ByteArray.data_append, Array.toList_append]
theorem exL_inj {f f' : ByteArray} {b : Bool} {k k' : Nat} (hk : k ≤ 3) (hk' : k' ≤ 3) (h : exL f b k = exL f' b k') : f = f' ∧ k = k' := by
  have e := congrArg (fun x : ByteArray => x.data.toList) h
  simp only [exL_list] at e
  by_cases hb : b = true
  · rw [if_pos hb, if_pos hb] at e
    injection e with e1 e2
    exact ⟨bytes_ext (by rw [ByteArray.toList_eq, ByteArray.toList_eq]; exact e2), letterN_inj hk hk' e1⟩
  · rw [if_neg hb, if_neg hb] at e
    obtain ⟨e1, e2⟩ := List.append_inj' e rfl
    injection e2 with e2 _
    exact ⟨bytes_ext (by rw [ByteArray.toList_eq, ByteArray.toList_eq]; exact e1), letterN_inj hk hk' e2⟩
theorem has_iff (s x : ByteArray) : hasR s x = true ↔ ∃ i, i + x.size ≤ s.size ∧ s.extract i (i + x.size) = x := by
  unfold hasR
  constructor
  · intro h
    obtain ⟨i, h1, h2⟩ := @of_decide_eq_true _ (Classical.propDecidable _) h
    exact ⟨i, h1, h2⟩
  · rintro ⟨i, h1, h2⟩
    exact @decide_eq_true _ (Classical.propDecidable _) ⟨i, h1, h2⟩
theorem fct_sz {s x : ByteArray} {n : Nat} (hn : n ≤ s.size) (h : x ∈ fctL s n) : x.size = n := by
  obtain ⟨j, hj, rfl⟩ := (fct_mem s n x).1 h
  rw [ByteArray.size_extract]
  omega
theorem word_letter {s : ByteArray} (h : wordB s = true) {j : Nat} (hj : j < s.size) : ∃ k, k ≤ 3 ∧ s.data.toList[j]'(by simpa using hj) = letterN k := by
  have hm := List.all_eq_true.1 (all_of_word h) (s.data.toList[j]'(by simpa using hj)) (List.getElem_mem _)
  unfold isAbcd at hm
  simp only [Bool.and_eq_true, decide_eq_true_eq] at hm
  refine ⟨(s.data.toList[j]'(by simpa using hj)).toNat - 97, by omega, ?_⟩
  apply UInt8.toNat.inj
  rw [letterN_toNat _ (by omega)]
  omega
theorem ext_list2 (s : ByteArray) (i n : Nat) : (s.extract i (i + n)).data.toList = (s.data.toList.drop i).take n := by
  rw [ByteArray.data_extract, Array.toList_extract, List.extract_eq_take_drop, Nat.add_sub_cancel_left]
/-- each longer factor is a factor and a letter -/
theorem ext_split {s : ByteArray} (hw : wordB s = true) {j n : Nat} (h : j + (n + 1) ≤ s.size) (b : Bool) : ∃ k i, k ≤ 3 ∧ i + n ≤ s.size ∧ s.extract j (j + (n + 1)) = exL (s.extract i (i + n)) b k := by
  have hl : s.data.toList.length = s.size := by simp
  cases b
  · obtain ⟨k, hk, e⟩ := word_letter hw (show j + n < s.size by omega)
    refine ⟨k, j, hk, by omega, bytes_ext ?_⟩
    rw [ByteArray.toList_eq, ByteArray.toList_eq]
    show (s.extract j (j + (n + 1))).data.toList = (exL (s.extract j (j + n)) false k).data.toList
    rw [exL_list, if_neg (by decide), ext_list2, ext_list2, List.take_succ_eq_append_getElem (by rw [List.length_drop]; omega), List.getElem_drop, e]
  · obtain ⟨k, hk, e⟩ := word_letter hw (show j < s.size by omega)
    refine ⟨k, j + 1, hk, by omega, bytes_ext ?_⟩
    rw [ByteArray.toList_eq, ByteArray.toList_eq]
    show (s.extract j (j + (n + 1))).data.toList = (exL (s.extract (j + 1) (j + 1 + n)) true k).data.toList
    rw [exL_list, if_pos rfl, ext_list2, ext_list2, ← e, List.drop_eq_getElem_cons (show j < s.data.toList.length by omega), List.take_succ_cons]
/-- the factors of n letters, each with each letter behind (or ahead of) it -/
noncomputable def extsL (s : ByteArray) (n : Nat) (b : Bool) : List ByteArray := (fctL s n).flatMap fun f => ((List.range 4).filter fun k => hasR s (exL f b k)).map (exL f b)
theorem outTo_len (p : Nat → Bool) : ∀ n, (outTo p n).length = ((List.range n).filter p).length
  | 0 => rfl
  | n + 1 => by
    rw [List.range_succ, List.filter_append, List.length_append, ← outTo_len p n]
    show (outTo p n ++ (if p n = true then [letterN n] else [])).length = _
    rw [List.length_append]
    congr 1
    by_cases h : p n = true
    · rw [if_pos h, List.filter_cons_of_pos h]; rfl
    · rw [if_neg h, List.filter_cons_of_neg h]; rfl
theorem nxt_size (s f : ByteArray) (b : Bool) : (nxtS s f b).size = ((List.range 4).filter fun k => hasR s (exL f b k)).length := by
  show ((outTo _ 4).toArray).size = _
  rw [List.size_toArray, outTo_len]
theorem exts_len (s : ByteArray) (n : Nat) (b : Bool) : (extsL s n b).length = ((fctL s n).map fun f => (nxtS s f b).size).sum := by
  unfold extsL
  rw [List.length_flatMap]
  congr 1
  apply List.map_congr_left
  intro f _
  rw [List.length_map, nxt_size]
theorem exts_mem {s : ByteArray} (hw : wordB s = true) (n : Nat) (hn : n + 1 ≤ s.size) (b : Bool) (x : ByteArray) : x ∈ extsL s n b ↔ x ∈ fctL s (n + 1) := by
  unfold extsL
  rw [List.mem_flatMap]
  constructor
  · rintro ⟨f, hf, hx⟩
    obtain ⟨k, hk, rfl⟩ := List.mem_map.1 hx
    obtain ⟨hk4, hh⟩ := List.mem_filter.1 hk
    obtain ⟨i, h1, h2⟩ := (has_iff _ _).1 hh
    rw [exL_sz, fct_sz (by omega) hf] at h1 h2
    exact (fct_mem _ _ _).2 ⟨i, by omega, h2.symm⟩
  · intro h
    obtain ⟨j, hj, rfl⟩ := (fct_mem _ _ _).1 h
    obtain ⟨k, i, hk, hi, e⟩ := ext_split hw (show j + (n + 1) ≤ s.size by omega) b
    refine ⟨s.extract i (i + n), (fct_mem _ _ _).2 ⟨i, by omega, rfl⟩, List.mem_map.2 ⟨k, List.mem_filter.2 ⟨List.mem_range.2 (by omega), ?_⟩, e.symm⟩⟩
    refine (has_iff _ _).2 ⟨j, ?_, ?_⟩
    · rw [exL_sz, ByteArray.size_extract]; omega
    · rw [exL_sz, ByteArray.size_extract, show min (i + n) s.size - i + 1 = n + 1 by omega]; exact e
theorem exts_nodup (s : ByteArray) (n : Nat) (b : Bool) : (extsL s n b).Nodup := by
  unfold extsL
  have hnd := asc_nodup (facTo_asc s n (s.size + 1 - n))
  change (fctL s n).Nodup at hnd
  generalize fctL s n = l at hnd
  induction l with
  | nil => exact List.Pairwise.nil
  | cons f l ih =>
    obtain ⟨h1, h2⟩ := List.pairwise_cons.1 hnd
    rw [List.flatMap_cons]
    refine List.pairwise_append.2 ⟨?_, ih h2, ?_⟩
    · refine List.pairwise_map.2 ?_
      have hr : ((List.range 4).filter fun k => hasR s (exL f b k)).Pairwise (fun i j => i ≠ j ∧ i < 4 ∧ j < 4) := by
        refine List.Pairwise.filter _ ?_
        decide
      exact hr.imp fun {i j} h e => h.1 (exL_inj (by omega) (by omega) e).2
    · intro x hx y hy e
      obtain ⟨k, hk, rfl⟩ := List.mem_map.1 hx
      obtain ⟨g, hg, hy⟩ := List.mem_flatMap.1 hy
      obtain ⟨k', hk', rfl⟩ := List.mem_map.1 hy
      have a := List.mem_range.1 (List.mem_filter.1 hk).1
      have c := List.mem_range.1 (List.mem_filter.1 hk').1
      exact h1 g hg (exL_inj (by omega) (by omega) e).1
/-- the followers of all factors are as many as the factors with a letter more -/
theorem exts_count {s : ByteArray} (hw : wordB s = true) (n : Nat) (hn : n + 1 ≤ s.size) (b : Bool) : ((fctL s n).map fun f => (nxtS s f b).size).sum = (fctL s (n + 1)).length := by
  rw [← exts_len]
  exact nodup_eq (exts_nodup s n b) (asc_nodup (facTo_asc _ _ _)) (exts_mem hw n hn b)
end Go.Proofs.Ytfcbfflkajlhnaa
