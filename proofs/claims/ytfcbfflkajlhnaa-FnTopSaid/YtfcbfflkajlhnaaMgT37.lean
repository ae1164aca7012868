/- Texts put together. -/
import Derived.Test.YtfcbfflkajlhnaaMgT32
import Derived.ChangeSlices
import Derived.Test.YtfcbfflkajlhnaaMgT11
import Derived.Test.YtfcbfflkajlhnaaMgT9
import Derived.Test.YtfcbfflkajlhnaaMgT10
import Derived.Test.YtfcbfflkajlhnaaMgT8
import Derived.Laws.Cover1
import Derived.Test.YtfcbfflkajlhnaaMgT36
import Derived.Test.YtfcbfflkajlhnaaMgT13
import Derived.Test.YtfcbfflkajlhnaaMgT3
/- MakeText gives a text of at most 16 bytes; nothing old turns. And a slice of bytes that came in, opened. -/
namespace Go.Proofs.Ytfcbfflkajlhnaa
open Go.ChangeShapes Go.WideShapes Go.RowKit

theorem bytes_arg {H : Type} {enc : TypeId × Value → H} {P : Program} {w : World} {base : Nat} {r : Reach} {b0 : Nat} {t e : TypeId} {v : Value} {d : DataW H} {ps : List MemPlace} (ht : P.underlying t = some (.slice e)) (he : P.underlying e = some (.int .u8)) (hc : P.cellsOf e = 1)
    (hval : Value.okWide P w r b0 t v) (h : DataW.Trod enc P w base (fun _ => true) true t v d ps) : ∃ zs : List Int, Lst w v (bytesV zs) ∧ ∀ z ∈ zs, 0 ≤ z ∧ z ≤ 255 := by
  obtain ⟨fuel, hf⟩ := h
  obtain ⟨A, ln, cp, rfl⟩ : ∃ A ln cp, v = .slice A ln cp := by
    simp only [Value.okWide, ht, Cell.okWide] at hval
    cases v <;> simp_all [Cell.ok]
  rcases open_ints ht he hc hf with ⟨hcs, _⟩ | ⟨a, len, cap, zs, hcs, _, hl, hm, hlen, _, hcell, hwf⟩
  · simp [Value.cells] at hcs
    obtain ⟨rfl, rfl, rfl⟩ := hcs
    exact ⟨[], ⟨none, 0, by simp [bytesV], by simp [bytesV], by simp [maxLen], .inl rfl⟩, by simp⟩
  · simp [Value.cells] at hcs
    obtain ⟨rfl, rfl, rfl⟩ := hcs
    simp at hlen
    refine ⟨zs.take ln, ?_, fun z hz => ?_⟩
    · refine ⟨some a, cp, by simp [bytesV, hlen, Nat.min_eq_left hl], by simp [bytesV, hlen]; omega, hm, ?_⟩
      by_cases h0 : ln = 0
      · subst h0
        exact .inl (by simp [bytesV])
      · obtain ⟨b, off, spot⟩ := a
        have h1 := hcell 0 (by omega)
        have hspot : spot = none := by simpa [Addr.add] using World.cell?_spot h1
        subst hspot
        refine .inr ⟨b, off, rfl, fun i u hu => ?_⟩
        have hi : i < ln := by
          have := (List.getElem?_eq_some_iff.1 hu).1
          simp [bytesV, hlen] at this
          omega
        have h2 := hcell i (by omega)
        rw [Addr.add_lit] at h2
        rw [h2]
        simp [bytesV, hi] at hu
        obtain ⟨x, hx, rfl⟩ := hu
        simp [List.getD, hx]
    · have := hwf z (List.mem_of_mem_take hz)
      simp [Lit.wf, IntKind.min, IntKind.max, IntKind.signed, IntKind.bits] at this
      exact this

def TextSaid (w : World) (e : Ending) (w' : World) : Prop := ∃ s : ByteArray, e = .returned (.string s) ∧ s.size ≤ 16 ∧ Below w.heap.size w w'
def five : List ByteArray := [⟨#[97]⟩, ⟨#[98, 99]⟩, ⟨#[32]⟩, ⟨#[44]⟩, ⟨#[120, 49]⟩]
theorem five_short : ∀ s ∈ five, s.size ≤ 2 := by
  intro s hs
  simp only [five, List.mem_cons, List.not_mem_nil, or_false] at hs
  rcases hs with rfl | rfl | rfl | rfl | rfl <;> decide

end Go.Proofs.Ytfcbfflkajlhnaa

/- flip and in, of the laws. Conditions: lengths of at most 2^20. -/
namespace Go.Proofs.Ytfcbfflkajlhnaa
open Go.RowKit

def flipS (s : ByteArray) : ByteArray := ⟨s.data.toList.reverse.toArray⟩
/-- the last i letters, the last one first -/
theorem rev_snoc (l : List UInt8) (i : Nat) (h : i < l.length) : l.reverse.take (i + 1) = l.reverse.take i ++ [l[l.length - 1 - i]'(by omega)] := by
  rw [List.take_succ_eq_append_getElem (by simpa using h), List.getElem_reverse]

set_option maxRecDepth 100000 in
set_option maxHeartbeats 1000000 in
theorem flipC (s : ByteArray) (w : World) (hs : s.size ≤ 1048576) :
    Calls Try.prog 38 #[.string s] w fun e w' => e = .returned (.string (flipS s)) ∧ Below w.heap.size w w' := by
  obtain ⟨i0, hi0, hz0, hz1, hz2⟩ := info_parts u8_info
  go_enter Try.func38, Try.ntmps38
  go_wp2_with fail
  go_loopw [3, 4] (fun o ix w' => ∃ (j n : Nat), j ≤ s.size ∧ n = j ∧ ix = .int .i64 ((s.size : Int) - 1 - (j : Int)) ∧ w'.ownsRow w.heap.size 5 1 o n (byteCells (s.data.toList.reverse.take j)) ∧ Below w.heap.size w w') (fun _ ix _ => (intOf ix + 1).toNat)
  case atStart => exact ⟨0, 0, by omega, rfl, by simp, own_made0 _ _ _ (Nat.le_refl _), (Below.refl _ _).alloc (Nat.le_refl _) _⟩
  case round =>
    obtain ⟨j, n, hj, hnj, rfl, ho, hb⟩ := hrel
    have HO := Lib.hid ho
    have HB := Lib.hid hb
    have hsz := hb.size
    have HN := Lib.hid hnj
    have hn : n ≤ 1048576 := by omega
    clear ho hb hnj
    by_cases hlt : j < s.size
    · obtain ⟨q, hq⟩ : ∃ q : Nat, s.size = j + 1 + q := ⟨s.size - 1 - j, by omega⟩
      have hqs : q < s.size := by omega
      have e0 : (s.size : Int) - 1 - (j : Int) = (q : Int) := by omega
      have HQ := Lib.hid hq
      have HRV := Lib.hid (rev_snoc s.data.toList j (by simpa using hlt))
      rw [e0]
      clear hq e0
      go_wp2_with (at_builtin
                   refine wpList_append1 _ rfl (.tmp 13) (.tmp 17) _ rfl w.heap.size 5 i0 _ 1 Try.underlying22 hi0 hz0 hz1 hz2 rfl _ n _ rfl HO.out (.int .u8 (s[q].toNat : Int)) rfl rfl (by unfold maxLen; omega) (by omega) hsz ?_
                   intro v' w2 hown2 hbel2)
      go_roundw
      case rel =>
        have hq := HQ.out
        refine ⟨j + 1, n + 1, by omega, by rw [HN.out], by congr 1; omega, ?_, HB.out.trans hbel2⟩
        have e1 : s.data.toList[s.data.toList.length - 1 - j]'(by simp; omega) = s[q] := by
          have e2 : s.data.toList.length - 1 - j = q := by simp; omega
          simp only [e2]
          rfl
        rw [HRV.out, e1, byteCells_snoc]
        exact hown2
      case measure => have hq := HQ.out; simp only [intOf]; omega
    · have e0 : (s.size : Int) - 1 - (j : Int) = -1 := by omega
      have hconv := conv_own_to Try.underlying9 HO.out
      have HE : Hid (s.data.toList.reverse.take j = s.data.toList.reverse) := List.take_of_length_le (by simp; omega)
      rw [e0]
      clear e0
      go_wp2_with fail
      go_ret
      refine ⟨ret_str ?_, HB.out⟩
      rw [HE.out]
      rfl

def inB (l : List ByteArray) (x : ByteArray) : Bool := l.any fun y => x.toList == y.toList
theorem inB_iff (l : List ByteArray) (x : ByteArray) : inB l x = true ↔ x ∈ l := by
  unfold inB
  rw [List.any_eq_true]
  constructor
  · rintro ⟨y, hy, e⟩
    rw [bytes_ext (eq_of_beq e)]
    exact hy
  · exact fun h => ⟨x, h, by simp⟩
set_option maxRecDepth 100000 in
theorem inC (l : List ByteArray) (v : Value) (x : ByteArray) (w : World) (h : Lst w v (strs l)) (hn : l.length ≤ 1048576) :
    Calls Try.prog 44 #[v, .string x] w fun e w' => e = .returned (.bool (inB l x)) ∧ w = w' := by
  obtain ⟨A, c, rfl, hc1, hc2, h1⟩ := h
  rw [strs_length] at hc1 ⊢
  have H1 := Lib.hid h1
  clear h1
  go_enter Try.func44, Try.ntmps44
  go_wp2_with fail
  go_loop [9] (fun i => ∃ k : Nat, k ≤ l.length ∧ i = .int .i64 (k : Int) ∧ ∀ j (hj : j < l.length), j < k → (x.toList == l[j].toList) = false) (fun i => l.length - (intOf i).toNat)
  case atStart => exact ⟨0, by omega, rfl, fun j _ h => by omega⟩
  case round =>
    obtain ⟨k, hk, rfl, hno⟩ := hrel
    have HNO := Lib.hid hno
    clear hno
    by_cases hlt : k < l.length
    · have h2 := H1.out.resolve_left (by
        intro e
        have := congrArg List.length e
        rw [strs_length] at this
        simp only [List.length_nil] at this
        omega)
      obtain ⟨b, off, rfl, h2⟩ := h2
      have g1 := strs_at h2 k hlt
      rcases hq : (x.toList == l[k].toList) with _ | _
      · have HQ := Lib.hid hq
        clear h2
        go_wp2_with fail
        go_round
        case rel => exact ⟨k + 1, by omega, by go_num, fun j hj h => by
          by_cases e : j = k
          · subst e; exact HQ.out
          · exact HNO.out j hj (by omega)⟩
        case measure => simp [intOf]; omega
      · have HI : Hid (inB l x = true) := (inB_iff l x).2 (by rw [bytes_ext (eq_of_beq hq)]; exact List.getElem_mem _)
        clear h2
        go_wp2_with fail
        go_ret
        exact ⟨ret_bool HI.out.symm, rfl⟩
    · have HI : Hid (inB l x = false) := by
        rcases hi : inB l x with _ | _
        · rfl
        · obtain ⟨j, hj, e⟩ := List.mem_iff_getElem.1 ((inB_iff l x).1 hi)
          have := HNO.out j hj (by omega)
          rw [e] at this
          simp at this
      go_wp2_with fail
      go_ret
      exact ⟨ret_bool HI.out.symm, rfl⟩
end Go.Proofs.Ytfcbfflkajlhnaa

/- The mathematics of FnFactors: members of the list of factors, a word turned round. No program in it. -/
namespace Go.Proofs.Ytfcbfflkajlhnaa
open Go.RowKit

theorem fct_mem (s : ByteArray) (n : Nat) (x : ByteArray) : x ∈ fctL s n ↔ ∃ j, j < s.size + 1 - n ∧ x = s.extract j (j + n) := by
  unfold fctL
  exact facTo_mem s n x _
theorem asc_nodup {l : List ByteArray} (h : Asc l) : l.Nodup := h.imp fun {a b} hab e => by
  rw [e] at hab
  exact less_self _ hab
theorem nodup_le {α : Type} : ∀ {l m : List α}, l.Nodup → (∀ x ∈ l, x ∈ m) → l.length ≤ m.length
  | [], _, _, _ => Nat.zero_le _
  | a :: l, m, hl, h => by
    obtain ⟨h1, h2⟩ := List.pairwise_cons.1 hl
    obtain ⟨m1, m2, rfl⟩ := List.append_of_mem (h a (List.mem_cons_self ..))
    have := nodup_le (m := m1 ++ m2) h2 (fun x hx => by
      rcases List.mem_append.1 (h x (List.mem_cons_of_mem _ hx)) with e | e
      · exact List.mem_append_left _ e
      · rcases List.mem_cons.1 e with e | e
        · exact absurd e.symm (h1 x hx)
        · exact List.mem_append_right _ e)
    rw [List.length_append] at this
    rw [List.length_append, List.length_cons, List.length_cons]
    omega
theorem nodup_eq {α : Type} {l m : List α} (hl : l.Nodup) (hm : m.Nodup) (h : ∀ x, x ∈ l ↔ x ∈ m) : l.length = m.length :=
  Nat.le_antisymm (nodup_le hl fun x hx => (h x).1 hx) (nodup_le hm fun x hx => (h x).2 hx)
theorem flip_flip (s : ByteArray) : flipS (flipS s) = s := by
  unfold flipS
  apply bytes_ext
  rw [ByteArray.toList_eq, ByteArray.toList_eq]
  simp
theorem flip_size (s : ByteArray) : (flipS s).size = s.size := by
  show (s.data.toList.reverse.toArray).size = s.size
  simp
theorem flip_ext (s : ByteArray) (j n : Nat) (h : j + n ≤ s.size) : (flipS s).extract j (j + n) = flipS (s.extract (s.size - j - n) (s.size - j - n + n)) := by
  apply bytes_ext
  rw [ByteArray.toList_eq, ByteArray.toList_eq]
  show ((flipS s).extract j (j + n)).data.toList = (s.extract (s.size - j - n) (s.size - j - n + n)).data.toList.reverse
  rw [ByteArray.data_extract, ByteArray.data_extract, Array.toList_extract, Array.toList_extract, List.extract_eq_take_drop, List.extract_eq_take_drop]
  show ((s.data.toList.reverse).drop j).take (j + n - j) = _
  have hl : s.data.toList.length = s.size := by simp
  generalize s.data.toList = l at hl
  rw [← hl] at h ⊢
  rw [Nat.add_sub_cancel_left, Nat.add_sub_cancel_left]
  apply List.ext_getElem
  · simp; omega
  · intro i h1 h2
    simp only [List.getElem_take, List.getElem_drop, List.getElem_reverse]
    congr 1
    simp at h1 h2 ⊢
    omega
theorem flip_inj {a b : ByteArray} (h : flipS a = flipS b) : a = b := by rw [← flip_flip a, h, flip_flip]
theorem flip_fct (s : ByteArray) (n : Nat) (x : ByteArray) : x ∈ fctL (flipS s) n ↔ x ∈ (fctL s n).map flipS := by
  rw [fct_mem, List.mem_map]
  constructor
  · rintro ⟨j, hj, rfl⟩
    rw [flip_size] at hj
    exact ⟨s.extract (s.size - j - n) (s.size - j - n + n), (fct_mem s n _).2 ⟨s.size - j - n, by omega, rfl⟩, (flip_ext s j n (by omega)).symm⟩
  · rintro ⟨y, hy, rfl⟩
    obtain ⟨j, hj, rfl⟩ := (fct_mem s n y).1 hy
    refine ⟨s.size - j - n, by rw [flip_size]; omega, ?_⟩
    rw [flip_ext s (s.size - j - n) n (by omega)]
    congr 2 <;> omega
/-- a word and the word turned round have as many factors of a length -/
theorem flip_len (s : ByteArray) (n : Nat) : (fctL (flipS s) n).length = (fctL s n).length := by
  have h1 : (fctL (flipS s) n).Nodup := asc_nodup (facTo_asc _ _ _)
  have h2 : ((fctL s n).map flipS).Nodup := List.pairwise_map.2 ((asc_nodup (facTo_asc s n (s.size + 1 - n))).imp fun {a b} hab e => hab (flip_inj e))
  rw [nodup_eq h1 h2 (flip_fct s n), List.length_map]

/-! ### the letters behind and ahead of factors -/
theorem exL_sz (f : ByteArray) (b : Bool) (k : Nat) : (exL f b k).size = f.size + 1 := by
  have h1 : (⟨#[letterN k]⟩ : ByteArray).size = 1 := rfl
  unfold exL
  split
  · rw [ByteArray.size_append, h1]; omega
  · rw [ByteArray.size_append, h1]
theorem exL_list (f : ByteArray) (b : Bool) (k : Nat) : (exL f b k).data.toList = if b = true then letterN k :: f.data.toList else f.data.toList ++ [letterN k] := by
  unfold exL
  split
  · rw [ByteArray.data_append, Array.toList_append]; rfl
  · rw [ByteArray.data_append, Array.toList_append]
theorem exL_inj {f f' : ByteArray} {b : Bool} {k k' : Nat} (hk : k ≤ 3) (hk' : k' ≤ 3) (h : exL f b k = exL f' b k') : f = f' ∧ k = k' := by
  have e := congrArg (fun x : ByteArray => x.data.toList) h
  simp only [exL_list] at e
  by_cases hb : b = true
  · rw [if_pos hb, if_pos hb] at e
    injection e with e1 e2
    exact ⟨bytes_ext (by rw [ByteArray.toList_eq, ByteArray.toList_eq]; exact e2), letterN_inj hk hk' e1⟩
  · rw [if_neg hb, if_neg hb] at e
    obtain ⟨e1, e2⟩ := List.append_inj' e rfl
    injection e2 with e2 _
    exact ⟨bytes_ext (by rw [ByteArray.toList_eq, ByteArray.toList_eq]; exact e1), letterN_inj hk hk' e2⟩
theorem has_iff (s x : ByteArray) : hasR s x = true ↔ ∃ i, i + x.size ≤ s.size ∧ s.extract i (i + x.size) = x := by
  unfold hasR
  constructor
  · intro h
    obtain ⟨i, h1, h2⟩ := @of_decide_eq_true _ (Classical.propDecidable _) h
    exact ⟨i, h1, h2⟩
  · rintro ⟨i, h1, h2⟩
    exact @decide_eq_true _ (Classical.propDecidable _) ⟨i, h1, h2⟩
theorem fct_sz {s x : ByteArray} {n : Nat} (hn : n ≤ s.size) (h : x ∈ fctL s n) : x.size = n := by
  obtain ⟨j, hj, rfl⟩ := (fct_mem s n x).1 h
  rw [ByteArray.size_extract]
  omega
theorem word_letter {s : ByteArray} (h : wordB s = true) {j : Nat} (hj : j < s.size) : ∃ k, k ≤ 3 ∧ s.data.toList[j]'(by simpa using hj) = letterN k := by
  have hm := List.all_eq_true.1 (all_of_word h) (s.data.toList[j]'(by simpa using hj)) (List.getElem_mem _)
  unfold isAbcd at hm
  simp only [Bool.and_eq_true, decide_eq_true_eq] at hm
  refine ⟨(s.data.toList[j]'(by simpa using hj)).toNat - 97, by omega, ?_⟩
  apply UInt8.toNat.inj
  rw [letterN_toNat _ (by omega)]
  omega
theorem ext_list2 (s : ByteArray) (i n : Nat) : (s.extract i (i + n)).data.toList = (s.data.toList.drop i).take n := by
  rw [ByteArray.data_extract, Array.toList_extract, List.extract_eq_take_drop, Nat.add_sub_cancel_left]
/-- each longer factor is a factor and a letter -/
theorem ext_split {s : ByteArray} (hw : wordB s = true) {j n : Nat} (h : j + (n + 1) ≤ s.size) (b : Bool) : ∃ k i, k ≤ 3 ∧ i + n ≤ s.size ∧ s.extract j (j + (n + 1)) = exL (s.extract i (i + n)) b k := by
  have hl : s.data.toList.length = s.size := by simp
  cases b
  · obtain ⟨k, hk, e⟩ := word_letter hw (show j + n < s.size by omega)
    refine ⟨k, j, hk, by omega, bytes_ext ?_⟩
    rw [ByteArray.toList_eq, ByteArray.toList_eq]
    show (s.extract j (j + (n + 1))).data.toList = (exL (s.extract j (j + n)) false k).data.toList
    rw [exL_list, if_neg (by decide), ext_list2, ext_list2, List.take_succ_eq_append_getElem (by rw [List.length_drop]; omega), List.getElem_drop, e]
  · obtain ⟨k, hk, e⟩ := word_letter hw (show j < s.size by omega)
    refine ⟨k, j + 1, hk, by omega, bytes_ext ?_⟩
    rw [ByteArray.toList_eq, ByteArray.toList_eq]
    show (s.extract j (j + (n + 1))).data.toList = (exL (s.extract (j + 1) (j + 1 + n)) true k).data.toList
    rw [exL_list, if_pos rfl, ext_list2, ext_list2, ← e, List.drop_eq_getElem_cons (show j < s.data.toList.length by omega), List.take_succ_cons]
/-- the factors of n letters, each with each letter behind (or ahead of) it -/
noncomputable def extsL (s : ByteArray) (n : Nat) (b : Bool) : List ByteArray := (fctL s n).flatMap fun f => ((List.range 4).filter fun k => hasR s (exL f b k)).map (exL f b)
theorem outTo_len (p : Nat → Bool) : ∀ n, (outTo p n).length = ((List.range n).filter p).length
  | 0 => rfl
  | n + 1 => by
    rw [List.range_succ, List.filter_append, List.length_append, ← outTo_len p n]
    show (outTo p n ++ (if p n = true then [letterN n] else [])).length = _
    rw [List.length_append]
    congr 1
    by_cases h : p n = true
    · rw [if_pos h, List.filter_cons_of_pos h]; rfl
    · rw [if_neg h, List.filter_cons_of_neg h]; rfl
theorem nxt_size (s f : ByteArray) (b : Bool) : (nxtS s f b).size = ((List.range 4).filter fun k => hasR s (exL f b k)).length := by
  show ((outTo _ 4).toArray).size = _
  rw [List.size_toArray, outTo_len]
theorem exts_len (s : ByteArray) (n : Nat) (b : Bool) : (extsL s n b).length = ((fctL s n).map fun f => (nxtS s f b).size).sum := by
  unfold extsL
  rw [List.length_flatMap]
  congr 1
  apply List.map_congr_left
  intro f _
  rw [List.length_map, nxt_size]
theorem exts_mem {s : ByteArray} (hw : wordB s = true) (n : Nat) (hn : n + 1 ≤ s.size) (b : Bool) (x : ByteArray) : x ∈ extsL s n b ↔ x ∈ fctL s (n + 1) := by
  unfold extsL
  rw [List.mem_flatMap]
  constructor
  · rintro ⟨f, hf, hx⟩
    obtain ⟨k, hk, rfl⟩ := List.mem_map.1 hx
    obtain ⟨hk4, hh⟩ := List.mem_filter.1 hk
    obtain ⟨i, h1, h2⟩ := (has_iff _ _).1 hh
    rw [exL_sz, fct_sz (by omega) hf] at h1 h2
    exact (fct_mem _ _ _).2 ⟨i, by omega, h2.symm⟩
  · intro h
    obtain ⟨j, hj, rfl⟩ := (fct_mem _ _ _).1 h
    obtain ⟨k, i, hk, hi, e⟩ := ext_split hw (show j + (n + 1) ≤ s.size by omega) b
    refine ⟨s.extract i (i + n), (fct_mem _ _ _).2 ⟨i, by omega, rfl⟩, List.mem_map.2 ⟨k, List.mem_filter.2 ⟨List.mem_range.2 (by omega), ?_⟩, e.symm⟩⟩
    refine (has_iff _ _).2 ⟨j, ?_, ?_⟩
    · rw [exL_sz, ByteArray.size_extract]; omega
    · rw [exL_sz, ByteArray.size_extract, show min (i + n) s.size - i + 1 = n + 1 by omega]; exact e
theorem exts_nodup (s : ByteArray) (n : Nat) (b : Bool) : (extsL s n b).Nodup := by
  unfold extsL
  have hnd := asc_nodup (facTo_asc s n (s.size + 1 - n))
  change (fctL s n).Nodup at hnd
  generalize fctL s n = l at hnd
  induction l with
  | nil => exact List.Pairwise.nil
  | cons f l ih =>
    obtain ⟨h1, h2⟩ := List.pairwise_cons.1 hnd
    rw [List.flatMap_cons]
    refine List.pairwise_append.2 ⟨?_, ih h2, ?_⟩
    · refine List.pairwise_map.2 ?_
      have hr : ((List.range 4).filter fun k => hasR s (exL f b k)).Pairwise (fun i j => i ≠ j ∧ i < 4 ∧ j < 4) := by
        refine List.Pairwise.filter _ ?_
        decide
      exact hr.imp fun {i j} h e => h.1 (exL_inj (by omega) (by omega) e).2
    · intro x hx y hy e
      obtain ⟨k, hk, rfl⟩ := List.mem_map.1 hx
      obtain ⟨g, hg, hy⟩ := List.mem_flatMap.1 hy
      obtain ⟨k', hk', rfl⟩ := List.mem_map.1 hy
      have a := List.mem_range.1 (List.mem_filter.1 hk).1
      have c := List.mem_range.1 (List.mem_filter.1 hk').1
      exact h1 g hg (exL_inj (by omega) (by omega) e).1
/-- the followers of all factors are as many as the factors with a letter more -/
theorem exts_count {s : ByteArray} (hw : wordB s = true) (n : Nat) (hn : n + 1 ≤ s.size) (b : Bool) : ((fctL s n).map fun f => (nxtS s f b).size).sum = (fctL s (n + 1)).length := by
  rw [← exts_len]
  exact nodup_eq (exts_nodup s n b) (asc_nodup (facTo_asc _ _ _)) (exts_mem hw n hn b)
end Go.Proofs.Ytfcbfflkajlhnaa
