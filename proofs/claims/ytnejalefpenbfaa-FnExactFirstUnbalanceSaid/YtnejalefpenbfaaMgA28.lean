/- Texts put together. -/
import Derived.Test.YtnejalefpenbfaaMgA12
import Derived.Test.YtnejalefpenbfaaMgA15
import Derived.Test.YtnejalefpenbfaaMgA10
import Derived.Test.YtnejalefpenbfaaMgA27
import Derived.Test.YtnejalefpenbfaaMgA16
import Derived.Lib.IndexAny
import Derived.Test.YtnejalefpenbfaaMgA25
import Derived.Test.YtnejalefpenbfaaMgA11
import Derived.IntWalk
import Derived.Test.YtnejalefpenbfaaMgA18
/- GrowingLetters and isGrowing of the program. Conditions: lengths of at most 2^20. -/
namespace Go.Proofs.Ytnejalefpenbfaa
open Go.RowKit

theorem outTo_snoc {s : Nat → Bool} {i : Nat} (h : s i = true) : outTo s (i + 1) = outTo s i ++ [letterN i] := by
  show outTo s i ++ (if s i = true then [letterN i] else []) = _
  rw [if_pos h]
theorem outTo_same {s : Nat → Bool} {i : Nat} (h : s i = false) : outTo s (i + 1) = outTo s i := by
  show outTo s i ++ (if s i = true then [letterN i] else []) = _
  rw [h]
  exact List.append_nil _
theorem outTo_le (s : Nat → Bool) : ∀ n, (outTo s n).length ≤ n
  | 0 => Nat.le_refl _
  | n + 1 => by
    have := outTo_le s n
    by_cases h : s n = true
    · rw [outTo_snoc h, List.length_append]; simp; exact this
    · rw [outTo_same (by simpa using h)]; omega

theorem mem_outTo (s : Nat → Bool) (k : Nat) (hk : k ≤ 3) : ∀ n, n ≤ 4 → (letterN k ∈ outTo s n ↔ k < n ∧ s k = true)
  | 0, _ => by constructor
               · intro h; cases h
               · rintro ⟨h, _⟩; omega
  | n + 1, hn => by
    have ih := mem_outTo s k hk n (by omega)
    have hne : letterN k = letterN n ↔ k = n := by
      constructor
      · intro h
        have := congrArg UInt8.toNat h
        rw [letterN_toNat k (by omega), letterN_toNat n (by omega)] at this
        omega
      · rintro rfl; rfl
    by_cases h : s n = true
    · rw [outTo_snoc h, List.mem_append, ih, List.mem_singleton, hne]
      constructor
      · rintro (⟨a, b⟩ | rfl)
        · exact ⟨by omega, b⟩
        · exact ⟨by omega, h⟩
      · rintro ⟨a, b⟩
        by_cases e : k = n
        · exact .inr e
        · exact .inl ⟨by omega, b⟩
    · rw [outTo_same (by simpa using h), ih]
      constructor
      · rintro ⟨a, b⟩; exact ⟨by omega, b⟩
      · rintro ⟨a, b⟩
        refine ⟨?_, b⟩
        rcases Nat.lt_or_ge k n with e | e
        · exact e
        · have : k = n := by omega
          subst this
          exact absurd b h
theorem grow_has {l : List ByteArray} {t : ByteArray} {c : UInt8} (hw : (decide (t.size = 1) && wordB t) = true) (h3 : c.toNat = 97 + letN t) (h4 : letN t ≤ 3) : decide (0 ≤ Lib.indexByte (growR l).data.toList c) = growOk l t := by
  rw [← Lib.contains_iff_indexByte]
  have hcl : c = letterN (letN t) := by
    apply UInt8.toNat.inj
    rw [letterN_toNat _ (by omega), h3]
  unfold growOk letOk
  rw [hw]
  by_cases h : substB l = true
  · have hl4 := (subst_parts h).2.1
    have hV : growR l = ⟨(outTo (growB l) l.length).toArray⟩ := if_pos h
    rw [hV, h]
    show (outTo (growB l) l.length).contains c = _
    have hm := mem_outTo (growB l) (letN t) h4 l.length hl4
    rw [Bool.eq_iff_iff, List.contains_iff_mem, hcl, hm]
    simp
  · have hV : growR l = ⟨#[]⟩ := if_neg h
    rw [hV]
    have h' : substB l = false := by simpa using h
    rw [h']
    simp

end Go.Proofs.Ytnejalefpenbfaa

/- The letters that stand beside a factor in a set. Condition: a length. -/
namespace Go.Proofs.Ytnejalefpenbfaa
open Go.RowKit

/-- the k-th letter stands beside f -/
noncomputable def besB (L : List FK) (f : ByteArray) (k : Nat) : Bool := @decide ((f, ((97 : Int) + (k : Int))) ∈ L) (Classical.propDecidable _)
theorem besB_iff (L : List FK) (f : ByteArray) (k : Nat) : besB L f k = true ↔ (f, ((97 : Int) + (k : Int))) ∈ L := by unfold besB; simp

end Go.Proofs.Ytnejalefpenbfaa

/- The special factors of a set: the others are deleted while the set is ranged over. Condition: at most 400 keys, texts of at most 2^20 bytes. -/
namespace Go.Proofs.Ytnejalefpenbfaa
open Go.RowKit

noncomputable def besN (L : List FK) (f : ByteArray) : Nat := (outS (besB L f) 4).size
theorem outTo_mono {s t : Nat → Bool} (h : ∀ k, s k = true → t k = true) : ∀ n, (outTo s n).length ≤ (outTo t n).length
  | 0 => Nat.le_refl _
  | n + 1 => by
    have ih := outTo_mono h n
    show (outTo s n ++ if s n = true then [letterN n] else []).length ≤ (outTo t n ++ if t n = true then [letterN n] else []).length
    rw [List.length_append, List.length_append]
    by_cases hs : s n = true
    · rw [if_pos hs, if_pos (h n hs)]; omega
    · rw [if_neg hs]
      have : ([] : List UInt8).length = 0 := rfl
      omega
theorem besN_mono {L L' : List FK} {f : ByteArray} (h : ∀ z, (f, z) ∈ L → (f, z) ∈ L') : besN L f ≤ besN L' f := by
  have := outTo_mono (s := besB L f) (t := besB L' f) (fun k hk => (besB_iff _ _ _).2 (h _ ((besB_iff _ _ _).1 hk))) 4
  unfold besN outS
  show (outTo (besB L f) 4).toArray.size ≤ (outTo (besB L' f) 4).toArray.size
  simpa using this
/-- what has been left of L, M still to come -/
def Spared (L L1 M : List FK) : Prop := L1.length ≤ L.length ∧ ∀ q, q ∈ L1 ↔ q ∈ L ∧ (q ∈ M ∨ 2 ≤ besN L q.1)
theorem spared_start (L : List FK) : Spared L L L := ⟨Nat.le_refl _, fun _ => ⟨fun h => ⟨h, .inl h⟩, fun h => h.1⟩⟩
theorem spared_bes {L L1 M : List FK} (h : Spared L L1 M) (f : ByteArray) : besN L1 f < 2 ↔ besN L f < 2 := by
  have h1 : besN L1 f ≤ besN L f := besN_mono fun z hz => ((h.2 _).1 hz).1
  constructor
  · intro hlt
    by_cases h2 : besN L f < 2
    · exact h2
    · have h3 : besN L f ≤ besN L1 f := besN_mono fun z hz => (h.2 _).2 ⟨hz, .inr (by show 2 ≤ besN L f; omega)⟩
      omega
  · intro hlt; omega
theorem spared_drop {L L1 L2 M M' : List FK} {p : FK} (h : Spared L L1 M) (hb : besN L p.1 < 2) (h2 : Dels L2 L1 p) (hl : L2.length ≤ L1.length) (hM : Dels M' M p) : Spared L L2 M' := by
  refine ⟨Nat.le_trans hl h.1, fun q => ?_⟩
  rw [h2, h.2, hM]
  constructor
  · rintro ⟨⟨a, b | b⟩, c⟩
    · exact ⟨a, .inl ⟨b, c⟩⟩
    · exact ⟨a, .inr b⟩
  · rintro ⟨a, ⟨b, c⟩ | b⟩
    · exact ⟨⟨a, .inl b⟩, c⟩
    · refine ⟨⟨a, .inr b⟩, fun e => ?_⟩
      subst e
      omega
theorem spared_keep {L L1 M M' : List FK} {p : FK} (h : Spared L L1 M) (hb : ¬ besN L p.1 < 2) (hM : Dels M' M p) : Spared L L1 M' := by
  refine ⟨h.1, fun q => ?_⟩
  rw [h.2, hM]
  constructor
  · rintro ⟨a, b | b⟩
    · by_cases e : q = p
      · subst e; exact ⟨a, .inr (by omega)⟩
      · exact ⟨a, .inl ⟨b, e⟩⟩
    · exact ⟨a, .inr b⟩
  · rintro ⟨a, ⟨b, _⟩ | b⟩
    · exact ⟨a, .inl b⟩
    · exact ⟨a, .inr b⟩

theorem nodup_sub {L' L : List FK} (h : L'.Nodup) (hs : ∀ p ∈ L', p ∈ L) : L'.length ≤ L.length := by
  induction L' generalizing L with
  | nil => exact Nat.zero_le _
  | cons a l ih =>
    obtain ⟨h1, h2⟩ := List.nodup_cons.1 h
    obtain ⟨A, B, rfl⟩ := List.append_of_mem (hs a (List.mem_cons_self ..))
    have := ih (L := A ++ B) h2 fun p hp => by
      have hm := hs p (List.mem_cons_of_mem _ hp)
      simp only [List.mem_append, List.mem_cons] at hm ⊢
      rcases hm with hm | hm | hm
      · exact .inl hm
      · subst hm; exact absurd hp h1
      · exact .inr hm
    simp only [List.length_append, List.length_cons] at this ⊢
    omega

end Go.Proofs.Ytnejalefpenbfaa

/- The mathematics of the program's sets of factors: how many keys, which texts, which letters stand beside them. No program in it. -/
namespace Go.Proofs.Ytnejalefpenbfaa
open Go.RowKit

theorem insL_lim : ∀ (l : List ByteArray) (x : ByteArray), (insL l x).length ≤ l.length + 1
  | [], x => by simp [insL]
  | a :: l, x => by
    have := insL_lim l x
    unfold insL
    split
    · simp
    · split
      · simp only [List.length_cons]; omega
      · simp
theorem facTo_lim (s : ByteArray) (n : Nat) : ∀ i, (facTo s n i).length ≤ i
  | 0 => Nat.le_refl _
  | i + 1 => by
    have h1 := facTo_lim s n i
    have h2 := insL_lim (facTo s n i) (s.extract i (i + n))
    show (insL _ _).length ≤ _
    omega
theorem fctL_lim (s : ByteArray) (n : Nat) : (fctL s n).length ≤ s.size + 1 - n := facTo_lim _ _ _
theorem fct_lt {s x : ByteArray} {n : Nat} (h : x ∈ fctL s n) : n ≤ s.size := by
  obtain ⟨j, hj, _⟩ := (fct_mem s n x).1 h
  omega
theorem facS_mem {s : ByteArray} {n : Nat} {L : List FK} (h : SetIs L (facS s n (s.size + 1 - n))) (x : ByteArray) : x ∈ fctL s n ↔ ∃ z, (x, z) ∈ L := by
  rw [fct_mem]
  constructor
  · rintro ⟨j, hj, rfl⟩
    exact ⟨0, (h _).2 ⟨j, hj, rfl⟩⟩
  · rintro ⟨z, hz⟩
    obtain ⟨j, hj, e⟩ := (h _).1 hz
    exact ⟨j, hj, congrArg Prod.fst e⟩
theorem facS_len {s : ByteArray} {n : Nat} {L : List FK} (h : SetIs L (facS s n (s.size + 1 - n))) (hn : L.Nodup) : L.length = (fctL s n).length := by
  have h2 : ((fctL s n).map fun x => ((x, 0) : FK)).Nodup := List.pairwise_map.2 ((asc_nodup (facTo_asc s n (s.size + 1 - n))).imp fun {a b} hab e => hab (congrArg Prod.fst e))
  rw [nodup_eq hn h2 (fun p => ?_), List.length_map]
  rw [List.mem_map]
  constructor
  · intro hp
    obtain ⟨j, hj, e⟩ := (h p).1 hp
    exact ⟨_, (fct_mem s n _).2 ⟨j, hj, rfl⟩, e.symm⟩
  · rintro ⟨x, hx, rfl⟩
    obtain ⟨j, hj, e⟩ := (fct_mem s n x).1 hx
    exact (h _).2 ⟨j, hj, by rw [e]⟩

theorem bytes_iff {a b : ByteArray} : a = b ↔ a.data.toList = b.data.toList :=
  ⟨fun h => by rw [h], fun h => bytes_ext (by rw [ByteArray.toList_eq, ByteArray.toList_eq]; exact h)⟩
theorem ext_next (s : ByteArray) (i n : Nat) (h : i + n < s.size) : (s.extract i (i + (n + 1))).data.toList = (s.extract i (i + n)).data.toList ++ [s[i + n]] := by
  have hl : s.data.toList.length = s.size := by simp
  rw [ext_list2, ext_list2, List.take_succ_eq_append_getElem (by rw [List.length_drop]; omega), List.getElem_drop]
  rfl
theorem ext_first (s : ByteArray) (i n : Nat) (h : i + n < s.size) : (s.extract i (i + (n + 1))).data.toList = (s[i]'(by omega)) :: (s.extract (i + 1) (i + 1 + n)).data.toList := by
  have hl : s.data.toList.length = s.size := by simp
  rw [ext_list2, ext_list2, List.drop_eq_getElem_cons (show i < s.data.toList.length by omega), List.take_succ_cons]
  rfl
theorem u8_letter {c : UInt8} {k : Nat} (hk : k ≤ 3) : ((97 : Int) + (k : Int) = (c.toNat : Int)) ↔ c = letterN k := by
  constructor
  · intro h
    apply UInt8.toNat.inj
    rw [letterN_toNat k (by omega)]
    omega
  · intro h
    rw [h, letterN_toNat k (by omega)]
    omega

theorem fol_bes {s : ByteArray} {n : Nat} {L : List FK} (h : SetIs L (folS s n (s.size - n))) (f : ByteArray) (hf : f.size = n) (k : Nat) (hk : k ≤ 3) : besB L f k = hasR s (exL f false k) := by
  rw [Bool.eq_iff_iff, besB_iff, has_iff, exL_sz, hf, h]
  constructor
  · rintro ⟨j, _, hj, e⟩
    have e1 : f = s.extract j (j + n) := congrArg Prod.fst e
    have e2 : (97 : Int) + (k : Int) = (s[j + n].toNat : Int) := congrArg Prod.snd e
    refine ⟨j, by omega, bytes_iff.2 ?_⟩
    rw [ext_next s j n hj, exL_list, if_neg (by decide), ← e1, (u8_letter hk).1 e2]
  · rintro ⟨j, hj, e⟩
    have e := bytes_iff.1 e
    rw [ext_next s j n (by omega), exL_list, if_neg (by decide)] at e
    obtain ⟨e1, e2⟩ := List.append_inj' e rfl
    injection e2 with e2 _
    exact ⟨j, by omega, by omega, Prod.ext (bytes_iff.2 e1.symm) ((u8_letter hk).2 e2)⟩
theorem led_bes {s : ByteArray} {n : Nat} {L : List FK} (h : SetIs L (ledS s n (s.size - n))) (f : ByteArray) (hf : f.size = n) (k : Nat) (hk : k ≤ 3) : besB L f k = hasR s (exL f true k) := by
  rw [Bool.eq_iff_iff, besB_iff, has_iff, exL_sz, hf, h]
  constructor
  · rintro ⟨j, _, hj, e⟩
    have e1 : f = s.extract (j + 1) (j + 1 + n) := congrArg Prod.fst e
    have e2 : (97 : Int) + (k : Int) = ((s[j]'(by omega)).toNat : Int) := congrArg Prod.snd e
    refine ⟨j, by omega, bytes_iff.2 ?_⟩
    rw [ext_first s j n hj, exL_list, if_pos rfl, ← e1, (u8_letter hk).1 e2]
  · rintro ⟨j, hj, e⟩
    have e := bytes_iff.1 e
    rw [ext_first s j n (by omega), exL_list, if_pos rfl] at e
    injection e with e1 e2
    exact ⟨j, by omega, by omega, Prod.ext (bytes_iff.2 e2.symm) ((u8_letter hk).2 e1)⟩
theorem fol_out {s : ByteArray} {n : Nat} {L : List FK} (h : SetIs L (folS s n (s.size - n))) (f : ByteArray) (hf : f.size = n) : outS (besB L f) 4 = nxtS s f false := by
  unfold outS nxtS
  rw [outTo_congr 4 (fun i hi => fol_bes h f hf i (by omega))]
theorem led_out {s : ByteArray} {n : Nat} {L : List FK} (h : SetIs L (ledS s n (s.size - n))) (f : ByteArray) (hf : f.size = n) : outS (besB L f) 4 = nxtS s f true := by
  unfold outS nxtS
  rw [outTo_congr 4 (fun i hi => led_bes h f hf i (by omega))]
theorem bes_some {L : List FK} {f : ByteArray} (h : 2 ≤ besN L f) : ∃ z, (f, z) ∈ L := by
  have h' : 2 ≤ ((outTo (besB L f) 4).toArray).size := h
  rw [List.size_toArray, outTo_len] at h'
  cases hl : (List.range 4).filter (besB L f) with
  | nil => rw [hl] at h'; simp at h'
  | cons k r =>
    have hk : k ∈ (List.range 4).filter (besB L f) := by rw [hl]; exact List.mem_cons_self ..
    exact ⟨_, (besB_iff _ _ _).1 (List.mem_filter.1 hk).2⟩
theorem spc_asc (s : ByteArray) (n : Nat) (b : Bool) : Asc (spcL s n b) := List.Pairwise.filter _ (facTo_asc s n _)
theorem spc_mem {s : ByteArray} {n : Nat} {b : Bool} {L L' : List FK} (hout : ∀ f : ByteArray, f.size = n → outS (besB L f) 4 = nxtS s f b) (hin : ∀ p ∈ L, p.1 ∈ fctL s n) (h' : ∀ q, q ∈ L' ↔ q ∈ L ∧ 2 ≤ besN L q.1) (x : ByteArray) : x ∈ spcL s n b ↔ ∃ z, (x, z) ∈ L' := by
  unfold spcL
  rw [List.mem_filter, decide_eq_true_eq]
  have hb : x ∈ fctL s n → besN L x = (nxtS s x b).size := fun hx => by
    unfold besN
    rw [hout x (fct_sz (fct_lt hx) hx)]
  constructor
  · rintro ⟨hx, h2⟩
    have h3 : 2 ≤ besN L x := by rw [hb hx]; exact h2
    obtain ⟨z, hz⟩ := bes_some h3
    exact ⟨z, (h' _).2 ⟨hz, h3⟩⟩
  · rintro ⟨z, hz⟩
    obtain ⟨h1, h2⟩ := (h' _).1 hz
    have hx := hin _ h1
    refine ⟨hx, ?_⟩
    have h3 : 2 ≤ besN L x := h2
    rw [hb hx] at h3
    exact h3
theorem fol_in {s : ByteArray} {n : Nat} {L : List FK} (h : SetIs L (folS s n (s.size - n))) : ∀ p ∈ L, p.1 ∈ fctL s n := by
  intro p hp
  obtain ⟨j, _, hj, rfl⟩ := (h p).1 hp
  exact (fct_mem s n _).2 ⟨j, by omega, rfl⟩
theorem led_in {s : ByteArray} {n : Nat} {L : List FK} (h : SetIs L (ledS s n (s.size - n))) : ∀ p ∈ L, p.1 ∈ fctL s n := by
  intro p hp
  obtain ⟨j, _, hj, rfl⟩ := (h p).1 hp
  exact (fct_mem s n _).2 ⟨j + 1, by omega, rfl⟩
end Go.Proofs.Ytnejalefpenbfaa
