/- Texts put together. -/
import Derived.Test.YtfcbfflkajlhnaaMgU20
import Derived.Test.YtfcbfflkajlhnaaMgU10
import Derived.Test.YtfcbfflkajlhnaaMgU5
import Derived.Test.YtfcbfflkajlhnaaMgU2
import Derived.Test.YtfcbfflkajlhnaaMgU17
/- The special factors of a set: the others are deleted while the set is ranged over. Condition: at most 400 keys, texts of at most 2^20 bytes. -/
namespace Go.Proofs.Ytfcbfflkajlhnaa
open Go.RowKit

noncomputable def besN (L : List FK) (f : ByteArray) : Nat := (outS (besB L f) 4).size
theorem outTo_mono {s t : Nat → Bool} (h : ∀ k, s k = true → t k = true) : ∀ n, (outTo s n).length ≤ (outTo t n).length
  | 0 => Nat.le_refl _
  | n + 1 => by
    have ih := outTo_mono h n
    show (outTo s n ++ if s n = true then [letterN n] else []).length ≤ (outTo t n ++ if t n = true then [letterN n] else []).length
    rw [List.length_append, List.length_append]
    by_cases hs : s n = true
    · rw [if_pos hs, if_pos (h n hs)]; omega
    · rw [if_neg hs]
      have : ([] : List UInt8).length = 0 := rfl
      omega
theorem besN_mono {L L' : List FK} {f : ByteArray} (h : ∀ z, (f, z) ∈ L → (f, z) ∈ L') : besN L f ≤ besN L' f := by
  have := outTo_mono (s := besB L f) (t := besB L' f) (fun k hk => (besB_iff _ _ _).2 (h _ ((besB_iff _ _ _).1 hk))) 4
  unfold besN outS
  show (outTo (besB L f) 4).toArray.size ≤ (outTo (besB L' f) 4).toArray.size
  simpa using this
/-- what has been left of L, M still to come -/
def Spared (L L1 M : List FK) : Prop := L1.length ≤ L.length ∧ ∀ q, q ∈ L1 ↔ q ∈ L ∧ (q ∈ M ∨ 2 ≤ besN L q.1)
theorem spared_start (L : List FK) : Spared L L L := ⟨Nat.le_refl _, fun _ => ⟨fun h => ⟨h, .inl h⟩, fun h => h.1⟩⟩
theorem spared_bes {L L1 M : List FK} (h : Spared L L1 M) (f : ByteArray) : besN L1 f < 2 ↔ besN L f < 2 := by
  have h1 : besN L1 f ≤ besN L f := besN_mono fun z hz => ((h.2 _).1 hz).1
  constructor
  · intro hlt
    by_cases h2 : besN L f < 2
    · exact h2
    · have h3 : besN L f ≤ besN L1 f := besN_mono fun z hz => (h.2 _).2 ⟨hz, .inr (by show 2 ≤ besN L f; omega)⟩
      omega
  · intro hlt; omega
theorem spared_drop {L L1 L2 M M' : List FK} {p : FK} (h : Spared L L1 M) (hb : besN L p.1 < 2) (h2 : Dels L2 L1 p) (hl : L2.length ≤ L1.length) (hM : Dels M' M p) : Spared L L2 M' := by
  refine ⟨Nat.le_trans hl h.1, fun q => ?_⟩
  rw [h2, h.2, hM]
  constructor
  · rintro ⟨⟨a, b | b⟩, c⟩
    · exact ⟨a, .inl ⟨b, c⟩⟩
    · exact ⟨a, .inr b⟩
  · rintro ⟨a, ⟨b, c⟩ | b⟩
    · exact ⟨⟨a, .inl b⟩, c⟩
    · refine ⟨⟨a, .inr b⟩, fun e => ?_⟩
      subst e
      omega
theorem spared_keep {L L1 M M' : List FK} {p : FK} (h : Spared L L1 M) (hb : ¬ besN L p.1 < 2) (hM : Dels M' M p) : Spared L L1 M' := by
  refine ⟨h.1, fun q => ?_⟩
  rw [h.2, hM]
  constructor
  · rintro ⟨a, b | b⟩
    · by_cases e : q = p
      · subst e; exact ⟨a, .inr (by omega)⟩
      · exact ⟨a, .inl ⟨b, e⟩⟩
    · exact ⟨a, .inr b⟩
  · rintro ⟨a, ⟨b, _⟩ | b⟩
    · exact ⟨a, .inl b⟩
    · exact ⟨a, .inr b⟩

theorem nodup_sub {L' L : List FK} (h : L'.Nodup) (hs : ∀ p ∈ L', p ∈ L) : L'.length ≤ L.length := by
  induction L' generalizing L with
  | nil => exact Nat.zero_le _
  | cons a l ih =>
    obtain ⟨h1, h2⟩ := List.nodup_cons.1 h
    obtain ⟨A, B, rfl⟩ := List.append_of_mem (hs a (List.mem_cons_self ..))
    have := ih (L := A ++ B) h2 fun p hp => by
      have hm := hs p (List.mem_cons_of_mem _ hp)
      simp only [List.mem_append, List.mem_cons] at hm ⊢
      rcases hm with hm | hm | hm
      · exact .inl hm
      · subst hm; exact absurd hp h1
      · exact .inr hm
    simp only [List.length_append, List.length_cons] at this ⊢
    omega

set_option maxRecDepth 100000 in
set_option maxHeartbeats 1000000 in
theorem implSpecial (L : List FK) (b : Nat) (w : World) (h : FSet w b L) (hsz : ∀ p ∈ L, p.1.size ≤ 1048576) :
    Calls Try.prog 89 #[.map (some b)] w fun e w' => ∃ L', e = .returned (.map (some b)) ∧ FSet w' b L' ∧ (∀ q, q ∈ L' ↔ q ∈ L ∧ 2 ≤ besN L q.1) ∧ L'.length ≤ L.length ∧ w.grownBy w' (some b) := by
  have HF := Lib.hid h
  have HSZ := Lib.hid hsz
  have hbw := h.lt
  clear h hsz
  go_enter Try.func89, Try.ntmps89
  go_wp2_with (at_range; refine wp_range _ rfl _ tSet rfl fk_law uSet b L _ rfl HF.out ?_; intro w2 hF2 hg2 hs2)
  go_frame
  have HF2 := Lib.hid hF2
  have HG2 := Lib.hid (hg2.but (some b))
  have HSS := Lib.hid (spared_start L)
  clear hF2 hg2
  go_loopw [3] (fun _ w' => ∃ L1 M, FRange Try.prog fK 4 w' b w.heap.size L1 (fun _ => .bool true) M ∧ Spared L L1 M ∧ w.grownBy w' (some b)) (fun _ w' => w'.rangeLeft b w.heap.size)
  case atStart => exact ⟨L, L, HF2.out, HSS.out, HG2.out⟩
  case round =>
    obtain ⟨L1, M, hF, hS, hg⟩ := hrel
    have HFR := Lib.hid hF
    have HS := Lib.hid hS
    have HG := Lib.hid hg
    have hwr := hg.size
    clear hF hS hg HG2 HF2 HSS
    go_wp2_with (at_next; refine wp_step _ rfl _ rfl fT fk_law b w.heap.size L1 _ M rfl HFR.out (fun _ => .bool true) vv_bool ?_ ?_)
    · intro hM0
      subst hM0
      go_wp2_with fail
      go_ret
      exact ⟨L1, rfl, HFR.out.owns, fun q => by have := HS.out.2 q; simpa using this, HS.out.1, HG.out⟩
    · intro f z M' w3 hp hM' hl' hF3 hlt hg3 hs3 hen
      have hpL1 := HFR.out.sub _ hp
      have hfz := HSZ.out _ ((HS.out.2 _).1 hpL1).1
      have hb3 : w.grownBy w3 (some b) := HG.out.andThen hg3 (fun j hj => by cases hj; exact .inl (Nat.le_refl _))
      have hF4 := hF3.alloc (.cells #[.string f, .int .u8 z] 124)
      have hb4 : w.grownBy (w3.alloc (.cells #[.string f, .int .u8 z] 124)) (some b) := hb3.andThen (World.grownBy_alloc w3 _ none) (fun j hj => by cases hj)
      have hlt4 : (w3.alloc (.cells #[.string f, .int .u8 z] 124)).rangeLeft b w.heap.size < wr.rangeLeft b w.heap.size := by
        rw [rangeLeft_kept hF3 (World.grownBy_alloc _ _ none) (by simp) (by simp)]
        exact hlt
      have hpM' : (f, z) ∉ M' := fun hh => ((hM' _).1 hh).2 rfl
      have HBES := Lib.hid (implBeside L1 b f _ hF4.owns hfz)
      have HCMP := Lib.hid (spared_bes HS.out f)
      have HF4 := Lib.hid hF4
      have HB4 := Lib.hid hb4
      have HLT4 := Lib.hid hlt4
      have HM' := Lib.hid hM'
      have HPL := Lib.hid hpL1
      have HPM := Lib.hid hpM'
      have hc1 : (w3.alloc (.cells #[.string f, .int .u8 z] 124)).cell? ⟨wr.heap.size, 0, none⟩ = some (.string f) := by rw [World.cell?_alloc_at _ _ _ _ (by simp [hs3])]; rfl
      have hc2 : (w3.alloc (.cells #[.string f, .int .u8 z] 124)).cell? ⟨wr.heap.size, 1, none⟩ = some (.int .u8 z) := by rw [World.cell?_alloc_at _ _ _ _ (by simp [hs3])]; rfl
      have hsz4 : (w3.alloc (.cells #[.string f, .int .u8 z] 124)).heap.size = wr.heap.size + 1 := by simp [hs3]
      have HC1 := Lib.hid hc1
      have HC2 := Lib.hid hc2
      have HSZ4 := Lib.hid hsz4
      clear hpL1 hb3 hF4 hb4 hlt4 hlt hM' hF3 hg3 hp hpM' hc1 hc2 hsz4
      go_wp2_with fail
      refine HBES.out.mono ?_
      rintro e w5 ⟨rfl, hb5⟩
      have hn : (outS (besB L1 f) 4).size = besN L1 f := rfl
      have c1 : w5.cell? ⟨wr.heap.size, 0, none⟩ = some (.string f) := (hb5.cell (p := ⟨wr.heap.size, 0, none⟩) (by rw [HSZ4.out]; simp)).trans HC1.out
      have c2 : w5.cell? ⟨wr.heap.size, 1, none⟩ = some (.int .u8 z) := (hb5.cell (p := ⟨wr.heap.size, 1, none⟩) (by rw [HSZ4.out]; simp)).trans HC2.out
      have HF5 := Lib.hid (HF4.out.below hb5)
      have HB5 : Hid (w.grownBy w5 (some b)) := HB4.out.andThen (grown_of_below hb5 none) (fun j hj => by cases hj)
      have HLT5 : Hid (w5.rangeLeft b w.heap.size < wr.rangeLeft b w.heap.size) := by
        show _ < _
        rw [rangeLeft_kept HF4.out (grown_of_below hb5 none) (by simp) (by simp)]
        exact HLT4.out
      clear hb5
      by_cases hc : besN L1 f < 2
      · have d1 : decide (((outS (besB L1 f) 4).size : Int) < 2) = true := by rw [hn]; simp; omega
        have HC := Lib.hid (HCMP.out.1 hc)
        clear hc hn
        go_wp2_with (at_delete; refine wp_drop _ rfl _ _ tSet fK rfl fT fk_law uSet b w.heap.size L1 _ M' rfl HF5.out (f, z) rfl HPL.out HPM.out ?_; intro w6 L2 hF6 hD6 hlt6 hg6 hs6; go_frame)
        go_roundw
        case rel =>
          exact ⟨L2, M', hF6, spared_drop HS.out HC.out hD6 (nodup_sub hF6.owns.nodup fun p hp => ((hD6 p).1 hp).1) HM'.out, HB5.out.andThen hg6 (fun j hj => by cases hj; exact .inr rfl)⟩
        case measure => have := HLT5.out; omega
      · have d1 : decide (((outS (besB L1 f) 4).size : Int) < 2) = false := by rw [hn]; simp; omega
        have HC : Hid (¬ besN L f < 2) := fun hh => hc (HCMP.out.2 hh)
        clear hc hn
        go_wp2_with fail
        go_roundw
        case rel => exact ⟨L1, M', HF5.out, spared_keep HS.out HC.out HM'.out, HB5.out⟩
        case measure => exact HLT5.out
end Go.Proofs.Ytfcbfflkajlhnaa

/- The mathematics of the program's sets of factors: how many keys, which texts, which letters stand beside them. No program in it. -/
namespace Go.Proofs.Ytfcbfflkajlhnaa
open Go.RowKit

theorem insL_lim : ∀ (l : List ByteArray) (x : ByteArray), (insL l x).length ≤ l.length + 1
  | [], x => by simp [insL]
  | a :: l, x => by
    have := insL_lim l x
    unfold insL
    split
    · simp
    · split
      · simp only [List.length_cons]; omega
      · simp
theorem facTo_lim (s : ByteArray) (n : Nat) : ∀ i, (facTo s n i).length ≤ i
  | 0 => Nat.le_refl _
  | i + 1 => by
    have h1 := facTo_lim s n i
    have h2 := insL_lim (facTo s n i) (s.extract i (i + n))
    show (insL _ _).length ≤ _
    omega
theorem fctL_lim (s : ByteArray) (n : Nat) : (fctL s n).length ≤ s.size + 1 - n := facTo_lim _ _ _
theorem fct_lt {s x : ByteArray} {n : Nat} (h : x ∈ fctL s n) : n ≤ s.size := by
  obtain ⟨j, hj, _⟩ := (fct_mem s n x).1 h
  omega
theorem facS_mem {s : ByteArray} {n : Nat} {L : List FK} (h : SetIs L (facS s n (s.size + 1 - n))) (x : ByteArray) : x ∈ fctL s n ↔ ∃ z, (x, z) ∈ L := by
  rw [fct_mem]
  constructor
  · rintro ⟨j, hj, rfl⟩
    exact ⟨0, (h _).2 ⟨j, hj, rfl⟩⟩
  · rintro ⟨z, hz⟩
    obtain ⟨j, hj, e⟩ := (h _).1 hz
    exact ⟨j, hj, congrArg Prod.fst e⟩
theorem facS_len {s : ByteArray} {n : Nat} {L : List FK} (h : SetIs L (facS s n (s.size + 1 - n))) (hn : L.Nodup) : L.length = (fctL s n).length := by
  have h2 : ((fctL s n).map fun x => ((x, 0) : FK)).Nodup := List.pairwise_map.2 ((asc_nodup (facTo_asc s n (s.size + 1 - n))).imp fun {a b} hab e => hab (congrArg Prod.fst e))
  rw [nodup_eq hn h2 (fun p => ?_), List.length_map]
  rw [List.mem_map]
  constructor
  · intro hp
    obtain ⟨j, hj, e⟩ := (h p).1 hp
    exact ⟨_, (fct_mem s n _).2 ⟨j, hj, rfl⟩, e.symm⟩
  · rintro ⟨x, hx, rfl⟩
    obtain ⟨j, hj, e⟩ := (fct_mem s n x).1 hx
    exact (h _).2 ⟨j, hj, by rw [e]⟩

theorem bytes_iff {a b : ByteArray} : a = b ↔ a.data.toList = b.data.toList :=
  ⟨fun h => by rw [h], fun h => bytes_ext (by rw [ByteArray.toList_eq, ByteArray.toList_eq]; exact h)⟩
theorem ext_next (s : ByteArray) (i n : Nat) (h : i + n < s.size) : (s.extract i (i + (n + 1))).data.toList = (s.extract i (i + n)).data.toList ++ [s[i + n]] := by
  have hl : s.data.toList.length = s.size := by simp
  rw [ext_list2, ext_list2, List.take_succ_eq_append_getElem (by rw [List.length_drop]; omega), List.getElem_drop]
  rfl
theorem ext_first (s : ByteArray) (i n : Nat) (h : i + n < s.size) : (s.extract i (i + (n + 1))).data.toList = (s[i]'(by omega)) :: (s.extract (i + 1) (i + 1 + n)).data.toList := by
  have hl : s.data.toList.length = s.size := by simp
  rw [ext_list2, ext_list2, List.drop_eq_getElem_cons (show i < s.data.toList.length by omega), List.take_succ_cons]
  rfl
theorem u8_letter {c : UInt8} {k : Nat} (hk : k ≤ 3) : ((97 : Int) + (k : Int) = (c.toNat : Int)) ↔ c = letterN k := by
  constructor
  · intro h
    apply UInt8.toNat.inj
    rw [letterN_toNat k (by omega)]
    omega
  · intro h
    rw [h, letterN_toNat k (by omega)]
    omega

theorem fol_bes {s : ByteArray} {n : Nat} {L : List FK} (h : SetIs L (folS s n (s.size - n))) (f : ByteArray) (hf : f.size = n) (k : Nat) (hk : k ≤ 3) : besB L f k = hasR s (exL f false k) := by
  rw [Bool.eq_iff_iff, besB_iff, has_iff, exL_sz, hf, h]
  constructor
  · rintro ⟨j, _, hj, e⟩
    have e1 : f = s.extract j (j + n) := congrArg Prod.fst e
    have e2 : (97 : Int) + (k : Int) = (s[j + n].toNat : Int) := congrArg Prod.snd e
    refine ⟨j, by omega, bytes_iff.2 ?_⟩
    rw [ext_next s j n hj, exL_list, if_neg (by decide), ← e1, (u8_letter hk).1 e2]
  · rintro ⟨j, hj, e⟩
    have e := bytes_iff.1 e
    rw [ext_next s j n (by omega), exL_list, if_neg (by decide)] at e
    obtain ⟨e1, e2⟩ := List.append_inj' e rfl
    injection e2 with e2 _
    exact ⟨j, by omega, by omega, Prod.ext (bytes_iff.2 e1.symm) ((u8_letter hk).2 e2)⟩
theorem led_bes {s : ByteArray} {n : Nat} {L : List FK} (h : SetIs L (ledS s n (s.size - n))) (f : ByteArray) (hf : f.size = n) (k : Nat) (hk : k ≤ 3) : besB L f k = hasR s (exL f true k) := by
  rw [Bool.eq_iff_iff, besB_iff, has_iff, exL_sz, hf, h]
  constructor
  · rintro ⟨j, _, hj, e⟩
    have e1 : f = s.extract (j + 1) (j + 1 + n) := congrArg Prod.fst e
    have e2 : (97 : Int) + (k : Int) = ((s[j]'(by omega)).toNat : Int) := congrArg Prod.snd e
    refine ⟨j, by omega, bytes_iff.2 ?_⟩
    rw [ext_first s j n hj, exL_list, if_pos rfl, ← e1, (u8_letter hk).1 e2]
  · rintro ⟨j, hj, e⟩
    have e := bytes_iff.1 e
    rw [ext_first s j n (by omega), exL_list, if_pos rfl] at e
    injection e with e1 e2
    exact ⟨j, by omega, by omega, Prod.ext (bytes_iff.2 e2.symm) ((u8_letter hk).2 e1)⟩
theorem fol_out {s : ByteArray} {n : Nat} {L : List FK} (h : SetIs L (folS s n (s.size - n))) (f : ByteArray) (hf : f.size = n) : outS (besB L f) 4 = nxtS s f false := by
  unfold outS nxtS
  rw [outTo_congr 4 (fun i hi => fol_bes h f hf i (by omega))]
theorem led_out {s : ByteArray} {n : Nat} {L : List FK} (h : SetIs L (ledS s n (s.size - n))) (f : ByteArray) (hf : f.size = n) : outS (besB L f) 4 = nxtS s f true := by
  unfold outS nxtS
  rw [outTo_congr 4 (fun i hi => led_bes h f hf i (by omega))]
theorem bes_some {L : List FK} {f : ByteArray} (h : 2 ≤ besN L f) : ∃ z, (f, z) ∈ L := by
  have h' : 2 ≤ ((outTo (besB L f) 4).toArray).size := h
  rw [List.size_toArray, outTo_len] at h'
  cases hl : (List.range 4).filter (besB L f) with
  | nil => rw [hl] at h'; simp at h'
  | cons k r =>
    have hk : k ∈ (List.range 4).filter (besB L f) := by rw [hl]; exact List.mem_cons_self ..
    exact ⟨_, (besB_iff _ _ _).1 (List.mem_filter.1 hk).2⟩
theorem spc_asc (s : ByteArray) (n : Nat) (b : Bool) : Asc (spcL s n b) := List.Pairwise.filter _ (facTo_asc s n _)
theorem spc_mem {s : ByteArray} {n : Nat} {b : Bool} {L L' : List FK} (hout : ∀ f : ByteArray, f.size = n → outS (besB L f) 4 = nxtS s f b) (hin : ∀ p ∈ L, p.1 ∈ fctL s n) (h' : ∀ q, q ∈ L' ↔ q ∈ L ∧ 2 ≤ besN L q.1) (x : ByteArray) : x ∈ spcL s n b ↔ ∃ z, (x, z) ∈ L' := by
  unfold spcL
  rw [List.mem_filter, decide_eq_true_eq]
  have hb : x ∈ fctL s n → besN L x = (nxtS s x b).size := fun hx => by
    unfold besN
    rw [hout x (fct_sz (fct_lt hx) hx)]
  constructor
  · rintro ⟨hx, h2⟩
    have h3 : 2 ≤ besN L x := by rw [hb hx]; exact h2
    obtain ⟨z, hz⟩ := bes_some h3
    exact ⟨z, (h' _).2 ⟨hz, h3⟩⟩
  · rintro ⟨z, hz⟩
    obtain ⟨h1, h2⟩ := (h' _).1 hz
    have hx := hin _ h1
    refine ⟨hx, ?_⟩
    have h3 : 2 ≤ besN L x := h2
    rw [hb hx] at h3
    exact h3
theorem fol_in {s : ByteArray} {n : Nat} {L : List FK} (h : SetIs L (folS s n (s.size - n))) : ∀ p ∈ L, p.1 ∈ fctL s n := by
  intro p hp
  obtain ⟨j, _, hj, rfl⟩ := (h p).1 hp
  exact (fct_mem s n _).2 ⟨j, by omega, rfl⟩
theorem led_in {s : ByteArray} {n : Nat} {L : List FK} (h : SetIs L (ledS s n (s.size - n))) : ∀ p ∈ L, p.1 ∈ fctL s n := by
  intro p hp
  obtain ⟨j, _, hj, rfl⟩ := (h p).1 hp
  exact (fct_mem s n _).2 ⟨j + 1, by omega, rfl⟩
end Go.Proofs.Ytfcbfflkajlhnaa

/- A list of texts, sorted and with neighbors that are equal struck out, is the ascending list of its texts, each once; a row of texts turned by the library's two. -/
namespace Go.Proofs.Ytfcbfflkajlhnaa
open Go.RowKit

abbrev toBA (l : List UInt8) : ByteArray := ⟨l.toArray⟩
theorem less_lt (a b : ByteArray) : lessB a b = true ↔ a.data.toList < b.data.toList := by
  unfold lessB
  rw [bytesLess_eq, ByteArray.toList_eq, ByteArray.toList_eq, decide_eq_true_eq]
theorem lt_ne {a b : List UInt8} (h : a ≤ b) (hne : a ≠ b) : a < b := by
  rcases bl_tri a b with k | k | k
  · rwa [bytesLess_eq, decide_eq_true_eq] at k
  · exact absurd k hne
  · rw [bytesLess_eq, decide_eq_true_eq] at k
    exact absurd k (List.not_lt.2 h)
theorem cells_map (ys : List (List UInt8)) : ys.map encStr = strs (ys.map toBA) := by
  unfold strs
  rw [List.map_map]
  rfl

/-! ### the library's Compact of an ascending list -/
section
variable {d : Array (List UInt8)}
theorem cp_mem (d : Array (List UInt8)) (x : List UInt8) : ∀ m, x ∈ Lib.compactUpTo d m ↔ ∃ j, j < m ∧ d[j]! = x
  | 0 => by simp [Lib.compactUpTo]
  | m + 1 => by
    rw [Lib.compactUpTo_succ, List.mem_append, cp_mem d x m]
    by_cases hk : Lib.keeps d m = true
    · rw [if_pos hk, List.mem_singleton]
      constructor
      · rintro (⟨j, a, b⟩ | rfl)
        · exact ⟨j, by omega, b⟩
        · exact ⟨m, by omega, rfl⟩
      · rintro ⟨j, a, b⟩
        by_cases e : j = m
        · subst e; exact .inr b.symm
        · exact .inl ⟨j, by omega, b⟩
    · rw [if_neg hk]
      constructor
      · rintro (⟨j, a, b⟩ | h)
        · exact ⟨j, by omega, b⟩
        · cases h
      · rintro ⟨j, a, b⟩
        left
        by_cases e : j = m
        · subst e
          have hk' : ¬ (j = 0 ∨ d[j]! ≠ d[j - 1]!) := by simpa [Lib.keeps] using hk
          rw [not_or, Classical.not_not] at hk'
          exact ⟨j - 1, by omega, by rw [← hk'.2]; exact b⟩
        · exact ⟨j, by omega, b⟩
theorem cp_asc (hs : ∀ i j, i < j → j < d.size → d[i]! ≤ d[j]!) : ∀ m, m ≤ d.size → (Lib.compactUpTo d m).Pairwise (· < ·)
  | 0, _ => by simp [Lib.compactUpTo]
  | m + 1, hm => by
    rw [Lib.compactUpTo_succ]
    have ih := cp_asc hs m (by omega)
    by_cases hk : Lib.keeps d m = true
    · rw [if_pos hk]
      refine List.pairwise_append.2 ⟨ih, List.pairwise_singleton _ _, fun a ha b hb => ?_⟩
      rw [List.mem_singleton] at hb
      subst hb
      obtain ⟨j, hj, rfl⟩ := (cp_mem d a m).1 ha
      have hk' : m = 0 ∨ d[m]! ≠ d[m - 1]! := by simpa [Lib.keeps] using hk
      have hne := hk'.resolve_left (by omega)
      have h1 : d[m - 1]! ≤ d[m]! := hs (m - 1) m (by omega) (by omega)
      have h2 : d[m - 1]! < d[m]! := lt_ne h1 (Ne.symm hne)
      by_cases e : j = m - 1
      · rw [e]; exact h2
      · exact List.lt_of_le_of_lt (hs j (m - 1) (by omega) (by omega)) h2
    · rw [if_neg hk, List.append_nil]
      exact ih
end
theorem sort_le (ss : List (List UInt8)) : (ss.mergeSort fun x y => decide (x ≤ y)).Pairwise (· ≤ ·) := by
  have := List.pairwise_mergeSort (le := fun x y : List UInt8 => decide (x ≤ y)) (fun a b c h k => by simp only [decide_eq_true_eq] at h k ⊢; exact List.le_trans h k) (fun a b => by simp only [Bool.or_eq_true, decide_eq_true_eq]; exact List.le_total a b) ss
  simpa using this
theorem sort_mem (ss : List (List UInt8)) (x : List UInt8) : x ∈ (ss.mergeSort fun x y => decide (x ≤ y)) ↔ x ∈ ss := (List.mergeSort_perm ss _).mem_iff
/-- sorted and compacted -/
theorem sorted_eq {l m : List ByteArray} (hm : Asc m) (h : ∀ x, x ∈ l ↔ x ∈ m) : (Lib.compact ((l.map (·.data.toList)).mergeSort fun x y => decide (x ≤ y))).map toBA = m := by
  have hp := sort_le (l.map (·.data.toList))
  have hmem := sort_mem (l.map (·.data.toList))
  generalize (l.map (·.data.toList)).mergeSort (fun x y => decide (x ≤ y)) = zs at hp hmem
  have hs : ∀ i j, i < j → j < zs.toArray.size → zs.toArray[i]! ≤ zs.toArray[j]! := by
    intro i j hij hj
    have hj' : j < zs.length := by simpa using hj
    have := List.pairwise_iff_getElem.1 hp i j (by omega) hj' hij
    rw [getElem!_pos _ i (by simp; omega), getElem!_pos _ j (by simp; omega)]
    simpa using this
  have ha := cp_asc hs zs.length (by simp)
  refine asc_ext ?_ hm fun x => ?_
  · refine List.pairwise_map.2 (ha.imp fun {a b} h => ?_)
    exact (less_lt _ _).2 (by simpa using h)
  · rw [← h x, List.mem_map]
    have key : ∀ y : List UInt8, y ∈ Lib.compact zs ↔ y ∈ zs := by
      intro y
      unfold Lib.compact
      rw [cp_mem]
      constructor
      · rintro ⟨j, hj, rfl⟩
        rw [getElem!_pos _ j (by simpa using hj)]
        simp
      · intro hy
        obtain ⟨j, hj, rfl⟩ := List.mem_iff_getElem.1 hy
        exact ⟨j, hj, by rw [getElem!_pos _ j (by simpa using hj)]; simp⟩
    constructor
    · rintro ⟨y, hy, rfl⟩
      rw [key, hmem, List.mem_map] at hy
      obtain ⟨z, hz, rfl⟩ := hy
      exact hz
    · intro hx
      exact ⟨x.data.toList, by rw [key, hmem, List.mem_map]; exact ⟨x, hx, rfl⟩, rfl⟩

/-! ### a row of one's own under the library's words -/
section
variable {w : World} {B g n cap : Nat} {T : TypeId} {l : List ByteArray}
theorem own_holds (h : w.ownsRow B T 1 (.slice (some ⟨g, 0, none⟩) n cap) n (strs l)) : Sort.Holds encStr w g 0 (l.map (·.data.toList)).toArray := by
  have hl := h.1
  rw [strs_length, Nat.mul_one] at hl
  intro j hj
  have hj' : j < l.length := by simpa using hj
  refine ⟨?_, h.frozenAt _⟩
  rw [Nat.zero_add, h.cellAt j (by omega)]
  simp [strs, hj', encStr]
theorem own_lt (h : w.ownsRow B T 1 (.slice (some ⟨g, 0, none⟩) n cap) n (strs l)) : B ≤ g ∧ g < w.heap.size := h.lt g rfl
theorem own_put (h : w.ownsRow B T 1 (.slice (some ⟨g, 0, none⟩) n cap) n (strs l)) (ys : List (List UInt8)) (hy : ys.length = n) (q : Nat) (os : Array Obj) :
    (Sort.grow (Sort.putRow encStr (Sort.ahead w q) g 0 ys.toArray) os).ownsRow B T 1 (.slice (some ⟨g, 0, none⟩) n cap) n (strs (ys.map toBA)) ∧ Below B w (Sort.grow (Sort.putRow encStr (Sort.ahead w q) g 0 ys.toArray) os) := by
  have hl := own_lt h
  have hsz : (Sort.putRow encStr (Sort.ahead w q) g 0 ys.toArray).heap.size = w.heap.size := by rw [Sort.size_putRow]; rfl
  have hold : ∀ k, k < w.heap.size → (Sort.grow (Sort.putRow encStr (Sort.ahead w q) g 0 ys.toArray) os).heap[k]? = (w.heap.modify g (Sort.onCells (Sort.putCells encStr 0 ys.toArray)))[k]? := by
    intro k hk
    show (_ ++ os)[k]? = _
    rw [Array.getElem?_append_left (by rw [hsz]; exact hk)]
    rfl
  refine ⟨⟨by rw [strs_length, List.length_map]; omega, ?_⟩, ⟨rfl, rfl, rfl, ?_, fun k hk => ?_⟩⟩
  · rcases h.2 with ⟨h', _⟩ | ⟨g', cap', cur, h', hb, hg, h1, h2, h3, h4⟩
    · simp at h'
    · injection h' with ha hn hc
      injection ha with ha
      injection ha with ha
      subst ha; subst hc
      refine .inr ⟨g, cap, Sort.putCells encStr 0 ys.toArray cur, rfl, hb, ?_, h1, h2, ?_, ?_⟩
      · rw [hold g hl.2, Array.getElem?_modify, if_pos rfl, hg]
        rfl
      · simp [Sort.putCells, h3]
      · apply List.ext_getElem?
        intro i
        rw [← cells_map, List.getElem?_take]
        split
        · next hi =>
          have hi' : i < ys.length := by omega
          have hic : i < cur.size := by omega
          simp [Sort.putCells, hi', hic]
        · next hi =>
          rw [List.getElem?_eq_none (by simp; omega)]
  · show w.heap.size ≤ (_ ++ os).size
    rw [Array.size_append, hsz]; omega
  · rw [hold k (by omega), Array.getElem?_modify, if_neg (by omega)]
theorem own_less {m : Nat} {xs : List Value} (h : w.ownsRow B T 1 (.slice (some ⟨g, 0, none⟩) n cap) n xs) (hm : m ≤ n) : w.ownsRow B T 1 (.slice (some ⟨g, 0, none⟩) m cap) m (xs.take m) := by
  have hl := h.1
  rcases h.2 with ⟨h', _⟩ | ⟨g', cap', cur, h', hb, hg, h1, h2, h3, h4⟩
  · simp at h'
  · injection h' with ha hn hc
    injection ha with ha
    injection ha with ha
    subst ha; subst hc
    refine ⟨by rw [List.length_take]; omega, .inr ⟨g, cap, cur, rfl, hb, hg, by omega, h2, h3, ?_⟩⟩
    rw [← h4, List.take_take]
    congr 1
    omega
end
end Go.Proofs.Ytfcbfflkajlhnaa
