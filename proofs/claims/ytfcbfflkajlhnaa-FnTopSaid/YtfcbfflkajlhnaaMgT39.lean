/- Texts put together. -/
import Derived.Test.YtfcbfflkajlhnaaMgT38
import Derived.Test.YtfcbfflkajlhnaaMgT28
import Derived.Test.YtfcbfflkajlhnaaMgT15
import Derived.IntWalk
import Derived.Test.YtfcbfflkajlhnaaMgT37
/- The letters that stand beside a factor in a set. Condition: a length. -/
namespace Go.Proofs.Ytfcbfflkajlhnaa
open Go.RowKit

/-- the k-th letter stands beside f -/
noncomputable def besB (L : List FK) (f : ByteArray) (k : Nat) : Bool := @decide ((f, ((97 : Int) + (k : Int))) ∈ L) (Classical.propDecidable _)
theorem besB_iff (L : List FK) (f : ByteArray) (k : Nat) : besB L f k = true ↔ (f, ((97 : Int) + (k : Int))) ∈ L := by unfold besB; simp

set_option maxRecDepth 100000 in
set_option maxHeartbeats 400000 in
theorem implBeside (L : List FK) (b : Nat) (f : ByteArray) (w : World) (h : FSet w b L) (hf : f.size ≤ 1048576) :
    Calls Try.prog 91 #[.map (some b), .string f] w fun e w' => e = .returned (.string (outS (besB L f) 4)) ∧ Below w.heap.size w w' := by
  obtain ⟨i0, hi0, hz0, hz1, hz2⟩ := info_parts u8_info
  have hbf := build_fb
  have HF := Lib.hid h
  have HBI := Lib.hid (besB_iff L f)
  have HAB := Lib.hid (fun i h => outTo_snoc (s := besB L f) (i := i) h)
  have HAS := Lib.hid (fun i h => outTo_same (s := besB L f) (i := i) h)
  clear h
  go_enter Try.func91, Try.ntmps91
  go_wp2_with fail
  go_loopw [5, 7] (fun o ix w' => ∃ (i n : Nat), i ≤ 4 ∧ ix = .int .u8 (i : Int) ∧ n = (outTo (besB L f) i).length ∧ w'.ownsRow w.heap.size 5 1 o n (byteCells (outTo (besB L f) i)) ∧ Below w.heap.size w w') (fun _ ix _ => 4 - (intOf ix).toNat)
  case atStart => exact ⟨0, 0, by omega, rfl, rfl, World.ownsRow_nil _ _ _ _, Below.refl _ _⟩
  case round =>
    obtain ⟨i, n, hi, rfl, hnl, ho, hb⟩ := hrel
    have HN := Lib.hid hnl
    have hsz := hb.size
    have hn4 : n ≤ 4 := by have := outTo_le (besB L f) i; omega
    have HFB := Lib.hid (HF.out.below hb)
    have HO := Lib.hid ho
    have HB := Lib.hid hb
    clear hnl ho hb
    by_cases hlt : i < 4
    · have hq : IntKind.u8.wrap (97 + (i : Int)) = 97 + (i : Int) := IntWalk.u8_in _ (by omega)
      cases hc : besB L f i
      · have HV := Lib.hid hc
        have HCC : Hid (false = true ↔ (f, (97 : Int) + (i : Int)) ∈ L) := by show _ ↔ _; rw [← HBI.out i, hc]
        clear hc
        go_wp2_with (at_lookup; refine wp_lookB _ rfl _ _ tSet rfl fT fk_law uSet Try.underlying4 (zeroB _) b L rfl HFB.out (f, 97 + (i : Int)) rfl ⟨by show f.size ≤ maxLen; unfold maxLen; omega, by show (0 : Int) ≤ 97 + (i : Int); omega, by show 97 + (i : Int) ≤ 255; omega⟩ false HCC.out ?_)
        go_roundw
        case rel => exact ⟨i + 1, n, by omega, by go_num, by rw [HAS.out i HV.out]; exact HN.out, by rw [HAS.out i HV.out]; exact HO.out, HB.out⟩
        case measure => simp [intOf]; omega
      · have HV := Lib.hid hc
        have HCC : Hid (true = true ↔ (f, (97 : Int) + (i : Int)) ∈ L) := by show _ ↔ _; rw [← HBI.out i, hc]
        clear hc
        have HLN : Hid ((97 + (i : Int)) = ((letterN i).toNat : Int)) := by show _ = _; rw [letterN_toNat i (by omega)]; omega
        go_wp2_with (first
          | (at_lookup; refine wp_lookB _ rfl _ _ tSet rfl fT fk_law uSet Try.underlying4 (zeroB _) b L rfl HFB.out (f, 97 + (i : Int)) rfl ⟨by show f.size ≤ maxLen; unfold maxLen; omega, by show (0 : Int) ≤ 97 + (i : Int); omega, by show 97 + (i : Int) ≤ 255; omega⟩ true HCC.out ?_)
          | (at_builtin
             refine wpList_append1 _ rfl (.tmp 16) (.tmp 19) _ rfl w.heap.size 5 i0 _ 1 Try.underlying22 hi0 hz0 hz1 hz2 rfl _ n _ rfl HO.out (.int .u8 (97 + (i : Int))) rfl rfl (by unfold maxLen; omega) (by omega) hsz ?_
             intro v' w2 hown2 hbel2))
        go_roundw
        case rel =>
          refine ⟨i + 1, n + 1, by omega, by go_num, ?_, ?_, HB.out.trans hbel2⟩
          · rw [HAB.out i HV.out, List.length_append, ← HN.out]; rfl
          · rw [HAB.out i HV.out, byteCells_snoc, ← HLN.out]; exact hown2
        case measure => simp [intOf]; omega
    · have hii : i = 4 := by omega
      have hconv := conv_own_to Try.underlying9 HO.out
      have HE : Hid (outTo (besB L f) i = outTo (besB L f) 4) := by show _ = _; rw [hii]
      clear hii
      go_wp2_with fail
      go_ret
      refine ⟨ret_str ?_, HB.out⟩
      rw [HE.out]
      rfl
end Go.Proofs.Ytfcbfflkajlhnaa

/- The special factors of a set: the others are deleted while the set is ranged over. Condition: at most 400 keys, texts of at most 2^20 bytes. -/
namespace Go.Proofs.Ytfcbfflkajlhnaa
open Go.RowKit

noncomputable def besN (L : List FK) (f : ByteArray) : Nat := (outS (besB L f) 4).size
theorem outTo_mono {s t : Nat → Bool} (h : ∀ k, s k = true → t k = true) : ∀ n, (outTo s n).length ≤ (outTo t n).length
  | 0 => Nat.le_refl _
  | n + 1 => by
    have ih := outTo_mono h n
    show (outTo s n ++ if s n = true then [letterN n] else []).length ≤ (outTo t n ++ if t n = true then [letterN n] else []).length
    rw [List.length_append, List.length_append]
    by_cases hs : s n = true
    · rw [if_pos hs, if_pos (h n hs)]; omega
    · rw [if_neg hs]
      have : ([] : List UInt8).length = 0 := rfl
      omega
theorem besN_mono {L L' : List FK} {f : ByteArray} (h : ∀ z, (f, z) ∈ L → (f, z) ∈ L') : besN L f ≤ besN L' f := by
  have := outTo_mono (s := besB L f) (t := besB L' f) (fun k hk => (besB_iff _ _ _).2 (h _ ((besB_iff _ _ _).1 hk))) 4
  unfold besN outS
  show (outTo (besB L f) 4).toArray.size ≤ (outTo (besB L' f) 4).toArray.size
  simpa using this
/-- what has been left of L, M still to come -/
def Spared (L L1 M : List FK) : Prop := L1.length ≤ L.length ∧ ∀ q, q ∈ L1 ↔ q ∈ L ∧ (q ∈ M ∨ 2 ≤ besN L q.1)
theorem spared_start (L : List FK) : Spared L L L := ⟨Nat.le_refl _, fun _ => ⟨fun h => ⟨h, .inl h⟩, fun h => h.1⟩⟩
theorem spared_bes {L L1 M : List FK} (h : Spared L L1 M) (f : ByteArray) : besN L1 f < 2 ↔ besN L f < 2 := by
  have h1 : besN L1 f ≤ besN L f := besN_mono fun z hz => ((h.2 _).1 hz).1
  constructor
  · intro hlt
    by_cases h2 : besN L f < 2
    · exact h2
    · have h3 : besN L f ≤ besN L1 f := besN_mono fun z hz => (h.2 _).2 ⟨hz, .inr (by show 2 ≤ besN L f; omega)⟩
      omega
  · intro hlt; omega
theorem spared_drop {L L1 L2 M M' : List FK} {p : FK} (h : Spared L L1 M) (hb : besN L p.1 < 2) (h2 : Dels L2 L1 p) (hl : L2.length ≤ L1.length) (hM : Dels M' M p) : Spared L L2 M' := by
  refine ⟨Nat.le_trans hl h.1, fun q => ?_⟩
  rw [h2, h.2, hM]
  constructor
  · rintro ⟨⟨a, b | b⟩, c⟩
    · exact ⟨a, .inl ⟨b, c⟩⟩
    · exact ⟨a, .inr b⟩
  · rintro ⟨a, ⟨b, c⟩ | b⟩
    · exact ⟨⟨a, .inl b⟩, c⟩
    · refine ⟨⟨a, .inr b⟩, fun e => ?_⟩
      subst e
      omega
theorem spared_keep {L L1 M M' : List FK} {p : FK} (h : Spared L L1 M) (hb : ¬ besN L p.1 < 2) (hM : Dels M' M p) : Spared L L1 M' := by
  refine ⟨h.1, fun q => ?_⟩
  rw [h.2, hM]
  constructor
  · rintro ⟨a, b | b⟩
    · by_cases e : q = p
      · subst e; exact ⟨a, .inr (by omega)⟩
      · exact ⟨a, .inl ⟨b, e⟩⟩
    · exact ⟨a, .inr b⟩
  · rintro ⟨a, ⟨b, _⟩ | b⟩
    · exact ⟨a, .inl b⟩
    · exact ⟨a, .inr b⟩

theorem nodup_sub {L' L : List FK} (h : L'.Nodup) (hs : ∀ p ∈ L', p ∈ L) : L'.length ≤ L.length := by
  induction L' generalizing L with
  | nil => exact Nat.zero_le _
  | cons a l ih =>
    obtain ⟨h1, h2⟩ := List.nodup_cons.1 h
    obtain ⟨A, B, rfl⟩ := List.append_of_mem (hs a (List.mem_cons_self ..))
    have := ih (L := A ++ B) h2 fun p hp => by
      have hm := hs p (List.mem_cons_of_mem _ hp)
      simp only [List.mem_append, List.mem_cons] at hm ⊢
      rcases hm with hm | hm | hm
      · exact .inl hm
      · subst hm; exact absurd hp h1
      · exact .inr hm
    simp only [List.length_append, List.length_cons] at this ⊢
    omega

set_option maxRecDepth 100000 in
set_option maxHeartbeats 1000000 in
theorem implSpecial (L : List FK) (b : Nat) (w : World) (h : FSet w b L) (hsz : ∀ p ∈ L, p.1.size ≤ 1048576) :
    Calls Try.prog 89 #[.map (some b)] w fun e w' => ∃ L', e = .returned (.map (some b)) ∧ FSet w' b L' ∧ (∀ q, q ∈ L' ↔ q ∈ L ∧ 2 ≤ besN L q.1) ∧ L'.length ≤ L.length ∧ w.grownBy w' (some b) := by
  have HF := Lib.hid h
  have HSZ := Lib.hid hsz
  have hbw := h.lt
  clear h hsz
  go_enter Try.func89, Try.ntmps89
  go_wp2_with (at_range; refine wp_range _ rfl _ tSet rfl fk_law uSet b L _ rfl HF.out ?_; intro w2 hF2 hg2 hs2)
  go_frame
  have HF2 := Lib.hid hF2
  have HG2 := Lib.hid (hg2.but (some b))
  have HSS := Lib.hid (spared_start L)
  clear hF2 hg2
  go_loopw [3] (fun _ w' => ∃ L1 M, FRange Try.prog fK 4 w' b w.heap.size L1 (fun _ => .bool true) M ∧ Spared L L1 M ∧ w.grownBy w' (some b)) (fun _ w' => w'.rangeLeft b w.heap.size)
  case atStart => exact ⟨L, L, HF2.out, HSS.out, HG2.out⟩
  case round =>
    obtain ⟨L1, M, hF, hS, hg⟩ := hrel
    have HFR := Lib.hid hF
    have HS := Lib.hid hS
    have HG := Lib.hid hg
    have hwr := hg.size
    clear hF hS hg HG2 HF2 HSS
    go_wp2_with (at_next; refine wp_step _ rfl _ rfl fT fk_law b w.heap.size L1 _ M rfl HFR.out (fun _ => .bool true) vv_bool ?_ ?_)
    · intro hM0
      subst hM0
      go_wp2_with fail
      go_ret
      exact ⟨L1, rfl, HFR.out.owns, fun q => by have := HS.out.2 q; simpa using this, HS.out.1, HG.out⟩
    · intro f z M' w3 hp hM' hl' hF3 hlt hg3 hs3 hen
      have hpL1 := HFR.out.sub _ hp
      have hfz := HSZ.out _ ((HS.out.2 _).1 hpL1).1
      have hb3 : w.grownBy w3 (some b) := HG.out.andThen hg3 (fun j hj => by cases hj; exact .inl (Nat.le_refl _))
      have hF4 := hF3.alloc (.cells #[.string f, .int .u8 z] 124)
      have hb4 : w.grownBy (w3.alloc (.cells #[.string f, .int .u8 z] 124)) (some b) := hb3.andThen (World.grownBy_alloc w3 _ none) (fun j hj => by cases hj)
      have hlt4 : (w3.alloc (.cells #[.string f, .int .u8 z] 124)).rangeLeft b w.heap.size < wr.rangeLeft b w.heap.size := by
        rw [rangeLeft_kept hF3 (World.grownBy_alloc _ _ none) (by simp) (by simp)]
        exact hlt
      have hpM' : (f, z) ∉ M' := fun hh => ((hM' _).1 hh).2 rfl
      have HBES := Lib.hid (implBeside L1 b f _ hF4.owns hfz)
      have HCMP := Lib.hid (spared_bes HS.out f)
      have HF4 := Lib.hid hF4
      have HB4 := Lib.hid hb4
      have HLT4 := Lib.hid hlt4
      have HM' := Lib.hid hM'
      have HPL := Lib.hid hpL1
      have HPM := Lib.hid hpM'
      have hc1 : (w3.alloc (.cells #[.string f, .int .u8 z] 124)).cell? ⟨wr.heap.size, 0, none⟩ = some (.string f) := by rw [World.cell?_alloc_at _ _ _ _ (by simp [hs3])]; rfl
      have hc2 : (w3.alloc (.cells #[.string f, .int .u8 z] 124)).cell? ⟨wr.heap.size, 1, none⟩ = some (.int .u8 z) := by rw [World.cell?_alloc_at _ _ _ _ (by simp [hs3])]; rfl
      have hsz4 : (w3.alloc (.cells #[.string f, .int .u8 z] 124)).heap.size = wr.heap.size + 1 := by simp [hs3]
      have HC1 := Lib.hid hc1
      have HC2 := Lib.hid hc2
      have HSZ4 := Lib.hid hsz4
      clear hpL1 hb3 hF4 hb4 hlt4 hlt hM' hF3 hg3 hp hpM' hc1 hc2 hsz4
      go_wp2_with fail
      refine HBES.out.mono ?_
      rintro e w5 ⟨rfl, hb5⟩
      have hn : (outS (besB L1 f) 4).size = besN L1 f := rfl
      have c1 : w5.cell? ⟨wr.heap.size, 0, none⟩ = some (.string f) := (hb5.cell (p := ⟨wr.heap.size, 0, none⟩) (by rw [HSZ4.out]; simp)).trans HC1.out
      have c2 : w5.cell? ⟨wr.heap.size, 1, none⟩ = some (.int .u8 z) := (hb5.cell (p := ⟨wr.heap.size, 1, none⟩) (by rw [HSZ4.out]; simp)).trans HC2.out
      have HF5 := Lib.hid (HF4.out.below hb5)
      have HB5 : Hid (w.grownBy w5 (some b)) := HB4.out.andThen (grown_of_below hb5 none) (fun j hj => by cases hj)
      have HLT5 : Hid (w5.rangeLeft b w.heap.size < wr.rangeLeft b w.heap.size) := by
        show _ < _
        rw [rangeLeft_kept HF4.out (grown_of_below hb5 none) (by simp) (by simp)]
        exact HLT4.out
      clear hb5
      by_cases hc : besN L1 f < 2
      · have d1 : decide (((outS (besB L1 f) 4).size : Int) < 2) = true := by rw [hn]; simp; omega
        have HC := Lib.hid (HCMP.out.1 hc)
        clear hc hn
        go_wp2_with (at_delete; refine wp_drop _ rfl _ _ tSet fK rfl fT fk_law uSet b w.heap.size L1 _ M' rfl HF5.out (f, z) rfl HPL.out HPM.out ?_; intro w6 L2 hF6 hD6 hlt6 hg6 hs6; go_frame)
        go_roundw
        case rel =>
          exact ⟨L2, M', hF6, spared_drop HS.out HC.out hD6 (nodup_sub hF6.owns.nodup fun p hp => ((hD6 p).1 hp).1) HM'.out, HB5.out.andThen hg6 (fun j hj => by cases hj; exact .inr rfl)⟩
        case measure => have := HLT5.out; omega
      · have d1 : decide (((outS (besB L1 f) 4).size : Int) < 2) = false := by rw [hn]; simp; omega
        have HC : Hid (¬ besN L f < 2) := fun hh => hc (HCMP.out.2 hh)
        clear hc hn
        go_wp2_with fail
        go_roundw
        case rel => exact ⟨L1, M', HF5.out, spared_keep HS.out HC.out HM'.out, HB5.out⟩
        case measure => exact HLT5.out
end Go.Proofs.Ytfcbfflkajlhnaa

/- The mathematics of the program's sets of factors: how many keys, which texts, which letters stand beside them. No program in it. -/
namespace Go.Proofs.Ytfcbfflkajlhnaa
open Go.RowKit

theorem insL_lim : ∀ (l : List ByteArray) (x : ByteArray), (insL l x).length ≤ l.length + 1
  | [], x => by simp [insL]
  | a :: l, x => by
    have := insL_lim l x
    unfold insL
    split
    · simp
    · split
      · simp only [List.length_cons]; omega
      · simp
theorem facTo_lim (s : ByteArray) (n : Nat) : ∀ i, (facTo s n i).length ≤ i
  | 0 => Nat.le_refl _
  | i + 1 => by
    have h1 := facTo_lim s n i
    have h2 := insL_lim (facTo s n i) (s.extract i (i + n))
    show (insL _ _).length ≤ _
    omega
theorem fctL_lim (s : ByteArray) (n : Nat) : (fctL s n).length ≤ s.size + 1 - n := facTo_lim _ _ _
theorem fct_lt {s x : ByteArray} {n : Nat} (h : x ∈ fctL s n) : n ≤ s.size := by
  obtain ⟨j, hj, _⟩ := (fct_mem s n x).1 h
  omega
theorem facS_mem {s : ByteArray} {n : Nat} {L : List FK} (h : SetIs L (facS s n (s.size + 1 - n))) (x : ByteArray) : x ∈ fctL s n ↔ ∃ z, (x, z) ∈ L := by
  rw [fct_mem]
  constructor
  · rintro ⟨j, hj, rfl⟩
    exact ⟨0, (h _).2 ⟨j, hj, rfl⟩⟩
  · rintro ⟨z, hz⟩
    obtain ⟨j, hj, e⟩ := (h _).1 hz
    exact ⟨j, hj, congrArg Prod.fst e⟩
theorem facS_len {s : ByteArray} {n : Nat} {L : List FK} (h : SetIs L (facS s n (s.size + 1 - n))) (hn : L.Nodup) : L.length = (fctL s n).length := by
  have h2 : ((fctL s n).map fun x => ((x, 0) : FK)).Nodup := List.pairwise_map.2 ((asc_nodup (facTo_asc s n (s.size + 1 - n))).imp fun {a b} hab e => hab (congrArg Prod.fst e))
  rw [nodup_eq hn h2 (fun p => ?_), List.length_map]
  rw [List.mem_map]
  constructor
  · intro hp
    obtain ⟨j, hj, e⟩ := (h p).1 hp
    exact ⟨_, (fct_mem s n _).2 ⟨j, hj, rfl⟩, e.symm⟩
  · rintro ⟨x, hx, rfl⟩
    obtain ⟨j, hj, e⟩ := (fct_mem s n x).1 hx
    exact (h _).2 ⟨j, hj, by rw [e]⟩

theorem bytes_iff {a b : ByteArray} : a = b ↔ a.data.toList = b.data.toList :=
  ⟨fun h => by rw [h], fun h => bytes_ext (by rw [ByteArray.toList_eq, ByteArray.toList_eq]; exact h)⟩
theorem ext_next (s : ByteArray) (i n : Nat) (h : i + n < s.size) : (s.extract i (i + (n + 1))).data.toList = (s.extract i (i + n)).data.toList ++ [s[i + n]] := by
  have hl : s.data.toList.length = s.size := by simp
  rw [ext_list2, ext_list2, List.take_succ_eq_append_getElem (by rw [List.length_drop]; omega), List.getElem_drop]
  rfl
theorem ext_first (s : ByteArray) (i n : Nat) (h : i + n < s.size) : (s.extract i (i + (n + 1))).data.toList = (s[i]'(by omega)) :: (s.extract (i + 1) (i + 1 + n)).data.toList := by
  have hl : s.data.toList.length = s.size := by simp
  rw [ext_list2, ext_list2, List.drop_eq_getElem_cons (show i < s.data.toList.length by omega), List.take_succ_cons]
  rfl
theorem u8_letter {c : UInt8} {k : Nat} (hk : k ≤ 3) : ((97 : Int) + (k : Int) = (c.toNat : Int)) ↔ c = letterN k := by
  constructor
  · intro h
    apply UInt8.toNat.inj
    rw [letterN_toNat k (by omega)]
    omega
  · intro h
    rw [h, letterN_toNat k (by omega)]
    omega

theorem fol_bes {s : ByteArray} {n : Nat} {L : List FK} (h : SetIs L (folS s n (s.size - n))) (f : ByteArray) (hf : f.size = n) (k : Nat) (hk : k ≤ 3) : besB L f k = hasR s (exL f false k) := by
  rw [Bool.eq_iff_iff, besB_iff, has_iff, exL_sz, hf, h]
  constructor
  · rintro ⟨j, _, hj, e⟩
    have e1 : f = s.extract j (j + n) := congrArg Prod.fst e
    have e2 : (97 : Int) + (k : Int) = (s[j + n].toNat : Int) := congrArg Prod.snd e
    refine ⟨j, by omega, bytes_iff.2 ?_⟩
    rw [ext_next s j n hj, exL_list, if_neg (by decide), ← e1, (u8_letter hk).1 e2]
  · rintro ⟨j, hj, e⟩
    have e := bytes_iff.1 e
    rw [ext_next s j n (by omega), exL_list, if_neg (by decide)] at e
    obtain ⟨e1, e2⟩ := List.append_inj' e rfl
    injection e2 with e2 _
    exact ⟨j, by omega, by omega, Prod.ext (bytes_iff.2 e1.symm) ((u8_letter hk).2 e2)⟩
theorem led_bes {s : ByteArray} {n : Nat} {L : List FK} (h : SetIs L (ledS s n (s.size - n))) (f : ByteArray) (hf : f.size = n) (k : Nat) (hk : k ≤ 3) : besB L f k = hasR s (exL f true k) := by
  rw [Bool.eq_iff_iff, besB_iff, has_iff, exL_sz, hf, h]
  constructor
  · rintro ⟨j, _, hj, e⟩
    have e1 : f = s.extract (j + 1) (j + 1 + n) := congrArg Prod.fst e
    have e2 : (97 : Int) + (k : Int) = ((s[j]'(by omega)).toNat : Int) := congrArg Prod.snd e
    refine ⟨j, by omega, bytes_iff.2 ?_⟩
    rw [ext_first s j n hj, exL_list, if_pos rfl, ← e1, (u8_letter hk).1 e2]
  · rintro ⟨j, hj, e⟩
    have e := bytes_iff.1 e
    rw [ext_first s j n (by omega), exL_list, if_pos rfl] at e
    injection e with e1 e2
    exact ⟨j, by omega, by omega, Prod.ext (bytes_iff.2 e2.symm) ((u8_letter hk).2 e1)⟩
theorem fol_out {s : ByteArray} {n : Nat} {L : List FK} (h : SetIs L (folS s n (s.size - n))) (f : ByteArray) (hf : f.size = n) : outS (besB L f) 4 = nxtS s f false := by
  unfold outS nxtS
  rw [outTo_congr 4 (fun i hi => fol_bes h f hf i (by omega))]
theorem led_out {s : ByteArray} {n : Nat} {L : List FK} (h : SetIs L (ledS s n (s.size - n))) (f : ByteArray) (hf : f.size = n) : outS (besB L f) 4 = nxtS s f true := by
  unfold outS nxtS
  rw [outTo_congr 4 (fun i hi => led_bes h f hf i (by omega))]
theorem bes_some {L : List FK} {f : ByteArray} (h : 2 ≤ besN L f) : ∃ z, (f, z) ∈ L := by
  have h' : 2 ≤ ((outTo (besB L f) 4).toArray).size := h
  rw [List.size_toArray, outTo_len] at h'
  cases hl : (List.range 4).filter (besB L f) with
  | nil => rw [hl] at h'; simp at h'
  | cons k r =>
    have hk : k ∈ (List.range 4).filter (besB L f) := by rw [hl]; exact List.mem_cons_self ..
    exact ⟨_, (besB_iff _ _ _).1 (List.mem_filter.1 hk).2⟩
theorem spc_asc (s : ByteArray) (n : Nat) (b : Bool) : Asc (spcL s n b) := List.Pairwise.filter _ (facTo_asc s n _)
theorem spc_mem {s : ByteArray} {n : Nat} {b : Bool} {L L' : List FK} (hout : ∀ f : ByteArray, f.size = n → outS (besB L f) 4 = nxtS s f b) (hin : ∀ p ∈ L, p.1 ∈ fctL s n) (h' : ∀ q, q ∈ L' ↔ q ∈ L ∧ 2 ≤ besN L q.1) (x : ByteArray) : x ∈ spcL s n b ↔ ∃ z, (x, z) ∈ L' := by
  unfold spcL
  rw [List.mem_filter, decide_eq_true_eq]
  have hb : x ∈ fctL s n → besN L x = (nxtS s x b).size := fun hx => by
    unfold besN
    rw [hout x (fct_sz (fct_lt hx) hx)]
  constructor
  · rintro ⟨hx, h2⟩
    have h3 : 2 ≤ besN L x := by rw [hb hx]; exact h2
    obtain ⟨z, hz⟩ := bes_some h3
    exact ⟨z, (h' _).2 ⟨hz, h3⟩⟩
  · rintro ⟨z, hz⟩
    obtain ⟨h1, h2⟩ := (h' _).1 hz
    have hx := hin _ h1
    refine ⟨hx, ?_⟩
    have h3 : 2 ≤ besN L x := h2
    rw [hb hx] at h3
    exact h3
theorem fol_in {s : ByteArray} {n : Nat} {L : List FK} (h : SetIs L (folS s n (s.size - n))) : ∀ p ∈ L, p.1 ∈ fctL s n := by
  intro p hp
  obtain ⟨j, _, hj, rfl⟩ := (h p).1 hp
  exact (fct_mem s n _).2 ⟨j, by omega, rfl⟩
theorem led_in {s : ByteArray} {n : Nat} {L : List FK} (h : SetIs L (ledS s n (s.size - n))) : ∀ p ∈ L, p.1 ∈ fctL s n := by
  intro p hp
  obtain ⟨j, _, hj, rfl⟩ := (h p).1 hp
  exact (fct_mem s n _).2 ⟨j + 1, by omega, rfl⟩
end Go.Proofs.Ytfcbfflkajlhnaa
