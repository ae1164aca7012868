/- Texts put together. -/
import Derived.Test.YtfcbfflkajlhnaaMgU12
import Derived.Test.YtfcbfflkajlhnaaMgU21
import Derived.Test.YtfcbfflkajlhnaaMgU7
import Derived.Test.YtfcbfflkajlhnaaMgU6
/- The texts of a set of factors, ascending, each once. Condition: the set has at most 400 keys. -/
namespace Go.Proofs.Ytfcbfflkajlhnaa
open Go.RowKit

/-- what has been collected: the texts of the keys that are no longer to come -/
def Got (L M : List FK) (xs : List ByteArray) : Prop := xs.length + M.length = L.length ∧ ∀ x, x ∈ xs ↔ ∃ p ∈ L, p ∉ M ∧ p.1 = x
theorem got_start (L : List FK) : Got L L [] := ⟨by simp, fun x => by simp; intro p z hp hn; exact absurd hp hn⟩
theorem got_step {L M M' : List FK} {xs : List ByteArray} {p : FK} (h : Got L M xs) (hp : p ∈ L) (hpM : p ∈ M) (hM : Dels M' M p) (hl : M'.length + 1 = M.length) : Got L M' (xs ++ [p.1]) := by
  refine ⟨by have := h.1; simp; omega, fun x => ?_⟩
  rw [List.mem_append, h.2, List.mem_singleton]
  constructor
  · rintro (⟨q, hq, hn, e⟩ | e)
    · exact ⟨q, hq, fun hh => hn ((hM q).1 hh).1, e⟩
    · exact ⟨p, hp, fun hh => ((hM p).1 hh).2 rfl, e.symm⟩
  · rintro ⟨q, hq, hn, e⟩
    by_cases hqp : q = p
    · subst hqp; exact .inr e.symm
    · exact .inl ⟨q, hq, fun hh => hn ((hM q).2 ⟨hh, hqp⟩), e⟩
theorem got_end {L : List FK} {xs : List ByteArray} (h : Got L [] xs) : xs.length = L.length ∧ ∀ x, x ∈ xs ↔ ∃ z, (x, z) ∈ L := by
  refine ⟨by have := h.1; simpa using this, fun x => ?_⟩
  rw [h.2]
  constructor
  · rintro ⟨p, hp, _, rfl⟩
    exact ⟨p.2, hp⟩
  · rintro ⟨z, hz⟩
    exact ⟨_, hz, by simp, rfl⟩

set_option maxRecDepth 100000 in
set_option maxHeartbeats 1000000 in
theorem implSorted (L : List FK) (b : Nat) (m : List ByteArray) (w : World) (h : FSet w b L) (hl : L.length ≤ 400) (hm : Asc m) (hmem : ∀ x, x ∈ m ↔ ∃ z, (x, z) ∈ L) :
    Calls Try.prog 84 #[.map (some b)] w fun e w' => ∃ v, e = .returned v ∧ w'.ownsRow w.heap.size 9 1 v m.length (strs m) ∧ Below w.heap.size w w' := by
  obtain ⟨i0, hi0, hz0, hz1, hz2⟩ := info_parts str_info
  have HF := Lib.hid h
  have HM := Lib.hid hm
  have HMEM := Lib.hid hmem
  clear h hm hmem
  go_enter Try.func84, Try.ntmps84
  go_wp2_with (first
    | (at_len; refine wp_mapLen _ rfl _ tSet rfl uSet b L _ rfl HF.out ?_)
    | (at_make; refine wpList_make_own _ rfl _ _ 23 rfl w.heap.size 9 i0 (.string ⟨#[]⟩) 1 Try.underlying23 hi0 hz0 hz1 .i64 .i64 _ L.length rfl rfl rfl (by rw [hz2]; omega) (by unfold maxLen; omega) (Nat.le_refl _) ?_; intro w1 ho1 hg1)
    | (at_range; refine wp_range _ rfl _ tSet rfl fk_law uSet b L _ rfl (HF.out.kept hg1 (by simp)) ?_; intro w2 hF2 hg2 hs2))
  go_frame
  have hb1 : Below w.heap.size w w1 := (Below.refl _ _).grown hg1 (Nat.le_refl _) (fun k hk => by cases hk)
  have hb2 : Below w.heap.size w w2 := hb1.grown hg2 hb1.size (fun k hk => by cases hk)
  have ho2 := own_apart ho1 hg2 (fun k _ hk => by cases hk)
  have hlt1 := (ho1.lt _ rfl).2
  have HF2 := Lib.hid hF2
  have HB2 := Lib.hid hb2
  have HO2 := Lib.hid ho2
  have HGS := Lib.hid (got_start L)
  have hbw := HF.out.lt
  clear hF2 hb1 hb2 ho2 ho1 hg1 hg2
  go_loopw [3] (fun o w' => ∃ M xs, FRange Try.prog fK 4 w' b w1.heap.size L (fun _ => .bool true) M ∧ Got L M xs ∧ o = .slice (some ⟨w.heap.size, 0, none⟩) xs.length L.length ∧ w'.ownsRow w.heap.size 9 1 o xs.length (strs xs) ∧ Below w.heap.size w w') (fun _ w' => w'.rangeLeft b w1.heap.size)
  case atStart => exact ⟨L, [], HF2.out, HGS.out, rfl, HO2.out, HB2.out⟩
  case round =>
    obtain ⟨M, xs, hF, hG, rfl, ho, hb⟩ := hrel
    have HFR := Lib.hid hF
    have HG := Lib.hid hG
    have HO := Lib.hid ho
    have HB := Lib.hid hb
    clear hF hG ho hb HO2 HB2 HF2
    go_wp2_with (at_next; refine wp_step _ rfl _ rfl fT fk_law b w1.heap.size L _ M rfl HFR.out (fun _ => .bool true) vv_bool ?_ ?_)
    · intro hM0
      subst hM0
      obtain ⟨hxl, hxm⟩ := got_end HG.out
      have hlt3 := own_lt HO.out
      have hss : (xs.map (·.data.toList)).length = xs.length := by rw [List.length_map]
      have HSORT := (Try.slices_Sort_string w.heap.size 0 L.length (xs.map (·.data.toList)) wr (own_holds HO.out) hlt3.2 (by omega))
      rw [hss] at HSORT
      have HS := Lib.hid HSORT
      have HHS := Lib.hid hss
      have HFIN0 : Hid ((Lib.compact ((xs.map (·.data.toList)).mergeSort fun x y => decide (x ≤ y))).map toBA = m) := sorted_eq HM.out (fun x => by rw [hxm, HMEM.out])
      have hx4 : xs.length ≤ 400 := by omega
      have hxL : xs.length ≤ L.length := by omega
      clear HSORT hss hxm hxl HG
      go_wp2_with fail
      refine HS.out.mono ?_
      rintro e w4 ⟨rfl, q4, os4, rfl⟩
      obtain ⟨zs, hzs⟩ : ∃ zs, (xs.map (·.data.toList)).mergeSort (fun x y => decide (x ≤ y)) = zs := ⟨_, rfl⟩
      have hzl : zs.length = xs.length := by rw [← hzs, List.length_mergeSort, HHS.out]
      rw [hzs] at HFIN0 ⊢
      obtain ⟨ho4, hb4⟩ := own_put HO.out zs hzl q4 os4
      obtain ⟨W4, hW4⟩ : ∃ W4, Sort.grow (Sort.putRow encStr (Sort.ahead wr q4) w.heap.size 0 zs.toArray) os4 = W4 := ⟨_, rfl⟩
      rw [hW4] at ho4 hb4 ⊢
      have hzz : (zs.map toBA).map (·.data.toList) = zs := by
        rw [List.map_map]
        exact List.map_id' zs
      have hH4 := own_holds ho4
      rw [hzz] at hH4
      have HCOM := Try.slices_Compact_string w.heap.size 0 L.length zs W4 hH4 (by omega) (by omega)
      rw [hzl] at HCOM
      have hcl := Lib.compact_length_le zs
      have HC := Lib.hid HCOM
      have HO4 := Lib.hid ho4
      have HB4 : Hid (Below w.heap.size w W4) := HB.out.trans hb4
      have HFIN : Hid ((Lib.compact zs).map toBA = m) := HFIN0.out
      have HZL := Lib.hid hzl
      have HCL := Lib.hid hcl
      clear hW4 ho4 hb4 hzz hH4 HCOM hzs hzl hcl HFIN0
      generalize Lib.compact zs = cs at HC HFIN HCL
      go_wp2_with fail
      refine HC.out.mono ?_
      rintro e w5 ⟨rfl, q5, rfl⟩
      have hcl := HCL.out
      have hzl := HZL.out
      obtain ⟨ho5, hb5⟩ := own_put HO4.out (cs ++ List.replicate (xs.length - cs.length) []) (by rw [List.length_append, List.length_replicate]; omega) q5 #[]
      rw [Sort.grow_empty] at ho5 hb5
      obtain ⟨W5, hW5⟩ : ∃ W5, Sort.putRow encStr (Sort.ahead W4 q5) w.heap.size 0 (cs ++ List.replicate (xs.length - cs.length) []).toArray = W5 := ⟨_, rfl⟩
      rw [hW5] at ho5 hb5 ⊢
      have ho6 := own_less ho5 (m := cs.length) (by omega)
      have htk : (strs ((cs ++ List.replicate (xs.length - cs.length) []).map toBA)).take cs.length = strs m := by
        rw [List.map_append, strs, List.map_append, List.take_left' (by simp), HFIN.out]
        rfl
      rw [htk] at ho6
      have hlen : cs.length = m.length := by rw [← HFIN.out, List.length_map]
      rw [hlen] at ho6
      have HB5 : Hid (Below w.heap.size w W5) := HB4.out.trans hb5
      have HO6 := Lib.hid ho6
      rw [hlen]
      clear hW5 ho5 hb5 ho6 htk hlen hcl hzl
      go_wp2_with fail
      go_ret
      exact ⟨_, rfl, HO6.out, HB5.out⟩
    · intro f z M' w3 hp hM' hl' hF3 hlt hg3 hs3 hen
      have HF3 := Lib.hid hF3
      have HM' := Lib.hid hM'
      have hpL := HFR.out.sub _ hp
      have hlen : xs.length + 1 ≤ L.length := by have := HG.out.1; omega
      have HG2 := Lib.hid (got_step HG.out hpL hp hM' hl')
      have hb3 : Below w.heap.size w w3 := HB.out.grown hg3 HB.out.size (fun k hk => by injection hk with hk; omega)
      have ho3 := (own_apart HO.out hg3 (fun k h1 h2 => by have e1 : w.heap.size = k := Option.some.inj h1; have e2 : w1.heap.size = k := Option.some.inj h2; omega))
      have ho4 := (ho3.alloc (.cells #[.string f, .int .u8 z] 124)).alloc (.cells #[.string f] 9)
      have hc4 : ∀ (j : Nat) u, [Value.string f][j]? = some u → ((w3.alloc (.cells #[.string f, .int .u8 z] 124)).alloc (.cells #[.string f] 9)).cell? ((⟨wr.heap.size + 1, 0, none⟩ : Addr).add j) = some u := by
        intro j u hu
        rcases j with _ | j
        · simp at hu
          subst hu
          rw [Addr.add_lit, World.cell?_alloc_at _ _ _ _ (by simp [hs3])]
          rfl
        · simp at hu
      have HO4 := Lib.hid ho4
      have HC4 := Lib.hid hc4
      have HB3 := Lib.hid hb3
      have HLT := Lib.hid hlt
      clear hF3 hM' hg3 hb3 ho3 ho4 hc4 hlt HG hp hpL
      go_wp2_with (at_builtin
                   refine wpList_append_fits _ rfl (.tmp 14) (.tmp 17) _ rfl w.heap.size 9 i0 1 Try.underlying23 hi0 hz1 w.heap.size xs.length L.length (strs xs) rfl HO4.out ⟨wr.heap.size + 1, 0, none⟩ 1 1 [.string f] rfl rfl HC4.out (by intro u hu; simp at hu; subst hu; rfl) (by omega) ?_
                   intro w5 ho5 hg5)
      go_roundw
      case rel =>
        refine ⟨M', xs ++ [f], ((HF3.out.alloc _).alloc _).kept hg5 (by simp; omega) (by simp; omega), HG2.out, ?_, ?_, ?_⟩
        · simp
        · rw [strs_snoc, List.length_append]; exact ho5
        · exact ((HB3.out.alloc HB3.out.size _).alloc (by simp; have := HB3.out.size; omega) _).grown hg5 (by simp; have := HB3.out.size; omega) (fun k hk => by injection hk with hk; omega)
      case measure =>
        rw [rangeLeft_kept ((HF3.out.alloc _).alloc _) hg5 (by simp; omega) (by simp; omega), rangeLeft_kept (HF3.out.alloc _) (World.grownBy_alloc _ _ none) (by simp) (by simp), rangeLeft_kept HF3.out (World.grownBy_alloc _ _ none) (by simp) (by simp)]
        exact HLT.out
end Go.Proofs.Ytfcbfflkajlhnaa

/- The program's FactorsOf, ComplexityOf, FollowersOf, LeadersOf, RightSpecial, LeftSpecial. Conditions: lengths of at most 2^20. -/
namespace Go.Proofs.Ytfcbfflkajlhnaa
open Go.RowKit

theorem fct_ok {s : ByteArray} {n : Int} (h : fctOk s n = true) : s.size ≤ 400 ∧ 1 ≤ n ∧ n ≤ 400 := by
  unfold fctOk at h
  simp only [Bool.and_eq_true, decide_eq_true_eq] at h
  exact ⟨word_size h.1, h.2⟩

set_option maxHeartbeats 400000 in
theorem implFactorsOf (s : ByteArray) (n : Int) (w : World) (hs : s.size ≤ 1048576) :
    Calls Try.prog 33 #[.string s, .int .i64 n] w fun e w' => ∃ v, e = .returned v ∧ w'.ownsRow w.heap.size 9 1 v (fctR s n).length (strs (fctR s n)) ∧ Below w.heap.size w w' := by
  cases hok : fctOk s n
  · have HV : Hid (fctR s n = []) := by show fctR s n = []; unfold fctR; rw [hok]; rfl
    have HOK := Lib.hid hok
    clear hok
    go_enter Try.func33, Try.ntmps33
    go_wp2_with fail
    refine (implCanHave s n _ hs).mono ?_
    rintro e w1 ⟨rfl, hb1⟩
    have HB := Lib.hid hb1
    rw [HOK.out]
    clear hb1
    go_wp2_with fail
    go_ret
    refine ⟨_, rfl, ?_, HB.out⟩
    rw [HV.out]
    exact World.ownsRow_nil _ _ _ _
  · obtain ⟨h4, h1, h2⟩ := fct_ok hok
    obtain ⟨m, rfl⟩ : ∃ m : Nat, n = m := ⟨n.toNat, by omega⟩
    have HV : Hid (fctR s m = fctL s m) := if_pos hok
    have HOK := Lib.hid hok
    have HF := Lib.hid (fun w => implFactors s m w h4 (by omega) (by omega))
    clear hok
    go_enter Try.func33, Try.ntmps33
    go_wp2_with fail
    refine (implCanHave s m _ hs).mono ?_
    rintro e w1 ⟨rfl, hb1⟩
    have HB := Lib.hid hb1
    rw [HOK.out]
    clear hb1
    go_wp2_with fail
    refine (HF.out _).mono ?_
    rintro e w2 ⟨L, rfl, hF, hL, hl, hb⟩
    have HB2 : Hid (Below w.heap.size w w2) := HB.out.trans (hb.mono HB.out.size)
    have HS := Lib.hid (implSorted L w1.heap.size (fctL s m) w2 hF hl (facTo_asc _ _ _) (facS_mem hL))
    clear hF hL hl hb
    go_wp2_with fail
    refine HS.out.mono ?_
    rintro e w3 ⟨v, rfl, ho, hb⟩
    have HO := Lib.hid (own_mono ho HB2.out.size)
    have HB3 : Hid (Below w.heap.size w w3) := HB2.out.trans (hb.mono HB2.out.size)
    obtain ⟨A, cp, rfl⟩ := own_slice ho
    clear ho hb
    go_wp2_with fail
    go_ret
    refine ⟨_, rfl, ?_, HB3.out⟩
    rw [HV.out]
    exact HO.out

set_option maxHeartbeats 400000 in
theorem implComplexityOf (s : ByteArray) (n : Int) (w : World) (hs : s.size ≤ 1048576) :
    Calls Try.prog 37 #[.string s, .int .i64 n] w fun e w' => e = .returned (.int .i64 (cpxR s n)) ∧ Below w.heap.size w w' := by
  cases hok : fctOk s n
  · have HV : Hid (cpxR s n = -1) := by show cpxR s n = -1; unfold cpxR; rw [hok]; rfl
    have HOK := Lib.hid hok
    clear hok
    go_enter Try.func37, Try.ntmps37
    go_wp2_with fail
    refine (implCanHave s n _ hs).mono ?_
    rintro e w1 ⟨rfl, hb1⟩
    have HB := Lib.hid hb1
    rw [HOK.out]
    clear hb1
    go_wp2_with fail
    go_ret
    exact ⟨ret_int HV.out.symm, HB.out⟩
  · obtain ⟨h4, h1, h2⟩ := fct_ok hok
    obtain ⟨m, rfl⟩ : ∃ m : Nat, n = m := ⟨n.toNat, by omega⟩
    have HV : Hid (cpxR s m = ((fctL s m).length : Int)) := if_pos hok
    have HOK := Lib.hid hok
    have HF := Lib.hid (fun w => implFactors s m w h4 (by omega) (by omega))
    clear hok
    go_enter Try.func37, Try.ntmps37
    go_wp2_with fail
    refine (implCanHave s m _ hs).mono ?_
    rintro e w1 ⟨rfl, hb1⟩
    have HB := Lib.hid hb1
    rw [HOK.out]
    clear hb1
    go_wp2_with fail
    refine (HF.out _).mono ?_
    rintro e w2 ⟨L, rfl, hF, hL, hl, hb⟩
    have HB2 : Hid (Below w.heap.size w w2) := HB.out.trans (hb.mono HB.out.size)
    have HLEN := Lib.hid (facS_len hL hF.nodup)
    have HFS := Lib.hid hF
    clear hF hL hl hb
    go_wp2_with (at_len; refine wp_mapLen _ rfl _ tSet rfl uSet w1.heap.size L _ rfl HFS.out ?_)
    go_ret
    exact ⟨ret_int (by rw [HV.out, HLEN.out]), HB2.out⟩
end Go.Proofs.Ytfcbfflkajlhnaa

/- The longest part of a word that lacks a factor: the mathematics of ReachOf. No program in it. -/
namespace Go.Proofs.Ytfcbfflkajlhnaa
open Go.RowKit

/-- the part from a to b lacks f, which has n letters -/
def LackP (s f : ByteArray) (n a b : Nat) : Prop := a ≤ b ∧ b ≤ s.size ∧ ∀ i, a ≤ i → i + n ≤ b → s.extract i (i + n) ≠ f
/-- some part of k letters lacks a factor of n letters -/
def LackK (s : ByteArray) (n k : Nat) : Prop := ∃ f ∈ fctL s n, ∃ a, LackP s f n a (a + k)
noncomputable def topTo (P : Nat → Prop) : Nat → Nat
  | 0 => 0
  | k + 1 => if @decide (P (k + 1)) (Classical.propDecidable _) = true then k + 1 else topTo P k
theorem topTo_le (P : Nat → Prop) : ∀ k, topTo P k ≤ k
  | 0 => Nat.le_refl _
  | k + 1 => by
    have := topTo_le P k
    unfold topTo
    split <;> omega
theorem topTo_eq {P : Nat → Prop} {m : Nat} (hm : P m) : ∀ N, m ≤ N → (∀ k, m < k → k ≤ N → ¬ P k) → topTo P N = m
  | 0, h, _ => by
    have : m = 0 := by omega
    rw [this]; rfl
  | N + 1, h, hn => by
    unfold topTo
    by_cases e : m = N + 1
    · subst e
      rw [if_pos (@decide_eq_true _ (Classical.propDecidable _) hm)]
    · rw [@decide_eq_false _ (Classical.propDecidable _) (hn (N + 1) (by omega) (Nat.le_refl _)), if_neg (by decide)]
      exact topTo_eq hm N (by omega) (fun k h1 h2 => hn k h1 (by omega))
/-- what ReachOf is to return -/
noncomputable def rchR (s : ByteArray) (n : Int) : Int := if fctOk s n = true then (if fctL s n.toNat = [] then 0 else (topTo (LackK s n.toNat) s.size : Int) + 1) else -1
/-- the longest part without f, as far as the letters before i tell -/
def Gap (s f : ByteArray) (n c0 i fr c : Nat) : Prop :=
  fr ≤ i ∧ (∀ j, fr ≤ j → j < i → s.extract j (j + n) ≠ f) ∧ c0 ≤ c ∧ (c = c0 ∨ ∃ a, LackP s f n a (a + c)) ∧ ∀ a b, a < fr → LackP s f n a b → b - a ≤ c
theorem gap_zero (s f : ByteArray) (n c0 : Nat) : Gap s f n c0 0 0 c0 :=
  ⟨Nat.le_refl _, fun j _ h => absurd h (by omega), Nat.le_refl _, .inl rfl, fun a b h => absurd h (by omega)⟩
theorem gap_no {s f : ByteArray} {n c0 i fr c : Nat} (h : Gap s f n c0 i fr c) (hn : s.extract i (i + n) ≠ f) : Gap s f n c0 (i + 1) fr c := by
  obtain ⟨h1, h2, h3, h4, h5⟩ := h
  refine ⟨by omega, fun j a b => ?_, h3, h4, h5⟩
  by_cases e : j = i
  · subst e; exact hn
  · exact h2 j a (by omega)
theorem gap_yes {s f : ByteArray} {n c0 i fr c : Nat} (h : Gap s f n c0 i fr c) (hn : 1 ≤ n) (hi : i + n ≤ s.size) (he : s.extract i (i + n) = f) : Gap s f n c0 (i + 1) (i + 1) (max c (i + n - 1 - fr)) := by
  obtain ⟨h1, h2, h3, h4, h5⟩ := h
  refine ⟨Nat.le_refl _, fun j a b => absurd a (by omega), by omega, ?_, fun a b ha hl => ?_⟩
  · by_cases hc : c < i + n - 1 - fr
    · right
      refine ⟨fr, by omega, by omega, fun j a b => h2 j a (by omega)⟩
    · rw [show max c (i + n - 1 - fr) = c by omega]
      exact h4
  · by_cases hf : a < fr
    · have := h5 a b hf hl
      omega
    · have hb : b < i + n := by
        by_cases hb : i + n ≤ b
        · exact absurd he (hl.2.2 i (by omega) hb)
        · omega
      omega
theorem gap_end {s f : ByteArray} {n c0 i fr c : Nat} (h : Gap s f n c0 i fr c) (hi : ¬ i + n ≤ s.size) (hf : fr ≤ s.size) : c0 ≤ max c (s.size - fr) ∧ (max c (s.size - fr) = c0 ∨ ∃ a, LackP s f n a (a + max c (s.size - fr))) ∧ ∀ a b, LackP s f n a b → b - a ≤ max c (s.size - fr) := by
  obtain ⟨h1, h2, h3, h4, h5⟩ := h
  refine ⟨by omega, ?_, fun a b hl => ?_⟩
  · by_cases hc : c < s.size - fr
    · right
      refine ⟨fr, by omega, by omega, fun j a b => h2 j a (by omega)⟩
    · rw [show max c (s.size - fr) = c by omega]
      exact h4
  · by_cases hf : a < fr
    · have := h5 a b hf hl
      omega
    · have := hl.2.1
      omega
/-- the longest part without one of the first factors -/
def Most (s : ByteArray) (n : Nat) (L : List ByteArray) (q c : Nat) : Prop :=
  c ≤ s.size ∧ (c = 0 ∨ ∃ f ∈ L, ∃ a, LackP s f n a (a + c)) ∧ ∀ j (hj : j < L.length), j < q → ∀ a b, LackP s L[j] n a b → b - a ≤ c
theorem most_zero (s : ByteArray) (n : Nat) (L : List ByteArray) : Most s n L 0 0 := ⟨Nat.zero_le _, .inl rfl, fun j _ h => absurd h (by omega)⟩
theorem most_next {s : ByteArray} {n : Nat} {L : List ByteArray} {q c i fr d : Nat} (h : Most s n L q c) (hq : q < L.length) (hg : Gap s L[q] n c i fr d) (hi : ¬ i + n ≤ s.size) (hf : fr ≤ s.size) : Most s n L (q + 1) (max d (s.size - fr)) := by
  obtain ⟨h1, h2, h3⟩ := h
  obtain ⟨g1, g2, g3⟩ := gap_end hg hi hf
  refine ⟨?_, ?_, fun j hj hjq a b hl => ?_⟩
  · rcases g2 with g2 | ⟨a, g2⟩
    · omega
    · have := g2.2.1; omega
  · rcases g2 with g2 | ⟨a, g2⟩
    · rw [g2]; exact h2
    · exact .inr ⟨L[q], List.getElem_mem _, a, g2⟩
  · by_cases e : j = q
    · subst e; exact g3 a b hl
    · have := h3 j hj (by omega) a b hl
      omega
theorem most_top {s : ByteArray} {n c : Nat} (h1 : 1 ≤ n) (hne : fctL s n ≠ []) (h : Most s n (fctL s n) (fctL s n).length c) : topTo (LackK s n) s.size = c := by
  obtain ⟨p1, p2, p3⟩ := h
  refine topTo_eq ?_ _ p1 (fun k hk hks => ?_)
  · rcases p2 with rfl | p2
    · obtain ⟨f, hf⟩ := List.exists_mem_of_ne_nil _ hne
      exact ⟨f, hf, 0, Nat.le_refl _, by omega, fun i _ h => absurd h (by omega)⟩
    · exact p2
  · rintro ⟨f, hf, a, hl⟩
    obtain ⟨j, hj, rfl⟩ := List.mem_iff_getElem.1 hf
    have := p3 j hj hj a (a + k) hl
    omega


/-! ### all factors at once -/
/-- f was met last just ahead of fr; no part without f that begins ahead of fr is longer than c -/
def GapF (s f : ByteArray) (n i fr c : Nat) : Prop := fr ≤ i ∧ (∀ j, fr ≤ j → j < i → s.extract j (j + n) ≠ f) ∧ ∀ a b, a < fr → LackP s f n a b → b - a ≤ c
/-- some part of c letters lacks a factor -/
def LackC (s : ByteArray) (n c : Nat) : Prop := c = 0 ∨ ∃ f ∈ fctL s n, ∃ a, LackP s f n a (a + c)
def RchAt (s : ByteArray) (n i : Nat) (N : ByteArray → Nat) (c : Nat) : Prop := LackC s n c ∧ (∀ f, GapF s f n i (N f) c) ∧ ∀ f, (∀ j, j < i → s.extract j (j + n) ≠ f) → N f = 0
theorem lackC_le {s : ByteArray} {n c : Nat} (h : LackC s n c) : c ≤ s.size := by
  rcases h with rfl | ⟨f, _, a, h⟩
  · omega
  · have := h.2.1; omega
theorem rch_start (s : ByteArray) (n : Nat) : RchAt s n 0 (fun _ => 0) 0 :=
  ⟨.inl rfl, fun _ => ⟨Nat.le_refl _, fun j _ h => absurd h (by omega), fun a _ h => absurd h (Nat.not_lt_zero a)⟩, fun _ _ => rfl⟩
theorem rch_step {s : ByteArray} {n i : Nat} {N N' : ByteArray → Nat} {c : Nat} (h : RchAt s n i N c) (hn : 1 ≤ n) (hi : i + n ≤ s.size) (hf : s.extract i (i + n) ∈ fctL s n) (h1 : N' (s.extract i (i + n)) = i + 1) (h2 : ∀ f, f ≠ s.extract i (i + n) → N' f = N f) :
    RchAt s n (i + 1) N' (max c (i + n - 1 - N (s.extract i (i + n)))) := by
  obtain ⟨w, g, z⟩ := h
  obtain ⟨g1, g2, g3⟩ := g (s.extract i (i + n))
  refine ⟨?_, fun f => ?_, fun f hz => ?_⟩
  · by_cases hc : c < i + n - 1 - N (s.extract i (i + n))
    · rw [show max c (i + n - 1 - N (s.extract i (i + n))) = i + n - 1 - N (s.extract i (i + n)) by omega]
      exact .inr ⟨_, hf, N (s.extract i (i + n)), by omega, by omega, fun j a b => g2 j a (by omega)⟩
    · rw [show max c (i + n - 1 - N (s.extract i (i + n))) = c by omega]
      exact w
  · by_cases e : f = s.extract i (i + n)
    · rw [e, h1]
      refine ⟨Nat.le_refl _, fun j a b => absurd a (by omega), fun a b ha hl => ?_⟩
      by_cases hfa : a < N (s.extract i (i + n))
      · have := g3 a b hfa hl
        omega
      · have hb : b < i + n := by
          by_cases hb : i + n ≤ b
          · exact absurd rfl (hl.2.2 i (by omega) hb)
          · omega
        omega
    · obtain ⟨k1, k2, k3⟩ := g f
      rw [h2 f e]
      refine ⟨by omega, fun j a b => ?_, fun a b ha hl => by have := k3 a b ha hl; omega⟩
      by_cases hj : j = i
      · subst hj; exact fun hh => e hh.symm
      · exact k2 j a (by omega)
  · rw [h2 f (fun e => hz i (by omega) e.symm)]
    exact z f fun j hj => hz j (by omega)
/-- the second loop: what has been done is bounded -/
def RchEnd (s : ByteArray) (n : Nat) (N : ByteArray → Nat) (M : ByteArray → Prop) (c : Nat) : Prop := LackC s n c ∧ (∀ f, GapF s f n (s.size + 1 - n) (N f) c) ∧ ∀ f ∈ fctL s n, ¬ M f → ∀ a b, LackP s f n a b → b - a ≤ c
theorem rend_start {s : ByteArray} {n c : Nat} {N : ByteArray → Nat} {M : ByteArray → Prop} (h : RchAt s n (s.size + 1 - n) N c) (hM : ∀ f ∈ fctL s n, M f) : RchEnd s n N M c :=
  ⟨h.1, h.2.1, fun f hf hn => absurd (hM f hf) hn⟩
theorem rend_step {s f : ByteArray} {n c : Nat} {N : ByteArray → Nat} {M M' : ByteArray → Prop} (h : RchEnd s n N M c) (hn2 : 1 ≤ n ∧ n ≤ s.size) (hf : f ∈ fctL s n) (hM : ∀ g, M g → g ≠ f → M' g) : RchEnd s n N M' (max c (s.size - N f)) := by
  obtain ⟨w, g, d⟩ := h
  obtain ⟨g1, g2, g3⟩ := g f
  refine ⟨?_, fun f' => ?_, fun f' hf' hn' a b hl => ?_⟩
  · by_cases hc : c < s.size - N f
    · rw [show max c (s.size - N f) = s.size - N f by omega]
      exact .inr ⟨_, hf, N f, by omega, by omega, fun j a b => g2 j a (by omega)⟩
    · rw [show max c (s.size - N f) = c by omega]
      exact w
  · obtain ⟨k1, k2, k3⟩ := g f'
    exact ⟨k1, k2, fun a b ha hl => by have := k3 a b ha hl; omega⟩
  · by_cases e : f' = f
    · subst e
      by_cases ha : a < N f'
      · have := g3 a b ha hl
        omega
      · have := hl.2.1
        omega
    · have := d f' hf' (fun hm => hn' (hM f' hm e)) a b hl
      omega
theorem rend_end {s : ByteArray} {n c : Nat} {N : ByteArray → Nat} {M : ByteArray → Prop} (h : RchEnd s n N M c) (hn : 1 ≤ n) (hne : fctL s n ≠ []) (hM : ∀ f, ¬ M f) : topTo (LackK s n) s.size = c := by
  obtain ⟨w, _, d⟩ := h
  refine topTo_eq ?_ _ (lackC_le w) (fun k hk _ => ?_)
  · rcases w with rfl | w
    · obtain ⟨f, hf⟩ := List.exists_mem_of_ne_nil _ hne
      exact ⟨f, hf, 0, Nat.le_refl _, by omega, fun i _ h => absurd h (by omega)⟩
    · exact w
  · rintro ⟨f, hf, a, hl⟩
    have := d f hf (hM f) a (a + k) hl
    omega
end Go.Proofs.Ytfcbfflkajlhnaa
