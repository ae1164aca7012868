/- Texts put together. -/
import Derived.Test.YtjmijedfmiplfaaMgA29
import Derived.Test.YtjmijedfmiplfaaMgA21
import Derived.Test.YtjmijedfmiplfaaMgA6
import Derived.Test.YtjmijedfmiplfaaMgA28
import Derived.Test.YtjmijedfmiplfaaMgA23
import Derived.Test.YtjmijedfmiplfaaMgA26
import Derived.Test.YtjmijedfmiplfaaMgA18
import Derived.Test.YtjmijedfmiplfaaMgA27
import Derived.Test.YtjmijedfmiplfaaMgA16
/- The mathematics of FnPalindromes, last part: what its calls return, in the form that the walk wants. No program in it. -/
namespace Go.Proofs.Ytjmijedfmiplfaa
open Go.RowKit

theorem fl_turn (s : ByteArray) : flipS s = turnS s := rfl
theorem part_word {s : ByteArray} (hw : wordB s = true) (i j : Nat) : wordB (s.extract i j) = true := by
  unfold wordB at hw ⊢
  rw [Bool.and_eq_true, decide_eq_true_eq, List.all_eq_true] at hw
  rw [Bool.and_eq_true, decide_eq_true_eq, List.all_eq_true]
  refine ⟨by rw [ByteArray.size_extract]; omega, fun c hc => hw.2 c ?_⟩
  rw [ByteArray.data_extract, Array.toList_extract, List.extract_eq_take_drop] at hc
  exact List.mem_of_mem_drop (List.mem_of_mem_take hc)
theorem turn_word {s : ByteArray} (hw : wordB s = true) : wordB (turnS s) = true := by
  unfold wordB at hw ⊢
  rw [Bool.and_eq_true, decide_eq_true_eq, List.all_eq_true] at hw ⊢
  refine ⟨by rw [turn_size]; exact hw.1, fun c hc => hw.2 c ?_⟩
  have hc : c ∈ s.data.toList.reverse := hc
  rwa [List.mem_reverse] at hc
theorem pa_ok {s : ByteArray} (hw : wordB s = true) (h : s.size ≤ 60) : ppR s = ppL s := if_pos (by unfold ppOk; rw [hw, decide_eq_true h]; rfl)
theorem pa_asc {s : ByteArray} (hw : wordB s = true) (h : s.size ≤ 60) : Asc (ppR s) := by rw [pa_ok hw h]; exact ppTo_asc _ _
theorem pa_empty {s : ByteArray} (hw : wordB s = true) (h : s.size ≤ 60) : (⟨#[]⟩ : ByteArray) ∈ ppR s := by rw [pa_ok hw h]; exact (ppL_mem _ _).2 (.inl rfl)
/-- the defect is a number, and says how many palindromes there are -/
theorem pa_def {s : ByteArray} (hw : wordB s = true) (h : s.size ≤ 60) : ∃ D : Nat, dfR s = D ∧ (ppR s).length + D = s.size + 1 ∧ dfR (flipS s) = D := by
  have hc := pp_count s
  have h1 : dfR s = (s.size : Int) + 1 - ((ppL s).length : Int) := if_pos (by unfold ppOk; rw [hw, decide_eq_true h]; rfl)
  have h2 : dfR (turnS s) = ((turnS s).size : Int) + 1 - ((ppL (turnS s)).length : Int) := if_pos (by unfold ppOk; rw [turn_word hw, turn_size, decide_eq_true h]; rfl)
  rw [turn_size, pp_turn] at h2
  rw [fl_turn, pa_ok hw h]
  refine ⟨s.size + 1 - (ppL s).length, ?_, by omega, ?_⟩
  · rw [h1]; omega
  · rw [h2]; omega
theorem pa_long {s : ByteArray} (hw : wordB s = true) : ∃ I N : Nat, lpR1 s = I ∧ lpR2 s = N ∧ I + N ≤ s.size ∧ ipR (s.extract I (I + N)) = true ∧ ∀ x ∈ ppL s, x.size ≤ N := by
  obtain ⟨⟨a, b, c⟩, _⟩ := lp_is s
  by_cases h0 : s.size = 0
  · refine ⟨0, 0, ?_, ?_, by omega, ?_, fun x hx => ?_⟩
    · unfold lpR1; rw [if_pos hw, if_pos h0]; rfl
    · unfold lpR2; rw [if_pos hw, h0, Nat.zero_sub]
    · unfold ipR
      rw [part_word hw, (palB_iff _).2 (pal_small (by rw [ByteArray.size_extract]; omega))]
      rfl
    · have := pp_longest hx
      omega
  · refine ⟨lpI s, s.size - lpD s, ?_, ?_, by omega, ?_, fun x hx => pp_longest hx⟩
    · unfold lpR1; rw [if_pos hw, if_neg h0]
    · unfold lpR2; rw [if_pos hw]
    · unfold ipR
      rw [part_word hw, (palB_iff _).2 c]
      rfl
theorem pa_mem {s x : ByteArray} (hw : wordB s = true) (h : s.size ≤ 60) (hx : x ∈ ppR s) : flipS x = x ∧ factR s x = true ∧ x.size ≤ s.size := by
  rw [pa_ok hw h] at hx
  rcases (ppL_mem s x).1 hx with rfl | ⟨j, n, h1, h2, h3, rfl⟩
  · refine ⟨rfl, ?_, Nat.zero_le _⟩
    have : (⟨#[]⟩ : ByteArray).size = 0 := rfl
    unfold factR
    rw [hw, (has_iff s _).2 ⟨0, by omega, by rw [this]; exact pl_zero (by rw [ByteArray.size_extract]; omega)⟩]
    rfl
  · have hz := pz_size s j n h2
    refine ⟨h3, ?_, by omega⟩
    unfold factR
    rw [hw, part_word hw, (has_iff s _).2 ⟨j, by omega, by rw [hz]⟩]
    rfl
/-- the closed word -/
theorem pa_close {s : ByteArray} (hw : wordB s = true) (h : s.size ≤ 60) : clR s = clS s ∧ wordB (clS s) = true ∧ ipR (clS s) = true ∧ (clS s).size ≤ 2 * s.size ∧ s.data.toList <+: (clS s).data.toList ∧ (clS s = s ↔ PalS s) ∧ ∀ k, s.size ≤ k → k < (clS s).size → flipS ((clS s).extract 0 k) ≠ (clS s).extract 0 k := by
  have hk := clK_le s
  have hz := clS_size s
  have hcw : wordB (clS s) = true := by
    unfold wordB at hw ⊢
    rw [Bool.and_eq_true, decide_eq_true_eq, List.all_eq_true] at hw ⊢
    exact ⟨by omega, fun c hc => hw.2 c (cl_mem hc)⟩
  refine ⟨if_pos (by rw [hw, hcw]; rfl), hcw, ?_, ?_, cl_start s, cl_self s, fun k h1 h2 => ?_⟩
  · unfold ipR; rw [hcw, (palB_iff _).2 (cl_pal s)]; rfl
  · omega
  · exact cl_short h1 (by omega)
/-- directed words of at most 6 letters -/
theorem pa_dir {d : ByteArray} (hw : wordB d = true) (h : d.size ≤ 6) : dwOk d = true ∧ dwR d = dwS d d.size ∧ drOk (dwS d d.size) = true ∧ drR (dwS d d.size) = d ∧ ipR (dwS d d.size) = true ∧ (dwS d d.size).size ≤ 400 ∧ ((dwS d d.size).size ≤ 60 → richR (dwS d d.size) = true) ∧ ∀ n : Int, 1 ≤ n → n ≤ 60 → cuR (dwS d d.size) n = true := by
  obtain ⟨a, b⟩ := dw_good hw (by omega)
  obtain ⟨c1, c2⟩ := dr_back hw (by omega)
  have hs := dw_small d d.size (Nat.le_refl _)
  have h2 : 2 ^ d.size ≤ 2 ^ 6 := Nat.pow_le_pow_right (by omega) h
  have hx : wordB (dwS d d.size) = true := dw_word hw (by omega)
  refine ⟨a, b, c1, c2, ?_, by omega, fun h60 => ?_, fun n h1 h6 => ?_⟩
  · unfold ipR; rw [hx, (palB_iff _).2 (dw_pal d _)]; rfl
  · have hr := rich_count (dw_rich hw d.size (6 - d.size) (Nat.le_refl _) (by omega)).2
    have h1 : dfR (dwS d d.size) = ((dwS d d.size).size : Int) + 1 - ((ppL (dwS d d.size)).length : Int) := if_pos (by unfold ppOk; rw [hx, decide_eq_true h60]; rfl)
    unfold richR
    rw [h1, hr, beq_iff_eq]
    omega
  · unfold cuR
    rw [hx, decide_eq_true h1, decide_eq_true h6, cu_pal (dw_pal d _)]
    rfl
theorem dw_cut (d : ByteArray) {m : Nat} (hm : m ≤ d.size) : ∀ i, i ≤ m → dwS (d.extract 0 m) i = dwS d i
  | 0, _ => rfl
  | i + 1, h => by
    show clS (dwS (d.extract 0 m) i ++ (d.extract 0 m).extract i (i + 1)) = clS (dwS d i ++ d.extract i (i + 1))
    have hz : (d.extract 0 m).size = m := by rw [ByteArray.size_extract]; omega
    have : (d.extract 0 m).extract i (i + 1) = d.extract i (i + 1) := by
      rw [pl_ext2 (by omega) (by omega)]
      intro j hj
      have := pz_list d 0 m (i + j) (by omega)
      rwa [Nat.zero_add, Nat.zero_add] at this
    rw [dw_cut d hm i (by omega), this]
/-- .. and with the last letter struck -/
theorem pa_less {d : ByteArray} (hw : wordB d = true) (h : d.size ≤ 6) (h1 : 1 ≤ d.size) : wordB (d.extract 0 (d.size - 1)) = true ∧ dwOk (d.extract 0 (d.size - 1)) = true ∧ ∃ y, dwR (d.extract 0 (d.size - 1)) = y ∧ y.data.toList <+: (dwS d d.size).data.toList ∧ y.size < (dwS d d.size).size := by
  have hz : (d.extract 0 (d.size - 1)).size = d.size - 1 := by rw [ByteArray.size_extract]; omega
  have hx := part_word hw 0 (d.size - 1)
  obtain ⟨a, b⟩ := dw_good hx (by omega)
  rw [hz, dw_cut d (by omega) _ (Nat.le_refl _)] at b
  refine ⟨hx, a, _, b, ?_, ?_⟩
  · have := dw_mono d (d.size - 1) 1
    rwa [Nat.sub_add_cancel h1] at this
  · have := dw_strict (d := d) (i := d.size - 1) 1 (Nat.le_refl _) (by omega)
    rwa [Nat.sub_add_cancel h1] at this
end Go.Proofs.Ytjmijedfmiplfaa

/- The program's IsPalindrome, DefectOf, IsRich, CloseWord, LongestPalindrome. Conditions: lengths of at most 2^20. -/
namespace Go.Proofs.Ytjmijedfmiplfaa
open Go.RowKit

theorem eer_upto {P : Program} {t : TypeId} (ht : P.underlying t = some .string) (s : ByteArray) (y : Nat) (w : World) (h : y ≤ s.size) :
    (Instr.slice t (.string s) none (some (.int .i64 (y : Int))) none).run P w = .ok (.string (s.extract 0 y)) w := by
  rw [run_slice_string_to_if (P := P) w t s .i64 (y : Int) ht, if_pos (by omega)]
  rfl

set_option maxRecDepth 100000 in
set_option maxHeartbeats 1000000 in
theorem implIsPalindrome (s : ByteArray) (w : World) (hs : s.size ≤ 1048576) :
    Calls Try.prog 54 #[.string s] w fun e w' => e = .returned (.bool (ipR s)) ∧ Below w.heap.size w w' := by
  cases hw : wordB s
  · have HV : Hid (ipR s = false) := by show _ = _; unfold ipR; rw [hw]; rfl
    have HW := Lib.hid hw
    clear hw
    go_enter Try.func54, Try.ntmps54
    go_wp2_with fail
    refine (implWordOk s _ hs).mono ?_
    rintro e w1 ⟨rfl, hb⟩
    have HB := Lib.hid hb
    rw [HW.out]
    clear hb
    go_wp2_with fail
    go_ret
    exact ⟨ret_bool HV.out.symm, HB.out⟩
  have HW := Lib.hid hw
  have ht : turnR s = turnS s := if_pos hw
  have HT := Lib.hid (fun w => implTurnWord s w hs)
  have HV : Hid (ipR s = palB s) := by show _ = _; unfold ipR; rw [hw, Bool.true_and]
  rw [ht] at HT
  have HP := Lib.hid (palB_iff s)
  clear hw ht
  by_cases he : turnS s = s
  · have bq := eq_bytes he
    have HE : Hid (palB s = true) := HP.out.2 he
    clear he HP
    generalize turnS s = t at HT bq
    go_enter Try.func54, Try.ntmps54
    go_wp2_with fail
    refine (implWordOk s _ hs).mono ?_
    rintro e w1 ⟨rfl, hb⟩
    have HB := Lib.hid hb
    rw [HW.out]
    clear hb
    go_wp2_with fail
    refine (HT.out _).mono ?_
    rintro e w2 ⟨rfl, hb⟩
    have HB2 : Hid (Below w.heap.size w w2) := HB.out.trans (hb.mono HB.out.size)
    clear hb
    go_wp2_with fail
    go_ret
    exact ⟨ret_bool (by rw [HV.out, HE.out]), HB2.out⟩
  · have bq := ne_bytes he
    have HE : Hid (palB s = false) := by
      show _ = _
      cases hx : palB s
      · rfl
      · exact absurd (HP.out.1 hx) he
    clear he HP
    generalize turnS s = t at HT bq
    go_enter Try.func54, Try.ntmps54
    go_wp2_with fail
    refine (implWordOk s _ hs).mono ?_
    rintro e w1 ⟨rfl, hb⟩
    have HB := Lib.hid hb
    rw [HW.out]
    clear hb
    go_wp2_with fail
    refine (HT.out _).mono ?_
    rintro e w2 ⟨rfl, hb⟩
    have HB2 : Hid (Below w.heap.size w w2) := HB.out.trans (hb.mono HB.out.size)
    clear hb
    go_wp2_with fail
    go_ret
    exact ⟨ret_bool (by rw [HV.out, HE.out]), HB2.out⟩

end Go.Proofs.Ytjmijedfmiplfaa

/- The program's IsCentral. Condition: a text of at most 2^20 bytes. -/
namespace Go.Proofs.Ytjmijedfmiplfaa
open Go.RowKit

/-- the periods and two more numbers -/
noncomputable def cpL (s : ByteArray) : List Int := peR s ++ [(s.size : Int) + 1, (s.size : Int) + 2]
noncomputable def cpAt (s : ByteArray) (x : Int) : Bool := decide ((s.size : Int) + 2 - x ∈ cpL s) && decide (Nat.gcd x.toNat ((s.size : Int) + 2 - x).toNat = 1)

theorem pe_mem {s : ByteArray} (hw : wordB s = true) {p : Int} : p ∈ peR s ↔ ∃ q : Nat, p = (q : Int) ∧ 1 ≤ q ∧ q ≤ s.size ∧ perB s q = true := by
  have e1 : peR s = peTo s s.size := if_pos hw
  rw [e1, peTo_mem]
  constructor
  · rintro ⟨q, h0, h1, h2, h3⟩; exact ⟨q, h0, h1, h2, (perB_iff s q).2 h3⟩
  · rintro ⟨q, h0, h1, h2, h3⟩; exact ⟨q, h0, h1, h2, (perB_iff s q).1 h3⟩
theorem cp_mem {s : ByteArray} (hw : wordB s = true) {p : Int} : p ∈ cpL s ↔ ∃ q : Nat, p = (q : Int) ∧ 1 ≤ q ∧ q ≤ s.size + 2 ∧ perB s q = true := by
  unfold cpL
  rw [List.mem_append, pe_mem hw]
  constructor
  · rintro (⟨q, rfl, h1, h2, h3⟩ | h)
    · exact ⟨q, rfl, h1, by omega, h3⟩
    · simp only [List.mem_cons, List.not_mem_nil, or_false] at h
      rcases h with rfl | rfl
      · exact ⟨s.size + 1, by omega, by omega, by omega, (perB_iff s _).2 fun i hi => absurd hi (by omega)⟩
      · exact ⟨s.size + 2, by omega, by omega, by omega, (perB_iff s _).2 fun i hi => absurd hi (by omega)⟩
  · rintro ⟨q, rfl, h1, h2, h3⟩
    by_cases h : q ≤ s.size
    · exact .inl ⟨q, rfl, h1, h, h3⟩
    · refine .inr ?_
      simp only [List.mem_cons, List.not_mem_nil, or_false]
      omega
theorem ce_to (s : ByteArray) : ∀ k, ceTo s k = true ↔ ∃ p, 1 ≤ p ∧ p ≤ k ∧ ceAt s p = true
  | 0 => ⟨fun h => absurd (show false = true from h) (by decide), fun ⟨p, h1, h2, _⟩ => by omega⟩
  | k + 1 => by
    unfold ceTo
    rw [Bool.or_eq_true, ce_to s k]
    constructor
    · rintro (⟨p, h1, h2, h3⟩ | h)
      · exact ⟨p, h1, by omega, h3⟩
      · exact ⟨k + 1, by omega, Nat.le_refl _, h⟩
    · rintro ⟨p, h1, h2, h3⟩
      by_cases e : p = k + 1
      · subst e; exact .inr h3
      · exact .inl ⟨p, h1, by omega, h3⟩
/-- some number of the list fits: the word is central -/
theorem cp_ce {s : ByteArray} (hw : wordB s = true) : (∃ x ∈ cpL s, cpAt s x = true) ↔ ceTo s (s.size + 1) = true := by
  rw [ce_to]
  constructor
  · rintro ⟨x, hx, hc⟩
    obtain ⟨p, rfl, h1, h2, h3⟩ := (cp_mem hw).1 hx
    unfold cpAt at hc
    rw [Bool.and_eq_true, decide_eq_true_eq, decide_eq_true_eq] at hc
    obtain ⟨q, hq, k1, k2, k3⟩ := (cp_mem hw).1 hc.1
    have hqe : q = s.size + 2 - p := by omega
    refine ⟨p, h1, by omega, ?_⟩
    unfold ceAt
    rw [Bool.and_eq_true, Bool.and_eq_true, decide_eq_true_eq]
    have hg := hc.2
    rw [hq, Int.toNat_natCast, Int.toNat_natCast] at hg
    rw [← hqe]
    exact ⟨hg, h3, k3⟩
  · rintro ⟨p, h1, h2, hc⟩
    unfold ceAt at hc
    rw [Bool.and_eq_true, Bool.and_eq_true, decide_eq_true_eq] at hc
    refine ⟨(p : Int), (cp_mem hw).2 ⟨p, rfl, h1, by omega, hc.2.1⟩, ?_⟩
    unfold cpAt
    have e : (s.size : Int) + 2 - (p : Int) = ((s.size + 2 - p : Nat) : Int) := by omega
    rw [Bool.and_eq_true, decide_eq_true_eq, decide_eq_true_eq, e, Int.toNat_natCast, Int.toNat_natCast]
    exact ⟨(cp_mem hw).2 ⟨_, rfl, by omega, by omega, hc.2.2⟩, hc.1⟩
theorem cp_in {s : ByteArray} (hw : wordB s = true) {x : Int} (h : x ∈ cpL s) : 1 ≤ x ∧ x ≤ (s.size : Int) + 2 := by
  obtain ⟨q, rfl, h1, h2, _⟩ := (cp_mem hw).1 h
  omega
theorem cp_len (s : ByteArray) : (cpL s).length = (peR s).length + 2 := by
  unfold cpL
  rw [List.length_append]
  rfl
theorem wpList_append_two {P : Program} (w : World) {ops : Array Oper} {rest : List Oper} {o : Oper} {a : Act} {Q : Exit → Act → World → Prop} (hgd : o.guard = none) (s x : Operand) (t : TypeId)
    (ho : o.op = .call { callee := .builtin .append, args := #[s, x], argTypes := #[t, t] })
    (base : Nat) (e : TypeId) (i : TypeInfo) (z : Value) (bytes : Nat) (ht : P.underlying t = some (.slice e)) (hi : P.info? e = some i) (hz : i.zero = some z)
    (hsize : i.size = 1) (hby : i.bytes = bytes) (hzs : z.cells.size = 1)
    (v : Value) (n : Nat) (xs : List Value) (hs : a.eval s = v) (hown : w.ownsRow base e 1 v n xs)
    (y1 y2 : Value) (hy1 : y1.oneCell' = true) (hy2 : y2.oneCell' = true) (hx : a.eval x = .slice (some ⟨w.heap.size, 0, none⟩) 2 2)
    (h63 : n + 2 ≤ maxLen) (hbytes : (n + 2) * bytes ≤ 140737488355328) (hbase : base ≤ w.heap.size)
    (h : ∀ v' w', w'.ownsRow base e 1 v' (n + 2) (xs ++ [y1, y2]) → Below base w w' → wpList P ops Q rest (a.put o.dst v') w') :
    wpList P ops Q (o :: rest) a (w.alloc (.cells #[y1, y2] e)) := by
  refine wpList_append_own _ hgd s x t ho base e i z 1 bytes ht hi hz hsize hby hzs (by decide) v n xs hs (hown.alloc _) ⟨w.heap.size, 0, none⟩ 2 2 [y1, y2] hx rfl ?_ ?_ h63 hbytes (by simp; omega) ?_
  · intro j u hu
    rcases j with _ | _ | j
    · simp at hu
      subst hu
      rw [Addr.add_lit, World.cell?_alloc_at _ _ _ _ (by simp)]
      rfl
    · simp at hu
      subst hu
      rw [Addr.add_lit, World.cell?_alloc_at _ _ _ _ (by simp)]
      rfl
    · simp at hu
  · intro u hu
    simp at hu
    rcases hu with rfl | rfl
    · exact hy1
    · exact hy2
  · intro v' w' h1 h2 _
    refine h v' w' h1 ?_
    have hb : Below base w (w.alloc (.cells #[y1, y2] e)) := (Below.refl _ _).alloc hbase _
    exact hb.grown h2 (by simp; omega) (fun k hk => (hown.lt k hk).1)

set_option maxRecDepth 100000 in
set_option maxHeartbeats 1000000 in
theorem implIsCentral (s : ByteArray) (w : World) (hs : s.size ≤ 1048576) :
    Calls Try.prog 30 #[.string s] w fun e w' => e = .returned (.bool (ceR s)) ∧ Below w.heap.size w w' := by
  obtain ⟨i0, hi0, hz0, hz1, hz2⟩ := info_parts int_info
  have HBI := Lib.hid (fun w => implIsBinary s w hs)
  have HPI := Lib.hid (fun w => implIsPalindrome s w hs)
  cases hb : binB s
  · have HV : Hid (ceR s = false) := by show _ = _; unfold ceR; rw [hb]; rfl
    rw [hb] at HBI
    clear hb
    generalize ceR s = r at *
    go_enter Try.func30, Try.ntmps30
    go_wp2_with fail
    refine (HBI.out _).mono ?_
    rintro e w1 ⟨rfl, hb⟩
    have HB := Lib.hid hb
    clear hb
    go_wp2_with fail
    go_ret
    exact ⟨ret_bool HV.out.symm, HB.out⟩
  have hw : wordB s = true := by
    unfold binB at hb
    rw [Bool.and_eq_true] at hb
    exact hb.1
  have hip : ipR s = palB s := by unfold ipR; rw [hw, Bool.true_and]
  rw [hip] at HPI
  cases hpl : palB s
  · have HV : Hid (ceR s = false) := by show _ = _; unfold ceR; rw [hpl, Bool.and_false]; rfl
    rw [hb] at HBI
    rw [hpl] at HPI
    clear hb hpl hip
    generalize ceR s = r at *
    go_enter Try.func30, Try.ntmps30
    go_wp2_with fail
    refine (HBI.out _).mono ?_
    rintro e w1 ⟨rfl, hb⟩
    have HB := Lib.hid hb
    clear hb
    go_wp2_with fail
    refine (HPI.out _).mono ?_
    rintro e w2 ⟨rfl, hb⟩
    have HB2 := Lib.hid (HB.out.trans (hb.mono HB.out.size))
    clear hb
    go_wp2_with fail
    go_ret
    exact ⟨ret_bool HV.out.symm, HB2.out⟩
  have hv : ceR s = ceTo s (s.size + 1) := by unfold ceR; rw [hb, hpl]; rfl
  rw [hb] at HBI
  rw [hpl] at HPI
  have HPE := Lib.hid (fun w => implPeriodsOf s w hs)
  have hsz := word_size hw
  have hin := fun x (h : x ∈ cpL s) => cp_in hw h
  have HCE := Lib.hid (cp_ce hw)
  have hle := peR_le s
  have HLN := Lib.hid (cp_len s)
  have hl1 : (cpL s).length ≤ 402 := by rw [HLN.out]; omega
  have HCP : Hid (ints (peR s) ++ [.int .i64 ((s.size : Int) + 1), .int .i64 ((s.size : Int) + 2)] = ints (cpL s)) := by
    show _ = _
    unfold cpL ints
    rw [List.map_append]
    rfl
  have HAT : Hid (∀ x, cpAt s x = (decide ((s.size : Int) + 2 - x ∈ cpL s) && decide (Nat.gcd x.toNat ((s.size : Int) + 2 - x).toNat = 1))) := fun x => rfl
  have HIN := Lib.hid hin
  have HV := Lib.hid hv
  have HYES : Hid (∀ x, x ∈ cpL s → cpAt s x = true → ceR s = true) := fun x hx hc => by rw [hv]; exact (cp_ce hw).1 ⟨x, hx, hc⟩
  have HNO : Hid ((∀ k (hk : k < (cpL s).length), cpAt s (cpL s)[k] = false) → ceR s = false) := fun h => by
    rw [hv, Bool.eq_false_iff]
    intro hc
    obtain ⟨x, hx, hf⟩ := (cp_ce hw).2 hc
    obtain ⟨k, hk, rfl⟩ := List.mem_iff_getElem.1 hx
    rw [h k hk] at hf
    cases hf
  clear hv hin hip hb hpl hw HCE HV
  generalize ceR s = r at *
  generalize cpAt s = C at *
  generalize cpL s = L at *
  generalize peR s = PR at *
  go_enter Try.func30, Try.ntmps30
  go_wp2_with fail
  refine (HBI.out _).mono ?_
  rintro e w1 ⟨rfl, hb⟩
  have HB := Lib.hid hb
  clear hb
  go_wp2_with fail
  refine (HPI.out _).mono ?_
  rintro e w2 ⟨rfl, hb⟩
  have HB2 : Hid (Below w.heap.size w w2) := HB.out.trans (hb.mono HB.out.size)
  clear hb HB
  go_wp2_with fail
  refine (HPE.out _).mono ?_
  rintro e w3 ⟨vp, rfl, ho, hb⟩
  obtain ⟨Ap, cp, rfl⟩ := own_slice ho
  have HO3 := Lib.hid ho
  have HB3 : Hid (Below w.heap.size w w3) := HB2.out.trans (hb.mono HB2.out.size)
  have hz3 : w2.heap.size ≤ w3.heap.size := hb.size
  clear hb ho
  go_wp2_with (at_builtin
               refine wpList_append_two w3 rfl (.tmp 16) (.tmp 23) _ rfl w2.heap.size 3 i0 _ 8 Try.underlying22 hi0 hz0 hz1 hz2 rfl (.slice Ap PR.length cp) PR.length (ints PR) rfl HO3.out (.int .i64 ((s.size : Int) + 1)) (.int .i64 ((s.size : Int) + 2)) rfl rfl rfl (by unfold maxLen; omega) (by omega) hz3 ?_
               intro v4 w4 hown4 hbel4
               rw [HCP.out, ← HLN.out] at hown4
               obtain ⟨A4, c4, rfl⟩ := own_slice hown4
               have HO4 := Lib.hid hown4
               have HB4 : Hid (Below w.heap.size w w4) := HB3.out.trans (hbel4.mono HB2.out.size)
               clear hown4 hbel4)
  go_loopw [27] (fun iv w' => ∃ k : Nat, k ≤ L.length ∧ iv = .int .i64 (k : Int) ∧ (∀ j (hj : j < L.length), j < k → C L[j] = false) ∧ ∃ m, w' = w4.drewN m) (fun iv _ => L.length - (RowKit.intOf iv).toNat)
  case atStart => exact ⟨0, Nat.zero_le _, rfl, fun j _ h => absurd h (Nat.not_lt_zero _), 0, rfl⟩
  case round =>
    obtain ⟨k, hk, rfl, hall, m, hw⟩ := hrel
    obtain ⟨wq, rfl⟩ : ∃ y : World, y = wr := ⟨_, rfl⟩
    have HALL := Lib.hid hall
    have HOQ : Hid (wq.ownsRow w2.heap.size 3 1 (.slice A4 L.length c4) L.length (ints L)) := by show World.ownsRow _ _ _ _ _ _ _; rw [hw]; exact HO4.out
    have HBQ : Hid (Below w.heap.size w wq) := by show Below _ _ _; rw [hw]; exact below_drewN HB4.out _
    have HWQ := Lib.hid hw
    clear hall hw
    by_cases hlt : k < L.length
    · have hlt' : (k : Int) < (L.length : Int) := by omega
      obtain ⟨g, c5, he, _⟩ := own_some HOQ.out (by omega)
      injection he with he hz9 he2
      clear hz9
      subst he; subst he2
      have gk : wq.cell? ⟨g, k, none⟩ = some (.int .i64 (L[k]'hlt)) := (World.ownsRow.cellAt HOQ.out k (by omega)).trans (ints_get (List.getElem?_eq_getElem hlt))
      have hxb := HIN.out (L[k]'hlt) (List.getElem_mem _)
      have HYK := Lib.hid (HYES.out (L[k]'hlt) (List.getElem_mem _))
      have HCK := Lib.hid (HAT.out (L[k]'hlt))
      have HUP : Hid (C (L[k]'hlt) = false → ∀ j (hj : j < L.length), j < k + 1 → C L[j] = false) := fun h j hj hjk => by
        by_cases e : j = k
        · subst e; exact h
        · exact HALL.out j hj (by omega)
      generalize L[k]'hlt = x at *
      obtain ⟨X, rfl⟩ : ∃ X : Nat, x = X := ⟨x.toNat, by omega⟩
      obtain ⟨Y, hY⟩ : ∃ Y : Nat, (Y : Int) = (s.size : Int) + 2 - (X : Int) := ⟨s.size + 2 - X, by omega⟩
      have e1 : IntKind.i64.wrap ((s.size : Int) + 2) = (s.size : Int) + 2 := IntWalk.i64_in _ (by omega)
      have e2 : IntKind.i64.wrap ((s.size : Int) + 2 - (X : Int)) = (Y : Int) := by rw [hY]; exact IntWalk.i64_in _ (by omega)
      have e3 : (s.size : Int) + 2 - (X : Int) = (Y : Int) := hY.symm
      rw [e3, Int.toNat_natCast, Int.toNat_natCast] at HCK
      have HCO := Lib.hid (implContainsInts w2.heap.size _ L (Y : Int) wq HOQ.out (by omega))
      have HG := Lib.hid (fun w => implDivisorI (X : Int) (Y : Int) w (by simp [Lit.wf, IntKind.min, IntKind.max, IntKind.signed, IntKind.bits]; omega) (by simp [Lit.wf, IntKind.min, IntKind.max, IntKind.signed, IntKind.bits]; omega))
      have HGG : Hid (∀ g : Int, (0 ≤ (X : Int) → 0 ≤ (Y : Int) → g = (Nat.gcd (X : Int).toNat (Y : Int).toNat : Int)) → g = (Nat.gcd X Y : Int)) := fun g h => h (by omega) (by omega)
      clear hY e3
      by_cases hy : (Y : Int) ∈ L
      · rw [decide_eq_true hy] at HCO HCK
        rw [Bool.true_and] at HCK
        by_cases hg : Nat.gcd X Y = 1
        · have HT := Lib.hid (HYK.out (by rw [HCK.out]; exact decide_eq_true hg))
          rw [hg] at HGG
          clear hg hy
          go_wp2_with fail
          refine HCO.out.mono ?_
          rintro e w5 ⟨rfl, rfl⟩
          go_wp2_with fail
          refine (HG.out _).mono ?_
          rintro e w5 ⟨g5, rfl, hg5, n5, hw5⟩
          have hge := HGG.out g5 hg5.out
          have dg : (g5 == 1) = true := by rw [beq_iff_eq]; exact hge
          have HB5 : Hid (Below w.heap.size w w5) := by show Below _ _ _; rw [hw5]; exact below_drewN HBQ.out _
          clear hg5 hw5 hge
          go_wp2_with fail
          go_ret
          exact ⟨ret_bool HT.out.symm, HB5.out⟩
        · have HF := Lib.hid (HUP.out (by rw [HCK.out]; exact decide_eq_false hg))
          have dn : ((Nat.gcd X Y : Int) == 1) = false := by rw [beq_eq_false_iff_ne]; omega
          clear hg hy HCK
          obtain ⟨g0, hg0⟩ : ∃ g0 : Nat, g0 = Nat.gcd X Y := ⟨_, rfl⟩
          rw [← hg0] at dn HGG
          clear hg0
          go_wp2_with fail
          refine HCO.out.mono ?_
          rintro e w5 ⟨rfl, rfl⟩
          go_wp2_with fail
          refine (HG.out _).mono ?_
          rintro e w5 ⟨g5, rfl, hg5, n5, hw5⟩
          have hge := HGG.out g5 hg5.out
          subst hge
          have HW5 : Hid (w5 = w4.drewN (m + n5)) := by show _ = _; rw [hw5, HWQ.out]; exact World.drewN_drewN _ _ _
          clear hg5 hw5
          go_wp2_with fail
          go_roundw
          case rel => exact ⟨k + 1, by omega, by go_num, HF.out, _, HW5.out⟩
          case measure => simp [RowKit.intOf]; omega
      · rw [decide_eq_false hy] at HCO HCK
        have HF := Lib.hid (HUP.out (by rw [HCK.out, Bool.false_and]))
        clear hy HCK
        go_wp2_with fail
        refine HCO.out.mono ?_
        rintro e w5 ⟨rfl, rfl⟩
        go_wp2_with fail
        go_roundw
        case rel => exact ⟨k + 1, by omega, by go_num, HF.out, m, HWQ.out⟩
        case measure => simp [RowKit.intOf]; omega
    · have hlt' : ¬ (k : Int) < (L.length : Int) := by omega
      have HF := Lib.hid (HNO.out fun j hj => HALL.out j hj (by omega))
      go_wp2_with fail
      go_ret
      exact ⟨ret_bool HF.out.symm, HBQ.out⟩
end Go.Proofs.Ytjmijedfmiplfaa

/- Paths read from their end. No program in it. -/
namespace Go.Proofs.Ytjmijedfmiplfaa

def isLR (x : UInt8) : Bool := decide (x = 76) || decide (x = 82)
def stB : List UInt8 → Int × Int
  | [] => (1, 1)
  | x :: l => if x = 76 then ((stB l).1, (stB l).2 + (stB l).1) else ((stB l).1 + (stB l).2, (stB l).2)
theorem st_pos : ∀ l, 1 ≤ (stB l).1 ∧ 1 ≤ (stB l).2
  | [] => by decide
  | x :: l => by
    have ih := st_pos l
    unfold stB
    split
    · show 1 ≤ (stB l).1 ∧ 1 ≤ (stB l).2 + (stB l).1
      omega
    · show 1 ≤ (stB l).1 + (stB l).2 ∧ 1 ≤ (stB l).2
      omega
theorem st_up (x : UInt8) (l : List UInt8) : (stB l).1 ≤ (stB (x :: l)).1 ∧ (stB l).2 ≤ (stB (x :: l)).2 := by
  have ih := st_pos l
  show _ ≤ (if x = 76 then ((stB l).1, (stB l).2 + (stB l).1) else ((stB l).1 + (stB l).2, (stB l).2)).1 ∧ _ ≤ (if x = 76 then ((stB l).1, (stB l).2 + (stB l).1) else ((stB l).1 + (stB l).2, (stB l).2)).2
  split
  · show (stB l).1 ≤ (stB l).1 ∧ (stB l).2 ≤ (stB l).2 + (stB l).1
    omega
  · show (stB l).1 ≤ (stB l).1 + (stB l).2 ∧ (stB l).2 ≤ (stB l).2
    omega
theorem st_drop (l : List UInt8) : ∀ k, (stB (l.drop k)).1 ≤ (stB l).1 ∧ (stB (l.drop k)).2 ≤ (stB l).2 := by
  induction l with
  | nil => intro k; rw [List.drop_nil]; exact ⟨Int.le_refl _, Int.le_refl _⟩
  | cons x l ih =>
    intro k
    match k with
    | 0 => exact ⟨Int.le_refl _, Int.le_refl _⟩
    | k + 1 =>
      have a := ih k
      have b := st_up x l
      rw [List.drop_succ_cons]
      omega
theorem fa_all (l : List UInt8) : ∀ (a b c d : Int), (∀ x ∈ l, isLR x = true) → 0 ≤ a → 0 ≤ b → 0 ≤ c → 0 ≤ d → a + c ≤ 1000000000 → b + d ≤ 1000000000 →
    faGo l a b c d = if a * (stB l).2 + c * (stB l).1 ≤ 1000000000 ∧ b * (stB l).2 + d * (stB l).1 ≤ 1000000000 then some (a * (stB l).2 + c * (stB l).1, b * (stB l).2 + d * (stB l).1) else none := by
  induction l with
  | nil =>
    intro a b c d _ ha hb hc hd h1 h2
    have e : ∀ x y : Int, x * (stB []).2 + y * (stB []).1 = x + y := fun x y => by
      show x * 1 + y * 1 = x + y
      omega
    rw [e, e, if_pos ⟨h1, h2⟩]
    rfl
  | cons x l ih =>
    intro a b c d hl ha hb hc hd h1 h2
    have hl2 : ∀ y ∈ l, isLR y = true := fun y hy => hl y (List.mem_cons_of_mem _ hy)
    have hp := st_pos l
    have up : ∀ y z : Int, 0 ≤ y → 0 ≤ z → y + z ≤ y * (stB l).2 + z * (stB l).1 := fun y z hy hz => by
      have a1 := Int.mul_le_mul_of_nonneg_left hp.2 hy
      have a2 := Int.mul_le_mul_of_nonneg_left hp.1 hz
      omega
    by_cases hx : x = 76
    · have e : ∀ y z : Int, y * (stB (x :: l)).2 + z * (stB (x :: l)).1 = y * (stB l).2 + (y + z) * (stB l).1 := fun y z => by
        have e1 : stB (x :: l) = ((stB l).1, (stB l).2 + (stB l).1) := if_pos hx
        rw [e1]
        show y * ((stB l).2 + (stB l).1) + z * (stB l).1 = _
        grind
      have eg : faGo (x :: l) a b c d = (if 1000000000 < a + (a + c) ∨ 1000000000 < b + (b + d) then none else faGo l a b (a + c) (b + d)) := if_pos hx
      rw [e, e, eg]
      have u1 := up a (a + c) ha (by omega)
      have u2 := up b (b + d) hb (by omega)
      by_cases hg : 1000000000 < a + (a + c) ∨ 1000000000 < b + (b + d)
      · rw [if_pos hg, if_neg (by omega)]
      · rw [if_neg hg]
        exact ih a b (a + c) (b + d) hl2 ha hb (by omega) (by omega) (by omega) (by omega)
    · have hx2 : x = 82 := by
        have := hl x List.mem_cons_self
        unfold isLR at this
        rw [Bool.or_eq_true, decide_eq_true_eq, decide_eq_true_eq] at this
        exact this.resolve_left hx
      have e : ∀ y z : Int, y * (stB (x :: l)).2 + z * (stB (x :: l)).1 = (y + z) * (stB l).2 + z * (stB l).1 := fun y z => by
        have e1 : stB (x :: l) = ((stB l).1 + (stB l).2, (stB l).2) := if_neg hx
        rw [e1]
        show y * (stB l).2 + z * ((stB l).1 + (stB l).2) = _
        grind
      have eg : faGo (x :: l) a b c d = (if 1000000000 < a + c + c ∨ 1000000000 < b + d + d then none else faGo l (a + c) (b + d) c d) := by
        show (if x = 76 then _ else if x = 82 then _ else none) = _
        rw [if_neg hx, if_pos hx2]
      rw [e, e, eg]
      have u1 := up (a + c) c (by omega) hc
      have u2 := up (b + d) d (by omega) hd
      by_cases hg : 1000000000 < a + c + c ∨ 1000000000 < b + d + d
      · rw [if_pos hg, if_neg (by omega)]
      · rw [if_neg hg]
        exact ih (a + c) (b + d) c d hl2 (by omega) (by omega) hc hd (by omega) (by omega)
theorem fa_bad (l : List UInt8) : ∀ (a b c d : Int), (∃ x ∈ l, isLR x = false) → faGo l a b c d = none := by
  induction l with
  | nil => rintro a b c d ⟨x, hx, _⟩; cases hx
  | cons x l ih =>
    rintro a b c d ⟨y, hy, hf⟩
    have rest : x = 76 ∨ x = 82 → ∃ y ∈ l, isLR y = false := fun hx => by
      rcases List.mem_cons.1 hy with e | h
      · subst e
        unfold isLR at hf
        rw [Bool.or_eq_false_iff, decide_eq_false_iff_not, decide_eq_false_iff_not] at hf
        exact absurd hx (fun h => h.elim hf.1 hf.2)
      · exact ⟨y, h, hf⟩
    show (if x = 76 then (if 1000000000 < a + (a + c) ∨ 1000000000 < b + (b + d) then none else faGo l a b (a + c) (b + d))
      else if x = 82 then (if 1000000000 < a + c + c ∨ 1000000000 < b + d + d then none else faGo l (a + c) (b + d) c d) else none) = none
    by_cases hx : x = 76
    · rw [if_pos hx]
      split
      · rfl
      · exact ih _ _ _ _ (rest (.inl hx))
    · rw [if_neg hx]
      by_cases hx2 : x = 82
      · rw [if_pos hx2]
        split
        · rfl
        · exact ih _ _ _ _ (rest (.inr hx2))
      · rw [if_neg hx2]
/-- all letters L or R, at most 400 -/
def isPathB (s : ByteArray) : Bool := s.data.toList.all isLR && decide (s.size ≤ 400)
theorem fa_no {s : ByteArray} (h : isPathB s = false) : faO s = none := by
  unfold faO
  split
  next hc =>
    rw [decide_eq_true_eq] at hc
    unfold isPathB at h
    rw [decide_eq_true hc, Bool.and_true, List.all_eq_false] at h
    obtain ⟨x, hx, hf⟩ := h
    exact fa_bad _ _ _ _ _ ⟨x, hx, by simpa using hf⟩
  · rfl
theorem fa_yes {s : ByteArray} (h : isPathB s = true) : faO s = if (stB s.data.toList).1 ≤ 1000000000 ∧ (stB s.data.toList).2 ≤ 1000000000 then some (stB s.data.toList) else none := by
  unfold isPathB at h
  rw [Bool.and_eq_true] at h
  have e : faO s = faGo s.data.toList 0 1 1 0 := if_pos h.2
  rw [e, fa_all _ _ _ _ _ (List.all_eq_true.1 h.1) (by decide) (by decide) (by decide) (by decide) (by decide) (by decide)]
  have e1 : (0 : Int) * (stB s.data.toList).2 + 1 * (stB s.data.toList).1 = (stB s.data.toList).1 := by grind
  have e2 : (1 : Int) * (stB s.data.toList).2 + 0 * (stB s.data.toList).1 = (stB s.data.toList).2 := by grind
  rw [e1, e2]
end Go.Proofs.Ytjmijedfmiplfaa
