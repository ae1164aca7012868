/- Texts put together. -/
import Derived.Test.YtnejalefpenbfaaMgA15
import Derived.Test.YtnejalefpenbfaaMgA22
import Derived.Test.YtnejalefpenbfaaMgA20
import Derived.Laws.Cover1
import Derived.Lib.OthersKept
import Derived.Test.YtnejalefpenbfaaMgA16
import Derived.Test.YtnejalefpenbfaaMgA21
import Derived.BigQuiet
import Derived.Test.YtnejalefpenbfaaMgA14
/- Chapter 10 of the model: IsPrimitiveWord, LeastShift, IsLyndon, LyndonParts, AreConjugate. Conditions: lengths of at most 2^20. -/
namespace Go.Proofs.Ytnejalefpenbfaa
open Go.RowKit Go.Lib

theorem prm_eq (s : ByteArray) : prmR s = (rtK s == 1) := rfl
theorem empty_is {s : ByteArray} (h : s.size = 0) : s.toList.isEmpty = true := by
  rw [ByteArray.toList_eq]
  cases e : s.data.toList with
  | nil => rfl
  | cons a l => have hl : s.data.toList.length = s.size := by simp
                rw [e, h] at hl; cases hl
theorem empty_no {s : ByteArray} (h : 1 ≤ s.size) : s.toList.isEmpty = false := by
  rw [ByteArray.toList_eq]
  cases e : s.data.toList with
  | nil => have hl : s.data.toList.length = s.size := by simp
           rw [e] at hl; simp at hl; omega
  | cons a l => rfl

/-- the three ways of two texts: before; behind; the same -/
theorem bl_three (a b : List UInt8) : (Op.bytesLess a b = true ∧ Op.bytesLess b a = false ∧ (b == a) = false) ∨ (Op.bytesLess a b = false ∧ Op.bytesLess b a = true ∧ (b == a) = false) ∨ (Op.bytesLess a b = false ∧ Op.bytesLess b a = false ∧ (b == a) = true) := by
  by_cases e : b = a
  · subst e
    exact .inr (.inr ⟨bl_self b, bl_self b, by simp⟩)
  · have e2 : (b == a) = false := by rw [beq_eq_false_iff_ne]; exact e
    cases h : Op.bytesLess a b
    · refine .inr (.inl ⟨rfl, ?_, e2⟩)
      cases h2 : Op.bytesLess b a
      · rcases bl_tri a b with x | x | x
        · rw [h] at x; cases x
        · exact absurd x.symm e
        · rw [h2] at x; cases x
      · rfl
    · refine .inl ⟨rfl, ?_, e2⟩
      cases h2 : Op.bytesLess b a
      · rfl
      · exact (bl_asym h h2).elim
theorem lyn_no {s : ByteArray} {k : Nat} (h1 : 1 ≤ k) (h2 : k < s.size) (h : lessB s (rotS s k) = false) : lyB s = false := by
  cases hx : lyB s
  · rfl
  · have := ((lyB_iff s).1 hx).2 k h1 h2
    rw [h] at this
    cases this

theorem lyP_le (s : ByteArray) : (lyP s).length ≤ 400 := by
  unfold lyP
  split
  · rename_i h
    have := lyTo_few s s.size 0
    have := word_size h
    omega
  · simp
theorem lyTo_step {s : ByteArray} {i f : Nat} (h : i < s.size) : lyTo s i (f + 1) = s.extract i (i + lyLen s i (s.size - i)) :: lyTo s (i + lyLen s i (s.size - i)) f := if_pos h
/-- what is found so far, then the rest -/
def PartsTo (s : ByteArray) (i : Nat) (l : List ByteArray) : Prop := ∀ f, s.size ≤ i + f → l ++ lyTo s i f = lyTo s 0 s.size
theorem lyTo_more (s : ByteArray) : ∀ f i, s.size ≤ i + f → lyTo s i (f + 1) = lyTo s i f
  | 0, i, h => by
    show (if i < s.size then _ else _) = _
    rw [if_neg (by omega)]
    rfl
  | f + 1, i, h => by
    by_cases hi : i < s.size
    · rw [lyTo_step hi, lyTo_step hi]
      have := lyLen_pos hi
      rw [lyTo_more s f _ (by omega)]
    · show (if i < s.size then _ else _) = if i < s.size then _ else _
      rw [if_neg hi, if_neg hi]
theorem lyTo_any (s : ByteArray) {f i : Nat} (h : s.size ≤ i + f) : ∀ k, lyTo s i (f + k) = lyTo s i f
  | 0 => rfl
  | k + 1 => by rw [← lyTo_any s h k, ← Nat.add_assoc]; exact lyTo_more s (f + k) i (by omega)
theorem parts_start (s : ByteArray) : PartsTo s 0 [] := fun f hf => by
  rw [List.nil_append]
  have := lyTo_any s (f := s.size) (i := 0) (by omega) (f - s.size)
  rwa [show s.size + (f - s.size) = f by omega] at this
theorem parts_next {s : ByteArray} {i : Nat} {l : List ByteArray} (h : PartsTo s i l) (hi : i < s.size) : PartsTo s (i + lyLen s i (s.size - i)) (l ++ [s.extract i (i + lyLen s i (s.size - i))]) := fun f hf => by
  rw [← lyTo_any s hf s.size, List.append_assoc, List.singleton_append, ← lyTo_step hi]
  exact h (f + s.size + 1) (by omega)
theorem parts_end {s : ByteArray} {i : Nat} {l : List ByteArray} (h : PartsTo s i l) (hi : s.size ≤ i) : l = lyTo s 0 s.size := by
  have := h 0 (by omega)
  rwa [show lyTo s i 0 = [] from rfl, List.append_nil] at this
theorem lyLen_yes {s : ByteArray} {i n : Nat} (hn : lyB (s.extract i (i + (n + 1))) = true) : lyLen s i (n + 1) = n + 1 := if_pos hn
theorem lyLen_no {s : ByteArray} {i n : Nat} (hn : lyB (s.extract i (i + (n + 1))) = false) : lyLen s i (n + 1) = lyLen s i n := if_neg (by rw [hn]; decide)

theorem cj_no (s t : ByteArray) (h : wordB s = false ∨ wordB t = false ∨ s.size ≠ t.size) : cjR s t = false := by
  unfold cjR
  rcases h with h | h | h
  · rw [h]; rfl
  · rw [h, Bool.false_and, Bool.and_false]
  · rw [decide_eq_false h, Bool.false_and, Bool.and_false, Bool.and_false]

end Go.Proofs.Ytnejalefpenbfaa

/- The program's SlopesOf. Condition: a text of at most 2^20 bytes. -/
namespace Go.Proofs.Ytnejalefpenbfaa
open Go.RowKit Go.Lib

def ratC (f : Nat → Int × Int) (k : Nat) : List Value := (List.range k).flatMap fun j => [.int .i64 (f j).1, .int .i64 (f j).2]
theorem ratC_next (f : Nat → Int × Int) (k : Nat) : ratC f (k + 1) = ratC f k ++ [.int .i64 (f k).1, .int .i64 (f k).2] := by
  unfold ratC
  rw [List.range_succ, List.flatMap_append]
  simp
theorem ratC_len (f : Nat → Int × Int) : ∀ k, (ratC f k).length = k * 2
  | 0 => rfl
  | k + 1 => by rw [ratC_next, List.length_append, ratC_len f k, Nat.succ_mul]; rfl
theorem ratC_at (f : Nat → Int × Int) : ∀ k j, j < k → (ratC f k)[j * 2]? = some (.int .i64 (f j).1) ∧ (ratC f k)[j * 2 + 1]? = some (.int .i64 (f j).2)
  | 0, j, h => absurd h (by omega)
  | k + 1, j, h => by
    have hl := ratC_len f k
    rw [ratC_next]
    by_cases e : j = k
    · subst e
      rw [List.getElem?_append_right (by omega), List.getElem?_append_right (by omega), hl, Nat.sub_self, Nat.add_sub_cancel_left]
      exact ⟨rfl, rfl⟩
    · have := ratC_at f k j (by omega)
      rw [List.getElem?_append_left (by omega), List.getElem?_append_left (by omega)]
      exact this
theorem wpList_append2 {P : Program} (w : World) {ops : Array Oper} {rest : List Oper} {o : Oper} {a : Act} {Q : Exit → Act → World → Prop} (hgd : o.guard = none) (s x : Operand) (t : TypeId)
    (ho : o.op = .call { callee := .builtin .append, args := #[s, x], argTypes := #[t, t] })
    (base : Nat) (e : TypeId) (i : TypeInfo) (z : Value) (bytes : Nat) (ht : P.underlying t = some (.slice e)) (hi : P.info? e = some i) (hz : i.zero = some z)
    (hsize : i.size = 2) (hby : i.bytes = bytes) (hzs : z.cells.size = 2)
    (v : Value) (n : Nat) (xs : List Value) (hs : a.eval s = v) (hown : w.ownsRow base e 2 v n xs)
    (y1 y2 : Value) (hy1 : y1.oneCell' = true) (hy2 : y2.oneCell' = true) (hx : a.eval x = .slice (some ⟨w.heap.size, 0, none⟩) 1 1)
    (h63 : n + 1 ≤ maxLen) (hbytes : (n + 1) * bytes ≤ 140737488355328) (hbase : base ≤ w.heap.size)
    (h : ∀ v' w', w'.ownsRow base e 2 v' (n + 1) (xs ++ [y1, y2]) → w.grownBy w' v.ownBlock → (v'.ownBlock = v.ownBlock ∨ v'.ownBlock = some (w.heap.size + 1)) → wpList P ops Q rest (a.put o.dst v') w') :
    wpList P ops Q (o :: rest) a (w.alloc (.cells #[y1, y2] e)) := by
  refine wpList_append_own_at _ hgd s x t ho base e i z 2 bytes ht hi hz hsize hby hzs (by decide) v n xs hs (hown.alloc _) ⟨w.heap.size, 0, none⟩ 1 1 [y1, y2] hx rfl ?_ ?_ h63 hbytes (by simp; omega) ?_
  · intro j u hu
    rcases j with _ | _ | j
    · simp at hu
      subst hu
      rw [Addr.add_lit, World.cell?_alloc_at _ _ _ _ (by simp)]
      rfl
    · simp at hu
      subst hu
      rw [Addr.add_lit, World.cell?_alloc_at _ _ _ _ (by simp)]
      rfl
    · simp at hu
  · intro u hu
    simp at hu
    rcases hu with rfl | rfl
    · exact hy1
    · exact hy2
  · intro v' w' h1 h2 _ h4
    simp only [World.size_alloc] at h4
    exact h v' w' h1 (grown_trans (World.grownBy_alloc _ _ _) h2) h4
/-- two rows that lie apart -/
def Parted (u v : Value) : Prop := ∀ k, u.ownBlock = some k → v.ownBlock = some k → False
theorem Parted.next {u v v' : Value} {w : World} (h : Parted u v) (hu : ∀ k, u.ownBlock = some k → k < w.heap.size + 1) (h2 : v'.ownBlock = v.ownBlock ∨ v'.ownBlock = some (w.heap.size + 1)) : Parted u v' := by
  intro k h3 h4
  rcases h2 with e | e
  · exact h k h3 (by rw [← e]; exact h4)
  · rw [e] at h4
    injection h4 with h4
    have := hu k h3
    omega
theorem Parted.symm {u v : Value} (h : Parted u v) : Parted v u := fun k a b => h k b a
theorem own_some2 {w : World} {B : Nat} {e : TypeId} {v : Value} {n : Nat} {xs : List Value} (h : w.ownsRow B e 2 v n xs) (hn : 0 < n) : ∃ g cap, v = .slice (some ⟨g, 0, none⟩) n cap := by
  rcases h.2 with ⟨_, h'⟩ | ⟨g, cap, cur, h', _⟩
  · omega
  · exact ⟨g, cap, h'⟩
theorem own_rats {w : World} {B : Nat} {e : TypeId} {g n cap : Nat} {f : Nat → Int × Int} (h : w.ownsRow B e 2 (.slice (some ⟨g, 0, none⟩) n cap) n (ratC f n)) : Rats w g n f := fun j hj => by
  obtain ⟨a, b⟩ := ratC_at f n j hj
  exact ⟨(h.cellAt (j * 2) (by omega)).trans a, (h.cellAt (j * 2 + 1) (by omega)).trans b⟩
theorem rat_info : (Try.prog.info? 46).map (fun i => (i.zero, i.size, i.bytes)) = some (some (.agg #[.int .i64 0, .int .i64 0]), 2, 16) := by kernel_rfl
theorem below_grown {base : Nat} {w0 w w' : World} {v : Value} (h : Below base w0 w) (hg : w.grownBy w' v.ownBlock) (hv : ∀ k, v.ownBlock = some k → base ≤ k) (hb : base ≤ w.heap.size) : Below base w0 w' :=
  h.grown hg hb hv

set_option maxRecDepth 100000 in
set_option maxHeartbeats 2000000 in
theorem implSlopesOf (s : ByteArray) (w : World) (hs : s.size ≤ 1048576) :
    Calls Try.prog 22 #[.string s] w fun e w' => e = .returned (.tuple #[.int .i64 (slR s).1, .int .i64 (slR s).2.1, .int .i64 (slR s).2.2.1, .int .i64 (slR s).2.2.2]) ∧ Below w.heap.size w w' := by
  have HBI := Lib.hid (fun w => implIsBinary s w hs)
  cases hb : binB s
  · have HV : Hid (slR s = (0, 0, 0, 0)) := if_neg (by unfold slOk; rw [hb, Bool.false_and]; decide)
    rw [hb] at HBI
    clear hb
    generalize slR s = r at *
    go_enter Try.func22, Try.ntmps22
    go_wp2_with fail
    refine (HBI.out _).mono ?_
    rintro e w' ⟨rfl, hb1⟩
    have HB1 := Lib.hid hb1
    clear hb1
    go_wp2_with fail
    refine bodyPost_ret (results_tmp4 rfl _ _ _) rfl ?_
    exact ⟨by rw [HV.out]; rfl, HB1.out⟩
  rw [hb] at HBI
  by_cases h0 : s.size = 0
  · have HV : Hid (slR s = (0, 0, 0, 0)) := if_neg (by unfold slOk; rw [decide_eq_false (show ¬ (1 : Int) ≤ s.size by omega), Bool.false_and, Bool.and_false]; decide)
    have hem : s.toList.isEmpty = true := empty_is h0
    clear hb h0
    generalize slR s = r at *
    go_enter Try.func22, Try.ntmps22
    go_wp2_with fail
    refine (HBI.out _).mono ?_
    rintro e w' ⟨rfl, hb1⟩
    have HB1 := Lib.hid hb1
    clear hb1
    go_wp2_with fail
    refine bodyPost_ret (results_tmp4 rfl _ _ _) rfl ?_
    exact ⟨by rw [HV.out]; rfl, HB1.out⟩
  have hem : s.toList.isEmpty = false := empty_no (by omega)
  by_cases h60 : 60 < s.size
  · have HV : Hid (slR s = (0, 0, 0, 0)) := if_neg (by unfold slOk; rw [decide_eq_false (show ¬ (s.size : Int) ≤ 60 by omega), Bool.and_false, Bool.and_false]; decide)
    have g60 : (60 : Int) < (s.size : Int) := by omega
    clear hb
    generalize slR s = r at *
    go_enter Try.func22, Try.ntmps22
    go_wp2_with fail
    refine (HBI.out _).mono ?_
    rintro e w' ⟨rfl, hb1⟩
    have HB1 := Lib.hid hb1
    clear hb1
    go_wp2_with fail
    refine bodyPost_ret (results_tmp4 rfl _ _ _) rfl ?_
    exact ⟨by rw [HV.out]; rfl, HB1.out⟩
  have g60 : ¬ (60 : Int) < (s.size : Int) := by omega
  obtain ⟨K, hK⟩ : ∃ K, s.size = K + 1 := ⟨s.size - 1, by omega⟩
  have hok : slOk s = true := by unfold slOk; rw [hb, decide_eq_true (show (1 : Int) ≤ s.size by omega), decide_eq_true (show (s.size : Int) ≤ 60 by omega)]; rfl
  have HV := Lib.hid (slR_pick hok hK)
  have HSP := Lib.hid (fun k w (h : 1 ≤ k ∧ k ≤ s.size) => implSpread s k w hb h)
  have HLE : Hid (∀ k, lwN s k ≤ k ∧ hgN s k ≤ k) := fun k => sp_le s k _
  have HLF : Hid (∀ k, loF s k = ((hgN s (k + 1) : Int) - 1, ((k + 1 : Nat) : Int))) := fun k => rfl
  have HUF : Hid (∀ k, upF s k = ((lwN s (k + 1) : Int) + 1, ((k + 1 : Nat) : Int))) := fun k => rfl
  have HSL : Hid (Smalls s.size (loF s)) := fun j hj => by
    have h1 := (HLE.out (j + 1)).2
    rw [HLF.out]
    dsimp only
    omega
  have HSU : Hid (Smalls s.size (upF s)) := fun j hj => by
    have h1 := (HLE.out (j + 1)).1
    rw [HUF.out]
    dsimp only
    omega
  obtain ⟨i0, hi0, hz0, hz1, hz2⟩ := info_parts rat_info
  have HK := Lib.hid hK
  clear hb hok hK
  generalize slR s = r at *
  generalize loF s = lf at *
  generalize upF s = uf at *
  generalize lwN s = lo at *
  generalize hgN s = hi at *
  go_enter Try.func22, Try.ntmps22
  go_wp2_with fail
  refine (HBI.out _).mono ?_
  rintro e w1 ⟨rfl, hb1⟩
  have HB1 := Lib.hid hb1
  clear hb1
  go_wp2_with fail
  go_loopw [6, 7, 28] (fun lv uv iv w' => ∃ k : Nat, k ≤ s.size ∧ iv = .int .i64 (k : Int) ∧ (∃ A cp, lv = .slice A k cp) ∧ (∃ A cp, uv = .slice A k cp) ∧ w'.ownsRow w.heap.size 46 2 lv k (ratC lf k) ∧ w'.ownsRow w.heap.size 46 2 uv k (ratC uf k) ∧ Parted lv uv ∧ Below w.heap.size w w') (fun _ _ iv _ => s.size - (intOf iv).toNat)
  case atStart => exact ⟨0, Nat.zero_le _, rfl, ⟨_, _, rfl⟩, ⟨_, _, rfl⟩, World.ownsRow_nil _ _ _ _, World.ownsRow_nil _ _ _ _, fun k h => (by cases h), HB1.out⟩
  case round =>
    obtain ⟨k, hk, rfl, ⟨A1, cp1, rfl⟩, ⟨A2, cp2, rfl⟩, ho1, ho2, hpt, hbw⟩ := hrel
    have HO1 := Lib.hid ho1
    have HO2 := Lib.hid ho2
    have HPT := Lib.hid hpt
    have HBW := Lib.hid hbw
    have hwz := hbw.size
    clear ho1 ho2 hpt hbw
    by_cases hlt : k < s.size
    · have hlt' : (k : Int) < (s.size : Int) := by omega
      have HS := Lib.hid (fun w => HSP.out (k + 1) w ⟨by omega, by omega⟩)
      have hle := HLE.out (k + 1)
      have HL1 := Lib.hid (HLF.out k)
      have HU1 := Lib.hid (HUF.out k)
      rw [show ((k + 1 : Nat) : Int) = (k : Int) + 1 from rfl] at HS HL1 HU1
      generalize lo (k + 1) = x at *
      generalize hi (k + 1) = y at *
      go_wp2_with fail
      refine (HS.out _).mono ?_
      rintro e w2 ⟨rfl, m, rfl⟩
      have HO3 := Lib.hid (show (wr.drewN m).ownsRow w.heap.size 46 2 (.slice A1 k cp1) k (ratC lf k) from HO1.out)
      have HO4 := Lib.hid (show (wr.drewN m).ownsRow w.heap.size 46 2 (.slice A2 k cp2) k (ratC uf k) from HO2.out)
      have HB3 := Lib.hid (below_drewN HBW.out m)
      have hz3 : w.heap.size ≤ (wr.drewN m).heap.size := hwz
      generalize wr.drewN m = w3 at *
      go_wp2_with (first
        | (at_builtin
           refine wpList_append2 w3 rfl (.tmp 39) (.tmp 44) _ rfl w.heap.size 46 i0 _ 16 Try.underlying44 hi0 hz0 hz1 hz2 rfl (.slice A1 k cp1) k _ rfl HO3.out (.int .i64 ((y : Int) - 1)) (.int .i64 ((k : Int) + 1)) rfl rfl rfl (by unfold maxLen; omega) (by omega) hz3 ?_
           intro v4 w4 hown4 hg4 hb4
           have HP4 := Lib.hid (HPT.out.symm.next (w := w3) (fun q hq => by have := (HO4.out.lt q hq).2; omega) hb4).symm
           have HU4 := Lib.hid (own_apart HO4.out hg4 (fun q h1 h2 => HPT.out q h2 h1))
           have HB4 := Lib.hid (HB3.out.grown hg4 hz3 (fun q hq => (HO3.out.lt q hq).1))
           have hz4 : w.heap.size ≤ w4.heap.size := HB4.out.size
           have ho4 : w4.ownsRow w.heap.size 46 2 v4 (k + 1) (ratC lf (k + 1)) := by rw [ratC_next, HL1.out]; exact hown4
           have HO5 := Lib.hid ho4
           obtain ⟨A4, cp4, rfl⟩ := own_slice ho4
           clear hown4 hg4 hb4 ho4)
        | (at_builtin
           refine wpList_append2 w4 rfl (.tmp 46) (.tmp 51) _ rfl w.heap.size 46 i0 _ 16 Try.underlying44 hi0 hz0 hz1 hz2 rfl (.slice A2 k cp2) k _ rfl HU4.out (.int .i64 ((x : Int) + 1)) (.int .i64 ((k : Int) + 1)) rfl rfl rfl (by unfold maxLen; omega) (by omega) hz4 ?_
           intro v5 w5 hown5 hg5 hb5
           have HP5 := Lib.hid (HP4.out.next (w := w4) (fun q hq => by have := (HO5.out.lt q hq).2; omega) hb5)
           have HO6 := Lib.hid (own_apart HO5.out hg5 (fun q h1 h2 => HP4.out q h1 h2))
           have HB5 := Lib.hid (HB4.out.grown hg5 hz4 (fun q hq => (HU4.out.lt q hq).1))
           have ho5 : w5.ownsRow w.heap.size 46 2 v5 (k + 1) (ratC uf (k + 1)) := by rw [ratC_next, HU1.out]; exact hown5
           have HU6 := Lib.hid ho5
           obtain ⟨A5, cp5, rfl⟩ := own_slice ho5
           clear hown5 hg5 hb5 ho5))
      go_roundw
      case rel => exact ⟨k + 1, by omega, by go_num, ⟨_, _, rfl⟩, ⟨_, _, rfl⟩, HO6.out, HU6.out, HP5.out, HB5.out⟩
      case measure => simp [intOf]; omega
    · have hke : k = s.size := by omega
      have hlt' : ¬ (k : Int) < (s.size : Int) := by omega
      have hkp : 0 < k := by have := HK.out; omega
      have hKk : k - 1 = K := by have := HK.out; omega
      have hk60 : k ≤ 60 := by omega
      rw [← hke] at HSL HSU
      obtain ⟨g1, c1, e1⟩ := own_some2 HO1.out hkp
      obtain ⟨g2, c2, e2⟩ := own_some2 HO2.out hkp
      rw [e1] at HO1
      rw [e2] at HO2
      injection e1 with e1 _ e3
      injection e2 with e2 _ e4
      subst e1
      subst e2
      subst e3
      subst e4
      have HM := Lib.hid (fun w' hb => implMaxFunc lf g1 k cp1 w' ⟨hkp, by omega⟩ ((own_rats HO1.out).below (HO1.out.lt g1 rfl).2 hb) HSL.out)
      have HN := Lib.hid (fun w' hb => implMinFunc uf g2 k cp2 w' ⟨hkp, by omega⟩ ((own_rats HO2.out).below (HO2.out.lt g2 rfl).2 hb) HSU.out)
      rw [hKk] at HM HN
      have HR := Lib.hid HV.out
      generalize mxTo lf K = p at *
      generalize mnTo uf K = q at *
      obtain ⟨p1, p2⟩ := p
      obtain ⟨q1, q2⟩ := q
      clear hke hkp hKk
      go_wp2_with fail
      refine (HM.out _ (Below.refl _ _)).mono ?_
      rintro e w2 ⟨rfl, hb2⟩
      have HB2 := Lib.hid hb2
      clear hb2
      go_wp2_with fail
      refine (HN.out _ HB2.out).mono ?_
      rintro e w3 ⟨rfl, hb3⟩
      have HB3 := Lib.hid (HBW.out.trans ((HB2.out.trans (hb3.mono HB2.out.size)).mono hwz))
      clear hb3
      unfold ratA
      go_wp2_with fail
      go_quiet (fail)
      go_wp2_with fail
      refine bodyPost_ret (results_tmp4 rfl _ _ _) rfl ?_
      exact ⟨by rw [HR.out]; rfl, below_drewN ((HB3.out.alloc HB3.out.size _).alloc (by have := HB3.out.size; simp; omega) _) _⟩
end Go.Proofs.Ytnejalefpenbfaa

/- The program's commonDivisor, countLyndon and CountLyndon. Conditions: commonDivisor: numbers from 0 to 2^20; countLyndon: 1 to 4 letters, lengths 1 to 12. -/
namespace Go.Proofs.Ytnejalefpenbfaa
open Go.RowKit Go.Lib

set_option maxHeartbeats 1000000 in
theorem implDivisor (a b : Nat) (w : World) (ha : a ≤ 1048576) (hb : b ≤ 1048576) :
    Calls Try.prog 36 #[.int .i64 (a : Int), .int .i64 (b : Int)] w fun e w' => e = .returned (.int .i64 (Nat.gcd a b : Int)) ∧ ∃ n, w' = w.drewN n := by
  have HG : Hid (Nat.gcd a b = Nat.gcd a b) := rfl
  generalize hg : Nat.gcd a b = g at *
  have HGG := Lib.hid hg
  clear hg HG
  go_enter Try.func36, Try.ntmps36
  go_wp2_with fail
  go_loopw [0, 1] (fun x y w' => ∃ p q : Nat, p ≤ 1048576 ∧ q ≤ 1048576 ∧ x = .int .i64 (p : Int) ∧ y = .int .i64 (q : Int) ∧ Nat.gcd p q = g ∧ ∃ n, w' = w.drewN n) (fun _ y _ => (intOf y).toNat)
  case atStart => exact ⟨a, b, ha, hb, rfl, rfl, HGG.out, 0, rfl⟩
  case round =>
    obtain ⟨p, q, hp, hq, rfl, rfl, hpq, n, rfl⟩ := hrel
    have HPQ := Lib.hid hpq
    clear hpq
    by_cases h0 : 0 < q
    · have hq0 : ¬ q = 0 := by omega
      have hq1 : (0 : Int) < (q : Int) := by omega
      have hq2 : ¬ (q : Int) = 0 := by omega
      have hmod : p % q < q := Nat.mod_lt _ h0
      have HM : Hid ((p : Int) % (q : Int) = ((p % q : Nat) : Int)) := by show _ = _; omega
      have htm : (p : Int).tmod (q : Int) = ((p % q : Nat) : Int) := by rw [Int.tmod_eq_emod_of_nonneg (by omega)]; exact HM.out
      generalize hr : p % q = r at hmod HM htm
      have HRR := Lib.hid hr
      clear hr
      go_wp2_with fail
      go_quiet (fail)
      go_wp2_with fail
      go_roundw
      case rel => exact ⟨q, r, hq, by omega, rfl, by first | rfl | rw [HM.out], by rw [← HRR.out, Nat.gcd_comm, ← Nat.gcd_rec, Nat.gcd_comm]; exact HPQ.out, _, by first | rfl | exact World.drewN_drewN _ _ _⟩
      case measure => simp only [intOf]; omega
    · have hq0 : q = 0 := by omega
      subst hq0
      have HE : Hid (p = g) := by show _ = _; have := HPQ.out; rwa [Nat.gcd_zero_right] at this
      go_wp2_with fail
      go_ret
      exact ⟨by rw [HE.out]; rfl, _, rfl⟩

/-! ### countLyndon, reckoned for small numbers -/
/-- the words of n letters that are left when those of the periods up to j are taken away -/
def clW (L n j : Nat) : Int := ((L : Nat) : Int) ^ n - prSum (prT L (n - 1)) n j
def clV (L n : Nat) : Int := ((prT L n).getD n 0).tdiv n
theorem cq_zero (L n : Nat) : clW L n 0 = ((L ^ n : Nat) : Int) := by
  unfold clW prSum
  rw [Int.natCast_pow]
  omega
theorem cq_range : ∀ L ∈ [1, 2, 3, 4], ∀ n ∈ List.range 13, ∀ j ∈ List.range 7, (0 ≤ clW L n j ∧ clW L n j ≤ 16777216) ∧ (0 ≤ clV L n ∧ clV L n ≤ 16777216) := by decide +kernel
theorem cq_step : ∀ L ∈ [1, 2, 3, 4], ∀ n ∈ List.range 13, ∀ j ∈ List.range 7, 1 ≤ n → j < n / 2 → clW L n (j + 1) = (if n % (j + 1) = 0 then clW L n j - ((j + 1 : Nat) : Int) * clV L (j + 1) else clW L n j) ∧ 0 ≤ ((j + 1 : Nat) : Int) * clV L (j + 1) ∧ ((j + 1 : Nat) : Int) * clV L (j + 1) ≤ 16777216 := by decide +kernel
theorem cq_end : ∀ L ∈ [1, 2, 3, 4], ∀ n ∈ List.range 13, 1 ≤ n → (clW L n (n / 2)).tdiv n = clV L n := by decide +kernel

end Go.Proofs.Ytnejalefpenbfaa

/- The program's countCoprime, CountBalanced. Condition: countCoprime: numbers from 0 to 20. -/
namespace Go.Proofs.Ytnejalefpenbfaa
open Go.RowKit Go.Lib

set_option maxRecDepth 100000 in
set_option maxHeartbeats 1000000 in
theorem implCoprime (n : Nat) (w : World) (hn : n ≤ 20) :
    Calls Try.prog 40 #[.int .i64 (n : Int)] w fun e w' => e = .returned (.int .i64 (phN n : Int)) ∧ ∃ m, w' = w.drewN m := by
  have HV : Hid (phN n = phTo n n) := rfl
  have HLE := Lib.hid (phTo_le n)
  have HPN : Hid (∀ j, (Nat.gcd (j + 1) n = 1 → phTo n (j + 1) = phTo n j + 1) ∧ (Nat.gcd (j + 1) n ≠ 1 → phTo n (j + 1) = phTo n j)) := fun j =>
    ⟨fun h => by show phTo n j + (if _ then 1 else 0) = _; rw [if_pos (by rw [Nat.gcd_comm]; exact h)], fun h => by show phTo n j + (if _ then 1 else 0) = _; rw [if_neg (by rw [Nat.gcd_comm]; exact h)]; rfl⟩
  have HP0 : Hid (phTo n 0 = 0) := rfl
  have HG := Lib.hid (fun j w (h1 : j ≤ 20) => implDivisor j n w (by omega) (by omega))
  generalize phN n = r at *
  generalize phTo n = P at *
  generalize hgg : Nat.gcd = G at *
  clear hgg
  go_enter Try.func40, Try.ntmps40
  go_wp2_with fail
  go_loopw [3, 6] (fun cv jv w' => ∃ (j c : Nat), j ≤ n ∧ c = P j ∧ cv = .int .i64 (c : Int) ∧ jv = .int .i64 (j : Int) ∧ ∃ m, w' = w.drewN m) (fun _ jv _ => n - (intOf jv).toNat)
  case atStart => exact ⟨0, 0, Nat.zero_le _, HP0.out.symm, rfl, rfl, 0, rfl⟩
  case round =>
    obtain ⟨j, c, hj, hc, rfl, rfl, m, hm⟩ := hrel
    have hcb : c ≤ j := by rw [hc]; exact HLE.out _
    have HC := Lib.hid hc
    have HM := Lib.hid hm
    clear hc hm
    by_cases hjl : j < n
    · have hjl' : (j : Int) < (n : Int) := by omega
      have HGC := Lib.hid (fun w => HG.out (j + 1) w (by omega))
      have HN := Lib.hid (HPN.out j)
      rw [← HC.out] at HN
      rw [show ((j + 1 : Nat) : Int) = (j : Int) + 1 from rfl] at HGC
      generalize G (j + 1) n = g at *
      by_cases hg : g = 1
      · have dg : ((g : Int) == 1) = true := by rw [beq_iff_eq]; omega
        have HN1 := Lib.hid (HN.out.1 hg)
        clear hg HN
        go_wp2_with fail
        refine (HGC.out _).mono ?_
        rintro e w' ⟨rfl, m2, rfl⟩
        go_wp2_with fail
        go_roundw
        case rel => exact ⟨j + 1, c + 1, by omega, HN1.out.symm, by go_num, by go_num, m + m2, by rw [HM.out]; exact World.drewN_drewN _ _ _⟩
        case measure => simp [intOf]; omega
      · have dg : ((g : Int) == 1) = false := by rw [beq_eq_false_iff_ne]; omega
        have HN1 := Lib.hid (HN.out.2 hg)
        clear HN
        go_wp2_with fail
        refine (HGC.out _).mono ?_
        rintro e w' ⟨rfl, m2, rfl⟩
        go_wp2_with fail
        go_roundw
        case rel => exact ⟨j + 1, c, by omega, HN1.out.symm, rfl, by go_num, m + m2, by rw [HM.out]; exact World.drewN_drewN _ _ _⟩
        case measure => simp [intOf]; omega
    · have hje : j = n := by omega
      have hjl' : ¬ (j : Int) < (n : Int) := by omega
      have HR : Hid ((c : Int) = r) := by show _ = _; rw [HV.out, HC.out, hje]
      clear hje
      go_wp2_with fail
      go_ret
      exact ⟨ret_int HR.out, m, HM.out⟩

set_option maxRecDepth 100000 in
set_option maxHeartbeats 1000000 in
theorem implCountBalanced (n : Int) (w : World) :
    Calls Try.prog 24 #[.int .i64 n] w fun e w' => e = .returned (.int .i64 (bcR n)) ∧ Below w.heap.size w w' := by
  by_cases hok : 0 ≤ n ∧ n ≤ 12
  · have HV : Hid (bcR n = (bcTo n.toNat n.toNat : Int)) := if_pos (by unfold bcOk; rw [decide_eq_true hok.1, decide_eq_true hok.2]; rfl)
    obtain ⟨n, rfl⟩ : ∃ m : Nat, n = m := ⟨n.toNat, by omega⟩
    rw [Int.toNat_natCast] at HV
    have hn : n ≤ 12 := by omega
    have g1 : ¬ (n : Int) < 0 := by omega
    have g2 : ¬ (12 : Int) < (n : Int) := by omega
    have HLE := Lib.hid (fun k (h : k ≤ n) => bcTo_le hn k h)
    have HNX : Hid (∀ k, k < n → bcTo n (k + 1) = bcTo n k + (n - k) * phN (k + 1)) := fun k hk => by
      show bcTo n k + (n - (k + 1) + 1) * phN (k + 1) = _
      rw [show n - (k + 1) + 1 = n - k by omega]
    have H0 : Hid (bcTo n 0 = 1) := rfl
    have HPL : Hid (∀ i, phN i ≤ i) := fun i => phTo_le i i
    have HC := Lib.hid (fun k w (h : k ≤ 20) => implCoprime k w h)
    clear hok
    generalize bcR (n : Int) = r at *
    generalize bcTo n = T at *
    generalize phN = P at *
    go_enter Try.func24, Try.ntmps24
    go_wp2_with fail
    go_loopw [3, 12] (fun sv iv w' => ∃ (k a : Nat), k ≤ n ∧ a = T k ∧ sv = .int .i64 (a : Int) ∧ iv = .int .i64 (k : Int) ∧ ∃ m, w' = w.drewN m) (fun _ iv _ => n - (intOf iv).toNat)
    case atStart => exact ⟨0, 1, Nat.zero_le _, H0.out.symm, rfl, rfl, 0, rfl⟩
    case round =>
      obtain ⟨k, a, hk, ha, rfl, rfl, m, hm⟩ := hrel
      have hab : a ≤ 1 + k * 144 := by rw [ha]; exact HLE.out k hk
      have HA := Lib.hid ha
      have HM := Lib.hid hm
      clear ha hm
      by_cases hlt : k < n
      · have hlt' : (k : Int) < (n : Int) := by omega
        have HCK := Lib.hid (fun w => HC.out (k + 1) w (by omega))
        rw [show ((k + 1 : Nat) : Int) = (k : Int) + 1 from rfl] at HCK
        have hpl := HPL.out (k + 1)
        have HN := Lib.hid (HNX.out k hlt)
        rw [← HA.out] at HN
        generalize P (k + 1) = c at *
        have hmb : (n - k) * c ≤ 12 * 13 := Nat.mul_le_mul (by omega) (by omega)
        have hme : (((n - k) * c : Nat) : Int) = ((n : Int) - (k : Int)) * (c : Int) := by
          rw [Int.natCast_mul]
          congr 1
          omega
        obtain ⟨z, hz⟩ : ∃ z, z = (n - k) * c := ⟨_, rfl⟩
        rw [← hz] at HN hmb hme
        have e1 : wrap64 (((n : Int) - (k : Int)) * (c : Int)) = (z : Int) := by rw [← hme]; exact IntWalk.wrap64_in _ (by omega)
        have e2 : IntKind.i64.wrap (((n : Int) - (k : Int)) * (c : Int)) = (z : Int) := by rw [← hme]; exact IntWalk.i64_in _ (by omega)
        clear hz hme
        go_wp2_with fail
        refine (HCK.out _).mono ?_
        rintro e w' ⟨rfl, m2, rfl⟩
        go_wp2_with fail
        go_roundw
        case rel => exact ⟨k + 1, a + z, by omega, HN.out.symm, by go_num, by go_num, m + m2, by rw [HM.out]; exact World.drewN_drewN _ _ _⟩
        case measure => simp [intOf]; omega
      · have hkn : k = n := by omega
        have hlt' : ¬ (k : Int) < (n : Int) := by omega
        have HR : Hid ((a : Int) = r) := by show _ = _; rw [HV.out, HA.out, hkn]
        clear hkn
        go_wp2_with fail
        go_ret
        exact ⟨ret_int HR.out, by rw [HM.out]; exact below_drewN (Below.refl _ _) m⟩
  · have HV : Hid (bcR n = -1) := if_neg (by
      unfold bcOk
      rw [Bool.and_eq_true, decide_eq_true_eq, decide_eq_true_eq]
      exact hok)
    generalize bcR n = r at *
    by_cases h1 : n < 0
    · clear hok
      go_enter Try.func24, Try.ntmps24
      go_wp2_with fail
      go_ret
      exact ⟨ret_int HV.out.symm, Below.refl _ _⟩
    · have h2 : 12 < n := by omega
      clear hok
      go_enter Try.func24, Try.ntmps24
      go_wp2_with fail
      go_ret
      exact ⟨ret_int HV.out.symm, Below.refl _ _⟩
end Go.Proofs.Ytnejalefpenbfaa
