/- Texts put together. -/
import Derived.Test.YtgfhconcmoepcaaMgb8
import Derived.Maps.AppendAt
import Derived.Test.YtgfhconcmoepcaaMgb25
import Derived.Test.YtgfhconcmoepcaaMgb17
import Derived.Laws.Cover1
import Derived.Lib.OthersKept
import Derived.Test.YtgfhconcmoepcaaMgb19
import Derived.Test.YtgfhconcmoepcaaMgb20
/- append of one element that the walk has just laid, and where the new slice lies: so that a row read meanwhile is seen to stay. -/
namespace Go.Proofs.Ytgfhconcmoepcaa
open Go.RowKit

theorem wpList_append1p {P : Program} (w : World) {ops : Array Oper} {rest : List Oper} {o : Oper} {a : Act} {Q : Exit → Act → World → Prop} (hgd : o.guard = none) (s x : Operand) (t : TypeId)
    (ho : o.op = .call { callee := .builtin .append, args := #[s, x], argTypes := #[t, t] })
    (base : Nat) (e : TypeId) (i : TypeInfo) (z : Value) (bytes : Nat) (ht : P.underlying t = some (.slice e)) (hi : P.info? e = some i) (hz : i.zero = some z)
    (hsize : i.size = 1) (hby : i.bytes = bytes) (hzs : z.cells.size = 1)
    (v : Value) (n : Nat) (xs : List Value) (hs : a.eval s = v) (hown : w.ownsRow base e 1 v n xs)
    (y : Value) (hy : y.oneCell' = true) (hx : a.eval x = .slice (some ⟨w.heap.size, 0, none⟩) 1 1)
    (h63 : n + 1 ≤ maxLen) (hbytes : (n + 1) * bytes ≤ 140737488355328) (hbase : base ≤ w.heap.size)
    (h : ∀ v' w', w'.ownsRow base e 1 v' (n + 1) (xs ++ [y]) → w.grownBy w' v.ownBlock → (v'.ownBlock = v.ownBlock ∨ v'.ownBlock = some (w.heap.size + 1)) → wpList P ops Q rest (a.put o.dst v') w') :
    wpList P ops Q (o :: rest) a (w.alloc (.cells #[y] e)) := by
  refine wpList_append_own_at _ hgd s x t ho base e i z 1 bytes ht hi hz hsize hby hzs (by decide) v n xs hs (hown.alloc _) ⟨w.heap.size, 0, none⟩ 1 1 [y] hx rfl ?_ ?_ h63 hbytes (by simp; omega) ?_
  · intro j u hu
    rcases j with _ | j
    · simp at hu
      subst hu
      rw [Addr.add_lit, World.cell?_alloc_at _ _ _ _ (by simp)]
      rfl
    · simp at hu
  · intro u hu
    simp at hu
    subst hu
    exact hy
  · intro v' w' h1 h2 _ h4
    simp only [World.size_alloc] at h4
    exact h v' w' h1 (grown_trans (World.grownBy_alloc _ _ _) h2) h4
/-- a slice that lies in block B or in none before S -/
def Away (B S : Nat) (v : Value) : Prop := ∀ k, v.ownBlock = some k → k = B ∨ S ≤ k
theorem Away.next {B S : Nat} {v v' : Value} {w : World} (h : Away B S v) (hS : S ≤ w.heap.size) (h2 : v'.ownBlock = v.ownBlock ∨ v'.ownBlock = some (w.heap.size + 1)) : Away B S v' := by
  intro k hk
  rcases h2 with e | e
  · exact h k (by rw [← e]; exact hk)
  · rw [e] at hk
    injection hk with hk
    exact .inr (by omega)
/-- a row that lies between them stays -/
theorem Away.keeps {B S L : Nat} {v : Value} {w w' : World} {e : TypeId} {u : Value} {n : Nat} {xs : List Value} (h : Away B S v) (hg : w.grownBy w' v.ownBlock) (hu : w.ownsRow L e 1 u n xs) (hB : B < L) (hS : ∀ k, u.ownBlock = some k → k < S) : w'.ownsRow L e 1 u n xs := by
  refine own_apart hu hg (fun k hk hk2 => ?_)
  have h1 := (hu.lt k hk).1
  have h2 := hS k hk
  rcases h k hk2 with h3 | h3 <;> omega
end Go.Proofs.Ytgfhconcmoepcaa

/- Chapter 10 of the model: IsPrimitiveWord, LeastShift, IsLyndon, LyndonParts, AreConjugate. Conditions: lengths of at most 2^20. -/
namespace Go.Proofs.Ytgfhconcmoepcaa
open Go.RowKit Go.Lib

theorem prm_eq (s : ByteArray) : prmR s = (rtK s == 1) := rfl
theorem specIsPrimitiveWord (s : ByteArray) (w : World) (hs : s.size ≤ 1048576) :
    Calls Try.prog 49 #[.string s] w fun e w' => e = .returned (.bool (prmR s)) ∧ Below w.heap.size w w' := by
  have HV := Lib.hid (prm_eq s)
  have HR := Lib.hid (fun w => specRootOf s w hs)
  generalize prmR s = r at HV ⊢
  generalize rtK s = k at HV HR
  generalize rtR s = x at HR
  go_enter Try.func49, Try.ntmps49
  go_wp2_with fail
  refine (HR.out _).mono ?_
  rintro e w1 ⟨rfl, hb⟩
  have HB := Lib.hid hb
  clear hb
  go_wp2_with fail
  go_ret
  exact ⟨ret_bool HV.out.symm, HB.out⟩

theorem empty_is {s : ByteArray} (h : s.size = 0) : s.toList.isEmpty = true := by
  rw [ByteArray.toList_eq]
  cases e : s.data.toList with
  | nil => rfl
  | cons a l => have hl : s.data.toList.length = s.size := by simp
                rw [e, h] at hl; cases hl
theorem empty_no {s : ByteArray} (h : 1 ≤ s.size) : s.toList.isEmpty = false := by
  rw [ByteArray.toList_eq]
  cases e : s.data.toList with
  | nil => have hl : s.data.toList.length = s.size := by simp
           rw [e] at hl; simp at hl; omega
  | cons a l => rfl

set_option maxRecDepth 100000 in
set_option maxHeartbeats 1000000 in
theorem specLeastShift (s : ByteArray) (w : World) (_ : s.size ≤ 1048576) :
    Calls Try.prog 50 #[.string s] w fun e w' => e = .returned (.int .i64 (lsR s)) ∧ Below w.heap.size w w' := by
  cases hw : wordB s
  · have HW := Lib.hid hw
    have HV : Hid (lsR s = -1) := by show _ = _; unfold lsR; rw [hw]; rfl
    clear hw
    go_enter Try.func50, Try.ntmps50
    go_wp2_with fail
    refine (specWordOk s _).mono ?_
    rintro e w' ⟨rfl, rfl⟩
    rw [HW.out]
    go_wp2_with fail
    go_ret
    exact ⟨ret_int HV.out.symm, Below.refl _ _⟩
  have HW := Lib.hid hw
  have h4 := word_size hw
  by_cases h0 : s.size = 0
  · have HV : Hid (lsR s = -1) := by show _ = _; unfold lsR; rw [decide_eq_false (show ¬ 1 ≤ s.size by omega), Bool.and_false]; rfl
    have hem := empty_is h0
    clear hw h0
    go_enter Try.func50, Try.ntmps50
    go_wp2_with fail
    refine (specWordOk s _).mono ?_
    rintro e w' ⟨rfl, rfl⟩
    rw [HW.out]
    go_wp2_with fail
    go_ret
    exact ⟨ret_int HV.out.symm, Below.refl _ _⟩
  have HV : Hid (lsR s = (lsTo s s.size : Int)) := if_pos (by rw [hw, decide_eq_true (show 1 ≤ s.size by omega)]; rfl)
  have hem := empty_no (show 1 ≤ s.size by omega)
  have HLOW := Lib.hid (word_low hw)
  have HST : Hid (∀ k, lsTo s (k + 1) = if Op.bytesLess (rotS s k).toList (rotS s (lsTo s k)).toList = true then k else lsTo s k) := fun k => rfl
  have HRS : Hid (∀ k, rotS s k = s.extract k s.size ++ s.extract 0 k) := fun k => rfl
  have HLT := Lib.hid (lsTo_lt s)
  have HZ : Hid (lsTo s 0 = 0) := rfl
  clear hw
  generalize lsR s = r at HV ⊢
  generalize lsTo s = B at HV HST HLT HZ
  go_enter Try.func50, Try.ntmps50
  go_wp2_with fail
  refine (specWordOk s _).mono ?_
  rintro e w' ⟨rfl, rfl⟩
  rw [HW.out]
  go_wp2_with fail
  go_loopw [3] (fun o w' => ∃ i b : Nat, i ≤ s.size ∧ b = B i ∧ o = .int .i64 (b : Int) ∧ w'.heap[w.heap.size]? = some (.stringIter s i) ∧ Below w.heap.size w w') (fun _ w' => s.size - w'.iterPos w.heap.size)
  case atStart => exact ⟨0, 0, by omega, HZ.out.symm, rfl, World.iter_heap w s 0, below_iter w s 0⟩
  case round =>
    obtain ⟨i, b, hi, hbB, rfl, hit, hb⟩ := hrel
    have HBB := Lib.hid hbB
    have hbi : b ≤ i := by rw [hbB]; exact HLT.out i
    clear hbB
    obtain ⟨wi, rfl⟩ : ∃ y : World, y = wr := ⟨_, rfl⟩
    by_cases hlt : i < s.size
    · have hnx : ∀ ty, (Instr.next (.pointer (some ⟨w.heap.size, 0, none⟩)) true ty).run Try.prog wi = _ := fun ty => run_next_ascii_at wi w.heap.size s i ty hit hlt (HLOW.out i hlt)
      have hi2 := iterAt_heap wi w.heap.size s i (i + 1) hit
      have hb2 := below_iterAt (k := w.heap.size) hb (Nat.le_refl _) s (i + 1)
      have hpos0 := iterPos_at hit
      have HI2 := Lib.hid hi2
      have HB2 := Lib.hid hb2
      have hs1 : ∀ w : World, (Instr.slice 9 (.string s) (some (.int .i64 (i : Int))) none none).run Try.prog w = .ok (.string (s.extract i s.size)) w := fun w => cut_hi Try.underlying9 s _ i w rfl (by omega)
      have hs2 : ∀ w : World, (Instr.slice 9 (.string s) none (some (.int .i64 (i : Int))) none).run Try.prog w = .ok (.string (s.extract 0 i)) w := fun w => cut_lo Try.underlying9 s _ i w rfl (by omega)
      have hs3 : ∀ w : World, (Instr.slice 9 (.string s) (some (.int .i64 (b : Int))) none none).run Try.prog w = .ok (.string (s.extract b s.size)) w := fun w => cut_hi Try.underlying9 s _ b w rfl (by omega)
      have hs4 : ∀ w : World, (Instr.slice 9 (.string s) none (some (.int .i64 (b : Int))) none).run Try.prog w = .ok (.string (s.extract 0 b)) w := fun w => cut_lo Try.underlying9 s _ b w rfl (by omega)
      have HN := Lib.hid (HST.out i)
      have hz1 : (s.extract i s.size).size ≤ 400 := by rw [ByteArray.size_extract]; omega
      have hz2 : (s.extract 0 i).size ≤ 400 := by rw [ByteArray.size_extract]; omega
      have hz3 : (s.extract b s.size).size ≤ 400 := by rw [ByteArray.size_extract]; omega
      have hz4 : (s.extract 0 b).size ≤ 400 := by rw [ByteArray.size_extract]; omega
      rw [← HBB.out, HRS.out i, HRS.out b] at HN
      clear hi2 hb2 hit hb
      generalize wi.iterAt w.heap.size s (i + 1) = w2 at hnx HI2 HB2
      generalize s.extract i s.size = x1 at hs1 HN hz1
      generalize s.extract 0 i = x2 at hs2 HN hz2
      generalize s.extract b s.size = x3 at hs3 HN hz3
      generalize s.extract 0 b = x4 at hs4 HN hz4
      cases hc : Op.bytesLess (x1 ++ x2).toList (x3 ++ x4).toList
      · have HE : Hid (B (i + 1) = b) := by show _ = _; rw [HN.out, hc]; exact if_neg (by decide)
        clear HN
        go_wp2_with fail
        go_quiet (fail)
        go_wp2_with fail
        go_roundw
        case rel => exact ⟨i + 1, b, by omega, HE.out.symm, rfl, HI2.out, below_drewN HB2.out _⟩
        case measure =>
          have e1 := iterPos_at HI2.out
          show s.size - (w2.drewN _).iterPos w.heap.size < _
          rw [show (w2.drewN _).iterPos w.heap.size = w2.iterPos w.heap.size from rfl, e1, hpos0]
          omega
      · have HE : Hid (B (i + 1) = i) := by show _ = _; rw [HN.out, hc]; exact if_pos rfl
        clear HN
        go_wp2_with fail
        go_quiet (fail)
        go_wp2_with fail
        go_roundw
        case rel => exact ⟨i + 1, i, by omega, HE.out.symm, rfl, HI2.out, below_drewN HB2.out _⟩
        case measure =>
          have e1 := iterPos_at HI2.out
          show s.size - (w2.drewN _).iterPos w.heap.size < _
          rw [show (w2.drewN _).iterPos w.heap.size = w2.iterPos w.heap.size from rfl, e1, hpos0]
          omega
    · have hnx : ∀ ty, (Instr.next (.pointer (some ⟨w.heap.size, 0, none⟩)) true ty).run Try.prog wi = _ := fun ty => run_next_end_at wi w.heap.size s i ty hit hlt
      have hii : i = s.size := by omega
      have HR : Hid (r = (b : Int)) := by show _ = _; rw [HV.out, HBB.out, hii]
      have HB := Lib.hid hb
      clear hii hb hit
      go_wp2_with fail
      go_ret
      exact ⟨ret_int HR.out.symm, HB.out⟩

/-- the three ways of two texts: before; behind; the same -/
theorem bl_three (a b : List UInt8) : (Op.bytesLess a b = true ∧ Op.bytesLess b a = false ∧ (b == a) = false) ∨ (Op.bytesLess a b = false ∧ Op.bytesLess b a = true ∧ (b == a) = false) ∨ (Op.bytesLess a b = false ∧ Op.bytesLess b a = false ∧ (b == a) = true) := by
  by_cases e : b = a
  · subst e
    exact .inr (.inr ⟨bl_self b, bl_self b, by simp⟩)
  · have e2 : (b == a) = false := by rw [beq_eq_false_iff_ne]; exact e
    cases h : Op.bytesLess a b
    · refine .inr (.inl ⟨rfl, ?_, e2⟩)
      cases h2 : Op.bytesLess b a
      · rcases bl_tri a b with x | x | x
        · rw [h] at x; cases x
        · exact absurd x.symm e
        · rw [h2] at x; cases x
      · rfl
    · refine .inl ⟨rfl, ?_, e2⟩
      cases h2 : Op.bytesLess b a
      · rfl
      · exact (bl_asym h h2).elim
theorem lyn_no {s : ByteArray} {k : Nat} (h1 : 1 ≤ k) (h2 : k < s.size) (h : lessB s (rotS s k) = false) : lyB s = false := by
  cases hx : lyB s
  · rfl
  · have := ((lyB_iff s).1 hx).2 k h1 h2
    rw [h] at this
    cases this

set_option maxRecDepth 100000 in
set_option maxHeartbeats 1000000 in
theorem specIsLyndon (s : ByteArray) (w : World) (_ : s.size ≤ 1048576) :
    Calls Try.prog 51 #[.string s] w fun e w' => e = .returned (.bool (lyR s)) ∧ Below w.heap.size w w' := by
  cases hw : wordB s
  · have HW := Lib.hid hw
    have HV : Hid (lyR s = false) := by show _ = _; unfold lyR; rw [hw]; rfl
    clear hw
    go_enter Try.func51, Try.ntmps51
    go_wp2_with fail
    refine (specWordOk s _).mono ?_
    rintro e w' ⟨rfl, rfl⟩
    rw [HW.out]
    go_wp2_with fail
    go_ret
    exact ⟨ret_bool HV.out.symm, Below.refl _ _⟩
  have HW := Lib.hid hw
  have h4 := word_size hw
  have HE : Hid (lyR s = lyB s) := by show _ = _; unfold lyR; rw [hw, Bool.true_and]
  by_cases h0 : s.size = 0
  · have HV : Hid (lyR s = false) := by
      show _ = _
      rw [HE.out]
      cases hx : lyB s
      · rfl
      · have := ((lyB_iff s).1 hx).1; omega
    have hem := empty_is h0
    clear hw h0
    go_enter Try.func51, Try.ntmps51
    go_wp2_with fail
    refine (specWordOk s _).mono ?_
    rintro e w' ⟨rfl, rfl⟩
    rw [HW.out]
    go_wp2_with fail
    go_ret
    exact ⟨ret_bool HV.out.symm, Below.refl _ _⟩
  have hem := empty_no (show 1 ≤ s.size by omega)
  have HNO : Hid (∀ k, 1 ≤ k → k < s.size → lessB s (rotS s k) = false → lyR s = false) := fun k a b h => by rw [HE.out]; exact lyn_no a b h
  have HYES : Hid ((∀ k, 1 ≤ k → k < s.size → lessB s (rotS s k) = true) → lyR s = true) := fun h => by rw [HE.out]; exact (lyB_iff s).2 ⟨by omega, h⟩
  have HRS : Hid (∀ k, rotS s k = s.extract k s.size ++ s.extract 0 k) := fun k => rfl
  clear hw HE
  generalize lyR s = r at HNO HYES ⊢
  go_enter Try.func51, Try.ntmps51
  go_wp2_with fail
  refine (specWordOk s _).mono ?_
  rintro e w' ⟨rfl, rfl⟩
  rw [HW.out]
  go_wp2_with fail
  go_loopw [3] (fun i w' => ∃ k : Nat, 1 ≤ k ∧ k ≤ s.size ∧ i = .int .i64 (k : Int) ∧ (∀ q, 1 ≤ q → q < k → lessB s (rotS s q) = true) ∧ Below w.heap.size w w') (fun i _ => s.size + 1 - (intOf i).toNat)
  case atStart => exact ⟨1, Nat.le_refl _, by omega, rfl, fun q a b => by omega, Below.refl _ _⟩
  case round =>
    obtain ⟨k, hk1, hk, rfl, hall, hb⟩ := hrel
    have HALL := Lib.hid hall
    have HB := Lib.hid hb
    clear hall hb
    by_cases hlt : k < s.size
    · have hs1 : ∀ w : World, (Instr.slice 9 (.string s) (some (.int .i64 (k : Int))) none none).run Try.prog w = .ok (.string (s.extract k s.size)) w := fun w => cut_hi Try.underlying9 s _ k w rfl (by omega)
      have hs2 : ∀ w : World, (Instr.slice 9 (.string s) none (some (.int .i64 (k : Int))) none).run Try.prog w = .ok (.string (s.extract 0 k)) w := fun w => cut_lo Try.underlying9 s _ k w rfl (by omega)
      have hz1 : (s.extract k s.size).size ≤ 400 := by rw [ByteArray.size_extract]; omega
      have hz2 : (s.extract 0 k).size ≤ 400 := by rw [ByteArray.size_extract]; omega
      have HQ : Hid (lessB s (rotS s k) = Op.bytesLess s.toList (s.extract k s.size ++ s.extract 0 k).toList) := rfl
      generalize s.extract k s.size = x1 at hs1 hz1 HQ
      generalize s.extract 0 k = x2 at hs2 hz2 HQ
      rcases bl_three s.toList (x1 ++ x2).toList with ⟨q1, q2, q3⟩ | ⟨q1, q2, q3⟩ | ⟨q1, q2, q3⟩
      · have HR : Hid (lessB s (rotS s k) = true) := by show _ = _; rw [HQ.out, q1]
        clear HQ q1
        go_wp2_with fail
        go_quiet (fail)
        go_wp2_with fail
        go_roundw
        case rel => exact ⟨k + 1, by omega, by omega, by go_num, fun q a b => by
          by_cases e : q = k
          · subst e; exact HR.out
          · exact HALL.out q a (by omega), below_drewN HB.out _⟩
        case measure => simp [intOf]; omega
      · have HR := Lib.hid (HNO.out k hk1 hlt (by rw [HQ.out, q1]))
        clear HQ q1
        go_wp2_with fail
        go_quiet (fail)
        go_wp2_with fail
        go_ret
        exact ⟨ret_bool HR.out.symm, below_drewN HB.out _⟩
      · have HR := Lib.hid (HNO.out k hk1 hlt (by rw [HQ.out, q1]))
        clear HQ q1
        go_wp2_with fail
        go_quiet (fail)
        go_wp2_with fail
        go_ret
        exact ⟨ret_bool HR.out.symm, below_drewN HB.out _⟩
    · have hks : k = s.size := by omega
      have HR := Lib.hid (HYES.out (fun q a b => HALL.out q a (by omega)))
      clear hks
      go_wp2_with fail
      go_ret
      exact ⟨ret_bool HR.out.symm, HB.out⟩

theorem lyP_le (s : ByteArray) : (lyP s).length ≤ 400 := by
  unfold lyP
  split
  · rename_i h
    have := lyTo_few s s.size 0
    have := word_size h
    omega
  · simp
theorem lyTo_step {s : ByteArray} {i f : Nat} (h : i < s.size) : lyTo s i (f + 1) = s.extract i (i + lyLen s i (s.size - i)) :: lyTo s (i + lyLen s i (s.size - i)) f := if_pos h
/-- what is found so far, then the rest -/
def PartsTo (s : ByteArray) (i : Nat) (l : List ByteArray) : Prop := ∀ f, s.size ≤ i + f → l ++ lyTo s i f = lyTo s 0 s.size
theorem lyTo_more (s : ByteArray) : ∀ f i, s.size ≤ i + f → lyTo s i (f + 1) = lyTo s i f
  | 0, i, h => by
    show (if i < s.size then _ else _) = _
    rw [if_neg (by omega)]
    rfl
  | f + 1, i, h => by
    by_cases hi : i < s.size
    · rw [lyTo_step hi, lyTo_step hi]
      have := lyLen_pos hi
      rw [lyTo_more s f _ (by omega)]
    · show (if i < s.size then _ else _) = if i < s.size then _ else _
      rw [if_neg hi, if_neg hi]
theorem lyTo_any (s : ByteArray) {f i : Nat} (h : s.size ≤ i + f) : ∀ k, lyTo s i (f + k) = lyTo s i f
  | 0 => rfl
  | k + 1 => by rw [← lyTo_any s h k, ← Nat.add_assoc]; exact lyTo_more s (f + k) i (by omega)
theorem parts_start (s : ByteArray) : PartsTo s 0 [] := fun f hf => by
  rw [List.nil_append]
  have := lyTo_any s (f := s.size) (i := 0) (by omega) (f - s.size)
  rwa [show s.size + (f - s.size) = f by omega] at this
theorem parts_next {s : ByteArray} {i : Nat} {l : List ByteArray} (h : PartsTo s i l) (hi : i < s.size) : PartsTo s (i + lyLen s i (s.size - i)) (l ++ [s.extract i (i + lyLen s i (s.size - i))]) := fun f hf => by
  rw [← lyTo_any s hf s.size, List.append_assoc, List.singleton_append, ← lyTo_step hi]
  exact h (f + s.size + 1) (by omega)
theorem parts_end {s : ByteArray} {i : Nat} {l : List ByteArray} (h : PartsTo s i l) (hi : s.size ≤ i) : l = lyTo s 0 s.size := by
  have := h 0 (by omega)
  rwa [show lyTo s i 0 = [] from rfl, List.append_nil] at this
theorem lyLen_yes {s : ByteArray} {i n : Nat} (hn : lyB (s.extract i (i + (n + 1))) = true) : lyLen s i (n + 1) = n + 1 := if_pos hn
theorem lyLen_no {s : ByteArray} {i n : Nat} (hn : lyB (s.extract i (i + (n + 1))) = false) : lyLen s i (n + 1) = lyLen s i n := if_neg (by rw [hn]; decide)

set_option maxRecDepth 100000 in
set_option maxHeartbeats 1000000 in
theorem specLyndonParts (s : ByteArray) (w : World) (_ : s.size ≤ 1048576) :
    Calls Try.prog 52 #[.string s] w fun e w' => ∃ v, e = .returned v ∧ w'.ownsRow w.heap.size 9 1 v (lyP s).length (strs (lyP s)) ∧ Below w.heap.size w w' := by
  obtain ⟨i0, hi0, hz0, hz1, hz2⟩ := info_parts str_info
  cases hw : wordB s
  · have HW := Lib.hid hw
    have hv : lyP s = [] := if_neg (by rw [hw]; decide)
    rw [hv]
    clear hw hv
    go_enter Try.func52, Try.ntmps52
    go_wp2_with fail
    refine (specWordOk s _).mono ?_
    rintro e w' ⟨rfl, rfl⟩
    rw [HW.out]
    go_wp2_with fail
    go_ret
    exact ⟨_, rfl, World.ownsRow_nil _ _ _ _, Below.refl _ _⟩
  have HW := Lib.hid hw
  have h4 := word_size hw
  have HV : Hid (lyP s = lyTo s 0 s.size) := if_pos hw
  have HWD : Hid (∀ i j, wordB (s.extract i j) = true) := fun i j => py_part hw i j
  clear hw
  go_enter Try.func52, Try.ntmps52
  go_wp2_with fail
  refine (specWordOk s _).mono ?_
  rintro e w' ⟨rfl, rfl⟩
  rw [HW.out]
  go_wp2_with fail
  go_loopw [3, 4] (fun o iv w' => ∃ (i : Nat) (l : List ByteArray), i ≤ s.size ∧ iv = .int .i64 (i : Int) ∧ l.length ≤ i ∧ PartsTo s i l ∧ (∃ A cp, o = .slice A l.length cp) ∧ w'.ownsRow w.heap.size 9 1 o l.length (strs l) ∧ Below w.heap.size w w') (fun _ iv _ => s.size - (intOf iv).toNat)
  case atStart => exact ⟨0, [], Nat.zero_le _, rfl, Nat.le_refl _, parts_start s, ⟨_, _, rfl⟩, World.ownsRow_made w #[] 0 (Nat.le_refl _) (by simp [maxLen]) (by simp), (Below.refl _ _).alloc (Nat.le_refl _) _⟩
  case round =>
    obtain ⟨i, l, hi, rfl, hll, hp, ⟨A, cp, rfl⟩, ho, hb⟩ := hrel
    have HP := Lib.hid hp
    have HO := Lib.hid ho
    have HB := Lib.hid hb
    clear hp ho hb
    by_cases hlt : i < s.size
    · have HPOS := Lib.hid (lyLen_pos hlt)
      obtain ⟨wo, rfl⟩ : ∃ x : World, x = wr := ⟨_, rfl⟩
      go_wp2_with fail
      go_loopw [5] (fun nv w' => ∃ n : Nat, n ≤ s.size - i ∧ nv = .int .i64 (n : Int) ∧ lyLen s i (s.size - i) = lyLen s i n ∧ Below wo.heap.size wo w') (fun nv _ => (intOf nv).toNat)
      case atStart => exact ⟨s.size - i, Nat.le_refl _, by go_num, rfl, Below.refl _ _⟩
      case round =>
        obtain ⟨n, hn, rfl, hle, hb⟩ := hrel
        have HLE := Lib.hid hle
        have HBN := Lib.hid hb
        have hn1 : 1 ≤ n := by
          have := HPOS.out
          have := lyLen_le s i n
          omega
        obtain ⟨m, rfl⟩ : ∃ m, n = m + 1 := ⟨n - 1, by omega⟩
        have hsl : ∀ w : World, (Instr.slice 9 (.string s) (some (.int .i64 (i : Int))) (some (.int .i64 ((i : Int) + ((m : Int) + 1)))) none).run Try.prog w = .ok (.string (s.extract i (i + (m + 1)))) w := fun w => slice_gen Try.underlying9 s _ _ i (i + (m + 1)) w rfl (by omega) (by omega) (by omega)
        have HIL := Lib.hid (fun w => specIsLyndon (s.extract i (i + (m + 1))) w (by rw [ByteArray.size_extract]; omega))
        have HLB : Hid (lyR (s.extract i (i + (m + 1))) = lyB (s.extract i (i + (m + 1)))) := by show _ = _; unfold lyR; rw [HWD.out, Bool.true_and]
        rw [HLB.out] at HIL
        clear hle hb
        cases hc : lyB (s.extract i (i + (m + 1)))
        · have HN := Lib.hid (lyLen_no hc)
          rw [hc] at HIL
          clear hc HLB
          generalize s.extract i (i + (m + 1)) = x at hsl HIL
          go_wp2_with fail
          refine (HIL.out _).mono ?_
          rintro e w3 ⟨rfl, hb3⟩
          have HB3 : Hid (Below wo.heap.size wo w3) := HBN.out.trans (hb3.mono HBN.out.size)
          clear hb3
          go_wp2_with fail
          go_roundw
          case rel => exact ⟨m, by omega, by go_num, by rw [HLE.out, HN.out], HB3.out⟩
          case measure => simp [intOf]
        · have HN := Lib.hid (lyLen_yes hc)
          rw [hc] at HIL
          have HNX := Lib.hid (parts_next HP.out hlt)
          rw [HLE.out, HN.out] at HNX
          have hxz : (s.extract i (i + (m + 1))).size ≤ 400 := by rw [ByteArray.size_extract]; omega
          clear hc HLB
          generalize s.extract i (i + (m + 1)) = x at hsl HIL HNX hxz
          go_wp2_with fail
          refine (HIL.out _).mono ?_
          rintro e w3 ⟨rfl, hb3⟩
          have HB3 : Hid (Below wo.heap.size wo w3) := HBN.out.trans (hb3.mono HBN.out.size)
          have HO3 := Lib.hid (own_below HO.out HB3.out)
          have HBW : Hid (Below w.heap.size w w3) := HB.out.trans (HB3.out.mono HB.out.size)
          have hbz := HBW.out.size
          clear hb3
          go_wp2_with (at_builtin
                       refine wpList_append1p _ rfl (.tmp 28) (.tmp 35) _ rfl w.heap.size 9 i0 _ 16 Try.underlying31 hi0 hz0 hz1 hz2 rfl (.slice A l.length cp) l.length (strs l) rfl HO3.out (.string x) rfl rfl (by unfold maxLen; omega) (by omega) hbz ?_
                       intro v' w5 ho5 hg5 _)
          have ho5' : w5.ownsRow w.heap.size 9 1 v' (l ++ [x]).length (strs (l ++ [x])) := by rw [strs_snoc, List.length_append]; exact ho5
          obtain ⟨A5, cp5, rfl⟩ := own_slice ho5'
          go_roundw
          case rel => exact ⟨i + (m + 1), l ++ [x], by omega, by go_num, by rw [List.length_append, List.length_singleton]; omega, HNX.out, ⟨A5, cp5, rfl⟩, ho5', HBW.out.grown hg5 HBW.out.size (fun k hk => (HO3.out.lt _ hk).1)⟩
          case measure => simp [intOf]; omega
    · have HE : Hid (lyP s = l) := by show _ = _; rw [HV.out]; exact (parts_end HP.out (by omega)).symm
      go_wp2_with fail
      go_ret
      exact ⟨_, rfl, by rw [HE.out]; exact HO.out, HB.out⟩

theorem cj_no (s t : ByteArray) (h : wordB s = false ∨ wordB t = false ∨ s.size ≠ t.size) : cjR s t = false := by
  unfold cjR
  rcases h with h | h | h
  · rw [h]; rfl
  · rw [h, Bool.false_and, Bool.and_false]
  · rw [decide_eq_false h, Bool.false_and, Bool.and_false, Bool.and_false]

set_option maxRecDepth 100000 in
set_option maxHeartbeats 1000000 in
theorem specAreConjugate (s t : ByteArray) (w : World) (_ : s.size ≤ 1048576) (_ : t.size ≤ 1048576) :
    Calls Try.prog 56 #[.string s, .string t] w fun e w' => e = .returned (.bool (cjR s t)) ∧ Below w.heap.size w w' := by
  cases h1 : wordB s
  · have HW := Lib.hid h1
    have HV := Lib.hid (cj_no s t (.inl h1))
    clear h1
    go_enter Try.func56, Try.ntmps56
    go_wp2_with fail
    refine (specWordOk s _).mono ?_
    rintro e w' ⟨rfl, rfl⟩
    rw [HW.out]
    go_wp2_with fail
    go_ret
    exact ⟨ret_bool HV.out.symm, Below.refl _ _⟩
  have HW := Lib.hid h1
  have hs4 := word_size h1
  cases h2 : wordB t
  · have HW2 := Lib.hid h2
    have HV := Lib.hid (cj_no s t (.inr (.inl h2)))
    clear h1 h2
    go_enter Try.func56, Try.ntmps56
    go_wp2_with fail
    refine (specWordOk s _).mono ?_
    rintro e w' ⟨rfl, rfl⟩
    rw [HW.out]
    go_wp2_with fail
    refine (specWordOk t _).mono ?_
    rintro e w' ⟨rfl, rfl⟩
    rw [HW2.out]
    go_wp2_with fail
    go_ret
    exact ⟨ret_bool HV.out.symm, Below.refl _ _⟩
  have HW2 := Lib.hid h2
  have ht4 := word_size h2
  by_cases hz : s.size = t.size
  · have HV : Hid (cjR s t = hasR (s ++ s) t) := by show _ = _; unfold cjR; rw [h1, h2, decide_eq_true hz]; rfl
    have HH := Lib.hid (fun w => specHas (s ++ s) t w (by rw [ByteArray.size_append]; omega) (by omega))
    have hd : ((s.size : Int) != (t.size : Int)) = false := by simp; omega
    clear h1 h2 hz
    generalize hasR (s ++ s) t = r at HV HH
    go_enter Try.func56, Try.ntmps56
    go_wp2_with fail
    refine (specWordOk s _).mono ?_
    rintro e w' ⟨rfl, rfl⟩
    rw [HW.out]
    go_wp2_with fail
    refine (specWordOk t _).mono ?_
    rintro e w' ⟨rfl, rfl⟩
    rw [HW2.out]
    go_wp2_with fail
    refine (HH.out _).mono ?_
    rintro e w' ⟨rfl, rfl⟩
    go_wp2_with fail
    go_ret
    exact ⟨ret_bool HV.out.symm, Below.refl _ _⟩
  · have HV := Lib.hid (cj_no s t (.inr (.inr hz)))
    have hd : ((s.size : Int) != (t.size : Int)) = true := by simp; omega
    clear h1 h2 hz
    go_enter Try.func56, Try.ntmps56
    go_wp2_with fail
    refine (specWordOk s _).mono ?_
    rintro e w' ⟨rfl, rfl⟩
    rw [HW.out]
    go_wp2_with fail
    refine (specWordOk t _).mono ?_
    rintro e w' ⟨rfl, rfl⟩
    rw [HW2.out]
    go_wp2_with fail
    go_ret
    exact ⟨ret_bool HV.out.symm, Below.refl _ _⟩
end Go.Proofs.Ytgfhconcmoepcaa

/- BordersOf and PeriodsOf of the program. Condition: a text of at most 2^20 bytes. -/
namespace Go.Proofs.Ytgfhconcmoepcaa
open Go.RowKit

set_option maxRecDepth 100000 in
set_option maxHeartbeats 1000000 in
theorem implBordersOf (s : ByteArray) (w : World) (hs : s.size ≤ 1048576) :
    Calls Try.prog 16 #[.string s] w fun e w' => ∃ v, e = .returned v ∧ w'.ownsRow w.heap.size 3 1 v (boR s).length (ints (boR s)) ∧ Below w.heap.size w w' := by
  have HC := Lib.hid (fun w => implWordOk s w hs)
  cases hw : wordB s
  · have hv : boR s = [] := if_neg (by rw [hw]; decide)
    rw [hw] at HC
    rw [hv]
    clear hw hv
    go_enter Try.func16, Try.ntmps16
    go_wp2_with fail
    refine (HC.out _).mono ?_
    rintro e w1 ⟨rfl, hb1⟩
    have HB := Lib.hid hb1
    clear hb1
    go_wp2_with fail
    go_ret
    exact ⟨_, rfl, World.ownsRow_nil _ _ _ _, HB.out⟩
  rw [hw] at HC
  have h4 := word_size hw
  have hv : boR s = boTo s (s.size - 1) := if_pos hw
  have hbl := boTo_len s (s.size - 1)
  have HBO := Lib.hid (fun w => implBorders s w (by omega))
  rw [hv]
  clear hw hv
  generalize boTo s (s.size - 1) = R at HBO hbl ⊢
  go_enter Try.func16, Try.ntmps16
  go_wp2_with fail
  refine (HC.out _).mono ?_
  rintro e w1 ⟨rfl, hb1⟩
  have HB := Lib.hid hb1
  have hsz1 := hb1.size
  clear hb1
  go_wp2_with fail
  refine (HBO.out _).mono ?_
  rintro e w2 ⟨v, rfl, ho, hb2⟩
  have HB2 := Lib.hid (HB.out.trans (hb2.mono hsz1))
  have HRV := Lib.hid (implReverse w1.heap.size v R.reverse w2 ho (by rw [List.length_reverse]; omega))
  rw [List.length_reverse] at ho HRV
  rw [List.reverse_reverse] at HRV
  obtain ⟨A, cp, rfl⟩ := own_slice ho
  clear ho hb2
  go_wp2_with fail
  refine HRV.out.mono ?_
  rintro e w3 ⟨rfl, ho3, hb3⟩
  have HO3 := Lib.hid ho3
  have HB3 := Lib.hid (HB2.out.trans (hb3.mono hsz1))
  clear ho3 hb3
  go_wp2_with fail
  go_ret
  exact ⟨_, rfl, own_mono HO3.out hsz1, HB3.out⟩

theorem per_of (s : ByteArray) (hw : wordB s = true) (h : 1 ≤ s.size) : peR s = ((boTo s (s.size - 1)).reverse.map fun x => (s.size : Int) - x) ++ [(s.size : Int)] := by
  have hv : peR s = peTo s s.size := if_pos hw
  rw [hv, per_last h, per_bor]

set_option maxRecDepth 100000 in
set_option maxHeartbeats 1000000 in
theorem implPeriodsOf (s : ByteArray) (w : World) (hs : s.size ≤ 1048576) :
    Calls Try.prog 17 #[.string s] w fun e w' => ∃ v, e = .returned v ∧ w'.ownsRow w.heap.size 3 1 v (peR s).length (ints (peR s)) ∧ Below w.heap.size w w' := by
  obtain ⟨i0, hi0, hz0, hz1, hz2⟩ := info_parts int_info
  have HC := Lib.hid (fun w => implWordOk s w hs)
  cases hw : wordB s
  · have hv : peR s = [] := if_neg (by rw [hw]; decide)
    rw [hw] at HC
    rw [hv]
    clear hw hv
    go_enter Try.func17, Try.ntmps17
    go_wp2_with fail
    refine (HC.out _).mono ?_
    rintro e w1 ⟨rfl, hb1⟩
    have HB := Lib.hid hb1
    clear hb1
    go_wp2_with fail
    go_ret
    exact ⟨_, rfl, World.ownsRow_nil _ _ _ _, HB.out⟩
  rw [hw] at HC
  have h4 := word_size hw
  by_cases h0 : s.size = 0
  · have hv : peR s = [] := by
      have : peR s = peTo s s.size := if_pos hw
      rw [this, h0]
      rfl
    have hem := empty_is h0
    rw [hv]
    clear hw hv h0
    go_enter Try.func17, Try.ntmps17
    go_wp2_with fail
    refine (HC.out _).mono ?_
    rintro e w1 ⟨rfl, hb1⟩
    have HB := Lib.hid hb1
    clear hb1
    go_wp2_with fail
    go_ret
    exact ⟨_, rfl, World.ownsRow_nil _ _ _ _, HB.out⟩
  have hem := empty_no (show 1 ≤ s.size by omega)
  have HV := Lib.hid (per_of s hw (by omega))
  have HBO := Lib.hid (fun w => implBorders s w (by omega))
  have HRL : Hid ((boTo s (s.size - 1)).reverse.length ≤ 400 ∧ ∀ x ∈ (boTo s (s.size - 1)).reverse, 1 ≤ x ∧ x < (s.size : Int)) := by
    refine ⟨by rw [List.length_reverse]; have := boTo_len s (s.size - 1); omega, fun x hx => ?_⟩
    rw [List.mem_reverse, boTo_mem] at hx
    obtain ⟨n, rfl, a, b, _⟩ := hx
    omega
  clear hw
  generalize (boTo s (s.size - 1)).reverse = R at HBO HRL HV
  generalize peR s = Z at HV ⊢
  have hrl := HRL.out.1
  go_enter Try.func17, Try.ntmps17
  go_wp2_with fail
  refine (HC.out _).mono ?_
  rintro e w1 ⟨rfl, hb1⟩
  have HB := Lib.hid hb1
  have hsz1 := hb1.size
  clear hb1
  go_wp2_with fail
  refine (HBO.out _).mono ?_
  rintro e w2 ⟨v, rfl, ho, hb2⟩
  have HB2 := Lib.hid (HB.out.trans (hb2.mono hsz1))
  have hsz2 := HB2.out.size
  have HO := Lib.hid ho
  obtain ⟨A, cp, rfl⟩ := own_slice ho
  clear ho hb2
  go_wp2_with fail
  go_loopw [3, 16] (fun lv iv w' => ∃ k : Nat, k ≤ R.length ∧ iv = .int .i64 (k : Int) ∧ (∃ A cp, lv = .slice A k cp) ∧ w'.ownsRow w2.heap.size 3 1 lv k (ints ((R.take k).map fun x => (s.size : Int) - x)) ∧ Below w2.heap.size w2 w') (fun _ iv _ => R.length - (intOf iv).toNat)
  case atStart => exact ⟨0, Nat.zero_le _, rfl, ⟨_, _, rfl⟩, World.ownsRow_nil _ _ _ _, Below.refl _ _⟩
  case round =>
    obtain ⟨k, hk, rfl, ⟨A3, cp3, rfl⟩, ho3, hb3⟩ := hrel
    have HO3 := Lib.hid ho3
    have HB3 := Lib.hid hb3
    have hbz := hb3.size
    clear ho3 hb3
    by_cases hlt : k < R.length
    · obtain ⟨g, cp', he, _⟩ := own_some HO.out (by omega)
      injection he with he _ he2
      subst he; subst he2
      have hrk := HRL.out.2 R[k] (List.getElem_mem hlt)
      have ck : wr.cell? ⟨g, k, none⟩ = some (.int .i64 R[k]) := (HB3.out.cell (p := ⟨g, k, none⟩) (HO.out.lt g rfl).2).trans ((World.ownsRow.cellAt HO.out k (by omega)).trans (ints_get (List.getElem?_eq_getElem hlt)))
      have HT : Hid (((R.take (k + 1)).map fun x => (s.size : Int) - x) = ((R.take k).map fun x => (s.size : Int) - x) ++ [(s.size : Int) - R[k]]) := by
        show _ = _
        rw [List.take_succ_eq_append_getElem hlt, List.map_append]
        rfl
      have hlt' : (k : Int) < (R.length : Int) := by omega
      generalize R[k] = x at hrk ck HT
      go_wp2_with (at_builtin
                   refine wpList_append1 _ rfl (.tmp 20) (.tmp 25) _ rfl w2.heap.size 3 i0 _ 8 Try.underlying24 hi0 hz0 hz1 hz2 rfl (.slice A3 k cp3) k (ints ((R.take k).map fun x => (s.size : Int) - x)) rfl HO3.out (.int .i64 ((s.size : Int) - x)) rfl rfl (by unfold maxLen; omega) (by omega) hbz ?_
                   intro v' w4 hown4 hbel4)
      have ho4 : w4.ownsRow w2.heap.size 3 1 v' (k + 1) (ints ((R.take (k + 1)).map fun x => (s.size : Int) - x)) := by
        rw [HT.out, ints_snoc]
        exact hown4
      obtain ⟨A5, cp5, rfl⟩ := own_slice ho4
      go_roundw
      case rel => exact ⟨k + 1, by omega, by go_num, ⟨A5, cp5, rfl⟩, ho4, HB3.out.trans hbel4⟩
      case measure => simp [intOf]; omega
    · have hkl : k = R.length := by omega
      subst hkl
      have HZ : Hid (Z = ((R.take R.length).map fun x => (s.size : Int) - x) ++ [(s.size : Int)]) := by
        show _ = _
        rw [List.take_length]
        exact HV.out
      go_wp2_with (at_builtin
                   refine wpList_append1 _ rfl (.tmp 28) (.tmp 31) _ rfl w2.heap.size 3 i0 _ 8 Try.underlying24 hi0 hz0 hz1 hz2 rfl (.slice A3 R.length cp3) R.length (ints ((R.take R.length).map fun x => (s.size : Int) - x)) rfl HO3.out (.int .i64 (s.size : Int)) rfl rfl (by unfold maxLen; omega) (by omega) hbz ?_
                   intro v' w4 hown4 hbel4)
      have ho4 : w4.ownsRow w2.heap.size 3 1 v' Z.length (ints Z) := by
        rw [HZ.out, ints_snoc, List.length_append, List.length_map, List.length_take, Nat.min_self]
        exact hown4
      have HO4 := Lib.hid (own_mono ho4 hsz2)
      have HB4 := Lib.hid (HB2.out.trans ((HB3.out.trans hbel4).mono hsz2))
      clear hown4 hbel4 ho4
      go_wp2_with fail
      go_ret
      exact ⟨_, rfl, HO4.out, HB4.out⟩
end Go.Proofs.Ytgfhconcmoepcaa

/- LeastShift of the program. Condition: a text of at most 2^20 bytes. -/
namespace Go.Proofs.Ytgfhconcmoepcaa
open Go.RowKit

set_option maxRecDepth 100000 in
set_option maxHeartbeats 1000000 in
theorem implLeastShift (s : ByteArray) (w : World) (hs : s.size ≤ 1048576) :
    Calls Try.prog 24 #[.string s] w fun e w' => e = .returned (.int .i64 (lsR s)) ∧ Below w.heap.size w w' := by
  have HC := Lib.hid (fun w => implWordOk s w hs)
  cases hw : wordB s
  · have HV : Hid (lsR s = -1) := by show _ = _; unfold lsR; rw [hw]; rfl
    rw [hw] at HC
    clear hw
    go_enter Try.func24, Try.ntmps24
    go_wp2_with fail
    refine (HC.out _).mono ?_
    rintro e w1 ⟨rfl, hb1⟩
    have HB := Lib.hid hb1
    clear hb1
    go_wp2_with fail
    go_ret
    exact ⟨ret_int HV.out.symm, HB.out⟩
  rw [hw] at HC
  have h4 := word_size hw
  by_cases h0 : s.size = 0
  · have HV : Hid (lsR s = -1) := by show _ = _; unfold lsR; rw [decide_eq_false (show ¬ 1 ≤ s.size by omega), Bool.and_false]; rfl
    have hem := empty_is h0
    clear hw h0
    go_enter Try.func24, Try.ntmps24
    go_wp2_with fail
    refine (HC.out _).mono ?_
    rintro e w1 ⟨rfl, hb1⟩
    have HB := Lib.hid hb1
    clear hb1
    go_wp2_with fail
    go_ret
    exact ⟨ret_int HV.out.symm, HB.out⟩
  have HV : Hid (lsR s = (lsTo s s.size : Int)) := if_pos (by rw [hw, decide_eq_true (show 1 ≤ s.size by omega)]; rfl)
  have hem := empty_no (show 1 ≤ s.size by omega)
  have HST : Hid (∀ k, lsTo s (k + 1) = if lessB (rotS s k) (rotS s (lsTo s k)) = true then k else lsTo s k) := fun k => rfl
  have HLT := Lib.hid (lsTo_lt s)
  have HZ : Hid (lsTo s 0 = 0) := rfl
  have HSH : Hid (∀ k, k ≤ s.size → ∀ w, Calls Try.prog 25 #[.string s, .int .i64 (k : Int)] w fun e w' => e = .returned (.string (rotS s k)) ∧ Below w.heap.size w w') := fun k hk w => by
    have := implShiftWord s k w hs
    rwa [shift_rot hw hk] at this
  have HBF : Hid (∀ j k, j ≤ s.size → k ≤ s.size → ∀ w, Calls Try.prog 42 #[.string (rotS s j), .string (rotS s k)] w fun e w' => e = .returned (.bool (lessB (rotS s j) (rotS s k))) ∧ Below w.heap.size w w') := fun j k hj hk w => by
    have := implBeforeWord (rotS s j) (rotS s k) w (by rw [rot_size s hj]; omega) (by rw [rot_size s hk]; omega)
    unfold beforeR at this
    rwa [rot_word hw hj, rot_word hw hk, Bool.true_and, Bool.true_and] at this
  clear hw
  generalize lsR s = r at HV ⊢
  generalize lsTo s = B at HV HST HLT HZ
  generalize rotS s = R at HST HSH HBF
  go_enter Try.func24, Try.ntmps24
  go_wp2_with fail
  refine (HC.out _).mono ?_
  rintro e w1 ⟨rfl, hb1⟩
  have HB1 := Lib.hid hb1
  clear hb1
  go_wp2_with fail
  go_loopw [3, 14] (fun o iv w' => ∃ i b : Nat, i ≤ s.size ∧ b = B i ∧ o = .int .i64 (b : Int) ∧ iv = .int .i64 (i : Int) ∧ Below w.heap.size w w') (fun _ iv _ => s.size - (intOf iv).toNat)
  case atStart => exact ⟨0, 0, by omega, HZ.out.symm, rfl, rfl, HB1.out⟩
  case round =>
    obtain ⟨i, b, hi, hbB, rfl, rfl, hb⟩ := hrel
    have HBB := Lib.hid hbB
    have hbi : b ≤ i := by rw [hbB]; exact HLT.out i
    have HB := Lib.hid hb
    clear hbB hb
    by_cases hlt : i < s.size
    · have HN := Lib.hid (HST.out i)
      have H1 := Lib.hid (fun w => HSH.out i (by omega) w)
      have H2 := Lib.hid (fun w => HSH.out b (by omega) w)
      have H3 := Lib.hid (fun w => HBF.out i b (by omega) (by omega) w)
      rw [← HBB.out] at HN
      generalize R i = x1 at HN H1 H3
      generalize R b = x2 at HN H2 H3
      cases hc : lessB x1 x2
      · have HE : Hid (B (i + 1) = b) := by show _ = _; rw [HN.out, hc]; exact if_neg (by decide)
        rw [hc] at H3
        clear HN hc
        go_wp2_with fail
        refine (H1.out _).mono ?_
        rintro e w2 ⟨rfl, hb2⟩
        have HB2 := Lib.hid (HB.out.trans (hb2.mono HB.out.size))
        clear hb2
        go_wp2_with fail
        refine (H2.out _).mono ?_
        rintro e w3 ⟨rfl, hb3⟩
        have HB3 := Lib.hid (HB2.out.trans (hb3.mono HB2.out.size))
        clear hb3
        go_wp2_with fail
        refine (H3.out _).mono ?_
        rintro e w4 ⟨rfl, hb4⟩
        have HB4 := Lib.hid (HB3.out.trans (hb4.mono HB3.out.size))
        clear hb4
        go_wp2_with fail
        go_roundw
        case rel => exact ⟨i + 1, b, by omega, HE.out.symm, rfl, by go_num, HB4.out⟩
        case measure => simp [intOf]; omega
      · have HE : Hid (B (i + 1) = i) := by show _ = _; rw [HN.out, hc]; exact if_pos rfl
        rw [hc] at H3
        clear HN hc
        go_wp2_with fail
        refine (H1.out _).mono ?_
        rintro e w2 ⟨rfl, hb2⟩
        have HB2 := Lib.hid (HB.out.trans (hb2.mono HB.out.size))
        clear hb2
        go_wp2_with fail
        refine (H2.out _).mono ?_
        rintro e w3 ⟨rfl, hb3⟩
        have HB3 := Lib.hid (HB2.out.trans (hb3.mono HB2.out.size))
        clear hb3
        go_wp2_with fail
        refine (H3.out _).mono ?_
        rintro e w4 ⟨rfl, hb4⟩
        have HB4 := Lib.hid (HB3.out.trans (hb4.mono HB3.out.size))
        clear hb4
        go_wp2_with fail
        go_roundw
        case rel => exact ⟨i + 1, i, by omega, HE.out.symm, rfl, by go_num, HB4.out⟩
        case measure => simp [intOf]; omega
    · have hii : i = s.size := by omega
      have HR : Hid (r = (b : Int)) := by show _ = _; rw [HV.out, HBB.out, hii]
      clear hii
      go_wp2_with fail
      go_ret
      exact ⟨ret_int HR.out.symm, HB.out⟩
end Go.Proofs.Ytgfhconcmoepcaa
