/- Texts put together. -/
import Derived.Test.YtfcbfflkajlhnaaMgC36
import Derived.Test.YtfcbfflkajlhnaaMgC8
import Derived.Maps.AppendAt
/- The program's FollowersOf, LeadersOf, RightSpecial, LeftSpecial. Conditions: lengths of at most 2^20. -/
namespace Go.Proofs.Ytfcbfflkajlhnaa
open Go.RowKit

set_option maxHeartbeats 400000 in
theorem implFollowersOf (s f : ByteArray) (w : World) (hs : s.size ≤ 1048576) (hf : f.size ≤ 1048576) :
    Calls Try.prog 41 #[.string s, .string f] w fun e w' => e = .returned (.string (nxtR s f false)) ∧ Below w.heap.size w w' := by
  cases hw : wordB s
  · have HW := Lib.hid hw
    have HV : Hid (nxtR s f false = ⟨#[]⟩) := by show nxtR s f false = _; unfold nxtR; rw [hw]; rfl
    clear hw
    go_enter Try.func41, Try.ntmps41
    go_wp2_with fail
    refine (implWordOk s _ hs).mono ?_
    rintro e w1 ⟨rfl, hb1⟩
    have HB := Lib.hid hb1
    rw [HW.out]
    clear hb1
    go_wp2_with fail
    go_ret
    exact ⟨ret_str HV.out.symm, HB.out⟩
  · have HW := Lib.hid hw
    cases hwf : wordB f
    · have HWF := Lib.hid hwf
      have HV : Hid (nxtR s f false = ⟨#[]⟩) := by show nxtR s f false = _; unfold nxtR; rw [hw, hwf]; rfl
      clear hw hwf
      go_enter Try.func41, Try.ntmps41
      go_wp2_with fail
      refine (implWordOk s _ hs).mono ?_
      rintro e w1 ⟨rfl, hb1⟩
      have HB := Lib.hid hb1
      rw [HW.out]
      clear hb1
      go_wp2_with fail
      refine (implWordOk f _ hf).mono ?_
      rintro e w2 ⟨rfl, hb2⟩
      have HB2 : Hid (Below w.heap.size w w2) := HB.out.trans (hb2.mono HB.out.size)
      rw [HWF.out]
      clear hb2
      go_wp2_with fail
      go_ret
      exact ⟨ret_str HV.out.symm, HB2.out⟩
    · have HWF := Lib.hid hwf
      have HV : Hid (nxtR s f false = nxtS s f false) := by show nxtR s f false = _; unfold nxtR; rw [hw, hwf]; rfl
      have h4 := word_size hw
      have h4f := word_size hwf
      have HF := Lib.hid (fun w => implFollowed s f.size w h4 (by omega))
      have HOUT := Lib.hid (fun (L : List FK) (hL : SetIs L (folS s f.size (s.size - f.size))) => fol_out hL f rfl)
      clear hw hwf
      go_enter Try.func41, Try.ntmps41
      go_wp2_with fail
      refine (implWordOk s _ hs).mono ?_
      rintro e w1 ⟨rfl, hb1⟩
      have HB := Lib.hid hb1
      rw [HW.out]
      clear hb1
      go_wp2_with fail
      refine (implWordOk f _ hf).mono ?_
      rintro e w2 ⟨rfl, hb2⟩
      have HB2 : Hid (Below w.heap.size w w2) := HB.out.trans (hb2.mono HB.out.size)
      rw [HWF.out]
      clear hb2
      go_wp2_with fail
      refine (HF.out _).mono ?_
      rintro e w3 ⟨L, rfl, hF, hL, hl, hb⟩
      have HB3 : Hid (Below w.heap.size w w3) := HB2.out.trans (hb.mono HB2.out.size)
      have HO := Lib.hid (HOUT.out L hL)
      have HBS := Lib.hid (implBeside L w2.heap.size f w3 hF hf)
      clear hF hL hl hb
      go_wp2_with fail
      refine HBS.out.mono ?_
      rintro e w4 ⟨rfl, hb⟩
      have HB4 : Hid (Below w.heap.size w w4) := HB3.out.trans (hb.mono HB3.out.size)
      clear hb
      go_wp2_with fail
      go_ret
      exact ⟨ret_str (by rw [HV.out, HO.out]), HB4.out⟩

set_option maxHeartbeats 400000 in
theorem implLeadersOf (s f : ByteArray) (w : World) (hs : s.size ≤ 1048576) (hf : f.size ≤ 1048576) :
    Calls Try.prog 42 #[.string s, .string f] w fun e w' => e = .returned (.string (nxtR s f true)) ∧ Below w.heap.size w w' := by
  cases hw : wordB s
  · have HW := Lib.hid hw
    have HV : Hid (nxtR s f true = ⟨#[]⟩) := by show nxtR s f true = _; unfold nxtR; rw [hw]; rfl
    clear hw
    go_enter Try.func42, Try.ntmps42
    go_wp2_with fail
    refine (implWordOk s _ hs).mono ?_
    rintro e w1 ⟨rfl, hb1⟩
    have HB := Lib.hid hb1
    rw [HW.out]
    clear hb1
    go_wp2_with fail
    go_ret
    exact ⟨ret_str HV.out.symm, HB.out⟩
  · have HW := Lib.hid hw
    cases hwf : wordB f
    · have HWF := Lib.hid hwf
      have HV : Hid (nxtR s f true = ⟨#[]⟩) := by show nxtR s f true = _; unfold nxtR; rw [hw, hwf]; rfl
      clear hw hwf
      go_enter Try.func42, Try.ntmps42
      go_wp2_with fail
      refine (implWordOk s _ hs).mono ?_
      rintro e w1 ⟨rfl, hb1⟩
      have HB := Lib.hid hb1
      rw [HW.out]
      clear hb1
      go_wp2_with fail
      refine (implWordOk f _ hf).mono ?_
      rintro e w2 ⟨rfl, hb2⟩
      have HB2 : Hid (Below w.heap.size w w2) := HB.out.trans (hb2.mono HB.out.size)
      rw [HWF.out]
      clear hb2
      go_wp2_with fail
      go_ret
      exact ⟨ret_str HV.out.symm, HB2.out⟩
    · have HWF := Lib.hid hwf
      have HV : Hid (nxtR s f true = nxtS s f true) := by show nxtR s f true = _; unfold nxtR; rw [hw, hwf]; rfl
      have h4 := word_size hw
      have h4f := word_size hwf
      have HF := Lib.hid (fun w => implLed s f.size w h4 (by omega))
      have HOUT := Lib.hid (fun (L : List FK) (hL : SetIs L (ledS s f.size (s.size - f.size))) => led_out hL f rfl)
      clear hw hwf
      go_enter Try.func42, Try.ntmps42
      go_wp2_with fail
      refine (implWordOk s _ hs).mono ?_
      rintro e w1 ⟨rfl, hb1⟩
      have HB := Lib.hid hb1
      rw [HW.out]
      clear hb1
      go_wp2_with fail
      refine (implWordOk f _ hf).mono ?_
      rintro e w2 ⟨rfl, hb2⟩
      have HB2 : Hid (Below w.heap.size w w2) := HB.out.trans (hb2.mono HB.out.size)
      rw [HWF.out]
      clear hb2
      go_wp2_with fail
      refine (HF.out _).mono ?_
      rintro e w3 ⟨L, rfl, hF, hL, hl, hb⟩
      have HB3 : Hid (Below w.heap.size w w3) := HB2.out.trans (hb.mono HB2.out.size)
      have HO := Lib.hid (HOUT.out L hL)
      have HBS := Lib.hid (implBeside L w2.heap.size f w3 hF hf)
      clear hF hL hl hb
      go_wp2_with fail
      refine HBS.out.mono ?_
      rintro e w4 ⟨rfl, hb⟩
      have HB4 : Hid (Below w.heap.size w w4) := HB3.out.trans (hb.mono HB3.out.size)
      clear hb
      go_wp2_with fail
      go_ret
      exact ⟨ret_str (by rw [HV.out, HO.out]), HB4.out⟩

set_option maxHeartbeats 400000 in
theorem implRightSpecial (s : ByteArray) (n : Int) (w : World) (hs : s.size ≤ 1048576) :
    Calls Try.prog 39 #[.string s, .int .i64 n] w fun e w' => ∃ v, e = .returned v ∧ w'.ownsRow w.heap.size 9 1 v (spcR s n false).length (strs (spcR s n false)) ∧ Below w.heap.size w w' := by
  cases hok : fctOk s n
  · have HV : Hid (spcR s n false = []) := by show spcR s n false = []; unfold spcR; rw [hok]; rfl
    have HOK := Lib.hid hok
    clear hok
    go_enter Try.func39, Try.ntmps39
    go_wp2_with fail
    refine (implCanHave s n _ hs).mono ?_
    rintro e w1 ⟨rfl, hb1⟩
    have HB := Lib.hid hb1
    rw [HOK.out]
    clear hb1
    go_wp2_with fail
    go_ret
    refine ⟨_, rfl, ?_, HB.out⟩
    rw [HV.out]
    exact World.ownsRow_nil _ _ _ _
  · obtain ⟨h4, h1, h2⟩ := fct_ok hok
    obtain ⟨m, rfl⟩ : ∃ m : Nat, n = m := ⟨n.toNat, by omega⟩
    have HV : Hid (spcR s m false = spcL s m false) := if_pos hok
    have HOK := Lib.hid hok
    have HF := Lib.hid (fun w => implFollowed s m w h4 (by omega))
    have HSA := Lib.hid (spc_asc s m false)
    have HIN := Lib.hid (fun L (hL : SetIs L (folS s m (s.size - m))) => fol_in hL)
    have HSZ : Hid (∀ L, SetIs L (folS s m (s.size - m)) → ∀ p ∈ L, p.1.size ≤ 1048576) := fun L hL p hp => by
      have hx := fol_in hL p hp
      rw [fct_sz (fct_lt hx) hx]
      omega
    have HMEM := Lib.hid (fun (L L' : List FK) (hL : SetIs L (folS s m (s.size - m))) h' => spc_mem (b := false) (L' := L') (fun f hf => fol_out hL f hf) (fol_in hL) h')
    clear hok
    generalize spcL s m false = S at HV HSA HMEM
    go_enter Try.func39, Try.ntmps39
    go_wp2_with fail
    refine (implCanHave s m _ hs).mono ?_
    rintro e w1 ⟨rfl, hb1⟩
    have HB := Lib.hid hb1
    rw [HOK.out]
    clear hb1
    go_wp2_with fail
    refine (HF.out _).mono ?_
    rintro e w2 ⟨L, rfl, hF, hL, hl, hb⟩
    have HB2 : Hid (Below w.heap.size w w2) := HB.out.trans (hb.mono HB.out.size)
    have HSP := Lib.hid (implSpecial L w1.heap.size w2 hF (HSZ.out L hL))
    have HM := Lib.hid (fun L' h' => HMEM.out L L' hL h')
    have hl4 : L.length ≤ 400 := hl
    clear hF hL hl hb
    go_wp2_with fail
    refine HSP.out.mono ?_
    rintro e w3 ⟨L', rfl, hF3, hm3, hl3, hg3⟩
    have HB3 : Hid (Below w.heap.size w w3) := HB2.out.grown hg3 HB2.out.size (fun k hk => by injection hk with hk; have := HB.out.size; omega)
    have HS := Lib.hid (implSorted L' w1.heap.size S w3 hF3 (by omega) HSA.out (HM.out L' hm3))
    clear hF3 hm3 hl3 hg3
    go_wp2_with fail
    refine HS.out.mono ?_
    rintro e w4 ⟨v, rfl, ho, hb⟩
    have HO := Lib.hid (own_mono ho HB3.out.size)
    have HB4 : Hid (Below w.heap.size w w4) := HB3.out.trans (hb.mono HB3.out.size)
    obtain ⟨A, cp, rfl⟩ := own_slice ho
    clear ho hb
    go_wp2_with fail
    go_ret
    refine ⟨_, rfl, ?_, HB4.out⟩
    rw [HV.out]
    exact HO.out

set_option maxHeartbeats 400000 in
theorem implLeftSpecial (s : ByteArray) (n : Int) (w : World) (hs : s.size ≤ 1048576) :
    Calls Try.prog 40 #[.string s, .int .i64 n] w fun e w' => ∃ v, e = .returned v ∧ w'.ownsRow w.heap.size 9 1 v (spcR s n true).length (strs (spcR s n true)) ∧ Below w.heap.size w w' := by
  cases hok : fctOk s n
  · have HV : Hid (spcR s n true = []) := by show spcR s n true = []; unfold spcR; rw [hok]; rfl
    have HOK := Lib.hid hok
    clear hok
    go_enter Try.func40, Try.ntmps40
    go_wp2_with fail
    refine (implCanHave s n _ hs).mono ?_
    rintro e w1 ⟨rfl, hb1⟩
    have HB := Lib.hid hb1
    rw [HOK.out]
    clear hb1
    go_wp2_with fail
    go_ret
    refine ⟨_, rfl, ?_, HB.out⟩
    rw [HV.out]
    exact World.ownsRow_nil _ _ _ _
  · obtain ⟨h4, h1, h2⟩ := fct_ok hok
    obtain ⟨m, rfl⟩ : ∃ m : Nat, n = m := ⟨n.toNat, by omega⟩
    have HV : Hid (spcR s m true = spcL s m true) := if_pos hok
    have HOK := Lib.hid hok
    have HF := Lib.hid (fun w => implLed s m w h4 (by omega))
    have HSA := Lib.hid (spc_asc s m true)
    have HIN := Lib.hid (fun L (hL : SetIs L (ledS s m (s.size - m))) => led_in hL)
    have HSZ : Hid (∀ L, SetIs L (ledS s m (s.size - m)) → ∀ p ∈ L, p.1.size ≤ 1048576) := fun L hL p hp => by
      have hx := led_in hL p hp
      rw [fct_sz (fct_lt hx) hx]
      omega
    have HMEM := Lib.hid (fun (L L' : List FK) (hL : SetIs L (ledS s m (s.size - m))) h' => spc_mem (b := true) (L' := L') (fun f hf => led_out hL f hf) (led_in hL) h')
    clear hok
    generalize spcL s m true = S at HV HSA HMEM
    go_enter Try.func40, Try.ntmps40
    go_wp2_with fail
    refine (implCanHave s m _ hs).mono ?_
    rintro e w1 ⟨rfl, hb1⟩
    have HB := Lib.hid hb1
    rw [HOK.out]
    clear hb1
    go_wp2_with fail
    refine (HF.out _).mono ?_
    rintro e w2 ⟨L, rfl, hF, hL, hl, hb⟩
    have HB2 : Hid (Below w.heap.size w w2) := HB.out.trans (hb.mono HB.out.size)
    have HSP := Lib.hid (implSpecial L w1.heap.size w2 hF (HSZ.out L hL))
    have HM := Lib.hid (fun L' h' => HMEM.out L L' hL h')
    have hl4 : L.length ≤ 400 := hl
    clear hF hL hl hb
    go_wp2_with fail
    refine HSP.out.mono ?_
    rintro e w3 ⟨L', rfl, hF3, hm3, hl3, hg3⟩
    have HB3 : Hid (Below w.heap.size w w3) := HB2.out.grown hg3 HB2.out.size (fun k hk => by injection hk with hk; have := HB.out.size; omega)
    have HS := Lib.hid (implSorted L' w1.heap.size S w3 hF3 (by omega) HSA.out (HM.out L' hm3))
    clear hF3 hm3 hl3 hg3
    go_wp2_with fail
    refine HS.out.mono ?_
    rintro e w4 ⟨v, rfl, ho, hb⟩
    have HO := Lib.hid (own_mono ho HB3.out.size)
    have HB4 : Hid (Below w.heap.size w w4) := HB3.out.trans (hb.mono HB3.out.size)
    obtain ⟨A, cp, rfl⟩ := own_slice ho
    clear ho hb
    go_wp2_with fail
    go_ret
    refine ⟨_, rfl, ?_, HB4.out⟩
    rw [HV.out]
    exact HO.out
end Go.Proofs.Ytfcbfflkajlhnaa

/- append of one element that the walk has just laid, and where the new slice lies: so that a row read meanwhile is seen to stay. -/
namespace Go.Proofs.Ytfcbfflkajlhnaa
open Go.RowKit

theorem wpList_append1p {P : Program} (w : World) {ops : Array Oper} {rest : List Oper} {o : Oper} {a : Act} {Q : Exit → Act → World → Prop} (hgd : o.guard = none) (s x : Operand) (t : TypeId)
    (ho : o.op = .call { callee := .builtin .append, args := #[s, x], argTypes := #[t, t] })
    (base : Nat) (e : TypeId) (i : TypeInfo) (z : Value) (bytes : Nat) (ht : P.underlying t = some (.slice e)) (hi : P.info? e = some i) (hz : i.zero = some z)
    (hsize : i.size = 1) (hby : i.bytes = bytes) (hzs : z.cells.size = 1)
    (v : Value) (n : Nat) (xs : List Value) (hs : a.eval s = v) (hown : w.ownsRow base e 1 v n xs)
    (y : Value) (hy : y.oneCell' = true) (hx : a.eval x = .slice (some ⟨w.heap.size, 0, none⟩) 1 1)
    (h63 : n + 1 ≤ maxLen) (hbytes : (n + 1) * bytes ≤ 140737488355328) (hbase : base ≤ w.heap.size)
    (h : ∀ v' w', w'.ownsRow base e 1 v' (n + 1) (xs ++ [y]) → w.grownBy w' v.ownBlock → (v'.ownBlock = v.ownBlock ∨ v'.ownBlock = some (w.heap.size + 1)) → wpList P ops Q rest (a.put o.dst v') w') :
    wpList P ops Q (o :: rest) a (w.alloc (.cells #[y] e)) := by
  refine wpList_append_own_at _ hgd s x t ho base e i z 1 bytes ht hi hz hsize hby hzs (by decide) v n xs hs (hown.alloc _) ⟨w.heap.size, 0, none⟩ 1 1 [y] hx rfl ?_ ?_ h63 hbytes (by simp; omega) ?_
  · intro j u hu
    rcases j with _ | j
    · simp at hu
      subst hu
      rw [Addr.add_lit, World.cell?_alloc_at _ _ _ _ (by simp)]
      rfl
    · simp at hu
  · intro u hu
    simp at hu
    subst hu
    exact hy
  · intro v' w' h1 h2 _ h4
    simp only [World.size_alloc] at h4
    exact h v' w' h1 (grown_trans (World.grownBy_alloc _ _ _) h2) h4
/-- a slice that lies in block B or in none before S -/
def Away (B S : Nat) (v : Value) : Prop := ∀ k, v.ownBlock = some k → k = B ∨ S ≤ k
theorem Away.next {B S : Nat} {v v' : Value} {w : World} (h : Away B S v) (hS : S ≤ w.heap.size) (h2 : v'.ownBlock = v.ownBlock ∨ v'.ownBlock = some (w.heap.size + 1)) : Away B S v' := by
  intro k hk
  rcases h2 with e | e
  · exact h k (by rw [← e]; exact hk)
  · rw [e] at hk
    injection hk with hk
    exact .inr (by omega)
/-- a row that lies between them stays -/
theorem Away.keeps {B S L : Nat} {v : Value} {w w' : World} {e : TypeId} {u : Value} {n : Nat} {xs : List Value} (h : Away B S v) (hg : w.grownBy w' v.ownBlock) (hu : w.ownsRow L e 1 u n xs) (hB : B < L) (hS : ∀ k, u.ownBlock = some k → k < S) : w'.ownsRow L e 1 u n xs := by
  refine own_apart hu hg (fun k hk hk2 => ?_)
  have h1 := (hu.lt k hk).1
  have h2 := hS k hk
  rcases h k hk2 with h3 | h3 <;> omega
end Go.Proofs.Ytfcbfflkajlhnaa
