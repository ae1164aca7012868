/- Texts put together. -/
import Derived.RangeFuncNested
import Derived.RangeFuncLeaves
import Derived.WalkKit
import Derived.Test.YthckpgfhldocdaaMgp1
import Derived.Test.YthckpgfhldocdaaMgp25
import Derived.Test.YthckpgfhldocdaaMgp10
import Derived.Test.YthckpgfhldocdaaMgp2
import Derived.OwnWalk
import Derived.Lib.AppendStr
import Derived.Laws.EntriesVeiled
import Derived.Test.YthckpgfhldocdaaMgp12
import Derived.OwnWalkIn
import Derived.TacticsInMore
import Derived.LoopNIn
import Derived.LoopIn
import Derived.Sort.LoopGhostIn
import Derived.Deep.DeepCutAuto
import Derived.Deep.CutBlock
import Derived.Deep.LoopGhost
import Derived.Test.YthckpgfhldocdaaMgp6
import Derived.Deep.QuietTactic
import Derived.BigQuiet
/- A range over an iterator without end whose own blocks may turn: what it promises (Streams), and the statement out of it (rangeOver). No program in it. -/
namespace Go.Proofs.Ythckpgfhldocdaa
open Go.RowKit

/-- whatever lay outside X lies as it lay -/
structure Kept (X : Nat → Prop) (w w' : World) : Prop where
  os : w'.os = w.os
  tape : w'.tape = w.tape
  output : w'.output = w.output
  size : w.heap.size ≤ w'.heap.size
  block : ∀ k, k < w.heap.size → ¬ X k → w'.heap[k]? = w.heap[k]?

namespace Kept
variable {X Y : Nat → Prop} {a b c w : World}
theorem refl (X : Nat → Prop) (w : World) : Kept X w w := ⟨rfl, rfl, rfl, Nat.le_refl _, fun _ _ _ => rfl⟩
theorem trans (h : Kept X a b) (k : Kept X b c) : Kept X a c :=
  ⟨k.os.trans h.os, k.tape.trans h.tape, k.output.trans h.output, Nat.le_trans h.size k.size, fun i hi hx => (k.block i (Nat.lt_of_lt_of_le hi h.size) hx).trans (h.block i hi hx)⟩
theorem mono (h : Kept X a b) (hxy : ∀ k, X k → Y k) : Kept Y a b := ⟨h.os, h.tape, h.output, h.size, fun i hi hx => h.block i hi (fun e => hx (hxy i e))⟩
/-- only the blocks that lay in the first world matter -/
theorem mono' (h : Kept X a b) (hxy : ∀ k, k < a.heap.size → X k → Y k) : Kept Y a b := ⟨h.os, h.tape, h.output, h.size, fun i hi hx => h.block i hi (fun e => hx (hxy i hi e))⟩
theorem putObj {l : Nat} (o : Obj) (h : Kept X a b) (hl : X l) : Kept X a (b.putObj l o) :=
  h.trans ⟨rfl, rfl, rfl, by simp, fun k _ hk => World.putObj_heap_other (fun e => hk (e ▸ hl))⟩
theorem alloc (h : Kept X a b) (o : Obj) : Kept X a (b.alloc o) :=
  h.trans ⟨rfl, rfl, rfl, by simp, fun k hk _ => Below.heap_alloc _ _ _ hk⟩
theorem setCell (h : Kept X a b) {p : Addr} (hp : X p.block) (u : Value) : Kept X a (b.setCell p u) :=
  h.trans ⟨rfl, rfl, rfl, by simp [World.setCell], fun k _ hk => Below.heap_setCell _ _ _ _ (fun e => hk (e ▸ hp))⟩
theorem grown {row : Option Nat} (h : Kept X a b) (hg : b.grownBy c row) (hr : ∀ k, row = some k → X k) : Kept X a c :=
  h.trans ⟨hg.os, hg.tape, hg.output, hg.size, fun k hk hx => hg.block k hk (fun e => hx (hr k e.symm))⟩
theorem drew (h : Kept X a b) : Kept X a b.drew := ⟨h.os, h.tape, h.output, h.size, h.block⟩
theorem drewN (h : Kept X a b) (n : Nat) : Kept X a (b.drewN n) := ⟨h.os, h.tape, h.output, h.size, h.block⟩
theorem below {B : Nat} (h : Kept X a b) (hX : ∀ k, X k → B ≤ k) (hB : B ≤ a.heap.size) : Below B a b :=
  ⟨h.os, h.tape, h.output, h.size, fun k hk => h.block k (by omega) (fun e => by have := hX k e; omega)⟩
theorem of_below {B : Nat} (h : Below B a b) (hX : ∀ k, B ≤ k → k < a.heap.size → X k) : Kept X a b :=
  ⟨h.os, h.tape, h.output, h.size, fun k hk hx => h.block k (by rcases Nat.lt_or_ge k B with e | e; · exact e
                                                                exact absurd (hX k e hk) hx)⟩
theorem heap {k : Nat} {o : Obj} (h : Kept X a b) (hk : a.heap[k]? = some o) (hx : ¬ X k) : b.heap[k]? = some o :=
  (h.block k (Array.getElem?_eq_some_iff.1 hk).1 hx).trans hk
theorem cell {p : Addr} {v : Value} (h : Kept X a b) (hc : a.cell? p = some v) (hx : ¬ X p.block) : b.cell? p = some v :=
  (World.cell?_of_block (w := a) (h.block p.block (World.block_lt_of_cell? a _ hc) hx)).trans hc
theorem frozen {p : Addr} {v : Value} (h : Kept X a b) (hc : a.cell? p = some v) (hx : ¬ X p.block) : b.frozen? p = a.frozen? p :=
  World.frozen?_of_block (w := a) (h.block p.block (World.block_lt_of_cell? a _ hc) hx)
theorem boxed {B : Nat} {t : TypeId} {v : Value} (h : Kept X a b) (hc : Boxed a B t v) (hx : ¬ X B) : Boxed b B t v := h.heap hc hx
theorem row {base : Nat} {e : TypeId} {size n : Nat} {v : Value} {xs : List Value} (h : Kept X a b) (ho : a.ownsRow base e size v n xs) (hx : ∀ g, v.ownBlock = some g → ¬ X g) : b.ownsRow base e size v n xs := by
  obtain ⟨h1, h2⟩ := ho
  refine ⟨h1, ?_⟩
  rcases h2 with h2 | ⟨g, cap, cur, rfl, hb, hg, rest⟩
  · exact .inl h2
  · exact .inr ⟨g, cap, cur, rfl, hb, h.heap hg (hx g rfl), rest⟩
end Kept

/-- WHAT AN ITERATOR WITHOUT END PROMISES: at J, carried on from round to round, it hands over enc 0, enc 1, ..; it turns blocks laid since its call began (where Z), nothing else; a round keeps all outside X (and outside the loop's record l). -/
def Streams (P : Program) (gf : FuncId) (lb : Array Value) (enc : Nat → Value) (X : Nat → Prop) (Z : Prop) (N : Nat) (w : World) : Prop :=
  ∀ (l : Nat) (J : Nat → World → Prop) (Jx : World → Prop) (W : World), Below w.heap.size w W → w.heap.size ≤ l → l < W.heap.size →
    (∀ i A C, J i A → Kept (fun k => Z ∧ W.heap.size ≤ k) A C → J i C) →
    (∀ i A, J i A → i < N ∧ YieldAt Fence.wide 7 P l #[enc i] A fun e C => (e = .returned (.bool true) ∧ J (i + 1) C ∧ Kept (fun k => X k ∨ k = l) A C) ∨ (e = .returned (.bool false) ∧ Jx C)) →
    J 0 W → CallsIn Fence.wide 8 P gf (#[.func (.yield l) #[] #[]] ++ lb) W fun e C => (∃ v, e = .returned v) ∧ Jx C

/-- how a round's body may be left: off its end, or by the exit x -/
def overPost (X : Nat → Prop) (I : Nat → World → Prop) (Ix : World → Prop) (x i : Nat) (A : World) : Exit → Act → World → Prop
  | .normal, _, C => Kept X A C ∧ I (i + 1) C
  | .exit id, _, C => id = x ∧ Kept X A C ∧ Ix C
  | _, _, _ => False

theorem rangeOver {P : Program} {g : Operand} {ps : Array Tmp} {assign body : Code} {Q : Exit → Act → World → Prop} {a : Act} {w : World} {gf : Nat} {lb : Array Value}
    (hg : a.eval g = .func (.func gf) #[] lb) (eg : ∀ args w, (callFunc gf args).run P w = .ok (.enter gf args) w) (hps : ps.size = 1)
    {enc : Nat → Value} {X : Nat → Prop} {Z : Prop} {N : Nat} {w0 : World} (hseq : Streams P gf lb enc X Z N w0) (hw0 : Below w0.heap.size w0 w)
    (hX1 : ¬ X w.heap.size) (hX2 : ¬ X (w.heap.size + 1))
    (I : Nat → World → Prop) (Ix : World → Prop) (x : Nat)
    (hI : ∀ i A C, I i A → Kept (fun k => (k = w.heap.size ∨ k = w.heap.size + 1) ∨ (Z ∧ w.heap.size + 2 ≤ k)) A C → I i C)
    (hIx : ∀ A C, Ix A → Kept (fun k => k = w.heap.size + 1) A C → Ix C) (h0 : I 0 w) (a₁ : Nat → Act)
    (hassign : ∀ (l i : Nat) (A : World) (K : Act → World → Prop), K (a₁ i) A →
      assign.wpIn (Fence.wide.inRound l) 7 P (Exit.then K (fun _ _ _ => False)) { tmps := (ps.zip #[enc i]).foldl (fun t (p, v) => t.setIfInBounds p v) a.tmps, defers := [] } A)
    (hbody : ∀ (l i : Nat) (A : World), w.heap.size + 2 ≤ A.heap.size → I i A → i < N ∧ body.wpIn (Fence.wide.inRound l) 7 P (overPost X I Ix x i A) (a₁ i) A)
    (hstop : ∀ (D : Nat) (C : World), w.heap.size ≤ D → Ix C → C.heap[D]? = some (.deferred (some [])) → (Code.exit x).wpIn Fence.wide 9 P Q { a with defers := { target := .collected D, args := #[] } :: a.defers } C) :
    (Code.rangeFunc g ps assign body).wpIn Fence.wide 9 P Q a w := by
  refine wpIn_rangeFunc ?_
  intro fn hfn
  obtain ⟨rec, hrec⟩ : ∃ rec : LoopState → Option Code → Loop, rec = fun st pe => { state := st, pending := pe, fn, tmps := a.tmps, params := ps, assign, body, defers := w.heap.size } := ⟨_, rfl⟩
  obtain ⟨V, hV⟩ : ∃ V, (w.alloc (.deferred (some []))).alloc (.loop (rec .ready none)) = V := ⟨_, rfl⟩
  have kV : Kept (fun _ => False) w V := by rw [← hV]; exact ((Kept.refl _ w).alloc _).alloc _
  have sV : V.heap.size = w.heap.size + 2 := by rw [← hV]; simp
  have lV : V.heap[w.heap.size + 1]? = some (.loop (rec .ready none)) := by
    rw [← hV]
    have := World.alloc_heap_new (w.alloc (.deferred (some []))) (.loop (rec .ready none))
    rwa [World.size_alloc] at this
  have dV : V.heap[w.heap.size]? = some (.deferred (some [])) := by
    rw [← hV]; exact (Below.heap_alloc _ _ _ (by simp)).trans (World.alloc_heap_new w _)
  refine ⟨w.heap.size + 1, [{ target := .collected w.heap.size, args := #[] }], V, { target := .fn (.func gf) lb, args := #[.func (.yield (w.heap.size + 1)) #[] #[]] }, V, gf, #[.func (.yield (w.heap.size + 1)) #[] #[]] ++ lb, V, ?_, ?_, fun _ _ => trivial, ?_, fun _ => by omega, ?_⟩
  · rw [← hV, hrec]; exact run_enterLoop_outer _ _ _ _ _
  · simp only [resolve, hg]
    simp [go_sem]
  · simp [invoke, go_sem, eg]
  · refine (hseq (w.heap.size + 1) (fun i W => I i W ∧ W.heap[w.heap.size + 1]? = some (.loop (rec .ready none)) ∧ W.heap[w.heap.size]? = some (.deferred (some [])))
      (fun W => Ix W ∧ W.heap[w.heap.size + 1]? = some (.loop (rec .done (some (.exit x)))) ∧ W.heap[w.heap.size]? = some (.deferred (some []))) V
      (hw0.trans ((kV.below (fun _ h => h.elim) (Nat.le_refl _)).mono hw0.size)) (by have := hw0.size; omega) (by omega) ?_ ?_ ?_).mono ?_
    · rintro i A C ⟨h1, h2, h3⟩ hk
      have nb : ∀ k, k < w.heap.size + 2 → ¬ (Z ∧ V.heap.size ≤ k) := fun k hk' h => by omega
      exact ⟨hI i A C h1 (hk.mono fun k h => .inr ⟨h.1, by omega⟩), hk.heap h2 (nb _ (by omega)), hk.heap h3 (nb _ (by omega))⟩
    · rintro i A ⟨h1, h2, h3⟩
      have hlt : w.heap.size + 1 < A.heap.size := (Array.getElem?_eq_some_iff.1 h2).1
      refine ⟨(hbody 0 i A (by omega) h1).1, ?_⟩
      have hy := run_yield (P := P) (args := #[enc i]) h2 (by rw [hrec]; simp [hps])
      rw [hrec] at hy
      refine ⟨fn, _, assign, body, hy, roundIn_of_wpIn hfn (hassign _ i A _ ⟨_, run_beginRound h2 (by rw [hrec]), ?_⟩)⟩
      obtain ⟨A2, hA2⟩ : ∃ A2, A.putObj (w.heap.size + 1) (.loop { rec .ready none with state := .busy }) = A2 := ⟨_, rfl⟩
      rw [hA2]
      have k2 : Kept (fun k => k = w.heap.size + 1) A A2 := by rw [← hA2]; exact (Kept.refl _ A).putObj _ rfl
      have l2 : A2.heap[w.heap.size + 1]? = some (.loop { rec .ready none with state := .busy }) := by rw [← hA2]; exact World.putObj_heap_same hlt
      have d2 : A2.heap[w.heap.size]? = some (.deferred (some [])) := k2.heap h3 (by omega)
      refine wpIn_mono (hbody _ i A2 (by have := k2.size; omega) (hI i A A2 h1 (k2.mono fun k h => .inl (.inr h)))).2 ?_
      have fin : ∀ (jump : Option Code) (W3 : World), Kept X A2 W3 →
          (Instr.endRound (w.heap.size + 1) jump).run P W3 = .ok (.bool jump.isNone) (W3.putObj (w.heap.size + 1) (.loop (rec (if jump.isNone then .ready else .done) jump))) ∧
          (W3.putObj (w.heap.size + 1) (.loop (rec (if jump.isNone then .ready else .done) jump))).heap[w.heap.size + 1]? = some (.loop (rec (if jump.isNone then .ready else .done) jump)) ∧
          (W3.putObj (w.heap.size + 1) (.loop (rec (if jump.isNone then .ready else .done) jump))).heap[w.heap.size]? = some (.deferred (some [])) := fun jump W3 k3 => by
        have l3 := k3.heap l2 hX2
        have d3 := k3.heap d2 hX1
        have hr := run_endRound (P := P) jump l3
        rw [hrec] at hr ⊢
        exact ⟨hr, World.putObj_heap_same (Array.getElem?_eq_some_iff.1 l3).1, (World.putObj_heap_other (by omega)).trans d3⟩
      rintro e a3 W3 hp
      cases e with
      | normal =>
        obtain ⟨k3, i3⟩ := hp
        obtain ⟨hr, l4, d4⟩ := fin none W3 k3
        refine ⟨_, _, hr, .inl ⟨rfl, ⟨hI _ _ _ i3 ((Kept.refl _ W3).putObj _ (.inl (.inr rfl))), l4, d4⟩, ?_⟩⟩
        exact ((k2.mono fun k h => .inr h).trans (k3.mono fun k h => .inl h)).putObj _ (.inr rfl)
      | exit id =>
        obtain ⟨rfl, k3, i3⟩ := hp
        obtain ⟨hr, l4, d4⟩ := fin (some (.exit id)) W3 k3
        exact ⟨_, _, hr, .inr ⟨rfl, hIx _ _ i3 ((Kept.refl _ W3).putObj _ rfl), l4, d4⟩⟩
      | ret => exact hp.elim
      | goto t => exact hp.elim
      | panic ch => exact hp.elim
      | outgrown => exact hp.elim
    · exact ⟨hI 0 w V h0 (kV.mono fun _ h => h.elim), lV, dV⟩
    · rintro e C ⟨⟨v, rfl⟩, hx, hl, hd⟩
      have hr := run_endLoop (P := P) hl (by rw [hrec]; simp)
      refine ⟨some (.exit x), _, by rw [hrec] at hr; exact hr, ?_⟩
      exact hstop _ _ (Nat.le_refl _) (hIx _ _ hx ((Kept.refl _ C).putObj _ rfl)) ((World.putObj_heap_other (by omega)).trans hd)
/-- what follows is met off the statement's end alone -/
theorem wp_calm {P : Program} {c : Code} {K : Act → World → Prop} {Q : Exit → Act → World → Prop} {a : Act} {w : World} (h : c.wp P (Exit.then K (fun _ _ _ => False)) a w) : c.wp P (Exit.then K Q) a w :=
  (wpIn_wide (n := 0)).1 (wpIn_mono ((wpIn_wide (n := 0)).2 h) (fun e _ _ q => by cases e <;> first | exact q | exact q.elim))
end Go.Proofs.Ythckpgfhldocdaa

/- The program's table of closures, one an image, and what they write. Condition: the substitution is valid. -/
namespace Go.Proofs.Ythckpgfhldocdaa
open Go.RowKit

/-- one more cell of L laid over the old cells zs -/
theorem lay_set (L zs : List Value) (k : Nat) (hk : k < L.length) (hz : zs.length = L.length) : (L.take k ++ zs.drop k).set k L[k] = L.take (k + 1) ++ zs.drop (k + 1) := by
  have hd : zs.drop k = zs[k]'(by omega) :: zs.drop (k + 1) := List.drop_eq_getElem_cons _
  have hlk : (L.take k).length = k := by rw [List.length_take]; omega
  rw [List.take_succ_eq_append_getElem hk, hd, List.set_append_right _ _ (by omega), hlk, Nat.sub_self, List.set_cons_zero, List.append_assoc]
  rfl
theorem lay_get (L zs : List Value) (k : Nat) (hk : k < L.length) (hz : zs.length = L.length) : ∃ u, (L.take k ++ zs.drop k)[k]? = some u :=
  ⟨(L.take k ++ zs.drop k)[k]'(by rw [List.length_append, List.length_take, List.length_drop]; omega), List.getElem?_eq_getElem _⟩
theorem lay_end (L zs : List Value) (hz : zs.length = L.length) : L.take L.length ++ zs.drop L.length = L := by
  rw [List.take_length, List.drop_of_length_le (by omega), List.append_nil]

/-- the closure that appends the text at p -/
def clo (p : Nat) : Value := .func (.func 68) #[] #[.pointer (some ⟨p, 0, none⟩)]
/-- at g lies the table of the images l, the images at S and on -/
def ImgTab (w : World) (S g : Nat) (l : List ByteArray) : Prop := ∀ k (hk : k < l.length), w.cell? ⟨g, k, none⟩ = some (clo (S + k)) ∧ w.cell? ⟨S + k, 0, none⟩ = some (.string l[k])
theorem ImgTab.below {w w' : World} {S g : Nat} {l : List ByteArray} (h : ImgTab w S g l) (hb : Below w.heap.size w w') : ImgTab w' S g l := fun k hk =>
  ⟨(hb.cell (World.block_lt_of_cell? w _ (h k hk).1)).trans (h k hk).1, (hb.cell (World.block_lt_of_cell? w _ (h k hk).2)).trans (h k hk).2⟩

theorem implAppendText (s : ByteArray) (p B : Nat) (v : Value) (n : Nat) (xs : List UInt8) (w : World) (hc : w.cell? ⟨p, 0, none⟩ = some (.string s)) (hown : w.ownsRow B 5 1 v n (byteCells xs)) (hn : n ≤ 1048576) (hs : s.size ≤ 1048576) (hB : B ≤ w.heap.size) :
    Calls Try.prog 68 #[v, .pointer (some ⟨p, 0, none⟩)] w fun e w' => ∃ v', e = .returned v' ∧ w'.ownsRow B 5 1 v' (n + s.size) (byteCells (xs ++ s.data.toList)) ∧ w.grownBy w' v.ownBlock := by
  obtain ⟨i0, hi0, hz0, hz1, hz2⟩ := info_parts u8_info
  obtain ⟨A, cp, rfl⟩ := own_slice hown
  have HO := Lib.hid hown
  clear hown
  go_enter Try.func68, Try.ntmps68
  go_wp2_with (at_builtin; refine Lib.wpList_append_own_string _ rfl (.tmp 4) (.tmp 5) 22 9 rfl B 5 i0 Try.underlying22 Try.underlying9 hi0 hz0 hz1 hz2 _ n _ rfl HO.out s rfl (by unfold maxLen; omega) (by omega) hB ?_; intro v' w' hown' hgrow _)
  have HW := Lib.hid hown'
  have HG := Lib.hid hgrow
  clear hown' hgrow
  go_ret
  refine ⟨_, rfl, ?_, HG.out⟩
  have := HW.out
  unfold byteCells at this ⊢
  rwa [List.map_append]

theorem fn_info : (Try.prog.info? 98).map (fun i => (i.zero, i.size, i.bytes)) = some (some .nilFunc, 1, 8) := by kernel_rfl
def clos (S n : Nat) : List Value := (List.range n).map fun j => clo (S + j)
theorem clos_length (S n : Nat) : (clos S n).length = n := by simp [clos]
theorem clos_at (S n k : Nat) (h : k < (clos S n).length) : (clos S n)[k] = clo (S + k) := by simp [clos]

set_option maxHeartbeats 400000 in
theorem implTableAt (l : List ByteArray) (v : Value) (w : World) (h : Lst w v (strs l)) (hl1 : 1 ≤ l.length) (hl4 : l.length ≤ 4) :
    Calls Try.prog 49 #[.agg #[v]] w fun e w' => ∃ g S, w.heap.size ≤ g ∧ w.heap.size ≤ S ∧ e = .returned (.slice (some ⟨g, 0, none⟩) l.length l.length) ∧ ImgTab w' S g l ∧ Below w.heap.size w w' := by
  obtain ⟨i0, hi0, hz0, hz1, hz2⟩ := info_parts fn_info
  obtain ⟨b, off, cp, rfl, hat⟩ := lst_at h (by omega)
  have H1 := Lib.hid hat
  clear h hat
  have hb0 : Below w.heap.size w (w.alloc (.cells #[.slice (some ⟨b, off, none⟩) l.length cp] 34)) := (Below.refl _ _).alloc (Nat.le_refl _) _
  have hbw := World.block_lt_of_cell? w _ (H1.out 0 (by omega))
  go_enter Try.func49, Try.ntmps49
  go_wp2_with (at_make; refine wpList_make_full _ rfl _ _ 76 rfl (w.heap.size + 1) 98 i0 .nilFunc 1 Try.underlying76 hi0 hz0 hz1 .i64 .i64 _ _ l.length rfl rfl rfl rfl (by rw [hz2]; omega) (by unfold maxLen; omega) (by simp) ?_; intro w1 hown hgrow; have c0 : w1.cell? ⟨w.heap.size, 0, none⟩ = some (.slice (some ⟨b, off, none⟩) l.length cp) := (hgrow.cell (a := ⟨w.heap.size, 0, none⟩) (by rw [World.cell?_alloc_at _ _ _ _ rfl]; rfl) (by simp)))
  have HB1 : Hid (Below w.heap.size w w1) := hb0.grown hgrow (by simp) (fun k hk => by cases hk)
  have hsz1 : w.heap.size + 2 ≤ w1.heap.size := by
    have h1 := (hown.lt (w.heap.size + 1) (by simp [Value.ownBlock])).2
    omega
  have HS : Hid (∃ S, S = w1.heap.size) := ⟨_, rfl⟩
  have HZL : Hid (((madeCells Value.nilFunc.cells (l.length * 1)).toList).length = (clos w1.heap.size l.length).length) := by
    have := hown.1
    unfold Hid
    rw [clos_length]
    omega
  have HCL := Lib.hid (clos_length w1.heap.size l.length)
  have HCA := Lib.hid (clos_at w1.heap.size l.length)
  generalize (madeCells Value.nilFunc.cells (l.length * 1)).toList = zs at hown HZL
  generalize hLL : clos w1.heap.size l.length = L at HZL HCL HCA
  clear hLL hgrow hb0 HS
  go_loopw [13] (fun i wr => ∃ k : Nat, k ≤ l.length ∧ i = .int .i64 k ∧ wr.heap.size = w1.heap.size + k ∧ wr.ownsRow (w.heap.size + 1) 98 1 (.slice (some ⟨w.heap.size + 1, 0, none⟩) l.length l.length) l.length (L.take k ++ zs.drop k) ∧ (∀ j (_ : j < k) (hj : j < l.length), wr.cell? ⟨w1.heap.size + j, 0, none⟩ = some (.string l[j])) ∧ Below w.heap.size w wr) (fun i _ => l.length - (intOf i).toNat)
  case atStart => exact ⟨0, by omega, rfl, by omega, by simpa using hown, fun j hj => absurd hj (by omega), HB1.out⟩
  case round =>
    obtain ⟨k, hk, rfl, hsk, ho, hcs, hbk⟩ := hrel
    have HCS := Lib.hid hcs
    clear hcs
    by_cases hlt : k < l.length
    · have hkL : k < L.length := by rw [HCL.out]; exact hlt
      obtain ⟨u, hu⟩ := lay_get L zs k hkL HZL.out
      have g1 : wr.cell? ⟨b, off + k, none⟩ = some (.string l[k]) := (hbk.cell (p := ⟨b, off + k, none⟩) hbw).trans (H1.out k hlt)
      have g2 := (ho.cellAt k (by omega)).trans hu
      have g3 := ho.frozenAt k
      have hgl := (ho.lt (w.heap.size + 1) (by simp [Value.ownBlock])).2
      have HSK := Lib.hid hsk
      clear hu hsk
      go_wp2_with fail
      go_roundw
      case rel =>
        refine ⟨k + 1, by omega, by go_num, by simp [HSK.out]; omega, ?_, ?_, ?_⟩
        · have := (ho.stored k (clo (w1.heap.size + k))).1
          rw [← HCA.out k hkL, lay_set L zs k hkL HZL.out] at this
          rw [HCA.out k hkL] at this
          have h2 := this.alloc (.cells #[.string l[k]] 9)
          rw [← HSK.out] at h2
          exact h2
        · intro j hj hj'
          by_cases e : j = k
          · subst e
            rw [← HSK.out]
            go_simp
          · have := HCS.out j (by omega) hj'
            have hne : w1.heap.size + j < wr.heap.size := by rw [HSK.out]; omega
            go_simp
        · exact (hbk.setCell (by simp) _).alloc (by simp; omega) _
      case measure => simp [intOf]; omega
    · have hkl : k = l.length := by omega
      have HT : Hid (ImgTab wr (w1.heap.size) (w.heap.size + 1) l) := by
        intro j hj
        refine ⟨?_, HCS.out j (by omega) hj⟩
        have e : L.take k ++ zs.drop k = L := by rw [hkl, ← HCL.out]; exact lay_end L zs HZL.out
        have ho := ho
        rw [e] at ho
        have hjL : j < L.length := by rw [HCL.out]; exact hj
        rw [← HCA.out j hjL]
        have := ho.cellAt j (by omega)
        exact this.trans (List.getElem?_eq_getElem hjL)
      go_wp2_with fail
      go_ret
      exact ⟨_, _, by omega, by omega, rfl, HT.out, hbk⟩
theorem implTable (l : List ByteArray) (v : Value) (w : World) (h : Lst w v (strs l)) (hl1 : 1 ≤ l.length) (hl4 : l.length ≤ 4) :
    Calls Try.prog 49 #[.agg #[v]] w fun e w' => ∃ g S, e = .returned (.slice (some ⟨g, 0, none⟩) l.length l.length) ∧ ImgTab w' S g l ∧ Below w.heap.size w w' :=
  (implTableAt l v w h hl1 hl4).mono fun _ _ ⟨g, S, _, _, he, ht, hb⟩ => ⟨g, S, he, ht, hb⟩

end Go.Proofs.Ythckpgfhldocdaa

/- The letters of the fixed point: the program's iterator. Condition: the substitution is valid, its letter growing. -/
namespace Go.Proofs.Ythckpgfhldocdaa
open Go.RowKit
attribute [local go_sem] Oper.semAt_some

/-- the i-th letter of the fixed point -/
def fixB (l : List ByteArray) (k i : Nat) : UInt8 := (fixL l k (i + 1)).getD i 97
def encFix (l : List ByteArray) (k i : Nat) : Value := .int .u8 ((fixB l k i).toNat : Int)
section
variable {l : List ByteArray} {k : Nat} (hl : substB l = true) (hk : k < l.length) (hg : growB l k = true)
include hl hk hg
theorem fixB_at (m i : Nat) (h : i < (applyL l (fixL l k m)).length) : (applyL l (fixL l k m))[i] = fixB l k i := by
  have e := pre_take hl hk hg (build_pre m) (i + 1) (by omega)
  unfold fixB
  rw [← e, List.getD_eq_getElem?_getD, List.getElem?_take_of_lt (by omega), List.getElem?_eq_getElem h]
  rfl
theorem fixL_snoc (i : Nat) : fixL l k (i + 1) = fixL l k i ++ [fixB l k i] := by
  have e := pre_take hl hk hg (fixL_pre l k (i + 1)) i (by rw [fixL_length hl hk hg]; omega)
  have h := fixL_length hl hk hg (i + 1)
  have h2 : i < (fixL l k (i + 1)).length := by omega
  have h3 : fixL l k (i + 1) = (fixL l k (i + 1)).take (i + 1) := (List.take_of_length_le (by omega)).symm
  rw [h3, List.take_succ_eq_append_getElem h2, e]
  congr 2
  unfold fixB
  rw [List.getD_eq_getElem?_getD, List.getElem?_eq_getElem h2]
  rfl
theorem fix_step (i : Nat) (h : 1 ≤ i) : ∃ (j : Nat) (hj : j < l.length), (fixB l k i).toNat = 97 + j ∧ applyL l (fixL l k (i + 1)) = applyL l (fixL l k i) ++ l[j].data.toList := by
  obtain ⟨i', rfl⟩ : ∃ i', i = i' + 1 := ⟨i - 1, by omega⟩
  obtain ⟨h1, j, hj, h2, h3⟩ := build_step hl hk hg i'
  exact ⟨j, hj, by rw [← fixB_at hl hk hg (i' + 1) (i' + 1) h1]; exact h2, h3⟩
theorem fixL_len8 (m : Nat) : (applyL l (fixL l k m)).length ≤ 8 * m := by
  have := applyL_le hl (fixL l k m)
  rwa [fixL_length hl hk hg] at this
end

set_option maxRecDepth 100000 in
set_option maxHeartbeats 1000000 in
theorem fixStreams (l : List ByteArray) (k : Nat) (X : Nat → Prop) (N pt pg g cp S : Nat) (w : World) (hl : substB l = true) (hk : k < l.length) (hg : growB l k = true) (hN : N ≤ 10002)
    (hpg : w.cell? ⟨pg, 0, none⟩ = some (.int .u8 (97 + (k : Int)))) (hpt : w.cell? ⟨pt, 0, none⟩ = some (.slice (some ⟨g, 0, none⟩) l.length cp))
    (hat : ImgTab w S g l) (hx1 : ¬ X pt) (hx2 : ¬ X g) (hx3 : ∀ j, j < l.length → ¬ X (S + j)) (hx4 : ∀ q, w.heap.size ≤ q → ¬ X q) :
    Streams Try.prog 69 #[.pointer (some ⟨pt, 0, none⟩), .pointer (some ⟨pg, 0, none⟩)] (encFix l k) X True N w := by
  intro lp J Jx W hW hl1 hl2 hab hy h0
  obtain ⟨hm1, hm4, hm5⟩ := subst_parts hl
  have c1 := (hW.cell (World.block_lt_of_cell? w _ hpg)).trans hpg
  have c2 := (hW.cell (World.block_lt_of_cell? w _ hpt)).trans hpt
  have n2 : pt ≠ lp ∧ pt < W.heap.size := by have : pt < w.heap.size := World.block_lt_of_cell? w ⟨pt, 0, none⟩ hpt; omega
  have HAT : Hid (ImgTab W S g l) := hat.below hW
  have n3 : g ≠ lp ∧ g < W.heap.size := by have : g < w.heap.size := World.block_lt_of_cell? w ⟨g, 0, none⟩ (hat 0 (by omega)).1; omega
  have n4 : Hid (∀ j, j < l.length → S + j ≠ lp ∧ S + j < W.heap.size) := fun j hj => by have : S + j < w.heap.size := World.block_lt_of_cell? w ⟨S + j, 0, none⟩ (hat j hj).2; omega
  have n5 : Hid (∀ q, W.heap.size ≤ q → ¬ (X q ∨ q = lp)) := fun q hq h => by
    have := hW.size
    rcases h with h | h
    · exact hx4 q (by omega) h
    · omega
  have HY := Lib.hid hy
  have HC2 := Lib.hid c2
  have HAB := Lib.hid hab
  have g0 := (HAT.out k hk).1
  have g1 := (HAT.out k hk).2
  have HI := Lib.hid hm5
  have HX3 := Lib.hid hx3
  have HX4 := Lib.hid hx4
  unfold clo at g0
  have hsk := (img_parts (hm5 k hk)).2.1
  have e1 := build_one hl hk hg
  have HLI := Lib.hid (fun w => letterAt (97 + (k : Int)) (k : Int) w (by omega) (by omega) (by omega))
  have HAP := Lib.hid (implAppendText l[k] (S + k) W.heap.size (.slice none 0 0) 0 [] W.drew g1 (World.ownsRow_nil _ _ _ _) (by omega) (by omega) (by simp))
  have b1 : (k : Int) < (l.length : Int) := by omega
  clear hpg hpt hat hl1 hl2 hab hy hm5 hx3 hx4
  refine callsIn_of_wp Try.func69 rfl trivial ?_ rfl
  simp only [Try.ntmps69, List.size_toArray, List.length_cons, List.length_nil, Nat.reduceAdd, Nat.reduceSub, Array.replicate_succ, Array.replicate_zero, List.push_toArray, List.append_toArray, List.nil_append, List.cons_append]
  refine wpIn_wide.2 ?_
  go_upto_region 0 with (fail)
  go_cut [4] (fun o wx => wx.ownsRow W.heap.size 5 1 o (applyL l (fixL l k 1)).length (byteCells (applyL l (fixL l k 1))) ∧ Kept (fun _ => False) W wx)
  case first =>
    go_region_with (first
      | (go_at_call 67; refine (HLI.out _).mono ?_; rintro e w' ⟨rfl, rfl⟩)
      | (refine HAP.out.mono ?_; rintro e w1 ⟨v1, rfl, ho1, hg1⟩))
    all_goals
      go_wp2_with fail
      go_meet
      refine ⟨?_, ((Kept.refl _ W).drew).grown hg1 (fun q e => by cases e)⟩
      rw [e1]
      have := ho1
      simp only [Nat.zero_add, List.nil_append] at this
      rw [show l[k].data.toList.length = l[k].size by simp]
      exact this
  case rest =>
    obtain ⟨ho0, hk0⟩ := hcut
    obtain ⟨wx, rfl⟩ : ∃ x : World, x = wc := ⟨_, rfl⟩
    clear g0 g1 HAP HLI b1 e1 c1
    have HK0 : Hid (Kept (fun q => (X q ∨ q = lp) ∨ W.heap.size ≤ q) W wx) := hk0.mono fun _ h => h.elim
    have HJ0 : Hid (J 0 wx) := HAB.out 0 W wx h0 (hk0.mono fun _ h => h.elim)
    have HO0 := Lib.hid ho0
    have HB1 := Lib.hid (fun m i h => fixB_at hl hk hg m i h)
    have HB2 := Lib.hid (fun i => build_long hl hk hg i)
    have HB3 := Lib.hid (fun i h => fix_step hl hk hg i h)
    have HB8 := Lib.hid (fun m => fixL_len8 hl hk hg m)
    have HS0 := Lib.hid hk0.size
    clear ho0 hk0 h0 hsk
    go_wp2_with fail
    go_loopg [4, 5] N (fun mm o ix wr => ∃ i m, i + mm = N ∧ ((i = 0 ∧ m = 1) ∨ (1 ≤ i ∧ m = i)) ∧ ix = .int .i64 (i : Int) ∧ wr.ownsRow W.heap.size 5 1 o (applyL l (fixL l k m)).length (byteCells (applyL l (fixL l k m))) ∧ J i wr ∧ Kept (fun q => (X q ∨ q = lp) ∨ W.heap.size ≤ q) W wr)
    case atStart => exact ⟨0, 1, by omega, .inl ⟨rfl, rfl⟩, rfl, HO0.out, HJ0.out, HK0.out⟩
    case round =>
      obtain ⟨i, m, him, hmi, rfl, ho, hj, hkp⟩ := hrel
      obtain ⟨hlt, fn, tmps, assign, body, hy, hR⟩ := HY.out i _ hj
      have hlen : i < (applyL l (fixL l k m)).length := by
        rcases hmi with h | h
        · have := HB2.out 0
          rw [h.2]
          rw [show 0 + 1 = 1 from rfl] at this
          omega
        · have := HB2.out (i - 1)
          rw [show i - 1 + 1 = m by omega] at this
          omega
      have hfb := HB1.out m i hlen
      have h8 := HB8.out m
      have HM : Hid (m ≤ i + 1) := by show m ≤ i + 1; omega
      have HHIM := Lib.hid him
      have HR := Lib.hid hR
      have HKP := Lib.hid hkp
      have HPF : Hid (1 ≤ i → ∃ (j : Nat) (hj : j < l.length), (fixB l k i).toNat = 97 + j ∧ applyL l (fixL l k (i + 1)) = applyL l (fixL l k i) ++ l[j].data.toList) := HB3.out i
      unfold encFix at hy
      have HP : Hid (∃ p, applyL l (fixL l k m) = p) := ⟨_, rfl⟩
      obtain ⟨p, hp⟩ := HP.out
      rw [hp] at hlen ho h8
      have hpi : p[i] = fixB l k i := by rw [← hfb]; congr 1; exact hp.symm
      have HPP := Lib.hid hp
      clear hfb hR hkp hp HP
      obtain ⟨gr, cp', rfl, hcap⟩ := own_some ho (by omega)
      have gi := ho.cells (g := gr) rfl i (.int .u8 (p[i].toNat : Int)) (by simp [byteCells, List.getElem?_eq_getElem hlen])
      rw [hpi, Addr.add_lit, Nat.zero_add] at gi
      have hgr : W.heap.size ≤ gr := (ho.lt gr (by simp [Value.ownBlock])).1
      have HO := Lib.hid ho
      have bi : (i : Int) < (p.length : Int) := by omega
      have HNX : Hid (∀ q, (Value.slice (some ⟨gr, 0, none⟩) p.length cp').ownBlock = some q → ¬ (X q ∨ q = lp)) := fun q e => by
        simp [Value.ownBlock] at e
        exact n5.out q (by omega)
      have hiN : i ≤ 10002 := by omega
      rcases hmi with hi | hi
      · have HI0 := Lib.hid hi
        have d1 : ¬ 0 < i := by omega
        have d2 : decide (0 < i) = false := by simp; omega
        clear hi ho him
        refine (wpIn_wide (n := 8)).1 ?_
        gi_wp2
        refine HR.out.mono ?_
        rintro e W3 (⟨rfl, hJ3, hk3⟩ | ⟨rfl, hJx3⟩)
        · have HO3 : Hid (W3.ownsRow W.heap.size 5 1 (.slice (some ⟨gr, 0, none⟩) p.length cp') p.length (byteCells p)) := hk3.row HO.out HNX.out
          have HK3 : Hid (Kept (fun q => (X q ∨ q = lp) ∨ W.heap.size ≤ q) W W3) := HKP.out.trans (hk3.mono fun q h => .inl h)
          have HJ3 := Lib.hid hJ3
          clear hk3 hJ3
          gi_wp2
          go_roundg (gk - 1)
          case rel =>
            obtain ⟨h1, h2⟩ := HI0.out
            have h3 := HHIM.out
            refine ⟨i + 1, m, by omega, .inr ⟨by omega, by omega⟩, by go_num, ?_, HJ3.out, HK3.out⟩
            rw [HPP.out]
            exact HO3.out
          case measure => have h3 := HHIM.out; omega
        · gi_wp2
          go_end0
          exact ⟨⟨_, rfl⟩, hJx3⟩
      · have HI0 := Lib.hid hi
        obtain ⟨j, hjl, hbj, hnext⟩ := HPF.out hi.1
        have d1 : 0 < i := hi.1
        have d2 : decide (0 < i) = true := by simp; omega
        have HNEXT : Hid (applyL l (fixL l k (m + 1)) = p ++ l[j].data.toList) := by
          show _ = _
          rw [hi.2, hnext, ← hi.2, HPP.out]
        have hsj := (img_parts (HI.out j hjl)).2.1
        have HBJ := Lib.hid hbj
        clear hi ho him hnext hbj
        refine (wpIn_wide (n := 8)).1 ?_
        gi_wp2
        refine HR.out.mono ?_
        rintro e W3 (⟨rfl, hJ3, hk3⟩ | ⟨rfl, hJx3⟩)
        · have ho3 : W3.ownsRow W.heap.size 5 1 (.slice (some ⟨gr, 0, none⟩) p.length cp') p.length (byteCells p) := hk3.row HO.out HNX.out
          have HK3 : Hid (Kept (fun q => (X q ∨ q = lp) ∨ W.heap.size ≤ q) W W3) := HKP.out.trans (hk3.mono fun q h => .inl h)
          have HJ3 := Lib.hid hJ3
          have gi3 := ho3.cells (g := gr) rfl i (.int .u8 (p[i].toNat : Int)) (by simp [byteCells, List.getElem?_eq_getElem hlen])
          rw [hpi, Addr.add_lit, Nat.zero_add] at gi3
          have t3 : W3.cell? ⟨pt, 0, none⟩ = some (.slice (some ⟨g, 0, none⟩) l.length cp) := HK3.out.cell HC2.out (by simp [hx1]; omega)
          have t4 := HK3.out.cell (HAT.out j hjl).1 (by simp [hx2]; omega)
          have t5 := HK3.out.cell (HAT.out j hjl).2 (by have := n4.out j hjl; simp [HX3.out j hjl]; omega)
          unfold clo at t4
          have hs3 : W.heap.size ≤ W3.heap.size := HK3.out.size
          have HLI := Lib.hid (fun w => letterAt ((fixB l k i).toNat : Int) (j : Int) w (by have := HBJ.out; omega) (by omega) (by omega))
          have HAP := Lib.hid (implAppendText l[j] (S + j) W.heap.size (.slice (some ⟨gr, 0, none⟩) p.length cp') p.length p W3.drew t5 ho3.drew (by have := HM.out; omega) (by omega) (by simpa using hs3))
          have bj : (j : Int) < (l.length : Int) := by omega
          clear hk3 hJ3 ho3
          gi_wp2
          refine wpIn_wide.2 ?_
          go_region_with (first
            | (go_at_call 67; refine (HLI.out _).mono ?_; rintro e w' ⟨rfl, rfl⟩)
            | (refine HAP.out.mono ?_; rintro e w1 ⟨v1, rfl, ho1, hg1⟩))
          all_goals
            have HOX := Lib.hid ho1
            have HKX : Hid (Kept (fun q => W.heap.size ≤ q) W3 w1) := ((Kept.refl _ W3).drew).grown hg1 (fun q e => (HO.out.lt q e).1)
            clear ho1 hg1 t3 t4 t5 gi3
            go_wp2_with fail
            gi_wp2
            go_roundg (gk - 1)
            case rel =>
              obtain ⟨h1, h2⟩ := HI0.out
              have h3 := HHIM.out
              refine ⟨i + 1, m + 1, by omega, .inr ⟨by omega, by omega⟩, by go_num, ?_, HAB.out _ _ _ HJ3.out (HKX.out.mono fun q h => ⟨trivial, h⟩), HK3.out.trans (HKX.out.mono fun q h => .inr h)⟩
              rw [HNEXT.out, List.length_append, show l[j].data.toList.length = l[j].size by simp]
              exact HOX.out
            case measure => have h3 := HHIM.out; omega
        · gi_wp2
          go_end0
          exact ⟨⟨_, rfl⟩, hJx3⟩
end Go.Proofs.Ythckpgfhldocdaa

/- The letters that come first, again and again: the program's iterator. Condition: the substitution is valid. -/
namespace Go.Proofs.Ythckpgfhldocdaa
open Go.RowKit
attribute [local go_sem] Oper.semAt_some

/-- the i-th letter as a byte -/
def encGo (l : List ByteArray) (k i : Nat) : Value := .int .u8 (97 + (goN l k i : Int))

end Go.Proofs.Ythckpgfhldocdaa
