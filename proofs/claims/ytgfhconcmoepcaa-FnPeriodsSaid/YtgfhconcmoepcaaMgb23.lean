/- Texts put together. -/
import Derived.Test.YtgfhconcmoepcaaMgb10
import Derived.Test.YtgfhconcmoepcaaMgb8
import Derived.Test.YtgfhconcmoepcaaMgb9
import Derived.Test.YtgfhconcmoepcaaMgb1
import Derived.OrdersHeld
import Derived.Deep.RegionHeld3
/- A struct of one slice of strings as a result; small facts on new rows. No condition. -/
namespace Go.Proofs.Ytgfhconcmoepcaa
open Go.RowKit

/-- a struct of one slice of strings, and whether there is one -/
def SubSaid (r : List ByteArray) (ok : Bool) (w : World) (e : Ending) (w' : World) : Prop := ∃ v, e = .returned (.tuple #[.agg #[v], .bool ok]) ∧ w'.ownsRow w.heap.size 9 1 v r.length (strs r) ∧ Below w.heap.size w w'
theorem cell_one (w : World) (e : TypeId) (y : Value) (j : Nat) (u : Value) (hu : [y][j]? = some u) : (w.alloc (.cells #[y] e)).cell? ((⟨w.heap.size, 0, none⟩ : Addr).add j) = some u := by
  rcases j with _ | j
  · simp at hu
    subst hu
    rw [Addr.add_lit, World.cell?_alloc_at _ _ _ _ (by simp)]
    rfl
  · simp at hu
end Go.Proofs.Ytgfhconcmoepcaa

/- A region that draws its order and whose last operation waits for all others: the others in whatever order, then the last one. No program in it. -/
namespace Go.Proofs.Ytgfhconcmoepcaa
open Go.RowKit

/-- what is to hold behind the others: the last one can be carried out -/
def LastQ (P : Program) (o : Oper) (Q : Exit → Act → World → Prop) : Exit → Act → World → Prop
  | .normal, a, w => o.wp P a w (Q .normal) Q
  | e, a, w => Q e a w
theorem last_lets {P : Program} {o : Oper} {Q : Exit → Act → World → Prop} (h : LetsOut (LastQ P o Q)) : LetsOut Q := by
  obtain ⟨a, w, h⟩ := h
  exact ⟨a, w, h⟩
theorem last_wp {P : Program} {o x : Oper} {Q : Exit → Act → World → Prop} {K K' : Act → World → Prop} (hK : ∀ a w, K a w → K' a w) {a : Act} {w : World} (h : x.wp P a w K (LastQ P o Q)) : x.wp P a w K' Q := by
  unfold Oper.wp at *
  generalize (execOp a.eval x).run P w = r at *
  cases r with
  | ok n w' =>
    cases n <;> simp only [Oper.upon] at h ⊢ <;>
      first
        | exact hK _ _ h
        | exact Calls.mono h (fun e w'' he => by cases e <;> first | exact hK _ _ he | exact he | exact last_lets he)
        | exact Rows.mono h (fun _ _ he => hK _ _ he)
  | halt x w' => cases x <;> simp only [Oper.upon] at h ⊢ <;> exact h
section
variable {P : Program} {md : Region.Mode} {l : List Oper} {o : Oper} {Q : Exit → Act → World → Prop}
theorem last_op (hg : ∀ x ∈ l, x.guard = none) {K K' : Act → World → Prop} (hK : ∀ a w, K a w → K' a w) {i : Nat} (hi : i < l.length) {a : Act} {w : World} (h : wpOp P l.toArray (LastQ P o Q) i K a w) : wpOp P (l ++ [o]).toArray Q i K' a w := by
  have e1 : l.toArray[i]? = some l[i] := by rw [List.getElem?_toArray]; exact List.getElem?_eq_getElem hi
  have e2 : (l ++ [o]).toArray[i]? = some l[i] := by rw [List.getElem?_toArray, List.getElem?_append_left hi]; exact List.getElem?_eq_getElem hi
  have hn := hg l[i] (List.getElem_mem hi)
  unfold wpOp at h ⊢
  rw [e1] at h
  rw [e2]
  simp only [Region.wanted, hn, if_true] at h ⊢
  rcases h with h | ⟨h, k⟩
  · exact .inl (last_wp hK h)
  · exact .inr ⟨h, last_lets k⟩
/-- what waits only for earlier ones: where nothing may come up, all have come up -/
theorem last_all (hl : ∀ (i : Nat) (x : Oper), l[i]? = some x → ∀ e ∈ x.after, e.on < i) {listed : Array Bool} (hr : Region.ready md l.toArray listed = []) : ∀ i, i < l.length → listed.getD i false = true ∨ listed.size ≤ i := by
  intro i
  induction i using Nat.strongRecOn with
  | ind i ih =>
    intro hi
    by_cases hs : listed.size ≤ i
    · exact .inr hs
    left
    cases hb : listed.getD i false
    · exfalso
      have hb2 : listed.getD i true = false := by
        rw [Array.getD_eq_getD_getElem?] at hb ⊢
        have : i < listed.size := by omega
        rw [Array.getElem?_eq_getElem this] at hb ⊢
        exact hb
      have hm : i ∈ Region.ready md l.toArray listed := by
        rw [mem_ready]
        refine ⟨hb2, l[i], by rw [List.getElem?_toArray]; exact List.getElem?_eq_getElem hi, fun e he _ => ?_⟩
        have h1 := hl i l[i] (List.getElem?_eq_getElem hi) e he
        rcases ih e.on h1 (by omega) with h2 | h2
        · exact h2
        · omega
      rw [hr] at hm
      cases hm
    · rfl
theorem getD_push_lt {listed : Array Bool} {i : Nat} (d : Bool) (h : i < listed.size) : (listed.push false).getD i d = listed.getD i d := by
  rw [Array.getD_eq_getD_getElem?, Array.getD_eq_getD_getElem?, Array.getElem?_push_lt h, Array.getElem?_eq_getElem h]
theorem any_pop (hg : ∀ x ∈ l, x.guard = none) (hog : o.guard = none) (hl : ∀ (i : Nat) (x : Oper), l[i]? = some x → ∀ e ∈ x.after, e.on < i) (ho : ∀ e ∈ o.after, e.on < l.length) (hw : ∀ i, i < l.length → ∃ e ∈ o.after, Region.binds md e = true ∧ e.on = i) :
    ∀ (fuel : Nat) (listed : Array Bool) (a : Act) (w : World), listed.size = l.length → wpAny P md l.toArray (LastQ P o Q) fuel listed a w → wpAny P md (l ++ [o]).toArray Q (fuel + 1) (listed.push false) a w := by
  have hmem : ∀ (listed : Array Bool), listed.size = l.length → ∀ j, j ∈ Region.ready md (l ++ [o]).toArray (listed.push false) → (j < l.length ∧ j ∈ Region.ready md l.toArray listed) ∨ (j = l.length ∧ ∀ i, i < l.length → listed.getD i false = true) := by
    intro listed hz j hj
    rw [mem_ready] at hj
    obtain ⟨h0, x, hx, hall⟩ := hj
    rw [List.getElem?_toArray] at hx
    have hjl : j < (l ++ [o]).length := (List.getElem?_eq_some_iff.1 hx).1
    rw [List.length_append, List.length_singleton] at hjl
    by_cases hjn : j < l.length
    · left
      rw [List.getElem?_append_left hjn] at hx
      refine ⟨hjn, mem_ready.2 ⟨by rwa [getD_push_lt true (by omega)] at h0, x, by rw [List.getElem?_toArray]; exact hx, fun e he hb => ?_⟩⟩
      have := hall e he hb
      have h1 := hl j x hx e he
      rwa [getD_push_lt false (by omega)] at this
    · right
      have hj2 : j = l.length := by omega
      subst hj2
      rw [List.getElem?_append_right (Nat.le_refl _), Nat.sub_self] at hx
      injection hx with hx
      subst hx
      refine ⟨rfl, fun i hi => ?_⟩
      obtain ⟨e, he, hb, rfl⟩ := hw i hi
      have := hall e he hb
      rwa [getD_push_lt false (by omega)] at this
  have hback : ∀ (listed : Array Bool), listed.size = l.length → ∀ j, j ∈ Region.ready md l.toArray listed → j < l.length := by
    intro listed _ j hj
    obtain ⟨_, x, hx, _⟩ := mem_ready.1 hj
    rw [List.getElem?_toArray] at hx
    exact (List.getElem?_eq_some_iff.1 hx).1
  -- the last one, when all others have come up
  have hlast : ∀ (listed : Array Bool), listed.size = l.length → (∀ i, i < l.length → listed.getD i false = true) → ∀ (fuel : Nat) (a : Act) (w : World), LastQ P o Q .normal a w → wpAny P md (l ++ [o]).toArray Q (fuel + 1) (listed.push false) a w := by
    intro listed hz hall fuel a w h
    have hdone : Region.ready md (l ++ [o]).toArray ((listed.push false).setIfInBounds l.length true) = [] := by
      rw [List.eq_nil_iff_forall_not_mem]
      intro j hj
      obtain ⟨h0, x, hx, _⟩ := mem_ready.1 hj
      rw [List.getElem?_toArray] at hx
      have hjl : j < (l ++ [o]).length := (List.getElem?_eq_some_iff.1 hx).1
      rw [List.length_append, List.length_singleton] at hjl
      by_cases hjn : j = l.length
      · subst hjn
        rw [Array.getD_eq_getD_getElem?, Array.getElem?_setIfInBounds_self_of_lt (by rw [Array.size_push]; omega)] at h0
        cases h0
      · have h1 := hall j (by omega)
        rw [getD_set_ne true (fun e => hjn e.symm), getD_push_lt true (by omega)] at h0
        rw [Array.getD_eq_getD_getElem?, Array.getElem?_eq_getElem (by omega : j < listed.size)] at h0 h1
        rw [show (some listed[j]).getD true = (some listed[j]).getD false from rfl, h1] at h0
        cases h0
    have hin : l.length ∈ Region.ready md (l ++ [o]).toArray (listed.push false) := by
      rw [mem_ready]
      refine ⟨?_, o, ?_, fun e he _ => ?_⟩
      · rw [Array.getD_eq_getD_getElem?, ← hz, Array.getElem?_push_size]; rfl
      · rw [List.getElem?_toArray, List.getElem?_append_right (Nat.le_refl _), Nat.sub_self]; rfl
      · rw [getD_push_lt false (by have := ho e he; omega)]; exact hall _ (ho e he)
    refine ⟨fun h0 => absurd hin (by rw [h0]; exact List.not_mem_nil), fun j hj => ?_⟩
    rcases hmem listed hz j hj with ⟨hj1, hj2⟩ | ⟨rfl, _⟩
    · exfalso
      obtain ⟨h0, _⟩ := mem_ready.1 hj2
      have h1 := hall j hj1
      rw [Array.getD_eq_getD_getElem?, Array.getElem?_eq_getElem (by omega : j < listed.size)] at h0 h1
      rw [show (some listed[j]).getD true = (some listed[j]).getD false from rfl, h1] at h0
      cases h0
    · unfold wpOp
      have e2 : (l ++ [o]).toArray[l.length]? = some o := by rw [List.getElem?_toArray, List.getElem?_append_right (Nat.le_refl _), Nat.sub_self]; rfl
      rw [e2]
      simp only [Region.wanted, hog, if_true]
      refine .inl (Oper.wp_mono (fun a w hq => ?_) h)
      cases fuel with
      | zero => exact ⟨hdone, hq⟩
      | succ fuel => exact ⟨fun _ => hq, fun i hi => by rw [hdone] at hi; cases hi⟩
  intro fuel
  induction fuel with
  | zero =>
    intro listed a w hz h
    refine hlast listed hz (fun i hi => ?_) 0 a w h.2
    rcases last_all hl h.1 i hi with h1 | h1
    · exact h1
    · omega
  | succ fuel ih =>
    intro listed a w hz h
    by_cases hall : ∀ i, i < l.length → listed.getD i false = true
    · refine hlast listed hz hall _ a w (h.1 ?_)
      rw [List.eq_nil_iff_forall_not_mem]
      intro j hj
      have hjl := hback listed hz j hj
      obtain ⟨h0, _⟩ := mem_ready.1 hj
      have h1 := hall j hjl
      rw [Array.getD_eq_getD_getElem?, Array.getElem?_eq_getElem (by omega : j < listed.size)] at h0 h1
      rw [show (some listed[j]).getD true = (some listed[j]).getD false from rfl, h1] at h0
      cases h0
    · refine ⟨fun h0 => ?_, fun j hj => ?_⟩
      · exfalso
        refine hall (fun i hi => ?_)
        have hr : Region.ready md l.toArray listed = [] := by
          rw [List.eq_nil_iff_forall_not_mem]
          intro j hj
          have hjl := hback listed hz j hj
          obtain ⟨g0, x, hx, hxa⟩ := mem_ready.1 hj
          have : j ∈ Region.ready md (l ++ [o]).toArray (listed.push false) := by
            rw [mem_ready]
            rw [List.getElem?_toArray] at hx
            refine ⟨by rw [getD_push_lt true (by omega)]; exact g0, x, by rw [List.getElem?_toArray, List.getElem?_append_left hjl]; exact hx, fun e he hb => ?_⟩
            rw [getD_push_lt false (by have := hl j x hx e he; omega)]
            exact hxa e he hb
          rw [h0] at this
          cases this
        rcases last_all hl hr i hi with h1 | h1
        · exact h1
        · omega
      · rcases hmem listed hz j hj with ⟨hj1, hj2⟩ | ⟨_, h2⟩
        · have e : (listed.push false).setIfInBounds j true = (listed.setIfInBounds j true).push false := by
            apply Array.ext_getElem?
            intro k
            by_cases hk : k = j
            · subst hk
              rw [Array.getElem?_setIfInBounds_self_of_lt (by rw [Array.size_push]; omega), Array.getElem?_push_lt (by rw [Array.size_setIfInBounds]; omega), Array.getElem_setIfInBounds_self]
            · rw [Array.getElem?_setIfInBounds_ne (fun e => hk e.symm), Array.getElem?_push, Array.getElem?_push, Array.size_setIfInBounds, Array.getElem?_setIfInBounds_ne (fun e => hk e.symm)]
          rw [e]
          exact last_op hg (fun a w h3 => ih _ a w (by rw [Array.size_setIfInBounds]; exact hz) h3) hj1 (h.2 j hj2)
        · exact absurd h2 hall
/-- the conditions of any_pop, to be reckoned -/
def popOk (l : List Oper) (o : Oper) : Bool :=
  l.all (fun x => x.guard.isNone) && (o.guard.isNone && ((List.range l.length).all (fun i => match l[i]? with | some x => x.after.toList.all (fun e => decide (e.on < i)) | none => true) && (o.after.toList.all (fun e => decide (e.on < l.length)) && (List.range l.length).all (fun i => o.after.toList.any (fun e => Region.binds .any e && e.on == i)))))
theorem wp_region_pop {S : World → Prop} {ops L : Array Oper} {o : Oper} {id n : Nat} {Q : Exit → Act → World → Prop} {a : Act} {w : World} (hm : P.follows .mixedOrders = true) (hL : ops.toList.dropLast.toArray = L) (hn : ops.size = n + 1) (ho : ops.toList.getLast? = some o) (hok : popOk ops.toList.dropLast o = true)
    (hS : S w.drew) (h : S w.drew → wpAnyH P .any L (LastQ P o Q) S n (Array.replicate n false) a w.drew) : (Code.region id ops true).wp P Q a w := by
  have hops : ops = (ops.toList.dropLast ++ [o]).toArray := by
    obtain ⟨ys, hy⟩ := List.getLast?_eq_some_iff.1 ho
    rw [hy, List.dropLast_concat, ← hy]
  have hlen : ops.toList.dropLast.length = n := by rw [List.length_dropLast, Array.length_toList, hn, Nat.add_sub_cancel]
  unfold popOk at hok
  simp only [Bool.and_eq_true, List.all_eq_true, Option.isNone_iff_eq_none, List.mem_range, List.any_eq_true, Array.mem_toList_iff, decide_eq_true_eq, beq_iff_eq] at hok
  obtain ⟨k1, k2, k3, k4, k5⟩ := hok
  refine wp_region_any hm ?_
  have := any_pop (P := P) (md := .any) (Q := Q) (l := ops.toList.dropLast) (o := o) k1 k2 (fun i x hx e he => by
    have hi : i < ops.toList.dropLast.length := (List.getElem?_eq_some_iff.1 hx).1
    have := k3 i hi
    rw [hx] at this
    simp only [List.all_eq_true, Array.mem_toList_iff, decide_eq_true_eq] at this
    exact this e he) k4 (fun i hi => by
    obtain ⟨e, he, hb, ho⟩ := k5 i hi
    exact ⟨e, he, hb, ho⟩) n (Array.replicate n false) a w.drew (by rw [Array.size_replicate, hlen]) (by rw [hL]; exact wpAny_of_held _ _ _ _ (h hS))
  rw [← hops, ← Array.replicate_succ] at this
  rw [hn]
  exact this
end
end Go.Proofs.Ytgfhconcmoepcaa
