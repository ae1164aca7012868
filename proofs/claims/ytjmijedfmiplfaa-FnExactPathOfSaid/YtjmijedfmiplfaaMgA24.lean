/- Texts put together. -/
import Derived.Test.YtjmijedfmiplfaaMgA23
import Derived.Test.YtjmijedfmiplfaaMgA3
import Derived.Test.YtjmijedfmiplfaaMgA4
import Derived.BigQuiet
import Derived.Laws.EntriesVeiled
import Derived.Test.YtjmijedfmiplfaaMgA10
import Derived.Test.YtjmijedfmiplfaaMgA2
import Derived.Test.YtjmijedfmiplfaaMgA1
import Derived.OrdersHeld
import Derived.Deep.RegionHeld3
import Derived.Deep.RegionLawGrows
/- The program's two closures that call each other: what they return while nothing more is to be found out. Conditions: what is known lies in memory. -/
namespace Go.Proofs.Ytjmijedfmiplfaa
open Go.RowKit

/-- what the closures have captured, and the numbers that are known -/
structure KmpAt (s : ByteArray) (p1 p3 p4 p5 g k cp : Nat) (w : World) : Prop where
  c1 : w.cell? ⟨p1, 0, none⟩ = some (.string s)
  c3 : w.cell? ⟨p3, 0, none⟩ = some (.func (.func 95) #[] #[.pointer (some ⟨p5, 0, none⟩), .pointer (some ⟨p4, 0, none⟩), .pointer (some ⟨p1, 0, none⟩)])
  c4 : w.cell? ⟨p4, 0, none⟩ = some (.func (.func 96) #[] #[.pointer (some ⟨p1, 0, none⟩), .pointer (some ⟨p4, 0, none⟩), .pointer (some ⟨p3, 0, none⟩)])
  c5 : w.cell? ⟨p5, 0, none⟩ = some (.slice (some ⟨g, 0, none⟩) k cp)
  ck : ∀ i, i < k → w.cell? ⟨g, i, none⟩ = some (.int .i64 ((brN (ltO s) i : Nat) : Int))
theorem KmpAt.drewN {s : ByteArray} {p1 p3 p4 p5 g k cp : Nat} {w : World} (h : KmpAt s p1 p3 p4 p5 g k cp w) (n : Nat) : KmpAt s p1 p3 p4 p5 g k cp (w.drewN n) := ⟨h.c1, h.c3, h.c4, h.c5, h.ck⟩

set_option maxHeartbeats 400000 in
theorem implLongestAt (s : ByteArray) (p1 p3 p4 p5 g k cp n : Nat) (w : World) (h : KmpAt s p1 p3 p4 p5 g k cp w) (hn : n < k) (_hk : k ≤ 1048576) :
    Calls Try.prog 95 #[.int .i64 (n : Int), .pointer (some ⟨p5, 0, none⟩), .pointer (some ⟨p4, 0, none⟩), .pointer (some ⟨p1, 0, none⟩)] w fun e w' => e = .returned (.int .i64 ((brN (ltO s) n : Nat) : Int)) ∧ w' = w := by
  have c5 := h.c5
  have ck := h.ck n hn
  clear h
  generalize brN (ltO s) n = r at ck ⊢
  go_enter Try.func95, Try.ntmps95
  go_wp2_with fail
  go_loopw [6] (fun i w' => i = .int .i64 (k : Int) ∧ w = w') (fun _ _ => 0)
  case atStart => exact ⟨rfl, rfl⟩
  case round =>
    obtain ⟨rfl, rfl⟩ := hrel
    have hlt : ¬ (k : Int) ≤ (n : Int) := by omega
    go_wp2_with fail
    go_ret
    exact ⟨rfl, rfl⟩

set_option maxHeartbeats 1000000 in
theorem implWider (s : ByteArray) (m p1 p3 p4 p5 g k cp : Nat) (hm : m < s.size) (hk : k ≤ 1048576) : ∀ (b : Nat) (w : World), b < k → BrAt (ltO s) m b → Tops (ltO s) m b → KmpAt s p1 p3 p4 p5 g k cp w →
    Calls Try.prog 96 #[.int .i64 (b : Int), .int .u8 (s[m].toNat : Int), .pointer (some ⟨p1, 0, none⟩), .pointer (some ⟨p4, 0, none⟩), .pointer (some ⟨p3, 0, none⟩)] w fun e w' => e = .returned (.int .i64 ((brN (ltO s) (m + 1) : Nat) : Int)) ∧ ∃ n, w' = w.drewN n := by
  intro b
  induction b using Nat.strongRecOn with
  | ind b IH =>
    intro w hbk hb ht h
    have hbs : b < s.size := by have := hb.1; omega
    have hx : ∀ w : World, (Instr.index 60 (.string s) (.int .i64 (b : Int))).run Try.prog w = .ok (.int .u8 (s[b].toNat : Int)) w := fun w => index_at Try.underlying60 s b b w hbs rfl
    have c1 := h.c1
    have c3 := h.c3
    have c4 := h.c4
    by_cases he : s[b] = s[m]
    · have HV := Lib.hid (br_hit hb ht ((same_at s b m hbs hm).2 he))
      have hq : ((s[b].toNat : Int) == (s[m].toNat : Int)) = true := (num_same _ _).2 he
      clear he ht h hb IH
      generalize (s[b].toNat : Int) = x at hx hq
      generalize (s[m].toNat : Int) = y at hq ⊢
      generalize brN (ltO s) (m + 1) = r at HV ⊢
      go_enter Try.func96, Try.ntmps96
      go_wp2_with fail
      go_ret
      exact ⟨by rw [HV.out]; rfl, 0, rfl⟩
    · have hne : ltO s b ≠ ltO s m := fun e => he ((same_at s b m hbs hm).1 e)
      have hq : ((s[b].toNat : Int) == (s[m].toNat : Int)) = false := (num_other _ _).2 he
      by_cases h0 : b = 0
      · have HV : Hid (brN (ltO s) (m + 1) = 0) := by
          subst h0
          exact br_none ht hne
        have hz : ((b : Int) == 0) = true := by rw [beq_iff_eq]; omega
        clear he ht h hb IH hne h0 hbk
        generalize (s[b].toNat : Int) = x at hx hq
        generalize (s[m].toNat : Int) = y at hq ⊢
        generalize brN (ltO s) (m + 1) = r at HV ⊢
        go_enter Try.func96, Try.ntmps96
        go_wp2_with fail
        go_ret
        exact ⟨by rw [HV.out]; rfl, 0, rfl⟩
      · have hd := br_down hb ht (by omega) hne
        have hlt := brN_lt (c := ltO s) (show 1 ≤ b by omega)
        have HL := Lib.hid (fun n => implLongestAt s p1 p3 p4 p5 g k cp b (w.drewN n) (h.drewN n) hbk hk)
        have HI := Lib.hid (fun n => IH (brN (ltO s) b) hlt (w.drewN n) (by omega) hd.1 hd.2 (h.drewN n))
        have h0' : ¬ (b : Int) = 0 := by omega
        clear he ht h hb IH hne hd hlt
        generalize (s[b].toNat : Int) = x at hx hq
        generalize (s[m].toNat : Int) = y at hq HI ⊢
        generalize brN (ltO s) (m + 1) = r at HI ⊢
        generalize brN (ltO s) b = b2 at HL HI
        go_enter Try.func96, Try.ntmps96
        go_wp2_with fail
        go_quiet (first
          | exact Calls.quiet_of_same (HL.out _)
          | exact Calls.quiet_of (HI.out _))
        go_wp2_with fail
        go_ret
        exact ⟨rfl, _, rfl⟩
end Go.Proofs.Ytjmijedfmiplfaa

/- A struct of one slice of strings as a result; small facts on new rows. No condition. -/
namespace Go.Proofs.Ytjmijedfmiplfaa
open Go.RowKit

/-- a struct of one slice of strings, and whether there is one -/
def SubSaid (r : List ByteArray) (ok : Bool) (w : World) (e : Ending) (w' : World) : Prop := ∃ v, e = .returned (.tuple #[.agg #[v], .bool ok]) ∧ w'.ownsRow w.heap.size 9 1 v r.length (strs r) ∧ Below w.heap.size w w'
theorem cell_one (w : World) (e : TypeId) (y : Value) (j : Nat) (u : Value) (hu : [y][j]? = some u) : (w.alloc (.cells #[y] e)).cell? ((⟨w.heap.size, 0, none⟩ : Addr).add j) = some u := by
  rcases j with _ | j
  · simp at hu
    subst hu
    rw [Addr.add_lit, World.cell?_alloc_at _ _ _ _ (by simp)]
    rfl
  · simp at hu
end Go.Proofs.Ytjmijedfmiplfaa

/- A region that draws its order and whose last operation waits for all others: the others in whatever order, then the last one. No program in it. -/
namespace Go.Proofs.Ytjmijedfmiplfaa
open Go.RowKit

/-- what is to hold behind the others: the last one can be carried out -/
def LastQ (P : Program) (o : Oper) (Q : Exit → Act → World → Prop) : Exit → Act → World → Prop
  | .normal, a, w => o.wp P a w (Q .normal) Q
  | e, a, w => Q e a w
theorem last_lets {P : Program} {o : Oper} {Q : Exit → Act → World → Prop} (h : LetsOut (LastQ P o Q)) : LetsOut Q := by
  obtain ⟨a, w, h⟩ := h
  exact ⟨a, w, h⟩
theorem last_wp {P : Program} {o x : Oper} {Q : Exit → Act → World → Prop} {K K' : Act → World → Prop} (hK : ∀ a w, K a w → K' a w) {a : Act} {w : World} (h : x.wp P a w K (LastQ P o Q)) : x.wp P a w K' Q := by
  unfold Oper.wp at *
  generalize (execOp a.eval x).run P w = r at *
  cases r with
  | ok n w' =>
    cases n <;> simp only [Oper.upon] at h ⊢ <;>
      first
        | exact hK _ _ h
        | exact Calls.mono h (fun e w'' he => by cases e <;> first | exact hK _ _ he | exact he | exact last_lets he)
        | exact Rows.mono h (fun _ _ he => hK _ _ he)
  | halt x w' => cases x <;> simp only [Oper.upon] at h ⊢ <;> exact h
section
variable {P : Program} {md : Region.Mode} {l : List Oper} {o : Oper} {Q : Exit → Act → World → Prop}
theorem last_op (hg : ∀ x ∈ l, x.guard = none) {K K' : Act → World → Prop} (hK : ∀ a w, K a w → K' a w) {i : Nat} (hi : i < l.length) {a : Act} {w : World} (h : wpOp P l.toArray (LastQ P o Q) i K a w) : wpOp P (l ++ [o]).toArray Q i K' a w := by
  have e1 : l.toArray[i]? = some l[i] := by rw [List.getElem?_toArray]; exact List.getElem?_eq_getElem hi
  have e2 : (l ++ [o]).toArray[i]? = some l[i] := by rw [List.getElem?_toArray, List.getElem?_append_left hi]; exact List.getElem?_eq_getElem hi
  have hn := hg l[i] (List.getElem_mem hi)
  unfold wpOp at h ⊢
  rw [e1] at h
  rw [e2]
  simp only [Region.wanted, hn, if_true] at h ⊢
  rcases h with h | ⟨h, k⟩
  · exact .inl (last_wp hK h)
  · exact .inr ⟨h, last_lets k⟩
/-- what waits only for earlier ones: where nothing may come up, all have come up -/
theorem last_all (hl : ∀ (i : Nat) (x : Oper), l[i]? = some x → ∀ e ∈ x.after, e.on < i) {listed : Array Bool} (hr : Region.ready md l.toArray listed = []) : ∀ i, i < l.length → listed.getD i false = true ∨ listed.size ≤ i := by
  intro i
  induction i using Nat.strongRecOn with
  | ind i ih =>
    intro hi
    by_cases hs : listed.size ≤ i
    · exact .inr hs
    left
    cases hb : listed.getD i false
    · exfalso
      have hb2 : listed.getD i true = false := by
        rw [Array.getD_eq_getD_getElem?] at hb ⊢
        have : i < listed.size := by omega
        rw [Array.getElem?_eq_getElem this] at hb ⊢
        exact hb
      have hm : i ∈ Region.ready md l.toArray listed := by
        rw [mem_ready]
        refine ⟨hb2, l[i], by rw [List.getElem?_toArray]; exact List.getElem?_eq_getElem hi, fun e he _ => ?_⟩
        have h1 := hl i l[i] (List.getElem?_eq_getElem hi) e he
        rcases ih e.on h1 (by omega) with h2 | h2
        · exact h2
        · omega
      rw [hr] at hm
      cases hm
    · rfl
theorem getD_push_lt {listed : Array Bool} {i : Nat} (d : Bool) (h : i < listed.size) : (listed.push false).getD i d = listed.getD i d := by
  rw [Array.getD_eq_getD_getElem?, Array.getD_eq_getD_getElem?, Array.getElem?_push_lt h, Array.getElem?_eq_getElem h]
theorem any_pop (hg : ∀ x ∈ l, x.guard = none) (hog : o.guard = none) (hl : ∀ (i : Nat) (x : Oper), l[i]? = some x → ∀ e ∈ x.after, e.on < i) (ho : ∀ e ∈ o.after, e.on < l.length) (hw : ∀ i, i < l.length → ∃ e ∈ o.after, Region.binds md e = true ∧ e.on = i) :
    ∀ (fuel : Nat) (listed : Array Bool) (a : Act) (w : World), listed.size = l.length → wpAny P md l.toArray (LastQ P o Q) fuel listed a w → wpAny P md (l ++ [o]).toArray Q (fuel + 1) (listed.push false) a w := by
  have hmem : ∀ (listed : Array Bool), listed.size = l.length → ∀ j, j ∈ Region.ready md (l ++ [o]).toArray (listed.push false) → (j < l.length ∧ j ∈ Region.ready md l.toArray listed) ∨ (j = l.length ∧ ∀ i, i < l.length → listed.getD i false = true) := by
    intro listed hz j hj
    rw [mem_ready] at hj
    obtain ⟨h0, x, hx, hall⟩ := hj
    rw [List.getElem?_toArray] at hx
    have hjl : j < (l ++ [o]).length := (List.getElem?_eq_some_iff.1 hx).1
    rw [List.length_append, List.length_singleton] at hjl
    by_cases hjn : j < l.length
    · left
      rw [List.getElem?_append_left hjn] at hx
      refine ⟨hjn, mem_ready.2 ⟨by rwa [getD_push_lt true (by omega)] at h0, x, by rw [List.getElem?_toArray]; exact hx, fun e he hb => ?_⟩⟩
      have := hall e he hb
      have h1 := hl j x hx e he
      rwa [getD_push_lt false (by omega)] at this
    · right
      have hj2 : j = l.length := by omega
      subst hj2
      rw [List.getElem?_append_right (Nat.le_refl _), Nat.sub_self] at hx
      injection hx with hx
      subst hx
      refine ⟨rfl, fun i hi => ?_⟩
      obtain ⟨e, he, hb, rfl⟩ := hw i hi
      have := hall e he hb
      rwa [getD_push_lt false (by omega)] at this
  have hback : ∀ (listed : Array Bool), listed.size = l.length → ∀ j, j ∈ Region.ready md l.toArray listed → j < l.length := by
    intro listed _ j hj
    obtain ⟨_, x, hx, _⟩ := mem_ready.1 hj
    rw [List.getElem?_toArray] at hx
    exact (List.getElem?_eq_some_iff.1 hx).1
  -- the last one, when all others have come up
  have hlast : ∀ (listed : Array Bool), listed.size = l.length → (∀ i, i < l.length → listed.getD i false = true) → ∀ (fuel : Nat) (a : Act) (w : World), LastQ P o Q .normal a w → wpAny P md (l ++ [o]).toArray Q (fuel + 1) (listed.push false) a w := by
    intro listed hz hall fuel a w h
    have hdone : Region.ready md (l ++ [o]).toArray ((listed.push false).setIfInBounds l.length true) = [] := by
      rw [List.eq_nil_iff_forall_not_mem]
      intro j hj
      obtain ⟨h0, x, hx, _⟩ := mem_ready.1 hj
      rw [List.getElem?_toArray] at hx
      have hjl : j < (l ++ [o]).length := (List.getElem?_eq_some_iff.1 hx).1
      rw [List.length_append, List.length_singleton] at hjl
      by_cases hjn : j = l.length
      · subst hjn
        rw [Array.getD_eq_getD_getElem?, Array.getElem?_setIfInBounds_self_of_lt (by rw [Array.size_push]; omega)] at h0
        cases h0
      · have h1 := hall j (by omega)
        rw [getD_set_ne true (fun e => hjn e.symm), getD_push_lt true (by omega)] at h0
        rw [Array.getD_eq_getD_getElem?, Array.getElem?_eq_getElem (by omega : j < listed.size)] at h0 h1
        rw [show (some listed[j]).getD true = (some listed[j]).getD false from rfl, h1] at h0
        cases h0
    have hin : l.length ∈ Region.ready md (l ++ [o]).toArray (listed.push false) := by
      rw [mem_ready]
      refine ⟨?_, o, ?_, fun e he _ => ?_⟩
      · rw [Array.getD_eq_getD_getElem?, ← hz, Array.getElem?_push_size]; rfl
      · rw [List.getElem?_toArray, List.getElem?_append_right (Nat.le_refl _), Nat.sub_self]; rfl
      · rw [getD_push_lt false (by have := ho e he; omega)]; exact hall _ (ho e he)
    refine ⟨fun h0 => absurd hin (by rw [h0]; exact List.not_mem_nil), fun j hj => ?_⟩
    rcases hmem listed hz j hj with ⟨hj1, hj2⟩ | ⟨rfl, _⟩
    · exfalso
      obtain ⟨h0, _⟩ := mem_ready.1 hj2
      have h1 := hall j hj1
      rw [Array.getD_eq_getD_getElem?, Array.getElem?_eq_getElem (by omega : j < listed.size)] at h0 h1
      rw [show (some listed[j]).getD true = (some listed[j]).getD false from rfl, h1] at h0
      cases h0
    · unfold wpOp
      have e2 : (l ++ [o]).toArray[l.length]? = some o := by rw [List.getElem?_toArray, List.getElem?_append_right (Nat.le_refl _), Nat.sub_self]; rfl
      rw [e2]
      simp only [Region.wanted, hog, if_true]
      refine .inl (Oper.wp_mono (fun a w hq => ?_) h)
      cases fuel with
      | zero => exact ⟨hdone, hq⟩
      | succ fuel => exact ⟨fun _ => hq, fun i hi => by rw [hdone] at hi; cases hi⟩
  intro fuel
  induction fuel with
  | zero =>
    intro listed a w hz h
    refine hlast listed hz (fun i hi => ?_) 0 a w h.2
    rcases last_all hl h.1 i hi with h1 | h1
    · exact h1
    · omega
  | succ fuel ih =>
    intro listed a w hz h
    by_cases hall : ∀ i, i < l.length → listed.getD i false = true
    · refine hlast listed hz hall _ a w (h.1 ?_)
      rw [List.eq_nil_iff_forall_not_mem]
      intro j hj
      have hjl := hback listed hz j hj
      obtain ⟨h0, _⟩ := mem_ready.1 hj
      have h1 := hall j hjl
      rw [Array.getD_eq_getD_getElem?, Array.getElem?_eq_getElem (by omega : j < listed.size)] at h0 h1
      rw [show (some listed[j]).getD true = (some listed[j]).getD false from rfl, h1] at h0
      cases h0
    · refine ⟨fun h0 => ?_, fun j hj => ?_⟩
      · exfalso
        refine hall (fun i hi => ?_)
        have hr : Region.ready md l.toArray listed = [] := by
          rw [List.eq_nil_iff_forall_not_mem]
          intro j hj
          have hjl := hback listed hz j hj
          obtain ⟨g0, x, hx, hxa⟩ := mem_ready.1 hj
          have : j ∈ Region.ready md (l ++ [o]).toArray (listed.push false) := by
            rw [mem_ready]
            rw [List.getElem?_toArray] at hx
            refine ⟨by rw [getD_push_lt true (by omega)]; exact g0, x, by rw [List.getElem?_toArray, List.getElem?_append_left hjl]; exact hx, fun e he hb => ?_⟩
            rw [getD_push_lt false (by have := hl j x hx e he; omega)]
            exact hxa e he hb
          rw [h0] at this
          cases this
        rcases last_all hl hr i hi with h1 | h1
        · exact h1
        · omega
      · rcases hmem listed hz j hj with ⟨hj1, hj2⟩ | ⟨_, h2⟩
        · have e : (listed.push false).setIfInBounds j true = (listed.setIfInBounds j true).push false := by
            apply Array.ext_getElem?
            intro k
            by_cases hk : k = j
            · subst hk
              rw [Array.getElem?_setIfInBounds_self_of_lt (by rw [Array.size_push]; omega), Array.getElem?_push_lt (by rw [Array.size_setIfInBounds]; omega), Array.getElem_setIfInBounds_self]
            · rw [Array.getElem?_setIfInBounds_ne (fun e => hk e.symm), Array.getElem?_push, Array.getElem?_push, Array.size_setIfInBounds, Array.getElem?_setIfInBounds_ne (fun e => hk e.symm)]
          rw [e]
          exact last_op hg (fun a w h3 => ih _ a w (by rw [Array.size_setIfInBounds]; exact hz) h3) hj1 (h.2 j hj2)
        · exact absurd h2 hall
/-- the conditions of any_pop, to be reckoned -/
def popOk (l : List Oper) (o : Oper) : Bool :=
  l.all (fun x => x.guard.isNone) && (o.guard.isNone && ((List.range l.length).all (fun i => match l[i]? with | some x => x.after.toList.all (fun e => decide (e.on < i)) | none => true) && (o.after.toList.all (fun e => decide (e.on < l.length)) && (List.range l.length).all (fun i => o.after.toList.any (fun e => Region.binds .any e && e.on == i)))))
theorem wp_region_pop {S : World → Prop} {ops L : Array Oper} {o : Oper} {id n : Nat} {Q : Exit → Act → World → Prop} {a : Act} {w : World} (hm : P.follows .mixedOrders = true) (hL : ops.toList.dropLast.toArray = L) (hn : ops.size = n + 1) (ho : ops.toList.getLast? = some o) (hok : popOk ops.toList.dropLast o = true)
    (hS : S w.drew) (h : S w.drew → wpAnyH P .any L (LastQ P o Q) S n (Array.replicate n false) a w.drew) : (Code.region id ops true).wp P Q a w := by
  have hops : ops = (ops.toList.dropLast ++ [o]).toArray := by
    obtain ⟨ys, hy⟩ := List.getLast?_eq_some_iff.1 ho
    rw [hy, List.dropLast_concat, ← hy]
  have hlen : ops.toList.dropLast.length = n := by rw [List.length_dropLast, Array.length_toList, hn, Nat.add_sub_cancel]
  unfold popOk at hok
  simp only [Bool.and_eq_true, List.all_eq_true, Option.isNone_iff_eq_none, List.mem_range, List.any_eq_true, Array.mem_toList_iff, decide_eq_true_eq, beq_iff_eq] at hok
  obtain ⟨k1, k2, k3, k4, k5⟩ := hok
  refine wp_region_any hm ?_
  have := any_pop (P := P) (md := .any) (Q := Q) (l := ops.toList.dropLast) (o := o) k1 k2 (fun i x hx e he => by
    have hi : i < ops.toList.dropLast.length := (List.getElem?_eq_some_iff.1 hx).1
    have := k3 i hi
    rw [hx] at this
    simp only [List.all_eq_true, Array.mem_toList_iff, decide_eq_true_eq] at this
    exact this e he) k4 (fun i hi => by
    obtain ⟨e, he, hb, ho⟩ := k5 i hi
    exact ⟨e, he, hb, ho⟩) n (Array.replicate n false) a w.drew (by rw [Array.size_replicate, hlen]) (by rw [hL]; exact wpAny_of_held _ _ _ _ (h hS))
  rw [← hops, ← Array.replicate_succ] at this
  rw [hn]
  exact this
end
end Go.Proofs.Ytjmijedfmiplfaa

/- The program's closure that finds out more: the longest borders of all beginnings up to n, kept in a slice of its own. Conditions: its memory is as longestBorder has laid it. -/
namespace Go.Proofs.Ytjmijedfmiplfaa
open Go.RowKit

/-- what the closures have captured; the numbers that are known lie in a row of their own, as does the variable that holds it -/
structure KmpOwn (s : ByteArray) (p1 p3 p4 p5 B k : Nat) (A : Option Addr) (cp : Nat) (w : World) : Prop where
  b1 : p1 < B
  b3 : p3 < B
  b4 : p4 < B
  c1 : w.cell? ⟨p1, 0, none⟩ = some (.string s)
  c3 : w.cell? ⟨p3, 0, none⟩ = some (.func (.func 95) #[] #[.pointer (some ⟨p5, 0, none⟩), .pointer (some ⟨p4, 0, none⟩), .pointer (some ⟨p1, 0, none⟩)])
  c4 : w.cell? ⟨p4, 0, none⟩ = some (.func (.func 96) #[] #[.pointer (some ⟨p1, 0, none⟩), .pointer (some ⟨p4, 0, none⟩), .pointer (some ⟨p3, 0, none⟩)])
  row : w.ownsRow B 3 1 (.slice A k cp) k (ints (knL (ltO s) k))
  var : w.ownsRow B 22 1 (.slice (some ⟨p5, 0, none⟩) 1 1) 1 [.slice A k cp]
section
variable {s : ByteArray} {p1 p3 p4 p5 B k cp : Nat} {A : Option Addr} {w w' : World}
theorem KmpOwn.c5 (h : KmpOwn s p1 p3 p4 p5 B k A cp w) : w.cell? ⟨p5, 0, none⟩ = some (.slice A k cp) := h.var.cellAt 0 (by omega)
theorem KmpOwn.f5 (h : KmpOwn s p1 p3 p4 p5 B k A cp w) : w.frozen? ⟨p5, 0, none⟩ = false := h.var.frozenAt 0
theorem KmpOwn.at (h : KmpOwn s p1 p3 p4 p5 B k A cp w) (hk : 0 < k) : ∃ g, A = some ⟨g, 0, none⟩ ∧ KmpAt s p1 p3 p4 p5 g k cp w := by
  obtain ⟨g, cp', he, _⟩ := own_some h.row hk
  injection he with he _ he2
  subst he
  refine ⟨g, rfl, h.c1, h.c3, h.c4, h.c5, fun i hi => ?_⟩
  rw [World.ownsRow.cellAt h.row i (by omega)]
  unfold ints
  rw [List.getElem?_map, knL_at hi]
  rfl
theorem KmpOwn.drewN (h : KmpOwn s p1 p3 p4 p5 B k A cp w) (n : Nat) : KmpOwn s p1 p3 p4 p5 B k A cp (w.drewN n) := ⟨h.b1, h.b3, h.b4, h.c1, h.c3, h.c4, h.row, h.var⟩
theorem KmpOwn.below (h : KmpOwn s p1 p3 p4 p5 B k A cp w) (hb : Below w.heap.size w w') : KmpOwn s p1 p3 p4 p5 B k A cp w' :=
  ⟨h.b1, h.b3, h.b4, (hb.cell (World.block_lt_of_cell? w _ h.c1)).trans h.c1, (hb.cell (World.block_lt_of_cell? w _ h.c3)).trans h.c3, (hb.cell (World.block_lt_of_cell? w _ h.c4)).trans h.c4, own_below h.row hb, own_below h.var hb⟩
/-- append to the row, and the variable still holds the old one -/
theorem KmpOwn.var_stays (h : KmpOwn s p1 p3 p4 p5 B k A cp w) (hg : w.grownBy w' (Value.slice A k cp).ownBlock) : w'.ownsRow B 22 1 (.slice (some ⟨p5, 0, none⟩) 1 1) 1 [.slice A k cp] :=
  own_apart h.var hg (fun q a b => own_ne h.var h.row (by decide) q a b)
/-- the variable is set to a longer row -/
theorem KmpOwn.next {A' : Option Addr} {cp' : Nat} (h : KmpOwn s p1 p3 p4 p5 B k A cp w) (hg : w.grownBy w' (Value.slice A k cp).ownBlock) (hr : w'.ownsRow B 3 1 (.slice A' (k + 1) cp') (k + 1) (ints (knL (ltO s) (k + 1)))) (hB : B ≤ w.heap.size) :
    KmpOwn s p1 p3 p4 p5 B (k + 1) A' cp' (w'.setCell ⟨p5, 0, none⟩ (.slice A' (k + 1) cp')) := by
  have hv := h.var_stays hg
  have hb : Below B w w' := (Below.refl _ _).grown hg hB (fun q hq => (h.row.lt q hq).1)
  have hp5 := (hv.lt p5 rfl).1
  have hbs := hb.setCell (p := ⟨p5, 0, none⟩) hp5 (.slice A' (k + 1) cp')
  refine ⟨h.b1, h.b3, h.b4, (hbs.cell (p := ⟨p1, 0, none⟩) h.b1).trans h.c1, (hbs.cell (p := ⟨p3, 0, none⟩) h.b3).trans h.c3, (hbs.cell (p := ⟨p4, 0, none⟩) h.b4).trans h.c4, ?_, ?_⟩
  · refine own_setCell2 hr (fun q hq e => ?_) _
    exact own_ne hr hv (by decide) q hq (by rw [e]; rfl)
  · exact (hv.stored 0 (.slice A' (k + 1) cp')).1
end

/-- append to a row of the call's own, as one step of a region that draws; the old cells still stand where they stood -/
theorem step_own_k {P : Program} {ops : Array Oper} {o : Oper} {a : Act} {w : World} {K : Act → World → Prop} {Q : Exit → Act → World → Prop} {E : Prop}
    (hg : o.guard = none) (s x : Operand) (t : TypeId) (hop : o.op = Op.call { callee := Callee.builtin Builtin.append, args := #[s, x], argTypes := #[t, t] })
    (base : Nat) (e : TypeId) (i : TypeInfo) (z : Value) (bytes : Nat) (h1 : P.underlying t = some (.slice e)) (h2 : P.info? e = some i) (h3 : i.zero = some z) (h4 : i.size = 1) (h5 : i.bytes = bytes) (h6 : z.cells.size = 1)
    (g n cap : Nat) (xs : List Value) (hs : a.eval s = .slice (some ⟨g, 0, none⟩) n cap) (hown : w.ownsRow base e 1 (.slice (some ⟨g, 0, none⟩) n cap) n xs)
    (ad : Addr) (m c : Nat) (news : List Value) (hx : a.eval x = .slice (some ad) m c) (hn : news.length = m) (hc : ∀ j u, news[j]? = some u → w.cell? (ad.add j) = some u) (h1c : ∀ u ∈ news, u.oneCell' = true)
    (b1 : n + m ≤ maxLen) (b2 : (n + m) * bytes ≤ 140737488355328) (hb : base ≤ w.heap.size)
    (hK : ∀ v' w', w'.ownsRow base e 1 v' (n + m) (xs ++ news) → w.grownBy w' (some g) → (∀ j u, xs[j]? = some u → w'.cell? ⟨g, j, none⟩ = some u) → K (a.put o.dst v') w') :
    if Region.wanted o (yielded ops a.tmps) = true then Oper.wp P o a w K Q else E := by
  by_cases hroom : n + m ≤ cap
  · have hw : Region.wanted o (yielded ops a.tmps) = true := by simp [Region.wanted, hg]
    rw [if_pos hw]
    obtain ⟨w', hrun, r1, r2⟩ := run_append_fits (P := P) w base t o.type e i 1 h1 h2 h4 g n cap xs hown ad m c news (by rw [hn, Nat.mul_one]) hc h1c hroom
    unfold Oper.wp
    simp [execOp, hop, resolve, invoke, builtin, hs, hx, hrun, Result.andThen]
    refine hK _ w' r1 r2 (fun j u hu => ?_)
    have hj := (List.getElem?_eq_some_iff.1 hu).1
    have hl := r1.1
    rw [List.length_append] at hl
    rw [r1.cellAt j (by omega), List.getElem?_append_left hj]
    exact hu
  · refine step_append_grows hg s x t hop e i z 1 bytes h1 h2 h3 h4 h5 h6 (by decide) (some ⟨g, 0, none⟩) n cap xs hs (fun e => by cases e) (by have := hown.1; omega) (fun b hb j u hu => ?_) ad m c news hx (by omega) hc h1c (by omega) b1 b2 ?_
    · injection hb with hb
      subst hb
      exact hown.cells (g := g) rfl j u hu
    · intro v' w' r1 r2
      refine hK v' w' (own_mono r1 hb) ⟨r2.os, r2.tape, r2.output, r2.size, fun i hi _ => r2.block i hi (by simp)⟩ (fun j u hu => ?_)
      have := hown.cells (g := g) rfl j u hu
      rw [Addr.add_lit, Nat.zero_add] at this
      exact r2.cell (a := ⟨g, j, none⟩) this (by simp)

/-- the numbers up to n are known -/
def KmpTo (s : ByteArray) (p1 p3 p4 p5 B n : Nat) (w : World) : Prop := ∃ k A cp, n < k ∧ k ≤ 1048576 ∧ KmpOwn s p1 p3 p4 p5 B k A cp w

set_option maxRecDepth 100000 in
set_option maxHeartbeats 1000000 in
theorem implLongestAll (s : ByteArray) (p1 p3 p4 p5 B k cp n : Nat) (A : Option Addr) (w : World) (h : KmpOwn s p1 p3 p4 p5 B k A cp w) (hk : 2 ≤ k) (hks : k ≤ 1048576) (hn : n ≤ s.size) (hs : s.size ≤ 1048575) (hB : B ≤ w.heap.size) :
    Calls Try.prog 95 #[.int .i64 (n : Int), .pointer (some ⟨p5, 0, none⟩), .pointer (some ⟨p4, 0, none⟩), .pointer (some ⟨p1, 0, none⟩)] w fun e w' => e = .returned (.int .i64 ((brN (ltO s) n : Nat) : Int)) ∧ KmpTo s p1 p3 p4 p5 B n w' ∧ Below B w w' := by
  obtain ⟨i0, hi0, hz0, hz1, hz2⟩ := info_parts int_info
  have c5 := h.c5
  have HK := Lib.hid h
  clear h
  go_enter Try.func95, Try.ntmps95
  go_wp2_with fail
  clear c5
  go_loopw [6] (fun i wr => ∃ (m : Nat) (A' : Option Addr) (cp' : Nat), 1 ≤ m ∧ m + 1 ≤ 1048576 ∧ i = .int .i64 ((m : Int) + 1) ∧ KmpOwn s p1 p3 p4 p5 B (m + 1) A' cp' wr ∧ Below B w wr) (fun i _ => n + 1 - (intOf i).toNat)
  case atStart =>
    obtain ⟨m, rfl⟩ : ∃ m, k = m + 1 := ⟨k - 1, by omega⟩
    exact ⟨m, A, cp, by omega, hks, rfl, HK.out, Below.refl _ _⟩
  case round =>
    obtain ⟨m, A', cp', hm1, hm2, rfl, hko, hb⟩ := hrel
    obtain ⟨g, rfl, hat⟩ := hko.at (by omega)
    have HKO := Lib.hid hko
    have HB := Lib.hid hb
    have c5 := hko.c5
    have hBr : B ≤ wr.heap.size := by have := hb.size; omega
    by_cases hlt : (m : Int) + 1 ≤ (n : Int)
    · have c1 := hko.c1
      have c4 := hko.c4
      have ck := hat.ck m (by omega)
      have hms : m < s.size := by omega
      have e1 : IntKind.i64.wrap ((m : Int) + 1 - 1) = (m : Int) := by rw [IntWalk.i64_in _ (by omega)]; omega
      have hmi : (m : Int) < (m : Int) + 1 := by omega
      have e2 : IntKind.i64.wrap (m : Int) = (m : Int) := IntWalk.i64_in _ (by omega)
      have hx : ∀ w : World, (Instr.index 60 (.string s) (.int .i64 (m : Int))).run Try.prog w = .ok (.int .u8 (s[m].toNat : Int)) w := fun w => index_at Try.underlying60 s m m w hms rfl
      have hbl := brN_lt (c := ltO s) hm1
      have HW := Lib.hid (fun q => implWider s m p1 p3 p4 p5 g (m + 1) cp' hms (by omega) (brN (ltO s) m) (wr.drewN q) (by omega) (brN_ok hm1) (tops_start _ _) (hat.drewN q))
      have HN := Lib.hid (knL_next (ltO s) (m + 1))
      have HBM : Hid ((ints (knL (ltO s) (m + 1)))[m]? = some (.int .i64 ((brN (ltO s) m : Nat) : Int))) := by show _ = _; unfold ints; rw [List.getElem?_map, knL_at (by omega)]; rfl
      clear hko hat hb hbl
      generalize brN (ltO s) m = b at ck HW HBM
      generalize (s[m].toNat : Int) = x at hx HW
      generalize brN (ltO s) (m + 1) = r at HW HN
      go_wp2_with fail
      have HP5 := Lib.hid (HKO.out.var.lt p5 rfl)
      have p5lt : p5 < wr.heap.size := HP5.out.2
      have p1lt : p1 < wr.heap.size := World.block_lt_of_cell? wr _ c1
      have p4lt : p4 < wr.heap.size := World.block_lt_of_cell? wr _ c4
      have glt : g < wr.heap.size := World.block_lt_of_cell? wr _ ck
      have n1 : p1 ≠ p5 := by have := HKO.out.b1; have := HP5.out.1; omega
      have n4 : p4 ≠ p5 := by have := HKO.out.b4; have := HP5.out.1; omega
      have ng : g ≠ p5 := fun e => own_ne HKO.out.row HKO.out.var (by decide) g rfl (by rw [e]; rfl)
      have n1' := n1.symm
      have n4' := n4.symm
      have ng' := ng.symm
      refine wp_region_pop (L := ?popA) (o := ?popB) (S := (fun w' => w'.cell? ⟨p5, 0, none⟩ = some (.slice (some ⟨g, 0, none⟩) (m + 1) cp') ∧ w'.cell? ⟨p1, 0, none⟩ = some (.string s) ∧ w'.cell? ⟨p4, 0, none⟩ = some (.func (.func 96) #[] #[.pointer (some ⟨p1, 0, none⟩), .pointer (some ⟨p4, 0, none⟩), .pointer (some ⟨p3, 0, none⟩)]) ∧ w'.cell? ⟨g, m, none⟩ = some (.int .i64 (b : Int)))) (by kernel_rfl) ?popL rfl ?popo (by kernel_rfl) ?popS (fun hHeld => ?popr)
      case popL => simp only [List.dropLast]; rfl
      case popo => simp only [List.getLast?_cons_cons, List.getLast?_singleton]; rfl
      case popS => exact ⟨c5, c1, c4, ck⟩
      refine wpAnyH_take (i := 0) (v := ?take0v) (by simp only [List.getElem?_toArray, List.getElem?_cons_zero]; rfl) (by kernel_rfl) (by kernel_rfl) (by kernel_rfl) (by exact fun _ _ _ h => h) (Or.inl ⟨by rfl, ?take0y⟩) (by assumption) ?take0r
      case take0y => (intro w hSw; (try dsimp only at hSw); go_simp; try with_reducible rfl)
      try simp only [Act.put, List.setIfInBounds_toArray, List.set_cons_zero, List.set_cons_succ]
      refine wpAnyH_take (i := 1) (v := ?take1v) (by simp only [List.getElem?_toArray, List.getElem?_cons_zero, List.getElem?_cons_succ]; rfl) (by kernel_rfl) (by kernel_rfl) (by kernel_rfl) (by exact fun _ _ _ h => h) (Or.inl ⟨by rfl, ?take1y⟩) (by assumption) ?take1r
      case take1y => (intro w hSw; (try dsimp only at hSw); go_simp; try with_reducible rfl)
      try simp only [Act.put, List.setIfInBounds_toArray, List.set_cons_zero, List.set_cons_succ]
      refine wpAnyH_take (i := 2) (v := ?take2v) (by simp only [List.getElem?_toArray, List.getElem?_cons_zero, List.getElem?_cons_succ]; rfl) (by kernel_rfl) (by kernel_rfl) (by kernel_rfl) (by exact fun _ _ _ h => h) (Or.inl ⟨by rfl, ?take2y⟩) (by assumption) ?take2r
      case take2y => (intro w hSw; (try dsimp only at hSw); go_simp; try with_reducible rfl)
      try simp only [Act.put, List.setIfInBounds_toArray, List.set_cons_zero, List.set_cons_succ]
      refine wpAnyH_take (i := 3) (v := ?take3v) (by simp only [List.getElem?_toArray, List.getElem?_cons_zero, List.getElem?_cons_succ]; rfl) (by kernel_rfl) (by kernel_rfl) (by kernel_rfl) (by exact fun _ _ _ h => h) (Or.inl ⟨by rfl, ?take3y⟩) (by assumption) ?take3r
      case take3y => (intro w hSw; (try dsimp only at hSw); go_simp; try with_reducible rfl)
      try simp only [Act.put, List.setIfInBounds_toArray, List.set_cons_zero, List.set_cons_succ]
      refine wpAnyH_take (i := 4) (v := ?take4v) (by simp only [List.getElem?_toArray, List.getElem?_cons_zero, List.getElem?_cons_succ]; rfl) (by kernel_rfl) (by kernel_rfl) (by kernel_rfl) (by exact fun _ _ _ h => h) (Or.inl ⟨by rfl, ?take4y⟩) (by assumption) ?take4r
      case take4y => (intro w hSw; (try dsimp only at hSw); go_simp; try with_reducible rfl)
      try simp only [Act.put, List.setIfInBounds_toArray, List.set_cons_zero, List.set_cons_succ]
      refine wpAnyH_take (i := 5) (v := ?take5v) (by simp only [List.getElem?_toArray, List.getElem?_cons_zero, List.getElem?_cons_succ]; rfl) (by kernel_rfl) (by kernel_rfl) (by kernel_rfl) (by exact fun _ _ _ h => h) (Or.inl ⟨by rfl, ?take5y⟩) (by assumption) ?take5r
      case take5y => (intro w hSw; (try dsimp only at hSw); go_simp; try with_reducible rfl)
      try simp only [Act.put, List.setIfInBounds_toArray, List.set_cons_zero, List.set_cons_succ]
      refine wpAnyH_take (i := 6) (v := ?take6v) (by simp only [List.getElem?_toArray, List.getElem?_cons_zero, List.getElem?_cons_succ]; rfl) (by kernel_rfl) (by kernel_rfl) (by kernel_rfl) (by exact fun _ _ _ h => h) (Or.inl ⟨by rfl, ?take6y⟩) (by assumption) ?take6r
      case take6y => (intro w hSw; (try dsimp only at hSw); go_simp; try with_reducible rfl)
      try simp only [Act.put, List.setIfInBounds_toArray, List.set_cons_zero, List.set_cons_succ]
      refine wpAnyH_take (i := 7) (v := ?take7v) (by simp only [List.getElem?_toArray, List.getElem?_cons_zero, List.getElem?_cons_succ]; rfl) (by kernel_rfl) (by kernel_rfl) (by kernel_rfl) (by exact fun _ _ _ h => h) (Or.inl ⟨by rfl, ?take7y⟩) (by assumption) ?take7r
      case take7y => (intro w hSw; (try dsimp only at hSw); go_simp; try with_reducible rfl)
      try simp only [Act.put, List.setIfInBounds_toArray, List.set_cons_zero, List.set_cons_succ]
      refine wpAnyH_take (i := 8) (v := ?take8v) (by simp only [List.getElem?_toArray, List.getElem?_cons_zero, List.getElem?_cons_succ]; rfl) (by kernel_rfl) (by kernel_rfl) (by kernel_rfl) (by exact fun _ _ _ h => h) (Or.inl ⟨by rfl, ?take8y⟩) (by assumption) ?take8r
      case take8y => (intro w hSw; (try dsimp only at hSw); go_simp; try with_reducible rfl)
      try simp only [Act.put, List.setIfInBounds_toArray, List.set_cons_zero, List.set_cons_succ]
      refine wpAnyH_take (i := 9) (v := ?take9v) (by simp only [List.getElem?_toArray, List.getElem?_cons_zero, List.getElem?_cons_succ]; rfl) (by kernel_rfl) (by kernel_rfl) (by kernel_rfl) (by exact fun _ _ _ h => h) (Or.inl ⟨by rfl, ?take9y⟩) (by assumption) ?take9r
      case take9y => (intro w hSw; (try dsimp only at hSw); go_simp; try with_reducible rfl)
      try simp only [Act.put, List.setIfInBounds_toArray, List.set_cons_zero, List.set_cons_succ]
      refine wpAnyH_take (i := 10) (v := ?take10v) (by simp only [List.getElem?_toArray, List.getElem?_cons_zero, List.getElem?_cons_succ]; rfl) (by kernel_rfl) (by kernel_rfl) (by kernel_rfl) (by exact fun _ _ _ h => h) (Or.inl ⟨by rfl, ?take10y⟩) (by assumption) ?take10r
      case take10y => (intro w hSw; (try dsimp only at hSw); go_simp; try with_reducible rfl)
      try simp only [Act.put, List.setIfInBounds_toArray, List.set_cons_zero, List.set_cons_succ]
      refine wpAnyH_ready (rs := [11]) (by kernel_rfl) (by simp) ?_
      refine AllReadyH.cons (by simp only [List.getElem?_toArray, List.getElem?_cons_zero, List.getElem?_cons_succ]; rfl) (fun K hK => ?_) AllReadyH.nil
      go_simp
      go_at_call 96
      refine (HW.out 1).mono ?_
      rintro e w2 ⟨rfl, hq⟩
      have HK2 : Hid (KmpOwn s p1 p3 p4 p5 B (m + 1) (some ⟨g, 0, none⟩) cp' w2) := by
        obtain ⟨q, rfl⟩ := hq
        exact (HKO.out.drewN 1).drewN q
      have HB2 : Hid (Below B w w2) := by
        obtain ⟨q, rfl⟩ := hq
        exact below_drewN (below_drewN HB.out 1) q
      replace ck : w2.cell? ⟨g, m, none⟩ = some (.int .i64 (b : Int)) := by
        obtain ⟨q, rfl⟩ := hq
        exact ck
      replace c5 := HK2.out.c5
      replace c1 := HK2.out.c1
      replace c4 := HK2.out.c4
      replace p5lt : p5 < w2.heap.size := World.block_lt_of_cell? w2 _ c5
      replace p1lt : p1 < w2.heap.size := World.block_lt_of_cell? w2 _ c1
      replace p4lt : p4 < w2.heap.size := World.block_lt_of_cell? w2 _ c4
      replace glt : g < w2.heap.size := World.block_lt_of_cell? w2 _ ck
      have hz2' : B ≤ w2.heap.size := by have := HB2.out.size; omega
      clear hq hHeld
      go_wp2_with fail
      refine hK.out _ _ ⟨c5, c1, c4, ck⟩ (fun hHeld => ?_)
      clear hK K
      try simp only [Act.put, List.setIfInBounds_toArray, List.set_cons_zero, List.set_cons_succ]
      refine wpAnyH_ready (rs := [12]) (by kernel_rfl) (by simp) ?_
      refine AllReadyH.cons (by simp only [List.getElem?_toArray, List.getElem?_cons_zero, List.getElem?_cons_succ]; rfl) (fun K hK => ?_) AllReadyH.nil
      go_simp
      refine hK.out _ _ ?_ (fun hHeld2 => ?_)
      · refine ⟨?_, ?_, ?_, ?_⟩ <;> go_simp
      clear hK K hHeld
      try simp only [Act.put, List.setIfInBounds_toArray, List.set_cons_zero, List.set_cons_succ]
      refine wpAnyH_ready (rs := [13]) (by kernel_rfl) (by simp) ?_
      refine AllReadyH.cons (by simp only [List.getElem?_toArray, List.getElem?_cons_zero, List.getElem?_cons_succ]; rfl) (fun K hK => ?_) AllReadyH.nil
      refine step_own_k rfl (.tmp 14) (.tmp 26) 22 rfl B 3 i0 _ 8 Try.underlying22 hi0 hz0 hz1 hz2 rfl g (m + 1) cp' (ints (knL (ltO s) (m + 1))) (by simp [Act.eval]) (HK2.out.row.alloc _) ⟨w2.heap.size, 0, none⟩ 1 1 [.int .i64 (r : Int)] (by simp [Act.eval]) rfl (fun j u hu => cell_one _ _ _ j u hu) (fun u hu => by simp at hu; subst hu; rfl) (by unfold maxLen; omega) (by omega) (by simp; omega) ?_
      intro v3 w3 hown3 hgr3 hkp3
      have HG3 := Lib.hid (grown_trans (World.grownBy_alloc _ _ _) hgr3)
      have HR3 : Hid (w3.ownsRow B 3 1 v3 (m + 1 + 1) (ints (knL (ltO s) (m + 1 + 1)))) := by
        rw [HN.out, ints_snoc]
        exact hown3
      obtain ⟨A3, cp3, rfl⟩ := own_slice HR3.out
      have HV3 := Lib.hid (HK2.out.var_stays HG3.out)
      have HB3 : Hid (Below B w2 w3) := (Below.refl _ _).grown HG3.out hz2' (fun q hq => (HK2.out.row.lt q hq).1)
      replace c5 := HV3.out.cellAt 0 (by omega)
      have f53 := HV3.out.frozenAt 0
      replace c1 : w3.cell? ⟨p1, 0, none⟩ = some (.string s) := (HB3.out.cell (p := ⟨p1, 0, none⟩) HK2.out.b1).trans c1
      replace c4 := (HB3.out.cell (p := ⟨p4, 0, none⟩) HK2.out.b4).trans c4
      replace ck : w3.cell? ⟨g, m, none⟩ = some (.int .i64 (b : Int)) := hkp3 m _ HBM.out
      clear hown3 hgr3 hkp3
      refine hK.out _ _ ⟨c5, c1, c4, ck⟩ (fun hHeld => ?_)
      clear hK K hHeld2
      try simp only [Act.put, List.setIfInBounds_toArray, List.set_cons_zero, List.set_cons_succ]
      refine wpAnyH_done (by kernel_rfl) ?_ _
      clear hHeld
      unfold LastQ
      go_simp
      go_wp2_with fail
      go_roundw
      case rel =>
        have hn3 := HK2.out.next HG3.out HR3.out hz2'
        refine ⟨m + 1, A3, cp3, by omega, by omega, by go_num, hn3, ?_⟩
        exact (HB2.out.grown HG3.out hz2' (fun q hq => (HK2.out.row.lt q hq).1)).setCell (HV3.out.lt p5 rfl).1 _
      case measure => simp [intOf]; omega
    · have ck := hat.ck n (by omega)
      clear hko hat hb
      generalize hr : brN (ltO s) n = r at ck
      have HR := Lib.hid hr
      clear hr
      go_wp2_with fail
      go_ret
      exact ⟨by rw [HR.out]; rfl, ⟨_, _, _, by omega, hm2, HKO.out⟩, HB.out⟩
end Go.Proofs.Ytjmijedfmiplfaa
