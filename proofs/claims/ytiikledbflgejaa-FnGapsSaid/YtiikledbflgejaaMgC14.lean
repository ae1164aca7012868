/- Texts put together. -/
import Derived.Test.YtiikledbflgejaaMgC12
import Derived.Laws.CopyRow
import Derived.Test.YtiikledbflgejaaMgC13
import Derived.Test.YtiikledbflgejaaMgC3
/- A row of bytes of the call's own that '[]byte(s)' may have laid (it bears a mark behind its last cell): append to it, and its conversion to a text. -/
namespace Go.Proofs.Ytiikledbflgejaa
open Go.RowKit

/-- bytes are written into a marked row -/
theorem store_marked (P : Program) (g o : Nat) (t : TypeId) : ∀ (vs : List Value) (i : Nat) (cur : Array Value) (w : World), w.heap[g]? = some (.cells cur t (cur.size, cur.size + 1)) → o + i + vs.length ≤ cur.size → (∀ v ∈ vs, v.oneCell' = true) →
    ∃ cur' : Array Value, (storeCells ⟨g, o, none⟩ vs i).run P w = .ok () (w.setRow g cur') ∧ cur'.size = cur.size ∧ cur'.toList.take (o + i + vs.length) = cur.toList.take (o + i) ++ vs
  | [], i, cur, w, hg, _, _ => by
    refine ⟨cur, ?_, rfl, by simp⟩
    rw [setRow_self w g cur t _ hg]
    rfl
  | v :: vs, i, cur, w, hg, hl, h1 => by
    rw [List.length_cons] at hl
    have hi : o + i < cur.size := by omega
    have hadd : (⟨g, o, none⟩ : Addr).add i = ⟨g, o + i, none⟩ := by rw [Addr.add_lit]
    have hcell : w.cell? ⟨g, o + i, none⟩ = some cur[o + i] := by simp [World.cell?, hg, hi]
    have hfro : w.frozen? ⟨g, o + i, none⟩ = false := by
      simp only [World.frozen?, hg]
      simp; omega
    have hst : (store ((⟨g, o, none⟩ : Addr).add i) v).run P w = .ok () (w.setRow g (cur.setIfInBounds (o + i) v)) := by
      rw [hadd, run_store P w _ v _ (h1 v (List.mem_cons_self ..)), hcell]
      simp [hfro, setCell_eq_setRow w g (o + i) cur t _ v hg]
    have hs1 : (cur.setIfInBounds (o + i) v).size = cur.size := by simp
    have hg1 : (w.setRow g (cur.setIfInBounds (o + i) v)).heap[g]? = some (.cells (cur.setIfInBounds (o + i) v) t ((cur.setIfInBounds (o + i) v).size, (cur.setIfInBounds (o + i) v).size + 1)) := by
      rw [hs1]
      exact setRow_heap w g cur _ t _ hg
    obtain ⟨cur', r1, r2, r3⟩ := store_marked P g o t vs (i + 1) (cur.setIfInBounds (o + i) v) _ hg1 (by rw [hs1]; omega) (fun x hx => h1 x (List.mem_cons_of_mem _ hx))
    refine ⟨cur', ?_, by rw [r2, hs1], ?_⟩
    · simp only [storeCells, Sem.run_bind, hst, Result.andThen_ok, r1, setRow_setRow]
    · have e : (cur.setIfInBounds (o + i) v).toList.take (o + (i + 1)) = cur.toList.take (o + i) ++ [v] := by
        rw [Array.toList_setIfInBounds, show o + (i + 1) = o + i + 1 from by omega, List.take_succ_eq_append_getElem (by simpa using hi), List.take_set_of_le (Nat.le_refl _)]
        simp
      rw [e, show o + (i + 1) + vs.length = o + i + (vs.length + 1) from by omega] at r3
      rw [List.length_cons, r3]
      simp

/-- a row of bytes of the call's own, marked or not -/
def OwnB (w : World) (base : Nat) (v : Value) (l : List UInt8) : Prop :=
  w.ownsRow base 5 1 v l.length (byteCells l) ∨
  ∃ g cap cur, v = .slice (some ⟨g, 0, none⟩) l.length cap ∧ base ≤ g ∧ w.heap[g]? = some (.cells cur 5 (cur.size, cur.size + 1)) ∧ l.length ≤ cap ∧ cap ≤ maxLen ∧ cur.size = cap ∧ cur.toList.take l.length = byteCells l
theorem ownB_slice {w : World} {base : Nat} {v : Value} {l : List UInt8} (h : OwnB w base v l) : ∃ A cap, v = .slice A l.length cap := by
  rcases h with h | ⟨g, cap, cur, h, _⟩
  · exact own_slice h
  · exact ⟨_, _, h⟩
/-- where it lies, if it isn't empty -/
theorem ownB_some {w : World} {base : Nat} {v : Value} {l : List UInt8} (h : OwnB w base v l) (h0 : 0 < l.length) :
    ∃ g cap, v = .slice (some ⟨g, 0, none⟩) l.length cap ∧ l.length ≤ cap ∧ base ≤ g ∧ g < w.heap.size ∧ ∀ (k : Nat) (u : Value), (byteCells l)[k]? = some u → w.cell? ⟨g, k, none⟩ = some u := by
  rcases h with h | ⟨g, cap, cur, rfl, hb, hg, h1, h2, h3, h4⟩
  · obtain ⟨g, cap, rfl, hc⟩ := own_some h h0
    obtain ⟨hlt1, hlt2⟩ := h.lt g rfl
    refine ⟨g, cap, rfl, hc, hlt1, hlt2, fun k u hu => ?_⟩
    have := h.cells (g := g) rfl k u hu
    rwa [Addr.add_lit, Nat.zero_add] at this
  · refine ⟨g, cap, rfl, h1, hb, (Array.getElem?_eq_some_iff.1 hg).1, fun k u hu => ?_⟩
    rw [cell_of_row w g k cur _ _ hg]
    rw [← h4, List.getElem?_take] at hu
    split at hu
    · simpa using hu
    · cases hu
theorem ownB_below {w w' : World} {base : Nat} {v : Value} {l : List UInt8} (h : OwnB w base v l) (hb : Below w.heap.size w w') : OwnB w' base v l := by
  rcases h with h | ⟨g, cap, cur, rfl, hbg, hg, h1⟩
  · exact .inl (own_below h hb)
  · refine .inr ⟨g, cap, cur, rfl, hbg, ?_, h1⟩
    rw [hb.block g (Array.getElem?_eq_some_iff.1 hg).1]
    exact hg
/-- a text turned into a row of bytes -/
theorem ownB_text (w : World) (s : ByteArray) {ts : TypeId} (hts : Try.prog.underlying ts = some .string) (hs : s.size ≤ maxLen) :
    ∃ v wc, (convert ts 22 (.string s)).run Try.prog w = .ok v wc ∧ OwnB wc w.heap.size v s.data.toList ∧ Below w.heap.size w wc := by
  have hl : s.data.toList.length = s.size := by simp
  refine ⟨_, _, run_bytes_of_string w _ _ 5 s hts Try.underlying22 Try.underlying5, .inr ⟨w.heap.size, grownCap w s.size 0 5, bytesRow s (grownCap w s.size 0 5), by rw [hl], Nat.le_refl _, ?_, ?_, grownCap_le_maxLen w _ _ _ hs, ?_, ?_⟩, ((Below.refl _ _).drew).alloc (Nat.le_refl _) _⟩
  · simp [World.alloc, World.drew, -World.alloc_eq, -World.drew_eq]
  · rw [hl]; exact grownCap_ge w _ _ _
  · have := grownCap_ge w s.size 0 5
    have h2 : s.data.size = s.size := rfl
    simp only [bytesRow, Array.size_append, Array.size_map, Array.size_replicate]
    omega
  · rw [hl]
    unfold bytesRow
    rw [Array.toList_append, List.take_append_of_le_length (by simp), List.take_of_length_le (by simp)]
    simp [byteCells]
/-- append of bytes -/
theorem ownB_append (i : TypeInfo) (z : Value) (h2 : Try.prog.info? 5 = some i) (h3 : i.zero = some z) (h4 : i.size = 1) (h5 : i.bytes = 1) (h6 : z.cells.size = 1)
    (w : World) (base : Nat) (ty : TypeId) (v : Value) (l r : List UInt8) (h : OwnB w base v l) (hb : base ≤ w.heap.size)
    (a : Addr) (c : Nat) (hn : ∀ j u, (byteCells r)[j]? = some u → w.cell? (a.add j) = some u) (hm : l.length + r.length ≤ 1048576) :
    ∃ v' w', (Builtin.append_ #[22, 22] ty #[v, .slice (some a) r.length c]).run Try.prog w = .ok v' w' ∧ OwnB w' base v' (l ++ r) ∧ Below base w w' := by
  have hlen : (byteCells r).length = r.length * 1 := by rw [byteCells_length, Nat.mul_one]
  have e : byteCells l ++ byteCells r = byteCells (l ++ r) := by simp [byteCells]
  rcases h with h | ⟨g, cap, cur, rfl, hbg, hg, k1, k2, k3, k4⟩
  · obtain ⟨v', w', hr, h1, hg, _⟩ := run_append_own (P := Try.prog) w base 22 ty 5 i z 1 1 Try.underlying22 h2 h3 h4 h5 h6 (by decide) v l.length _ h a r.length c (byteCells r) hlen hn (byteCells_one r) (by unfold maxLen; omega) (by omega) hb
    refine ⟨v', w', hr, .inl ?_, (Below.refl _ _).grown hg hb (fun k hk => (h.lt k hk).1)⟩
    rw [e] at h1
    rwa [List.length_append]
  · by_cases hroom : l.length + r.length ≤ cap
    · obtain ⟨cur', s1, s2, s3⟩ := store_marked Try.prog g l.length 5 (byteCells r) 0 cur w hg (by rw [byteCells_length]; omega) (byteCells_one r)
      have hf := run_firstCells_some (P := Try.prog) w i.size r.length a r.length c (byteCells r) (by rw [h4]; exact hlen) hn
      refine ⟨.slice (some ⟨g, 0, none⟩) (l.length + r.length) cap, w.setRow g cur', ?_, .inr ⟨g, cap, cur', by rw [List.length_append], hbg, ?_, by rw [List.length_append]; exact hroom, k2, by rw [s2]; exact k3, ?_⟩, ⟨rfl, rfl, rfl, by simp, fun k hk => setRow_other w g k _ (by omega)⟩⟩
      · simp only [h4] at hf
        simp [Builtin.append_, run_underlying Try.underlying22, sizeOf, typeInfo, h2, h4, Builtin.lenOf, hroom, hf, Addr.add_lit, s1]
      · rw [s2]
        exact setRow_heap w g cur _ _ _ hg
      · rw [List.length_append, ← e, ← k4]
        rw [byteCells_length] at s3
        exact s3
    · have hold : ∀ j u, (byteCells l)[j]? = some u → w.cell? ((⟨g, 0, none⟩ : Addr).add j) = some u := by
        intro j u hu
        rw [Addr.add_lit, Nat.zero_add, cell_of_row w g j cur _ _ hg]
        rw [← k4, List.getElem?_take] at hu
        split at hu
        · simpa using hu
        · cases hu
      have hr := run_append_grow (P := Try.prog) w 22 ty 5 i z Try.underlying22 h2 h3 ⟨g, 0, none⟩ l.length cap (byteCells l) (by rw [byteCells_length, h4, Nat.mul_one]) hold a r.length c (byteCells r) (by rw [h4]; exact hlen) hn (by omega) (by omega) (growslice_fits (by omega) (by rw [h5]; omega))
      have hge := grownCap_ge w (l.length + r.length) cap 5
      refine ⟨_, _, hr, .inl ⟨by rw [byteCells_length, Nat.mul_one], .inr ⟨w.heap.size, _, _, by rw [List.length_append], hb, heap_alloc_new w.drew _, by rw [List.length_append]; exact hge, grownCap_le_maxLen w _ _ _ (by unfold maxLen; omega), ?_, ?_⟩⟩, ((Below.refl _ _).drew).alloc hb _⟩
      · simp only [Array.size_append, List.size_toArray, byteCells_length, size_zeroCells, h6]
        omega
      · simp only [Array.toList_append, List.append_assoc]
        rw [← List.append_assoc, e, Nat.mul_one]
        exact List.take_left' (by rw [byteCells_length])
/-- the first n bytes, as a text -/
theorem ownB_conv {ts : TypeId} (hts : Try.prog.underlying ts = some .string) {w : World} {g cap n : Nat} {l : List UInt8} (h : ∀ (k : Nat) (u : Value), (byteCells l)[k]? = some u → w.cell? ⟨g, k, none⟩ = some u) (hn : n ≤ l.length) :
    (convert 22 ts (.slice (some ⟨g, 0, none⟩) n cap)).run Try.prog w = .ok (.string ⟨(l.take n).toArray⟩) w := by
  have e : n = (l.take n).length := by rw [List.length_take]; omega
  conv => lhs; rw [e]
  refine run_convert_bytes_back w _ _ _ _ _ (l.take n) Try.underlying22 Try.underlying5 hts (fun j hj => ?_)
  rw [Addr.add_lit, Nat.zero_add]
  refine h j _ ?_
  rw [List.length_take] at hj
  simp [byteCells, List.getElem?_eq_getElem (show j < l.length by omega)]
/-- append to such a row as one step of a region that draws its order -/
theorem step_ownB {ops : Array Oper} {o : Oper} {a : Act} {w : World} {K : Act → World → Prop} {Q : Exit → Act → World → Prop} {E : Prop}
    (hg : o.guard = none) (s x : Operand) (hop : o.op = Op.call { callee := Callee.builtin Builtin.append, args := #[s, x], argTypes := #[22, 22] })
    (base : Nat) (i : TypeInfo) (z : Value) (h2 : Try.prog.info? 5 = some i) (h3 : i.zero = some z) (h4 : i.size = 1) (h5 : i.bytes = 1) (h6 : z.cells.size = 1)
    (v : Value) (l r : List UInt8) (hs : a.eval s = v) (hown : OwnB w base v l)
    (ad : Addr) (m c : Nat) (hx : a.eval x = .slice (some ad) m c) (hrm : r.length = m) (hc : ∀ j u, (byteCells r)[j]? = some u → w.cell? (ad.add j) = some u)
    (b1 : l.length + m ≤ 1048576) (hb : base ≤ w.heap.size)
    (hK : ∀ v' w', OwnB w' base v' (l ++ r) → Below base w w' → K (a.put o.dst v') w') :
    if Region.wanted o (yielded ops a.tmps) = true then Oper.wp Try.prog o a w K Q else E := by
  have hw : Region.wanted o (yielded ops a.tmps) = true := by simp [Region.wanted, hg]
  rw [if_pos hw]
  subst hrm
  obtain ⟨v', w', hrun, r1, r2⟩ := ownB_append i z h2 h3 h4 h5 h6 w base o.type v l r hown hb ad c hc b1
  unfold Oper.wp
  simp [execOp, hop, resolve, invoke, builtin, hs, hx, hrun, Result.andThen]
  exact hK v' w' r1 r2
end Go.Proofs.Ytiikledbflgejaa

/- The start of a fixed point, of the model. Conditions: lengths of at most 2^20. -/
namespace Go.Proofs.Ytiikledbflgejaa
open Go.RowKit

section
variable {l : List ByteArray} {k : Nat} (hl : substB l = true) (hk : k < l.length) (hg : growB l k = true)
include hl hk hg
theorem fixL_head (i : Nat) : ∃ r, fixL l k (i + 1) = letterN k :: r ∧ r.length = i := by
  obtain ⟨r, e⟩ := iterL_head hl hk hg (i + 1)
  have h := fixL_length hl hk hg (i + 1)
  unfold fixL at h ⊢
  rw [e, List.take_succ_cons] at h ⊢
  exact ⟨_, rfl, by simpa using h⟩
/-- the images of the first i letters are more than i letters -/
theorem build_long (i : Nat) : i + 2 ≤ (applyL l (fixL l k (i + 1))).length := by
  obtain ⟨r, e, hr⟩ := fixL_head hl hk hg i
  obtain ⟨q, e2, h2⟩ := grow_img hl hk hg
  have hw : Within l r := by
    intro c hc
    refine iterL_within hl hk (i + 1) c ?_
    exact List.mem_of_mem_take (show c ∈ (iterL l [letterN k] (i + 1)).take (i + 1) from by
      show c ∈ fixL l k (i + 1)
      rw [e]; exact List.mem_cons_of_mem _ hc)
  have := apply_grows hl hw
  rw [e, show letterN k :: r = [letterN k] ++ r from rfl, applyL_app, e2, List.length_append]
  simp
  omega
omit hl hk hg in
theorem build_pre (i : Nat) : IsPre l k (applyL l (fixL l k i)) := pre_apply (fixL_pre l k i)
/-- one more letter, and its image -/
theorem build_step (i : Nat) : ∃ (h : i + 1 < (applyL l (fixL l k (i + 1))).length) (j : Nat) (hj : j < l.length), (applyL l (fixL l k (i + 1)))[i + 1].toNat = 97 + j ∧ applyL l (fixL l k (i + 2)) = applyL l (fixL l k (i + 1)) ++ l[j].data.toList := by
  have h1 := build_long hl hk hg i
  have h : i + 1 < (applyL l (fixL l k (i + 1))).length := by omega
  have hp := build_pre (l := l) (k := k) (i + 1)
  have e1 := pre_take hl hk hg hp (i + 1) (by omega)
  have e2 := pre_take hl hk hg hp (i + 2) (by omega)
  have hw : ∀ m, Within l (fixL l k m) := fun m c hc => iterL_within hl hk m c (List.mem_of_mem_take hc)
  have hw2 := hw (i + 2)
  have e0 : applyL l (fixL l k (i + 2)) = applyL l ((applyL l (fixL l k (i + 1))).take (i + 2)) := by rw [e2]
  rw [← e2] at hw2
  rw [e0]
  generalize hp' : applyL l (fixL l k (i + 1)) = p at h e1 hw2 ⊢
  have e3 : p.take (i + 2) = p.take (i + 1) ++ [p[i + 1]] := List.take_succ_eq_append_getElem h
  have hm : p[i + 1] ∈ p.take (i + 2) := by rw [e3]; exact List.mem_append_right _ (List.mem_singleton.2 rfl)
  obtain ⟨a, b⟩ := hw2 _ hm
  obtain ⟨j, hj⟩ : ∃ j, p[i + 1].toNat = 97 + j := ⟨p[i + 1].toNat - 97, by omega⟩
  have hjl : j < l.length := by omega
  refine ⟨h, j, hjl, hj, ?_⟩
  rw [e3, applyL_app, e1, hp']
  congr 1
  show imgOf l _ ++ [] = _
  rw [List.append_nil, imgOf_at l _ j hj hjl]
theorem build_one : applyL l (fixL l k 1) = l[k].data.toList := by
  have h4 := (subst_parts hl).2.1
  obtain ⟨r, e, hr⟩ := fixL_head hl hk hg 0
  have : r = [] := List.eq_nil_of_length_eq_zero hr
  subst this
  rw [e]
  show imgOf l (letterN k) ++ [] = _
  rw [imgOf_at l _ k (letterN_toNat k (by omega)) hk, List.append_nil]
theorem build_end (i n : Nat) (hn : n ≤ (applyL l (fixL l k i)).length) : (applyL l (fixL l k i)).take n = fixL l k n := pre_take hl hk hg (build_pre i) n hn
end
end Go.Proofs.Ytiikledbflgejaa

/- FixedPoint and IsFixedStart of the model. Conditions: lengths of at most 2^20. -/
namespace Go.Proofs.Ytiikledbflgejaa
open Go.RowKit

theorem fixR_no {l : List ByteArray} {t : ByteArray} {n : Int} (h : fixOk l t n = false) {w w' : World} (hb : Below w.heap.size w w') : PairSaid (fixR l t n) (fixOk l t n) w (.returned (.tuple #[.string ⟨#[]⟩, .bool false])) w' := by
  refine ⟨?_, hb⟩
  have e : fixR l t n = ⟨#[]⟩ := if_neg (by rw [h]; decide)
  rw [h, e]
theorem fixStart_eq {l : List ByteArray} {s : ByteArray} (h0 : 0 < s.size) : fixStart l s = (fixOk l (oneOf s) s.size && decide ((fixR l (oneOf s) s.size).toList = s.toList)) := by
  unfold fixStart
  rw [decide_eq_false (show ¬ s.size = 0 by omega), Bool.false_or]
  by_cases h : fixOk l (oneOf s) s.size = true
  · have e : fixR l (oneOf s) s.size = ⟨(fixL l (letN (oneOf s)) s.size).toArray⟩ := if_pos h
    rw [h, e, Bool.true_and, Bool.true_and, ByteArray.toList_eq, ByteArray.toList_eq]
  · rw [show fixOk l (oneOf s) s.size = false by simpa using h, Bool.false_and, Bool.false_and]
end Go.Proofs.Ytiikledbflgejaa

/- What SplitAny is to give. No program in it. -/
namespace Go.Proofs.Ytiikledbflgejaa
open Go.RowKit

def isSep (y : ByteArray) (c : UInt8) : Prop := ∃ i, ∃ h : i < y.size, y[i] = c
open Classical in
noncomputable def splitTo (s y : ByteArray) : Nat → List ByteArray × Nat
  | 0 => ([], 0)
  | k + 1 => if ∃ h : k < s.size, isSep y s[k] then ((splitTo s y k).1 ++ [s.extract (splitTo s y k).2 k], k + 1) else splitTo s y k
noncomputable def splitL (s y : ByteArray) : List ByteArray := (splitTo s y s.size).1 ++ [s.extract (splitTo s y s.size).2 s.size]
theorem splitTo_le (s y : ByteArray) : ∀ k, (splitTo s y k).1.length ≤ k ∧ (splitTo s y k).2 ≤ k
  | 0 => by simp [splitTo]
  | k + 1 => by
    have := splitTo_le s y k
    unfold splitTo
    split
    · simp; omega
    · omega
theorem splitTo_yes {s y : ByteArray} {k : Nat} (h : k < s.size) (hs : isSep y s[k]) : splitTo s y (k + 1) = ((splitTo s y k).1 ++ [s.extract (splitTo s y k).2 k], k + 1) := by
  rw [splitTo, if_pos ⟨h, hs⟩]
theorem splitTo_no {s y : ByteArray} {k : Nat} (h : k < s.size) (hs : ¬ isSep y s[k]) : splitTo s y (k + 1) = splitTo s y k := by
  rw [splitTo, if_neg (fun ⟨_, h2⟩ => hs h2)]
theorem splitTo_small (s y : ByteArray) : ∀ k, ∀ x ∈ (splitTo s y k).1, x.size ≤ s.size
  | 0 => by simp [splitTo]
  | k + 1 => by
    intro x hx
    unfold splitTo at hx
    split at hx
    · rcases List.mem_append.1 hx with hx | hx
      · exact splitTo_small s y k x hx
      · simp only [List.mem_singleton] at hx
        subst hx
        rw [ByteArray.size_extract]
        omega
    · exact splitTo_small s y k x hx
theorem splitL_small (s y : ByteArray) : ∀ x ∈ splitL s y, x.size ≤ s.size := by
  intro x hx
  unfold splitL at hx
  rcases List.mem_append.1 hx with hx | hx
  · exact splitTo_small s y _ x hx
  · simp only [List.mem_singleton] at hx
    subst hx
    rw [ByteArray.size_extract]
    omega
theorem splitL_length (s y : ByteArray) : (splitL s y).length ≤ s.size + 1 := by
  unfold splitL
  have := (splitTo_le s y s.size).1
  simp
  omega
theorem strs_one (l : List ByteArray) : ∀ u ∈ strs l, u.oneCell' = true := by
  intro u hu
  obtain ⟨_, _, rfl⟩ := List.mem_map.1 hu
  rfl
end Go.Proofs.Ytiikledbflgejaa
