/- Texts put together. -/
import Derived.Test.YtiikledbflgejaaMgC5
import Derived.OwnWalk
import Derived.Maps.AppendAt
import Derived.Test.YtiikledbflgejaaMgC3
import Derived.Test.YtiikledbflgejaaMgC4
/- A slice of slices of ints that the call builds by append, row by row. -/
namespace Go.Proofs.Ytiikledbflgejaa
open Go.RowKit

theorem own_ne {w : World} {B B' : Nat} {e e' : TypeId} {v v' : Value} {n n' : Nat} {xs xs' : List Value} (h : w.ownsRow B e 1 v n xs) (h' : w.ownsRow B' e' 1 v' n' xs') (hne : e ≠ e') (k : Nat) (hk : v.ownBlock = some k) (hk' : v'.ownBlock = some k) : False := by
  rcases h.2 with ⟨rfl, _⟩ | ⟨g, cap, cur, rfl, _, hg, _⟩
  · simp [Value.ownBlock] at hk
  · rcases h'.2 with ⟨rfl, _⟩ | ⟨g', cap', cur', rfl, _, hg', _⟩
    · simp [Value.ownBlock] at hk'
    · simp only [Value.ownBlock, Option.some.injEq] at hk hk'
      subst hk; subst hk'
      rw [hg] at hg'
      injection hg' with hg'
      injection hg' with _ he
      exact hne he

theorem RowsTo.grown {w w' : World} {B : Nat} {us : List Value} {m : List (List Int)} {row : Option Nat} (h : RowsTo w B us m) (hg : w.grownBy w' row) (hne : ∀ i (hi : i < us.length) k, us[i].ownBlock = some k → row = some k → False) : RowsTo w' B us m :=
  ⟨h.1, fun i a b => own_apart (h.2.1 i a b) hg (hne i a), h.2.2⟩

/-- the rows that have been appended -/
def GrowMat (w : World) (B : Nat) (o : Value) (us : List Value) (m : List (List Int)) : Prop :=
  w.ownsRow B 24 1 o us.length us ∧ RowsTo w B us m
theorem GrowMat.below {w w' : World} {B : Nat} {o : Value} {us : List Value} {m : List (List Int)} (h : GrowMat w B o us m) (hb : Below w.heap.size w w') : GrowMat w' B o us m := ⟨own_below h.1 hb, h.2.below hb⟩
theorem GrowMat.drewN {w : World} {B : Nat} {o : Value} {us : List Value} {m : List (List Int)} (h : GrowMat w B o us m) (n : Nat) : GrowMat (w.drewN n) B o us m := h
/-- one row more -/
theorem GrowMat.snoc {w w1 w2 : World} {B : Nat} {o o' u : Value} {us : List Value} {m : List (List Int)} (h : GrowMat w B o us m) (hb : Below w.heap.size w w1) (hB : B ≤ w.heap.size) (hk : us.length < m.length)
    (hu : w1.ownsRow w.heap.size 3 1 u m[us.length].length (ints m[us.length]))
    (ho : w2.ownsRow B 24 1 o' (us.length + 1) (us ++ [u])) (hg : w1.grownBy w2 o.ownBlock) : GrowMat w2 B o' (us ++ [u]) m := by
  have h1 := h.2.snoc hb hB hk hu
  have h2 := own_below h.1 hb
  refine ⟨by simpa using ho, h1.grown hg (fun i hi k e1 e2 => ?_)⟩
  exact own_ne (h1.2.1 i hi (by have := h1.1; omega)) h2 (by decide) k e1 e2
/-- all rows are there -/
theorem GrowMat.own {w : World} {B : Nat} {o : Value} {us : List Value} {m : List (List Int)} (h : GrowMat w B o us m) (hl : us.length = m.length) : OwnMat w B w.heap.size o m := by
  obtain ⟨h1, h2⟩ := h
  refine ⟨24, us, hl, by rw [← hl]; exact h1, fun i a b => ⟨3, h2.2.1 i a b⟩, h2.2.2, fun i a k e => ⟨fun h' => ?_, ((h2.2.1 i a (by omega)).lt k e).2⟩, fun k e => (h1.lt k e).2⟩
  exact own_ne (h2.2.1 i a (by omega)) h1 (by decide) k e h'

/-- append of one element that the walk has just laid; the row alone has turned -/
theorem wpList_append1g {P : Program} (w : World) {ops : Array Oper} {rest : List Oper} {o : Oper} {a : Act} {Q : Exit → Act → World → Prop} (hgd : o.guard = none) (s x : Operand) (t : TypeId)
    (ho : o.op = .call { callee := .builtin .append, args := #[s, x], argTypes := #[t, t] })
    (base : Nat) (e : TypeId) (i : TypeInfo) (z : Value) (bytes : Nat) (ht : P.underlying t = some (.slice e)) (hi : P.info? e = some i) (hz : i.zero = some z)
    (hsize : i.size = 1) (hby : i.bytes = bytes) (hzs : z.cells.size = 1)
    (v : Value) (n : Nat) (xs : List Value) (hs : a.eval s = v) (hown : w.ownsRow base e 1 v n xs)
    (y : Value) (hy : y.oneCell' = true) (hx : a.eval x = .slice (some ⟨w.heap.size, 0, none⟩) 1 1)
    (h63 : n + 1 ≤ maxLen) (hbytes : (n + 1) * bytes ≤ 140737488355328) (hbase : base ≤ w.heap.size)
    (h : ∀ v' w', w'.ownsRow base e 1 v' (n + 1) (xs ++ [y]) → w.grownBy w' v.ownBlock → wpList P ops Q rest (a.put o.dst v') w') :
    wpList P ops Q (o :: rest) a (w.alloc (.cells #[y] e)) := by
  refine wpList_append_own _ hgd s x t ho base e i z 1 bytes ht hi hz hsize hby hzs (by decide) v n xs hs (hown.alloc _) ⟨w.heap.size, 0, none⟩ 1 1 [y] hx rfl ?_ ?_ h63 hbytes (by simp; omega) ?_
  · intro j u hu
    rcases j with _ | j
    · simp at hu
      subst hu
      rw [Addr.add_lit, World.cell?_alloc_at _ _ _ _ (by simp)]
      rfl
    · simp at hu
  · intro u hu
    simp at hu
    subst hu
    exact hy
  · intro v' w' h1 h2 _
    exact h v' w' h1 (grown_trans (World.grownBy_alloc _ _ _) h2)

theorem OwnMat.nil (w : World) (B S : Nat) : OwnMat w B S (.slice none 0 0) [] :=
  ⟨24, [], rfl, World.ownsRow_nil _ _ _ _, fun i h => absurd h (by simp), fun i j h => absurd h (by simp), fun i h => absurd h (by simp), fun k hk => by cases hk⟩
/-- what is written into other blocks does not reach it -/
theorem OwnMat.keeps {w w' : World} {B S lo hi : Nat} {v : Value} {m : List (List Int)} (h : OwnMat w B S v m) (k : KeepsOut lo hi w w') (hne : hi ≤ B) : OwnMat w' B S v m := by
  obtain ⟨t0, vs, h1, h2, h3, h4⟩ := h
  exact ⟨t0, vs, h1, KeepsOut.own h2 k (fun j hj => .inr (by have := (h2.lt j hj).1; omega)), fun i a b => by obtain ⟨te, h⟩ := h3 i a b; exact ⟨te, KeepsOut.own h k (fun j hj => .inr (by have := (h.lt j hj).1; omega))⟩, h4⟩

/-- append to a row of the call's own, as one step of a region that draws; the row alone turns -/
theorem step_own_g {P : Program} {ops : Array Oper} {o : Oper} {a : Act} {w : World} {K : Act → World → Prop} {Q : Exit → Act → World → Prop} {E : Prop}
    (hg : o.guard = none) (s x : Operand) (t : TypeId) (hop : o.op = Op.call { callee := Callee.builtin Builtin.append, args := #[s, x], argTypes := #[t, t] })
    (base : Nat) (e : TypeId) (i : TypeInfo) (z : Value) (bytes : Nat) (h1 : P.underlying t = some (.slice e)) (h2 : P.info? e = some i) (h3 : i.zero = some z) (h4 : i.size = 1) (h5 : i.bytes = bytes) (h6 : z.cells.size = 1)
    (v : Value) (n : Nat) (xs : List Value) (hs : a.eval s = v) (hown : w.ownsRow base e 1 v n xs)
    (ad : Addr) (m c : Nat) (news : List Value) (hx : a.eval x = .slice (some ad) m c) (hn : news.length = m) (hc : ∀ j u, news[j]? = some u → w.cell? (ad.add j) = some u) (h1c : ∀ u ∈ news, u.oneCell' = true)
    (b1 : n + m ≤ maxLen) (b2 : (n + m) * bytes ≤ 140737488355328) (hb : base ≤ w.heap.size)
    (hK : ∀ v' w', w'.ownsRow base e 1 v' (n + m) (xs ++ news) → w.grownBy w' v.ownBlock → K (a.put o.dst v') w') :
    if Region.wanted o (yielded ops a.tmps) = true then Oper.wp P o a w K Q else E := by
  have hw : Region.wanted o (yielded ops a.tmps) = true := by simp [Region.wanted, hg]
  rw [if_pos hw]
  obtain ⟨v', w', hrun, r1, r2, _⟩ := run_append_own (P := P) w base t o.type e i z 1 bytes h1 h2 h3 h4 h5 h6 (by decide) v n xs hown ad m c news (by rw [hn, Nat.mul_one]) hc h1c b1 b2 hb
  unfold Oper.wp
  simp [execOp, hop, resolve, invoke, builtin, hs, hx, hrun, Result.andThen]
  exact hK v' w' r1 r2
theorem own_made0 (w : World) (B : Nat) (e : TypeId) (hB : B ≤ w.heap.size) : (w.alloc (.cells #[] e)).ownsRow B e 1 (.slice (some ⟨w.heap.size, 0, none⟩) 0 0) 0 [] :=
  World.ownsRow_made (e := e) (size := 1) w #[] 0 hB (by simp [maxLen]) (by simp)
theorem sizeOf_int (w : World) : (sizeOf (Try.prog.elem 24)).run Try.prog w = .ok 1 w := by kernel_rfl
/-- s[k:] -/
theorem slice_from {P : Program} {t e : TypeId} (ht : P.underlying t = some (.slice e)) (hz : ∀ w, (sizeOf (P.elem t)).run P w = .ok 1 w) (b off n cap k : Nat) (hk : k ≤ n) (hn : n ≤ cap) : ∃ X, (∀ w, (Instr.slice t (.slice (some ⟨b, off, none⟩) n cap) (some (.int .i64 (k : Int))) none none).run P w = .ok (.slice (some X) (n - k) (cap - k)) w) ∧ (k < n → X = ⟨b, off + k, none⟩) := by
  have ht' : P.underlying t = some (.slice (P.elem t)) := by
    have : P.elem t = e := by simp [Program.elem, ht]
    rw [this]; exact ht
  refine ⟨if cap = k then ⟨b, off, none⟩ else (⟨b, off, none⟩ : Addr).add (k * 1), fun w => ?_, fun h => ?_⟩
  · rw [run_slice_l (P := P) w t _ _ _ ht' .i64 k (by omega) (by omega), hz w]
    simp only [Result.andThen, sliced, Int.toNat_natCast]
    by_cases hc : cap = k
    · rw [if_pos hc, if_pos hc]
    · rw [if_neg hc, if_neg hc]
      rfl
  · rw [if_neg (by omega), Nat.mul_one, Addr.add_lit]
/-- s[:k] -/
theorem slice_upto {P : Program} {t e : TypeId} (ht : P.underlying t = some (.slice e)) (hz : ∀ w, (sizeOf (P.elem t)).run P w = .ok 1 w) (b off n cap k : Nat) (hk : k ≤ n) (hn : n ≤ cap) : ∃ X, (∀ w, (Instr.slice t (.slice (some ⟨b, off, none⟩) n cap) none (some (.int .i64 (k : Int))) none).run P w = .ok (.slice (some X) k cap) w) ∧ X = ⟨b, off, none⟩ := by
  have ht' : P.underlying t = some (.slice (P.elem t)) := by
    have : P.elem t = e := by simp [Program.elem, ht]
    rw [this]; exact ht
  refine ⟨⟨b, off, none⟩, fun w => ?_, rfl⟩
  rw [run_slice_h (P := P) w t _ _ _ ht' .i64 k (by omega) (by omega), hz w]
  simp only [Result.andThen, sliced, Int.toNat_natCast]
  by_cases hc : cap = 0
  · rw [if_pos hc]; simp
  · rw [if_neg hc]
    simp [Addr.add]
end Go.Proofs.Ytiikledbflgejaa

/- append of one element that the walk has just laid, and where the new slice lies: so that a row read meanwhile is seen to stay. -/
namespace Go.Proofs.Ytiikledbflgejaa
open Go.RowKit

theorem wpList_append1p {P : Program} (w : World) {ops : Array Oper} {rest : List Oper} {o : Oper} {a : Act} {Q : Exit → Act → World → Prop} (hgd : o.guard = none) (s x : Operand) (t : TypeId)
    (ho : o.op = .call { callee := .builtin .append, args := #[s, x], argTypes := #[t, t] })
    (base : Nat) (e : TypeId) (i : TypeInfo) (z : Value) (bytes : Nat) (ht : P.underlying t = some (.slice e)) (hi : P.info? e = some i) (hz : i.zero = some z)
    (hsize : i.size = 1) (hby : i.bytes = bytes) (hzs : z.cells.size = 1)
    (v : Value) (n : Nat) (xs : List Value) (hs : a.eval s = v) (hown : w.ownsRow base e 1 v n xs)
    (y : Value) (hy : y.oneCell' = true) (hx : a.eval x = .slice (some ⟨w.heap.size, 0, none⟩) 1 1)
    (h63 : n + 1 ≤ maxLen) (hbytes : (n + 1) * bytes ≤ 140737488355328) (hbase : base ≤ w.heap.size)
    (h : ∀ v' w', w'.ownsRow base e 1 v' (n + 1) (xs ++ [y]) → w.grownBy w' v.ownBlock → (v'.ownBlock = v.ownBlock ∨ v'.ownBlock = some (w.heap.size + 1)) → wpList P ops Q rest (a.put o.dst v') w') :
    wpList P ops Q (o :: rest) a (w.alloc (.cells #[y] e)) := by
  refine wpList_append_own_at _ hgd s x t ho base e i z 1 bytes ht hi hz hsize hby hzs (by decide) v n xs hs (hown.alloc _) ⟨w.heap.size, 0, none⟩ 1 1 [y] hx rfl ?_ ?_ h63 hbytes (by simp; omega) ?_
  · intro j u hu
    rcases j with _ | j
    · simp at hu
      subst hu
      rw [Addr.add_lit, World.cell?_alloc_at _ _ _ _ (by simp)]
      rfl
    · simp at hu
  · intro u hu
    simp at hu
    subst hu
    exact hy
  · intro v' w' h1 h2 _ h4
    simp only [World.size_alloc] at h4
    exact h v' w' h1 (grown_trans (World.grownBy_alloc _ _ _) h2) h4
/-- a slice that lies in block B or in none before S -/
def Away (B S : Nat) (v : Value) : Prop := ∀ k, v.ownBlock = some k → k = B ∨ S ≤ k
theorem Away.next {B S : Nat} {v v' : Value} {w : World} (h : Away B S v) (hS : S ≤ w.heap.size) (h2 : v'.ownBlock = v.ownBlock ∨ v'.ownBlock = some (w.heap.size + 1)) : Away B S v' := by
  intro k hk
  rcases h2 with e | e
  · exact h k (by rw [← e]; exact hk)
  · rw [e] at hk
    injection hk with hk
    exact .inr (by omega)
/-- a row that lies between them stays -/
theorem Away.keeps {B S L : Nat} {v : Value} {w w' : World} {e : TypeId} {u : Value} {n : Nat} {xs : List Value} (h : Away B S v) (hg : w.grownBy w' v.ownBlock) (hu : w.ownsRow L e 1 u n xs) (hB : B < L) (hS : ∀ k, u.ownBlock = some k → k < S) : w'.ownsRow L e 1 u n xs := by
  refine own_apart hu hg (fun k hk hk2 => ?_)
  have h1 := (hu.lt k hk).1
  have h2 := hS k hk
  rcases h k hk2 with h3 | h3 <;> omega
end Go.Proofs.Ytiikledbflgejaa

/- What a valid substitution makes of a valid word is a valid word, if it is short enough; applied again and again. No program in it. -/
namespace Go.Proofs.Ytiikledbflgejaa
open Go.RowKit

def stepS (l : List ByteArray) (s : ByteArray) : ByteArray := ⟨(applyL l s.data.toList).toArray⟩
theorem stepS_list (l : List ByteArray) (s : ByteArray) : (stepS l s).data.toList = applyL l s.data.toList := rfl
theorem stepS_size (l : List ByteArray) (s : ByteArray) : (stepS l s).size = (applyL l s.data.toList).length := by
  show (applyL l s.data.toList).toArray.size = _
  simp
theorem all_of_word {s : ByteArray} (h : wordB s = true) : s.data.toList.all isAbcd = true := by
  unfold wordB at h
  rw [Bool.and_eq_true] at h
  exact h.2
theorem applyL_all (p : UInt8 → Bool) {l : List ByteArray} (hp : ∀ k (hk : k < l.length), l[k].data.toList.all p = true) (w : List UInt8) (hw : ∀ c ∈ w, 97 ≤ c.toNat ∧ c.toNat < 97 + l.length) : (applyL l w).all p = true := by
  unfold applyL
  rw [List.all_flatMap, List.all_eq_true]
  intro c hc
  obtain ⟨h1, h2⟩ := hw c hc
  rw [imgOf_at l c (c.toNat - 97) (by omega) (by omega)]
  exact hp _ _
theorem word_mem {s : ByteArray} (h : wordB s = true) {n : Nat} (h2 : withinB n s = true) : ∀ c ∈ s.data.toList, 97 ≤ c.toNat ∧ c.toNat < 97 + n := by
  intro c hc
  have a := List.all_eq_true.1 (all_of_word h) c hc
  have b := List.all_eq_true.1 h2 c hc
  simp [isAbcd] at a b
  omega
theorem step_word {l : List ByteArray} {s : ByteArray} (hl : substB l = true) (hs : wordB s = true) (hw : withinB l.length s = true) (h4 : (applyL l s.data.toList).length ≤ 400) : wordB (stepS l s) = true ∧ withinB l.length (stepS l s) = true := by
  obtain ⟨_, _, hi⟩ := subst_parts hl
  constructor
  · unfold wordB
    rw [stepS_size, decide_eq_true h4, stepS_list, applyL_all isAbcd (fun k hk => all_of_word (img_parts (hi k hk)).2.2.1) _ (word_mem hs hw)]
    rfl
  · exact applyL_all _ (fun k hk => (img_parts (hi k hk)).2.2.2) _ (word_mem hs hw)

/-- what ApplySubst is to return -/
def appOk (l : List ByteArray) (s : ByteArray) : Bool := (substB l && (wordB s && withinB l.length s)) && decide ((applyL l s.data.toList).length ≤ 400)
def appR (l : List ByteArray) (s : ByteArray) : ByteArray := if appOk l s = true then stepS l s else ⟨#[]⟩

def iterS (l : List ByteArray) (s : ByteArray) : Nat → ByteArray
  | 0 => s
  | n + 1 => stepS l (iterS l s n)
def iterOk (l : List ByteArray) (s : ByteArray) : Nat → Bool
  | 0 => true
  | n + 1 => iterOk l s n && decide ((applyL l (iterS l s n).data.toList).length ≤ 400)
theorem iterOk_mono {l : List ByteArray} {s : ByteArray} {k : Nat} (h : iterOk l s k = false) : ∀ n, iterOk l s (k + n) = false
  | 0 => h
  | n + 1 => by
    show (iterOk l s (k + n) && _) = false
    rw [iterOk_mono h n, Bool.false_and]
theorem iter_word {l : List ByteArray} {s : ByteArray} (hl : substB l = true) (hs : wordB s = true) (hw : withinB l.length s = true) : ∀ n, iterOk l s n = true → wordB (iterS l s n) = true ∧ withinB l.length (iterS l s n) = true
  | 0, _ => ⟨hs, hw⟩
  | n + 1, h => by
    have h' : (iterOk l s n && decide ((applyL l (iterS l s n).data.toList).length ≤ 400)) = true := h
    rw [Bool.and_eq_true, decide_eq_true_eq] at h'
    obtain ⟨a, b⟩ := iter_word hl hs hw n h'.1
    exact step_word hl a b h'.2
/-- what IterateSubst is to return -/
def itOk (l : List ByteArray) (s : ByteArray) (n : Int) : Bool := (decide (0 ≤ n) && decide (n ≤ 20)) && ((substB l && (wordB s && withinB l.length s)) && iterOk l s n.toNat)
def itR (l : List ByteArray) (s : ByteArray) (n : Int) : ByteArray := if itOk l s n = true then iterS l s n.toNat else ⟨#[]⟩
def PairSaid (r : ByteArray) (ok : Bool) (w : World) (e : Ending) (w' : World) : Prop := e = .returned (.tuple #[.string r, .bool ok]) ∧ Below w.heap.size w w'
theorem appR_no {l : List ByteArray} {s : ByteArray} (h : appOk l s = false) {w w' : World} (hb : Below w.heap.size w w') : PairSaid (appR l s) (appOk l s) w (.returned (.tuple #[.string ⟨#[]⟩, .bool false])) w' := by
  refine ⟨?_, hb⟩
  have e : appR l s = ⟨#[]⟩ := if_neg (by rw [h]; decide)
  rw [h, e]
theorem itR_no {l : List ByteArray} {s : ByteArray} {n : Int} (h : itOk l s n = false) {w w' : World} (hb : Below w.heap.size w w') : PairSaid (itR l s n) (itOk l s n) w (.returned (.tuple #[.string ⟨#[]⟩, .bool false])) w' := by
  refine ⟨?_, hb⟩
  have e : itR l s n = ⟨#[]⟩ := if_neg (by rw [h]; decide)
  rw [h, e]

theorem img_le {l : List ByteArray} (hl : substB l = true) (c : UInt8) : (imgOf l c).length ≤ 8 := by
  obtain ⟨_, _, hi⟩ := subst_parts hl
  unfold imgOf
  rw [List.getD_eq_getElem?_getD]
  by_cases h : c.toNat - 97 < l.length
  · rw [List.getElem?_eq_getElem h]
    have := (img_parts (hi _ h)).2.1
    simpa using this
  · rw [List.getElem?_eq_none (by omega)]
    simp
theorem applyL_le {l : List ByteArray} (hl : substB l = true) : ∀ w : List UInt8, (applyL l w).length ≤ 8 * w.length
  | [] => by simp [applyL]
  | c :: w => by
    have h1 := img_le hl c
    have h2 := applyL_le hl w
    unfold applyL at h2 ⊢
    rw [List.flatMap_cons, List.length_append, List.length_cons]
    omega
/-- what ComposeSubst is to return -/
def compR (l m : List ByteArray) : List ByteArray := l.map (stepS m)
def compOk (l m : List ByteArray) : Bool := (substB l && (substB m && decide (l.length = m.length))) && substB (compR l m)
def compSub (l m : List ByteArray) : List ByteArray := if compOk l m = true then compR l m else []
theorem compSub_le (l m : List ByteArray) : (compSub l m).length ≤ 4 := by
  unfold compSub; split
  · rename_i h
    unfold compOk at h
    rw [Bool.and_eq_true] at h
    exact (subst_parts h.2).2.1
  · simp
theorem compR_succ (l m : List ByteArray) (k : Nat) (hk : k < l.length) : strs (compR (l.take (k + 1)) m) = strs (compR (l.take k) m) ++ [.string (stepS m l[k])] := by
  unfold compR
  rw [List.take_succ_eq_append_getElem hk, List.map_append, List.map_cons, List.map_nil, strs_snoc]
theorem compR_small {l m : List ByteArray} (hl : substB l = true) (hm : substB m = true) : ∀ x ∈ compR l m, x.size ≤ 1048576 := by
  intro x hx
  obtain ⟨y, hy, rfl⟩ := List.mem_map.1 hx
  obtain ⟨k, hk, rfl⟩ := List.mem_iff_getElem.1 hy
  have h1 := (img_parts ((subst_parts hl).2.2 k hk)).2.1
  have h2 := applyL_le hm l[k].data.toList
  rw [stepS_size]
  have : l[k].data.toList.length = l[k].size := by simp
  omega
end Go.Proofs.Ytiikledbflgejaa

/- The matrix of a substitution, what becomes of counts, products, determinants. No program in it. -/
namespace Go.Proofs.Ytiikledbflgejaa
open Go.RowKit

def letterN (i : Nat) : UInt8 := UInt8.ofNat (97 + i)
theorem letterN_toNat (i : Nat) (h : i ≤ 4) : (letterN i).toNat = 97 + i := by
  unfold letterN
  rw [UInt8.toNat_ofNat']
  omega
/-- row i of the matrix: how often the letter i stands in each image -/
def rowL (l : List ByteArray) (i : Nat) : List Int := l.map fun x => (cnt x.data.toList (letterN i) : Int)
def matL (l : List ByteArray) : List (List Int) := (List.range l.length).map (rowL l)
theorem rowL_length (l : List ByteArray) (i : Nat) : (rowL l i).length = l.length := by simp [rowL]
theorem matL_length (l : List ByteArray) : (matL l).length = l.length := by simp [matL]
theorem matL_at (l : List ByteArray) (i : Nat) (h : i < (matL l).length) : (matL l)[i] = rowL l i := by simp [matL]
theorem rowL_at (l : List ByteArray) (i k : Nat) (h : k < l.length) (h' : k < (rowL l i).length) : (rowL l i)[k] = (cnt l[k].data.toList (letterN i) : Int) := by simp [rowL]
theorem rowL_succ (l : List ByteArray) (i k : Nat) (h : k < l.length) : ints (rowL (l.take (k + 1)) i) = ints (rowL (l.take k) i) ++ [.int .i64 (cnt l[k].data.toList (letterN i) : Int)] := by
  unfold rowL
  rw [List.take_succ_eq_append_getElem h, List.map_append, List.map_cons, List.map_nil, ints_snoc]
/-- what MatrixOf is to return -/
def matR (l : List ByteArray) : List (List Int) := if substB l = true then matL l else []
theorem matR_le (l : List ByteArray) : (matR l).length ≤ 4 := by
  unfold matR; split
  · rename_i h; rw [matL_length]; exact (subst_parts h).2.1
  · simp
/-- the sum of the first k products -/
def dotTo (a b : List Int) : Nat → Int
  | 0 => 0
  | k + 1 => dotTo a b k + a.getD k 0 * b.getD k 0
end Go.Proofs.Ytiikledbflgejaa
