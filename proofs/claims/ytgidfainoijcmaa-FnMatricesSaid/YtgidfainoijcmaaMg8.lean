/- Texts put together. -/
import Derived.Test.YtgidfainoijcmaaMg7
import Derived.OwnWalk
import Derived.Test.YtgidfainoijcmaaMg2
import Derived.Test.YtgidfainoijcmaaMg3
import Derived.Test.YtgidfainoijcmaaMg4
import Derived.IntWalk
import Derived.Deep.AppendLies
import Derived.Test.YtgidfainoijcmaaMg5
import Derived.Test.YtgidfainoijcmaaMg6
/- A slice of slices of ints that the call builds by append, row by row. -/
namespace Go.Proofs.Ytgidfainoijcmaa
open Go.RowKit

theorem own_ne {w : World} {B B' : Nat} {e e' : TypeId} {v v' : Value} {n n' : Nat} {xs xs' : List Value} (h : w.ownsRow B e 1 v n xs) (h' : w.ownsRow B' e' 1 v' n' xs') (hne : e ≠ e') (k : Nat) (hk : v.ownBlock = some k) (hk' : v'.ownBlock = some k) : False := by
  rcases h.2 with ⟨rfl, _⟩ | ⟨g, cap, cur, rfl, _, hg, _⟩
  · simp [Value.ownBlock] at hk
  · rcases h'.2 with ⟨rfl, _⟩ | ⟨g', cap', cur', rfl, _, hg', _⟩
    · simp [Value.ownBlock] at hk'
    · simp only [Value.ownBlock, Option.some.injEq] at hk hk'
      subst hk; subst hk'
      rw [hg] at hg'
      injection hg' with hg'
      injection hg' with _ he
      exact hne he

theorem RowsTo.grown {w w' : World} {B : Nat} {us : List Value} {m : List (List Int)} {row : Option Nat} (h : RowsTo w B us m) (hg : w.grownBy w' row) (hne : ∀ i (hi : i < us.length) k, us[i].ownBlock = some k → row = some k → False) : RowsTo w' B us m :=
  ⟨h.1, fun i a b => own_apart (h.2.1 i a b) hg (hne i a), h.2.2⟩

/-- the rows that have been appended -/
def GrowMat (w : World) (B : Nat) (o : Value) (us : List Value) (m : List (List Int)) : Prop :=
  w.ownsRow B 30 1 o us.length us ∧ RowsTo w B us m
theorem GrowMat.below {w w' : World} {B : Nat} {o : Value} {us : List Value} {m : List (List Int)} (h : GrowMat w B o us m) (hb : Below w.heap.size w w') : GrowMat w' B o us m := ⟨own_below h.1 hb, h.2.below hb⟩
theorem GrowMat.drewN {w : World} {B : Nat} {o : Value} {us : List Value} {m : List (List Int)} (h : GrowMat w B o us m) (n : Nat) : GrowMat (w.drewN n) B o us m := h
/-- one row more -/
theorem GrowMat.snoc {w w1 w2 : World} {B : Nat} {o o' u : Value} {us : List Value} {m : List (List Int)} (h : GrowMat w B o us m) (hb : Below w.heap.size w w1) (hB : B ≤ w.heap.size) (hk : us.length < m.length)
    (hu : w1.ownsRow w.heap.size 3 1 u m[us.length].length (ints m[us.length]))
    (ho : w2.ownsRow B 30 1 o' (us.length + 1) (us ++ [u])) (hg : w1.grownBy w2 o.ownBlock) : GrowMat w2 B o' (us ++ [u]) m := by
  have h1 := h.2.snoc hb hB hk hu
  have h2 := own_below h.1 hb
  refine ⟨by simpa using ho, h1.grown hg (fun i hi k e1 e2 => ?_)⟩
  exact own_ne (h1.2.1 i hi (by have := h1.1; omega)) h2 (by decide) k e1 e2
/-- all rows are there -/
theorem GrowMat.own {w : World} {B : Nat} {o : Value} {us : List Value} {m : List (List Int)} (h : GrowMat w B o us m) (hl : us.length = m.length) : OwnMat w B w.heap.size o m := by
  obtain ⟨h1, h2⟩ := h
  refine ⟨30, us, hl, by rw [← hl]; exact h1, fun i a b => ⟨3, h2.2.1 i a b⟩, h2.2.2, fun i a k e => ⟨fun h' => ?_, ((h2.2.1 i a (by omega)).lt k e).2⟩, fun k e => (h1.lt k e).2⟩
  exact own_ne (h2.2.1 i a (by omega)) h1 (by decide) k e h'

/-- append of one element that the walk has just laid; the row alone has turned -/
theorem wpList_append1g {P : Program} (w : World) {ops : Array Oper} {rest : List Oper} {o : Oper} {a : Act} {Q : Exit → Act → World → Prop} (hgd : o.guard = none) (s x : Operand) (t : TypeId)
    (ho : o.op = .call { callee := .builtin .append, args := #[s, x], argTypes := #[t, t] })
    (base : Nat) (e : TypeId) (i : TypeInfo) (z : Value) (bytes : Nat) (ht : P.underlying t = some (.slice e)) (hi : P.info? e = some i) (hz : i.zero = some z)
    (hsize : i.size = 1) (hby : i.bytes = bytes) (hzs : z.cells.size = 1)
    (v : Value) (n : Nat) (xs : List Value) (hs : a.eval s = v) (hown : w.ownsRow base e 1 v n xs)
    (y : Value) (hy : y.oneCell' = true) (hx : a.eval x = .slice (some ⟨w.heap.size, 0, none⟩) 1 1)
    (h63 : n + 1 ≤ maxLen) (hbytes : (n + 1) * bytes ≤ 140737488355328) (hbase : base ≤ w.heap.size)
    (h : ∀ v' w', w'.ownsRow base e 1 v' (n + 1) (xs ++ [y]) → w.grownBy w' v.ownBlock → wpList P ops Q rest (a.put o.dst v') w') :
    wpList P ops Q (o :: rest) a (w.alloc (.cells #[y] e)) := by
  refine wpList_append_own _ hgd s x t ho base e i z 1 bytes ht hi hz hsize hby hzs (by decide) v n xs hs (hown.alloc _) ⟨w.heap.size, 0, none⟩ 1 1 [y] hx rfl ?_ ?_ h63 hbytes (by simp; omega) ?_
  · intro j u hu
    rcases j with _ | j
    · simp at hu
      subst hu
      rw [Addr.add_lit, World.cell?_alloc_at _ _ _ _ (by simp)]
      rfl
    · simp at hu
  · intro u hu
    simp at hu
    subst hu
    exact hy
  · intro v' w' h1 h2 _
    exact h v' w' h1 (grown_trans (World.grownBy_alloc _ _ _) h2)

theorem OwnMat.nil (w : World) (B S : Nat) : OwnMat w B S (.slice none 0 0) [] :=
  ⟨30, [], rfl, World.ownsRow_nil _ _ _ _, fun i h => absurd h (by simp), fun i j h => absurd h (by simp), fun i h => absurd h (by simp), fun k hk => by cases hk⟩
/-- what is written into other blocks does not reach it -/
theorem OwnMat.keeps {w w' : World} {B S lo hi : Nat} {v : Value} {m : List (List Int)} (h : OwnMat w B S v m) (k : KeepsOut lo hi w w') (hne : hi ≤ B) : OwnMat w' B S v m := by
  obtain ⟨t0, vs, h1, h2, h3, h4⟩ := h
  exact ⟨t0, vs, h1, KeepsOut.own h2 k (fun j hj => .inr (by have := (h2.lt j hj).1; omega)), fun i a b => by obtain ⟨te, h⟩ := h3 i a b; exact ⟨te, KeepsOut.own h k (fun j hj => .inr (by have := (h.lt j hj).1; omega))⟩, h4⟩

/-- append to a row of the call's own, as one step of a region that draws; the row alone turns -/
theorem step_own_g {P : Program} {ops : Array Oper} {o : Oper} {a : Act} {w : World} {K : Act → World → Prop} {Q : Exit → Act → World → Prop} {E : Prop}
    (hg : o.guard = none) (s x : Operand) (t : TypeId) (hop : o.op = Op.call { callee := Callee.builtin Builtin.append, args := #[s, x], argTypes := #[t, t] })
    (base : Nat) (e : TypeId) (i : TypeInfo) (z : Value) (bytes : Nat) (h1 : P.underlying t = some (.slice e)) (h2 : P.info? e = some i) (h3 : i.zero = some z) (h4 : i.size = 1) (h5 : i.bytes = bytes) (h6 : z.cells.size = 1)
    (v : Value) (n : Nat) (xs : List Value) (hs : a.eval s = v) (hown : w.ownsRow base e 1 v n xs)
    (ad : Addr) (m c : Nat) (news : List Value) (hx : a.eval x = .slice (some ad) m c) (hn : news.length = m) (hc : ∀ j u, news[j]? = some u → w.cell? (ad.add j) = some u) (h1c : ∀ u ∈ news, u.oneCell' = true)
    (b1 : n + m ≤ maxLen) (b2 : (n + m) * bytes ≤ 140737488355328) (hb : base ≤ w.heap.size)
    (hK : ∀ v' w', w'.ownsRow base e 1 v' (n + m) (xs ++ news) → w.grownBy w' v.ownBlock → K (a.put o.dst v') w') :
    if Region.wanted o (yielded ops a.tmps) = true then Oper.wp P o a w K Q else E := by
  have hw : Region.wanted o (yielded ops a.tmps) = true := by simp [Region.wanted, hg]
  rw [if_pos hw]
  obtain ⟨v', w', hrun, r1, r2, _⟩ := run_append_own (P := P) w base t o.type e i z 1 bytes h1 h2 h3 h4 h5 h6 (by decide) v n xs hown ad m c news (by rw [hn, Nat.mul_one]) hc h1c b1 b2 hb
  unfold Oper.wp
  simp [execOp, hop, resolve, invoke, builtin, hs, hx, hrun, Result.andThen]
  exact hK v' w' r1 r2
theorem own_made0 (w : World) (B : Nat) (e : TypeId) (hB : B ≤ w.heap.size) : (w.alloc (.cells #[] e)).ownsRow B e 1 (.slice (some ⟨w.heap.size, 0, none⟩) 0 0) 0 [] :=
  World.ownsRow_made (e := e) (size := 1) w #[] 0 hB (by simp [maxLen]) (by simp)
theorem sizeOf_int (w : World) : (sizeOf (Try.prog.elem 30)).run Try.prog w = .ok 1 w := by kernel_rfl
theorem sizeOf_ints (w : World) : (sizeOf (Try.prog.elem 27)).run Try.prog w = .ok 1 w := by kernel_rfl
/-- s[k:] -/
theorem slice_from {P : Program} {t e : TypeId} (ht : P.underlying t = some (.slice e)) (hz : ∀ w, (sizeOf (P.elem t)).run P w = .ok 1 w) (b off n cap k : Nat) (hk : k ≤ n) (hn : n ≤ cap) : ∃ X, (∀ w, (Instr.slice t (.slice (some ⟨b, off, none⟩) n cap) (some (.int .i64 (k : Int))) none none).run P w = .ok (.slice (some X) (n - k) (cap - k)) w) ∧ (k < n → X = ⟨b, off + k, none⟩) := by
  have ht' : P.underlying t = some (.slice (P.elem t)) := by
    have : P.elem t = e := by simp [Program.elem, ht]
    rw [this]; exact ht
  refine ⟨if cap = k then ⟨b, off, none⟩ else (⟨b, off, none⟩ : Addr).add (k * 1), fun w => ?_, fun h => ?_⟩
  · rw [run_slice_l (P := P) w t _ _ _ ht' .i64 k (by omega) (by omega), hz w]
    simp only [Result.andThen, sliced, Int.toNat_natCast]
    by_cases hc : cap = k
    · rw [if_pos hc, if_pos hc]
    · rw [if_neg hc, if_neg hc]
      rfl
  · rw [if_neg (by omega), Nat.mul_one, Addr.add_lit]
/-- s[:k] -/
theorem slice_upto {P : Program} {t e : TypeId} (ht : P.underlying t = some (.slice e)) (hz : ∀ w, (sizeOf (P.elem t)).run P w = .ok 1 w) (b off n cap k : Nat) (hk : k ≤ n) (hn : n ≤ cap) : ∃ X, (∀ w, (Instr.slice t (.slice (some ⟨b, off, none⟩) n cap) none (some (.int .i64 (k : Int))) none).run P w = .ok (.slice (some X) k cap) w) ∧ X = ⟨b, off, none⟩ := by
  have ht' : P.underlying t = some (.slice (P.elem t)) := by
    have : P.elem t = e := by simp [Program.elem, ht]
    rw [this]; exact ht
  refine ⟨⟨b, off, none⟩, fun w => ?_, rfl⟩
  rw [run_slice_h (P := P) w t _ _ _ ht' .i64 k (by omega) (by omega), hz w]
  simp only [Result.andThen, sliced, Int.toNat_natCast]
  by_cases hc : cap = 0
  · rw [if_pos hc]; simp
  · rw [if_neg hc]
    simp [Addr.add]
end Go.Proofs.Ytgidfainoijcmaa

/- The model's draws of words: l02Word. Condition: the bytes are at most 2^20. -/
namespace Go.Proofs.Ytgidfainoijcmaa
open Go.RowKit

theorem Cur.apart {w w' : World} {g : Nat} {v : Value} {zs : List Int} {row : Option Nat} (h : Cur w g v zs) (hg : w.grownBy w' row) (h1 : row ≠ some g) (h2 : zs = [] ∨ ∀ k, v.ownBlock = some k → row ≠ some k) : Cur w' g v zs := by
  obtain ⟨i, hh, a, b, c, d⟩ := h
  have hgl : g < w.heap.size := by
    rcases Nat.lt_or_ge g w.heap.size with hl | hl
    · exact hl
    · rw [Array.getElem?_eq_none hl] at a; cases a
  refine ⟨i, hh, (hg.block g hgl (fun e => h1 e.symm)).trans a, b, ?_, d⟩
  refine c.grown2 hg ?_
  rcases h2 with rfl | h2
  · exact .inl rfl
  · exact .inr h2
theorem cur_lt {w : World} {g : Nat} {v : Value} {zs : List Int} (h : Cur w g v zs) : g < w.heap.size ∧ (zs = [] ∨ ∀ k, v.ownBlock = some k → k < w.heap.size) := by
  obtain ⟨i, hh, a, b, c, d⟩ := id h
  refine ⟨h.ptr, ?_⟩
  rcases lst_lt c with e | e
  · left
    have := congrArg List.length e
    rw [bytesV_length] at this
    exact List.eq_nil_of_length_eq_zero this
  · exact .inr e
/-- what the call makes itself does not touch the cursor -/
theorem Cur.made {w w1 w2 : World} {g B : Nat} {v : Value} {zs : List Int} {row : Option Nat} (h0 : Cur w g v zs) (h : Cur w1 g v zs) (hg : w1.grownBy w2 row) (hr : ∀ k, row = some k → B ≤ k) (hB : w.heap.size ≤ B) : Cur w2 g v zs := by
  obtain ⟨a, b⟩ := cur_lt h0
  refine h.apart hg (fun e => by have := hr g e; omega) ?_
  rcases b with b | b
  · exact .inl b
  · exact .inr fun k hk e => by have := hr k e; have := b k hk; omega
theorem grown_made {w w1 w2 : World} {g B : Nat} {row : Option Nat} (h : w.grownBy w1 (some g)) (hg : w1.grownBy w2 row) (hr : ∀ k, row = some k → B ≤ k) (hB : w.heap.size ≤ B) : w.grownBy w2 (some g) :=
  ⟨hg.os.trans h.os, hg.tape.trans h.tape, hg.output.trans h.output, Nat.le_trans h.size hg.size, fun k hk hne => (hg.block k (Nat.lt_of_lt_of_le hk h.size) (fun e => by have := hr k e.symm; omega)).trans (h.block k hk hne)⟩

def WordSaid (n k : Int) (g : Nat) (v : Value) (zs : List Int) (w : World) (e : Ending) (w' : World) : Prop :=
  ∃ s : ByteArray, e = .returned (.string s) ∧ (s.size : Int) = n ∧ (∀ c ∈ s.data.toList, 97 ≤ c.toNat ∧ (c.toNat : Int) < 97 + k) ∧ Cur w' g v zs ∧ w.grownBy w' (some g)

set_option maxHeartbeats 1000000 in
set_option maxRecDepth 100000 in
theorem l02Word_any (n k : Int) (g : Nat) (v : Value) (zs : List Int) (w : World) (hz : IsBytes zs) (hc : Cur w g v zs) (hn0 : 0 ≤ n) (hn : n ≤ 400) (hk0 : 0 < k) (hk : k ≤ 4) :
    Calls Try.prog 89 #[.pointer (some ⟨g, 0, none⟩), .int .i64 n, .int .i64 k] w (WordSaid n k g v zs w) := by
  obtain ⟨i0, hi0, hz0, hz1, hz2⟩ := info_parts u8_info
  have HZ := Lib.hid hz
  have HC := Lib.hid hc
  have hgl := (cur_lt hc).1
  clear hz hc
  go_enter Try.func89, Try.ntmps89
  go_wp2_with fail
  go_loopw [7, 8] (fun b i w' => ∃ (j : Nat) (ys : List UInt8), (j : Int) ≤ n ∧ i = .int .i64 j ∧ ys.length = j ∧ (∀ c ∈ ys, 97 ≤ c.toNat ∧ (c.toNat : Int) < 97 + k) ∧ w'.ownsRow w.heap.size 5 1 b j (byteCells ys) ∧ Cur w' g v zs ∧ w.grownBy w' (some g)) (fun _ i _ => (n - intOf i).toNat)
  case atStart => exact ⟨0, [], hn0, rfl, rfl, by simp, own_made0 _ _ _ (Nat.le_refl _), HC.out.below ((Below.refl _ _).alloc (Nat.le_refl _) _), World.grownBy_alloc _ _ _⟩
  case round =>
    obtain ⟨j, ys, hj, rfl, hyl, hys, ho, hcr, hgr⟩ := hrel
    obtain ⟨A, cp, rfl⟩ := own_slice ho
    have HYS := Lib.hid hys
    have HO := Lib.hid ho
    have HCR := Lib.hid hcr
    have HGR := Lib.hid hgr
    have hszr := hgr.size
    clear hys ho hcr hgr
    by_cases hlt : (j : Int) < n
    · go_wp2_with (first
        | (go_at_call 58
           refine (l01Below_small g v zs k _ HZ.out HCR.out hk0 (by omega)).mono ?_
           rintro e w2 ⟨x, rfl, x0, x1, hc2, hg2⟩
           obtain ⟨m, rfl⟩ := Int.eq_ofNat_of_zero_le x0
           have q1 : IntKind.u8.wrap ((97 : Int) + (m : Int)) = ((letterN m).toNat : Int) := by rw [IntWalk.u8_in _ (by omega), letterN_toNat _ (by omega)]; omega
           have HC2 := Lib.hid hc2
           have HG2 := Lib.hid hg2
           have hsz2 := hg2.size
           have HO2 : Hid (w2.ownsRow w.heap.size 5 1 (.slice A j cp) j (byteCells ys)) := own_apart HO.out hg2 (fun x h1 h2 => by have := (HO.out.lt x h1).1; injection h2 with h2; omega)
           clear hc2 hg2)
        | (at_builtin
           refine wpList_append1g _ rfl (.tmp 15) (.tmp 21) _ rfl w.heap.size 5 i0 _ 1 Try.underlying22 hi0 hz0 hz1 hz2 rfl _ j _ rfl HO2.out (.int .u8 ((letterN m).toNat : Int)) rfl rfl (by unfold maxLen; omega) (by omega) (by omega) ?_
           intro v' w3 hown3 hgr3
           have HOW := Lib.hid hown3
           have HGW := Lib.hid hgr3
           clear hown3 hgr3))
      go_roundw
      case rel =>
        have hrw : ∀ x, (Value.slice A j cp).ownBlock = some x → w.heap.size ≤ x := fun x hx => (HO2.out.lt x hx).1
        have hg02 : w.grownBy w2 (some g) := ⟨HG2.out.os.trans HGR.out.os, HG2.out.tape.trans HGR.out.tape, HG2.out.output.trans HGR.out.output, Nat.le_trans HGR.out.size HG2.out.size, fun x hx hne => (HG2.out.block x (Nat.lt_of_lt_of_le hx HGR.out.size) hne).trans (HGR.out.block x hx hne)⟩
        refine ⟨j + 1, ys ++ [letterN m], by omega, by go_num, by simp [hyl], ?_, ?_, Cur.made HC.out HC2.out HGW.out hrw (Nat.le_refl _), grown_made hg02 HGW.out hrw (Nat.le_refl _)⟩
        · intro c hc
          rcases List.mem_append.1 hc with hc | hc
          · exact HYS.out c hc
          · simp at hc
            subst hc
            rw [letterN_toNat _ (by omega)]
            omega
        · rw [byteCells_snoc]
          exact HOW.out
      case measure => simp [intOf]; omega
    · have hjn : n = (j : Int) := by omega
      have hconv := conv_own HO.out
      have HJ := Lib.hid hjn
      clear hjn
      go_wp2_with fail
      go_ret
      exact ⟨_, rfl, by rw [HJ.out, ← hyl]; simp [ByteArray.size], HYS.out, HCR.out, HGR.out⟩
end Go.Proofs.Ytgidfainoijcmaa

/- The model's draws of matrices: l04Draw, MakeMatrix, MakeSize. Condition: the bytes are at most 2^20. -/
namespace Go.Proofs.Ytgidfainoijcmaa
open Go.RowKit

/-- n rows of n numbers from -2 to 4 -/
def SmallM (n : Nat) (m : List (List Int)) : Prop := m.length = n ∧ ∀ r ∈ m, r.length = n ∧ ∀ x ∈ r, -2 ≤ x ∧ x ≤ 4

/-- a matrix that is being drawn: its rows are known as they come -/
theorem rows_more {w : World} {B : Nat} {us : List Value} {m : List (List Int)} (h : RowsTo w B us m) (hl : us.length = m.length) (r : List Int) : RowsTo w B us (m ++ [r]) :=
  ⟨by simp; omega, fun i a b => by have hi : i < m.length := by omega
                                   rw [List.getElem_append_left hi]; exact h.2.1 i a hi, h.2.2⟩

def MatDrawn (n : Nat) (g : Nat) (w : World) (e : Ending) (w' : World) : Prop :=
  ∃ (u : Value) (m : List (List Int)), e = .returned u ∧ SmallM n m ∧ OwnMat w' w.heap.size w'.heap.size u m ∧ w.grownBy w' (some g)
theorem grown_two {a b c : World} {g B : Nat} {row : Option Nat} (h : a.grownBy b (some g)) (k : b.grownBy c row) (hr : ∀ j, row = some j → B ≤ j) (hB : a.heap.size ≤ B) : a.grownBy c (some g) := grown_made h k hr hB

set_option maxHeartbeats 2000000 in
set_option maxRecDepth 100000 in
theorem l04Draw_any (n : Nat) (g : Nat) (v : Value) (zs : List Int) (w : World) (hz : IsBytes zs) (hc : Cur w g v zs) (hn : n ≤ 4) :
    Calls Try.prog 59 #[.pointer (some ⟨g, 0, none⟩), .int .i64 n] w (MatDrawn n g w) := by
  obtain ⟨i0, hi0, hz0, hz1, hz2⟩ := info_parts int_info
  obtain ⟨i1, hj0, hy0, hy1, hy2⟩ := info_parts ints_info
  have HZ := Lib.hid hz
  have HC := Lib.hid hc
  have hgl := (cur_lt hc).1
  clear hz hc
  go_enter Try.func59, Try.ntmps59
  go_wp2_with fail
  go_loopw [5, 6] (fun o i w' => ∃ (us : List Value) (m : List (List Int)), us.length ≤ n ∧ i = .int .i64 us.length ∧ m.length = us.length ∧ (∀ r ∈ m, r.length = n ∧ ∀ x ∈ r, -2 ≤ x ∧ x ≤ 4) ∧ GrowMat w' w.heap.size o us m ∧ Cur w' g v zs ∧ w.grownBy w' (some g)) (fun _ i _ => n - (intOf i).toNat)
  case atStart => exact ⟨[], [], by simp, rfl, rfl, by simp, ⟨own_made0 _ _ _ (Nat.le_refl _), ⟨by simp, fun i h => absurd h (by simp), fun i j h => absurd h (by simp)⟩⟩, HC.out.below ((Below.refl _ _).alloc (Nat.le_refl _) _), World.grownBy_alloc _ _ _⟩
  case round =>
    obtain ⟨us, m, hk, rfl, hml, hsm, hgm, hcr, hgr⟩ := hrel
    obtain ⟨wo, rfl⟩ : ∃ x : World, x = wr := ⟨_, rfl⟩
    obtain ⟨A, cpo, rfl⟩ := own_slice hgm.1
    have HGM := Lib.hid hgm
    have HCR := Lib.hid hcr
    have HGR := Lib.hid hgr
    have HSM := Lib.hid hsm
    have HML := Lib.hid hml
    have hszo := hgr.size
    have hglo := (cur_lt hcr).1
    clear hgm hcr hgr hsm hml
    by_cases hlt : us.length < n
    · go_wp2_with fail
      go_loopw [7, 8] (fun r j w' => ∃ (k : Nat) (ys : List Int), k ≤ n ∧ j = .int .i64 k ∧ ys.length = k ∧ (∀ x ∈ ys, -2 ≤ x ∧ x ≤ 4) ∧ w'.ownsRow wo.heap.size 3 1 r k (ints ys) ∧ Cur w' g v zs ∧ wo.grownBy w' (some g)) (fun _ j _ => n - (intOf j).toNat)
      case atStart => exact ⟨0, [], by omega, rfl, rfl, by simp, own_made0 _ _ _ (Nat.le_refl _), HCR.out.below ((Below.refl _ _).alloc (Nat.le_refl _) _), World.grownBy_alloc _ _ _⟩
      case round =>
        obtain ⟨k, ys, hk2, rfl, hyl, hys, ho, hcr, hgr⟩ := hrel
        obtain ⟨wi, rfl⟩ : ∃ x : World, x = wr := ⟨_, rfl⟩
        obtain ⟨Ar, cpr, rfl⟩ := own_slice ho
        have HO := Lib.hid ho
        have HCI := Lib.hid hcr
        have HGI := Lib.hid hgr
        have HYS := Lib.hid hys
        have HYL := Lib.hid hyl
        have hszi := hgr.size
        clear ho hcr hgr hys hyl
        by_cases hlt2 : k < n
        · go_wp2_with (first
            | (go_at_call 58
               refine (l01Below_small g v zs 7 _ HZ.out HCI.out (by omega) (by omega)).mono ?_
               rintro e w2 ⟨x, rfl, x0, x1, hc2, hg2⟩
               have HC2 := Lib.hid hc2
               have HG2 := Lib.hid hg2
               have hsz2 := hg2.size
               have HO2 : Hid (w2.ownsRow wo.heap.size 3 1 (.slice Ar k cpr) k (ints ys)) := own_apart HO.out hg2 (fun x h1 h2 => by have := (HO.out.lt x h1).1; injection h2 with h2; omega)
               clear hc2 hg2)
            | (at_builtin
               refine wpList_append1g _ rfl (.tmp 21) (.tmp 25) _ rfl wo.heap.size 3 i0 _ 8 Try.underlying30 hi0 hz0 hz1 hz2 rfl _ k _ rfl HO2.out (.int .i64 (x - 2)) rfl rfl (by unfold maxLen; omega) (by omega) (by omega) ?_
               intro v' w3 hown3 hgr3
               have HOW := Lib.hid hown3
               have HGW := Lib.hid hgr3
               clear hown3 hgr3))
          go_roundw
          case rel =>
            have hrw : ∀ x, (Value.slice Ar k cpr).ownBlock = some x → wo.heap.size ≤ x := fun x hx => (HO2.out.lt x hx).1
            refine ⟨k + 1, ys ++ [x - 2], by omega, by go_num, by simp [HYL.out], ?_, ?_, Cur.made HCR.out HC2.out HGW.out hrw (Nat.le_refl _), grown_made (grown_trans HGI.out HG2.out) HGW.out hrw (Nat.le_refl _)⟩
            · intro y hy
              rcases List.mem_append.1 hy with hy | hy
              · exact HYS.out y hy
              · simp at hy
                subst hy
                omega
            · rw [ints_snoc]
              exact HOW.out
          case measure => simp [intOf]; omega
        · have hkl : k = n := by omega
          have HO2 : Hid (wi.ownsRow wo.heap.size 3 1 (.slice Ar k cpr) ys.length (ints ys)) := by rw [HYL.out]; exact HO.out
          have HG1 : Hid (wi.ownsRow w.heap.size 30 1 (.slice A us.length cpo) us.length us ∧ RowsTo wi w.heap.size us m) := by
            refine ⟨own_apart HGM.out.1 HGI.out (fun x h1 h2 => by have := (HGM.out.1.lt x h1).1; injection h2 with h2; omega), RowsTo.grown HGM.out.2 HGI.out (fun i hi x h1 h2 => ?_)⟩
            have := ((HGM.out.2.2.1 i hi (by rw [HML.out]; exact hi)).lt x h1).1
            injection h2 with h2
            omega
          have HGU := Lib.hid HG1.out.1
          have HKL := Lib.hid hkl
          clear hkl
          go_wp2_with (at_builtin
                       refine wpList_append1g _ rfl (.tmp 27) (.tmp 29) _ rfl w.heap.size 30 i1 _ 24 Try.underlying27 hj0 hy0 hy1 hy2 rfl _ us.length us rfl HGU.out (.slice Ar k cpr) rfl rfl (by unfold maxLen; omega) (by omega) (by omega) ?_
                       intro v' w1 hown1 hgr1
                       have HOW := Lib.hid hown1
                       have HGR1 := Lib.hid hgr1
                       clear hown1 hgr1)
          go_roundw
          case rel =>
            have hrw : ∀ x, (Value.slice A us.length cpo).ownBlock = some x → w.heap.size ≤ x := fun x hx => (HGU.out.lt x hx).1
            have hmm : us.length < (m ++ [ys]).length := by simp; rw [HML.out]; omega
            have hrowAt : (m ++ [ys])[us.length] = ys := by
              rw [List.getElem_append_right (by rw [HML.out]; exact Nat.le_refl _)]
              simp [HML.out]
            have hrows : RowsTo w1 w.heap.size (us ++ [.slice Ar k cpr]) (m ++ [ys]) := by
              have hr0 := rows_more HG1.out.2 HML.out.symm ys
              have hr1 : RowsTo wi w.heap.size (us ++ [.slice Ar k cpr]) (m ++ [ys]) := by
                refine ⟨by simp; rw [HML.out]; omega, fun i hi hi' => ?_, fun i j hi hj x e1 e2 => ?_⟩
                · by_cases e : i < us.length
                  · rw [List.getElem_append_left e]
                    exact hr0.2.1 i e hi'
                  · have e' : i = us.length := by simp at hi; omega
                    subst e'
                    rw [List.getElem_append_right (Nat.le_refl _)]
                    simp only [hrowAt, Nat.sub_self, List.getElem_cons_zero]
                    exact own_mono HO2.out hszo
                · have hlo : ∀ i (hi : i < us.length) x, us[i].ownBlock = some x → x < wo.heap.size := fun i hi x hx => ((HGM.out.2.2.1 i hi (by rw [HML.out]; exact hi)).lt x hx).2
                  have hup : ∀ x, (Value.slice Ar k cpr).ownBlock = some x → wo.heap.size ≤ x := fun x hx => (HO2.out.lt x hx).1
                  by_cases a : i < us.length <;> by_cases b : j < us.length
                  · rw [List.getElem_append_left a] at e1
                    rw [List.getElem_append_left b] at e2
                    exact hr0.2.2 i j a b x e1 e2
                  · rw [List.getElem_append_left a] at e1
                    rw [List.getElem_append_right (by omega)] at e2
                    have h1 := hlo i a x e1
                    have h2 := hup x (by simpa using e2)
                    omega
                  · rw [List.getElem_append_right (by omega)] at e1
                    rw [List.getElem_append_left b] at e2
                    have h1 := hlo j b x e2
                    have h2 := hup x (by simpa using e1)
                    omega
                  · simp at hi hj
                    omega
              refine hr1.grown HGR1.out (fun i hi x e1 e2 => ?_)
              exact own_ne (hr1.2.1 i hi (by have := hr1.1; omega)) HGU.out (by decide) x e1 e2
            refine ⟨us ++ [.slice Ar k cpr], m ++ [ys], by simp; omega, by simp, by simp [HML.out], ?_, ⟨by simpa using HOW.out, hrows⟩, Cur.made HC.out HCI.out HGR1.out hrw (Nat.le_refl _), grown_made (grown_trans HGR.out HGI.out) HGR1.out hrw (Nat.le_refl _)⟩
            intro r hr
            rcases List.mem_append.1 hr with hr | hr
            · exact HSM.out r hr
            · simp at hr
              subst hr
              exact ⟨by rw [HYL.out, HKL.out], HYS.out⟩
          case measure => simp [intOf]; omega
    · have hkl : us.length = n := by omega
      have HOM : Hid (OwnMat wo w.heap.size wo.heap.size (.slice A us.length cpo) m) := HGM.out.own HML.out.symm
      have HN : Hid (SmallM n m) := ⟨by rw [HML.out]; exact hkl, HSM.out⟩
      clear hkl
      go_wp2_with fail
      go_ret
      exact ⟨_, m, rfl, HN.out, HOM.out, HGR.out⟩

def MatMade (n : Nat) (w : World) (e : Ending) (w' : World) : Prop :=
  ∃ (u : Value) (m : List (List Int)), e = .returned u ∧ SmallM n m ∧ OwnMat w' w.heap.size w'.heap.size u m ∧ Below w.heap.size w w'

set_option maxHeartbeats 400000 in
theorem makeMatrix_any (v : Value) (zs : List Int) (c : Int) (n : Nat) (w : World) (hz : IsBytes zs) (hl : Lst w v (bytesV zs)) (h0 : 0 ≤ c) (h1 : c ≤ 1048576) (hn : n ≤ 4) :
    Calls Try.prog 19 #[v, .int .i64 c, .int .i64 n] w (MatMade n w) := by
  have HN := Lib.hid (l31New_any v zs c w hz hl h0 h1)
  have HZ := Lib.hid hz
  obtain ⟨A, cp, rfl, -, -, -⟩ := hl
  rw [bytesV_length] at HN ⊢
  clear hz
  go_enter Try.func19, Try.ntmps19
  go_wp2_with fail
  refine HN.out.mono ?_
  rintro e w1 ⟨g, rfl, hg, hc1, hb1⟩
  have HC := Lib.hid hc1
  have HB1 := Lib.hid hb1
  clear hc1 hb1
  go_wp2_with fail
  refine (l04Draw_any n g _ zs _ HZ.out HC.out hn).mono ?_
  rintro e w2 ⟨u, m, rfl, hm, ho, hg2⟩
  obtain ⟨A2, cp2, rfl⟩ := mat_slice ho.mat
  have HM := Lib.hid hm
  have HO := Lib.hid (OwnMat.mono ho HB1.out.size)
  clear hm ho
  go_wp2_with fail
  go_ret
  exact ⟨_, m, rfl, HM.out, HO.out, HB1.out.grown hg2 HB1.out.size (fun j hj => by cases hj; exact hg)⟩

def SizeSaid (lo hi : Int) (w : World) (e : Ending) (w' : World) : Prop := ∃ x : Int, e = .returned (.int .i64 x) ∧ lo ≤ x ∧ x ≤ hi ∧ Below w.heap.size w w'

set_option maxHeartbeats 400000 in
theorem makeSize_any (v : Value) (zs : List Int) (c : Int) (w : World) (hz : IsBytes zs) (hl : Lst w v (bytesV zs)) (h0 : 0 ≤ c) (h1 : c ≤ 1048576) :
    Calls Try.prog 18 #[v, .int .i64 c, .int .i64 1, .int .i64 3] w (SizeSaid 1 3 w) := by
  have HN := Lib.hid (fun w' (hb : Below w.heap.size w w') => l31New_any v zs c w' hz (hl.below hb) h0 h1)
  have HZ := Lib.hid hz
  obtain ⟨A, cp, rfl, -, -, -⟩ := hl
  rw [bytesV_length] at HN ⊢
  clear hz
  go_enter Try.func18, Try.ntmps18
  go_wp2_with fail
  go_loop [9, 10] (fun s k => ∃ j : Nat, j ≤ 2 ∧ k = .int .i64 ((j : Int) + 1) ∧ s = .int .i64 ((j : Int) + 1)) (fun _ k => 3 - (intOf k).toNat)
  case atStart => exact ⟨0, by omega, rfl, rfl⟩
  case round =>
    obtain ⟨j, hj, rfl, rfl⟩ := hrel
    by_cases hlt : j < 2
    · have d1 : decide ((j : Int) + 1 < 3) = true := by simp; omega
      have d2 : decide ((j : Int) + 1 < 100) = true := by simp; omega
      go_wp2_with fail
      go_round
      case rel => exact ⟨j + 1, by omega, by go_num, by go_num⟩
      case measure => simp [intOf]; omega
    · have hj2 : j = 2 := by omega
      subst hj2
      go_wp2_with fail
      refine (HN.out _ (Below.refl _ _)).mono ?_
      rintro e w1 ⟨g, rfl, hg, hc1, hb1⟩
      have HC := Lib.hid hc1
      have HB1 := Lib.hid hb1
      clear hc1 hb1
      go_wp2_with fail
      refine (l01Below_small g _ zs 3 _ HZ.out HC.out (by omega) (by omega)).mono ?_
      rintro e w2 ⟨x, rfl, x0, x1, hc2, hg2⟩
      have HB2 : Hid (Below w.heap.size w w2) := HB1.out.grown hg2 HB1.out.size (fun j hj => by cases hj; exact hg)
      obtain ⟨q, rfl⟩ := Int.eq_ofNat_of_zero_le x0
      clear hc2 hg2
      go_wp2_with fail
      go_loop [11, 12] (fun o k => ∃ r : Nat, r ≤ q ∧ k = .int .i64 r ∧ o = .int .i64 (1 + ((q : Int) - r))) (fun _ k => (intOf k).toNat)
      case atStart => exact ⟨q, Nat.le_refl _, rfl, by simp⟩
      case round =>
        obtain ⟨r, hr, rfl, rfl⟩ := hrel
        by_cases hlt2 : 0 < r
        · go_wp2_with fail
          go_round
          case rel => exact ⟨r - 1, by omega, by rw [show (r : Int) - 1 = ((r - 1 : Nat) : Int) from by omega], by congr 1; omega⟩
          case measure => simp [intOf]; omega
        · go_wp2_with fail
          go_ret
          exact ⟨_, rfl, by omega, by omega, HB2.out⟩
end Go.Proofs.Ytgidfainoijcmaa

/- What the matrices of substitutions say of each other. No program in it. -/
namespace Go.Proofs.Ytgidfainoijcmaa
open Go.RowKit

-- the columns
def cntSum (s : List UInt8) : Nat → Nat
  | 0 => 0
  | i + 1 => cntSum s i + cnt s (letterN i)
theorem cnt_cons (c : UInt8) (s : List UInt8) (x : UInt8) : cnt (c :: s) x = cnt s x + if c = x then 1 else 0 := by
  unfold cnt
  rw [List.count_cons]
  simp
theorem letterN_eq (c : UInt8) (i : Nat) (hi : i ≤ 4) : c = letterN i ↔ c.toNat = 97 + i := by
  constructor
  · rintro rfl; exact letterN_toNat i hi
  · intro h; exact UInt8.toNat_inj.1 (by rw [letterN_toNat i hi]; exact h)
theorem cntSum_cons (c : UInt8) (s : List UInt8) : ∀ n, n ≤ 4 → cntSum (c :: s) n = cntSum s n + if 97 ≤ c.toNat ∧ c.toNat < 97 + n then 1 else 0
  | 0, _ => by simp [cntSum]
  | n + 1, h => by
    have ih := cntSum_cons c s n (by omega)
    unfold cntSum
    rw [ih, cnt_cons]
    have e := letterN_eq c n (by omega)
    by_cases h1 : c = letterN n
    · have h2 := e.1 h1
      rw [if_pos h1, if_neg (by omega), if_pos (by omega)]
      omega
    · have h2 : ¬ c.toNat = 97 + n := fun h => h1 (e.2 h)
      rw [if_neg h1]
      by_cases h3 : 97 ≤ c.toNat ∧ c.toNat < 97 + n
      · rw [if_pos h3, if_pos (by omega)]; omega
      · rw [if_neg h3, if_neg (by omega)]; omega
theorem cntSum_all (n : Nat) (hn : n ≤ 4) : ∀ s : List UInt8, (∀ c ∈ s, 97 ≤ c.toNat ∧ c.toNat < 97 + n) → cntSum s n = s.length
  | [], _ => by
    have : ∀ n, cntSum [] n = 0 := by
      intro n
      induction n with
      | zero => rfl
      | succ n ih => unfold cntSum; rw [ih]; rfl
    exact this n
  | c :: s, h => by
    rw [cntSum_cons c s n hn, cntSum_all n hn s (fun x hx => h x (List.mem_cons_of_mem _ hx)), if_pos (h c (List.mem_cons_self ..))]
    rfl
theorem matL_at2 (l : List ByteArray) (i k : Nat) (hi : i < l.length) (hk : k < l.length) : at2 (matL l) i k = (cnt l[k].data.toList (letterN i) : Int) := by
  have h1 : i < (matL l).length := by rw [matL_length]; exact hi
  have h2 : k < (matL l)[i].length := by rw [matL_row]; exact hk
  rw [at2_eq _ _ _ h1 h2]
  simp [matL, rowL]
/-- the sum of the first numbers of a column -/
def colSum (m : List (List Int)) (k : Nat) : Nat → Int
  | 0 => 0
  | i + 1 => colSum m k i + at2 m i k
theorem colSum_eq (l : List ByteArray) (k : Nat) (hk : k < l.length) : ∀ i, i ≤ l.length → colSum (matL l) k i = (cntSum l[k].data.toList i : Int)
  | 0, _ => rfl
  | i + 1, h => by
    unfold colSum cntSum
    rw [colSum_eq l k hk i (by omega), matL_at2 l i k (by omega) hk]
    omega
theorem colSum_size {l : List ByteArray} (hl : substB l = true) (k : Nat) (hk : k < l.length) : colSum (matL l) k l.length = (l[k].size : Int) := by
  rw [colSum_eq l k hk _ (Nat.le_refl _), cntSum_all l.length (subst_parts hl).2.1 _ (img_letters hl hk)]
  simp
theorem colSum_small {l : List ByteArray} (hl : substB l = true) (k : Nat) (hk : k < l.length) : ∀ i, i ≤ l.length → 0 ≤ colSum (matL l) k i ∧ colSum (matL l) k i ≤ 8 * i
  | 0, _ => by simp [colSum]
  | i + 1, h => by
    have ih := colSum_small hl k hk i (by omega)
    have := matL_small hl i k (by omega) hk
    unfold colSum
    omega

-- composition is the product
def cntDot (t : List ByteArray) (w : List UInt8) (c : UInt8) : Nat → Nat
  | 0 => 0
  | j + 1 => cntDot t w c j + cnt (t.getD j ⟨#[]⟩).data.toList c * cnt w (letterN j)
theorem cntDot_cons (t : List ByteArray) (x : UInt8) (w : List UInt8) (c : UInt8) : ∀ n, n ≤ 4 → cntDot t (x :: w) c n = cntDot t w c n + if 97 ≤ x.toNat ∧ x.toNat < 97 + n then cnt (t.getD (x.toNat - 97) ⟨#[]⟩).data.toList c else 0
  | 0, _ => by simp [cntDot]; omega
  | n + 1, h => by
    have ih := cntDot_cons t x w c n (by omega)
    unfold cntDot
    rw [ih, cnt_cons]
    have e := letterN_eq x n (by omega)
    by_cases h1 : x = letterN n
    · have h2 := e.1 h1
      rw [if_pos h1, if_neg (by omega), if_pos (by omega), Nat.mul_add, show x.toNat - 97 = n from by omega]
      omega
    · have h2 : ¬ x.toNat = 97 + n := fun h => h1 (e.2 h)
      rw [if_neg h1]
      by_cases h3 : 97 ≤ x.toNat ∧ x.toNat < 97 + n
      · rw [if_pos h3, if_pos (by omega)]; simp only [Nat.add_zero]; omega
      · rw [if_neg h3, if_neg (by omega)]; simp only [Nat.add_zero]
theorem cnt_apply (t : List ByteArray) (n : Nat) (hn : n ≤ 4) (c : UInt8) : ∀ w : List UInt8, (∀ x ∈ w, 97 ≤ x.toNat ∧ x.toNat < 97 + n) → cnt (applyL t w) c = cntDot t w c n
  | [], _ => by
    have : ∀ n, cntDot t [] c n = 0 := by
      intro n
      induction n with
      | zero => rfl
      | succ n ih => unfold cntDot; rw [ih]; simp [cnt]
    rw [this]
    rfl
  | x :: w, h => by
    rw [cntDot_cons t x w c n hn, if_pos (h x (List.mem_cons_self ..)), ← cnt_apply t n hn c w (fun y hy => h y (List.mem_cons_of_mem _ hy))]
    have e : applyL t (x :: w) = imgOf t x ++ applyL t w := rfl
    rw [e]
    unfold cnt
    rw [List.count_append]
    show List.count c (imgOf t x) + _ = _
    unfold imgOf
    omega
theorem comp_at2 {l : List ByteArray} (hl : substB l = true) (i k : Nat) (hi : i < l.length) (hk : k < l.length) : at2 (matL (compR l l)) i k = colTo (matL l) (matL l) i k l.length := by
  have hn := (subst_parts hl).2.1
  have hcl : (compR l l).length = l.length := by simp [compR]
  rw [matL_at2 (compR l l) i k (by omega) (by omega)]
  have e : (compR l l)[k]'(by omega) = stepS l l[k] := by simp [compR]
  rw [e, stepS_list, cnt_apply l l.length hn _ _ (img_letters hl hk)]
  have : ∀ j, j ≤ l.length → (cntDot l l[k].data.toList (letterN i) j : Int) = colTo (matL l) (matL l) i k j := by
    intro j
    induction j with
    | zero => intro _; rfl
    | succ j ih =>
      intro hj
      unfold cntDot colTo
      rw [Int.natCast_add, ih (by omega), matL_at2 l i j hi (by omega), matL_at2 l j k (by omega) hk, Int.natCast_mul, List.getD_eq_getElem?_getD, List.getElem?_eq_getElem (show j < l.length by omega)]
      rfl
  exact this _ (Nat.le_refl _)
theorem mulM_at2 (a b : List (List Int)) (i k : Nat) (hi : i < a.length) (hk : k < b.length) : at2 (mulM a b) i k = colTo a b i k b.length := by
  have h1 : i < (mulM a b).length := by rw [mulM_length]; exact hi
  have h2 : k < (mulM a b)[i].length := by rw [mulM_at, mulRow_length]; exact hk
  rw [at2_eq _ _ _ h1 h2]
  simp [mulM, mulRow]

-- small matrices
theorem small_at2 {n : Nat} {m : List (List Int)} (h : SmallM n m) (i k : Nat) (hi : i < n) (hk : k < n) : -2 ≤ at2 m i k ∧ at2 m i k ≤ 4 := by
  obtain ⟨h1, h2⟩ := h
  have hi' : i < m.length := by omega
  obtain ⟨h3, h4⟩ := h2 _ (List.getElem_mem hi')
  have hk' : k < m[i].length := by omega
  rw [at2_eq _ _ _ hi' hk']
  exact h4 _ (List.getElem_mem hk')
theorem sqB_of {n : Nat} {m : List (List Int)} (h1 : m.length = n) (hn : 1 ≤ n) (h4 : n ≤ 4) (h2 : ∀ r ∈ m, r.length = n) (h3 : ∀ i k, i < n → k < n → -100 ≤ at2 m i k ∧ at2 m i k ≤ 100) : sqB m = true := by
  unfold sqB
  rw [decide_eq_true (show 1 ≤ m.length by omega), decide_eq_true (show m.length ≤ 4 by omega)]
  show (true && m.all (rowOk m.length)) = true
  rw [Bool.true_and, List.all_eq_true]
  intro r hr
  obtain ⟨i, hi, rfl⟩ := List.mem_iff_getElem.1 hr
  unfold rowOk
  rw [decide_eq_true (show m[i].length = m.length by rw [h2 _ hr, h1]), Bool.true_and, List.all_eq_true]
  intro x hx
  obtain ⟨k, hk, rfl⟩ := List.mem_iff_getElem.1 hx
  have := h3 i k (by omega) (by rw [h2 _ hr] at hk; exact hk)
  rw [at2_eq _ _ _ hi hk] at this
  simp
  exact this
theorem small_sq {n : Nat} {m : List (List Int)} (h : SmallM n m) (hn : 1 ≤ n) (h4 : n ≤ 4) : sqB m = true :=
  sqB_of h.1 hn h4 (fun r hr => (h.2 r hr).1) (fun i k hi hk => by have := small_at2 h i k hi hk; omega)
theorem mul_small {n : Nat} {a b : List (List Int)} (ha : SmallM n a) (hb : SmallM n b) (hn : 1 ≤ n) (h3 : n ≤ 3) : sqB (mulM a b) = true := by
  refine sqB_of (by rw [mulM_length]; exact ha.1) hn (by omega) (fun r hr => ?_) (fun i k hi hk => ?_)
  · obtain ⟨i, hi, rfl⟩ := List.mem_iff_getElem.1 hr
    rw [mulM_at, mulRow_length]
    exact hb.1
  · rw [mulM_at2 a b i k (by rw [ha.1]; exact hi) (by rw [hb.1]; exact hk)]
    have := colTo_bound (a := a) (b := b) (i := i) (k := k) (B := 4) (C := 4) n (fun j hj => by have := small_at2 ha i j hi hj; omega) (fun j hj => by have := small_at2 hb j k hj hk; omega) n (Nat.le_refl _)
    rw [hb.1]
    omega
theorem minor2 {m : List (List Int)} {n : Nat} (h : RectN (n + 1) m) (k : Nat) (hk : k < n + 1) (i q : Nat) (hi : i < n) : at2 (minorM m k) i q = at2 m (i + 1) (if q < k then q else q + 1) := by
  obtain ⟨h1, h2⟩ := h
  have hl : i < (minorM m k).length := by rw [minorM_length]; omega
  have hi1 : i + 1 < m.length := by omega
  unfold at2
  rw [List.getD_eq_getElem?_getD (l := minorM m k), List.getD_eq_getElem?_getD (l := m), List.getElem?_eq_getElem hl, List.getElem?_eq_getElem hi1, Option.getD_some, Option.getD_some, minorM_at m k i hl hi1]
  exact cutR_getD k _ (by rw [h2 _ hi1]; exact hk) q
theorem minor_rect {m : List (List Int)} {n : Nat} (h : RectN (n + 1) m) (k : Nat) (hk : k < n + 1) : RectN n (minorM m k) := by
  obtain ⟨h1, h2⟩ := h
  refine ⟨by rw [minorM_length]; omega, fun i hi => ?_⟩
  have hi1 : i + 1 < m.length := by rw [minorM_length] at hi; omega
  rw [minorM_at m k i hi hi1, cutR_length k _ (by rw [h2 _ hi1]; exact hk), h2 _ hi1]
  rfl
theorem det_1 (m : List (List Int)) : detS 1 m = at2 m 0 0 := by
  simp [detS, sumTo, sgnN]
theorem det_2 {m : List (List Int)} (h : RectN 2 m) : detS 2 m = at2 m 0 0 * at2 m 1 1 - at2 m 0 1 * at2 m 1 0 := by
  have e0 := minor2 h 0 (by omega) 0 0 (by omega)
  have e1 := minor2 h 1 (by omega) 0 0 (by omega)
  simp at e0 e1
  simp only [detS, sumTo, sgnN] at *
  simp [e0, e1]
  grind
theorem det_3 {m : List (List Int)} (h : RectN 3 m) : detS 3 m = at2 m 0 0 * (at2 m 1 1 * at2 m 2 2 - at2 m 1 2 * at2 m 2 1) - at2 m 0 1 * (at2 m 1 0 * at2 m 2 2 - at2 m 1 2 * at2 m 2 0) + at2 m 0 2 * (at2 m 1 0 * at2 m 2 1 - at2 m 1 1 * at2 m 2 0) := by
  have d0 := det_2 (minor_rect h 0 (by omega))
  have d1 := det_2 (minor_rect h 1 (by omega))
  have d2 := det_2 (minor_rect h 2 (by omega))
  simp [minor2 h] at d0 d1 d2
  show sumTo (fun k => sgnN k * at2 m 0 k * detS 2 (minorM m k)) 3 = _
  simp only [sumTo, d0, d1, d2]
  simp [sgnN]
  grind
theorem mul_rect {n : Nat} {a b : List (List Int)} (ha : RectN n a) (hb : RectN n b) : RectN n (mulM a b) :=
  ⟨by rw [mulM_length]; exact ha.1, fun i h => by rw [mulM_at, mulRow_length]; exact hb.1⟩
theorem det_mul {n : Nat} {a b : List (List Int)} (ha : RectN n a) (hb : RectN n b) (h1 : 1 ≤ n) (h3 : n ≤ 3) : detS n (mulM a b) = detS n a * detS n b := by
  have e : ∀ i k, i < n → k < n → at2 (mulM a b) i k = colTo a b i k n := fun i k hi hk => by
    rw [mulM_at2 a b i k (by rw [ha.1]; exact hi) (by rw [hb.1]; exact hk), hb.1]
  rcases (show n = 1 ∨ n = 2 ∨ n = 3 by omega) with rfl | rfl | rfl
  · rw [det_1, det_1, det_1, e 0 0 (by omega) (by omega)]
    simp [colTo]
  · rw [det_2 (mul_rect ha hb), det_2 ha, det_2 hb, e 0 0 (by omega) (by omega), e 0 1 (by omega) (by omega), e 1 0 (by omega) (by omega), e 1 1 (by omega) (by omega)]
    simp only [colTo]
    grind
  · rw [det_3 (mul_rect ha hb), det_3 ha, det_3 hb, e 0 0 (by omega) (by omega), e 0 1 (by omega) (by omega), e 0 2 (by omega) (by omega), e 1 0 (by omega) (by omega), e 1 1 (by omega) (by omega), e 1 2 (by omega) (by omega), e 2 0 (by omega) (by omega), e 2 1 (by omega) (by omega), e 2 2 (by omega) (by omega)]
    simp only [colTo]
    grind
theorem trace_mul {n : Nat} {a b : List (List Int)} (ha : RectN n a) (hb : RectN n b) (h3 : n ≤ 3) : trTo (mulM a b) n = trTo (mulM b a) n := by
  have e : ∀ i k, i < n → k < n → at2 (mulM a b) i k = colTo a b i k n := fun i k hi hk => by
    rw [mulM_at2 a b i k (by rw [ha.1]; exact hi) (by rw [hb.1]; exact hk), hb.1]
  have f : ∀ i k, i < n → k < n → at2 (mulM b a) i k = colTo b a i k n := fun i k hi hk => by
    rw [mulM_at2 b a i k (by rw [hb.1]; exact hi) (by rw [ha.1]; exact hk), ha.1]
  rcases (show n = 0 ∨ n = 1 ∨ n = 2 ∨ n = 3 by omega) with rfl | rfl | rfl | rfl
  · rfl
  · simp only [trTo]
    rw [e 0 0 (by omega) (by omega), f 0 0 (by omega) (by omega)]
    simp only [colTo]
    grind
  · simp only [trTo]
    rw [e 0 0 (by omega) (by omega), e 1 1 (by omega) (by omega), f 0 0 (by omega) (by omega), f 1 1 (by omega) (by omega)]
    simp only [colTo]
    grind
  · simp only [trTo]
    rw [e 0 0 (by omega) (by omega), e 1 1 (by omega) (by omega), e 2 2 (by omega) (by omega), f 0 0 (by omega) (by omega), f 1 1 (by omega) (by omega), f 2 2 (by omega) (by omega)]
    simp only [colTo]
    grind

-- a primitive substitution reaches every letter from every letter
theorem reached_trans {l : List ByteArray} {a b c : Nat} (h1 : Reached l a b) (h2 : Reached l b c) : Reached l a c := by
  induction h2 with
  | refl => exact h1
  | step _ ho ih => exact .step ih ho
theorem occ_of_pos {l : List ByteArray} (hl : substB l = true) {i k : Nat} (hi : i < l.length) (hk : k < l.length) (h : 0 < at2 (matL l) i k) : Occ l k i := by
  rw [matL_at2 l i k hi hk] at h
  have hc : 0 < cnt l[k].data.toList (letterN i) := by omega
  unfold cnt at hc
  have hm := List.count_pos_iff.1 hc
  have hn := (subst_parts hl).2.1
  exact (occ_iff hl hk i).2 ⟨_, hm, by rw [letterN_toNat i (by omega)]; omega⟩
theorem sgB_ex {a b : List (List Int)} {i k : Nat} : ∀ {j : Nat}, sgB a b i k j = true → ∃ q, q < j ∧ 0 < at2 a i q ∧ 0 < at2 b q k
  | 0, h => by simp [sgB] at h
  | j + 1, h => by
    unfold sgB at h
    rw [Bool.or_eq_true, Bool.and_eq_true, decide_eq_true_eq, decide_eq_true_eq] at h
    rcases h with h | h
    · obtain ⟨q, h1, h2⟩ := sgB_ex h
      exact ⟨q, by omega, h2⟩
    · exact ⟨j, by omega, h⟩
theorem pow_reach {l : List ByteArray} (hl : substB l = true) : ∀ n i k, i < l.length → k < l.length → 0 < at2 (powS l n) i k → Reached l k i
  | 0, i, k, hi, hk, h => .step .refl (occ_of_pos hl hi hk h)
  | n + 1, i, k, hi, hk, h => by
    have h1 : i < (sgM (powS l n) (matL l)).length := by rw [sgM_length, (powS_rect l n).1]; exact hi
    have h2 : k < (sgM (powS l n) (matL l))[i].length := by rw [sgM_at, sgRow_length, matL_length]; exact hk
    have e : at2 (powS l (n + 1)) i k = sgI (powS l n) (matL l) i k l.length := by
      show at2 (sgM (powS l n) (matL l)) i k = _
      rw [at2_eq _ _ _ h1 h2]
      simp [sgM, sgRow, matL_length]
    rw [e] at h
    have hs : sgB (powS l n) (matL l) i k l.length = true := by
      by_cases hs : sgB (powS l n) (matL l) i k l.length = true
      · exact hs
      · unfold sgI at h
        rw [if_neg hs] at h
        omega
    obtain ⟨q, hq, p1, p2⟩ := sgB_ex hs
    exact reached_trans (.step .refl (occ_of_pos hl hq hk p2)) (pow_reach hl n i q hi hq p1)
theorem posRow_at {m : List (List Int)} {i : Nat} : ∀ {n : Nat}, posRow m i n = true → ∀ k, k < n → 0 < at2 m i k
  | 0, _, k, hk => absurd hk (by omega)
  | n + 1, h, k, hk => by
    unfold posRow at h
    rw [Bool.and_eq_true, decide_eq_true_eq] at h
    by_cases e : k = n
    · subst e; exact h.2
    · exact posRow_at h.1 k (by omega)
theorem posTo_at {m : List (List Int)} {n : Nat} : ∀ {i : Nat}, posTo m n i = true → ∀ q, q < i → ∀ k, k < n → 0 < at2 m q k
  | 0, _, q, hq, _, _ => absurd hq (by omega)
  | i + 1, h, q, hq, k, hk => by
    unfold posTo at h
    rw [Bool.and_eq_true] at h
    by_cases e : q = i
    · subst e; exact posRow_at h.2 k hk
    · exact posTo_at h.1 q (by omega) k hk
theorem primTo_ex {l : List ByteArray} : ∀ {n : Nat}, primTo l n = true → ∃ i, posTo (powS l i) l.length l.length = true
  | 0, h => by simp [primTo] at h
  | n + 1, h => by
    unfold primTo at h
    rw [Bool.or_eq_true] at h
    rcases h with h | h
    · exact primTo_ex h
    · exact ⟨n, h⟩
theorem prim_reach {l : List ByteArray} (h : primR l = true) (k i : Nat) (hk : k < l.length) (hi : i < l.length) : Reached l k i := by
  unfold primR at h
  rw [Bool.and_eq_true] at h
  obtain ⟨n, hn⟩ := primTo_ex h.2
  exact pow_reach h.1 n i k hi hk (posTo_at hn i hi k hk)
end Go.Proofs.Ytgidfainoijcmaa
