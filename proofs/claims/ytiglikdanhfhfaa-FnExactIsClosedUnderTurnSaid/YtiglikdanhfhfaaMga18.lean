/- Texts put together. -/
import Derived.Test.YtiglikdanhfhfaaMga17
import Derived.Test.YtiglikdanhfhfaaMga4
import Derived.Maps.AppendAt
import Derived.Test.YtiglikdanhfhfaaMga16
/- The program's counts of the four letters, CountLetter and CountsOf. Condition: texts of at most 2^20 bytes. -/
namespace Go.Proofs.Ytiglikdanhfhfaa
open Go.RowKit

theorem letterIndex_at (n j : Int) (w : World) (h : n = 97 + j) (h1 : 0 ≤ j) (h2 : j ≤ 3) :
    Calls Try.prog 65 #[.int .u8 n] w fun e w' => e = .returned (.int .i64 j) ∧ w = w' := by
  have h3 : 97 ≤ n := by omega
  have h4 : n ≤ 100 := by omega
  have HJ := Lib.hid (show n - 97 = j by omega)
  clear h h1 h2
  go_enter Try.func65, Try.ntmps65
  go_wp2
  go_ret
  exact ⟨ret_int HJ.out, rfl⟩

/-- the four counts as the cells of an array -/
def cnts (l : List UInt8) : Array Value := #[.int .i64 (cnt l 97), .int .i64 (cnt l 98), .int .i64 (cnt l 99), .int .i64 (cnt l 100)]
theorem cnts_succ (s : ByteArray) (k : Nat) (h : k < s.size) (a b c d : Nat) (ha : cnt (s.data.toList.take k) 97 = a) (hb : cnt (s.data.toList.take k) 98 = b) (hc : cnt (s.data.toList.take k) 99 = c) (hd : cnt (s.data.toList.take k) 100 = d)
    (j : Nat) (hj : s[k].toNat = 97 + j) (_ : j ≤ 3) :
    cnt (s.data.toList.take (k + 1)) 97 = a + (if j = 0 then 1 else 0) ∧ cnt (s.data.toList.take (k + 1)) 98 = b + (if j = 1 then 1 else 0) ∧ cnt (s.data.toList.take (k + 1)) 99 = c + (if j = 2 then 1 else 0) ∧ cnt (s.data.toList.take (k + 1)) 100 = d + (if j = 3 then 1 else 0) := by
  have e : ∀ (x : UInt8) (i : Nat), x.toNat = 97 + i → ((s[k] = x) ↔ j = i) := by
    intro x i hx
    constructor
    · intro h; rw [h] at hj; omega
    · intro h; exact UInt8.toNat_inj.1 (by omega)
  rw [cnt_succ s k h 97, cnt_succ s k h 98, cnt_succ s k h 99, cnt_succ s k h 100, ha, hb, hc, hd]
  simp only [e 97 0 rfl, e 98 1 rfl, e 99 2 rfl, e 100 3 rfl, and_self]

theorem letter_one {t : ByteArray} (h : t.size = 1) : t = ⟨#[t[0]'(by omega)]⟩ := by
  obtain ⟨⟨l⟩⟩ := t
  match l, h with
  | [c], _ => rfl

end Go.Proofs.Ytiglikdanhfhfaa

/- append of one element that the walk has just laid, and where the new slice lies: so that a row read meanwhile is seen to stay. -/
namespace Go.Proofs.Ytiglikdanhfhfaa
open Go.RowKit

theorem wpList_append1p {P : Program} (w : World) {ops : Array Oper} {rest : List Oper} {o : Oper} {a : Act} {Q : Exit → Act → World → Prop} (hgd : o.guard = none) (s x : Operand) (t : TypeId)
    (ho : o.op = .call { callee := .builtin .append, args := #[s, x], argTypes := #[t, t] })
    (base : Nat) (e : TypeId) (i : TypeInfo) (z : Value) (bytes : Nat) (ht : P.underlying t = some (.slice e)) (hi : P.info? e = some i) (hz : i.zero = some z)
    (hsize : i.size = 1) (hby : i.bytes = bytes) (hzs : z.cells.size = 1)
    (v : Value) (n : Nat) (xs : List Value) (hs : a.eval s = v) (hown : w.ownsRow base e 1 v n xs)
    (y : Value) (hy : y.oneCell' = true) (hx : a.eval x = .slice (some ⟨w.heap.size, 0, none⟩) 1 1)
    (h63 : n + 1 ≤ maxLen) (hbytes : (n + 1) * bytes ≤ 140737488355328) (hbase : base ≤ w.heap.size)
    (h : ∀ v' w', w'.ownsRow base e 1 v' (n + 1) (xs ++ [y]) → w.grownBy w' v.ownBlock → (v'.ownBlock = v.ownBlock ∨ v'.ownBlock = some (w.heap.size + 1)) → wpList P ops Q rest (a.put o.dst v') w') :
    wpList P ops Q (o :: rest) a (w.alloc (.cells #[y] e)) := by
  refine wpList_append_own_at _ hgd s x t ho base e i z 1 bytes ht hi hz hsize hby hzs (by decide) v n xs hs (hown.alloc _) ⟨w.heap.size, 0, none⟩ 1 1 [y] hx rfl ?_ ?_ h63 hbytes (by simp; omega) ?_
  · intro j u hu
    rcases j with _ | j
    · simp at hu
      subst hu
      rw [Addr.add_lit, World.cell?_alloc_at _ _ _ _ (by simp)]
      rfl
    · simp at hu
  · intro u hu
    simp at hu
    subst hu
    exact hy
  · intro v' w' h1 h2 _ h4
    simp only [World.size_alloc] at h4
    exact h v' w' h1 (grown_trans (World.grownBy_alloc _ _ _) h2) h4
/-- a slice that lies in block B or in none before S -/
def Away (B S : Nat) (v : Value) : Prop := ∀ k, v.ownBlock = some k → k = B ∨ S ≤ k
theorem Away.next {B S : Nat} {v v' : Value} {w : World} (h : Away B S v) (hS : S ≤ w.heap.size) (h2 : v'.ownBlock = v.ownBlock ∨ v'.ownBlock = some (w.heap.size + 1)) : Away B S v' := by
  intro k hk
  rcases h2 with e | e
  · exact h k (by rw [← e]; exact hk)
  · rw [e] at hk
    injection hk with hk
    exact .inr (by omega)
/-- a row that lies between them stays -/
theorem Away.keeps {B S L : Nat} {v : Value} {w w' : World} {e : TypeId} {u : Value} {n : Nat} {xs : List Value} (h : Away B S v) (hg : w.grownBy w' v.ownBlock) (hu : w.ownsRow L e 1 u n xs) (hB : B < L) (hS : ∀ k, u.ownBlock = some k → k < S) : w'.ownsRow L e 1 u n xs := by
  refine own_apart hu hg (fun k hk hk2 => ?_)
  have h1 := (hu.lt k hk).1
  have h2 := hS k hk
  rcases h k hk2 with h3 | h3 <;> omega
end Go.Proofs.Ytiglikdanhfhfaa

/- The program's palindromes of a word. Condition: a word. -/
namespace Go.Proofs.Ytiglikdanhfhfaa
open Go.RowKit

theorem build_p1 (z : Int) (w : World) : (Instr.build 52 #[(1, .int .i64 z)]).run Try.prog w = .ok (.agg #[.int .i64 0, .int .i64 z, .pointer none, .pointer none, .pointer none, .pointer none, .pointer none]) w := run_build w _ _ _ (by kernel_rfl)
theorem build_p2 (a : Option Addr) (w : World) : (Instr.build 52 #[(2, .pointer a)]).run Try.prog w = .ok (.agg #[.int .i64 0, .int .i64 0, .pointer a, .pointer none, .pointer none, .pointer none, .pointer none]) w := run_build w _ _ _ (by kernel_rfl)
theorem build_p3 (x y : Int) (a : Option Addr) (w : World) : (Instr.build 52 #[(0, .int .i64 x), (1, .int .i64 y), (2, .pointer a)]).run Try.prog w = .ok (.agg #[.int .i64 x, .int .i64 y, .pointer a, .pointer none, .pointer none, .pointer none, .pointer none]) w := run_build w _ _ _ (by kernel_rfl)
theorem ptr_info : (Try.prog.info? 44).map (fun i => (i.zero, i.size, i.bytes)) = some (some (.pointer none), 1, 8) := by kernel_rfl

/-- the pointers to the nodes but the center -/
def Eer.ptrs (T : Eer) : List Value := (List.range T.m).map fun k => .pointer (some ⟨T.bl (k + 1), 0, none⟩)
theorem ptrs_len (T : Eer) : T.ptrs.length = T.m := by simp [Eer.ptrs]
theorem ptrs_more (T : Eer) (b s l j r x : Nat) : (T.more b s l j r x).ptrs = T.ptrs ++ [.pointer (some ⟨b, 0, none⟩)] := by
  unfold Eer.ptrs
  rw [show (T.more b s l j r x).m = T.m + 1 from rfl, List.range_succ, List.map_append]
  congr 1
  · refine List.map_congr_left fun k hk => ?_
    rw [more_bl (by have := List.mem_range.1 hk; omega)]
  · show [Value.pointer (some ⟨(T.more b s l j r x).bl (T.m + 1), 0, none⟩)] = _
    rw [more_bl1]

/-- what the loop of palindromes keeps -/
def EerRel (s : ByteArray) (w : World) (i : Nat) (T : Eer) (L : Nat) (v : Value) (w' : World) : Prop :=
  EerOk (bt s) i T ∧ CurAt (bt s) i T L ∧ Lies w' w.heap.size T ∧ w'.ownsRow w.heap.size 44 1 v T.m T.ptrs ∧ T.m ≤ i + 1 ∧ T.bl 0 = w.heap.size ∧ T.bl 1 = w.heap.size + 1 ∧ Below w.heap.size w w'

theorem rel_start (s : ByteArray) (w : World) : EerRel s w 0 (eer0 w.heap.size) 1 (.slice (some ⟨w.heap.size + 1 + 1, 0, none⟩) 1 1) (((w.alloc (.cells #[.int .i64 0, .int .i64 (-1), .pointer none, .pointer none, .pointer none, .pointer none, .pointer none] tPal)).alloc (.cells #[.int .i64 0, .int .i64 0, .pointer (some ⟨w.heap.size, 0, none⟩), .pointer none, .pointer none, .pointer none, .pointer none] tPal)).alloc (.cells #[.pointer (some ⟨w.heap.size + 1, 0, none⟩)] 44)) := by
  have hz1 : ∀ o : Obj, (w.alloc o).heap.size = w.heap.size + 1 := fun o => by simp
  refine ⟨(eer_start _ _).1, (eer_start _ _).2, ⟨fun k hk => ?_, fun k k' _ _ e => ?_⟩, ?_, Nat.le_refl _, rfl, rfl, ?_⟩
  · have hk1 : k ≤ 1 := hk
    refine ⟨Nat.le_add_right _ _, World.rowIs.alloc ?_ _⟩
    by_cases h0 : k = 0
    · subst h0
      refine World.rowIs.alloc ?_ _
      refine (World.rowIs_alloc w _ tPal ((eer0 w.heap.size).cell 0) fun q hq => ?_)
      match q, hq with
      | 0, _ => rfl
      | 1, _ => rfl
      | 2, _ => rfl
      | 3, _ => rfl
      | 4, _ => rfl
      | 5, _ => rfl
      | 6, _ => rfl
    · have : k = 1 := by omega
      subst this
      have hr := World.rowIs_alloc (w.alloc (.cells #[.int .i64 0, .int .i64 (-1), .pointer none, .pointer none, .pointer none, .pointer none, .pointer none] tPal)) #[.int .i64 0, .int .i64 0, .pointer (some ⟨w.heap.size, 0, none⟩), .pointer none, .pointer none, .pointer none, .pointer none] tPal ((eer0 w.heap.size).cell 1) fun q hq => by
        match q, hq with
        | 0, _ => rfl
        | 1, _ => rfl
        | 2, _ => rfl
        | 3, _ => rfl
        | 4, _ => rfl
        | 5, _ => rfl
        | 6, _ => rfl
      rw [hz1] at hr
      exact hr
  · have : w.heap.size + k = w.heap.size + k' := e
    omega
  · have hl := World.ownsRow_lit (e := 44) (size := 1) (base := w.heap.size) ((w.alloc (.cells #[.int .i64 0, .int .i64 (-1), .pointer none, .pointer none, .pointer none, .pointer none, .pointer none] tPal)).alloc (.cells #[.int .i64 0, .int .i64 0, .pointer (some ⟨w.heap.size, 0, none⟩), .pointer none, .pointer none, .pointer none, .pointer none] tPal)) #[.pointer (some ⟨w.heap.size + 1, 0, none⟩)] 1 (by simp; omega) (by unfold maxLen; decide) rfl
    simp only [World.size_alloc] at hl
    exact hl
  · exact (((Below.refl _ _).alloc (Nat.le_refl _) _).alloc (by simp) _).alloc (by simp; omega) _
/-- the cells of a node that nothing is linked to -/
def newCells (x y : Int) (u : Value) : Nat → Value
  | 0 => .int .i64 x
  | 1 => .int .i64 y
  | 2 => u
  | _ => .pointer none
/-- a new node lies in block b, and the tree does not know it yet -/
def EerMid (w : World) (T : Eer) (v : Value) (b : Nat) (f : Nat → Value) (w' : World) : Prop :=
  Lies w' w.heap.size T ∧ w'.ownsRow w.heap.size 44 1 v T.m T.ptrs ∧ Below w.heap.size w w' ∧ w'.rowIs b tPal 7 f ∧ (∀ k, k ≤ T.m → T.bl k ≠ b) ∧ w.heap.size ≤ b
theorem mid_box {s : ByteArray} {w wr : World} {i L : Nat} {T : Eer} {v : Value} (h : EerRel s w i T L v wr) (n : Nat) (x y : Int) (u : Value) :
    EerMid w T v wr.heap.size (newCells x y u) ((wr.drewN n).alloc (.cells #[.int .i64 x, .int .i64 y, u, .pointer none, .pointer none, .pointer none, .pointer none] tPal)) := by
  obtain ⟨_, _, h3, h4, _, _, _, h8⟩ := h
  refine ⟨Lies.alloc (w := wr.drewN n) h3 _, World.ownsRow.alloc (w := wr.drewN n) h4 _, (below_drewN h8 n).alloc h8.size _, ?_, fun k hk => ?_, h8.size⟩
  · exact World.rowIs_alloc (wr.drewN n) _ tPal (newCells x y u) fun q hq => by
      match q, hq with
      | 0, _ => rfl
      | 1, _ => rfl
      | 2, _ => rfl
      | 3, _ => rfl
      | 4, _ => rfl
      | 5, _ => rfl
      | 6, _ => rfl
  · have := h3.lt hk
    omega
theorem mid_link {w wa : World} {T : Eer} {v : Value} {b : Nat} {f : Nat → Value} (h : EerMid w T v b f wa) (n : Nat) (u : Value) : EerMid w T v b (fun q => if q = 2 then u else f q) ((wa.drewN n).setCell ⟨b, 2, none⟩ u) := by
  obtain ⟨h1, h2, h3, h4, h5, h6⟩ := h
  have hv : ∀ k, v.ownBlock = some k → k ≠ b := fun k hk e => by
    subst e
    obtain ⟨c, hc, _⟩ := h4
    rcases h2.2 with ⟨rfl, _⟩ | ⟨g, cap, cur, rfl, _, hg, _⟩
    · cases hk
    · injection hk with hk
      subst hk
      rw [hc] at hg
      injection hg with hg
      injection hg with _ e2
      exact absurd e2 (by decide)
  exact ⟨Lies.setOther (w := wa.drewN n) h1 h5 u, own_setCell2 (w := wa.drewN n) h2 hv u, (below_drewN h3 n).setCell h6 u, World.rowIs.set (w := wa.drewN n) h4 2 u, h5, h6⟩
theorem mid_wide {c : Nat → Nat} {i : Nat} {w wb : World} {T : Eer} {v : Value} {b : Nat} {f : Nat → Value} (hok : EerOk c i T) (h : EerMid w T v b f wb) {x l j r : Nat} (hr : r ≤ T.m) (hj : j ≤ T.m) (o : Nat)
    (h0 : f 0 = .int .i64 (x : Int)) (h1 : f 1 = .int .i64 ((l : Int) - 1)) (h2 : f 2 = .pointer (some ⟨T.bl j, 0, none⟩)) (h3 : ∀ q, q < 4 → f (3 + q) = .pointer none) :
    Lies (wb.setCell ⟨T.bl r, 3 + o, none⟩ (.pointer (some ⟨b, 0, none⟩))) w.heap.size (T.more b x l j r (97 + o)) ∧ (wb.setCell ⟨T.bl r, 3 + o, none⟩ (.pointer (some ⟨b, 0, none⟩))).ownsRow w.heap.size 44 1 v T.m T.ptrs ∧ Below w.heap.size w (wb.setCell ⟨T.bl r, 3 + o, none⟩ (.pointer (some ⟨b, 0, none⟩))) := by
  obtain ⟨k1, k2, k3, k4, k5, k6⟩ := h
  exact ⟨lies_more hok k1 k4 k6 k5 h0 h1 h2 h3 hr hj o rfl, own_setCell2 k2 (fun k hk e => k1.apart k2 (by decide) r hr (by rw [hk, e])) _, k3.setCell (k1.1 r hr).1 _⟩
theorem mid_end {s : ByteArray} {w wc w5 : World} {i L r j o b : Nat} {T : Eer} {v v' : Value} (hok : EerOk (bt s) i T) (hL : CurAt (bt s) i T L) (d : DownTo (bt s) i T L r) (hg : GoodP (bt s) i (T.lp r)) (ho : bt s i = 97 + o) (hn : T.wd r (97 + o) = none) (hj : LinkOk (bt s) i T r j)
    (hm : T.m ≤ i + 1) (hb0 : T.bl 0 = w.heap.size) (hb1 : T.bl 1 = w.heap.size + 1)
    (h1 : Lies wc w.heap.size (T.more b (i - T.lp r) (T.lp r + 2) j r (97 + o))) (h2 : wc.ownsRow w.heap.size 44 1 v T.m T.ptrs) (h3 : Below w.heap.size w wc)
    (g1 : w5.ownsRow w.heap.size 44 1 v' (T.m + 1) (T.ptrs ++ [.pointer (some ⟨b, 0, none⟩)])) (g2 : wc.grownBy w5 v.ownBlock) :
    EerRel s w (i + 1) (T.more b (i - T.lp r) (T.lp r + 2) j r (97 + o)) (T.m + 1) v' w5 := by
  have he := eer_new b hok hL d hg (by rw [ho]; exact hn) hj
  rw [ho] at he
  refine ⟨he.1, he.2, h1.grown g2 (fun k hk => h1.apart h2 (by decide) k hk), ?_, ?_, ?_, ?_, h3.grown g2 h3.size (fun k hk => (h2.lt k hk).1)⟩
  · rw [ptrs_more]; exact g1
  · show T.m + 1 ≤ _; omega
  · rw [more_bl (Nat.zero_le _)]; exact hb0
  · rw [more_bl hok.m1]; exact hb1
theorem mid_wd {T : Eer} {b x l j r o : Nat} (hr : r ≤ T.m) : (T.more b x l j r (97 + o)).opt ((T.more b x l j r (97 + o)).wd r (97 + o)) = .pointer (some ⟨b, 0, none⟩) := by
  rw [more_wd hr, if_pos ⟨rfl, rfl⟩]
  show Value.pointer (some ⟨(T.more b x l j r (97 + o)).bl (T.m + 1), 0, none⟩) = _
  rw [more_bl1]

set_option maxRecDepth 100000 in
set_option maxHeartbeats 1000000 in
theorem implPalindromes (s : ByteArray) (w : World) (hw : wordB s = true) :
    Calls Try.prog 43 #[.string s] w fun e w' => ∃ T L A cp, e = .returned (.tuple #[.slice A T.m cp, .pointer (some ⟨T.bl L, 0, none⟩)]) ∧ EerRel s w s.size T L (.slice A T.m cp) w' := by
  have hs := word_size hw
  obtain ⟨i0, hi0, hz0, hz1, hz2⟩ := info_parts ptr_info
  have hb1 := build_p1 (-1)
  have hb2 := build_p2 (some ⟨w.heap.size, 0, none⟩)
  go_enter Try.func43, Try.ntmps43
  go_wp2_with fail
  go_loopw [6, 7, 22] (fun a p ix w' => ∃ (i : Nat) (T : Eer) (L : Nat) (A : Option Addr) (cp : Nat), i ≤ s.size ∧ ix = .int .i64 (i : Int) ∧ a = .slice A T.m cp ∧ p = .pointer (some ⟨T.bl L, 0, none⟩) ∧ EerRel s w i T L (.slice A T.m cp) w') (fun _ _ ix _ => s.size - (intOf ix).toNat)
  case atStart => exact ⟨0, eer0 w.heap.size, 1, _, _, Nat.zero_le _, rfl, rfl, rfl, rel_start s w⟩
  case round =>
    obtain ⟨i, T, L, A, cp, hi, rfl, rfl, rfl, hrl⟩ := hrel
    have HR := Lib.hid hrl
    clear hrl
    by_cases hlt : i < s.size
    · have HOK : Hid (EerOk (bt s) i T) := HR.out.1
      have HC : Hid (CurAt (bt s) i T L) := HR.out.2.1
      have HLI : Hid (Lies wr w.heap.size T) := HR.out.2.2.1
      have HOW : Hid (wr.ownsRow w.heap.size 44 1 (.slice A T.m cp) T.m T.ptrs) := HR.out.2.2.2.1
      have HM : Hid (T.m ≤ i + 1) := HR.out.2.2.2.2.1
      have HB0 : Hid (T.bl 0 = w.heap.size) := HR.out.2.2.2.2.2.1
      have HB1 : Hid (T.bl 1 = w.heap.size + 1) := HR.out.2.2.2.2.2.2.1
      have HBE : Hid (Below w.heap.size w wr) := HR.out.2.2.2.2.2.2.2
      have bi := bt_at s i hlt
      obtain ⟨wa1, wa2⟩ := word_at hw i hlt
      obtain ⟨o, ho, ho4⟩ : ∃ o : Nat, bt s i = 97 + o ∧ o < 4 := ⟨bt s i - 97, by omega, by omega⟩
      have HO := Lib.hid ho
      have HX : Hid ((s[i]'hlt).toNat = 97 + o) := by show (s[i]'hlt).toNat = 97 + o; omega
      clear ho bi wa1 wa2
      go_wp2_with fail
      refine (letterIndex_at _ (o : Int) _ (by have := HX.out; omega) (by omega) (by omega)).mono ?_
      rintro e w1 ⟨rfl, rfl⟩
      go_wp2_with fail
      refine (implInner s T i L w.heap.size _ (by omega) hlt HLI.out HOK.out HC.out.2.1).mono ?_
      rintro e w1 ⟨r, rfl, hd, hg, n, rfl⟩
      have HD := Lib.hid hd
      have HG := Lib.hid hg
      have hrm : r ≤ T.m := hd.1.1
      have cw := HLI.out.wider hrm o ho4
      have c1 := HLI.out.length hrm
      clear hd hg
      cases hwd : T.wd r (97 + o) with
      | some j =>
        rw [hwd] at cw
        replace cw : wr.cell? ⟨T.bl r, 3 + o, none⟩ = some (.pointer (some ⟨T.bl j, 0, none⟩)) := cw
        have HE := Lib.hid (eer_old HOK.out HC.out HD.out HG.out (by rw [HO.out]; exact hwd))
        clear hwd
        go_wp2_with fail
        go_roundw
        case rel => exact ⟨i + 1, T, j, A, cp, by omega, by go_num, rfl, rfl, HE.out.1, HE.out.2, HLI.out, HOW.out, by have := HM.out; omega, HB0.out, HB1.out, below_drewN HBE.out n⟩
        case measure => simp [intOf]; omega
      | none =>
        rw [hwd] at cw
        replace cw : wr.cell? ⟨T.bl r, 3 + o, none⟩ = some (.pointer none) := cw
        have HW := Lib.hid hwd
        have hlr : T.lp r ≤ i := HG.out.1
        clear hwd
        generalize hP : T.lp r = P at *
        have e1 : IntKind.i64.wrap ((i : Int) - ((P : Int) - 1)) = ((i + 1 - P : Nat) : Int) := by rw [IntWalk.i64_in _ (by omega)]; omega
        have e2 : IntKind.i64.wrap (((i + 1 - P : Nat) : Int) - 1) = ((i - P : Nat) : Int) := by rw [IntWalk.i64_in _ (by omega)]; omega
        have e3 : IntKind.i64.wrap (((P : Int) - 1) + 2) = (P : Int) + 1 := by rw [IntWalk.i64_in _ (by omega)]; omega
        have hb3 := build_p3 ((i - P : Nat) : Int) ((P : Int) + 1) (some ⟨w.heap.size + 1, 0, none⟩)
        go_wp2_with fail
        go_region
        have HMA := Lib.hid (mid_box HR.out (n + 1) ((i - P : Nat) : Int) ((P : Int) + 1) (.pointer (some ⟨w.heap.size + 1, 0, none⟩)))
        generalize hwa : (wr.drewN (n + 1)).alloc (.cells #[.int .i64 ((i - P : Nat) : Int), .int .i64 ((P : Int) + 1), .pointer (some ⟨w.heap.size + 1, 0, none⟩), .pointer none, .pointer none, .pointer none, .pointer none] 52) = wa at HMA ⊢
        generalize wr.heap.size = b at HMA ⊢
        clear hwa cw c1
        by_cases hr0 : r = 0
        · have HR0 := Lib.hid hr0
          clear hr0
          have hpn : ∀ wx : World, (binOp .neq 44 (.pointer (some ⟨T.bl r, 0, none⟩)) (.pointer (some ⟨w.heap.size, 0, none⟩))).run Try.prog wx = .ok (.bool false) wx := fun wx => by
            rw [HR0.out, HB0.out]
            exact ptr_same _ wx
          have HMB := HMA
          have cw3 := HMB.out.1.wider hrm o ho4
          rw [HW.out] at cw3
          replace cw3 : wa.cell? ⟨T.bl r, 3 + o, none⟩ = some (.pointer none) := cw3
          have hfr3 := HMB.out.1.free hrm (3 + o)
          go_upto_region 14 with (fail)
          have HWC := Lib.hid (mid_wide HOK.out HMB.out hrm HOK.out.m1 o rfl (by show Value.int .i64 ((P : Int) + 1) = .int .i64 (((P + 2 : Nat) : Int) - 1); congr 1; omega) (by show Value.pointer (some ⟨w.heap.size + 1, 0, none⟩) = _; rw [HB1.out]) (fun q hq => by match q, hq with | 0, _ => rfl | 1, _ => rfl | 2, _ => rfl | 3, _ => rfl))
          generalize hwc : wa.setCell ⟨T.bl r, 3 + o, none⟩ (.pointer (some ⟨b, 0, none⟩)) = wc at HWC ⊢
          clear hwc cw3 hfr3
          have hmx : T.m ≤ 401 := by have := HM.out; omega
          have hbz := HWC.out.2.2.size
          go_wp2_with (at_builtin
                       refine wpList_append1p _ rfl (.tmp 79) (.tmp 81) _ rfl w.heap.size 44 i0 _ 8 Try.underlying43 hi0 hz0 hz1 hz2 rfl (.slice A T.m cp) T.m T.ptrs rfl HWC.out.2.1 (.pointer (some ⟨b, 0, none⟩)) rfl rfl (by unfold maxLen; omega) (by omega) hbz ?_
                       intro v' w5 hown5 hgr5 _
                       obtain ⟨A', cp', rfl⟩ := own_slice hown5
                       have HEND := Lib.hid (mid_end HOK.out HC.out HD.out (by rw [hP]; exact HG.out) HO.out HW.out (.inl ⟨HR0.out, rfl⟩) HM.out HB0.out HB1.out (by rw [hP]; exact HWC.out.1) HWC.out.2.1 HWC.out.2.2 hown5 hgr5)
                       have cw5 := HEND.out.2.2.1.wider (k := r) (Nat.le_succ_of_le hrm) o ho4
                       rw [mid_wd hrm, more_bl hrm] at cw5
                       clear hown5 hgr5)
          go_roundw
          case rel => exact ⟨i + 1, _, T.m + 1, A', cp', by omega, by go_num, rfl, by rw [more_bl1], HEND.out⟩
          case measure => simp [intOf]; omega
        · have hpn : (binOp .neq 44 (.pointer (some ⟨T.bl r, 0, none⟩)) (.pointer (some ⟨w.heap.size, 0, none⟩))).run Try.prog wa = .ok (.bool true) wa := by
            have := Lies.neq HMA.out.1 hrm (Nat.zero_le _) hr0
            rw [HB0.out] at this
            exact this
          have c2 := HMA.out.1.shorter hrm (by omega)
          go_wp2_with fail
          refine (implInner s T i (T.sh r) w.heap.size _ (by omega) hlt HMA.out.1 HOK.out (HD.out.1.shorter HOK.out (by omega))).mono ?_
          rintro e w3 ⟨r', rfl, hd', hg', n', rfl⟩
          have HLK : Hid (∀ j, T.wd r' (97 + o) = some j → LinkOk (bt s) i T r j) := fun j hj => .inr ⟨by omega, r', hd', hg', by rw [HO.out]; exact hj⟩
          obtain ⟨j, hj⟩ : ∃ j, T.wd r' (97 + o) = some j := by rw [← HO.out]; exact new_shorter HOK.out (by omega) HD.out.1 (by rw [hP]; exact HG.out) hd' hg'
          have HJM : Hid (j ≤ T.m) := ((HOK.out.wid r' _ hd'.1.1 j).1 hj).2.1
          have cw2 := HMA.out.1.wider hd'.1.1 o ho4
          rw [hj] at cw2
          replace cw2 : wa.cell? ⟨T.bl r', 3 + o, none⟩ = some (.pointer (some ⟨T.bl j, 0, none⟩)) := cw2
          have HLJ := Lib.hid (HLK.out j hj)
          have cb := HMA.out.2.2.2.1.cell (i := 2) (by omega)
          have fb := HMA.out.2.2.2.1.frozen 2
          have HMB := Lib.hid (mid_link HMA.out n' (.pointer (some ⟨T.bl j, 0, none⟩)))
          clear hd' hg' hj HLK c2
          go_upto_region 13 with (fail)
          generalize hwb : (wa.drewN n').setCell ⟨b, 2, none⟩ (.pointer (some ⟨T.bl j, 0, none⟩)) = wb at HMB ⊢
          clear hwb cw2 cb fb hpn
          have cw3 := HMB.out.1.wider hrm o ho4
          rw [HW.out] at cw3
          replace cw3 : wb.cell? ⟨T.bl r, 3 + o, none⟩ = some (.pointer none) := cw3
          have hfr3 := HMB.out.1.free hrm (3 + o)
          go_upto_region 14 with (fail)
          have HWC := Lib.hid (mid_wide HOK.out HMB.out hrm HJM.out o rfl (by show Value.int .i64 ((P : Int) + 1) = .int .i64 (((P + 2 : Nat) : Int) - 1); congr 1; omega) rfl (fun q hq => by match q, hq with | 0, _ => rfl | 1, _ => rfl | 2, _ => rfl | 3, _ => rfl))
          generalize hwc : wb.setCell ⟨T.bl r, 3 + o, none⟩ (.pointer (some ⟨b, 0, none⟩)) = wc at HWC ⊢
          clear hwc cw3 hfr3
          have hmx : T.m ≤ 401 := by have := HM.out; omega
          have hbz := HWC.out.2.2.size
          go_wp2_with (at_builtin
                       refine wpList_append1p _ rfl (.tmp 79) (.tmp 81) _ rfl w.heap.size 44 i0 _ 8 Try.underlying43 hi0 hz0 hz1 hz2 rfl (.slice A T.m cp) T.m T.ptrs rfl HWC.out.2.1 (.pointer (some ⟨b, 0, none⟩)) rfl rfl (by unfold maxLen; omega) (by omega) hbz ?_
                       intro v' w5 hown5 hgr5 _
                       obtain ⟨A', cp', rfl⟩ := own_slice hown5
                       have HEND := Lib.hid (mid_end HOK.out HC.out HD.out (by rw [hP]; exact HG.out) HO.out HW.out HLJ.out HM.out HB0.out HB1.out (by rw [hP]; exact HWC.out.1) HWC.out.2.1 HWC.out.2.2 hown5 hgr5)
                       have cw5 := HEND.out.2.2.1.wider (k := r) (Nat.le_succ_of_le hrm) o ho4
                       rw [mid_wd hrm, more_bl hrm] at cw5
                       clear hown5 hgr5)
          go_roundw
          case rel => exact ⟨i + 1, _, T.m + 1, A', cp', by omega, by go_num, rfl, by rw [more_bl1], HEND.out⟩
          case measure => simp [intOf]; omega
    · have hii : i = s.size := by omega
      subst hii
      go_wp2_with fail
      go_ret2
      exact ⟨T, L, A, cp, rfl, HR.out⟩
end Go.Proofs.Ytiglikdanhfhfaa

/- What the tree of palindromes says of the word: all palindromes, each once; the longest one; the one at the end. No program in it. -/
namespace Go.Proofs.Ytiglikdanhfhfaa
open Go.RowKit

theorem bt_iff (s : ByteArray) {i j : Nat} (hi : i < s.size) (hj : j < s.size) : bt s i = bt s j ↔ s.data.toList[i]? = s.data.toList[j]? := by
  unfold bt
  rw [List.getElem?_eq_getElem (by rw [pl_len]; exact hi), List.getElem?_eq_getElem (by rw [pl_len]; exact hj), Option.getD_some, Option.getD_some]
  constructor
  · intro h; rw [UInt8.toNat_inj.1 h]
  · intro h; injection h with h; rw [h]
theorem sa_ext (s : ByteArray) {a b n : Nat} (ha : a + n ≤ s.size) (hb : b + n ≤ s.size) : SameAt (bt s) a b n ↔ s.extract a (a + n) = s.extract b (b + n) := by
  rw [pl_ext2 ha hb]
  constructor
  · intro h j hj; exact (bt_iff s (by omega) (by omega)).1 (h j hj)
  · intro h j hj; exact (bt_iff s (by omega) (by omega)).2 (h j hj)
theorem pa_ext (s : ByteArray) {a n : Nat} (ha : a + n ≤ s.size) : PalAt (bt s) a n ↔ PalS (s.extract a (a + n)) := by
  rw [pl_at ha]
  constructor
  · intro h j hj; exact (bt_iff s (by omega) (by omega)).1 (h j hj)
  · intro h j hj; exact (bt_iff s (by omega) (by omega)).2 (h j hj)

/-- the letters of node k -/
def Eer.str (T : Eer) (s : ByteArray) (k : Nat) : ByteArray := s.extract (T.st k) (T.st k + (T.lp k - 1))
def Eer.strs (T : Eer) (s : ByteArray) (n : Nat) : List ByteArray := (List.range n).map fun k => T.str s (k + 1)
theorem strs_more (T : Eer) (s : ByteArray) (n : Nat) : T.strs s (n + 1) = T.strs s n ++ [T.str s (n + 1)] := by
  unfold Eer.strs
  rw [List.range_succ, List.map_append]
  rfl
theorem strs_len (T : Eer) (s : ByteArray) (n : Nat) : (T.strs s n).length = n := by simp [Eer.strs]
theorem node_in {s : ByteArray} {T : Eer} (h : EerOk (bt s) s.size T) {k : Nat} (h1 : 1 ≤ k) (h2 : k ≤ T.m) : T.st k + (T.lp k - 1) ≤ s.size ∧ 1 ≤ T.lp k ∧ T.st k + T.lp k ≤ s.size + 1 := by
  have := h.inn k h1 h2
  have := h.pos h1 h2
  omega
theorem str_size {s : ByteArray} {T : Eer} (h : EerOk (bt s) s.size T) {k : Nat} (h1 : 1 ≤ k) (h2 : k ≤ T.m) : (T.str s k).size = T.lp k - 1 := pz_size s _ _ (node_in h h1 h2).1
theorem str_inj {s : ByteArray} {T : Eer} (h : EerOk (bt s) s.size T) {k k' : Nat} (h1 : 1 ≤ k) (h2 : k ≤ T.m) (h1' : 1 ≤ k') (h2' : k' ≤ T.m) (e : T.str s k = T.str s k') : k = k' := by
  have z := str_size h h1 h2
  have z' := str_size h h1' h2'
  rw [e, z'] at z
  have n1 := node_in h h1 h2
  have n2 := node_in h h1' h2'
  refine h.inj h1 h2 h1' h2' (by omega) ((sa_ext s n1.1 (by omega)).2 ?_)
  unfold Eer.str at e
  rw [z] at e
  exact e
theorem strs_nodup {s : ByteArray} {T : Eer} (h : EerOk (bt s) s.size T) : (T.strs s T.m).Nodup := by
  unfold Eer.strs
  refine List.pairwise_map.2 (List.Pairwise.imp_of_mem ?_ List.nodup_range)
  intro a b ha hb hab e
  have ha := List.mem_range.1 ha
  have hb := List.mem_range.1 hb
  have := str_inj h (by omega) (by omega) (by omega) (by omega) e
  omega
theorem strs_mem {s : ByteArray} {T : Eer} (h : EerOk (bt s) s.size T) (x : ByteArray) : x ∈ T.strs s T.m ↔ x ∈ ppL s := by
  rw [ppL_mem]
  unfold Eer.strs
  rw [List.mem_map]
  have hm := h.m1
  constructor
  · rintro ⟨k, hk, rfl⟩
    have hk := List.mem_range.1 hk
    have n1 := node_in h (k := k + 1) (by omega) (by omega)
    by_cases h0 : k = 0
    · subst h0
      refine .inl (pl_zero ?_)
      rw [str_size h (by omega) (by omega), h.lp1]
    · have hb := h.big (k + 1) (by omega) (by omega)
      exact .inr ⟨T.st (k + 1), T.lp (k + 1) - 1, by omega, n1.1, (pa_ext s n1.1).1 (h.pal (k + 1) (by omega) (by omega)), rfl⟩
  · rintro (rfl | ⟨j, n, h1, h2, h3, rfl⟩)
    · exact ⟨0, List.mem_range.2 (by omega), pl_zero (by rw [str_size h (by omega) (by omega), h.lp1])⟩
    · obtain ⟨k, k1, k2, k3, k4⟩ := h.full j n h2 ((pa_ext s h2).2 h3)
      have n1 := node_in h k1 k2
      refine ⟨k - 1, List.mem_range.2 (by omega), ?_⟩
      rw [show k - 1 + 1 = k by omega]
      unfold Eer.str
      rw [k3, show n + 1 - 1 = n by omega]
      exact (sa_ext s (by omega) h2).1 k4
theorem eer_count {s : ByteArray} {T : Eer} (h : EerOk (bt s) s.size T) : T.m = (ppL s).length := by
  have := ((List.perm_ext_iff_of_nodup (strs_nodup h) (asc_nodup (ppTo_asc s s.size))).2 (strs_mem h)).length_eq
  rw [strs_len] at this
  exact this
/-- the longest palindrome at the end is what closing keeps -/
theorem eer_close {s : ByteArray} {T : Eer} {L : Nat} (h : EerOk (bt s) s.size T) (hc : CurAt (bt s) s.size T L) : clK s = s.size + 1 - T.lp L ∧ 1 ≤ T.lp L ∧ T.lp L ≤ s.size + 1 := by
  have h1 := h.pos hc.1 hc.2.1.1
  have h2 := hc.2.1.2.1
  refine ⟨clK_eq (by omega) ?_ fun j hj hp => ?_, h1, h2⟩
  · have := hc.2.1.pal h
    have := (pa_ext s (by omega)).1 this
    rwa [show s.size + 1 - T.lp L + (T.lp L - 1) = s.size by omega] at this
  · refine hc.2.2 (s.size + 1 - j) (by omega) (by omega) ((pa_ext s (by omega)).2 ?_)
    rwa [show s.size + 1 - (s.size + 1 - j) + (s.size + 1 - j - 1) = s.size by omega, show s.size + 1 - (s.size + 1 - j) = j by omega]
/-- the first of the longest ones among the first q nodes -/
def BestAt (T : Eer) (q a n : Nat) : Prop := ((n = 0 ∧ a = 0) ∨ ∃ k, 1 ≤ k ∧ k ≤ q ∧ a = T.st k ∧ T.lp k = n + 1 ∧ ∀ k', 1 ≤ k' → k' < k → T.lp k' < n + 1) ∧ ∀ k, 1 ≤ k → k ≤ q → T.lp k ≤ n + 1
theorem best_start (T : Eer) : BestAt T 0 0 0 := ⟨.inl ⟨rfl, rfl⟩, fun k a b => by omega⟩
theorem best_yes {T : Eer} {q a n : Nat} (h : BestAt T q a n) (hl : n + 1 < T.lp (q + 1)) : BestAt T (q + 1) (T.st (q + 1)) (T.lp (q + 1) - 1) := by
  refine ⟨.inr ⟨q + 1, by omega, Nat.le_refl _, rfl, by omega, fun k' a b => ?_⟩, fun k a b => ?_⟩
  · have := h.2 k' a (by omega); omega
  · by_cases e : k = q + 1
    · subst e; omega
    · have := h.2 k a (by omega); omega
theorem best_no {T : Eer} {q a n : Nat} (h : BestAt T q a n) (hl : ¬ n + 1 < T.lp (q + 1)) : BestAt T (q + 1) a n := by
  refine ⟨h.1.imp id fun ⟨k, k1, k2, k3⟩ => ⟨k, k1, by omega, k3⟩, fun k a b => ?_⟩
  by_cases e : k = q + 1
  · subst e; omega
  · exact h.2 k a (by omega)
theorem best_end {s : ByteArray} {T : Eer} {a n : Nat} (hw : wordB s = true) (h : EerOk (bt s) s.size T) (hb : BestAt T T.m a n) : lpR1 s = (a : Int) ∧ lpR2 s = (n : Int) := by
  have htop : ∀ j m, j + m ≤ s.size → PalS (s.extract j (j + m)) → m ≤ n := fun j m hj hp => by
    obtain ⟨k, k1, k2, k3, _⟩ := h.full j m hj ((pa_ext s hj).2 hp)
    have := hb.2 k k1 k2
    omega
  have hm := h.m1
  rcases hb.1 with ⟨rfl, rfl⟩ | ⟨k, k1, k2, rfl, k4, k5⟩
  · have h0 : s.size = 0 := by
      by_cases e : s.size = 0
      · exact e
      · have := htop 0 1 (by omega) (pal_small (by rw [ByteArray.size_extract]; omega))
        omega
    unfold lpR1 lpR2
    rw [if_pos hw, if_pos hw, if_pos h0, h0, Nat.zero_sub]
    exact ⟨rfl, rfl⟩
  · have n1 := node_in h k1 k2
    have hn : n ≤ s.size := by omega
    have ed : s.size - (s.size - n) = n := by omega
    obtain ⟨e1, e2⟩ := lp_found (s := s) (d := s.size - n) (i := T.st k) ⟨by omega, by omega, by
      rw [ed]
      have := (pa_ext s n1.1).1 (h.pal k k1 k2)
      rwa [k4, show n + 1 - 1 = n by omega] at this⟩ (fun d' hd i' hh => by
      have := htop i' (s.size - d') (by have := hh.1; have := hh.2.1; omega) hh.2.2
      omega) (fun i' hi' hh => by
      have hp := hh.2.2
      rw [ed] at hp
      have hj : i' + n ≤ s.size := by have := hh.1; omega
      obtain ⟨q, q1, q2, q3, q4⟩ := h.full i' n hj ((pa_ext s hj).2 hp)
      have f := h.fst q q1 q2 i' (by rw [q3, show n + 1 - 1 = n by omega]; exact q4)
      rcases Nat.lt_trichotomy q k with x | x | x
      · have := k5 q q1 x; omega
      · subst x; omega
      · have := h.asc k q k1 x q2; omega)
    unfold lpR1 lpR2
    rw [if_pos hw, if_pos hw, e1, e2, ed]
    by_cases h0 : s.size = 0
    · rw [if_pos h0]
      constructor
      · have : T.st k = 0 := by omega
        rw [this]; rfl
      · rfl
    · rw [if_neg h0]
      exact ⟨rfl, rfl⟩
end Go.Proofs.Ytiglikdanhfhfaa
