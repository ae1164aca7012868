/- Texts put together. -/
import Derived.Test.YtgfhconcmoepcaaMgb17
import Derived.Test.YtgfhconcmoepcaaMgb3
import Derived.Test.YtgfhconcmoepcaaMgb8
import Derived.Test.YtgfhconcmoepcaaMgb2
import Derived.ArgAppend
import Derived.Test.YtgfhconcmoepcaaMgb13
import Derived.Test.YtgfhconcmoepcaaMgb5
/- The mathematics of FnPeriods, fifth part: how many Lyndon words there are, reckoned for small numbers. No program in it. -/
namespace Go.Proofs.Ytgfhconcmoepcaa
open Go.RowKit

/-- the sum of those of l at the divisors of m among 1 .. k -/
def prSum (l : List Int) (m : Nat) : Nat → Int
  | 0 => 0
  | d + 1 => prSum l m d + if m % (d + 1) = 0 then l.getD (d + 1) 0 else 0
/-- how many words of 0 .. m letters are no powers -/
def prT (L : Nat) : Nat → List Int
  | 0 => [0]
  | m + 1 => prT L m ++ [(L : Int) ^ (m + 1) - prSum (prT L m) (m + 1) m]
def clyOk (a b : Int) : Bool := (decide (1 ≤ a) && decide (a ≤ 4)) && (decide (1 ≤ b) && decide (b ≤ 12))
/-- what CountLyndon is to return -/
def clyR (a b : Int) : Int := if clyOk a b = true then ((prT a.toNat b.toNat).getD b.toNat 0).tdiv b else -1
/-- a Lyndon word, reckoned -/
def lyC (w : List UInt8) : Bool := !w.isEmpty && (List.range w.length).all fun k => decide (k = 0) || Op.bytesLess w (w.drop k ++ w.take k)
theorem lyC_eq (s : ByteArray) : lyB s = lyC s.data.toList := by
  have hl := pl_len s
  rw [Bool.eq_iff_iff, lyB_iff]
  unfold lyC LynAt
  rw [Bool.and_eq_true, Bool.not_eq_true', List.isEmpty_eq_false_iff, List.all_eq_true, hl]
  constructor
  · rintro ⟨h1, h2⟩
    refine ⟨fun hh => by rw [hh] at hl; simp at hl; omega, fun k hk => ?_⟩
    rw [List.mem_range] at hk
    by_cases h0 : k = 0
    · rw [decide_eq_true h0, Bool.true_or]
    · have := h2 k (by omega) hk
      unfold lessB at this
      rw [ByteArray.toList_eq, ByteArray.toList_eq, rot_list s k (by omega)] at this
      rw [this, Bool.or_true]
  · rintro ⟨h1, h2⟩
    have := List.length_pos_iff.2 h1
    refine ⟨by omega, fun k h3 h4 => ?_⟩
    have := h2 k (List.mem_range.2 h4)
    rw [decide_eq_false (by omega), Bool.false_or] at this
    unfold lessB
    rw [ByteArray.toList_eq, ByteArray.toList_eq, rot_list s k (by omega)]
    exact this
/-- all words of m of the first L letters -/
def allW (L : Nat) : Nat → List (List UInt8)
  | 0 => [[]]
  | m + 1 => (allW L m).flatMap fun w => (List.range L).map fun j => w ++ [letterN j]
theorem cly_small : ∀ L ∈ [1, 2, 3], ∀ m ∈ [1, 2, 3, 4], clyR (L : Nat) (m : Nat) = (((allW L m).filter lyC).length : Int) := by decide +kernel
theorem cly_range : ∀ L ∈ [1, 2, 3, 4], ∀ m ∈ [1, 2, 3, 4, 5, 6, 7, 8, 9, 10, 11, 12], 0 ≤ clyR (L : Nat) (m : Nat) ∧ clyR (L : Nat) (m : Nat) ≤ 16777216 := by decide +kernel
end Go.Proofs.Ytgfhconcmoepcaa

/- All words of at most n of the first k letters, level by level; a part of a row that is read while the row grows. -/
namespace Go.Proofs.Ytgfhconcmoepcaa
open Go.RowKit

/-! ### the words -/
def ba (l : List UInt8) : ByteArray := ⟨l.toArray⟩
def lvl (k n : Nat) : List ByteArray := (allW k n).map ba
def mkTo (k : Nat) : Nat → List ByteArray
  | 0 => lvl k 0
  | n + 1 => mkTo k n ++ lvl k (n + 1)
/-- what one word becomes, by the first j letters -/
def kids (x : ByteArray) (j : Nat) : List ByteArray := (List.range j).map fun q => x ++ ⟨#[letterN q]⟩
theorem kids_succ (x : ByteArray) (j : Nat) : kids x (j + 1) = kids x j ++ [x ++ ⟨#[letterN j]⟩] := by unfold kids; rw [List.range_succ, List.map_append]; rfl
theorem kids_len (x : ByteArray) (j : Nat) : (kids x j).length = j := by simp [kids]
def kin (k : Nat) (l : List ByteArray) : List ByteArray := l.flatMap fun x => kids x k
theorem kin_snoc (k : Nat) (l : List ByteArray) (x : ByteArray) : kin k (l ++ [x]) = kin k l ++ kids x k := by unfold kin; rw [List.flatMap_append]; simp
theorem kin_len (k : Nat) : ∀ l : List ByteArray, (kin k l).length = l.length * k
  | [] => by simp [kin]
  | x :: l => by
    have := kin_len k l
    unfold kin at this ⊢
    rw [List.flatMap_cons, List.length_append, this, kids_len, List.length_cons, Nat.succ_mul, Nat.add_comm]
theorem lvl_next (k n : Nat) : lvl k (n + 1) = kin k (lvl k n) := by
  unfold lvl kin
  show ((allW k n).flatMap fun w => (List.range k).map fun j => w ++ [letterN j]).map ba = _
  rw [List.map_flatMap, List.flatMap_map]
  congr 1
  funext w
  rw [List.map_map]
  unfold kids
  refine List.map_congr_left fun j _ => ?_
  show ba (w ++ [letterN j]) = ba w ++ _
  apply bytes_ext
  rw [ByteArray.toList_eq, ByteArray.toList_eq, ByteArray.data_append, Array.toList_append]
  rfl
theorem lvl_len (k : Nat) : ∀ n, (lvl k n).length = k ^ n
  | 0 => rfl
  | n + 1 => by rw [lvl_next, kin_len, lvl_len k n, Nat.pow_succ]
theorem lvl_size (k : Nat) : ∀ n, ∀ x ∈ lvl k n, x.size = n
  | 0, x, h => by
    have : x = ba [] := by simpa [lvl, allW] using h
    subst this; rfl
  | n + 1, x, h => by
    rw [lvl_next] at h
    unfold kin at h
    obtain ⟨y, hy, hx⟩ := List.mem_flatMap.1 h
    unfold kids at hx
    obtain ⟨q, _, rfl⟩ := List.mem_map.1 hx
    rw [ByteArray.size_append, lvl_size k n y hy]
    rfl
theorem pow_le {k n : Nat} (h1 : k ≤ 3) (h2 : n ≤ 4) : k ^ n ≤ 81 := Nat.le_trans (Nat.pow_le_pow_left h1 n) (Nat.le_trans (Nat.pow_le_pow_right (by omega) h2) (by decide))
theorem mkTo_len {k : Nat} (h1 : k ≤ 3) : ∀ n, n ≤ 4 → (mkTo k n).length ≤ 81 * (n + 1)
  | 0, _ => by show (lvl k 0).length ≤ _; rw [lvl_len]; simp
  | n + 1, h => by
    have := mkTo_len h1 n (by omega)
    have hp := pow_le h1 h
    show (mkTo k n ++ lvl k (n + 1)).length ≤ _
    rw [List.length_append, lvl_len]
    omega

/-! ### a part of a row that grows -/
/-- L lies in block g from cell o on; and if v's block is g, it is a part of what v owns -/
def Part (w : World) (v : Value) (xs : List Value) (g o : Nat) (L : List Value) : Prop := g < w.heap.size ∧ (∀ q u, L[q]? = some u → w.cell? ⟨g, o + q, none⟩ = some u) ∧ (v.ownBlock = some g → ∀ q u, L[q]? = some u → xs[o + q]? = some u)
theorem Part.start {w : World} {B : Nat} {e : TypeId} {v : Value} {n : Nat} {xs : List Value} {g o : Nat} {L : List Value} (h : w.ownsRow B e 1 v n xs) (hg : v.ownBlock = some g) (hL : ∀ q u, L[q]? = some u → xs[o + q]? = some u) : Part w v xs g o L := by
  refine ⟨(h.lt g hg).2, fun q u hq => ?_, fun _ => hL⟩
  have := h.cells (g := g) hg (o + q) u (hL q u hq)
  rwa [Addr.add_lit, Nat.zero_add] at this
theorem Part.next {w w' : World} {B : Nat} {e : TypeId} {v v' : Value} {n : Nat} {xs : List Value} {y : Value} {g o : Nat} {L : List Value} (h : Part w v xs g o L) (h1 : w'.ownsRow B e 1 v' (n + 1) (xs ++ [y])) (h2 : w.grownBy w' v.ownBlock)
    (h3 : v'.ownBlock = v.ownBlock ∨ (w.grownBy w' none ∧ ∀ k, v'.ownBlock = some k → w.heap.size ≤ k)) : Part w' v' (xs ++ [y]) g o L := by
  obtain ⟨a, b, c⟩ := h
  refine ⟨Nat.lt_of_lt_of_le a h2.size, fun q u hq => ?_, fun hg q u hq => ?_⟩
  · rcases h3 with h3 | ⟨h3, _⟩
    · by_cases hv : v.ownBlock = some g
      · have hx := c hv q u hq
        have := h1.cells (g := g) (h3.trans hv) (o + q) u (by rw [List.getElem?_append_left (List.getElem?_eq_some_iff.1 hx).1]; exact hx)
        rwa [Addr.add_lit, Nat.zero_add] at this
      · exact h2.cell (b q u hq) (fun e => hv e.symm)
    · exact h3.cell (b q u hq) (by simp)
  · rcases h3 with h3 | ⟨_, h3⟩
    · have hx := c (h3.symm.trans hg) q u hq
      rw [List.getElem?_append_left (List.getElem?_eq_some_iff.1 hx).1]
      exact hx
    · have := h3 g hg
      omega
/-- append of one element that the walk has just laid, as wpList_append1p, and: the old row stays if a new one is made -/
theorem wpList_append1k {P : Program} (w : World) {ops : Array Oper} {rest : List Oper} {o : Oper} {a : Act} {Q : Exit → Act → World → Prop} (hgd : o.guard = none) (s x : Operand) (t : TypeId)
    (ho : o.op = .call { callee := .builtin .append, args := #[s, x], argTypes := #[t, t] })
    (base : Nat) (e : TypeId) (i : TypeInfo) (z : Value) (bytes : Nat) (ht : P.underlying t = some (.slice e)) (hi : P.info? e = some i) (hz : i.zero = some z)
    (hsize : i.size = 1) (hby : i.bytes = bytes) (hzs : z.cells.size = 1)
    (g n cap : Nat) (xs : List Value) (hs : a.eval s = .slice (some ⟨g, 0, none⟩) n cap) (hown : w.ownsRow base e 1 (.slice (some ⟨g, 0, none⟩) n cap) n xs)
    (y : Value) (hy : y.oneCell' = true) (hx : a.eval x = .slice (some ⟨w.heap.size, 0, none⟩) 1 1)
    (h63 : n + 1 ≤ maxLen) (hbytes : (n + 1) * bytes ≤ 140737488355328) (hbase : base ≤ w.heap.size)
    (h : ∀ g' cap' w', w'.ownsRow base e 1 (.slice (some ⟨g', 0, none⟩) (n + 1) cap') (n + 1) (xs ++ [y]) → w.grownBy w' (some g) → (g' = g ∨ (w.grownBy w' none ∧ w.heap.size ≤ g')) → wpList P ops Q rest (a.put o.dst (.slice (some ⟨g', 0, none⟩) (n + 1) cap')) w') :
    wpList P ops Q (o :: rest) a (w.alloc (.cells #[y] e)) := by
  have hnews : ∀ (j : Nat) u, [y][j]? = some u → (w.alloc (.cells #[y] e)).cell? ((⟨w.heap.size, 0, none⟩ : Addr).add j) = some u := by
    intro j u hu
    rcases j with _ | j
    · simp at hu
      subst hu
      rw [Addr.add_lit, World.cell?_alloc_at _ _ _ _ (by simp)]
      rfl
    · simp at hu
  have h1 : ∀ u ∈ [y], u.oneCell' = true := by
    intro u hu
    simp at hu
    subst hu
    exact hy
  have hown' : (w.alloc (.cells #[y] e)).ownsRow base e 1 (.slice (some ⟨g, 0, none⟩) n cap) n xs := hown.alloc _
  by_cases hc : n + 1 ≤ cap
  · refine wpList_append_fits _ hgd s x t ho base e i 1 ht hi hsize g n cap xs hs hown' ⟨w.heap.size, 0, none⟩ 1 1 [y] hx rfl hnews h1 hc ?_
    intro w' r1 r2
    exact h g cap w' r1 (grown_trans (World.grownBy_alloc _ _ _) r2) (.inl rfl)
  · refine wpList_append_grows _ hgd s x t ho e i z 1 bytes ht hi hz hsize hby hzs (by decide) (some ⟨g, 0, none⟩) n cap xs hs (fun e => by cases e) (by have := hown.1; omega) (fun b hb j u hu => ?_) ⟨w.heap.size, 0, none⟩ 1 1 [y] hx rfl hnews h1 (by omega) h63 hbytes ?_
    · injection hb with hb
      subst hb
      exact hown'.cells (g := g) rfl j u hu
    · intro v' w' r1 r2
      obtain ⟨g', cap', rfl, _⟩ := own_some r1 (by omega)
      have hk := (r1.lt g' rfl).1
      rw [World.size_alloc] at hk
      have r3 : w.grownBy w' none := grown_trans (World.grownBy_alloc _ _ _) r2
      exact h g' cap' w' (own_mono r1 (by rw [World.size_alloc]; omega)) ⟨r3.os, r3.tape, r3.output, r3.size, fun i hi _ => r3.block i hi (by simp)⟩ (.inr ⟨r3, by omega⟩)
end Go.Proofs.Ytgfhconcmoepcaa

/- MakeAll: all words of at most n of the first k letters. Conditions: k from 1 to 3, n up to 4. -/
namespace Go.Proofs.Ytgfhconcmoepcaa
open Go.RowKit Go.Lib

theorem slice_mid {P : Program} {t e : TypeId} (ht : P.underlying t = some (.slice e)) (hz : ∀ w, (sizeOf (P.elem t)).run P w = .ok 1 w) (b off n cap k m : Nat) (hkm : k < m) (hm : m ≤ n) (hn : n ≤ cap) (w : World) :
    (Instr.slice t (.slice (some ⟨b, off, none⟩) n cap) (some (.int .i64 (k : Int))) (some (.int .i64 (m : Int))) none).run P w = .ok (.slice (some ⟨b, off + k, none⟩) (m - k) (cap - k)) w := by
  have ht' : P.underlying t = some (.slice (P.elem t)) := by
    have : P.elem t = e := by simp [Program.elem, ht]
    rw [this]; exact ht
  rw [run_slice_lh (P := P) w t _ _ _ ht' .i64 .i64 k m (by omega) (by omega) (by omega), hz w]
  simp only [Result.andThen, sliced, Int.toNat_natCast]
  rw [if_neg (by omega)]
  simp [Addr.add]
theorem abcd_at (j : Nat) (h : j < 4) (w : World) : (Instr.slice 9 (.string ⟨#[97, 98, 99, 100]⟩) (some (.int .i64 (j : Int))) (some (.int .i64 ((j : Int) + 1))) none).run Try.prog w = .ok (.string ⟨#[letterN j]⟩) w := by
  have := slice_at Try.underlying9 ⟨#[97, 98, 99, 100]⟩ j 1 w (by show j + 1 ≤ 4; omega)
  rw [show (((1 : Nat) : Int)) = 1 from rfl] at this
  rw [this]
  have : j = 0 ∨ j = 1 ∨ j = 2 ∨ j = 3 := by omega
  rcases this with rfl | rfl | rfl | rfl <;> rfl
theorem mkTo_split (k i : Nat) : ∃ pre, mkTo k i = pre ++ lvl k i ∧ pre.length + (lvl k i).length = (mkTo k i).length := by
  cases i with
  | zero => exact ⟨[], rfl, by simp [mkTo]⟩
  | succ i => exact ⟨mkTo k i, rfl, by show _ = (mkTo k i ++ lvl k (i + 1)).length; rw [List.length_append]⟩

set_option maxRecDepth 100000 in
set_option maxHeartbeats 2000000 in
theorem specWords (k n : Nat) (w : World) (h1 : 1 ≤ k) (h3 : k ≤ 3) (h4 : n ≤ 4) :
    Calls Try.prog 69 #[.int .i64 (k : Int), .int .i64 (n : Int)] w fun e w' => ∃ g cp, e = .returned (.slice (some ⟨g, 0, none⟩) (mkTo k n).length cp) ∧ w'.ownsRow w.heap.size 9 1 (.slice (some ⟨g, 0, none⟩) (mkTo k n).length cp) (mkTo k n).length (strs (mkTo k n)) ∧ Below w.heap.size w w' := by
  obtain ⟨i0, hi0, hz0, hz1, hz2⟩ := info_parts str_info
  have HLEN := Lib.hid (fun i (h : i ≤ 4) => mkTo_len (k := k) h3 i h)
  have HLV := Lib.hid (fun i (h : i ≤ 4) => (show 1 ≤ (lvl k i).length ∧ (lvl k i).length ≤ 81 from by rw [lvl_len]; exact ⟨Nat.pow_pos h1, pow_le h3 h⟩))
  have HNX := Lib.hid (lvl_next k)
  have HLZ := Lib.hid (lvl_size k)
  have HMT : Hid (∀ i, mkTo k (i + 1) = mkTo k i ++ lvl k (i + 1)) := fun _ => rfl
  have HSP := Lib.hid (mkTo_split k)
  have HM0 : Hid (mkTo k 0 = [⟨#[]⟩]) := rfl
  generalize mkTo k = M at *
  generalize lvl k = Lv at *
  go_enter Try.func69, Try.ntmps69
  go_wp2_with fail
  go_loopw [5, 6, 7] (fun o f iv w' => ∃ (i g cp : Nat) (pre : List ByteArray), i ≤ n ∧ iv = .int .i64 (i : Int) ∧ o = .slice (some ⟨g, 0, none⟩) (M i).length cp ∧ f = .int .i64 (pre.length : Int) ∧ M i = pre ++ Lv i ∧ w'.ownsRow w.heap.size 9 1 (.slice (some ⟨g, 0, none⟩) (M i).length cp) (M i).length (strs (M i)) ∧ Below w.heap.size w w') (fun _ _ iv _ => n - (intOf iv).toNat)
  case atStart =>
    refine ⟨0, _, _, [], Nat.zero_le _, rfl, by rw [HM0.out]; rfl, rfl, ?_, ?_, (Below.refl _ _).alloc (Nat.le_refl _) _⟩
    · obtain ⟨pre, e1, e2⟩ := HSP.out 0
      have := (HLV.out 0 (by omega)).1
      rw [HM0.out] at e2
      have hpl : pre = [] := List.eq_nil_of_length_eq_zero (by simp only [List.length_singleton] at e2; omega)
      rw [e1, hpl]
    · rw [HM0.out]
      exact World.ownsRow_lit w #[.string ⟨#[]⟩] 1 (Nat.le_refl _) (by unfold maxLen; decide) rfl
  case round =>
    obtain ⟨i, g, cp, pre, hi, rfl, rfl, rfl, hM, ho, hb⟩ := hrel
    have HMI := Lib.hid hM
    have HO := Lib.hid ho
    have HB := Lib.hid hb
    clear hM ho hb
    by_cases hlt : i < n
    · have hml := HLEN.out i (by omega)
      have hlv := HLV.out i (by omega)
      have hlv2 := HLV.out (i + 1) (by omega)
      have hpl : pre.length + (Lv i).length = (M i).length := by rw [HMI.out, List.length_append]
      obtain ⟨cc, hcc⟩ : ∃ cc, cp = cc := ⟨_, rfl⟩
      have hcap : (M i).length ≤ cp := by
        obtain ⟨g', cap', e, hle⟩ := own_some HO.out (by omega)
        injection e with _ _ e
        omega
      have hsl : ∀ wx : World, (Instr.slice 31 (.slice (some ⟨g, 0, none⟩) (M i).length cp) (some (.int .i64 (pre.length : Int))) (some (.int .i64 ((M i).length : Int))) none).run Try.prog wx = .ok (.slice (some ⟨g, 0 + pre.length, none⟩) ((M i).length - pre.length) (cp - pre.length)) wx := fun wx => slice_mid Try.underlying31 sizeOf_strs g 0 (M i).length cp pre.length (M i).length (by omega) (Nat.le_refl _) hcap wx
      have hsub : (M i).length - pre.length = (Lv i).length := by omega
      rw [hsub] at hsl
      have HPART : Hid (Part wr (.slice (some ⟨g, 0, none⟩) (M i).length cp) (strs (M i)) g pre.length (strs (Lv i))) := Part.start HO.out rfl (fun q u hq => by
        rw [HMI.out]
        unfold strs at hq ⊢
        rw [List.map_append, List.getElem?_append_right (by rw [List.length_map]; omega), List.length_map, Nat.add_sub_cancel_left]
        exact hq)
      clear hsub hcc
      have HX0 : Hid (M i ++ kin k ((Lv i).take 0) = M i) := by show _ = _; simp [kin]
      have HXS : Hid (∀ q (h : q < (Lv i).length), M i ++ kin k ((Lv i).take (q + 1)) = (M i ++ kin k ((Lv i).take q)) ++ kids ((Lv i)[q]'h) k) := fun q h => by rw [List.take_succ_eq_append_getElem h, kin_snoc, List.append_assoc]
      have HXE : Hid (M i ++ kin k ((Lv i).take (Lv i).length) = M (i + 1)) := by show _ = _; rw [List.take_length, HMT.out, HNX.out]
      have HXL : Hid (∀ q, (M i ++ kin k ((Lv i).take q)).length ≤ 500) := fun q => by
        have e1 := HNX.out i
        rw [e1, kin_len] at hlv2
        have : ((Lv i).take q).length * k ≤ (Lv i).length * k := Nat.mul_le_mul_right _ (by rw [List.length_take]; omega)
        rw [List.length_append, kin_len]
        omega
      have HLI : Hid (M (i + 1) = M i ++ Lv (i + 1)) := HMT.out i
      have HZI : Hid (∀ x ∈ Lv i, x.size ≤ 4) := fun x hx => by rw [HLZ.out i x hx]; omega
      generalize hXX : (fun q => M i ++ kin k ((Lv i).take q)) = X
      have HXX : Hid (∀ q, M i ++ kin k ((Lv i).take q) = X q) := fun q => by rw [← hXX]
      clear hXX
      simp only [HXX.out] at HX0 HXS HXE HXL
      clear HXX hlv2
      obtain ⟨wo, rfl⟩ : ∃ x : World, x = wr := ⟨_, rfl⟩
      generalize hLL : Lv i = LL at *
      clear hLL
      go_wp2_with fail
      go_loopw [5, 25] (fun o qv w' => ∃ q g2 cp2 : Nat, q ≤ LL.length ∧ qv = .int .i64 (q : Int) ∧ o = .slice (some ⟨g2, 0, none⟩) (X q).length cp2 ∧ w'.ownsRow w.heap.size 9 1 (.slice (some ⟨g2, 0, none⟩) (X q).length cp2) (X q).length (strs (X q)) ∧ Part w' (.slice (some ⟨g2, 0, none⟩) (X q).length cp2) (strs (X q)) g pre.length (strs LL) ∧ Below w.heap.size w w') (fun _ qv _ => LL.length - (intOf qv).toNat)
      case atStart => exact ⟨0, g, cp, Nat.zero_le _, rfl, by rw [HX0.out], by rw [HX0.out]; exact HO.out, by rw [HX0.out]; exact HPART.out, HB.out⟩
      case round =>
        obtain ⟨q, g2, cp2, hq, rfl, rfl, ho, hp, hb⟩ := hrel
        have HO2 := Lib.hid ho
        have HP2 := Lib.hid hp
        have HB2 := Lib.hid hb
        clear ho hp hb
        by_cases hql : q < LL.length
        · have hcell := HP2.out.2.1 q (.string (LL[q]'hql)) (by unfold strs; rw [List.getElem?_map, List.getElem?_eq_getElem hql]; rfl)
          have HXN := Lib.hid (HXS.out q hql)
          have hxl := HXL.out q
          obtain ⟨x, hx⟩ : ∃ x, LL[q]'hql = x := ⟨_, rfl⟩
          have hxz : x.size ≤ 4 := by rw [← hx]; exact HZI.out _ (List.getElem_mem hql)
          rw [hx] at hcell HXN
          clear hx
          go_wp2_with fail
          go_loopw [5, 11] (fun o jv w' => ∃ j g3 cp3 : Nat, j ≤ k ∧ jv = .int .i64 (j : Int) ∧ o = .slice (some ⟨g3, 0, none⟩) (X q ++ kids x j).length cp3 ∧ w'.ownsRow w.heap.size 9 1 (.slice (some ⟨g3, 0, none⟩) (X q ++ kids x j).length cp3) (X q ++ kids x j).length (strs (X q ++ kids x j)) ∧ Part w' (.slice (some ⟨g3, 0, none⟩) (X q ++ kids x j).length cp3) (strs (X q ++ kids x j)) g pre.length (strs LL) ∧ Below w.heap.size w w') (fun _ jv _ => k - (intOf jv).toNat)
          case atStart => exact ⟨0, g2, cp2, Nat.zero_le _, rfl, by simp [kids], by simpa [kids] using HO2.out, by simpa [kids] using HP2.out, HB2.out⟩
          case round =>
            obtain ⟨j, g3, cp3, hj, rfl, rfl, ho, hp, hb⟩ := hrel
            have HO3 := Lib.hid ho
            have HP3 := Lib.hid hp
            have HB3 := Lib.hid hb
            clear ho hp hb
            by_cases hjl : j < k
            · have hab := abcd_at j (by omega)
              have HKS := Lib.hid (kids_succ x j)
              have hyl : (X q ++ kids x j).length ≤ 510 := by rw [List.length_append, kids_len]; omega
              have HYY : Hid (X q ++ kids x (j + 1) = (X q ++ kids x j) ++ [x ++ ⟨#[letterN j]⟩]) := by show _ = _; rw [HKS.out, List.append_assoc]
              have hbz := HB3.out.size
              generalize hY : X q ++ kids x j = Y at *
              clear hY
              go_wp2_with (at_builtin
                           refine wpList_append1k wr ?_ (.tmp 34) (.tmp 41) 31 ?_ w.heap.size 9 i0 _ 16 Try.underlying31 hi0 hz0 hz1 hz2 rfl g3 Y.length cp3 (strs Y) ?_ HO3.out (.string (x ++ ⟨#[letterN j]⟩)) rfl ?_ (by unfold maxLen; omega) (by omega) hbz ?_
                           rfl
                           rfl
                           rfl
                           rfl
                           intro g5 cp5 w5 ho5 hg5 hd5)
              have hp5 := Part.next (v' := .slice (some ⟨g5, 0, none⟩) (Y.length + 1) cp5) HP3.out ho5 hg5 (hd5.imp (fun e => by rw [e]; rfl) (fun e => ⟨e.1, fun k hk => by have h5 : g5 = k := Option.some.inj hk; have := e.2; omega⟩))
              have hl5 : (X q ++ kids x (j + 1)).length = Y.length + 1 := by rw [HYY.out, List.length_append]; rfl
              have hs5 : strs (X q ++ kids x (j + 1)) = strs Y ++ [.string (x ++ ⟨#[letterN j]⟩)] := by rw [HYY.out, strs_snoc]
              go_roundw
              case rel => exact ⟨j + 1, g5, cp5, by omega, by go_num, by rw [hl5], by rw [hl5, hs5]; exact ho5, by rw [hl5, hs5]; exact hp5, HB3.out.grown hg5 HB3.out.size (fun k hk => by injection hk with hk; subst hk; exact (HO3.out.lt _ rfl).1)⟩
              case measure => simp [intOf]; omega
            · have hjk : j = k := by omega
              have HY2 : Hid (X (q + 1) = X q ++ kids x j) := by show _ = _; rw [HXN.out, hjk]
              clear hjk
              go_wp2_with fail
              go_roundw
              case rel => exact ⟨q + 1, g3, cp3, by omega, by go_num, by rw [HY2.out], by rw [HY2.out]; exact HO3.out, by rw [HY2.out]; exact HP3.out, HB3.out⟩
              case measure => simp [intOf]; omega
        · have hqe : q = LL.length := by omega
          have HE : Hid (X q = M (i + 1)) := by show _ = _; rw [hqe]; exact HXE.out
          clear hqe
          go_wp2_with fail
          go_roundw
          case rel => exact ⟨i + 1, g2, cp2, M i, by omega, by go_num, by rw [HE.out], rfl, HLI.out, by rw [← HE.out]; exact HO2.out, HB2.out⟩
          case measure => simp [intOf]; omega
    · have hin : i = n := by omega
      subst hin
      go_wp2_with fail
      go_ret
      exact ⟨g, cp, rfl, HO.out, HB.out⟩
theorem specMakeAll (k n : Nat) (w : World) (h1 : 1 ≤ k) (h3 : k ≤ 3) (h4 : n ≤ 4) :
    Calls Try.prog 28 #[.int .i64 (k : Int), .int .i64 (n : Int)] w fun e w' => ∃ g cp, e = .returned (.slice (some ⟨g, 0, none⟩) (mkTo k n).length cp) ∧ w'.ownsRow w.heap.size 9 1 (.slice (some ⟨g, 0, none⟩) (mkTo k n).length cp) (mkTo k n).length (strs (mkTo k n)) ∧ Below w.heap.size w w' := by
  have HC := Lib.hid (fun w => specWords k n w h1 h3 h4)
  generalize mkTo k n = M at HC ⊢
  go_enter Try.func28, Try.ntmps28
  go_wp2_with fail
  refine (HC.out _).mono ?_
  rintro e w1 ⟨g, cp, rfl, ho, hb⟩
  have HO := Lib.hid ho
  have HB := Lib.hid hb
  clear ho hb
  go_wp2_with fail
  go_ret
  exact ⟨g, cp, rfl, HO.out, HB.out⟩
end Go.Proofs.Ytgfhconcmoepcaa

/- The model's CountLetter, CountsOf, ShiftWord, BeforeWord and IsFactor. Condition: texts of at most 2^20 bytes. -/
namespace Go.Proofs.Ytgfhconcmoepcaa
open Go.RowKit

/-- what CountLetter is to return -/
def countR (s t : ByteArray) : Int := if h : wordB s = true ∧ t.size = 1 ∧ wordB t = true then (cnt s.data.toList (t[0]'(by omega)) : Int) else -1

/-- what CountsOf is to return -/
def countsR (s : ByteArray) : List Int := if wordB s = true then [(cnt s.data.toList 97 : Int), (cnt s.data.toList 98 : Int), (cnt s.data.toList 99 : Int), (cnt s.data.toList 100 : Int)] else []

theorem countsR_le (s : ByteArray) : (countsR s).length ≤ 4 := by
  unfold countsR; split <;> simp

/-- what BeforeWord is to return -/
def beforeR (s t : ByteArray) : Bool := wordB s && (wordB t && Op.bytesLess s.toList t.toList)
/-- what ShiftWord is to return -/
def shiftR (s : ByteArray) (k : Int) : ByteArray := if wordB s = true ∧ 0 ≤ k ∧ k ≤ s.size then s.extract k.toNat s.size ++ s.extract 0 k.toNat else ⟨#[]⟩
end Go.Proofs.Ytgfhconcmoepcaa
