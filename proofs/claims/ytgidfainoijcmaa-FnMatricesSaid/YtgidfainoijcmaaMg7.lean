/- Texts put together. -/
import Derived.Test.YtgidfainoijcmaaChecked
import Derived.Test.YtgidfainoijcmaaMg1
import Derived.Laws.IdiomStrings
import Derived.Test.YtgidfainoijcmaaMg4
import Derived.Deep.RegionLaw
/- A row of bytes of the call's own: its conversion to a text. -/
namespace Go.Proofs.Ytgidfainoijcmaa
open Go.RowKit

def byteCells (l : List UInt8) : List Value := l.map fun b => .int .u8 (b.toNat : Int)
theorem byteCells_length (l : List UInt8) : (byteCells l).length = l.length := by simp [byteCells]
theorem byteCells_snoc (l : List UInt8) (b : UInt8) : byteCells (l ++ [b]) = byteCells l ++ [.int .u8 (b.toNat : Int)] := by simp [byteCells]
theorem byteCells_one (l : List UInt8) : ∀ u ∈ byteCells l, u.oneCell' = true := by
  intro u hu
  simp only [byteCells, List.mem_map] at hu
  obtain ⟨b, _, rfl⟩ := hu
  rfl
theorem u8_info : (Try.prog.info? 5).map (fun i => (i.zero, i.size, i.bytes)) = some (some (.int .u8 0), 1, 1) := by kernel_rfl
theorem conv_own_to {ts : TypeId} (hts : Try.prog.underlying ts = some .string) {w : World} {B n : Nat} {v : Value} {l : List UInt8} (h : w.ownsRow B 5 1 v n (byteCells l)) :
    (convert 22 ts v).run Try.prog w = .ok (.string ⟨l.toArray⟩) w := by
  have hl := h.1
  rw [Nat.mul_one, byteCells_length] at hl
  subst hl
  rcases h.2 with ⟨rfl, hn⟩ | ⟨g, cap, cur, rfl, _, _, _, _, _, _⟩
  · have e := List.eq_nil_of_length_eq_zero hn
    subst e
    rw [run_convert_bytes_string w _ _ _ none 0 0 Try.underlying22 Try.underlying5 hts]
    simp [Conv.bytesToString]
    rfl
  · refine run_convert_bytes_back w _ _ _ _ _ l Try.underlying22 Try.underlying5 hts (fun j hj => ?_)
    exact h.cells (g := g) rfl j _ (by simp [byteCells, hj])
theorem conv_own {w : World} {B n : Nat} {v : Value} {l : List UInt8} (h : w.ownsRow B 5 1 v n (byteCells l)) :
    (convert 22 9 v).run Try.prog w = .ok (.string ⟨l.toArray⟩) w := conv_own_to Try.underlying9 h
/-- one more byte of L laid over the old cells zs -/
theorem byteCells_set (L : List UInt8) (zs : List Value) (k : Nat) (hk : k < L.length) (hz : zs.length = L.length) :
    (byteCells (L.take k) ++ zs.drop k).set k (.int .u8 (L[k].toNat : Int)) = byteCells (L.take (k + 1)) ++ zs.drop (k + 1) := by
  have hd : zs.drop k = zs[k]'(by omega) :: zs.drop (k + 1) := List.drop_eq_getElem_cons _
  have hlk : (byteCells (L.take k)).length = k := by rw [byteCells_length, List.length_take]; omega
  rw [List.take_succ_eq_append_getElem hk, hd, List.set_append_right _ _ (by omega), hlk, Nat.sub_self, List.set_cons_zero, byteCells_snoc, List.append_assoc]
  rfl
theorem byteCells_get (L : List UInt8) (zs : List Value) (k : Nat) (hk : k < L.length) (hz : zs.length = L.length) : ∃ u, (byteCells (L.take k) ++ zs.drop k)[k]? = some u :=
  ⟨(byteCells (L.take k) ++ zs.drop k)[k]'(by rw [List.length_append, byteCells_length, List.length_take, List.length_drop]; omega), List.getElem?_eq_getElem _⟩
theorem byteCells_end (L : List UInt8) (zs : List Value) (hz : zs.length = L.length) : byteCells (L.take L.length) ++ zs.drop L.length = byteCells L := by
  rw [List.take_length, List.drop_of_length_le (by omega), List.append_nil]

set_option maxRecDepth 100000 in
/-- a text turned into a new row of bytes -/
theorem conv_text (w : World) (s : ByteArray) {ts : TypeId} (hts : Try.prog.underlying ts = some .string) :
    ∃ c wc, (convert ts 22 (.string s)).run Try.prog w = .ok (.slice (some ⟨w.heap.size, 0, none⟩) s.size c) wc ∧ Below w.heap.size w wc ∧ w.heap.size < wc.heap.size ∧ ∀ (j : Nat) (u : Value), (byteCells s.data.toList)[j]? = some u → wc.cell? ⟨w.heap.size, j, none⟩ = some u := by
  refine ⟨_, _, run_bytes_of_string w _ _ 5 s hts Try.underlying22 Try.underlying5, ((Below.refl _ _).drew).alloc (Nat.le_refl _) _, by simp, fun j u hu => ?_⟩
  have hj : j < s.data.size := by
    have := (List.getElem?_eq_some_iff.1 hu).1
    rw [byteCells_length] at this
    simpa using this
  have e : u = .int .u8 (s.data[j].toNat : Int) := by
    simp only [byteCells, List.getElem?_map, Option.map_eq_some_iff] at hu
    obtain ⟨a, ha, rfl⟩ := hu
    rw [Array.getElem?_toList, Array.getElem?_eq_getElem hj] at ha
    injection ha with ha
    rw [ha]
  rw [e, ← bytesRow_at s (grownCap w s.size 0 5) j hj]
  exact cell_of_row _ w.heap.size j (bytesRow s (grownCap w s.size 0 5)) 5 ((bytesRow s (grownCap w s.size 0 5)).size, (bytesRow s (grownCap w s.size 0 5)).size + 1) (by simp [World.alloc, World.drew, -World.alloc_eq, -World.drew_eq])
end Go.Proofs.Ytgidfainoijcmaa

/- Slices of slices of ints that the call has made: toIntSS copies, szIntSS bounds. -/
namespace Go.Proofs.Ytgidfainoijcmaa
open Go.RowKit

/-- v is a slice of the call's own, in blocks from B to S, whose elements are rows of the call's own, each by itself -/
def OwnMat (w : World) (B S : Nat) (v : Value) (m : List (List Int)) : Prop :=
  ∃ (t0 : TypeId) (vs : List Value), vs.length = m.length ∧ w.ownsRow B t0 1 v m.length vs ∧
    (∀ i (h : i < vs.length) (h' : i < m.length), ∃ te, w.ownsRow B te 1 vs[i] m[i].length (ints m[i])) ∧
    (∀ i j (hi : i < vs.length) (hj : j < vs.length) k, vs[i].ownBlock = some k → vs[j].ownBlock = some k → i = j) ∧
    (∀ i (hi : i < vs.length) k, vs[i].ownBlock = some k → v.ownBlock ≠ some k ∧ k < S) ∧ (∀ k, v.ownBlock = some k → k < S)
theorem OwnMat.mat {w : World} {B S : Nat} {v : Value} {m : List (List Int)} (h : OwnMat w B S v m) : Mat w v m := by
  obtain ⟨t0, vs, h1, h2, h3, _⟩ := h
  exact ⟨vs, Lst.of_own h2, h1, fun i a b => by obtain ⟨te, h⟩ := h3 i a b; exact Lst.of_own h⟩
theorem OwnMat.below {w w' : World} {B S : Nat} {v : Value} {m : List (List Int)} (h : OwnMat w B S v m) (hb : Below w.heap.size w w') : OwnMat w' B S v m := by
  obtain ⟨t0, vs, h1, h2, h3, h4⟩ := h
  exact ⟨t0, vs, h1, own_below h2 hb, fun i a b => by obtain ⟨te, h⟩ := h3 i a b; exact ⟨te, own_below h hb⟩, h4⟩
theorem OwnMat.drewN {w : World} {B S : Nat} {v : Value} {m : List (List Int)} (h : OwnMat w B S v m) (n : Nat) : OwnMat (w.drewN n) B S v m := h
theorem OwnMat.mono {w : World} {B B' S : Nat} {v : Value} {m : List (List Int)} (h : OwnMat w B S v m) (hb : B' ≤ B) : OwnMat w B' S v m := by
  obtain ⟨t0, vs, h1, h2, h3, h4⟩ := h
  exact ⟨t0, vs, h1, own_mono h2 hb, fun i a b => by obtain ⟨te, h⟩ := h3 i a b; exact ⟨te, own_mono h hb⟩, h4⟩
theorem ints_info : (Try.prog.info? 30).map (fun i => (i.zero, i.size, i.bytes)) = some (some (.slice none 0 0), 1, 24) := by kernel_rfl

/-- the rows that have been laid -/
def RowsTo (w : World) (B : Nat) (us : List Value) (m : List (List Int)) : Prop :=
  us.length ≤ m.length ∧ (∀ i (h : i < us.length) (h' : i < m.length), w.ownsRow B 3 1 us[i] m[i].length (ints m[i])) ∧
    (∀ i j (hi : i < us.length) (hj : j < us.length) k, us[i].ownBlock = some k → us[j].ownBlock = some k → i = j)
theorem RowsTo.snoc {w w' : World} {B : Nat} {us : List Value} {m : List (List Int)} {u : Value} (h : RowsTo w B us m) (hb : Below w.heap.size w w') (hB : B ≤ w.heap.size) (hk : us.length < m.length) (hu : w'.ownsRow w.heap.size 3 1 u m[us.length].length (ints m[us.length])) : RowsTo w' B (us ++ [u]) m := by
  obtain ⟨h1, h2, h3⟩ := h
  have hlt : ∀ i (hi : i < us.length) k, us[i].ownBlock = some k → k < w.heap.size := fun i hi k hk => ((h2 i hi (by omega)).lt k hk).2
  refine ⟨by simp; omega, fun i hi hi' => ?_, fun i j hi hj k e1 e2 => ?_⟩
  · by_cases e : i < us.length
    · rw [List.getElem_append_left e]
      exact own_below (h2 i e hi') hb
    · have e' : i = us.length := by simp at hi; omega
      subst e'
      rw [List.getElem_append_right (Nat.le_refl _)]
      simpa using own_mono hu hB
  · by_cases a : i < us.length <;> by_cases b : j < us.length
    · rw [List.getElem_append_left a] at e1
      rw [List.getElem_append_left b] at e2
      exact h3 i j a b k e1 e2
    · rw [List.getElem_append_left a] at e1
      rw [List.getElem_append_right (by omega)] at e2
      have := hlt i a k e1
      simp at e2
      have := (hu.lt k e2).1
      omega
    · rw [List.getElem_append_right (by omega)] at e1
      rw [List.getElem_append_left b] at e2
      have := hlt j b k e2
      simp at e1
      have := (hu.lt k e1).1
      omega
    · simp at hi hj
      omega
theorem RowsTo.below {w w' : World} {B : Nat} {us : List Value} {m : List (List Int)} (h : RowsTo w B us m) (hb : Below w.heap.size w w') : RowsTo w' B us m :=
  ⟨h.1, fun i a b => own_below (h.2.1 i a b) hb, h.2.2⟩
theorem RowsTo.setCell {w : World} {B : Nat} {us : List Value} {m : List (List Int)} (h : RowsTo w B us m) {a : Addr} (ha : a.block < B) (u : Value) : RowsTo (w.setCell a u) B us m :=
  ⟨h.1, fun i x y => own_setCell (h.2.1 i x y) ha u, h.2.2⟩

set_option maxHeartbeats 1000000 in
theorem toIntSS_any (m : List (List Int)) (v : Value) (w : World) (h1 : Mat w v m) (hn : m.length ≤ 1048576) (hr : ∀ r ∈ m, r.length ≤ 1048576) :
    Calls Try.prog 45 #[v] w fun e w' => ∃ v', e = .returned v' ∧ OwnMat w' w.heap.size w'.heap.size v' m ∧ Below w.heap.size w w' := by
  obtain ⟨i0, hi0, hz0, hz1, hz2⟩ := info_parts ints_info
  obtain ⟨A, cp, rfl⟩ := mat_slice h1
  have HM := Lib.hid h1
  have HR := Lib.hid hr
  clear h1 hr
  go_enter Try.func45, Try.ntmps45
  go_wp2_with (at_make; refine wpList_make_full _ rfl _ _ 27 rfl w.heap.size 30 i0 (.slice none 0 0) 1 Try.underlying27 hi0 hz0 hz1 .i64 .i64 _ _ m.length rfl rfl rfl rfl (by rw [hz2]; omega) (by unfold maxLen; omega) (Nat.le_refl _) ?_; intro w1 hown hgrow)
  have hb1 : Below w.heap.size w w1 := (Below.refl _ _).grown hgrow (Nat.le_refl _) (fun k hk => by cases hk)
  have HD : Hid (((madeCells (Value.slice none 0 0).cells (m.length * 1)).toList).length = m.length) := by
    have := hown.1
    unfold Hid
    omega
  generalize (madeCells (Value.slice none 0 0).cells (m.length * 1)).toList = zs at hown HD
  have hz1' : w.heap.size + 1 ≤ w1.heap.size := by have := (hown.lt w.heap.size rfl).2; omega
  go_loopw [4] (fun i w' => ∃ (us : List Value), us.length ≤ m.length ∧ i = .int .i64 us.length ∧ w'.ownsRow w.heap.size 30 1 (.slice (some ⟨w.heap.size, 0, none⟩) m.length m.length) m.length (us ++ zs.drop us.length) ∧ RowsTo w' (w.heap.size + 1) us m ∧ Below w.heap.size w w' ∧ w.heap.size + 1 ≤ w'.heap.size) (fun i _ => m.length - (intOf i).toNat)
  case atStart => exact ⟨[], by simp, rfl, by simpa using hown, ⟨by simp, fun i h => absurd h (by simp), fun i j h => absurd h (by simp)⟩, hb1, hz1'⟩
  case round =>
    obtain ⟨us, hk, rfl, ho, hrw, hbk, hzk⟩ := hrel
    by_cases hlt : us.length < m.length
    · obtain ⟨b, off, cap, he, _, _, hrows⟩ := mat_rows (HM.out.below hbk) (by omega)
      injection he with hA _ hc
      subst hA; subst hc
      obtain ⟨u, g1, lu⟩ := hrows us.length hlt
      have hrl := HR.out _ (List.getElem_mem hlt)
      have HO := Lib.hid ho
      have HW := Lib.hid hrw
      have HB := Lib.hid hbk
      have HL := Lib.hid lu
      have hcell : ∃ u0, (us ++ zs.drop us.length)[us.length]? = some u0 := ⟨(us ++ zs.drop us.length)[us.length]'(by rw [List.length_append, List.length_drop, HD.out]; omega), List.getElem?_eq_getElem _⟩
      obtain ⟨u0, hu0⟩ := hcell
      have HC0 : Hid (wr.cell? ⟨w.heap.size, us.length, none⟩ = some u0) := (ho.cellAt us.length (by omega)).trans hu0
      have HF0 : Hid (wr.frozen? ⟨w.heap.size, us.length, none⟩ = false) := ho.frozenAt us.length
      clear ho hrw hbk lu hrows hu0
      go_wp2_with fail
      refine (toIntS_any m[us.length] u _ HL.out hrl).mono ?_
      rintro e w2 ⟨v2, rfl, ho2, hb2⟩
      obtain ⟨A2, cp2, rfl⟩ := own_slice ho2
      have c2 : w2.cell? ⟨w.heap.size, us.length, none⟩ = some u0 := (hb2.cell (p := ⟨w.heap.size, us.length, none⟩) (by simp; omega)).trans HC0.out
      have f2 : w2.frozen? ⟨w.heap.size, us.length, none⟩ = false := (hb2.frozen (p := ⟨w.heap.size, us.length, none⟩) (by simp; omega)).trans HF0.out
      have HO2 := Lib.hid ho2
      have HB2 := Lib.hid hb2
      have hz2' := hb2.size
      clear ho2 hb2
      go_wp2_with fail
      go_roundw
      case rel =>
        have hset : (us ++ zs.drop us.length).set us.length (.slice A2 m[us.length].length cp2) = (us ++ [.slice A2 m[us.length].length cp2]) ++ zs.drop (us.length + 1) := by
          have hd : zs.drop us.length = zs[us.length]'(by rw [HD.out]; exact hlt) :: zs.drop (us.length + 1) := List.drop_eq_getElem_cons _
          rw [hd, List.set_append_right _ _ (Nat.le_refl _), Nat.sub_self, List.set_cons_zero, List.append_assoc]
          rfl
        refine ⟨us ++ [.slice A2 m[us.length].length cp2], by simp; omega, by simp, ?_, ?_, ?_, ?_⟩
        · have := ((own_below HO.out HB2.out).stored us.length (.slice A2 m[us.length].length cp2)).1
          rw [hset] at this
          simpa using this
        · exact (HW.out.snoc HB2.out hzk hlt HO2.out).setCell (by simp) _
        · exact (HB.out.trans (HB2.out.mono (by omega))).setCell (by simp) _
        · simp; omega
      case measure => simp [intOf]; omega
    · have hkl : us.length = m.length := by omega
      have HO := Lib.hid ho
      have HW := Lib.hid hrw
      have HB := Lib.hid hbk
      have HKL := Lib.hid hkl
      clear ho hrw hbk hkl
      go_wp2_with fail
      go_ret
      refine ⟨_, rfl, ⟨30, us, HKL.out, ?_, fun i a b => ⟨3, own_mono (HW.out.2.1 i a b) (by omega)⟩, HW.out.2.2, fun i a k e => ⟨fun h => ?_, ((HW.out.2.1 i a (by omega)).lt k e).2⟩, fun k e => (HO.out.lt k e).2⟩, HB.out⟩
      · have := HO.out
        rwa [HKL.out, List.drop_of_length_le (by rw [HD.out]; exact Nat.le_refl _), List.append_nil] at this
      · have h1 := ((HW.out.2.1 i a (by omega)).lt k e).1
        have h2 : w.heap.size = k := by simpa [Value.ownBlock] using h
        omega
end Go.Proofs.Ytgidfainoijcmaa

/- markIntSS and heldIntSS: numbers laid into the rows of a matrix of the call's own, and found there again. -/
namespace Go.Proofs.Ytgidfainoijcmaa
open Go.RowKit

/-- consecutive numbers from k on, in rows of these lengths -/
def marksM (k : Int) : List Nat → List (List Int)
  | [] => []
  | n :: ns => upto k n :: marksM (k + n) ns
def sumN (ns : List Nat) : Nat := ns.sum
theorem marksM_length (ns : List Nat) : ∀ k, (marksM k ns).length = ns.length := by
  induction ns with
  | nil => intro k; rfl
  | cons n ns ih => intro k; simp [marksM, ih]
theorem marksM_at (ns : List Nat) : ∀ (k : Int) (i : Nat) (h : i < ns.length), (marksM k ns)[i]'(by rw [marksM_length]; exact h) = upto (k + sumN (ns.take i)) ns[i] := by
  induction ns with
  | nil => intro k i h; simp at h
  | cons n ns ih =>
    intro k i h
    cases i with
    | zero => simp [marksM, sumN]
    | succ i =>
      have := ih (k + n) i (by simpa using h)
      simp only [marksM, List.getElem_cons_succ, List.take_succ_cons, sumN, List.sum_cons] at this ⊢
      rw [this]
      congr 1
      omega
theorem sumN_take (ns : List Nat) (i : Nat) (h : i < ns.length) : sumN (ns.take (i + 1)) = sumN (ns.take i) + ns[i] := by
  unfold sumN
  rw [List.take_succ_eq_append_getElem h, List.sum_append]
  simp
theorem sumN_take_le (ns : List Nat) (i : Nat) : sumN (ns.take i) ≤ sumN ns := by
  unfold sumN
  conv => rhs; rw [← List.take_append_drop i ns, List.sum_append]
  omega

set_option maxHeartbeats 400000 in
theorem heldIntSS_marks (v : Value) (k : Int) (ns : List Nat) (w : World) (hk : 0 ≤ k) (hkn : k + sumN ns ≤ 1099511627776) (hn : ns.length ≤ 1048576) (h1 : Mat w v (marksM k ns)) :
    Calls Try.prog 32 #[v, .int .i64 k] w fun e w' => e = .returned (.int .i64 (k + sumN ns)) ∧ ∃ n, w' = w.drewN n := by
  by_cases hl : ns = []
  · subst hl
    obtain ⟨A, cap, rfl⟩ := mat_slice h1
    go_enter Try.func32, Try.ntmps32
    go_wp2
    refine wp_loop_rounds 1 ?_
    rw [rounds_succ]
    go_wp2
    go_ret
    exact ⟨ret_int (by simp [sumN]), 0, rfl⟩
  have hpos : 0 < ns.length := List.length_pos_iff.2 hl
  obtain ⟨b, off, cp, rfl, q1, q2, r1⟩ := mat_rows h1 (by rw [marksM_length]; exact hpos)
  have H1 : Hid (∀ i (hi : i < ns.length), ∃ u, w.cell? ⟨b, off + i, none⟩ = some u ∧ Lst w u (ints (upto (k + sumN (ns.take i)) ns[i]))) := fun i hi => by
    obtain ⟨u, g, l⟩ := r1 i (by rw [marksM_length]; exact hi)
    rw [marksM_at ns k i hi] at l
    exact ⟨u, g, l⟩
  rw [marksM_length] at q1 ⊢
  clear r1 h1 hl q1 q2
  go_enter Try.func32, Try.ntmps32
  go_wp2
  go_loopw [1, 5] (fun q i w' => ∃ (j n : Nat), j ≤ ns.length ∧ i = .int .i64 j ∧ q = .int .i64 (k + sumN (ns.take j)) ∧ w' = w.drewN n) (fun _ i _ => ns.length - (intOf i).toNat)
  case atStart => exact ⟨0, 0, by omega, rfl, by simp [sumN], rfl⟩
  case round =>
    obtain ⟨j, n, hj, rfl, rfl, rfl⟩ := hrel
    by_cases hlt : j < ns.length
    · obtain ⟨u, g1, lu⟩ := H1.out j hlt
      have HL := Lib.hid lu
      have hs1 := sumN_take ns j hlt
      have hs2 := sumN_take_le ns (j + 1)
      have hge : ¬ (k + (sumN (ns.take j) : Int) + (ns[j] : Int) < 0) := by omega
      have hb1 : 0 ≤ k + (sumN (ns.take j) : Int) := by omega
      have hb2 : k + (sumN (ns.take j) : Int) + ns[j] ≤ 9223372036854775807 := by omega
      have HS := Lib.hid hs1
      clear lu hs1
      go_wp2_with fail
      refine (heldIntS_marks u (k + sumN (ns.take j)) ns[j] _ hb1 hb2 (HL.out.drewN n)).mono ?_
      rintro e w3 ⟨rfl, n3, rfl⟩
      go_wp2_with fail
      go_roundw
      case rel => exact ⟨j + 1, _, by omega, by go_num, by rw [HS.out]; congr 1; omega, rfl⟩
      case measure => simp [intOf]; omega
    · have hjn : j = ns.length := by omega
      subst hjn
      rw [List.take_length]
      go_wp2_with fail
      go_ret
      exact ⟨rfl, n, rfl⟩

/-- w' is w with new blocks, and writes to blocks from lo to hi alone -/
def KeepsOut (lo hi : Nat) (w w' : World) : Prop :=
  w'.os = w.os ∧ w'.tape = w.tape ∧ w'.output = w.output ∧ w.heap.size ≤ w'.heap.size ∧ ∀ i, i < w.heap.size → (i < lo ∨ hi ≤ i) → w'.heap[i]? = w.heap[i]?
theorem KeepsOut.refl (lo hi : Nat) (w : World) : KeepsOut lo hi w w := ⟨rfl, rfl, rfl, Nat.le_refl _, fun _ _ _ => rfl⟩
theorem KeepsOut.trans {lo hi : Nat} {a b c : World} (h : KeepsOut lo hi a b) (k : KeepsOut lo hi b c) : KeepsOut lo hi a c :=
  ⟨k.1.trans h.1, k.2.1.trans h.2.1, k.2.2.1.trans h.2.2.1, Nat.le_trans h.2.2.2.1 k.2.2.2.1, fun i hi ho => (k.2.2.2.2 i (Nat.lt_of_lt_of_le hi h.2.2.2.1) ho).trans (h.2.2.2.2 i hi ho)⟩
theorem KeepsOut.of_grown {lo hi : Nat} {w w' : World} {row : Option Nat} (h : w.grownBy w' row) (hr : ∀ k, row = some k → lo ≤ k ∧ k < hi) : KeepsOut lo hi w w' :=
  ⟨h.os, h.tape, h.output, h.size, fun i hi ho => h.block i hi (fun e => by have := hr i e.symm; omega)⟩
theorem KeepsOut.below {lo hi B : Nat} {a w w' : World} (h : Below B a w) (k : KeepsOut lo hi w w') (hB : B ≤ w.heap.size) (hl : B ≤ lo) : Below B a w' :=
  ⟨k.1.trans h.os, k.2.1.trans h.tape, k.2.2.1.trans h.output, Nat.le_trans h.size k.2.2.2.1, fun i hi => (k.2.2.2.2 i (by omega) (.inl (by omega))).trans (h.block i hi)⟩
theorem KeepsOut.own {lo hi B n size : Nat} {w w' : World} {e : TypeId} {v : Value} {xs : List Value} (h : w.ownsRow B e size v n xs) (k : KeepsOut lo hi w w') (hne : ∀ j, v.ownBlock = some j → j < lo ∨ hi ≤ j) : w'.ownsRow B e size v n xs := by
  refine ⟨h.1, h.2.imp id ?_⟩
  rintro ⟨g, cap, cur, rfl, h2, h3, h4⟩
  refine ⟨g, cap, cur, rfl, h2, ?_, h4⟩
  rw [k.2.2.2.2 g (Array.getElem?_eq_some_iff.1 h3).1 (hne g rfl)]
  exact h3

set_option maxHeartbeats 1000000 in
theorem markIntSS_own (B S : Nat) (v : Value) (k : Int) (m : List (List Int)) (w : World) (hk : 0 ≤ k) (hkn : k + sumN (m.map List.length) ≤ 1099511627776) (hn : m.length ≤ 1048576) (h1 : OwnMat w B S v m) :
    Calls Try.prog 31 #[v, .int .i64 k] w fun e w' => e = .returned (.int .i64 (k + sumN (m.map List.length))) ∧ OwnMat w' B S v (marksM k (m.map List.length)) ∧ KeepsOut B S w w' := by
  obtain ⟨t0, vs, hvl, ho, hrows, hdis, hap, hvS⟩ := h1
  have hml : (m.map List.length).length = m.length := by simp
  have hat : ∀ i (h : i < m.length) (h' : i < (m.map List.length).length), (m.map List.length)[i] = m[i].length := fun i h h' => by simp
  generalize hns : m.map List.length = ns at hkn hml hat ⊢
  clear hns
  by_cases hl : m.length = 0
  · have hns0 : ns = [] := List.eq_nil_of_length_eq_zero (by omega)
    have hm0 : m = [] := List.eq_nil_of_length_eq_zero hl
    subst hns0; subst hm0
    obtain ⟨A, cp, rfl⟩ := own_slice ho
    have HALL : Hid (OwnMat w B S (.slice A 0 cp) []) := ⟨t0, vs, hvl, ho, hrows, hdis, hap, hvS⟩
    clear ho hrows hdis hap hvS hat
    go_enter Try.func31, Try.ntmps31
    go_wp2
    refine wp_loop_rounds 1 ?_
    rw [rounds_succ]
    go_wp2
    go_ret
    exact ⟨ret_int (by simp [sumN]), HALL.out, KeepsOut.refl _ _ _⟩
  obtain ⟨g, cp, rfl, _⟩ := own_some ho (by omega)
  have hgB := (ho.lt g rfl).1
  have hgS := hvS g rfl
  have HO := Lib.hid ho
  have HROWS := Lib.hid hrows
  have HDIS := Lib.hid hdis
  have HAP := Lib.hid hap
  have HVL := Lib.hid hvl
  have HML := Lib.hid hml
  have HAT := Lib.hid hat
  clear ho hrows hdis hap hvS hvl hml hat
  go_enter Try.func31, Try.ntmps31
  go_wp2
  go_loopw [1, 5] (fun q i w' => ∃ (j : Nat), j ≤ m.length ∧ i = .int .i64 j ∧ q = .int .i64 (k + sumN (ns.take j)) ∧ w'.ownsRow B t0 1 (.slice (some ⟨g, 0, none⟩) m.length cp) m.length vs ∧
    (∀ i (h : i < vs.length) (h' : i < m.length) (h2 : i < ns.length), ∃ te, w'.ownsRow B te 1 vs[i] m[i].length (if i < j then ints (upto (k + sumN (ns.take i)) ns[i]) else ints m[i])) ∧ KeepsOut B S w w') (fun _ i _ => m.length - (intOf i).toNat)
  case atStart => exact ⟨0, by omega, rfl, by simp [sumN], HO.out, fun i h h' h2 => by simpa using HROWS.out i h h', KeepsOut.refl _ _ _⟩
  case round =>
    obtain ⟨j, hj, rfl, rfl, hoj, hrj, hkj⟩ := hrel
    by_cases hlt : j < m.length
    · have hjv : j < vs.length := by have := HVL.out; omega
      have hjn : j < ns.length := by have := HML.out; omega
      obtain ⟨te, hrow⟩ := hrj j hjv hlt hjn
      rw [if_neg (Nat.lt_irrefl j)] at hrow
      have g1 : wr.cell? ⟨g, j, none⟩ = some vs[j] := (hoj.cellAt j (by omega)).trans (List.getElem?_eq_getElem hjv)
      have hs1 := sumN_take ns j hjn
      have hs2 := sumN_take_le ns (j + 1)
      have hle := HAT.out j hlt hjn
      have hb1 : 0 ≤ k + (sumN (ns.take j) : Int) := by omega
      have hb2 : k + (sumN (ns.take j) : Int) + (m[j].length : Int) ≤ 9223372036854775807 := by omega
      have HS := Lib.hid hs1
      have HLE := Lib.hid hle
      have HRW := Lib.hid hrow
      have HOJ := Lib.hid hoj
      have HRJ := Lib.hid hrj
      have HKJ := Lib.hid hkj
      clear hs1 hle hrow hoj hrj hkj
      go_wp2_with fail
      refine (markIntS_own B vs[j] (k + sumN (ns.take j)) m[j].length _ _ hb1 hb2 HRW.out).mono ?_
      rintro e w3 ⟨rfl, ho3, hg3⟩
      have hnot : ∀ x, vs[j].ownBlock = some x → x ≠ g := fun x hx e => (HAP.out j hjv x hx).1 (by rw [e]; rfl)
      have hin : ∀ x, vs[j].ownBlock = some x → B ≤ x ∧ x < S := fun x hx => ⟨(HRW.out.lt x hx).1, (HAP.out j hjv x hx).2⟩
      have HO3 : Hid (w3.ownsRow B t0 1 (.slice (some ⟨g, 0, none⟩) m.length cp) m.length vs) := own_apart HOJ.out hg3 (fun x h1 h2 => hnot x h2 (by simpa [Value.ownBlock] using h1.symm))
      have HR3 : Hid (∀ i (h : i < vs.length) (h' : i < m.length) (h2 : i < ns.length), ∃ te, w3.ownsRow B te 1 vs[i] m[i].length (if i < j + 1 then ints (upto (k + sumN (ns.take i)) ns[i]) else ints m[i])) := fun i h h' h2 => by
        by_cases e : i = j
        · subst e
          rw [if_pos (Nat.lt_succ_self _), HLE.out]
          exact ⟨te, ho3⟩
        · obtain ⟨te', hr'⟩ := HRJ.out i h h' h2
          refine ⟨te', ?_⟩
          have hr'' := own_apart hr' hg3 (fun x h1 h3 => e (HDIS.out i j h hjv x h1 h3))
          by_cases e2 : i < j
          · rw [if_pos e2] at hr''
            rw [if_pos (by omega)]
            exact hr''
          · rw [if_neg e2] at hr''
            rw [if_neg (by omega)]
            exact hr''
      have HK3 : Hid (KeepsOut B S w w3) := HKJ.out.trans (KeepsOut.of_grown hg3 hin)
      clear ho3 hg3 hnot hin
      go_wp2_with fail
      go_roundw
      case rel => exact ⟨j + 1, by omega, by go_num, by rw [HS.out, HLE.out]; congr 1; omega, HO3.out, HR3.out, HK3.out⟩
      case measure => simp [intOf]; omega
    · have hjn : j = m.length := by omega
      subst hjn
      have HOJ := Lib.hid hoj
      have HRJ := Lib.hid hrj
      have HKJ := Lib.hid hkj
      have hns : ns.take m.length = ns := List.take_of_length_le (by rw [HML.out]; exact Nat.le_refl _)
      rw [hns]
      clear hoj hrj hkj hns
      go_wp2_with fail
      go_ret
      have hMl : (marksM k ns).length = m.length := by rw [marksM_length]; exact HML.out
      refine ⟨rfl, ⟨t0, vs, by rw [hMl]; exact HVL.out, by rw [hMl]; exact HOJ.out, fun i h h' => ?_, HDIS.out, HAP.out, fun x hx => by simp [Value.ownBlock] at hx; omega⟩, HKJ.out⟩
      have h2 : i < ns.length := by rw [← marksM_length ns k]; exact h'
      have h3 : i < m.length := by rw [← HML.out]; exact h2
      obtain ⟨te, hr'⟩ := HRJ.out i h h3 h2
      rw [if_pos h3] at hr'
      refine ⟨te, ?_⟩
      rw [marksM_at ns k i h2, upto_length, HAT.out i h3 h2]
      rw [HAT.out i h3 h2] at hr'
      exact hr'
end Go.Proofs.Ytgidfainoijcmaa

/- append to a row of the call's own, as one step of a region that draws its order. No program in it. -/
namespace Go.Proofs.Ytgidfainoijcmaa
open Go.RowKit

theorem step_own {P : Program} {ops : Array Oper} {o : Oper} {a : Act} {w : World} {K : Act → World → Prop} {Q : Exit → Act → World → Prop} {E : Prop}
    (hg : o.guard = none) (s x : Operand) (t : TypeId) (hop : o.op = Op.call { callee := Callee.builtin Builtin.append, args := #[s, x], argTypes := #[t, t] })
    (base : Nat) (e : TypeId) (i : TypeInfo) (z : Value) (bytes : Nat) (h1 : P.underlying t = some (.slice e)) (h2 : P.info? e = some i) (h3 : i.zero = some z) (h4 : i.size = 1) (h5 : i.bytes = bytes) (h6 : z.cells.size = 1)
    (v : Value) (n : Nat) (xs : List Value) (hs : a.eval s = v) (hown : w.ownsRow base e 1 v n xs)
    (ad : Addr) (m c : Nat) (news : List Value) (hx : a.eval x = .slice (some ad) m c) (hn : news.length = m) (hc : ∀ j u, news[j]? = some u → w.cell? (ad.add j) = some u) (h1c : ∀ u ∈ news, u.oneCell' = true)
    (b1 : n + m ≤ maxLen) (b2 : (n + m) * bytes ≤ 140737488355328) (hb : base ≤ w.heap.size)
    (hK : ∀ v' w', w'.ownsRow base e 1 v' (n + m) (xs ++ news) → Below base w w' → K (a.put o.dst v') w') :
    if Region.wanted o (yielded ops a.tmps) = true then Oper.wp P o a w K Q else E := by
  have hw : Region.wanted o (yielded ops a.tmps) = true := by simp [Region.wanted, hg]
  rw [if_pos hw]
  obtain ⟨v', w', hrun, r1, r2, _⟩ := run_append_own (P := P) w base t o.type e i z 1 bytes h1 h2 h3 h4 h5 h6 (by decide) v n xs hown ad m c news (by rw [hn, Nat.mul_one]) hc h1c b1 b2 hb
  unfold Oper.wp
  simp [execOp, hop, resolve, invoke, builtin, hs, hx, hrun, Result.andThen]
  exact hK v' w' r1 ((Below.refl _ _).grown r2 hb (fun k hk => (hown.lt k hk).1))
end Go.Proofs.Ytgidfainoijcmaa
