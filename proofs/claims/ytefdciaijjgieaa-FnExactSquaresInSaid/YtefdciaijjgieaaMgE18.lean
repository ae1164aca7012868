/- Texts put together. -/
import Derived.Test.YtefdciaijjgieaaMgE14
import Derived.Test.YtefdciaijjgieaaMgE15
import Derived.Test.YtefdciaijjgieaaMgE2
import Derived.Test.YtefdciaijjgieaaMgE17
import Derived.Laws.AppendOwnNone
import Derived.Laws.Runes
/- The program's SquaresIn. Conditions: lengths. -/
namespace Go.Proofs.Ytefdciaijjgieaa
open Go.RowKit

/-! ### what is collected -/
/-- f is a square -/
def SqP (n : Nat) (f : ByteArray) : Prop := f.extract 0 n = f.extract n f.size
/-- the texts of the keys that are no longer to come and are squares -/
def Sqs (L M : List FK) (n : Nat) (xs : List ByteArray) : Prop := xs.Nodup ∧ xs.length + M.length ≤ L.length ∧ ∀ x, x ∈ xs ↔ ∃ p ∈ L, p ∉ M ∧ p.1 = x ∧ SqP n x
theorem sqs_start (L : List FK) (n : Nat) : Sqs L L n [] := ⟨List.nodup_nil, by simp, fun x => by
  constructor
  · intro h; cases h
  · rintro ⟨p, hp, hn, _⟩; exact absurd hp hn⟩
theorem sqs_yes {L M M' : List FK} {n : Nat} {xs : List ByteArray} {p : FK} (h : Sqs L M n xs) (hz : ∀ q ∈ L, q.2 = 0) (hp : p ∈ L) (hpM : p ∈ M) (hM : Dels M' M p) (hl : M'.length + 1 = M.length) (hs : SqP n p.1) : Sqs L M' n (xs ++ [p.1]) := by
  have hnew : p.1 ∉ xs := fun hx => by
    obtain ⟨q, hq, hqM, e, _⟩ := (h.2.2 _).1 hx
    have : q = p := Prod.ext e (by rw [hz q hq, hz p hp])
    subst this
    exact hqM hpM
  refine ⟨List.nodup_append.2 ⟨h.1, List.pairwise_singleton _ _, fun a ha b hb => ?_⟩, by have := h.2.1; rw [List.length_append]; show _ + 1 + _ ≤ _; omega, fun x => ?_⟩
  · rw [List.mem_singleton] at hb
    rintro rfl
    rw [hb] at ha
    exact hnew ha
  · rw [List.mem_append, h.2.2, List.mem_singleton]
    constructor
    · rintro (⟨q, hq, hn, e⟩ | e)
      · exact ⟨q, hq, fun hh => hn ((hM q).1 hh).1, e⟩
      · exact ⟨p, hp, fun hh => ((hM p).1 hh).2 rfl, e.symm, by rw [e]; exact hs⟩
    · rintro ⟨q, hq, hn, e, e2⟩
      by_cases hqp : q = p
      · subst hqp; exact .inr e.symm
      · exact .inl ⟨q, hq, fun hh => hn ((hM q).2 ⟨hh, hqp⟩), e, e2⟩
theorem sqs_no {L M M' : List FK} {n : Nat} {xs : List ByteArray} {p : FK} (h : Sqs L M n xs) (hM : Dels M' M p) (hl : M'.length + 1 = M.length) (hs : ¬ SqP n p.1) : Sqs L M' n xs := by
  refine ⟨h.1, by have := h.2.1; omega, fun x => ?_⟩
  rw [h.2.2]
  constructor
  · rintro ⟨q, hq, hn, e⟩
    exact ⟨q, hq, fun hh => hn ((hM q).1 hh).1, e⟩
  · rintro ⟨q, hq, hn, e, e2⟩
    by_cases hqp : q = p
    · subst hqp
      rw [← e] at e2
      exact absurd e2 hs
    · exact ⟨q, hq, fun hh => hn ((hM q).2 ⟨hh, hqp⟩), e, e2⟩
/-- the squares with halves of n letters -/
def SqH (s : ByteArray) (n : Nat) (xs : List ByteArray) : Prop := xs.Nodup ∧ xs.length ≤ 400 ∧ ∀ x, x ∈ xs ↔ ∃ j, PwAt s j n ∧ x = s.extract j (j + 2 * n)
theorem sq_at {s : ByteArray} {n j : Nat} (h1 : 1 ≤ n) (h : j + 2 * n ≤ s.size) : SqP n (s.extract j (j + 2 * n)) ↔ PwAt s j n := by
  have hz := pz_size s j (2 * n) h
  unfold SqP PwAt
  rw [hz, ByteArray.extract_extract, ByteArray.extract_extract, Nat.add_zero, Nat.min_eq_left (by omega), Nat.min_self]
  constructor
  · intro e; exact ⟨h1, h, e⟩
  · rintro ⟨_, _, e⟩; exact e
theorem sqs_end {s : ByteArray} {L : List FK} {n : Nat} {xs : List ByteArray} (h1 : 1 ≤ n) (h2 : 2 * n ≤ s.size) (hL : SetIs L (facS s (2 * n) (s.size + 1 - 2 * n))) (hl : L.length ≤ 400) (h : Sqs L [] n xs) : SqH s n xs := by
  refine ⟨h.1, by have := h.2.1; simp only [List.length_nil] at this; omega, fun x => ?_⟩
  rw [h.2.2]
  constructor
  · rintro ⟨p, hp, _, rfl, hs⟩
    obtain ⟨j, hj, rfl⟩ := (hL p).1 hp
    exact ⟨j, (sq_at h1 (by omega)).1 hs, rfl⟩
  · rintro ⟨j, hj, rfl⟩
    have hj2 := hj.2.1
    exact ⟨(s.extract j (j + 2 * n), 0), (hL _).2 ⟨j, by omega, rfl⟩, by simp, rfl, (sq_at h1 (by omega)).2 hj⟩
theorem facS_flat {s : ByteArray} {L : List FK} {n i : Nat} (hL : SetIs L (facS s n i)) : ∀ q ∈ L, q.2 = 0 := fun q hq => by
  obtain ⟨j, _, rfl⟩ := (hL q).1 hq
  rfl
theorem facS_sz {s : ByteArray} {L : List FK} {n i : Nat} (hL : SetIs L (facS s n i)) (hi : i + n ≤ s.size + 1) : ∀ q ∈ L, q.1.size = n := fun q hq => by
  obtain ⟨j, hj, rfl⟩ := (hL q).1 hq
  exact pz_size s j n (by omega)
/-- all squares with halves of at most i letters -/
def SqA (s : ByteArray) (i : Nat) (xs : List ByteArray) : Prop := xs.Nodup ∧ xs.length ≤ i * 400 ∧ ∀ x, x ∈ xs ↔ ∃ h j, h ≤ i ∧ PwAt s j h ∧ x = s.extract j (j + 2 * h)
theorem sqa_start (s : ByteArray) : SqA s 0 [] := ⟨List.nodup_nil, Nat.zero_le _, fun x => by
  constructor
  · intro h; cases h
  · rintro ⟨h, j, h0, h1, _⟩
    have := h1.1
    omega⟩
theorem sqa_next {s : ByteArray} {i : Nat} {xs ys : List ByteArray} (h : SqA s i xs) (k : SqH s (i + 1) ys) : SqA s (i + 1) (xs ++ ys) := by
  refine ⟨List.nodup_append.2 ⟨h.1, k.1, fun a ha b hb => ?_⟩, ?_, fun x => ?_⟩
  · rintro rfl
    obtain ⟨h1, j1, e1, p1, q1⟩ := (h.2.2 a).1 ha
    obtain ⟨j2, p2, q2⟩ := (k.2.2 a).1 hb
    have z1 := pz_size s j1 (2 * h1) p1.2.1
    have z2 := pz_size s j2 (2 * (i + 1)) p2.2.1
    rw [← q1] at z1
    rw [← q2] at z2
    omega
  · rw [List.length_append, Nat.succ_mul]
    have := h.2.1
    have := k.2.1
    omega
  · rw [List.mem_append, h.2.2, k.2.2]
    constructor
    · rintro (⟨a, j, e, p, q⟩ | ⟨j, p, q⟩)
      · exact ⟨a, j, by omega, p, q⟩
      · exact ⟨i + 1, j, Nat.le_refl _, p, q⟩
    · rintro ⟨a, j, e, p, q⟩
      by_cases ea : a = i + 1
      · subst ea; exact .inr ⟨j, p, q⟩
      · exact .inl ⟨a, j, by omega, p, q⟩
theorem sorted_nodup {m xs : List ByteArray} (hm : Asc m) (hn : xs.Nodup) (hmem : ∀ x, x ∈ xs ↔ x ∈ m) : ((xs.map (·.data.toList)).mergeSort fun x y => decide (x ≤ y)).map toBA = m := by
  have hp : ((xs.map (·.data.toList)).mergeSort fun x y => decide (x ≤ y)).Perm (xs.map (·.data.toList)) := List.mergeSort_perm _ _
  have hinj : (xs.map (·.data.toList)).Nodup := by
    refine List.Pairwise.map _ (fun a b hab => ?_) hn
    intro e
    exact hab (bytes_ext (by rw [ByteArray.toList_eq, ByteArray.toList_eq]; exact e))
  have hs : ((xs.map (·.data.toList)).mergeSort fun x y => decide (x ≤ y)).Pairwise (fun x y => decide (x ≤ y) = true) := List.pairwise_mergeSort (fun a b c h1 h2 => by
    rw [decide_eq_true_eq] at h1 h2 ⊢
    exact List.le_trans h1 h2) (fun a b => by
    rw [Bool.or_eq_true, decide_eq_true_eq, decide_eq_true_eq]
    exact List.le_total a b) _
  have hd := hp.nodup_iff.2 hinj
  generalize (xs.map (·.data.toList)).mergeSort (fun x y => decide (x ≤ y)) = zs at hp hs hd
  refine asc_ext ?_ hm fun x => ?_
  · refine List.pairwise_map.2 ((hs.and hd).imp fun {a b} h => ?_)
    exact (less_lt _ _).2 (lt_ne (of_decide_eq_true h.1) h.2)
  · rw [← hmem x, List.mem_map]
    constructor
    · rintro ⟨y, hy, rfl⟩
      obtain ⟨z, hz, rfl⟩ := List.mem_map.1 (hp.mem_iff.1 hy)
      exact hz
    · intro hx
      exact ⟨x.data.toList, hp.mem_iff.2 (List.mem_map.2 ⟨x, hx, rfl⟩), rfl⟩
/-- all of them are those of SquaresIn -/
theorem sqa_end {s : ByteArray} {xs : List ByteArray} (h : SqA s (s.size / 2) xs) : ∀ x, x ∈ xs ↔ x ∈ pwL s := fun x => by
  rw [h.2.2, pwL_mem]
  constructor
  · rintro ⟨a, j, _, p, q⟩; exact ⟨j, a, p, q⟩
  · rintro ⟨j, a, p, q⟩
    exact ⟨a, j, by have := p.2.1; omega, p, q⟩

set_option maxRecDepth 100000 in
set_option maxHeartbeats 1000000 in
theorem implWithHalf (s : ByteArray) (n : Nat) (w : World) (hs : s.size ≤ 60) (h1 : 1 ≤ n) (h2 : 2 * n ≤ s.size) :
    Calls Try.prog 47 #[.string s, .int .i64 (n : Int)] w fun e w' => ∃ A xs cp, e = .returned (.slice A xs.length cp) ∧ SqH s n xs ∧ (xs = [] → A = none ∧ cp = 0) ∧ w'.ownsRow w.heap.size 9 1 (.slice A xs.length cp) xs.length (strs xs) ∧ Below w.heap.size w w' := by
  obtain ⟨i0, hi0, hz0, hz1, hz2⟩ := info_parts str_info
  have HF := Lib.hid (fun w => implFactors s (2 * n) w (by omega) (by omega) (by omega))
  have e1 : ((2 * n : Nat) : Int) = 2 * (n : Int) := by omega
  rw [e1] at HF
  clear e1
  go_enter Try.func47, Try.ntmps47
  go_wp2_with fail
  refine (HF.out _).mono ?_
  rintro e w1 ⟨L, rfl, hF, hL, hl4, hb⟩
  have HEND := Lib.hid (fun xs => sqs_end (xs := xs) h1 h2 hL hl4)
  have HFLAT := Lib.hid (facS_flat hL)
  have HSZ := Lib.hid (facS_sz hL (by omega))
  have HFS := Lib.hid hF
  have HB1 := Lib.hid hb
  have hbw := hF.lt
  clear hF hL hb
  go_wp2_with (at_range; refine wp_range _ rfl _ tSet rfl fk_law uSet w.heap.size L _ rfl HFS.out ?_; intro w2 hF2 hg2 hs2)
  go_frame
  have HF2 := Lib.hid hF2
  have HB2 : Hid (Below w.heap.size w w2) := HB1.out.grown hg2 HB1.out.size (fun k hk => by cases hk)
  have HSS := Lib.hid (sqs_start L n)
  clear hF2 hg2
  go_loopw [5] (fun o w' => ∃ A xs cp M, o = .slice A xs.length cp ∧ FRange Try.prog fK 4 w' w.heap.size w1.heap.size L (fun _ => .bool true) M ∧ Sqs L M n xs ∧ (xs = [] → A = none ∧ cp = 0) ∧ w'.ownsRow (w1.heap.size + 1) 9 1 (.slice A xs.length cp) xs.length (strs xs) ∧ Below w.heap.size w w') (fun _ w' => w'.rangeLeft w.heap.size w1.heap.size)
  case atStart => exact ⟨none, [], 0, L, rfl, HF2.out, HSS.out, fun _ => ⟨rfl, rfl⟩, World.ownsRow_nil _ _ _ _, HB2.out⟩
  case round =>
    obtain ⟨A, xs, cp, M, rfl, hF, hS, hA, ho, hb⟩ := hrel
    have HFR := Lib.hid hF
    have HS := Lib.hid hS
    have HA := Lib.hid hA
    have HO := Lib.hid ho
    have HB := Lib.hid hb
    have hrlt := hF.lt
    clear hF hS hA ho hb HB2 HF2 HSS
    go_wp2_with (at_next; refine wp_step _ rfl _ rfl fT fk_law w.heap.size w1.heap.size L _ M rfl HFR.out (fun _ => .bool true) vv_bool ?_ ?_)
    · intro hM0
      subst hM0
      go_wp2_with fail
      go_ret
      exact ⟨A, xs, cp, rfl, HEND.out xs HS.out, HA.out, own_mono HO.out (by omega), HB.out⟩
    · intro f z M' w3 hp hM' hl' hF3 hlt hg3 hs3 hen
      have hpL := HFR.out.sub _ hp
      have hfs : f.size = 2 * n := HSZ.out _ hpL
      have hb3 : Below w.heap.size w w3 := HB.out.grown hg3 HB.out.size (fun k hk => by injection hk with hk; omega)
      have ho3 : w3.ownsRow (w1.heap.size + 1) 9 1 (.slice A xs.length cp) xs.length (strs xs) := own_apart HO.out hg3 (fun k e1 e2 => by have := (HO.out.lt k e1).1; injection e2 with e2; omega)
      have HY := Lib.hid (fun h => sqs_yes HS.out HFLAT.out hpL hp hM' hl' h)
      have HN := Lib.hid (fun h => sqs_no HS.out hM' hl' h)
      have hxl : xs.length + 1 ≤ 401 := by have := HS.out.2.1; have := List.length_pos_of_mem hp; omega
      have HF4 := Lib.hid (hF3.alloc (.cells #[.string f, .int .u8 z] 72))
      have HO4 := Lib.hid (ho3.alloc (.cells #[.string f, .int .u8 z] 72))
      have HB4 : Hid (Below w.heap.size w (w3.alloc (.cells #[.string f, .int .u8 z] 72))) := hb3.alloc hb3.size _
      have HLT4 : Hid ((w3.alloc (.cells #[.string f, .int .u8 z] 72)).rangeLeft w.heap.size w1.heap.size < wr.rangeLeft w.heap.size w1.heap.size) := by
        show _ < _
        rw [rangeLeft_kept hF3 (World.grownBy_alloc _ _ none) (by simp) (by simp)]
        exact hlt
      have HSZ4 : Hid ((w3.alloc (.cells #[.string f, .int .u8 z] 72)).heap.size = wr.heap.size + 1) := by show _ = _; simp [hs3]
      have hc1 : (w3.alloc (.cells #[.string f, .int .u8 z] 72)).cell? ⟨wr.heap.size, 0, none⟩ = some (.string f) := by rw [World.cell?_alloc_at _ _ _ _ (by simp [hs3])]; rfl
      have hlo : ∀ w : World, (Instr.slice 48 (.string f) none (some (.int .i64 (n : Int))) none).run Try.prog w = .ok (.string (f.extract 0 n)) w := fun w => half_lo Try.underlying48 f _ n w rfl (by omega)
      have hhi : ∀ w : World, (Instr.slice 48 (.string f) (some (.int .i64 (n : Int))) none none).run Try.prog w = .ok (.string (f.extract n f.size)) w := fun w => half_hi Try.underlying48 f _ n w rfl (by omega)
      clear hb3 ho3 hp hpL hM' hl' hlt hg3
      by_cases hc : f.extract 0 n = f.extract n f.size
      · have HX := Lib.hid (HY.out hc)
        have bq := eq_bytes hc
        clear hc HY HN
        generalize f.extract 0 n = x1 at hlo bq
        generalize f.extract n f.size = x2 at hhi bq
        go_wp2_with fail
        generalize w3.alloc (.cells #[.string f, .int .u8 z] 72) = w4 at HF4 HO4 HB4 HLT4 HSZ4 hc1 ⊢
        have HO5 := Lib.hid (show w4.drew.ownsRow (w1.heap.size + 1) 9 1 (.slice A xs.length cp) xs.length (strs xs) from HO4.out)
        have HF5 := Lib.hid (show FRange Try.prog fK 4 w4.drew w.heap.size w1.heap.size L (fun _ => .bool true) M' from HF4.out)
        go_region
        go_wp2_with (at_builtin
                     refine wpList_append1p w4.drew rfl (.tmp 25) (.tmp 28) _ rfl (w1.heap.size + 1) 9 i0 _ 16 Try.underlying24 hi0 hz0 hz1 hz2 rfl (.slice A xs.length cp) xs.length (strs xs) rfl HO5.out (.string f) rfl rfl (by unfold maxLen; omega) (by omega) (by have := HSZ4.out; show _ ≤ w4.heap.size; omega) ?_
                     intro v' w5 ho5 hg5 hv5)
        have ho5' : w5.ownsRow (w1.heap.size + 1) 9 1 v' (xs ++ [f]).length (strs (xs ++ [f])) := by rw [strs_snoc, List.length_append]; exact ho5
        obtain ⟨A5, cp5, rfl⟩ := own_slice ho5'
        go_roundw
        case rel =>
          refine ⟨A5, xs ++ [f], cp5, M', rfl, ?_, HX.out, fun h => absurd h (by simp), ho5', ?_⟩
          · exact FRange.kept (w := w4.drew) HF5.out hg5 (fun e => by have := (HO4.out.lt _ e).1; omega) (fun e => by have := (HO4.out.lt _ e).1; omega)
          · exact (below_drewN HB4.out 1).grown hg5 HB4.out.size (fun k hk => by have := (HO4.out.lt _ hk).1; omega)
        case measure =>
          have e1 : w5.rangeLeft w.heap.size w1.heap.size = w4.drew.rangeLeft w.heap.size w1.heap.size := rangeLeft_kept HF5.out hg5 (fun e => by have := (HO4.out.lt _ e).1; omega) (fun e => by have := (HO4.out.lt _ e).1; omega)
          rw [e1]
          exact HLT4.out
      · have HX := Lib.hid (HN.out hc)
        have bq := ne_bytes hc
        clear hc HY HN
        generalize f.extract 0 n = x1 at hlo bq
        generalize f.extract n f.size = x2 at hhi bq
        go_wp2_with fail
        generalize w3.alloc (.cells #[.string f, .int .u8 z] 72) = w4 at HF4 HO4 HB4 HLT4 HSZ4 hc1 ⊢
        go_region
        go_wp2_with fail
        go_roundw
        case rel => exact ⟨A, xs, cp, M', rfl, HF4.out, HX.out, HA.out, HO4.out, below_drewN HB4.out 1⟩
        case measure => exact HLT4.out

theorem cells_one (l : List ByteArray) : ∀ u ∈ strs l, u.oneCell' = true := fun u hu => by
  obtain ⟨x, _, rfl⟩ := List.mem_map.1 hu
  rfl

set_option maxRecDepth 100000 in
set_option maxHeartbeats 1000000 in
theorem implSquaresIn (s : ByteArray) (w : World) (hs : s.size ≤ 1048576) :
    Calls Try.prog 15 #[.string s] w fun e w' => ∃ v, e = .returned v ∧ w'.ownsRow w.heap.size 9 1 v (pwR s).length (strs (pwR s)) ∧ Below w.heap.size w w' := by
  cases hw : wordB s
  · have HW := Lib.hid hw
    have hv : pwR s = [] := by unfold pwR pwOk; rw [hw]; rfl
    rw [hv]
    clear hw hv
    go_enter Try.func15, Try.ntmps15
    go_wp2_with fail
    refine (implWordOk s _ hs).mono ?_
    rintro e w1 ⟨rfl, hb⟩
    have HB := Lib.hid hb
    rw [HW.out]
    clear hb
    go_wp2_with fail
    go_ret
    exact ⟨_, rfl, World.ownsRow_nil _ _ _ _, HB.out⟩
  have HW := Lib.hid hw
  by_cases h60 : 60 < s.size
  · have hv : pwR s = [] := by
      unfold pwR pwOk
      rw [decide_eq_false (show ¬ s.size ≤ 60 by omega), Bool.and_false]
      rfl
    rw [hv]
    have d1 : decide ((60 : Int) < (s.size : Int)) = true := by simp; omega
    clear hw hv
    go_enter Try.func15, Try.ntmps15
    go_wp2_with fail
    refine (implWordOk s _ hs).mono ?_
    rintro e w1 ⟨rfl, hb⟩
    have HB := Lib.hid hb
    rw [HW.out]
    clear hb
    go_wp2_with fail
    go_ret
    exact ⟨_, rfl, World.ownsRow_nil _ _ _ _, HB.out⟩
  obtain ⟨i0, hi0, hz0, hz1, hz2⟩ := info_parts str_info
  have d1 : decide ((60 : Int) < (s.size : Int)) = false := by simp; omega
  have hv : pwR s = pwL s := if_pos (by unfold pwOk; rw [hw, decide_eq_true (show s.size ≤ 60 by omega)]; rfl)
  have HD : Hid ((s.size : Int).tdiv 2 = (s.size : Int) / 2) := Int.tdiv_eq_ediv_of_nonneg (by omega)
  have HASC : Hid (Asc (pwL s)) := pwTo_asc s s.size
  have HEND := Lib.hid (fun xs => sqa_end (s := s) (xs := xs))
  rw [hv]
  clear hw hv
  generalize pwL s = m at HASC HEND ⊢
  go_enter Try.func15, Try.ntmps15
  go_wp2_with fail
  refine (implWordOk s _ hs).mono ?_
  rintro e w1 ⟨rfl, hb⟩
  have HB1 := Lib.hid hb
  rw [HW.out]
  clear hb
  go_wp2_with fail
  go_loopw [3, 16] (fun o c w' => ∃ i A acc cp, i ≤ s.size / 2 ∧ o = .slice A (acc : List ByteArray).length cp ∧ c = .int .i64 ((i : Nat) : Int) ∧ SqA s i acc ∧ (acc = [] → A = none ∧ cp = 0) ∧ w'.ownsRow w.heap.size 9 1 (.slice A acc.length cp) acc.length (strs acc) ∧ Below w.heap.size w w') (fun _ c _ => s.size - (intOf c).toNat)
  case atStart => exact ⟨0, none, [], 0, by omega, rfl, rfl, sqa_start s, fun _ => ⟨rfl, rfl⟩, World.ownsRow_nil _ _ _ _, HB1.out⟩
  case round =>
    obtain ⟨i, A, acc, cp, hi, rfl, rfl, hA, hn, ho, hb⟩ := hrel
    obtain ⟨wo, rfl⟩ : ∃ y : World, y = wr := ⟨_, rfl⟩
    have HA := Lib.hid hA
    have HNI := Lib.hid hn
    have HO := Lib.hid ho
    have HB := Lib.hid hb
    have hal : acc.length ≤ 12000 := by
      have h1 := hA.2.1
      have h2 : i * 400 ≤ 30 * 400 := Nat.mul_le_mul_right _ (by omega)
      omega
    clear hA hn ho hb
    by_cases hlt : i < s.size / 2
    · have hlt2 : (i : Int) < (s.size : Int).tdiv 2 := by rw [HD.out]; omega
      have hlt3 : (i : Int) < (s.size : Int) / 2 := by omega
      have HWH := Lib.hid (fun w => implWithHalf s (i + 1) w (by omega) (by omega) (by omega))
      have e1 : ((i + 1 : Nat) : Int) = (i : Int) + 1 := by omega
      rw [e1] at HWH
      clear e1
      go_wp2_with fail
      refine (HWH.out _).mono ?_
      rintro e w2 ⟨A2, xs, cp2, rfl, hq, hn2, ho2, hb2⟩
      have HA2 := Lib.hid (sqa_next HA.out hq)
      have HO1 := Lib.hid (own_below HO.out hb2)
      have HB2 : Hid (Below w.heap.size w w2) := HB.out.trans (hb2.mono HB.out.size)
      have hbs := HB2.out.size
      have hxl := hq.2.1
      by_cases hx : xs = []
      · obtain ⟨rfl, rfl⟩ := hn2 hx
        subst hx
        rw [List.append_nil] at HA2
        clear hq hn2 ho2 hb2
        go_wp2_with (at_builtin
                     refine wpList_append_own_none rfl (.tmp 19) (.tmp 23) _ rfl w.heap.size 9 i0 1 Try.underlying24 hi0 (.slice A acc.length cp) acc.length (strs acc) rfl HO1.out rfl ?_)
        go_roundw
        case rel => exact ⟨i + 1, A, acc, cp, by omega, rfl, by go_num, HA2.out, HNI.out, HO1.out, HB2.out⟩
        case measure => simp [intOf]; omega
      · obtain ⟨Ad, cc, hve, _, _, hat⟩ := Lst.of_own ho2
        replace hat := hat.resolve_left (by simp [strs, hx])
        obtain ⟨bl, off, rfl, hat⟩ := hat
        injection hve with hve hve2 hve3
        subst hve
        clear hve2 hve3
        have HAT : Hid (∀ (j : Nat) u, (strs xs)[j]? = some u → w2.cell? ((⟨bl, off, none⟩ : Addr).add j) = some u) := fun j u hu => by rw [Addr.add_lit]; exact hat j u hu
        have HNE : Hid (acc ++ xs = [] → False) := fun h => hx (List.append_eq_nil_iff.1 h).2
        clear hq hn2 ho2 hb2 hat hx
        go_wp2_with (at_builtin
                     refine wpList_append_own w2 rfl (.tmp 19) (.tmp 23) _ rfl w.heap.size 9 i0 _ 1 16 Try.underlying24 hi0 hz0 hz1 hz2 rfl (by decide) (.slice A acc.length cp) acc.length (strs acc) rfl HO1.out ⟨bl, off, none⟩ xs.length cp2 (strs xs) rfl (by rw [strs_length, Nat.mul_one]) HAT.out (cells_one xs) (by unfold maxLen; omega) (by omega) hbs ?_
                     intro v' w5 ho5 hg5 _)
        have ho5' : w5.ownsRow w.heap.size 9 1 v' (acc ++ xs).length (strs (acc ++ xs)) := by
          rw [List.length_append, strs, List.map_append]
          exact ho5
        obtain ⟨A5, cp5, rfl⟩ := own_slice ho5'
        go_roundw
        case rel => exact ⟨i + 1, A5, acc ++ xs, cp5, by omega, rfl, by go_num, HA2.out, fun h => (HNE.out h).elim, ho5', HB2.out.grown hg5 HB2.out.size (fun k hk => (HO1.out.lt _ hk).1)⟩
        case measure => simp [intOf]; omega
    · have hlt2 : ¬ (i : Int) < (s.size : Int).tdiv 2 := by rw [HD.out]; omega
      have hlt3 : ¬ (i : Int) < (s.size : Int) / 2 := by omega
      have hii : i = s.size / 2 := by omega
      have HFIN := Lib.hid (sorted_nodup HASC.out HA.out.1 (HEND.out acc (by rw [← hii]; exact HA.out)))
      clear hii
      by_cases ha : acc = []
      · obtain ⟨rfl, rfl⟩ := HNI.out ha
        subst ha
        have HM : Hid (m = []) := by
          show m = []
          rw [← HFIN.out]
          simp
        have HS := Lib.hid (fun w => Try.slices_Sort_string_none none 0 w)
        clear HFIN
        go_wp2_with fail
        refine (HS.out _).mono ?_
        rintro e w4 ⟨rfl, rfl⟩
        go_wp2_with fail
        go_ret
        exact ⟨_, rfl, by rw [HM.out]; exact World.ownsRow_nil _ _ _ _, HB.out⟩
      · obtain ⟨g, cp', he, _⟩ := own_some HO.out (List.length_pos_iff.2 ha)
        injection he with he _ he2
        subst he
        subst he2
        have hlt4 := own_lt HO.out
        have hss : (acc.map (·.data.toList)).length = acc.length := by rw [List.length_map]
        have HSORT := (Try.slices_Sort_string g 0 cp (acc.map (·.data.toList)) wo (own_holds HO.out) hlt4.2 (by omega))
        rw [hss] at HSORT
        have HS := Lib.hid HSORT
        have HHS := Lib.hid hss
        clear HSORT hss ha
        go_wp2_with fail
        refine HS.out.mono ?_
        rintro e w4 ⟨rfl, q4, os4, rfl⟩
        obtain ⟨zs, hzs⟩ : ∃ zs, (acc.map (·.data.toList)).mergeSort (fun x y => decide (x ≤ y)) = zs := ⟨_, rfl⟩
        have hzl : zs.length = acc.length := by rw [← hzs, List.length_mergeSort, HHS.out]
        rw [hzs] at HFIN ⊢
        obtain ⟨ho4, hb4⟩ := own_put HO.out zs hzl q4 os4
        obtain ⟨W4, hW4⟩ : ∃ W4, Sort.grow (Sort.putRow encStr (Sort.ahead wo q4) g 0 zs.toArray) os4 = W4 := ⟨_, rfl⟩
        rw [hW4] at ho4 hb4 ⊢
        have hlen : acc.length = m.length := by rw [← HFIN.out, List.length_map, hzl]
        rw [HFIN.out] at ho4
        have HO4 := Lib.hid ho4
        have HB4 : Hid (Below w.heap.size w W4) := HB.out.trans hb4
        have HLN := Lib.hid hlen
        clear hW4 ho4 hb4 hzs hzl hlen
        go_wp2_with fail
        go_ret
        exact ⟨_, rfl, by rw [← HLN.out]; exact HO4.out, HB4.out⟩
end Go.Proofs.Ytefdciaijjgieaa

/- The program's GreatestExponent. Conditions: lengths. -/
namespace Go.Proofs.Ytefdciaijjgieaa
open Go.RowKit

set_option maxHeartbeats 1000000 in
theorem implGreatestExponent (s : ByteArray) (w : World) (hs : s.size ≤ 1048576) :
    Calls Try.prog 18 #[.string s] w fun e w' => e = .returned (.tuple #[.int .i64 ((gexR s).1 : Int), .int .i64 ((gexR s).2 : Int)]) ∧ Below w.heap.size w w' := by
  by_cases h0 : s.size = 0
  · have HV : Hid (gexR s = (0, 0)) := by
      show gexR s = (0, 0)
      unfold gexR gexOk
      rw [decide_eq_false (by omega), Bool.false_and, Bool.and_false]
      rfl
    have be : s = ⟨#[]⟩ := by
      apply bytes_ext
      rw [ByteArray.toList_eq, ByteArray.toList_eq]
      exact List.eq_nil_of_length_eq_zero (by simpa using h0)
    rw [HV.out]
    clear HV
    subst be
    clear h0
    go_enter Try.func18, Try.ntmps18
    go_wp2_with fail
    go_ret2
    exact ⟨rfl, Below.refl _ _⟩
  have be : s.toList.isEmpty = false := by
    cases hb : s.toList with
    | nil =>
      have e : s = ⟨#[]⟩ := bytes_ext (by rw [hb, ByteArray.toList_eq])
      exact absurd (by rw [e]; rfl) h0
    | cons _ _ => rfl
  cases hw : wordB s
  · have HW := Lib.hid hw
    have hv : gexR s = (0, 0) := by unfold gexR gexOk; rw [hw]; rfl
    rw [hv]
    clear hw hv
    go_enter Try.func18, Try.ntmps18
    go_wp2_with fail
    refine (implWordOk s _ hs).mono ?_
    rintro e w1 ⟨rfl, hb⟩
    have HB := Lib.hid hb
    rw [HW.out]
    clear hb
    go_wp2_with fail
    go_ret2
    exact ⟨rfl, HB.out⟩
  · have HW := Lib.hid hw
    by_cases h60 : 60 < s.size
    · have hv : gexR s = (0, 0) := by
        unfold gexR gexOk
        rw [decide_eq_false (show ¬ s.size ≤ 60 by omega), Bool.and_false, Bool.and_false]
        rfl
      rw [hv]
      have d1 : decide ((60 : Int) < (s.size : Int)) = true := by simp; omega
      clear hw hv
      go_enter Try.func18, Try.ntmps18
      go_wp2_with fail
      refine (implWordOk s _ hs).mono ?_
      rintro e w1 ⟨rfl, hb⟩
      have HB := Lib.hid hb
      rw [HW.out]
      clear hb
      go_wp2_with fail
      go_ret2
      exact ⟨rfl, HB.out⟩
    · have hs1 : 1 ≤ s.size := by omega
      have hs60 : s.size ≤ 60 := by omega
      have HV : Hid (gexR s = gpTo s s.size) := by
        show gexR s = _
        rw [← gex_gp hs1]
        exact if_pos (by unfold gexOk; rw [hw, decide_eq_true hs1, decide_eq_true hs60]; rfl)
      have d1 : decide ((60 : Int) < (s.size : Int)) = false := by simp; omega
      have HY := Lib.hid (fun i h => gp_yes (s := s) (k := i) h)
      have HN := Lib.hid (fun i h => gp_no (s := s) (k := i) h)
      have HLE := Lib.hid (gp_le s hs1)
      have HL := Lib.hid (fun p w (h : 1 ≤ p ∧ p ≤ s.size) => implLwp s p w (word_size hw) h.1 h.2)
      have HLL := Lib.hid (lpN_le s)
      have HZ : Hid (gpTo s 0 = (1, 1)) := rfl
      rw [HV.out]
      clear hw HV
      generalize gpTo s = f at HY HN HLE HZ ⊢
      generalize lpN s = g at HY HN HL HLL
      go_enter Try.func18, Try.ntmps18
      go_wp2_with fail
      refine (implWordOk s _ hs).mono ?_
      rintro e w1 ⟨rfl, hb⟩
      have HB1 := Lib.hid hb
      rw [HW.out]
      clear hb
      go_wp2_with fail
      go_loopw [4, 5, 23] (fun av bv c w' => ∃ i : Nat, i ≤ s.size ∧ av = .int .i64 ((f i).1 : Int) ∧ bv = .int .i64 ((f i).2 : Int) ∧ c = .int .i64 (i : Int) ∧ Below w.heap.size w w') (fun _ _ c _ => s.size - (intOf c).toNat)
      case atStart => exact ⟨0, by omega, by rw [HZ.out]; rfl, by rw [HZ.out]; rfl, rfl, HB1.out⟩
      case round =>
        obtain ⟨i, hi, rfl, rfl, rfl, hb⟩ := hrel
        obtain ⟨wo, rfl⟩ : ∃ y : World, y = wr := ⟨_, rfl⟩
        have HB := Lib.hid hb
        clear hb
        by_cases hlt : i < s.size
        · have hle := HLE.out i hi
          have HYI := Lib.hid (HY.out i)
          have HNI := Lib.hid (HN.out i)
          have HLI := Lib.hid (fun w => HL.out (i + 1) w ⟨by omega, by omega⟩)
          have e1 : ((i + 1 : Nat) : Int) = (i : Int) + 1 := by omega
          have hll := HLL.out (i + 1)
          rw [e1] at HLI
          generalize g (i + 1) = m at HLI hll HYI HNI
          have hNl : i + 1 + m ≤ 60 := by omega
          generalize i + 1 + m = N at HLI HYI HNI hNl
          generalize f i = y at hle HYI HNI ⊢
          obtain ⟨a, b⟩ := y
          simp only at hle HYI HNI ⊢
          have hx1 : a * (i + 1) ≤ 3721 := mul_small (by omega) (by omega)
          have hx2 : N * b ≤ 3721 := mul_small (by omega) (by omega)
          have hm1 : (a : Int) * ((i : Int) + 1) = ((a * (i + 1) : Nat) : Int) := by rw [← e1, ← Int.natCast_mul]
          have hm2 : (N : Int) * (b : Int) = ((N * b : Nat) : Int) := by rw [← Int.natCast_mul]
          clear hll
          generalize a * (i + 1) = X at hx1 hm1 HYI HNI
          generalize N * b = Z at hx2 hm2 HYI HNI
          by_cases hgo : X < Z
          · have HF := Lib.hid (HYI.out hgo)
            go_wp2_with fail
            refine (HLI.out _).mono ?_
            rintro e w2 ⟨rfl, hb⟩
            have HB2 : Hid (Below w.heap.size w w2) := HB.out.trans (hb.mono HB.out.size)
            clear hb
            go_wp2_with fail
            go_roundw
            case rel => exact ⟨i + 1, by omega, by rw [HF.out], by rw [HF.out]; go_num, by go_num, HB2.out⟩
            case measure => simp [intOf]; omega
          · have HF := Lib.hid (HNI.out hgo)
            go_wp2_with fail
            refine (HLI.out _).mono ?_
            rintro e w2 ⟨rfl, hb⟩
            have HB2 : Hid (Below w.heap.size w w2) := HB.out.trans (hb.mono HB.out.size)
            clear hb
            go_wp2_with fail
            go_roundw
            case rel => exact ⟨i + 1, by omega, by rw [HF.out], by rw [HF.out], by go_num, HB2.out⟩
            case measure => simp [intOf]; omega
        · have HE : Hid (f i = f s.size) := by show _ = _; rw [show i = s.size by omega]
          go_wp2_with fail
          go_ret2
          exact ⟨by rw [← HE.out]; rfl, HB.out⟩
end Go.Proofs.Ytefdciaijjgieaa

/- Words without squares with a letter more, in the program; ExtendSquareFree, CountSquareFree. Conditions: lengths. -/
namespace Go.Proofs.Ytefdciaijjgieaa
open Go.RowKit Go.Lib

theorem word_info : (Try.prog.info? 48).map (fun i => (i.zero, i.size, i.bytes)) = some (some (.string ⟨#[]⟩), 1, 16) := by kernel_rfl
theorem letter_low {j : Nat} (h : j ≤ 2) : (letterN j).toNat < 128 := by
  rcases (show j = 0 ∨ j = 1 ∨ j = 2 by omega) with e | e | e <;> subst e <;> decide

set_option maxRecDepth 100000 in
set_option maxHeartbeats 1000000 in
theorem implLonger (s : ByteArray) (L : Nat) (w : World) (hs : s.size ≤ 1048576) (hL : L ≤ 3) :
    Calls Try.prog 53 #[.string s, .string (abcN L)] w fun e w' => ∃ v, e = .returned v ∧ w'.ownsRow w.heap.size 48 1 v (sflTo s L).length (strs (sflTo s L)) ∧ Below w.heap.size w w' := by
  obtain ⟨i0, hi0, hz0, hz1, hz2⟩ := info_parts word_info
  have hlsz := abc_size hL
  have HAT : Hid (∀ j (hj : j < (abcN L).size), (abcN L)[j] = letterN j) := fun j hj => abc_at hL hj
  have HYES := Lib.hid (fun j h => sfl_yes (s := s) (j := j) h)
  have HNO := Lib.hid (fun j h => sfl_no (s := s) (j := j) h)
  have HLEN := Lib.hid (sfl_len s)
  have HMS := Lib.hid (more_size s)
  have HFR := Lib.hid (fun j w => implIsSquareFree (s ++ ⟨#[letterN j]⟩) w (by rw [more_size]; omega))
  have HZ : Hid (sflTo s 0 = []) := rfl
  generalize sflTo s = S at HYES HNO HLEN HZ ⊢
  generalize abcN L = A at hlsz HAT
  go_enter Try.func53, Try.ntmps53
  go_wp2_with fail
  go_loopw [5] (fun o w' => ∃ j cp A0, j ≤ L ∧ o = .slice A0 (S j).length cp ∧ w'.ownsRow (w.heap.size + 1) 48 1 (.slice A0 (S j).length cp) (S j).length (strs (S j)) ∧ w'.heap[w.heap.size]? = some (.stringIter A j) ∧ Below w.heap.size w w') (fun _ w' => L - w'.iterPos w.heap.size)
  case atStart => exact ⟨0, 0, none, by omega, by rw [HZ.out]; rfl, by rw [HZ.out]; exact World.ownsRow_nil _ _ _ _, World.iter_heap w A 0, below_iter w A 0⟩
  case round =>
    obtain ⟨j, cp, A0, hj, rfl, ho, hit, hb⟩ := hrel
    obtain ⟨wi, rfl⟩ : ∃ y : World, y = wr := ⟨_, rfl⟩
    have hitlt := (Array.getElem?_eq_some_iff.1 hit).1
    have hsl := HLEN.out j
    by_cases hlt : j < L
    · have hjs : j < A.size := by omega
      have hnx : ∀ ty, (Instr.next (.pointer (some ⟨w.heap.size, 0, none⟩)) true ty).run Try.prog wi = _ := fun ty => run_next_ascii_at wi w.heap.size A j ty hit hjs (by rw [HAT.out j hjs]; exact letter_low (by omega))
      rw [HAT.out j hjs] at hnx
      have hi2 := iterAt_heap wi w.heap.size A j (j + 1) hit
      have hb2 := below_iterAt (k := w.heap.size) hb (Nat.le_refl _) A (j + 1)
      have hsz2 := iterAt_size wi w.heap.size A (j + 1)
      have ho2 : (wi.iterAt w.heap.size A (j + 1)).ownsRow (w.heap.size + 1) 48 1 (.slice A0 (S j).length cp) (S j).length (strs (S j)) := by
        refine own_apart ho (row := some w.heap.size) ⟨rfl, rfl, rfl, by rw [hsz2]; exact Nat.le_refl _, fun i hi hne => iterAt_other wi w.heap.size i A (j + 1) (fun e => hne (by rw [e]))⟩ (fun k h1 h2 => ?_)
        have e2 : w.heap.size = k := Option.some.inj h2
        have e3 := (ho.lt k h1).1
        omega
      have hpos0 := iterPos_at hit
      have hcv : ∀ w : World, (convert 21 9 (.int .i32 ((letterN j).toNat : Int))).run Try.prog w = .ok (.string ⟨#[letterN j]⟩) w := fun w => by
        rw [run_convert_int_string w 21 9 .i32 _ (by rw [Try.underlying21]; rfl) Try.underlying9, letter_code (by omega)]
      have hen := letter_code (j := j) (by omega)
      have hms := HMS.out j
      have HC := Lib.hid (fun w => HFR.out j w)
      have HI2 := Lib.hid hi2
      have HB2 := Lib.hid hb2
      have HO2 := Lib.hid ho2
      have HY := Lib.hid (HYES.out j)
      have HN := Lib.hid (HNO.out j)
      have hx1 : (⟨#[letterN j]⟩ : ByteArray).size = 1 := rfl
      clear hi2 hb2 ho2 ho hit hb
      generalize wi.iterAt w.heap.size A (j + 1) = w2 at hnx HI2 HB2 HO2 hsz2
      generalize (letterN j).toNat = cn at hnx hcv hen
      generalize hxx : (⟨#[letterN j]⟩ : ByteArray) = x at hcv hen HC HY HN hms hx1
      clear hxx
      cases hf : freeR (s ++ x) 1 0
      · rw [hf] at HC
        have HNX := Lib.hid (HN.out hf)
        clear hf HY HN
        go_wp2_with fail
        refine (HC.out _).mono ?_
        rintro e w3 ⟨rfl, hb⟩
        have HB3 : Hid (Below w.heap.size w w3) := HB2.out.trans (hb.mono HB2.out.size)
        have HO3 := Lib.hid (own_below HO2.out hb)
        have HI3 : Hid (w3.heap[w.heap.size]? = some (.stringIter A (j + 1))) := (hb.block w.heap.size (by rw [hsz2]; exact hitlt)).trans HI2.out
        clear hb
        go_wp2_with fail
        go_roundw
        case rel => exact ⟨j + 1, cp, A0, by omega, by rw [HNX.out], by rw [HNX.out]; exact HO3.out, HI3.out, HB3.out⟩
        case measure =>
          have e1 := iterPos_at HI3.out
          rw [e1, hpos0]
          omega
      · rw [hf] at HC
        have HNX := Lib.hid (HY.out hf)
        clear hf HY HN
        go_wp2_with fail
        refine (HC.out _).mono ?_
        rintro e w3 ⟨rfl, hb⟩
        have HB3 : Hid (Below w.heap.size w w3) := HB2.out.trans (hb.mono HB2.out.size)
        have HO3 := Lib.hid (own_below HO2.out hb)
        have HI3 : Hid (w3.heap[w.heap.size]? = some (.stringIter A (j + 1))) := (hb.block w.heap.size (by rw [hsz2]; exact hitlt)).trans HI2.out
        have hs3 : w.heap.size + 1 ≤ w3.heap.size := by have := hb.size; omega
        clear hb
        go_wp2_with (at_builtin
                     refine wpList_append1 _ rfl (.tmp 20) (.tmp 22) _ rfl (w.heap.size + 1) 48 i0 _ 16 Try.underlying53 hi0 hz0 hz1 hz2 rfl _ (S j).length _ rfl HO3.out (.string (s ++ x)) rfl rfl (by unfold maxLen; omega) (by omega) hs3 ?_
                     intro v' w4 ho4 hb4)
        obtain ⟨A4, cp4, rfl⟩ := own_slice ho4
        go_roundw
        case rel =>
          have hln : (S (j + 1)).length = (S j).length + 1 := by rw [HNX.out, List.length_append]; rfl
          refine ⟨j + 1, cp4, A4, by omega, by rw [hln], by rw [hln, HNX.out, strs_snoc]; exact ho4, ?_, HB3.out.trans (hb4.mono (by omega))⟩
          exact (hb4.block w.heap.size (by omega)).trans HI3.out
        case measure =>
          have e1 := iterPos_at ((hb4.block w.heap.size (by omega)).trans HI3.out)
          rw [e1, hpos0]
          omega
    · have hjj : j = L := by omega
      have hnx : ∀ ty, (Instr.next (.pointer (some ⟨w.heap.size, 0, none⟩)) true ty).run Try.prog wi = _ := fun ty => run_next_end_at wi w.heap.size A j ty hit (by omega)
      have HO := Lib.hid ho
      have HB := Lib.hid hb
      have HE : Hid (S j = S L) := by show _ = _; rw [hjj]
      clear hjj ho hb hit
      go_wp2_with fail
      go_ret
      exact ⟨_, rfl, by rw [← HE.out]; exact own_mono HO.out (by omega), HB.out⟩

theorem free_empty : freeR ⟨#[]⟩ 1 0 = true := by
  unfold freeR
  cases h : repB (⟨#[]⟩ : ByteArray) 1 0
  · decide
  · obtain ⟨p, h1, h2, _⟩ := (rep_lp _ _ _).1 h
    have : (⟨#[]⟩ : ByteArray).size = 0 := rfl
    omega

set_option maxRecDepth 100000 in
set_option maxHeartbeats 1000000 in
theorem implExtendSquareFree (s : ByteArray) (w : World) (hs : s.size ≤ 1048576) :
    Calls Try.prog 24 #[.string s] w fun e w' => e = .returned (.string (extR s)) ∧ Below w.heap.size w w' := by
  have HV := Lib.hid (ext_sfl s)
  have HL : Hid (∀ w, Calls Try.prog 53 #[.string s, .string ⟨#[97, 98, 99]⟩] w fun e w' => ∃ v, e = .returned v ∧ w'.ownsRow w.heap.size 48 1 v (sflTo s 3).length (strs (sflTo s 3)) ∧ Below w.heap.size w w') := fun w => implLonger s 3 w hs (Nat.le_refl _)
  have hl3 := sfl_len s 3
  rw [HV.out]
  clear HV
  generalize sflTo s 3 = l at HL hl3 ⊢
  cases l with
  | nil =>
    go_enter Try.func24, Try.ntmps24
    go_wp2_with fail
    refine (HL.out _).mono ?_
    rintro e w1 ⟨v, rfl, ho, hb⟩
    obtain ⟨A, cp, rfl⟩ := own_slice ho
    have HB := Lib.hid hb
    clear ho hb
    go_wp2_with fail
    go_ret
    exact ⟨rfl, HB.out⟩
  | cons x l =>
    have b0 : ((((x :: l).length : Nat) : Int) == 0) = false := by rw [beq_eq_false_iff_ne]; simp only [List.length_cons]; omega
    go_enter Try.func24, Try.ntmps24
    go_wp2_with fail
    refine (HL.out _).mono ?_
    rintro e w1 ⟨v, rfl, ho, hb⟩
    obtain ⟨A, cc, rfl, hcc1, hcc2, hat⟩ := Lst.of_own ho
    replace hat := hat.resolve_left (by simp [strs])
    obtain ⟨bl, off, rfl, hat⟩ := hat
    have hc0 := strs_at hat 0 (by simp)
    rw [Nat.add_zero, List.getElem_cons_zero] at hc0
    rw [strs_length] at hcc1 ⊢
    have HB := Lib.hid hb
    clear ho hb hat
    obtain ⟨m, hm⟩ : ∃ m, (x :: l).length = m + 1 := ⟨l.length, rfl⟩
    rw [hm] at b0 hl3 hcc1 ⊢
    clear hm
    go_wp2_with fail
    go_ret
    exact ⟨rfl, HB.out⟩

set_option maxRecDepth 100000 in
set_option maxHeartbeats 1000000 in
theorem implCountW (L : Nat) (hL : L ≤ 3) : ∀ (k : Nat) (s : ByteArray) (n : Nat) (w : World), n = k → s.size + k ≤ 12 → freeR s 1 0 = true →
    Calls Try.prog 58 #[.string s, .string (abcN L), .int .i64 (n : Int)] w fun e w' => e = .returned (.int .i64 (cntW L k s : Int)) ∧ Below w.heap.size w w'
  | 0, s, n, w, hk, hn, hf => by
    have b0 : ((n : Int) == 0) = true := by rw [beq_iff_eq]; omega
    have hv : cntW L 0 s = 1 := rfl
    rw [hv]
    clear hv hf hk
    generalize abcN L = A
    go_enter Try.func58, Try.ntmps58
    go_wp2_with fail
    go_ret
    exact ⟨rfl, Below.refl _ _⟩
  | k + 1, s, n, w, hk, hn, hf => by
    have b0 : ((n : Int) == 0) = false := by rw [beq_eq_false_iff_ne]; omega
    have HV := Lib.hid (cnt_sfl L k hL hf (by omega))
    have HL := Lib.hid (fun w => implLonger s L w (by omega) hL)
    have hlen := sfl_len s L
    have e1 : ((n - 1 : Nat) : Int) = (n : Int) - 1 := by omega
    have HIH : Hid (∀ i (hi : i < (sflTo s L).length) w, Calls Try.prog 58 #[.string (sflTo s L)[i], .string (abcN L), .int .i64 ((n : Int) - 1)] w fun e w' => e = .returned (.int .i64 (cntW L k (sflTo s L)[i] : Int)) ∧ Below w.heap.size w w') := fun i hi w => by
      obtain ⟨m1, m2⟩ := sfl_mem s L _ (List.getElem_mem hi)
      rw [← e1]
      exact implCountW L hL k (sflTo s L)[i] (n - 1) w (by omega) (by omega) m2
    have HSN := Lib.hid (csum_snoc L k (sflTo s L))
    have HSL : Hid (∀ i, csum L k ((sflTo s L).take i) ≤ 1594323) := fun i => by
      have h1 := csum_le L k hL ((sflTo s L).take i)
      have h2 : ((sflTo s L).take i).length ≤ 3 := by rw [List.length_take]; omega
      have h3 : 3 ^ k ≤ 531441 := Nat.le_trans (Nat.pow_le_pow_right (by omega) (show k ≤ 12 by omega)) (by decide)
      have h4 : ((sflTo s L).take i).length * 3 ^ k ≤ 3 * 531441 := Nat.mul_le_mul h2 h3
      omega
    have HCL : Hid (∀ x, cntW L k x ≤ 531441) := fun x => by
      have h1 := cntW_le L hL k x
      have h3 : 3 ^ k ≤ 531441 := Nat.le_trans (Nat.pow_le_pow_right (by omega) (show k ≤ 12 by omega)) (by decide)
      omega
    rw [HV.out]
    have hn12 : n ≤ 12 := by omega
    clear HV hf hk e1
    have hl3 : (sflTo s L).length ≤ 3 := by omega
    generalize sflTo s L = l at HL hlen HIH HSN HSL hl3 ⊢
    have HTA : Hid (csum L k (l.take l.length) = csum L k l) := by show _ = _; rw [List.take_length]
    have HT0 : Hid (csum L k (l.take 0) = 0) := rfl
    generalize cntW L k = cf at HIH HSN HCL
    generalize csum L k = S at HSN HSL HTA HT0 ⊢
    generalize abcN L = A0 at HL HIH
    by_cases hl0 : l.length = 0
    · have HE : Hid (S l = 0) := by show _ = _; rw [← HTA.out, hl0]; exact HT0.out
      go_enter Try.func58, Try.ntmps58
      go_wp2_with fail
      refine (HL.out _).mono ?_
      rintro e w1 ⟨v, rfl, ho, hb⟩
      obtain ⟨A, cp, rfl⟩ := own_slice ho
      have HB := Lib.hid hb
      clear ho hb
      rw [hl0]
      clear hl0
      go_wp2_with fail
      refine wp_loop_rounds 1 ?_
      rw [rounds_succ]
      go_wp2_with fail
      go_ret
      exact ⟨ret_int (by rw [HE.out]; rfl), HB.out⟩
    · go_enter Try.func58, Try.ntmps58
      go_wp2_with fail
      refine (HL.out _).mono ?_
      rintro e w1 ⟨v, rfl, ho, hb⟩
      obtain ⟨A, cc, rfl, hcc1, hcc2, hat⟩ := Lst.of_own ho
      replace hat := hat.resolve_left (fun h => hl0 (by rw [← strs_length, h]; rfl))
      obtain ⟨bl, off, rfl, hat⟩ := hat
      have HAT := Lib.hid (strs_at hat)
      rw [strs_length] at hcc1 ⊢
      have HB := Lib.hid hb
      clear ho hb hat
      go_wp2_with fail
      go_loopw [7, 16] (fun sv iv w' => ∃ i : Nat, i ≤ l.length ∧ sv = .int .i64 (S (l.take i) : Int) ∧ iv = .int .i64 (i : Int) ∧ Below w1.heap.size w1 w') (fun _ iv _ => l.length - (intOf iv).toNat)
      case atStart => exact ⟨0, by omega, by rw [HT0.out]; rfl, rfl, Below.refl _ _⟩
      case round =>
        obtain ⟨i, hi, rfl, rfl, hb⟩ := hrel
        obtain ⟨wo, rfl⟩ : ∃ y : World, y = wr := ⟨_, rfl⟩
        have HBI := Lib.hid hb
        have hsl := HSL.out i
        by_cases hlt : i < l.length
        · have hc := (hb.cell (World.block_lt_of_cell? w1 _ (HAT.out i hlt))).trans (HAT.out i hlt)
          have HI1 := Lib.hid (HIH.out i hlt)
          have HS1 := Lib.hid (HSN.out i hlt)
          have hcl := HCL.out l[i]
          clear hb
          generalize cf l[i] = c at HI1 HS1 hcl
          generalize l[i] = x at hc HI1
          go_wp2_with fail
          refine (HI1.out _).mono ?_
          rintro e w3 ⟨rfl, hb⟩
          have HB3 : Hid (Below w1.heap.size w1 w3) := HBI.out.trans (hb.mono HBI.out.size)
          clear hb hc
          go_wp2_with fail
          go_roundw
          case rel => exact ⟨i + 1, by omega, by rw [HS1.out]; go_num, by go_num, HB3.out⟩
          case measure => simp [intOf]; omega
        · have hii : i = l.length := by omega
          have HE : Hid (S (l.take i) = S l) := by show _ = _; rw [hii]; exact HTA.out
          clear hii hb
          go_wp2_with fail
          go_ret
          exact ⟨ret_int (by rw [HE.out]), HB.out.trans (HBI.out.mono HB.out.size)⟩

set_option maxHeartbeats 400000 in
theorem implCountSquareFree (a b : Int) (w : World) :
    Calls Try.prog 29 #[.int .i64 a, .int .i64 b] w fun e w' => e = .returned (.int .i64 (cntR a b)) ∧ Below w.heap.size w w' := by
  by_cases hok : (1 ≤ a ∧ a ≤ 3) ∧ (0 ≤ b ∧ b ≤ 12)
  · obtain ⟨⟨h1, h2⟩, h3, h4⟩ := hok
    obtain ⟨L, rfl⟩ : ∃ L : Nat, a = L := ⟨a.toNat, by omega⟩
    obtain ⟨n, rfl⟩ : ∃ n : Nat, b = n := ⟨b.toNat, by omega⟩
    have hv : cntR L n = (cntW L n ⟨#[]⟩ : Int) := if_pos (by simp; omega)
    have HC := Lib.hid (fun w => implCountW L (by omega) n ⟨#[]⟩ n w rfl (by show 0 + n ≤ 12; omega) free_empty)
    have hsl : ∀ w : World, (Instr.slice 9 (.string ⟨#[97, 98, 99]⟩) none (some (.int .i64 (L : Int))) none).run Try.prog w = .ok (.string (abcN L)) w := fun w => half_lo Try.underlying9 ⟨#[97, 98, 99]⟩ _ L w rfl (by show L ≤ 3; omega)
    rw [hv]
    clear hv
    generalize cntW L n ⟨#[]⟩ = c at HC ⊢
    generalize abcN L = A at HC hsl
    have d1 : decide ((L : Int) < 1) = false := by simp; omega
    have d2 : decide ((3 : Int) < (L : Int)) = false := by simp; omega
    have d3 : decide ((n : Int) < 0) = false := by simp
    have d4 : decide ((12 : Int) < (n : Int)) = false := by simp; omega
    go_enter Try.func29, Try.ntmps29
    go_wp2_with fail
    refine (HC.out _).mono ?_
    rintro e w2 ⟨rfl, hb⟩
    have HB := Lib.hid hb
    clear hb
    go_wp2_with fail
    go_ret
    exact ⟨rfl, HB.out⟩
  · have hv : cntR a b = -1 := if_neg (by simp only [Bool.and_eq_true, decide_eq_true_eq]; exact hok)
    rw [hv]
    clear hv
    by_cases h1 : a < 1
    · have d1 : decide (a < 1) = true := by simpa using h1
      clear hok
      go_enter Try.func29, Try.ntmps29
      go_wp2_with fail
      go_ret
      exact ⟨rfl, Below.refl _ _⟩
    have d1 : decide (a < 1) = false := by simpa using h1
    by_cases h2 : 3 < a
    · have d2 : decide (3 < a) = true := by simpa using h2
      clear hok
      go_enter Try.func29, Try.ntmps29
      go_wp2_with fail
      go_ret
      exact ⟨rfl, Below.refl _ _⟩
    have d2 : decide (3 < a) = false := by simpa using h2
    by_cases h3 : b < 0
    · have d3 : decide (b < 0) = true := by simpa using h3
      clear hok
      go_enter Try.func29, Try.ntmps29
      go_wp2_with fail
      go_ret
      exact ⟨rfl, Below.refl _ _⟩
    have d3 : decide (b < 0) = false := by simpa using h3
    have h4 : 12 < b := by omega
    have d4 : decide (12 < b) = true := by simpa using h4
    clear hok
    go_enter Try.func29, Try.ntmps29
    go_wp2_with fail
    go_ret
    exact ⟨rfl, Below.refl _ _⟩
end Go.Proofs.Ytefdciaijjgieaa
