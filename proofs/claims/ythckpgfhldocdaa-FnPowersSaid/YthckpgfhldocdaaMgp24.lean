/- Texts put together. -/
import Derived.Test.YthckpgfhldocdaaMgp15
import Derived.Test.YthckpgfhldocdaaMgp11
import Derived.Test.YthckpgfhldocdaaMgp4
import Derived.Test.YthckpgfhldocdaaMgp2
import Derived.Test.YthckpgfhldocdaaMgp12
import Derived.Laws.Cover1
import Derived.Deep.QuietTactic
import Derived.BigQuiet
import Derived.Test.YthckpgfhldocdaaMgp22
import Derived.ChangeSlices
import Derived.Test.YthckpgfhldocdaaMgp6
import Derived.Test.YthckpgfhldocdaaMgp19
/- starts and sum of the laws. -/
namespace Go.Proofs.Ythckpgfhldocdaa
open Go.RowKit

theorem startsC (s v : ByteArray) (h : v.data.toList <+: s.data.toList) (w : World) :
    Calls Try.prog 15 #[.string s, .string v] w fun e w' => e = .returned (.bool true) ∧ w = w' := by
  have hle : v.size ≤ s.size := by have := h.length_le; simpa using this
  have hx : s.extract 0 v.size = v := by
    apply bytes_ext
    rw [ByteArray.toList_eq, ByteArray.toList_eq, ByteArray.data_extract, Array.toList_extract, List.extract_eq_take_drop, List.drop_zero, Nat.sub_zero]
    have e := List.prefix_iff_eq_take.1 h
    have e2 : v.data.toList.length = v.size := by simp
    rw [e2] at e
    exact e.symm
  have hsl : ∀ w : World, (Instr.slice 9 (.string s) none (some (.int .i64 (v.size : Int))) none).run Try.prog w = .ok (.string v) w := fun w => by
    rw [run_slice_string_to_if (P := Try.prog) w 9 s .i64 (v.size : Int) Try.underlying9, if_pos ⟨by omega, by omega⟩, Int.toNat_natCast, hx]
  have d1 : decide ((v.size : Int) ≤ (s.size : Int)) = true := by simp; omega
  clear h hx
  go_enter Try.func15, Try.ntmps15
  go_wp2_with fail
  go_ret
  exact ⟨rfl, rfl⟩

theorem long_cell {l : List ByteArray} (hl : substB l = true) (hg : growB l 0 = true) (i : Nat) (hi : i < 400) (w : World) :
    (Instr.slice 9 (.string (fxS l 400)) (some (.int .i64 (i : Int))) (some (.int .i64 ((i : Int) + 1))) none).run Try.prog w = .ok (.string (latR l aS i)) w := by
  have hs := fxS_size hl hg 400
  rw [fx_lat hl hg hi, run_slice_string (P := Try.prog) w 9 (fxS l 400) .i64 .i64 (i : Int) ((i : Int) + 1) Try.underlying9 (by omega) (by omega) (by omega)]
  have e1 : ((i : Int)).toNat = i := by omega
  have e2 : ((i : Int) + 1).toNat = i + 1 := by omega
  rw [e1, e2]
theorem ev_longCell {l : List ByteArray} (hl : substB l = true) (hg : growB l 0 = true) {a : ByteArray} (ha : a = aS) (i : Nat) (hi : i < 400) (w : World) :
    (Instr.slice 9 (.string (fxS l 400)) (some (.int .i64 (i : Int))) (some (.int .i64 ((i : Int) + 1))) none).run Try.prog w = .ok (.string (latR l a i)) w := by
  subst ha
  exact long_cell hl hg i hi w
theorem ev_ints_at {w : World} {A : Option Addr} {n c : Nat} {cs : List Int} (h : Lst w (.slice A n c) (ints cs)) (h0 : 0 < cs.length) : ∃ b off, A = some ⟨b, off, none⟩ ∧ ∀ j, j < cs.length → w.cell? ⟨b, off + j, none⟩ = some (.int .i64 (cs.getD j 0)) := by
  obtain ⟨A', c', he, _, _, h1⟩ := h
  injection he with hA hn hc
  subst hA
  replace h1 := h1.resolve_left (by
    intro e
    have := congrArg List.length e
    rw [ints_length] at this
    simp only [List.length_nil] at this
    omega)
  obtain ⟨b, off, rfl, h1⟩ := h1
  refine ⟨b, off, rfl, fun j hj => ?_⟩
  rw [List.getD_eq_getElem?_getD, List.getElem?_eq_getElem hj]
  exact ints_at h1 j hj
end Go.Proofs.Ythckpgfhldocdaa

/- rising, of the laws. No condition. -/
namespace Go.Proofs.Ythckpgfhldocdaa
open Go.RowKit

set_option maxRecDepth 100000 in
theorem risingC (l : List ByteArray) (v : Value) (w : World) (h : Lst w v (strs l)) (ha : Asc l) (hn : l.length ≤ 1048576) :
    Calls Try.prog 9 #[v] w fun e w' => e = .returned (.bool true) ∧ Below w.heap.size w w' := by
  obtain ⟨A, c, rfl, hc1, hc2, h1⟩ := h
  rw [strs_length] at hc1 ⊢
  have HA := Lib.hid ha
  have H1 := Lib.hid h1
  clear ha h1
  go_enter Try.func9, Try.ntmps9
  go_wp2_with fail
  go_loopw [3] (fun i w' => ∃ k : Nat, k ≤ l.length ∧ i = .int .i64 ((k : Int) + 1) ∧ Below w.heap.size w w') (fun i _ => l.length + 2 - (intOf i).toNat)
  case atStart => exact ⟨0, by omega, rfl, Below.refl _ _⟩
  case round =>
    obtain ⟨k, hk, rfl, hb⟩ := hrel
    have HB := Lib.hid hb
    by_cases hlt : k + 1 < l.length
    · have h2 := H1.out.resolve_left (by
        intro e
        have := congrArg List.length e
        rw [strs_length] at this
        simp only [List.length_nil] at this
        omega)
      obtain ⟨b, off, rfl, h2⟩ := h2
      have g0 := strs_at h2 (k + 1) hlt
      have g1 : wr.cell? ⟨b, off + (k + 1), none⟩ = some (.string (l[k + 1]'hlt)) := (hb.cell (World.block_lt_of_cell? w _ g0)).trans g0
      have g3 := strs_at h2 k (by omega)
      have g2 : wr.cell? ⟨b, off + k, none⟩ = some (.string (l[k]'(by omega))) := (hb.cell (World.block_lt_of_cell? w _ g3)).trans g3
      have hlow : lessB (l[k]'(by omega)) (l[k + 1]'hlt) = true := List.pairwise_iff_getElem.1 HA.out k (k + 1) (by omega) hlt (by omega)
      have q1 : Op.bytesLess (l[k + 1]'hlt).toList (l[k]'(by omega)).toList = false := by
        rcases h : Op.bytesLess (l[k + 1]'hlt).toList (l[k]'(by omega)).toList with _ | _
        · rfl
        · exact absurd (less_trans hlow h) (less_self _)
      have q2 : ((l[k + 1]'hlt).toList == (l[k]'(by omega)).toList) = false := by
        rw [beq_eq_false_iff_ne]
        intro h
        rw [bytes_ext h] at hlow
        exact less_self _ hlow
      have b1 : (k : Int) + 1 < (l.length : Int) := by omega
      have b2 : (k : Int) < (l.length : Int) := by omega
      have b3 : (0 : Int) ≤ (k : Int) + 1 := by omega
      have b4 : ((k : Int) + 1).toNat = k + 1 := by omega
      have hw : IntKind.i64.wrap ((k : Int) + 1 - 1) = (k : Int) := by rw [IntWalk.i64_in _ (by omega)]; omega
      clear hb hlow g0 g3 h2
      go_wp2_with fail
      go_quiet (fail)
      go_wp2_with fail
      go_roundw
      case rel => exact ⟨k + 1, by omega, by go_num, below_drewN HB.out nq⟩
      case measure => simp [intOf]; omega
    · have b1 : ¬ (k : Int) + 1 < (l.length : Int) := by omega
      clear hb
      go_wp2_with fail
      go_ret
      exact ⟨rfl, HB.out⟩

end Go.Proofs.Ythckpgfhldocdaa

/- MakeText gives a text of at most 16 bytes; nothing old turns. And a slice of bytes that came in, opened. -/
namespace Go.Proofs.Ythckpgfhldocdaa
open Go.ChangeShapes Go.WideShapes Go.RowKit

theorem bytes_arg {H : Type} {enc : TypeId × Value → H} {P : Program} {w : World} {base : Nat} {r : Reach} {b0 : Nat} {t e : TypeId} {v : Value} {d : DataW H} {ps : List MemPlace} (ht : P.underlying t = some (.slice e)) (he : P.underlying e = some (.int .u8)) (hc : P.cellsOf e = 1)
    (hval : Value.okWide P w r b0 t v) (h : DataW.Trod enc P w base (fun _ => true) true t v d ps) : ∃ zs : List Int, Lst w v (bytesV zs) ∧ ∀ z ∈ zs, 0 ≤ z ∧ z ≤ 255 := by
  obtain ⟨fuel, hf⟩ := h
  obtain ⟨A, ln, cp, rfl⟩ : ∃ A ln cp, v = .slice A ln cp := by
    simp only [Value.okWide, ht, Cell.okWide] at hval
    cases v <;> simp_all [Cell.ok]
  rcases open_ints ht he hc hf with ⟨hcs, _⟩ | ⟨a, len, cap, zs, hcs, _, hl, hm, hlen, _, hcell, hwf⟩
  · simp [Value.cells] at hcs
    obtain ⟨rfl, rfl, rfl⟩ := hcs
    exact ⟨[], ⟨none, 0, by simp [bytesV], by simp [bytesV], by simp [maxLen], .inl rfl⟩, by simp⟩
  · simp [Value.cells] at hcs
    obtain ⟨rfl, rfl, rfl⟩ := hcs
    simp at hlen
    refine ⟨zs.take ln, ?_, fun z hz => ?_⟩
    · refine ⟨some a, cp, by simp [bytesV, hlen, Nat.min_eq_left hl], by simp [bytesV, hlen]; omega, hm, ?_⟩
      by_cases h0 : ln = 0
      · subst h0
        exact .inl (by simp [bytesV])
      · obtain ⟨b, off, spot⟩ := a
        have h1 := hcell 0 (by omega)
        have hspot : spot = none := by simpa [Addr.add] using World.cell?_spot h1
        subst hspot
        refine .inr ⟨b, off, rfl, fun i u hu => ?_⟩
        have hi : i < ln := by
          have := (List.getElem?_eq_some_iff.1 hu).1
          simp [bytesV, hlen] at this
          omega
        have h2 := hcell i (by omega)
        rw [Addr.add_lit] at h2
        rw [h2]
        simp [bytesV, hi] at hu
        obtain ⟨x, hx, rfl⟩ := hu
        simp [List.getD, hx]
    · have := hwf z (List.mem_of_mem_take hz)
      simp [Lit.wf, IntKind.min, IntKind.max, IntKind.signed, IntKind.bits] at this
      exact this

def TextSaid (w : World) (e : Ending) (w' : World) : Prop := ∃ s : ByteArray, e = .returned (.string s) ∧ s.size ≤ 16 ∧ Below w.heap.size w w'
def five : List ByteArray := [⟨#[97]⟩, ⟨#[98, 99]⟩, ⟨#[32]⟩, ⟨#[44]⟩, ⟨#[120, 49]⟩]
theorem five_short : ∀ s ∈ five, s.size ≤ 2 := by
  intro s hs
  simp only [five, List.mem_cons, List.not_mem_nil, or_false] at hs
  rcases hs with rfl | rfl | rfl | rfl | rfl <;> decide

end Go.Proofs.Ythckpgfhldocdaa

/- IsFactor of the program. Conditions: texts of at most 2^20 bytes; the library's own variable holds an integer. -/
namespace Go.Proofs.Ythckpgfhldocdaa
open Go.RowKit

theorem ext_list (s : ByteArray) (i n : Nat) : (s.extract i (i + n)).data.toList = (s.data.toList.drop i).take n := by
  rw [Lib.extract_data]
  rw [Nat.add_sub_cancel_left]
theorem occ_at (s f : ByteArray) (i : Nat) (hi : i ≤ s.size) : Lib.occAt s.data.toList f.data.toList i = true ↔ At s f i := by
  unfold Lib.occAt At
  rw [List.isPrefixOf_iff_prefix, List.prefix_iff_eq_take]
  have hsl : s.data.toList.length = s.size := by simp
  have hfl : f.data.toList.length = f.size := by simp
  constructor
  · intro h
    have hl := congrArg List.length h
    rw [List.length_take, List.length_drop, hsl, hfl] at hl
    refine ⟨by omega, ?_⟩
    apply bytes_ext
    rw [ByteArray.toList_eq, ByteArray.toList_eq, ext_list, ← hfl]
    exact h.symm
  · rintro ⟨_, h⟩
    rw [hfl, ← ext_list, h]
theorem contains_has (s f : ByteArray) : Lib.contains s.data.toList f.data.toList = hasR s f := by
  have hsl : s.data.toList.length = s.size := by simp
  unfold Lib.contains hasR
  rcases Lib.index_spec s.data.toList f.data.toList with ⟨h1, h2⟩ | ⟨i, h1, h2, h3, _⟩
  · rw [h1, @decide_eq_false _ (Classical.propDecidable _)]
    · rfl
    · rintro ⟨i, hi⟩
      have := h2 i (by have := hi.1; omega)
      rw [(occ_at s f i (by have := hi.1; omega)).2 hi] at this
      cases this
  · rw [h1, @decide_eq_true _ (Classical.propDecidable _) ⟨i, (occ_at s f i (by omega)).1 h3⟩]
    simp

theorem implIsFactor (s f : ByteArray) (m : Int) (w : World) (hm : w.cell? ⟨0, 0, none⟩ = some (.int .i64 m)) (hs : s.size ≤ 1048576) (hf : f.size ≤ 1048576) :
    Calls Try.prog 12 #[.string s, .string f] w fun e w' => e = .returned (.bool (factR s f)) ∧ Below w.heap.size w w' := by
  have HR : Hid (factR s f = (wordB s && (wordB f && hasR s f))) := rfl
  have HM := Lib.hid hm
  clear hm
  cases h1 : wordB s
  · go_enter Try.func12, Try.ntmps12
    go_wp2_with fail
    refine (implWordOk s _ hs).mono ?_
    rintro e w1 ⟨rfl, hb1⟩
    go_wp2_with fail
    go_ret
    exact ⟨ret_bool (by rw [HR.out, h1]; rfl), hb1⟩
  · cases h2 : wordB f
    · go_enter Try.func12, Try.ntmps12
      go_wp2_with fail
      refine (implWordOk s _ hs).mono ?_
      rintro e w1 ⟨rfl, hb1⟩
      go_wp2_with fail
      refine (implWordOk f _ hf).mono ?_
      rintro e w2 ⟨rfl, hb2⟩
      go_wp2_with fail
      go_ret
      exact ⟨ret_bool (by rw [HR.out, h1, h2]; rfl), hb1.trans (hb2.mono hb1.size)⟩
    · go_enter Try.func12, Try.ntmps12
      go_wp2_with fail
      refine (implWordOk s _ hs).mono ?_
      rintro e w1 ⟨rfl, hb1⟩
      go_wp2_with fail
      refine (implWordOk f _ hf).mono ?_
      rintro e w2 ⟨rfl, hb2⟩
      go_wp2_with fail
      have hb := hb1.trans (hb2.mono hb1.size)
      refine (Try.strings_Contains s f m _ (by omega) ((hb.cell (World.block_lt_of_cell? w _ HM.out)).trans HM.out)).mono ?_
      rintro e w3 ⟨rfl, rfl⟩
      go_wp2_with fail
      go_ret
      exact ⟨ret_bool (by rw [HR.out, h1, h2, contains_has]; rfl), hb⟩
end Go.Proofs.Ythckpgfhldocdaa
