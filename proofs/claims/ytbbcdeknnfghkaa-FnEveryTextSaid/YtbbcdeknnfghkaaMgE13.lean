/- Texts put together. -/
import Derived.Test.YtbbcdeknnfghkaaMgE6
import Derived.Test.YtbbcdeknnfghkaaMgE12
import Derived.Test.YtbbcdeknnfghkaaMgE11
import Derived.Test.YtbbcdeknnfghkaaMgE8
import Derived.Test.YtbbcdeknnfghkaaMgE10
import Derived.Test.YtbbcdeknnfghkaaChecked
import Derived.Test.YtbbcdeknnfghkaaMgE9
/- starts and sum of the laws. -/
namespace Go.Proofs.Ytbbcdeknnfghkaa
open Go.RowKit

theorem startsC (s v : ByteArray) (h : v.data.toList <+: s.data.toList) (w : World) :
    Calls Try.prog 15 #[.string s, .string v] w fun e w' => e = .returned (.bool true) ∧ w = w' := by
  have hle : v.size ≤ s.size := by have := h.length_le; simpa using this
  have hx : s.extract 0 v.size = v := by
    apply bytes_ext
    rw [ByteArray.toList_eq, ByteArray.toList_eq, ByteArray.data_extract, Array.toList_extract, List.extract_eq_take_drop, List.drop_zero, Nat.sub_zero]
    have e := List.prefix_iff_eq_take.1 h
    have e2 : v.data.toList.length = v.size := by simp
    rw [e2] at e
    exact e.symm
  have hsl : ∀ w : World, (Instr.slice 9 (.string s) none (some (.int .i64 (v.size : Int))) none).run Try.prog w = .ok (.string v) w := fun w => by
    rw [run_slice_string_to_if (P := Try.prog) w 9 s .i64 (v.size : Int) Try.underlying9, if_pos ⟨by omega, by omega⟩, Int.toNat_natCast, hx]
  have d1 : decide ((v.size : Int) ≤ (s.size : Int)) = true := by simp; omega
  clear h hx
  go_enter Try.func15, Try.ntmps15
  go_wp2_with fail
  go_ret
  exact ⟨rfl, rfl⟩

set_option maxHeartbeats 400000 in
theorem sumC (cs : List Int) (v : Value) (w : World) (h : Lst w v (ints cs)) (h4 : cs.length ≤ 4) (hs : ∀ k, k < cs.length → 0 ≤ cs.getD k 0 ∧ cs.getD k 0 ≤ 1000000000000) :
    Calls Try.prog 24 #[v] w fun e w' => e = .returned (.int .i64 (isum cs cs.length)) ∧ w = w' := by
  obtain ⟨A, c, rfl, hc1, hc2, h1⟩ := h
  rw [ints_length] at hc1 ⊢
  have HSM := Lib.hid hs
  have HIB := Lib.hid (isum_bound hs)
  have HAT : Hid (∀ k, k < cs.length → ∃ b off, A = some ⟨b, off, none⟩ ∧ w.cell? ⟨b, off + k, none⟩ = some (.int .i64 (cs.getD k 0))) := fun k hk => by
    rcases h1 with h1 | ⟨b, off, e, h1⟩
    · have := congrArg List.length h1
      rw [ints_length, List.length_nil] at this
      omega
    · refine ⟨b, off, e, ?_⟩
      rw [ints_at h1 k hk, List.getD_eq_getElem?_getD, List.getElem?_eq_getElem hk]
      rfl
  clear h1 hs
  go_enter Try.func24, Try.ntmps24
  go_wp2_with fail
  go_loop [3, 8] (fun s i => ∃ k : Nat, k ≤ cs.length ∧ i = .int .i64 k ∧ s = .int .i64 (isum cs k)) (fun _ i => cs.length - (intOf i).toNat)
  case atStart => exact ⟨0, by omega, rfl, rfl⟩
  case round =>
    obtain ⟨k, hk, rfl, rfl⟩ := hrel
    obtain ⟨t1, t2⟩ := HIB.out k hk
    by_cases hlt : k < cs.length
    · obtain ⟨b, off, rfl, g⟩ := HAT.out k hlt
      obtain ⟨s1, s2⟩ := HSM.out k hlt
      have HN : Hid (isum cs (k + 1) = isum cs k + cs.getD k 0) := rfl
      generalize cs.getD k 0 = x at g s1 s2 HN
      go_wp2_with fail
      go_round
      case rel => exact ⟨k + 1, by omega, by go_num, by rw [HN.out]⟩
      case measure => simp [intOf]; omega
    · have hkl : k = cs.length := by omega
      have HE : Hid (isum cs k = isum cs cs.length) := by show isum cs k = _; rw [hkl]
      clear hkl
      go_wp2_with fail
      go_ret
      exact ⟨ret_int HE.out, rfl⟩
theorem long_cell {l : List ByteArray} (hl : substB l = true) (hg : growB l 0 = true) (i : Nat) (hi : i < 400) (w : World) :
    (Instr.slice 9 (.string (fxS l 400)) (some (.int .i64 (i : Int))) (some (.int .i64 ((i : Int) + 1))) none).run Try.prog w = .ok (.string (latR l aS i)) w := by
  have hs := fxS_size hl hg 400
  rw [fx_lat hl hg hi, run_slice_string (P := Try.prog) w 9 (fxS l 400) .i64 .i64 (i : Int) ((i : Int) + 1) Try.underlying9 (by omega) (by omega) (by omega)]
  have e1 : ((i : Int)).toNat = i := by omega
  have e2 : ((i : Int) + 1).toNat = i + 1 := by omega
  rw [e1, e2]
theorem ev_longCell {l : List ByteArray} (hl : substB l = true) (hg : growB l 0 = true) {a : ByteArray} (ha : a = aS) (i : Nat) (hi : i < 400) (w : World) :
    (Instr.slice 9 (.string (fxS l 400)) (some (.int .i64 (i : Int))) (some (.int .i64 ((i : Int) + 1))) none).run Try.prog w = .ok (.string (latR l a i)) w := by
  subst ha
  exact long_cell hl hg i hi w
theorem ev_ints_at {w : World} {A : Option Addr} {n c : Nat} {cs : List Int} (h : Lst w (.slice A n c) (ints cs)) (h0 : 0 < cs.length) : ∃ b off, A = some ⟨b, off, none⟩ ∧ ∀ j, j < cs.length → w.cell? ⟨b, off + j, none⟩ = some (.int .i64 (cs.getD j 0)) := by
  obtain ⟨A', c', he, _, _, h1⟩ := h
  injection he with hA hn hc
  subst hA
  replace h1 := h1.resolve_left (by
    intro e
    have := congrArg List.length e
    rw [ints_length] at this
    simp only [List.length_nil] at this
    omega)
  obtain ⟨b, off, rfl, h1⟩ := h1
  refine ⟨b, off, rfl, fun j hj => ?_⟩
  rw [List.getD_eq_getElem?_getD, List.getElem?_eq_getElem hj]
  exact ints_at h1 j hj
end Go.Proofs.Ytbbcdeknnfghkaa

/- A struct of one slice of strings as a result; small facts on new rows. No condition. -/
namespace Go.Proofs.Ytbbcdeknnfghkaa
open Go.RowKit

/-- a struct of one slice of strings, and whether there is one -/
def SubSaid (r : List ByteArray) (ok : Bool) (w : World) (e : Ending) (w' : World) : Prop := ∃ v, e = .returned (.tuple #[.agg #[v], .bool ok]) ∧ w'.ownsRow w.heap.size 9 1 v r.length (strs r) ∧ Below w.heap.size w w'
theorem cell_one (w : World) (e : TypeId) (y : Value) (j : Nat) (u : Value) (hu : [y][j]? = some u) : (w.alloc (.cells #[y] e)).cell? ((⟨w.heap.size, 0, none⟩ : Addr).add j) = some u := by
  rcases j with _ | j
  · simp at hu
    subst hu
    rw [Addr.add_lit, World.cell?_alloc_at _ _ _ _ (by simp)]
    rfl
  · simp at hu
theorem build_zero (w : World) : (Instr.build 24 #[]).run Try.prog w = .ok (.agg #[.slice none 0 0]) w := run_build w _ _ _ (by kernel_rfl)
theorem build_sub (A : Option Addr) (n c : Nat) (w : World) : (Instr.build 24 #[(0, .slice A n c)]).run Try.prog w = .ok (.agg #[.slice A n c]) w := run_build w _ _ _ (by kernel_rfl)
end Go.Proofs.Ytbbcdeknnfghkaa

/- Join of the model. Condition: the elements and their number together at most 2^20, the separator too. -/
namespace Go.Proofs.Ytbbcdeknnfghkaa
open Go.RowKit

set_option maxHeartbeats 400000 in
theorem specJoin_any (l : List ByteArray) (sep : ByteArray) (v : Value) (w : World) (h1 : Lst w v (strs l)) (hn : l.length + totalS l ≤ 1048576) (hsep : sep.size ≤ 1048576) :
    Calls Try.prog 81 #[v, .string sep] w fun e w' => e = .returned (.string (joinS l sep)) ∧ w = w' := by
  obtain ⟨A, c, rfl, hc1, hc2, h1⟩ := h1
  rw [strs_length] at hc1
  rw [strs_length]
  clear hc2
  by_cases hl : l = []
  · subst hl
    have HJ := Lib.hid (joinS_nil sep)
    go_enter Try.func81, Try.ntmps81
    go_wp2
    refine wp_loop_rounds 1 ?_
    rw [rounds_succ]
    go_wp2
    go_ret
    exact ⟨ret_str HJ.out.symm, rfl⟩
  replace h1 := h1.resolve_left (by simp [strs, hl])
  obtain ⟨b, off, rfl, h1⟩ := h1
  have hpos : 0 < l.length := List.length_pos_iff.2 hl
  have H1 := Lib.hid (strs_at h1)
  have HS := Lib.hid (joinS_small l sep hn hsep)
  have hn1 : l.length ≤ 1048576 := by omega
  have HZ : Hid (∀ k (h : k < l.length), l[k].size ≤ 1048576) := fun k h => by
    have a := totalS_succ l k h
    have b := totalS_take l (k + 1)
    omega
  clear h1 hl
  go_enter Try.func81, Try.ntmps81
  go_wp2
  go_loop [5, 10] (fun s i => ∃ (k : Nat), k ≤ l.length ∧ i = .int .i64 k ∧ s = .string (joinS (l.take k) sep)) (fun _ i => l.length - (intOf i).toNat)
  case atStart => exact ⟨0, by omega, rfl, rfl⟩
  case round =>
    obtain ⟨k, hk, rfl, rfl⟩ := hrel
    by_cases hlt : k < l.length
    · have g1 := H1.out k hlt
      have g2 := HS.out k
      have g3 := HZ.out k hlt
      by_cases hk0 : 0 < k
      · have HN := Lib.hid (joinS_next l sep k hk0 hlt)
        go_wp2
        go_round
        case rel => exact ⟨k + 1, by omega, by go_num, by rw [HN.out]⟩
        case measure => simp [intOf]; omega
      · have hkz : k = 0 := by omega
        have HN := Lib.hid (joinS_first l sep k hkz hlt)
        clear hkz
        go_wp2
        go_round
        case rel => exact ⟨k + 1, by omega, by go_num, by rw [HN.out]⟩
        case measure => simp [intOf]; omega
    · have hkl : k = l.length := by omega
      subst hkl
      go_wp2
      go_ret
      exact ⟨rfl, rfl⟩
end Go.Proofs.Ytbbcdeknnfghkaa
