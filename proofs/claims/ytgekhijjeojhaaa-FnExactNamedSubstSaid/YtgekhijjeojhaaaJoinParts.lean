/- joinParts and Join of the program: the elements with the separator between them. Condition: the result has at most 2^47 bytes. -/
import Derived.Test.YtgekhijjeojhaaaChecked
import Derived.Test.YtgekhijjeojhaaaJoinP
import Derived.Test.YtgekhijjeojhaaaShelf
namespace Go.Proofs.Ytgekhijjeojhaaa
open Go.RowKit

theorem joinParts_any (xs : List ByteArray) (sep : ByteArray) (v : Value) (w : World) (h : Lst w v (strs xs)) (hn : xs.length ≤ 140737488355328) (hlen : (joinS xs sep).size ≤ 140737488355328) :
    Calls Try.prog 64 #[.string sep, v] w fun e w' => e = .returned (.string (joinS xs sep)) ∧ Below w.heap.size w w' := by
  obtain ⟨A, c, rfl, hc1, hc2, h1⟩ := h
  rw [strs_length] at hc1
  rw [strs_length]
  by_cases hl : xs = []
  · subst hl
    go_enter Try.func64, Try.ntmps64
    go_wp2_with (go_at_call 66; refine (Try.strings_Join_none _ _ _ _).mono ?_; rintro e w' ⟨rfl, rfl⟩)
    go_ret
    exact ⟨rfl, Below.refl _ _⟩
  replace h1 := h1.resolve_left (by simp [strs, hl])
  obtain ⟨b, off, rfl, h1⟩ := h1
  have hc : ∀ (j : Nat) x, xs[j]? = some x → w.cell? ⟨b, off + j, none⟩ = some (.string x) := fun j x hx => h1 j _ (by simp [strs, hx])
  have hp : 0 < xs.length := List.length_pos_iff.2 hl
  have hb : b < w.heap.size := World.block_lt_of_cell? w ⟨b, off + 0, none⟩ (hc 0 xs[0] (List.getElem?_eq_getElem hp))
  have HC := Lib.hid hc
  clear hc h1
  have hlen' : (Lib.join (xs.map (·.data.toList)) sep.data.toList).length ≤ 140737488355328 := by simpa [joinS, ByteArray.size] using hlen
  have HLEN := Lib.hid hlen'
  clear hlen hlen'
  go_enter Try.func64, Try.ntmps64
  go_wp2_with (go_at_call 66; refine (Try.strings_Join b off c xs sep _ HC.out hb hn hc1 HLEN.out).mono ?_; rintro e w' ⟨rfl, hb1⟩)
  go_ret
  exact ⟨rfl, hb1⟩

theorem implJoin_any (xs : List ByteArray) (sep : ByteArray) (v : Value) (w : World) (h : Lst w v (strs xs)) (hn : xs.length ≤ 140737488355328) (hlen : (joinS xs sep).size ≤ 140737488355328) :
    Calls Try.prog 56 #[v, .string sep] w fun e w' => e = .returned (.string (joinS xs sep)) ∧ Below w.heap.size w w' := by
  have H := Lib.hid (joinParts_any xs sep v w h hn hlen)
  obtain ⟨A, c, rfl, -, -, -⟩ := h
  go_enter Try.func56, Try.ntmps56
  go_wp2_with (go_at_call 64; refine H.out.mono ?_; rintro e w' ⟨rfl, hb1⟩)
  go_ret
  exact ⟨rfl, hb1⟩
end Go.Proofs.Ytgekhijjeojhaaa
