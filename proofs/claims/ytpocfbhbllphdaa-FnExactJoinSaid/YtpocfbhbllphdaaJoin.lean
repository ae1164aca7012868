/- Join of the model and of the program return the same text. Condition: the elements and their number together at most 2^20, the separator too. -/
import Derived.Test.YtpocfbhbllphdaaJoinParts
import Derived.Test.YtpocfbhbllphdaaStrArgs
namespace Go.Proofs.Ytpocfbhbllphdaa
open Go.RowKit

theorem joinS_nil (sep : ByteArray) : joinS [] sep = ⟨#[]⟩ := rfl
theorem joinS_one (x sep : ByteArray) : joinS [x] sep = x := by
  obtain ⟨⟨x⟩⟩ := x
  simp [joinS, Lib.join_one]
theorem joinS_first (l : List ByteArray) (sep : ByteArray) (k : Nat) (h0 : k = 0) (h : k < l.length) : joinS (l.take (k + 1)) sep = joinS (l.take k) sep ++ l[k] := by
  subst h0
  cases l with
  | nil => simp at h
  | cons x r =>
    show joinS [x] sep = joinS [] sep ++ x
    rw [joinS_one, joinS_nil]
    apply ByteArray.ext
    simp [ByteArray.data_append]
theorem bytes_eq (s : ByteArray) : s = ⟨s.data.toList.toArray⟩ := by obtain ⟨⟨l⟩⟩ := s; rfl
theorem joinS_next (l : List ByteArray) (sep : ByteArray) (k : Nat) (h0 : 0 < k) (h : k < l.length) : joinS (l.take (k + 1)) sep = joinS (l.take k) sep ++ sep ++ l[k] := by
  cases l with
  | nil => simp at h
  | cons x r =>
    obtain ⟨j, rfl⟩ : ∃ j, k = j + 1 := ⟨k - 1, by omega⟩
    have hj : j < r.length := by simpa using h
    have hr : (r.map (·.data.toList))[j]? = some r[j].data.toList := by simp [hj]
    have e1 : ((x :: r).take (j + 1 + 1)).map (·.data.toList) = x.data.toList :: (r.map (·.data.toList)).take (j + 1) := by simp [List.map_take]
    have e2 : ((x :: r).take (j + 1)).map (·.data.toList) = x.data.toList :: (r.map (·.data.toList)).take j := by simp [List.map_take]
    unfold joinS
    rw [e1, e2, Lib.join_cons, Lib.join_cons, Lib.joinTail_take_succ _ _ _ _ hr]
    rw [List.getElem_cons_succ]
    generalize r[j] = z
    obtain ⟨⟨z⟩⟩ := z
    obtain ⟨⟨p⟩⟩ := sep
    rw [show (ByteArray.mk { toList := p }) = ByteArray.mk p.toArray from rfl, show (ByteArray.mk { toList := z }) = ByteArray.mk z.toArray from rfl, ByteArray.mk_append_mk, ByteArray.mk_append_mk]
    simp only [List.append_assoc]
theorem lens_total (l : List ByteArray) : Lib.lens (l.map (·.data.toList)) = totalS l := by
  unfold Lib.lens totalS
  rw [List.map_map]
  congr 1
theorem joinS_size (l : List ByteArray) (sep : ByteArray) : (joinS l sep).size ≤ totalS l + l.length * sep.size := by
  cases l with
  | nil => exact Nat.zero_le _
  | cons x r =>
    have h1 : (joinS (x :: r) sep).size = x.size + (sep.size * r.length + totalS r) := by
      show (Lib.join _ _).toArray.size = _
      rw [List.size_toArray, List.map_cons, Lib.join_cons, List.length_append, Lib.joinTail_length, lens_total, List.length_map]
      rfl
    have h2 : totalS (x :: r) = x.size + totalS r := by simp [totalS]
    rw [h1, h2, List.length_cons, Nat.succ_mul, Nat.mul_comm]
    omega
theorem totalS_take (l : List ByteArray) (k : Nat) : totalS (l.take k) ≤ totalS l := by
  rw [← lens_total, ← lens_total, List.map_take]
  exact Lib.lens_take_le _ _
theorem joinS_small (l : List ByteArray) (sep : ByteArray) (h1 : l.length + totalS l ≤ 1048576) (h2 : sep.size ≤ 1048576) (k : Nat) : (joinS (l.take k) sep).size ≤ 1099512676352 := by
  have a := joinS_size (l.take k) sep
  have b := totalS_take l k
  have c : (l.take k).length * sep.size ≤ 1048576 * 1048576 := Nat.mul_le_mul (by rw [List.length_take]; omega) h2
  omega

set_option maxHeartbeats 400000 in
theorem specJoin_any (l : List ByteArray) (sep : ByteArray) (v : Value) (w : World) (h1 : Lst w v (strs l)) (hn : l.length + totalS l ≤ 1048576) (hsep : sep.size ≤ 1048576) :
    Calls Try.prog 21 #[v, .string sep] w fun e w' => e = .returned (.string (joinS l sep)) ∧ w = w' := by
  obtain ⟨A, c, rfl, hc1, hc2, h1⟩ := h1
  rw [strs_length] at hc1
  rw [strs_length]
  clear hc2
  by_cases hl : l = []
  · subst hl
    have HJ := Lib.hid (joinS_nil sep)
    go_enter Try.func21, Try.ntmps21
    go_wp2
    refine wp_loop_rounds 1 ?_
    rw [rounds_succ]
    go_wp2
    go_ret
    exact ⟨ret_str HJ.out.symm, rfl⟩
  replace h1 := h1.resolve_left (by simp [strs, hl])
  obtain ⟨b, off, rfl, h1⟩ := h1
  have hpos : 0 < l.length := List.length_pos_iff.2 hl
  have H1 := Lib.hid (strs_at h1)
  have HS := Lib.hid (joinS_small l sep hn hsep)
  have hn1 : l.length ≤ 1048576 := by omega
  have HZ : Hid (∀ k (h : k < l.length), l[k].size ≤ 1048576) := fun k h => by
    have a := totalS_succ l k h
    have b := totalS_take l (k + 1)
    omega
  clear h1 hl
  go_enter Try.func21, Try.ntmps21
  go_wp2
  go_loop [5, 10] (fun s i => ∃ (k : Nat), k ≤ l.length ∧ i = .int .i64 k ∧ s = .string (joinS (l.take k) sep)) (fun _ i => l.length - (intOf i).toNat)
  case atStart => exact ⟨0, by omega, rfl, rfl⟩
  case round =>
    obtain ⟨k, hk, rfl, rfl⟩ := hrel
    by_cases hlt : k < l.length
    · have g1 := H1.out k hlt
      have g2 := HS.out k
      have g3 := HZ.out k hlt
      by_cases hk0 : 0 < k
      · have HN := Lib.hid (joinS_next l sep k hk0 hlt)
        go_wp2
        go_round
        case rel => exact ⟨k + 1, by omega, by go_num, by rw [HN.out]⟩
        case measure => simp [intOf]; omega
      · have hkz : k = 0 := by omega
        have HN := Lib.hid (joinS_first l sep k hkz hlt)
        clear hkz
        go_wp2
        go_round
        case rel => exact ⟨k + 1, by omega, by go_num, by rw [HN.out]⟩
        case measure => simp [intOf]; omega
    · have hkl : k = l.length := by omega
      subst hkl
      go_wp2
      go_ret
      exact ⟨rfl, rfl⟩
end Go.Proofs.Ytpocfbhbllphdaa
