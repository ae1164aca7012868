/- SplitLines of the model and of the program return the same lines. Condition: a text of at most 2^20 bytes. -/
import Derived.Test.YtpocfbhbllphdaaSplitI
namespace Go.Proofs.Ytpocfbhbllphdaa
open Go.RowKit

def nl : ByteArray := ⟨#[10]⟩
theorem splitL_pos (s y : ByteArray) : 0 < (splitL s y).length := by unfold splitL; simp
/-- the lines: without the last part if it is empty -/
noncomputable def linesL (s : ByteArray) : List ByteArray :=
  if (s.extract (splitTo s nl s.size).2 s.size).toList = [] then (splitTo s nl s.size).1 else splitL s nl
theorem linesL_le (s : ByteArray) : (linesL s).length ≤ s.size + 1 := by
  have := splitTo_le s nl s.size
  unfold linesL splitL
  split
  · omega
  · simp; omega
/-- what a slice's beginning owns -/
theorem own_init {w : World} {B : Nat} {e : TypeId} {g cap : Nat} {n : Nat} {xs ys : List Value} (h : w.ownsRow B e 1 (.slice (some ⟨g, 0, none⟩) n cap) n (xs ++ ys)) (m : Nat) (hm : xs.length = m) (hmn : m ≤ n) :
    w.ownsRow B e 1 (.slice (some ⟨g, 0, none⟩) m cap) m xs := by
  refine ⟨by omega, .inr ?_⟩
  rcases h.2 with ⟨h', _⟩ | ⟨g', cap', cur, h', hb, hg, hnc, hcm, hcs, htake⟩
  · simp at h'
  · simp only [Value.slice.injEq, Option.some.injEq, Addr.mk.injEq, and_true, true_and] at h'
    obtain ⟨rfl, rfl⟩ := h'
    refine ⟨g, cap, cur, rfl, hb, hg, by omega, hcm, hcs, ?_⟩
    have : (cur.toList.take (n * 1)).take (m * 1) = (xs ++ ys).take (m * 1) := by rw [htake]
    rw [List.take_take, Nat.min_eq_left (by omega), Nat.mul_one, List.take_left' hm] at this
    rw [Nat.mul_one]
    exact this
theorem own_some {w : World} {B : Nat} {e : TypeId} {v : Value} {n : Nat} {xs : List Value} (h : w.ownsRow B e 1 v n xs) (hn : 0 < n) : ∃ g cap, v = .slice (some ⟨g, 0, none⟩) n cap ∧ n ≤ cap := by
  rcases h.2 with ⟨_, h'⟩ | ⟨g, cap, cur, h', _, _, hnc, _⟩
  · omega
  · exact ⟨g, cap, h', hnc⟩

set_option maxHeartbeats 400000 in
theorem specSplitLines (s : ByteArray) (w : World) (hs : s.size ≤ 1048576) :
    Calls Try.prog 18 #[.string s] w fun e w' => ∃ v, e = .returned v ∧ w'.ownsRow w.heap.size 9 1 v (linesL s).length (strs (linesL s)) ∧ Below w.heap.size w w' := by
  go_enter Try.func18, Try.ntmps18
  go_wp2_with fail
  refine (specSplitAny s nl _ hs (by decide)).mono ?_
  rintro e w1 ⟨v0, rfl, ho0, hb0⟩
  have hpos := splitL_pos s nl
  have hle := splitTo_le s nl s.size
  obtain ⟨g, cap, rfl, hnc⟩ := own_some ho0 hpos
  obtain ⟨m, hm⟩ : ∃ m, (splitTo s nl s.size).1.length = m := ⟨_, rfl⟩
  have hln : (splitL s nl).length = m + 1 := by unfold splitL; simp [hm]
  have hL : linesL s = if (s.extract (splitTo s nl s.size).2 s.size).toList = [] then (splitTo s nl s.size).1 else splitL s nl := rfl
  have hS : strs (splitL s nl) = strs (splitTo s nl s.size).1 ++ [.string (s.extract (splitTo s nl s.size).2 s.size)] := by unfold splitL; exact strs_snoc _ _
  rw [hln] at ho0 hnc ⊢
  generalize s.extract (splitTo s nl s.size).2 s.size = x at hL hS
  generalize (splitTo s nl s.size).1 = P at hL hS hm hle
  have hml : m ≤ 1048576 := by omega
  have hc : w1.cell? ⟨g, m, none⟩ = some (.string x) := by
    rw [ho0.cellAt m (by omega), hS, List.getElem?_append_right (by rw [strs_length]; omega), strs_length, hm]
    simp
  rw [hS] at ho0
  have hoi := own_init ho0 m (by rw [strs_length]; exact hm) (by omega)
  have HL := Lib.hid hL
  have HS := Lib.hid hS
  have HM := Lib.hid hm
  have HN := Lib.hid hln
  clear hL hS hm hln
  go_wp2_with fail
  · have he : x.toList.isEmpty = true := by assumption
    go_ret
    refine ⟨_, rfl, ?_, hb0⟩
    rw [HL.out, if_pos (List.isEmpty_iff.1 he), HM.out]
    exact hoi
  · have he : x.toList.isEmpty = false := by assumption
    go_ret
    refine ⟨_, rfl, ?_, hb0⟩
    rw [HL.out, if_neg (fun h => by rw [h] at he; cases he), HN.out, HS.out]
    exact ho0

set_option maxHeartbeats 400000 in
theorem implSplitLines (s : ByteArray) (w : World) (hs : s.size ≤ 1048576) :
    Calls Try.prog 19 #[.string s] w fun e w' => ∃ v, e = .returned v ∧ w'.ownsRow w.heap.size 9 1 v (linesL s).length (strs (linesL s)) ∧ Below w.heap.size w w' := by
  go_enter Try.func19, Try.ntmps19
  go_wp2_with fail
  refine (implSplitAny s nl _ hs).mono ?_
  rintro e w1 ⟨v0, rfl, ho0, hb0⟩
  have hpos := splitL_pos s nl
  have hle := splitTo_le s nl s.size
  obtain ⟨g, cap, rfl, hnc⟩ := own_some ho0 hpos
  obtain ⟨m, hm⟩ : ∃ m, (splitTo s nl s.size).1.length = m := ⟨_, rfl⟩
  have hln : (splitL s nl).length = m + 1 := by unfold splitL; simp [hm]
  have hL : linesL s = if (s.extract (splitTo s nl s.size).2 s.size).toList = [] then (splitTo s nl s.size).1 else splitL s nl := rfl
  have hS : strs (splitL s nl) = strs (splitTo s nl s.size).1 ++ [.string (s.extract (splitTo s nl s.size).2 s.size)] := by unfold splitL; exact strs_snoc _ _
  rw [hln] at ho0 hnc ⊢
  generalize s.extract (splitTo s nl s.size).2 s.size = x at hL hS
  generalize (splitTo s nl s.size).1 = P at hL hS hm hle
  have hml : m ≤ 1048576 := by omega
  have hc : w1.cell? ⟨g, m, none⟩ = some (.string x) := by
    rw [ho0.cellAt m (by omega), hS, List.getElem?_append_right (by rw [strs_length]; omega), strs_length, hm]
    simp
  rw [hS] at ho0
  have hoi := own_init ho0 m (by rw [strs_length]; exact hm) (by omega)
  have HL := Lib.hid hL
  have HS := Lib.hid hS
  have HM := Lib.hid hm
  have HN := Lib.hid hln
  clear hL hS hm hln
  go_wp2_with fail
  · have he : x.toList.isEmpty = true := by assumption
    go_ret
    refine ⟨_, rfl, ?_, hb0⟩
    rw [HL.out, if_pos (List.isEmpty_iff.1 he), HM.out]
    exact hoi
  · have he : x.toList.isEmpty = false := by assumption
    go_ret
    refine ⟨_, rfl, ?_, hb0⟩
    rw [HL.out, if_neg (fun h => by rw [h] at he; cases he), HN.out, HS.out]
    exact ho0
end Go.Proofs.Ytpocfbhbllphdaa
