/- SplitLines of the program. Condition: a text of at most 2^20 bytes. -/
import Derived.Test.YtpocfbhbllphdaaDoorSplitI
import Derived.Test.YtpocfbhbllphdaaDoorLinesP
namespace Go.Proofs.YtpocfbhbllphdaaDoor
open Go.RowKit

set_option maxHeartbeats 400000 in
theorem implSplitLines (s : ByteArray) (w : World) (hs : s.size ≤ 1048576) :
    Calls Tryd.prog 13 #[.string s] w fun e w' => ∃ v, e = .returned v ∧ w'.ownsRow w.heap.size 9 1 v (linesL s).length (strs (linesL s)) ∧ Below w.heap.size w w' := by
  go_enter Tryd.func13, Tryd.ntmps13
  go_wp2_with fail
  refine (implSplitAny s nl _ hs).mono ?_
  rintro e w1 ⟨v0, rfl, ho0, hb0⟩
  have hpos := splitL_pos s nl
  have hle := splitTo_le s nl s.size
  obtain ⟨g, cap, rfl, hnc⟩ := own_some ho0 hpos
  obtain ⟨m, hm⟩ : ∃ m, (splitTo s nl s.size).1.length = m := ⟨_, rfl⟩
  have hln : (splitL s nl).length = m + 1 := by unfold splitL; simp [hm]
  have hL : linesL s = if (s.extract (splitTo s nl s.size).2 s.size).toList = [] then (splitTo s nl s.size).1 else splitL s nl := rfl
  have hS : strs (splitL s nl) = strs (splitTo s nl s.size).1 ++ [.string (s.extract (splitTo s nl s.size).2 s.size)] := by unfold splitL; exact strs_snoc _ _
  rw [hln] at ho0 hnc ⊢
  generalize s.extract (splitTo s nl s.size).2 s.size = x at hL hS
  generalize (splitTo s nl s.size).1 = P at hL hS hm hle
  have hml : m ≤ 1048576 := by omega
  have hc : w1.cell? ⟨g, m, none⟩ = some (.string x) := by
    rw [ho0.cellAt m (by omega), hS, List.getElem?_append_right (by rw [strs_length]; omega), strs_length, hm]
    simp
  rw [hS] at ho0
  have hoi := own_init ho0 m (by rw [strs_length]; exact hm) (by omega)
  have HL := Lib.hid hL
  have HS := Lib.hid hS
  have HM := Lib.hid hm
  have HN := Lib.hid hln
  clear hL hS hm hln
  go_wp2_with fail
  · have he : x.toList.isEmpty = true := by assumption
    go_ret
    refine ⟨_, rfl, ?_, hb0⟩
    rw [HL.out, if_pos (List.isEmpty_iff.1 he), HM.out]
    exact hoi
  · have he : x.toList.isEmpty = false := by assumption
    go_ret
    refine ⟨_, rfl, ?_, hb0⟩
    rw [HL.out, if_neg (fun h => by rw [h] at he; cases he), HN.out, HS.out]
    exact ho0
end Go.Proofs.YtpocfbhbllphdaaDoor
