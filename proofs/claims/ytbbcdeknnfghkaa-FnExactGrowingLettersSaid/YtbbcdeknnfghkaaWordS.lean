/- The model's CountLetter, CountsOf, ShiftWord, BeforeWord and IsFactor. Condition: texts of at most 2^20 bytes. -/
import Derived.Test.YtbbcdeknnfghkaaWordOk
import Derived.Test.YtbbcdeknnfghkaaInts
namespace Go.Proofs.Ytbbcdeknnfghkaa
open Go.RowKit

/-- what CountLetter is to return -/
def countR (s t : ByteArray) : Int := if h : wordB s = true ∧ t.size = 1 ∧ wordB t = true then (cnt s.data.toList (t[0]'(by omega)) : Int) else -1

/-- what CountsOf is to return -/
def countsR (s : ByteArray) : List Int := if wordB s = true then [(cnt s.data.toList 97 : Int), (cnt s.data.toList 98 : Int), (cnt s.data.toList 99 : Int), (cnt s.data.toList 100 : Int)] else []

theorem countsR_le (s : ByteArray) : (countsR s).length ≤ 4 := by
  unfold countsR; split <;> simp

/-- what BeforeWord is to return -/
def beforeR (s t : ByteArray) : Bool := wordB s && (wordB t && Op.bytesLess s.toList t.toList)
/-- what ShiftWord is to return -/
def shiftR (s : ByteArray) (k : Int) : ByteArray := if wordB s = true ∧ 0 ≤ k ∧ k ≤ s.size then s.extract k.toNat s.size ++ s.extract 0 k.toNat else ⟨#[]⟩
end Go.Proofs.Ytbbcdeknnfghkaa
