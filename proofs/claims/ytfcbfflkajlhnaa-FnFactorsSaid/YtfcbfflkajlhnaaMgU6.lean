/- Texts put together. -/
import Derived.Test.YtfcbfflkajlhnaaChecked
import Derived.Test.YtfcbfflkajlhnaaMgU2
import Derived.Test.YtfcbfflkajlhnaaMgU3
import Derived.Test.YtfcbfflkajlhnaaMgU5
/- WordOk of the model and its count of a letter. No condition but that a text has at most 2^63 bytes. -/
namespace Go.Proofs.Ytfcbfflkajlhnaa
open Go.RowKit

set_option maxHeartbeats 400000 in
theorem specWordOk (s : ByteArray) (w : World) :
    Calls Try.prog 94 #[.string s] w fun e w' => e = .returned (.bool (wordB s)) ∧ w = w' := by
  by_cases hl : 400 < s.size
  · have HE := Lib.hid (word_long hl)
    go_enter Try.func94, Try.ntmps94
    go_wp2
    go_ret
    exact ⟨ret_bool HE.out.symm, rfl⟩
  have hs : s.size ≤ 400 := by omega
  go_enter Try.func94, Try.ntmps94
  go_wp2
  go_loop [3] (fun i => ∃ k : Nat, k ≤ s.size ∧ i = .int .i64 k ∧ (s.data.toList.take k).all isAbcd = true) (fun i => s.size - (intOf i).toNat)
  case atStart => exact ⟨0, Nat.zero_le _, rfl, rfl⟩
  case round =>
    obtain ⟨k, hk, rfl, ha⟩ := hrel
    have HA := Lib.hid ha
    clear ha
    by_cases hlt : k < s.size
    · by_cases h1 : s[k].toNat < 97
      · have h1' : ((s[k].toNat : Int) < 97) := by omega
        have HN := Lib.hid (word_not (s := s) k hlt (by simp [isAbcd]; omega))
        go_wp2
        go_ret
        exact ⟨ret_bool HN.out.symm, rfl⟩
      · by_cases h2 : 100 < s[k].toNat
        · have h1' : ¬ ((s[k].toNat : Int) < 97) := by omega
          have h2' : ((100 : Int) < s[k].toNat) := by omega
          have HN := Lib.hid (word_not (s := s) k hlt (by simp [isAbcd]; omega))
          go_wp2
          go_ret
          exact ⟨ret_bool HN.out.symm, rfl⟩
        · have h1' : ¬ ((s[k].toNat : Int) < 97) := by omega
          have h2' : ¬ ((100 : Int) < s[k].toNat) := by omega
          go_wp2
          go_round
          case rel => exact ⟨k + 1, by omega, by go_num, all_snoc s k hlt HA.out (by simp [isAbcd]; omega)⟩
          case measure => simp [intOf]; omega
    · have hk' : k = s.size := by omega
      subst hk'
      have HY := Lib.hid (word_yes hs HA.out)
      go_wp2
      go_ret
      exact ⟨ret_bool HY.out.symm, rfl⟩

end Go.Proofs.Ytfcbfflkajlhnaa

/- IsFactor and PlacesIn of the model. Condition: texts of at most 2^20 bytes. -/
namespace Go.Proofs.Ytfcbfflkajlhnaa
open Go.RowKit

theorem slice_at {P : Program} {t : TypeId} (ht : P.underlying t = some .string) (s : ByteArray) (k n : Nat) (w : World) (h : k + n ≤ s.size) :
    (Instr.slice t (.string s) (some (.int .i64 (k : Int))) (some (.int .i64 ((k : Int) + (n : Int)))) none).run P w = .ok (.string (s.extract k (k + n))) w := by
  rw [run_slice_string (P := P) w t s .i64 .i64 (k : Int) ((k : Int) + (n : Int)) ht (by omega) (by omega) (by omega)]
  rw [show ((k : Int) + (n : Int)).toNat = k + n from by omega, Int.toNat_natCast]

/-- f begins at i in s -/
def At (s f : ByteArray) (i : Nat) : Prop := i + f.size ≤ s.size ∧ s.extract i (i + f.size) = f
noncomputable def hasR (s f : ByteArray) : Bool := @decide (∃ i, At s f i) (Classical.propDecidable _)
theorem hasR_yes {s f : ByteArray} {i : Nat} (h : At s f i) : hasR s f = true := by
  unfold hasR
  exact @decide_eq_true _ (Classical.propDecidable _) ⟨i, h⟩
theorem hasR_no {s f : ByteArray} {k : Nat} (h : ∀ i, i < k → ¬ At s f i) (hk : ¬ k + f.size ≤ s.size) : hasR s f = false := by
  unfold hasR
  rw [decide_eq_false_iff_not]
  rintro ⟨i, hi⟩
  rcases Nat.lt_or_ge i k with hlt | hge
  · exact h i hlt hi
  · exact hk (by have := hi.1; omega)

set_option maxHeartbeats 400000 in
theorem specHas (s f : ByteArray) (w : World) (hs : s.size ≤ 1048576) (hf : f.size ≤ 1048576) :
    Calls Try.prog 123 #[.string s, .string f] w fun e w' => e = .returned (.bool (hasR s f)) ∧ w = w' := by
  go_enter Try.func123, Try.ntmps123
  go_wp2
  go_loop [5] (fun i => ∃ k : Nat, k ≤ s.size + 1 ∧ i = .int .i64 k ∧ ∀ j, j < k → ¬ At s f j) (fun i => s.size + 1 - (intOf i).toNat)
  case atStart => exact ⟨0, by omega, rfl, fun j h => absurd h (by omega)⟩
  case round =>
    obtain ⟨k, hk, rfl, hno⟩ := hrel
    have HN := Lib.hid hno
    clear hno
    by_cases hlt : k + f.size ≤ s.size
    · have hsl : ∀ w : World, (Instr.slice 9 (.string s) (some (.int .i64 (k : Int))) (some (.int .i64 ((k : Int) + (f.size : Int)))) none).run Try.prog w = .ok (.string (s.extract k (k + f.size))) w := fun w => slice_at Try.underlying9 s k f.size w hlt
      by_cases he : s.extract k (k + f.size) = f
      · have HY := Lib.hid (hasR_yes (i := k) ⟨hlt, he⟩)
        have hb : ((s.extract k (k + f.size)).toList == f.toList) = true := by rw [he]; simp
        clear he
        go_wp2
        go_ret
        exact ⟨ret_bool HY.out.symm, rfl⟩
      · have hb : ((s.extract k (k + f.size)).toList == f.toList) = false := by
          rw [beq_eq_false_iff_ne]
          exact fun h => he (bytes_ext h)
        have HE := Lib.hid he
        clear he
        go_wp2
        go_round
        case rel =>
          refine ⟨k + 1, by omega, by go_num, fun j hj => ?_⟩
          by_cases e : j = k
          · subst e; exact fun h => HE.out h.2
          · exact HN.out j (by omega)
        case measure => simp [intOf]; omega
    · have HX := Lib.hid (hasR_no HN.out hlt)
      go_wp2
      go_ret
      exact ⟨ret_bool HX.out.symm, rfl⟩

/-- what IsFactor is to return -/
noncomputable def factR (s f : ByteArray) : Bool := wordB s && (wordB f && hasR s f)
open Classical in
/-- the places below k at which f begins -/
noncomputable def placesTo (s f : ByteArray) : Nat → List Int
  | 0 => []
  | k + 1 => if At s f k then placesTo s f k ++ [(k : Int)] else placesTo s f k
theorem placesTo_le (s f : ByteArray) : ∀ k, (placesTo s f k).length ≤ k
  | 0 => by simp [placesTo]
  | k + 1 => by
    have := placesTo_le s f k
    unfold placesTo
    split
    · simp; omega
    · omega
open Classical in
/-- what PlacesIn is to return -/
noncomputable def placesR (s f : ByteArray) : List Int := if wordB s = true ∧ wordB f = true ∧ f.size ≠ 0 then placesTo s f (s.size + 1) else []
theorem placesR_le (s f : ByteArray) : (placesR s f).length ≤ s.size + 1 := by
  unfold placesR; split
  · exact placesTo_le s f _
  · simp
theorem placesTo_more {s f : ByteArray} (k : Nat) (hk : ¬ k + f.size ≤ s.size) : ∀ n, placesTo s f (k + n) = placesTo s f k
  | 0 => rfl
  | n + 1 => by
    show placesTo s f ((k + n) + 1) = _
    rw [placesTo, if_neg (fun h => hk (by have := h.1; omega)), placesTo_more k hk n]

end Go.Proofs.Ytfcbfflkajlhnaa

/- Factors of a word: what chapter 7 is to return. No program in it. -/
namespace Go.Proofs.Ytfcbfflkajlhnaa
open Go.RowKit

/-- the factors of n letters, ascending -/
def fctL (s : ByteArray) (n : Nat) : List ByteArray := facTo s n (s.size + 1 - n)
def fctOk (s : ByteArray) (n : Int) : Bool := wordB s && (decide (1 ≤ n) && decide (n ≤ 400))
def fctR (s : ByteArray) (n : Int) : List ByteArray := if fctOk s n = true then fctL s n.toNat else []
def cpxR (s : ByteArray) (n : Int) : Int := if fctOk s n = true then ((fctL s n.toNat).length : Int) else -1
def allTo (s : ByteArray) : Nat → Nat
  | 0 => 0
  | k + 1 => allTo s k + (fctL s (k + 1)).length
def allOk (s : ByteArray) : Bool := wordB s && decide (s.size ≤ 60)
def allR (s : ByteArray) : Int := if allOk s = true then (allTo s s.size : Int) else -1
/-- the factor and a letter behind it or ahead of it -/
def exL (f : ByteArray) (before : Bool) (k : Nat) : ByteArray := if before = true then ⟨#[letterN k]⟩ ++ f else f ++ ⟨#[letterN k]⟩
/-- the letters behind or ahead of a factor -/
noncomputable def nxtS (s f : ByteArray) (before : Bool) : ByteArray := ⟨(outTo (fun k => hasR s (exL f before k)) 4).toArray⟩
noncomputable def nxtR (s f : ByteArray) (before : Bool) : ByteArray := if (wordB s && wordB f) = true then nxtS s f before else ⟨#[]⟩
noncomputable def spcL (s : ByteArray) (n : Nat) (before : Bool) : List ByteArray := (fctL s n).filter fun f => decide (1 < (nxtS s f before).size)
noncomputable def spcR (s : ByteArray) (n : Int) (before : Bool) : List ByteArray := if fctOk s n = true then spcL s n.toNat before else []
/-- the index of a string in a list, or -1 -/
def atN (l : List ByteArray) (x : ByteArray) : Nat := l.findIdx fun y => x.toList == y.toList
def atR (l : List ByteArray) (x : ByteArray) : Int := if atN l x < l.length then (atN l x : Int) else -1
def edgeL (s : ByteArray) (n : Nat) : List (List Int) := (fctL s (n + 1)).map fun f => [atR (fctL s n) (f.extract 0 n), atR (fctL s n) (f.extract 1 f.size)]
def grfR (s : ByteArray) (n : Int) : List (List Int) := if fctOk s n = true then edgeL s n.toNat else []
end Go.Proofs.Ytfcbfflkajlhnaa
