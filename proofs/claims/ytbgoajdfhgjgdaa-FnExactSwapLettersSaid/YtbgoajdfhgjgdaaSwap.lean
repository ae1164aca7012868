/- SwapLetters of the model. Condition: texts of at most 2^20 bytes. -/
import Derived.Test.YtbgoajdfhgjgdaaWordS
import Derived.Test.YtbgoajdfhgjgdaaBytesOwn
namespace Go.Proofs.Ytbgoajdfhgjgdaa
open Go.RowKit

/-- names has each of the four letters once -/
def fourB (t : ByteArray) : Bool := decide (t.size = 4) && (wordB t && (decide (cnt t.data.toList 97 = 1) && (decide (cnt t.data.toList 98 = 1) && (decide (cnt t.data.toList 99 = 1) && decide (cnt t.data.toList 100 = 1)))))
def swapL (t : ByteArray) (l : List UInt8) : List UInt8 := l.map fun c => t.data.toList.getD (c.toNat - 97) 0
/-- what SwapLetters is to return -/
def swapR (s t : ByteArray) : ByteArray := if wordB s = true ∧ fourB t = true then ⟨(swapL t s.data.toList).toArray⟩ else ⟨#[]⟩
def swapOk (s t : ByteArray) : Bool := wordB s && fourB t
theorem swapL_succ (s t : ByteArray) (k : Nat) (h : k < s.size) (hi : s[k].toNat - 97 < t.size) : swapL t (s.data.toList.take (k + 1)) = swapL t (s.data.toList.take k) ++ [t[s[k].toNat - 97]] := by
  unfold swapL
  rw [take_snoc s k h, List.map_append, List.map_cons, List.map_nil]
  congr 2
  rw [List.getD_eq_getElem?_getD, List.getElem?_eq_getElem (by simpa using hi)]
  rfl
theorem counts_four (t : ByteArray) (h : wordB t = true) : (countsR t).length = 4 ∧ ((∀ k (hk : k < (countsR t).length), (countsR t)[k] = 1) → t.size = 4 → fourB t = true) ∧ (fourB t = true → ∀ k (hk : k < (countsR t).length), (countsR t)[k] = 1) := by
  have e : countsR t = [(cnt t.data.toList 97 : Int), (cnt t.data.toList 98 : Int), (cnt t.data.toList 99 : Int), (cnt t.data.toList 100 : Int)] := if_pos h
  rw [e]
  refine ⟨rfl, fun ha h4 => ?_, fun hf k hk => ?_⟩
  · have a0 := ha 0 (by simp)
    have a1 := ha 1 (by simp)
    have a2 := ha 2 (by simp)
    have a3 := ha 3 (by simp)
    simp only [List.getElem_cons_zero, List.getElem_cons_succ] at a0 a1 a2 a3
    unfold fourB
    rw [decide_eq_true h4, h, decide_eq_true (show cnt t.data.toList 97 = 1 by omega), decide_eq_true (show cnt t.data.toList 98 = 1 by omega), decide_eq_true (show cnt t.data.toList 99 = 1 by omega), decide_eq_true (show cnt t.data.toList 100 = 1 by omega)]
    rfl
  · unfold fourB at hf
    simp only [Bool.and_eq_true, decide_eq_true_eq] at hf
    have hk' : k < 4 := hk
    rcases k with _ | _ | _ | _ | k
    · simp only [List.getElem_cons_zero]; omega
    · simp only [List.getElem_cons_zero, List.getElem_cons_succ]; omega
    · simp only [List.getElem_cons_zero, List.getElem_cons_succ]; omega
    · simp only [List.getElem_cons_zero, List.getElem_cons_succ]; omega
    · omega

def SwapSaid (s t : ByteArray) (w : World) (e : Ending) (w' : World) : Prop := e = .returned (.tuple #[.string (swapR s t), .bool (swapOk s t)]) ∧ Below w.heap.size w w'
theorem swap_no {s t : ByteArray} (h : swapOk s t = false) {w w' : World} (hb : Below w.heap.size w w') : SwapSaid s t w (.returned (.tuple #[.string ⟨#[]⟩, .bool false])) w' := by
  refine ⟨?_, hb⟩
  have e : swapR s t = ⟨#[]⟩ := if_neg (fun ⟨a, b⟩ => by unfold swapOk at h; rw [a, b] at h; cases h)
  rw [h, e]

set_option maxHeartbeats 1000000 in
theorem specSwapLetters (s t : ByteArray) (w : World) (_ : s.size ≤ 1048576) (ht : t.size ≤ 1048576) :
    Calls Try.prog 32 #[.string s, .string t] w (SwapSaid s t w) := by
  obtain ⟨i0, hi0, hz0, hz1, hz2⟩ := info_parts u8_info
  by_cases h1 : wordB s = true
  · by_cases h2 : t.size = 4
    · have b2 : ((t.size : Int) != 4) = false := by rw [h2]; rfl
      by_cases h3 : wordB t = true
      · obtain ⟨f1, f2, f3⟩ := counts_four t h3
        have HF2 := Lib.hid (fun h => f2 h h2)
        have HF3 := Lib.hid f3
        have hsz4 : t.size ≤ 4 := by omega
        have hsz5 : 4 ≤ t.size := by omega
        have h400 := word_size h1
        have H1 := Lib.hid h1
        have HCC := Lib.hid (specCountsOf t w ht)
        generalize countsR t = C at f1 HF2 HF3 HCC
        have HC4 := Lib.hid f1
        clear f1 f2 f3 h2
        go_enter Try.func32, Try.ntmps32
        go_wp2_with fail
        refine (specWordOk s _).mono ?_
        rintro e w' ⟨rfl, rfl⟩
        go_wp2_with fail
        refine (specWordOk t _).mono ?_
        rintro e w' ⟨rfl, rfl⟩
        go_wp2_with fail
        refine HCC.out.mono ?_
        rintro e w1 ⟨v, rfl, ho, hb1⟩
        rw [HC4.out] at ho
        obtain ⟨g, cap, rfl, -⟩ := own_some ho (by omega)
        have HO := Lib.hid ho
        clear ho
        go_wp2_with fail
        go_loop [7, 26] (fun _ i => ∃ k : Nat, k ≤ 4 ∧ i = .int .i64 k ∧ ∀ j (hj : j < C.length), j < k → C[j] = 1) (fun _ i => 4 - (intOf i).toNat)
        case atStart => exact ⟨0, by omega, rfl, fun j _ h => absurd h (by omega)⟩
        case round =>
          obtain ⟨k, hk, rfl, hall⟩ := hrel
          have HA := Lib.hid hall
          clear hall
          by_cases hlt : k < 4
          · have hkC : k < C.length := by rw [HC4.out]; exact hlt
            have g1 : w1.cell? ⟨g, k, none⟩ = some (.int .i64 C[k]) := (HO.out.cellAt k (by omega)).trans (by simp [ints, hkC])
            by_cases h1k : C[k] = 1
            · have bk : (C[k] != 1) = false := by rw [h1k]; rfl
              have HK := Lib.hid h1k
              clear h1k
              go_wp2_with fail
              go_round
              case rel =>
                refine ⟨k + 1, by omega, by go_num, fun j hj hjk => ?_⟩
                by_cases e : j = k
                · subst e; exact HK.out
                · exact HA.out j hj (by omega)
              case measure => simp [intOf]; omega
            · have bk : (C[k] != 1) = true := by rw [bne_iff_ne]; exact h1k
              have hno : swapOk s t = false := by
                unfold swapOk
                cases hf : fourB t
                · rw [Bool.and_false]
                · exact absurd (HF3.out hf k hkC) h1k
              have HNO := Lib.hid hno
              clear hno h1k
              go_wp2_with fail
              go_ret2
              exact swap_no HNO.out hb1
          · have hf : fourB t = true := HF2.out (fun j hj => HA.out j hj (by rw [HC4.out] at hj; omega))
            have HF := Lib.hid hf
            clear hf
            have hsz := hb1.size
            go_wp2_with fail
            go_loopw [8, 9] (fun b i w' => ∃ m : Nat, m ≤ s.size ∧ i = .int .i64 m ∧ w'.ownsRow w.heap.size 5 1 b m (byteCells (swapL t (s.data.toList.take m))) ∧ Below w.heap.size w w') (fun _ i _ => s.size - (intOf i).toNat)
            case atStart =>
              exact ⟨0, Nat.zero_le _, rfl, World.ownsRow_made w1 #[] 0 hsz (by simp [maxLen]) (by simp), hb1.alloc hsz _⟩
            case round =>
              obtain ⟨m, hm, rfl, hob, hb⟩ := hrel
              have HB := Lib.hid hob
              have hsz' := hb.size
              clear hob
              by_cases hlt2 : m < s.size
              · obtain ⟨c1, c2⟩ := word_at H1.out m hlt2
                have c1' : (97 : Int) ≤ s[m].toNat := by omega
                have c2' : (s[m].toNat : Int) ≤ 100 := by omega
                have hidx : s[m].toNat - 97 < t.size := by omega
                have HS := Lib.hid (swapL_succ s t m hlt2 hidx)
                have hob := HB.out
                go_wp2_with (first
                  | (at_builtin
                     refine wpList_append1 _ rfl (.tmp 40) (.tmp 47) _ rfl w.heap.size 5 i0 _ 1 Try.underlying44 hi0 hz0 hz1 hz2 rfl _ m _ rfl hob (.int .u8 (t[s[m].toNat - 97].toNat : Int)) rfl rfl (by unfold maxLen; omega) (by omega) hsz' ?_
                     intro v' w2 hown1 hbel1))
                go_roundw
                case rel =>
                  refine ⟨m + 1, by omega, by go_num, ?_, hb.trans hbel1⟩
                  rw [HS.out, byteCells_snoc]
                  exact hown1
                case measure => simp [intOf]; omega
              · have hms : m = s.size := by omega
                subst hms
                have hob := HB.out
                rw [take_all s _ (Nat.le_refl _)] at hob
                have hconv := conv_own hob
                clear hob
                go_wp2_with fail
                go_ret2
                refine ⟨?_, hb⟩
                have e1 : swapR s t = ⟨(swapL t s.data.toList).toArray⟩ := if_pos ⟨H1.out, HF.out⟩
                have e2 : swapOk s t = true := by unfold swapOk; rw [H1.out, HF.out]; rfl
                rw [e1, e2]
                rfl
      · have hno : swapOk s t = false := by unfold swapOk fourB; rw [show wordB t = false by simpa using h3]; simp
        have h3' : wordB t = false := by simpa using h3
        have HNO := Lib.hid hno
        clear hno h3 h2
        go_enter Try.func32, Try.ntmps32
        go_wp2_with fail
        refine (specWordOk s _).mono ?_
        rintro e w' ⟨rfl, rfl⟩
        go_wp2_with fail
        refine (specWordOk t _).mono ?_
        rintro e w' ⟨rfl, rfl⟩
        go_wp2_with fail
        go_ret2
        exact swap_no HNO.out (Below.refl _ _)
    · have hno : swapOk s t = false := by unfold swapOk fourB; rw [decide_eq_false h2]; simp
      have b2 : ((t.size : Int) != 4) = true := by rw [bne_iff_ne]; omega
      have HNO := Lib.hid hno
      clear hno h2
      go_enter Try.func32, Try.ntmps32
      go_wp2_with fail
      refine (specWordOk s _).mono ?_
      rintro e w' ⟨rfl, rfl⟩
      go_wp2_with fail
      go_ret2
      exact swap_no HNO.out (Below.refl _ _)
  · have h1' : wordB s = false := by simpa using h1
    have hno : swapOk s t = false := by unfold swapOk; rw [h1']; rfl
    have HNO := Lib.hid hno
    clear hno h1
    go_enter Try.func32, Try.ntmps32
    go_wp2_with fail
    refine (specWordOk s _).mono ?_
    rintro e w' ⟨rfl, rfl⟩
    go_wp2_with fail
    go_ret2
    exact swap_no HNO.out (Below.refl _ _)
end Go.Proofs.Ytbgoajdfhgjgdaa
