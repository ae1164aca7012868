/- Texts put together. -/
import Derived.Test.YtgidfainoijcmaaMg8
import Derived.Test.YtgidfainoijcmaaMg11
import Derived.Test.YtgidfainoijcmaaMg12
import Derived.Test.YtgidfainoijcmaaMg5
import Derived.Test.YtgidfainoijcmaaMg7
import Derived.Test.YtgidfainoijcmaaMg9
import Derived.Test.YtgidfainoijcmaaChecked
import Derived.Test.YtgidfainoijcmaaMg1
/- What FnMatrices asks of letters that are reached, and of the product of a matrix with itself. -/
namespace Go.Proofs.Ytgidfainoijcmaa
open Go.RowKit

def oneL (k : Nat) : ByteArray := ⟨#[letterN k]⟩
theorem oneL_size (k : Nat) : (oneL k).size = 1 := rfl
theorem oneL_word (k : Nat) (hk : k ≤ 3) : wordB (oneL k) = true := by
  rcases (show k = 0 ∨ k = 1 ∨ k = 2 ∨ k = 3 by omega) with e | e | e | e <;> subst e <;> kernel_rfl
theorem oneL_let (k : Nat) (hk : k ≤ 3) : letN (oneL k) = k := by
  show (letterN k).toNat - 97 = k
  rw [letterN_toNat k (by omega)]
  omega
theorem letOk_one {l : List ByteArray} {k : Nat} (hl : substB l = true) (hk : k < l.length) : letOk l (oneL k) = true := by
  have h4 := (subst_parts hl).2.1
  unfold letOk
  rw [oneL_word k (by omega), oneL_let k (by omega), decide_eq_true (oneL_size k), decide_eq_true hk]
  rfl
/-- whether a letter is reached -/
noncomputable def reachD (l : List ByteArray) (k : Nat) : Nat → Bool := fun i => @decide (Reached l k i) (Classical.propDecidable _)
theorem reachR_one {l : List ByteArray} {k : Nat} (hl : substB l = true) (hk : k < l.length) : reachR l (oneL k) = outS (reachD l k) l.length := by
  have h4 := (subst_parts hl).2.1
  unfold reachR outS reachD
  rw [letOk_one hl hk, hl, oneL_let k (by omega)]
  rfl
theorem reachR_e (l : List ByteArray) : reachR l ⟨#[101]⟩ = ⟨#[]⟩ := by
  unfold reachR
  have : letOk l ⟨#[101]⟩ = false := by
    unfold letOk
    have : wordB ⟨#[101]⟩ = false := by kernel_rfl
    rw [this, Bool.and_false, Bool.false_and]
  rw [this, Bool.false_and, if_neg (by decide)]
theorem outTo_mem {s : Nat → Bool} {k : Nat} (h : s k = true) : ∀ n, k < n → letterN k ∈ outTo s n
  | 0, hk => absurd hk (by omega)
  | n + 1, hk => by
    show letterN k ∈ outTo s n ++ if s n = true then [letterN n] else []
    by_cases e : k = n
    · subst e
      rw [if_pos h]
      simp
    · exact List.mem_append_left _ (outTo_mem h n (by omega))
theorem outTo_letters (s : Nat → Bool) : ∀ n, ∀ c ∈ outTo s n, ∃ i, i < n ∧ c = letterN i
  | 0, c, hc => by simp [outTo] at hc
  | n + 1, c, hc => by
    have hc' : c ∈ outTo s n ++ if s n = true then [letterN n] else [] := hc
    rcases List.mem_append.1 hc' with h | h
    · obtain ⟨i, hi, e⟩ := outTo_letters s n c h
      exact ⟨i, by omega, e⟩
    · split at h
      · simp at h
        exact ⟨n, by omega, h⟩
      · simp at h
theorem outS_word (s : Nat → Bool) (n : Nat) (hn : n ≤ 4) : wordB (outS s n) = true := by
  unfold wordB
  have h1 := outS_size s n
  rw [decide_eq_true (show (outS s n).size ≤ 400 by omega)]
  show (true && (outTo s n).toArray.toList.all isAbcd) = true
  rw [Bool.true_and, List.all_eq_true]
  intro c hc
  obtain ⟨i, hi, rfl⟩ := outTo_letters s n c (by simpa using hc)
  simp [isAbcd, letterN_toNat i (by omega)]
  omega
theorem outS_has {s : Nat → Bool} {k n : Nat} (h : s k = true) (hk : k < n) (hn : n ≤ 4) : factR (outS s n) (oneL k) = true := by
  have hm := outTo_mem h n hk
  obtain ⟨i, hi, he⟩ := List.mem_iff_getElem.1 hm
  have hsz : (outS s n).size = (outTo s n).length := by show (outTo s n).toArray.size = _; simp
  have hat : At (outS s n) (oneL k) i := by
    refine ⟨by rw [oneL_size, hsz]; omega, ?_⟩
    apply bytes_ext
    rw [ByteArray.toList_eq, ByteArray.toList_eq, oneL_size, ext_list]
    show ((outTo s n).toArray.toList.drop i).take 1 = [letterN k]
    rw [List.toList_toArray, List.drop_eq_getElem_cons hi, List.take_succ_cons, he]
    simp
  unfold factR hasR
  rw [outS_word s n hn, oneL_word k (by omega), @decide_eq_true _ (Classical.propDecidable _) ⟨i, hat⟩]
  rfl
theorem outS_full {s : Nat → Bool} {n : Nat} (h : ∀ i, i < n → s i = true) (hn : n ≤ 4) : outS s n = (⟨#[97, 98, 99, 100]⟩ : ByteArray).extract 0 n := by
  have e : outS s n = outS (fun _ => true) n := by unfold outS; rw [outTo_congr n h]
  rw [e]
  rcases (show n = 0 ∨ n = 1 ∨ n = 2 ∨ n = 3 ∨ n = 4 by omega) with e | e | e | e | e <;> subst e <;> rfl
theorem reach_full {l : List ByteArray} (hl : substB l = true) (hp : primR l = true) {k : Nat} (hk : k < l.length) : reachR l (oneL k) = (⟨#[97, 98, 99, 100]⟩ : ByteArray).extract 0 l.length := by
  rw [reachR_one hl hk]
  exact outS_full (fun i hi => @decide_eq_true _ (Classical.propDecidable _) (prim_reach hp k i hk hi)) (subst_parts hl).2.1
theorem reach_has {l : List ByteArray} (hl : substB l = true) {k : Nat} (hk : k < l.length) : factR (reachR l (oneL k)) (oneL k) = true := by
  rw [reachR_one hl hk]
  exact outS_has (@decide_eq_true _ (Classical.propDecidable _) .refl) hk (subst_parts hl).2.1
theorem reach_size {l : List ByteArray} (hl : substB l = true) {k : Nat} (hk : k < l.length) : (reachR l (oneL k)).size ≤ l.length := by
  rw [reachR_one hl hk]
  exact outS_size _ _
theorem mat_ext {n : Nat} {a b : List (List Int)} (ha : RectN n a) (hb : RectN n b) (h : ∀ i k, i < n → k < n → at2 a i k = at2 b i k) : a = b := by
  refine List.ext_getElem (by rw [ha.1, hb.1]) (fun i h1 h2 => ?_)
  refine List.ext_getElem (by rw [ha.2 i h1, hb.2 i h2]) (fun k h3 h4 => ?_)
  have := h i k (by rw [← ha.1]; exact h1) (by rw [← ha.2 i h1]; exact h3)
  rwa [at2_eq _ _ _ h1 h3, at2_eq _ _ _ h2 h4] at this
/-- the matrix of s after s is the square of the matrix of s -/
theorem comp_mul {l : List ByteArray} (hl : substB l = true) : matL (compR l l) = mulM (matL l) (matL l) := by
  have hcl : (compR l l).length = l.length := by simp [compR]
  have h1 : RectN l.length (matL (compR l l)) := by have := matL_rect (compR l l); rwa [hcl] at this
  refine mat_ext h1 (mul_rect (matL_rect l) (matL_rect l)) (fun i k hi hk => ?_)
  rw [comp_at2 hl i k hi hk, mulM_at2 _ _ _ _ (by rw [matL_length]; exact hi) (by rw [matL_length]; exact hk), matL_length]
theorem matL_sq {l : List ByteArray} (hl : substB l = true) : sqB (matL l) = true := by
  obtain ⟨h1, h4, _⟩ := subst_parts hl
  refine sqB_of (matL_length l) h1 h4 (fun r hr => ?_) (fun i k hi hk => by have := matL_small hl i k hi hk; omega)
  obtain ⟨i, hi, rfl⟩ := List.mem_iff_getElem.1 hr
  exact matL_row l i hi
theorem rect_of_small {n : Nat} {m : List (List Int)} (h : SmallM n m) : RectN n m := ⟨h.1, fun _ hi => (h.2 _ (List.getElem_mem hi)).1⟩
theorem detMax_le {n : Nat} (h : n ≤ 3) : detMax n ≤ 6000000 := by
  rcases (show n = 0 ∨ n = 1 ∨ n = 2 ∨ n = 3 by omega) with e | e | e | e <;> subst e <;> decide

set_option maxHeartbeats 400000 in
theorem same_ints (l : List Int) (v1 v2 : Value) (w : World) (h1 : Lst w v1 (ints l)) (h2 : Lst w v2 (ints l)) :
    Calls Try.prog 17 #[v1, v2] w fun e w' => e = .returned (.bool true) ∧ w = w' := by
  have hnn : ((l.length : Int) != (l.length : Int)) = false := by simp
  obtain ⟨A, c, rfl, hc1, hc2, h1⟩ := h1
  obtain ⟨B, d, rfl, hd1, hd2, h2⟩ := h2
  rw [ints_length] at hc1 hd1 ⊢
  by_cases hl : l = []
  · subst hl
    go_enter Try.func17, Try.ntmps17
    go_wp2
    refine wp_loop_rounds 1 ?_
    rw [rounds_succ]
    go_wp2
    go_ret
    exact ⟨rfl, rfl⟩
  have hpos : 0 < l.length := List.length_pos_iff.2 hl
  have hmax : l.length ≤ 9223372036854775807 := by unfold maxLen at hc2; omega
  have hne : ints l ≠ [] := by simpa [ints] using hl
  replace h1 := h1.resolve_left hne
  replace h2 := h2.resolve_left hne
  obtain ⟨b, off, rfl, h1⟩ := h1
  obtain ⟨b', off', rfl, h2⟩ := h2
  have H1 := Lib.hid (ints_at h1)
  have H2 := Lib.hid (ints_at h2)
  clear h1 h2 hl hc1 hc2 hd1 hd2 hne
  go_enter Try.func17, Try.ntmps17
  go_wp2
  go_loop [14] (fun i => ∃ k : Nat, k ≤ l.length ∧ i = .int .i64 k) (fun i => l.length - (intOf i).toNat)
  case atStart => exact ⟨0, by omega, rfl⟩
  case round =>
    obtain ⟨k, hk, rfl⟩ := hrel
    by_cases hlt : k < l.length
    · have g1 := H1.out k hlt
      have g2 := H2.out k hlt
      have b1 : (l[k] != l[k]) = false := by simp
      go_wp2_with fail
      go_round
      case rel => exact ⟨k + 1, by omega, by go_num⟩
      case measure => simp [intOf]; omega
    · go_wp2_with fail
      go_ret
      exact ⟨rfl, rfl⟩
theorem letters_upto (P : Program) {t : TypeId} (ht : P.underlying t = some .string) (n : Nat) (hn : n ≤ 4) (w : World) :
    (Instr.slice t (.string ⟨#[97, 98, 99, 100]⟩) none (some (.int .i64 (n : Int))) none).run P w = .ok (.string ((⟨#[97, 98, 99, 100]⟩ : ByteArray).extract 0 n)) w := by
  have h4 : ((⟨#[97, 98, 99, 100]⟩ : ByteArray).size : Int) = 4 := rfl
  rw [run_slice_string_to_if (P := P) w t ⟨#[97, 98, 99, 100]⟩ .i64 (n : Int) ht, if_pos ⟨by omega, by omega⟩]
  rfl
end Go.Proofs.Ytgidfainoijcmaa

/- A struct of one slice of strings as a result; small facts on new rows. No condition. -/
namespace Go.Proofs.Ytgidfainoijcmaa
open Go.RowKit

/-- a struct of one slice of strings, and whether there is one -/
def SubSaid (r : List ByteArray) (ok : Bool) (w : World) (e : Ending) (w' : World) : Prop := ∃ v, e = .returned (.tuple #[.agg #[v], .bool ok]) ∧ w'.ownsRow w.heap.size 9 1 v r.length (strs r) ∧ Below w.heap.size w w'
theorem cell_one (w : World) (e : TypeId) (y : Value) (j : Nat) (u : Value) (hu : [y][j]? = some u) : (w.alloc (.cells #[y] e)).cell? ((⟨w.heap.size, 0, none⟩ : Addr).add j) = some u := by
  rcases j with _ | j
  · simp at hu
    subst hu
    rw [Addr.add_lit, World.cell?_alloc_at _ _ _ _ (by simp)]
    rfl
  · simp at hu
theorem build_zero (w : World) : (Instr.build 25 #[]).run Try.prog w = .ok (.agg #[.slice none 0 0]) w := run_build w _ _ _ (by kernel_rfl)
theorem build_sub (A : Option Addr) (n c : Nat) (w : World) : (Instr.build 25 #[(0, .slice A n c)]).run Try.prog w = .ok (.agg #[.slice A n c]) w := run_build w _ _ _ (by kernel_rfl)
end Go.Proofs.Ytgidfainoijcmaa

/- Join of the model. Condition: the elements and their number together at most 2^20, the separator too. -/
namespace Go.Proofs.Ytgidfainoijcmaa
open Go.RowKit

set_option maxHeartbeats 400000 in
theorem specJoin_any (l : List ByteArray) (sep : ByteArray) (v : Value) (w : World) (h1 : Lst w v (strs l)) (hn : l.length + totalS l ≤ 1048576) (hsep : sep.size ≤ 1048576) :
    Calls Try.prog 112 #[v, .string sep] w fun e w' => e = .returned (.string (joinS l sep)) ∧ w = w' := by
  obtain ⟨A, c, rfl, hc1, hc2, h1⟩ := h1
  rw [strs_length] at hc1
  rw [strs_length]
  clear hc2
  by_cases hl : l = []
  · subst hl
    have HJ := Lib.hid (joinS_nil sep)
    go_enter Try.func112, Try.ntmps112
    go_wp2
    refine wp_loop_rounds 1 ?_
    rw [rounds_succ]
    go_wp2
    go_ret
    exact ⟨ret_str HJ.out.symm, rfl⟩
  replace h1 := h1.resolve_left (by simp [strs, hl])
  obtain ⟨b, off, rfl, h1⟩ := h1
  have hpos : 0 < l.length := List.length_pos_iff.2 hl
  have H1 := Lib.hid (strs_at h1)
  have HS := Lib.hid (joinS_small l sep hn hsep)
  have hn1 : l.length ≤ 1048576 := by omega
  have HZ : Hid (∀ k (h : k < l.length), l[k].size ≤ 1048576) := fun k h => by
    have a := totalS_succ l k h
    have b := totalS_take l (k + 1)
    omega
  clear h1 hl
  go_enter Try.func112, Try.ntmps112
  go_wp2
  go_loop [5, 10] (fun s i => ∃ (k : Nat), k ≤ l.length ∧ i = .int .i64 k ∧ s = .string (joinS (l.take k) sep)) (fun _ i => l.length - (intOf i).toNat)
  case atStart => exact ⟨0, by omega, rfl, rfl⟩
  case round =>
    obtain ⟨k, hk, rfl, rfl⟩ := hrel
    by_cases hlt : k < l.length
    · have g1 := H1.out k hlt
      have g2 := HS.out k
      have g3 := HZ.out k hlt
      by_cases hk0 : 0 < k
      · have HN := Lib.hid (joinS_next l sep k hk0 hlt)
        go_wp2
        go_round
        case rel => exact ⟨k + 1, by omega, by go_num, by rw [HN.out]⟩
        case measure => simp [intOf]; omega
      · have hkz : k = 0 := by omega
        have HN := Lib.hid (joinS_first l sep k hkz hlt)
        clear hkz
        go_wp2
        go_round
        case rel => exact ⟨k + 1, by omega, by go_num, by rw [HN.out]⟩
        case measure => simp [intOf]; omega
    · have hkl : k = l.length := by omega
      subst hkl
      go_wp2
      go_ret
      exact ⟨rfl, rfl⟩
end Go.Proofs.Ytgidfainoijcmaa

/- What SplitAny is to give. No program in it. -/
namespace Go.Proofs.Ytgidfainoijcmaa
open Go.RowKit

def isSep (y : ByteArray) (c : UInt8) : Prop := ∃ i, ∃ h : i < y.size, y[i] = c
open Classical in
noncomputable def splitTo (s y : ByteArray) : Nat → List ByteArray × Nat
  | 0 => ([], 0)
  | k + 1 => if ∃ h : k < s.size, isSep y s[k] then ((splitTo s y k).1 ++ [s.extract (splitTo s y k).2 k], k + 1) else splitTo s y k
noncomputable def splitL (s y : ByteArray) : List ByteArray := (splitTo s y s.size).1 ++ [s.extract (splitTo s y s.size).2 s.size]
theorem splitTo_le (s y : ByteArray) : ∀ k, (splitTo s y k).1.length ≤ k ∧ (splitTo s y k).2 ≤ k
  | 0 => by simp [splitTo]
  | k + 1 => by
    have := splitTo_le s y k
    unfold splitTo
    split
    · simp; omega
    · omega
theorem splitTo_yes {s y : ByteArray} {k : Nat} (h : k < s.size) (hs : isSep y s[k]) : splitTo s y (k + 1) = ((splitTo s y k).1 ++ [s.extract (splitTo s y k).2 k], k + 1) := by
  rw [splitTo, if_pos ⟨h, hs⟩]
theorem splitTo_no {s y : ByteArray} {k : Nat} (h : k < s.size) (hs : ¬ isSep y s[k]) : splitTo s y (k + 1) = splitTo s y k := by
  rw [splitTo, if_neg (fun ⟨_, h2⟩ => hs h2)]
theorem splitTo_small (s y : ByteArray) : ∀ k, ∀ x ∈ (splitTo s y k).1, x.size ≤ s.size
  | 0 => by simp [splitTo]
  | k + 1 => by
    intro x hx
    unfold splitTo at hx
    split at hx
    · rcases List.mem_append.1 hx with hx | hx
      · exact splitTo_small s y k x hx
      · simp only [List.mem_singleton] at hx
        subst hx
        rw [ByteArray.size_extract]
        omega
    · exact splitTo_small s y k x hx
theorem splitL_small (s y : ByteArray) : ∀ x ∈ splitL s y, x.size ≤ s.size := by
  intro x hx
  unfold splitL at hx
  rcases List.mem_append.1 hx with hx | hx
  · exact splitTo_small s y _ x hx
  · simp only [List.mem_singleton] at hx
    subst hx
    rw [ByteArray.size_extract]
    omega
theorem splitL_length (s y : ByteArray) : (splitL s y).length ≤ s.size + 1 := by
  unfold splitL
  have := (splitTo_le s y s.size).1
  simp
  omega
theorem strs_one (l : List ByteArray) : ∀ u ∈ strs l, u.oneCell' = true := by
  intro u hu
  obtain ⟨_, _, rfl⟩ := List.mem_map.1 hu
  rfl
end Go.Proofs.Ytgidfainoijcmaa
