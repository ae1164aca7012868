/- Texts put together. -/
import Derived.Test.YtjmijedfmiplfaaMgA7
import Derived.Test.YtjmijedfmiplfaaMgA9
import Derived.Test.YtjmijedfmiplfaaMgA5
import Derived.Test.YtjmijedfmiplfaaMgA8
import Derived.Test.YtjmijedfmiplfaaChecked
import Derived.Test.YtjmijedfmiplfaaMgA1
import Derived.Laws.IdiomStrings
import Derived.Test.YtjmijedfmiplfaaMgA6
import Derived.Test.YtjmijedfmiplfaaMgA4
import Derived.IntWalk
/- The orbit of a letter, and the power after which some letter comes back. No program in it. -/
namespace Go.Proofs.Ytjmijedfmiplfaa
open Go.RowKit

theorem goN_add (l : List ByteArray) (k j : Nat) : ∀ m, goN l (goN l k j) m = goN l k (j + m)
  | 0 => rfl
  | m + 1 => by
    show firstN l (goN l (goN l k j) m) = firstN l (goN l k (j + m))
    rw [goN_add l k j m]
theorem goN_succ' (l : List ByteArray) (k m : Nat) : goN l k (m + 1) = goN l (firstN l k) m := by
  have := goN_add l k 1 m
  rw [Nat.add_comm m 1, ← this]
  rfl
theorem pigeon : ∀ a b c d e : Fin 4, a ≠ b → c ≠ a → c ≠ b → d ≠ a → d ≠ b → d ≠ c → e = a ∨ e = b ∨ e = c ∨ e = d := by decide
/-- among the first four is one that comes back -/
theorem orb_some {l : List ByteArray} (hl : substB l = true) {k : Nat} (hk : k < l.length) (h1 : ¬ goN l k 1 ∈ orbTo l k 1) (h2 : ¬ goN l k 2 ∈ orbTo l k 2) (h3 : ¬ goN l k 3 ∈ orbTo l k 3) : goN l k 4 ∈ orbTo l k 4 := by
  have h4 := (subst_parts hl).2.1
  have lt : ∀ n, goN l k n < 4 := fun n => by have := goN_lt hl hk n; omega
  simp only [orbTo, List.nil_append, not_or, List.cons_append, List.mem_cons, List.not_mem_nil, or_false] at h1 h2 h3 ⊢
  have p := pigeon ⟨_, lt 0⟩ ⟨_, lt 1⟩ ⟨_, lt 2⟩ ⟨_, lt 3⟩ ⟨_, lt 4⟩
  simp only [ne_eq, Fin.mk.injEq] at p
  omega
theorem orbN_eq {l : List ByteArray} {k n : Nat} (h1 : 1 ≤ n) (h4 : n ≤ 4) (hno : ∀ m, 1 ≤ m → m < n → ¬ goN l k m ∈ orbTo l k m) (hy : goN l k n ∈ orbTo l k n) : orbN l k = n := by
  unfold orbN
  rcases (show n = 1 ∨ n = 2 ∨ n = 3 ∨ n = 4 by omega) with e | e | e | e <;> subst e
  · rw [if_pos hy]
  · rw [if_neg (hno 1 (by omega) (by omega)), if_pos hy]
  · rw [if_neg (hno 1 (by omega) (by omega)), if_neg (hno 2 (by omega) (by omega)), if_pos hy]
  · rw [if_neg (hno 1 (by omega) (by omega)), if_neg (hno 2 (by omega) (by omega)), if_neg (hno 3 (by omega) (by omega))]
theorem backB_iff {l : List ByteArray} {n : Nat} : backB l n = true ↔ ∃ k, k < l.length ∧ goN l k n = k := by
  unfold backB
  simp [List.any_eq_true]
theorem back_some {l : List ByteArray} (hl : substB l = true) : ∃ n, 1 ≤ n ∧ n ≤ 4 ∧ backB l n = true := by
  have hk : 0 < l.length := (subst_parts hl).1
  have key : ∃ n, 1 ≤ n ∧ n ≤ 4 ∧ goN l 0 n ∈ orbTo l 0 n := by
    by_cases h1 : goN l 0 1 ∈ orbTo l 0 1
    · exact ⟨1, by omega, by omega, h1⟩
    by_cases h2 : goN l 0 2 ∈ orbTo l 0 2
    · exact ⟨2, by omega, by omega, h2⟩
    by_cases h3 : goN l 0 3 ∈ orbTo l 0 3
    · exact ⟨3, by omega, by omega, h3⟩
    exact ⟨4, by omega, by omega, orb_some hl hk h1 h2 h3⟩
  obtain ⟨n, a, b, c⟩ := key
  obtain ⟨i, hi, e⟩ := (orbTo_mem l 0 _ n).1 c
  refine ⟨n - i, by omega, by omega, backB_iff.2 ⟨goN l 0 i, goN_lt hl hk i, ?_⟩⟩
  rw [goN_add, show i + (n - i) = n from by omega, e]
theorem powR_eq {l : List ByteArray} (hl : substB l = true) {n : Nat} (h1 : 1 ≤ n) (hno : ∀ m, 1 ≤ m → m < n → backB l m = false) (hy : backB l n = true) : powR l = (n : Int) := by
  have h4 : n ≤ 4 := by
    obtain ⟨m, a, b, c⟩ := back_some hl
    by_cases h : m < n
    · rw [hno m a h] at c; cases c
    · omega
  unfold powR
  rw [if_pos hl]
  rcases (show n = 1 ∨ n = 2 ∨ n = 3 ∨ n = 4 by omega) with e | e | e | e <;> subst e
  · rw [hy]; rfl
  · rw [hno 1 (by omega) (by omega), hy]; rfl
  · rw [hno 1 (by omega) (by omega), hno 2 (by omega) (by omega), hy]; rfl
  · rw [hno 1 (by omega) (by omega), hno 2 (by omega) (by omega), hno 3 (by omega) (by omega)]; rfl
theorem pow_go {l : List ByteArray} (hl : substB l = true) {n : Nat} (hno : ∀ m, 1 ≤ m → m < n → backB l m = false) : n ≤ 4 := by
  obtain ⟨m, a, b, c⟩ := back_some hl
  by_cases h : m < n
  · rw [hno m a h] at c; cases c
  · omega
/-- the letters of an orbit, as a text -/
def orbS (l : List ByteArray) (k n : Nat) : ByteArray := ⟨((orbTo l k n).map letterN).toArray⟩
theorem orbS_size (l : List ByteArray) (k n : Nat) : (orbS l k n).size = n := by
  show ((orbTo l k n).map letterN).toArray.size = n
  simp [orbTo_length]
theorem orbS_succ (l : List ByteArray) (k n : Nat) : orbS l k n ++ ⟨#[letterN (goN l k n)]⟩ = orbS l k (n + 1) := by
  apply bytes_ext
  rw [ByteArray.toList_eq, ByteArray.toList_eq, ByteArray.data_append]
  show _ = (List.map letterN (orbTo l k n ++ [goN l k n]))
  simp [orbS]
theorem letterN_inj {a b : Nat} (ha : a ≤ 3) (hb : b ≤ 3) (h : letterN a = letterN b) : a = b := by
  have := congrArg UInt8.toNat h
  rw [letterN_toNat a (by omega), letterN_toNat b (by omega)] at this
  omega
theorem orbS_has {l : List ByteArray} (hl : substB l = true) {k : Nat} (hk : k < l.length) (n : Nat) (x : Nat) (hx : x ≤ 3) : hasR (orbS l k n) ⟨#[letterN x]⟩ = true ↔ x ∈ orbTo l k n := by
  have h4 := (subst_parts hl).2.1
  have hlen : (orbTo l k n).length = n := orbTo_length l k n
  have hs1 : (⟨#[letterN x]⟩ : ByteArray).size = 1 := rfl
  have hat : ∀ i (hi : i < n), (orbS l k n).extract i (i + 1) = ⟨#[letterN ((orbTo l k n)[i]'(by omega))]⟩ := by
    intro i hi
    apply bytes_ext
    rw [ByteArray.toList_eq, ByteArray.toList_eq]
    simp only [ByteArray.data_extract, orbS]
    simp
    rw [List.drop_eq_getElem_cons (by simpa [hlen] using hi)]
    simp
  have hmem : ∀ y ∈ orbTo l k n, y ≤ 3 := by
    intro y hy
    obtain ⟨i, _, e⟩ := (orbTo_mem l k y n).1 hy
    have := goN_lt hl hk i
    omega
  constructor
  · intro h
    obtain ⟨i, h1, h2⟩ := @of_decide_eq_true _ (Classical.propDecidable _) h
    rw [hs1, orbS_size] at h1
    rw [hs1, hat i (by omega)] at h2
    have h3 : letterN ((orbTo l k n)[i]'(by omega)) = letterN x := by
      injection h2 with h2
      simpa using h2
    have hm : (orbTo l k n)[i]'(by omega) ∈ orbTo l k n := List.getElem_mem _
    rw [← letterN_inj (hmem _ hm) hx h3]
    exact hm
  · intro h
    obtain ⟨i, hi, e⟩ := List.mem_iff_getElem.1 h
    refine hasR_yes (i := i) ⟨by rw [hs1, orbS_size]; omega, ?_⟩
    rw [hs1, hat i (by omega), e]
end Go.Proofs.Ytjmijedfmiplfaa

/- SubstOk of the model, and what it asks of each image. Conditions: lengths of at most 2^20. -/
namespace Go.Proofs.Ytjmijedfmiplfaa
open Go.RowKit

theorem specIn (x a b : Int) (w : World) :
    Calls Try.prog 40 #[.int .i64 x, .int .i64 a, .int .i64 b] w fun e w' => e = .returned (.bool (decide (a ≤ x) && decide (x ≤ b))) ∧ w = w' := by
  by_cases h1 : a ≤ x
  · have hd1 : decide (a ≤ x) = true := by simpa using h1
    go_enter Try.func40, Try.ntmps40
    go_wp2
    go_ret
    exact ⟨ret_bool (by simp [h1]), rfl⟩
  · have hd1 : decide (a ≤ x) = false := by simpa using h1
    go_enter Try.func40, Try.ntmps40
    go_wp2
    go_ret
    exact ⟨ret_bool (by simp), rfl⟩

set_option maxHeartbeats 400000 in
theorem specWithin (n : Nat) (s : ByteArray) (w : World) (_ : n ≤ 1048576) (h : wordB s = true) :
    Calls Try.prog 72 #[.int .i64 n, .string s] w fun e w' => e = .returned (.bool (withinB n s)) ∧ w = w' := by
  have hs := word_size h
  have HW := Lib.hid (word_at h)
  clear h
  go_enter Try.func72, Try.ntmps72
  go_wp2
  go_loop [5] (fun i => ∃ k : Nat, k ≤ s.size ∧ i = .int .i64 k ∧ (s.data.toList.take k).all (fun c => decide (c.toNat < 97 + n)) = true) (fun i => s.size - (intOf i).toNat)
  case atStart => exact ⟨0, Nat.zero_le _, rfl, rfl⟩
  case round =>
    obtain ⟨k, hk, rfl, ha⟩ := hrel
    have HA := Lib.hid ha
    clear ha
    by_cases hlt : k < s.size
    · obtain ⟨p1, p2⟩ := HW.out k hlt
      have p1' : (97 : Int) ≤ s[k].toNat := by omega
      have p2' : (s[k].toNat : Int) ≤ 100 := by omega
      clear p1 p2
      by_cases hc : s[k].toNat < 97 + n
      · have hge : ¬ ((n : Int) ≤ (s[k].toNat : Int) - 97) := by omega
        have HC := Lib.hid hc
        clear hc
        go_wp2
        go_round
        case rel => exact ⟨k + 1, by omega, by go_num, all_snoc s k hlt HA.out (by simpa using HC.out)⟩
        case measure => simp [intOf]; omega
      · have hge : (n : Int) ≤ (s[k].toNat : Int) - 97 := by omega
        have HN : Hid (withinB n s = false) := by
          show withinB n s = false
          exact all_not s k hlt (by simpa using hc)
        clear hc
        go_wp2
        go_ret
        exact ⟨ret_bool HN.out.symm, rfl⟩
    · have hk' : k = s.size := by omega
      subst hk'
      have HY : Hid (withinB n s = true) := by
        have := HA.out
        rw [take_all s _ (Nat.le_refl _)] at this
        exact this
      go_wp2
      go_ret
      exact ⟨ret_bool HY.out.symm, rfl⟩

end Go.Proofs.Ytjmijedfmiplfaa

/- A row of bytes of the call's own: its conversion to a text. -/
namespace Go.Proofs.Ytjmijedfmiplfaa
open Go.RowKit

def byteCells (l : List UInt8) : List Value := l.map fun b => .int .u8 (b.toNat : Int)
theorem byteCells_length (l : List UInt8) : (byteCells l).length = l.length := by simp [byteCells]
theorem byteCells_snoc (l : List UInt8) (b : UInt8) : byteCells (l ++ [b]) = byteCells l ++ [.int .u8 (b.toNat : Int)] := by simp [byteCells]
theorem byteCells_one (l : List UInt8) : ∀ u ∈ byteCells l, u.oneCell' = true := by
  intro u hu
  simp only [byteCells, List.mem_map] at hu
  obtain ⟨b, _, rfl⟩ := hu
  rfl
theorem u8_info : (Try.prog.info? 5).map (fun i => (i.zero, i.size, i.bytes)) = some (some (.int .u8 0), 1, 1) := by kernel_rfl
theorem conv_own_to {ts : TypeId} (hts : Try.prog.underlying ts = some .string) {w : World} {B n : Nat} {v : Value} {l : List UInt8} (h : w.ownsRow B 5 1 v n (byteCells l)) :
    (convert 42 ts v).run Try.prog w = .ok (.string ⟨l.toArray⟩) w := by
  have hl := h.1
  rw [Nat.mul_one, byteCells_length] at hl
  subst hl
  rcases h.2 with ⟨rfl, hn⟩ | ⟨g, cap, cur, rfl, _, _, _, _, _, _⟩
  · have e := List.eq_nil_of_length_eq_zero hn
    subst e
    rw [run_convert_bytes_string w _ _ _ none 0 0 Try.underlying42 Try.underlying5 hts]
    simp [Conv.bytesToString]
    rfl
  · refine run_convert_bytes_back w _ _ _ _ _ l Try.underlying42 Try.underlying5 hts (fun j hj => ?_)
    exact h.cells (g := g) rfl j _ (by simp [byteCells, hj])
theorem conv_own {w : World} {B n : Nat} {v : Value} {l : List UInt8} (h : w.ownsRow B 5 1 v n (byteCells l)) :
    (convert 42 9 v).run Try.prog w = .ok (.string ⟨l.toArray⟩) w := conv_own_to Try.underlying9 h
/-- one more byte of L laid over the old cells zs -/
theorem byteCells_set (L : List UInt8) (zs : List Value) (k : Nat) (hk : k < L.length) (hz : zs.length = L.length) :
    (byteCells (L.take k) ++ zs.drop k).set k (.int .u8 (L[k].toNat : Int)) = byteCells (L.take (k + 1)) ++ zs.drop (k + 1) := by
  have hd : zs.drop k = zs[k]'(by omega) :: zs.drop (k + 1) := List.drop_eq_getElem_cons _
  have hlk : (byteCells (L.take k)).length = k := by rw [byteCells_length, List.length_take]; omega
  rw [List.take_succ_eq_append_getElem hk, hd, List.set_append_right _ _ (by omega), hlk, Nat.sub_self, List.set_cons_zero, byteCells_snoc, List.append_assoc]
  rfl
theorem byteCells_get (L : List UInt8) (zs : List Value) (k : Nat) (hk : k < L.length) (hz : zs.length = L.length) : ∃ u, (byteCells (L.take k) ++ zs.drop k)[k]? = some u :=
  ⟨(byteCells (L.take k) ++ zs.drop k)[k]'(by rw [List.length_append, byteCells_length, List.length_take, List.length_drop]; omega), List.getElem?_eq_getElem _⟩
theorem byteCells_end (L : List UInt8) (zs : List Value) (hz : zs.length = L.length) : byteCells (L.take L.length) ++ zs.drop L.length = byteCells L := by
  rw [List.take_length, List.drop_of_length_le (by omega), List.append_nil]

set_option maxRecDepth 100000 in
/-- a text turned into a new row of bytes -/
theorem conv_text (w : World) (s : ByteArray) {ts : TypeId} (hts : Try.prog.underlying ts = some .string) :
    ∃ c wc, (convert ts 42 (.string s)).run Try.prog w = .ok (.slice (some ⟨w.heap.size, 0, none⟩) s.size c) wc ∧ Below w.heap.size w wc ∧ w.heap.size < wc.heap.size ∧ ∀ (j : Nat) (u : Value), (byteCells s.data.toList)[j]? = some u → wc.cell? ⟨w.heap.size, j, none⟩ = some u := by
  refine ⟨_, _, run_bytes_of_string w _ _ 5 s hts Try.underlying42 Try.underlying5, ((Below.refl _ _).drew).alloc (Nat.le_refl _) _, by simp, fun j u hu => ?_⟩
  have hj : j < s.data.size := by
    have := (List.getElem?_eq_some_iff.1 hu).1
    rw [byteCells_length] at this
    simpa using this
  have e : u = .int .u8 (s.data[j].toNat : Int) := by
    simp only [byteCells, List.getElem?_map, Option.map_eq_some_iff] at hu
    obtain ⟨a, ha, rfl⟩ := hu
    rw [Array.getElem?_toList, Array.getElem?_eq_getElem hj] at ha
    injection ha with ha
    rw [ha]
  rw [e, ← bytesRow_at s (grownCap w s.size 0 5) j hj]
  exact cell_of_row _ w.heap.size j (bytesRow s (grownCap w s.size 0 5)) 5 ((bytesRow s (grownCap w s.size 0 5)).size, (bytesRow s (grownCap w s.size 0 5)).size + 1) (by simp [World.alloc, World.drew, -World.alloc_eq, -World.drew_eq])
end Go.Proofs.Ytjmijedfmiplfaa

/- What the model makes of a word under a substitution. Condition: the substitution and the word are valid. -/
namespace Go.Proofs.Ytjmijedfmiplfaa
open Go.RowKit

def ApplySaid (l : List ByteArray) (s : ByteArray) (w : World) (e : Ending) (w' : World) : Prop :=
  Below w.heap.size w w' ∧ ∃ r : ByteArray, e = .returned (.string r) ∧ r.size ≤ 408 ∧ ((applyL l s.data.toList).length ≤ 400 → r = ⟨(applyL l s.data.toList).toArray⟩) ∧ (400 < (applyL l s.data.toList).length → 400 < r.size)

theorem lst_at {w : World} {v : Value} {l : List ByteArray} (h : Lst w v (strs l)) (h0 : 0 < l.length) : ∃ b off cap, v = .slice (some ⟨b, off, none⟩) l.length cap ∧ ∀ k (hk : k < l.length), w.cell? ⟨b, off + k, none⟩ = some (.string l[k]) := by
  obtain ⟨A, cap, h1, _, _, h2⟩ := h
  rw [strs_length] at h1
  rcases h2 with h2 | ⟨b, off, rfl, h2⟩
  · have := congrArg List.length h2
    rw [strs_length] at this
    simp only [List.length_nil] at this
    omega
  · exact ⟨b, off, cap, h1, fun k hk => strs_at h2 k hk⟩

end Go.Proofs.Ytjmijedfmiplfaa
