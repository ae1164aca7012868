/- Texts put together. -/
import Derived.Test.YtfcbfflkajlhnaaChecked
import Derived.Test.YtfcbfflkajlhnaaMgU2
import Derived.Laws.IdiomStrings
import Derived.Deep.RegionWith
import Derived.Deep.RegionHeld3
import Derived.Deep.QuietTactic
import Derived.BigQuiet
import Derived.Deep.Draws
import Derived.Test.YtfcbfflkajlhnaaMgU1
/- A row of bytes of the call's own: its conversion to a text. -/
namespace Go.Proofs.Ytfcbfflkajlhnaa
open Go.RowKit

def byteCells (l : List UInt8) : List Value := l.map fun b => .int .u8 (b.toNat : Int)
theorem byteCells_length (l : List UInt8) : (byteCells l).length = l.length := by simp [byteCells]
theorem byteCells_snoc (l : List UInt8) (b : UInt8) : byteCells (l ++ [b]) = byteCells l ++ [.int .u8 (b.toNat : Int)] := by simp [byteCells]
theorem byteCells_one (l : List UInt8) : ∀ u ∈ byteCells l, u.oneCell' = true := by
  intro u hu
  simp only [byteCells, List.mem_map] at hu
  obtain ⟨b, _, rfl⟩ := hu
  rfl
theorem u8_info : (Try.prog.info? 5).map (fun i => (i.zero, i.size, i.bytes)) = some (some (.int .u8 0), 1, 1) := by kernel_rfl
theorem conv_own_to {ts : TypeId} (hts : Try.prog.underlying ts = some .string) {w : World} {B n : Nat} {v : Value} {l : List UInt8} (h : w.ownsRow B 5 1 v n (byteCells l)) :
    (convert 22 ts v).run Try.prog w = .ok (.string ⟨l.toArray⟩) w := by
  have hl := h.1
  rw [Nat.mul_one, byteCells_length] at hl
  subst hl
  rcases h.2 with ⟨rfl, hn⟩ | ⟨g, cap, cur, rfl, _, _, _, _, _, _⟩
  · have e := List.eq_nil_of_length_eq_zero hn
    subst e
    rw [run_convert_bytes_string w _ _ _ none 0 0 Try.underlying22 Try.underlying5 hts]
    simp [Conv.bytesToString]
    rfl
  · refine run_convert_bytes_back w _ _ _ _ _ l Try.underlying22 Try.underlying5 hts (fun j hj => ?_)
    exact h.cells (g := g) rfl j _ (by simp [byteCells, hj])
theorem conv_own {w : World} {B n : Nat} {v : Value} {l : List UInt8} (h : w.ownsRow B 5 1 v n (byteCells l)) :
    (convert 22 9 v).run Try.prog w = .ok (.string ⟨l.toArray⟩) w := conv_own_to Try.underlying9 h
/-- one more byte of L laid over the old cells zs -/
theorem byteCells_set (L : List UInt8) (zs : List Value) (k : Nat) (hk : k < L.length) (hz : zs.length = L.length) :
    (byteCells (L.take k) ++ zs.drop k).set k (.int .u8 (L[k].toNat : Int)) = byteCells (L.take (k + 1)) ++ zs.drop (k + 1) := by
  have hd : zs.drop k = zs[k]'(by omega) :: zs.drop (k + 1) := List.drop_eq_getElem_cons _
  have hlk : (byteCells (L.take k)).length = k := by rw [byteCells_length, List.length_take]; omega
  rw [List.take_succ_eq_append_getElem hk, hd, List.set_append_right _ _ (by omega), hlk, Nat.sub_self, List.set_cons_zero, byteCells_snoc, List.append_assoc]
  rfl
theorem byteCells_get (L : List UInt8) (zs : List Value) (k : Nat) (hk : k < L.length) (hz : zs.length = L.length) : ∃ u, (byteCells (L.take k) ++ zs.drop k)[k]? = some u :=
  ⟨(byteCells (L.take k) ++ zs.drop k)[k]'(by rw [List.length_append, byteCells_length, List.length_take, List.length_drop]; omega), List.getElem?_eq_getElem _⟩
theorem byteCells_end (L : List UInt8) (zs : List Value) (hz : zs.length = L.length) : byteCells (L.take L.length) ++ zs.drop L.length = byteCells L := by
  rw [List.take_length, List.drop_of_length_le (by omega), List.append_nil]

set_option maxRecDepth 100000 in
/-- a text turned into a new row of bytes -/
theorem conv_text (w : World) (s : ByteArray) {ts : TypeId} (hts : Try.prog.underlying ts = some .string) :
    ∃ c wc, (convert ts 22 (.string s)).run Try.prog w = .ok (.slice (some ⟨w.heap.size, 0, none⟩) s.size c) wc ∧ Below w.heap.size w wc ∧ w.heap.size < wc.heap.size ∧ ∀ (j : Nat) (u : Value), (byteCells s.data.toList)[j]? = some u → wc.cell? ⟨w.heap.size, j, none⟩ = some u := by
  refine ⟨_, _, run_bytes_of_string w _ _ 5 s hts Try.underlying22 Try.underlying5, ((Below.refl _ _).drew).alloc (Nat.le_refl _) _, by simp, fun j u hu => ?_⟩
  have hj : j < s.data.size := by
    have := (List.getElem?_eq_some_iff.1 hu).1
    rw [byteCells_length] at this
    simpa using this
  have e : u = .int .u8 (s.data[j].toNat : Int) := by
    simp only [byteCells, List.getElem?_map, Option.map_eq_some_iff] at hu
    obtain ⟨a, ha, rfl⟩ := hu
    rw [Array.getElem?_toList, Array.getElem?_eq_getElem hj] at ha
    injection ha with ha
    rw [ha]
  rw [e, ← bytesRow_at s (grownCap w s.size 0 5) j hj]
  exact cell_of_row _ w.heap.size j (bytesRow s (grownCap w s.size 0 5)) 5 ((bytesRow s (grownCap w s.size 0 5)).size, (bytesRow s (grownCap w s.size 0 5)).size + 1) (by simp [World.alloc, World.drew, -World.alloc_eq, -World.drew_eq])
end Go.Proofs.Ytfcbfflkajlhnaa

/- The laws' own helpers on slices of strings: markText, markStringS, heldStringS, eqStringS, as contracts. Conditions: lengths as Go has them. -/
namespace Go.Proofs.Ytfcbfflkajlhnaa
open Go.RowKit

/-- decimal digits, the last first laid; the fuel is above the number -/
def decF : Nat → Nat → List UInt8 → List UInt8
  | 0, _, out => out
  | f + 1, k, out => if k = 0 then out else decF f (k / 10) (UInt8.ofNat (48 + k % 10) :: out)
theorem decF_zero (f : Nat) (out : List UInt8) : decF f 0 out = out := by cases f <;> simp [decF]
def markL (k : Int) : List UInt8 := if k ≤ 0 then [109, 48] else 109 :: decF 20 k.toNat []
def markS (k : Int) : ByteArray := ⟨(markL k).toArray⟩

set_option maxHeartbeats 400000 in
theorem markText_any (k : Int) (w : World) (h1 : k ≤ 9223372036854775807) :
    Calls Try.prog 97 #[.int .i64 k] w fun e w' => e = .returned (.string (markS k)) ∧ Below w.heap.size w w' := by
  by_cases h0 : k ≤ 0
  · go_enter Try.func97, Try.ntmps97
    go_wp2
    go_ret
    exact ⟨ret_str (by simp [markS, markL, h0]), Below.refl _ _⟩
  · have kc := fun (w : World) (b : Int) => run_conv1 (P := Try.prog) w 22 9 5 Try.underlying22 Try.underlying5 Try.underlying9 b
    obtain ⟨n, rfl⟩ := Int.eq_ofNat_of_zero_le (show 0 ≤ k by omega)
    have hm : markS (n : Int) = ⟨(109 :: decF 20 n []).toArray⟩ := by simp [markS, markL]; omega
    have HM := Lib.hid hm
    clear hm
    go_enter Try.func97, Try.ntmps97
    go_wp2
    go_loopw [0, 3] (fun j o w' => ∃ (m f : Nat) (out : List UInt8), m < 10 ^ f ∧ m ≤ n ∧ j = .int .i64 m ∧ o = .string ⟨out.toArray⟩ ∧ decF f m out = decF 20 n [] ∧ out.length + f = 20 ∧ Below w.heap.size w w') (fun j _ _ => (intOf j).toNat)
    case atStart => exact ⟨n, 20, [], by omega, by omega, rfl, rfl, rfl, by simp, Below.refl _ _⟩
    case round =>
      obtain ⟨m, f, out, hmf, hmn, rfl, rfl, hd, hlen, hb⟩ := hrel
      have HD := Lib.hid hd
      have HF := Lib.hid hmf
      have HL := Lib.hid hlen
      have hlen' : out.length ≤ 20 := by omega
      clear hd hmf hlen
      have hsz := hb.size
      by_cases hm0 : 0 < m
      · go_wp2
        go_roundw
        case rel =>
          have hF := HF.out
          have hL := HL.out
          cases f with
          | zero => rw [Nat.pow_zero] at hF; omega
          | succ g =>
            rw [Nat.pow_succ] at hF
            refine ⟨m / 10, g, UInt8.ofNat (48 + m % 10) :: out, by omega, by omega, by go_num, ?_, ?_, by rw [List.length_cons]; omega, ?_⟩
            · show Value.string (ByteArray.mk [(48 : UInt8) + UInt8.ofNat (m % 10)].toArray ++ ByteArray.mk out.toArray) = _
              rw [ByteArray.mk_append_mk]
              simp
            · rw [← HD.out]
              simp only [decF]
              rw [if_neg (by omega)]
            · exact hb.alloc hsz _
        case measure => simp [intOf]; omega
      · have hmz : m = 0 := by omega
        subst hmz
        go_wp2
        go_ret
        refine ⟨ret_str ?_, hb⟩
        rw [HM.out, ← HD.out, decF_zero, ByteArray.mk_append_mk]; rfl

/-- Two lists of strings that are the same: eqStringS says so. -/
theorem eqStringS_same (l : List ByteArray) (v1 v2 : Value) (w : World) (h1 : Lst w v1 (strs l)) (h2 : Lst w v2 (strs l)) :
    Calls Try.prog 48 #[v1, v2] w fun e w' => e = .returned (.bool true) ∧ ∃ n, w' = w.drewN n := by
  obtain ⟨A, c, rfl, hc1, hc2, h1⟩ := h1
  obtain ⟨A', c', rfl, hc1', hc2', h2⟩ := h2
  rw [strs_length] at hc1 hc1'
  rw [strs_length]
  have hmax : l.length ≤ 9223372036854775807 := by unfold maxLen at hc2; omega
  clear hc2 hc2' hc1 hc1'
  have hnn : ((l.length : Int) != (l.length : Int)) = false := by simp
  by_cases hl : l = []
  · subst hl
    go_enter Try.func48, Try.ntmps48
    go_wp2
    refine wp_loop_rounds 1 ?_
    rw [rounds_succ]
    go_wp2
    go_ret
    exact ⟨rfl, 0, rfl⟩
  replace h1 := h1.resolve_left (by simp [strs, hl])
  replace h2 := h2.resolve_left (by simp [strs, hl])
  obtain ⟨b, off, rfl, h1⟩ := h1
  obtain ⟨b', off', rfl, h2⟩ := h2
  have hpos : 0 < l.length := List.length_pos_iff.2 hl
  have H1 := Lib.hid (strs_at h1)
  have H2 := Lib.hid (strs_at h2)
  clear h1 h2 hl
  go_enter Try.func48, Try.ntmps48
  go_wp2
  go_loopw [5] (fun i w' => ∃ (k n : Nat), k ≤ l.length ∧ i = .int .i64 k ∧ w' = w.drewN n) (fun i _ => l.length - (intOf i).toNat)
  case atStart => exact ⟨0, 0, by omega, rfl, rfl⟩
  case round =>
    obtain ⟨k, n, hk, rfl, rfl⟩ := hrel
    by_cases hlt : k < l.length
    · have g1 := H1.out k hlt
      have g2 := H2.out k hlt
      go_wp2
      go_quiet (fail)
      go_wp2
      go_roundw
      case rel => exact ⟨k + 1, _, by omega, by go_num, rfl⟩
      case measure => simp [intOf]; omega
    · go_wp2
      go_ret
      exact ⟨rfl, n, rfl⟩

/-- the n marks from k on -/
def marks (k : Int) (n : Nat) : List ByteArray := (List.range n).map fun (i : Nat) => markS (k + (i : Int))
theorem marks_length (k : Int) (n : Nat) : (marks k n).length = n := by simp [marks]
theorem marks_at (k : Int) (n i : Nat) (h : i < n) : (marks k n)[i]'(by simpa [marks] using h) = markS (k + i) := by simp [marks]
theorem marks_succ (k : Int) (n : Nat) : strs (marks k (n + 1)) = strs (marks k n) ++ [.string (markS (k + n))] := by simp [marks, strs, List.range_succ]

/-- A slice of marks: heldStringS counts them. -/
theorem heldStringS_marks (v : Value) (k : Int) (n : Nat) (w : World) (hk : 0 ≤ k) (hkn : k + n ≤ 9223372036854775807) (h1 : Lst w v (strs (marks k n))) :
    Calls Try.prog 50 #[v, .int .i64 k] w fun e w' => e = .returned (.int .i64 (k + n)) ∧ Below w.heap.size w w' := by
  obtain ⟨A, c, rfl, hc1, hc2, h1⟩ := h1
  rw [strs_length, marks_length] at hc1
  rw [strs_length, marks_length]
  unfold maxLen at hc2
  have hmax : n ≤ 9223372036854775807 := by omega
  clear hc2 hc1
  by_cases hl : n = 0
  · subst hl
    go_enter Try.func50, Try.ntmps50
    go_wp2
    refine wp_loop_rounds 1 ?_
    rw [rounds_succ]
    go_wp2
    go_ret
    exact ⟨ret_int (by simp), Below.refl _ _⟩
  replace h1 := h1.resolve_left (by
    intro e
    have := congrArg List.length e
    rw [strs_length, marks_length] at this
    exact hl this)
  obtain ⟨b, off, rfl, h1⟩ := h1
  have H1 : Hid (∀ i, i < n → w.cell? ⟨b, off + i, none⟩ = some (.string (markS (k + i)))) := fun i hi => by
    have := strs_at h1 i (by rw [marks_length]; exact hi)
    rwa [marks_at _ _ _ hi] at this
  clear h1
  go_enter Try.func50, Try.ntmps50
  go_wp2
  go_loopw [1, 5] (fun q i w' => ∃ (j : Nat), j ≤ n ∧ i = .int .i64 j ∧ q = .int .i64 (k + j) ∧ Below w.heap.size w w') (fun _ i _ => n - (intOf i).toNat)
  case atStart => exact ⟨0, by omega, rfl, by simp, Below.refl _ _⟩
  case round =>
    obtain ⟨j, hj, rfl, rfl, hb⟩ := hrel
    by_cases hlt : j < n
    · have g1 : wr.cell? ⟨b, off + j, none⟩ = some (.string (markS (k + j))) := (hb.cell (World.block_lt_of_cell? w _ (H1.out j hlt))).trans (H1.out j hlt)
      have hkj : k + (j : Int) ≤ 9223372036854775806 := by omega
      have hkj0 : 0 ≤ k + (j : Int) := by omega
      go_wp2
      go_region_held3 (fun w' => w'.cell? ⟨b, off + j, none⟩ = some (.string (markS (k + j)))) (first | go_keep | exact (hb'.cell (World.block_lt_of_cell? _ _ g1)).trans g1)
        (first | (go_at_call 97; refine (markText_any _ _ (by omega)).mono ?_; rintro e w' ⟨rfl, hb'⟩))
      go_wp2
      go_roundw
      case rel => exact ⟨j + 1, by omega, by go_num, by rw [show k + (j : Int) + 1 = k + ((j + 1 : Nat) : Int) from by omega], hb.drew.trans (hb'.mono hb.size)⟩
      case measure => simp [intOf]; omega
    · have hjn : j = n := by omega
      subst hjn
      go_wp2
      go_ret
      exact ⟨rfl, hb⟩

/-- A slice of the call's own: markStringS lays the marks into it. -/
theorem markStringS_own (B : Nat) (v : Value) (k : Int) (n : Nat) (xs : List Value) (w : World) (hk : 0 ≤ k) (hkn : k + n ≤ 9223372036854775807) (hown : w.ownsRow B 9 1 v n xs) :
    Calls Try.prog 49 #[v, .int .i64 k] w fun e w' => e = .returned (.int .i64 (k + n)) ∧ w'.ownsRow B 9 1 v n (strs (marks k n)) ∧ w.grownBy w' v.ownBlock := by
  have hlen := hown.1
  rw [Nat.mul_one] at hlen
  rcases hown.2 with ⟨rfl, rfl⟩ | ⟨g, cap, cur, rfl, hBg, hg, hnc, hcm, _, _⟩
  · have hx : xs = [] := List.eq_nil_of_length_eq_zero hlen
    subst hx
    go_enter Try.func49, Try.ntmps49
    go_wp2
    refine wp_loop_rounds 1 ?_
    rw [rounds_succ]
    go_wp2
    go_ret
    exact ⟨ret_int (by simp), hown, World.grownBy.refl _ _⟩
  have hmax : n ≤ 9223372036854775807 := by unfold maxLen at hcm; omega
  clear hcm hnc hg
  have HX := Lib.hid hlen
  clear hlen
  go_enter Try.func49, Try.ntmps49
  go_wp2
  go_loopw [1, 5] (fun q i w' => ∃ (j : Nat), j ≤ n ∧ i = .int .i64 j ∧ q = .int .i64 (k + j) ∧ w'.ownsRow B 9 1 (.slice (some ⟨g, 0, none⟩) n cap) n (strs (marks k j) ++ xs.drop j) ∧ w.grownBy w' (some g)) (fun _ i _ => n - (intOf i).toNat)
  case atStart => exact ⟨0, by omega, rfl, by simp, by simpa [marks, strs] using hown, World.grownBy.refl _ _⟩
  case round =>
    obtain ⟨j, hj, rfl, rfl, ho, hgr⟩ := hrel
    by_cases hlt : j < n
    · have hkj : k + (j : Int) ≤ 9223372036854775806 := by omega
      have hkj0 : 0 ≤ k + (j : Int) := by omega
      have hcell : ∃ u, (strs (marks k j) ++ xs.drop j)[j]? = some u := ⟨(strs (marks k j) ++ xs.drop j)[j]'(by rw [List.length_append, strs_length, marks_length, List.length_drop, HX.out]; omega), List.getElem?_eq_getElem _⟩
      obtain ⟨u, hu⟩ := hcell
      have hset : (strs (marks k j) ++ xs.drop j).set j (.string (markS (k + j))) = strs (marks k (j + 1)) ++ xs.drop (j + 1) := by
        have hd : xs.drop j = xs[j]'(by rw [HX.out]; exact hlt) :: xs.drop (j + 1) := List.drop_eq_getElem_cons _
        rw [marks_succ, hd, List.set_append_right _ _ (by rw [strs_length, marks_length]; exact Nat.le_refl _), strs_length, marks_length, Nat.sub_self, List.set_cons_zero, List.append_assoc]
        rfl
      have HS := Lib.hid hset
      have HU := Lib.hid hu
      clear hset hu
      go_wp2_with (go_at_call 97; refine (markText_any _ _ (by omega)).mono ?_; rintro e w1 ⟨rfl, hb1⟩; have ho1 := ho.kept (grown_of_below hb1 none) (.inr (by simp [Value.ownBlock])); have hc1 := (ho1.cellAt j (by omega)).trans HU.out; have hf1 := ho1.frozenAt j)
      go_roundw
      case rel =>
        refine ⟨j + 1, by omega, by go_num, by rw [show k + (j : Int) + 1 = k + ((j + 1 : Nat) : Int) from by omega], ?_, ?_⟩
        · have := (ho1.stored j (.string (markS (k + j)))).1
          rwa [HS.out] at this
        · exact grown_trans (grown_trans hgr (grown_of_below hb1 _)) (ho1.stored j (.string (markS (k + j)))).2
      case measure => simp [intOf]; omega
    · have hjn : j = n := by omega
      subst hjn
      go_wp2
      go_ret
      rw [List.drop_of_length_le (by rw [HX.out]; exact Nat.le_refl _), List.append_nil] at ho
      exact ⟨rfl, ho, hgr⟩
end Go.Proofs.Ytfcbfflkajlhnaa

/- A closed fact on the type string: its zero, its size. -/
namespace Go.Proofs.Ytfcbfflkajlhnaa
theorem str_info : (Try.prog.info? 9).map (fun i => (i.zero, i.size, i.bytes)) = some (some (.string ⟨#[]⟩), 1, 16) := by kernel_rfl
theorem cellsOf_str : Try.prog.cellsOf 9 = 1 := by kernel_rfl
end Go.Proofs.Ytfcbfflkajlhnaa
