/- Texts put together. -/
import Derived.Test.YtfcbfflkajlhnaaMgT15
import Derived.Test.YtfcbfflkajlhnaaMgT14
import Derived.Test.YtfcbfflkajlhnaaMgT2
import Derived.Test.YtfcbfflkajlhnaaMgT13
import Derived.Laws.Cover1
import Derived.Deep.QuietTactic
import Derived.BigQuiet
import Derived.Test.YtfcbfflkajlhnaaMgT11
import Derived.Test.YtfcbfflkajlhnaaMgT8
import Derived.Test.YtfcbfflkajlhnaaMgT10
/- The start of a fixed point, of the model. Conditions: lengths of at most 2^20. -/
namespace Go.Proofs.Ytfcbfflkajlhnaa
open Go.RowKit

section
variable {l : List ByteArray} {k : Nat} (hl : substB l = true) (hk : k < l.length) (hg : growB l k = true)
include hl hk hg
theorem fixL_head (i : Nat) : ∃ r, fixL l k (i + 1) = letterN k :: r ∧ r.length = i := by
  obtain ⟨r, e⟩ := iterL_head hl hk hg (i + 1)
  have h := fixL_length hl hk hg (i + 1)
  unfold fixL at h ⊢
  rw [e, List.take_succ_cons] at h ⊢
  exact ⟨_, rfl, by simpa using h⟩
/-- the images of the first i letters are more than i letters -/
theorem build_long (i : Nat) : i + 2 ≤ (applyL l (fixL l k (i + 1))).length := by
  obtain ⟨r, e, hr⟩ := fixL_head hl hk hg i
  obtain ⟨q, e2, h2⟩ := grow_img hl hk hg
  have hw : Within l r := by
    intro c hc
    refine iterL_within hl hk (i + 1) c ?_
    exact List.mem_of_mem_take (show c ∈ (iterL l [letterN k] (i + 1)).take (i + 1) from by
      show c ∈ fixL l k (i + 1)
      rw [e]; exact List.mem_cons_of_mem _ hc)
  have := apply_grows hl hw
  rw [e, show letterN k :: r = [letterN k] ++ r from rfl, applyL_app, e2, List.length_append]
  simp
  omega
omit hl hk hg in
theorem build_pre (i : Nat) : IsPre l k (applyL l (fixL l k i)) := pre_apply (fixL_pre l k i)
/-- one more letter, and its image -/
theorem build_step (i : Nat) : ∃ (h : i + 1 < (applyL l (fixL l k (i + 1))).length) (j : Nat) (hj : j < l.length), (applyL l (fixL l k (i + 1)))[i + 1].toNat = 97 + j ∧ applyL l (fixL l k (i + 2)) = applyL l (fixL l k (i + 1)) ++ l[j].data.toList := by
  have h1 := build_long hl hk hg i
  have h : i + 1 < (applyL l (fixL l k (i + 1))).length := by omega
  have hp := build_pre (l := l) (k := k) (i + 1)
  have e1 := pre_take hl hk hg hp (i + 1) (by omega)
  have e2 := pre_take hl hk hg hp (i + 2) (by omega)
  have hw : ∀ m, Within l (fixL l k m) := fun m c hc => iterL_within hl hk m c (List.mem_of_mem_take hc)
  have hw2 := hw (i + 2)
  have e0 : applyL l (fixL l k (i + 2)) = applyL l ((applyL l (fixL l k (i + 1))).take (i + 2)) := by rw [e2]
  rw [← e2] at hw2
  rw [e0]
  generalize hp' : applyL l (fixL l k (i + 1)) = p at h e1 hw2 ⊢
  have e3 : p.take (i + 2) = p.take (i + 1) ++ [p[i + 1]] := List.take_succ_eq_append_getElem h
  have hm : p[i + 1] ∈ p.take (i + 2) := by rw [e3]; exact List.mem_append_right _ (List.mem_singleton.2 rfl)
  obtain ⟨a, b⟩ := hw2 _ hm
  obtain ⟨j, hj⟩ : ∃ j, p[i + 1].toNat = 97 + j := ⟨p[i + 1].toNat - 97, by omega⟩
  have hjl : j < l.length := by omega
  refine ⟨h, j, hjl, hj, ?_⟩
  rw [e3, applyL_app, e1, hp']
  congr 1
  show imgOf l _ ++ [] = _
  rw [List.append_nil, imgOf_at l _ j hj hjl]
theorem build_one : applyL l (fixL l k 1) = l[k].data.toList := by
  have h4 := (subst_parts hl).2.1
  obtain ⟨r, e, hr⟩ := fixL_head hl hk hg 0
  have : r = [] := List.eq_nil_of_length_eq_zero hr
  subst this
  rw [e]
  show imgOf l (letterN k) ++ [] = _
  rw [imgOf_at l _ k (letterN_toNat k (by omega)) hk, List.append_nil]
theorem build_end (i n : Nat) (hn : n ≤ (applyL l (fixL l k i)).length) : (applyL l (fixL l k i)).take n = fixL l k n := pre_take hl hk hg (build_pre i) n hn
end

set_option maxHeartbeats 1000000 in
theorem specStart (l : List ByteArray) (v : Value) (k n : Nat) (w : World) (h : Lst w v (strs l)) (hl : substB l = true) (hk : k < l.length) (hg : growB l k = true) (hn : n ≤ 400) :
    Calls Try.prog 85 #[.agg #[v], .int .i64 k, .int .i64 n] w fun e w' => e = .returned (.string ⟨(fixL l k n).toArray⟩) ∧ Below w.heap.size w w' := by
  obtain ⟨i0, hi0, hz0, hz1, hz2⟩ := info_parts u8_info
  obtain ⟨hl1, hl4, hl5⟩ := subst_parts hl
  obtain ⟨b, off, cp, rfl, hat⟩ := lst_at h (by omega)
  have hb0 : Below w.heap.size w (w.alloc (.cells #[.slice (some ⟨b, off, none⟩) l.length cp] 25)) := (Below.refl _ _).alloc (Nat.le_refl _) _
  have g1 : (w.alloc (.cells #[.slice (some ⟨b, off, none⟩) l.length cp] 25)).cell? ⟨b, off + k, none⟩ = some (.string l[k]) := by
    have hc := hat k hk
    rw [← hc]
    exact hb0.cell (p := ⟨b, off + k, none⟩) (World.block_lt_of_cell? w _ hc)
  obtain ⟨vb, wc, hrun, hown, hbel⟩ := ownB_text (w.alloc (.cells #[.slice (some ⟨b, off, none⟩) l.length cp] 25)) l[k] Try.underlying9 (by have := (img_parts (hl5 k hk)).2.1; unfold maxLen; omega)
  have HAT := Lib.hid hat
  have HB0 := Lib.hid hb0
  clear hat hb0 h
  go_enter Try.func85, Try.ntmps85
  go_wp2
  have hzW : (w.alloc (.cells #[.slice (some ⟨b, off, none⟩) l.length cp] 25)).heap.size = w.heap.size + 1 := by simp
  have c0 : (w.alloc (.cells #[.slice (some ⟨b, off, none⟩) l.length cp] 25)).cell? ⟨w.heap.size, 0, none⟩ = some (.slice (some ⟨b, off, none⟩) l.length cp) := by rw [World.cell?_alloc_at _ _ _ _ rfl]; rfl
  have HAT0 : Hid (∀ j (hj : j < l.length), (w.alloc (.cells #[.slice (some ⟨b, off, none⟩) l.length cp] 25)).cell? ⟨b, off + j, none⟩ = some (.string l[j])) := fun j hj => by
    have hc := HAT.out j hj
    rw [← hc]
    exact HB0.out.cell (p := ⟨b, off + j, none⟩) (World.block_lt_of_cell? w _ hc)
  rw [← build_one hl hk hg] at hown
  have HOWN := Lib.hid hown
  have HBEL := Lib.hid hbel
  have HIM := Lib.hid hl5
  have HSTEP := Lib.hid (fun i => build_step hl hk hg i)
  have HEND := Lib.hid (fun i m h => build_end hl hk hg i m h)
  have HLONG := Lib.hid (fun i => build_long hl hk hg i)
  clear hown hbel hl5 g1 hrun
  generalize w.alloc (.cells #[.slice (some ⟨b, off, none⟩) l.length cp] 25) = W0 at HOWN HBEL HB0 HAT0 c0 hzW ⊢
  go_loopw [7, 8] (fun o ix w' => ∃ i m : Nat, m = i + 1 ∧ ix = .int .i64 (m : Int) ∧ i ≤ 408 ∧ OwnB w' W0.heap.size o (applyL l (fixL l k (i + 1))) ∧ (applyL l (fixL l k (i + 1))).length ≤ 408 ∧ Below W0.heap.size W0 w') (fun _ ix _ => 409 - (intOf ix).toNat)
  case atStart =>
    refine ⟨0, 1, rfl, rfl, by omega, HOWN.out, ?_, HBEL.out⟩
    rw [build_one hl hk hg]
    have := (img_parts (HIM.out k hk)).2.1
    simp
    omega
  case round =>
    obtain ⟨i, m, hmi, rfl, hi, ho, h408, hb⟩ := hrel
    obtain ⟨x1, j, hjl, hj, hnext⟩ := HSTEP.out i
    have hlong := HLONG.out i
    have HE := Lib.hid (HEND.out (i + 1))
    have HO := Lib.hid ho
    have HB := Lib.hid hb
    have HN := Lib.hid hnext
    obtain ⟨g, cap, rfl, hcap, hg1, hg2, hcell⟩ := ownB_some ho (by omega)
    have HC := Lib.hid hcell
    clear ho hb hnext hcell
    generalize applyL l (fixL l k (i + 1)) = p at HO HE HN HC h408 x1 hlong hj hcap ⊢
    rw [← hmi] at x1
    have hjm : (p[m]'x1).toNat = 97 + j := by
      have e : p[m]'x1 = p[i + 1]'(by omega) := by congr 1
      rw [e]; exact hj
    have HMI := Lib.hid hmi
    have HJM := Lib.hid hjm
    clear hj hmi hjm
    by_cases hlt : p.length < n
    · have d1 : decide ((p.length : Int) < n) = true := by simp; omega
      have gi : wr.cell? ⟨g, m, none⟩ = some (.int .u8 (p[m].toNat : Int)) := HC.out m _ (by simp [byteCells, List.getElem?_eq_getElem x1])
      have gc : wr.cell? ⟨w.heap.size, 0, none⟩ = some (.slice (some ⟨b, off, none⟩) l.length cp) := (HB.out.cell (p := ⟨w.heap.size, 0, none⟩) (by simp; omega)).trans c0
      have g1 : wr.cell? ⟨b, off + j, none⟩ = some (.string l[j]) := (HB.out.cell (p := ⟨b, off + j, none⟩) (World.block_lt_of_cell? W0 _ (HAT0.out j hjl))).trans (HAT0.out j hjl)
      have q1 : IntKind.u8.wrap ((p[m].toNat : Int) - 97) = (j : Int) := by have := HJM.out; rw [IntWalk.u8_in _ (by omega)]; omega
      obtain ⟨r1, r2, r3, r4⟩ := img_parts (HIM.out j hjl)
      obtain ⟨c, wc', hrun, hbc, hzc, hcell⟩ := conv_text wr.drew l[j] Try.underlying9
      simp only [World.size_drew] at hrun hzc
      have HO2 := Lib.hid (ownB_below (w := wr.drew) (HO.out : OwnB wr.drew W0.heap.size _ p) hbc)
      have HCELL := Lib.hid hcell
      have HBC := Lib.hid hbc
      have hsz := HB.out.size
      clear hcell hbc r3 r4
      go_wp2_with fail
      go_region_law (refine step_ownB rfl (.tmp 21) (.tmp 31) rfl W0.heap.size i0 _ hi0 hz0 hz1 hz2 rfl _ p l[j].data.toList (by simp [Act.eval]) HO2.out ⟨wr.heap.size, 0, none⟩ l[j].size c (by simp [Act.eval]) (by simp) (fun q u hu => by rw [Addr.add_lit, Nat.zero_add]; exact HCELL.out q u hu) (by omega) (by omega) ?_; intro v' w' hown' hbel')
      all_goals
        have HOW := Lib.hid hown'
        have HBE := Lib.hid hbel'
        clear hown' hbel'
        obtain ⟨A9, cap9, rfl⟩ := ownB_slice HOW.out
        go_wp2_with fail
        go_roundw
        case rel =>
          have hm := HMI.out
          refine ⟨i + 1, m + 1, by omega, by go_num, ?_, ?_, ?_, ?_⟩
          · omega
          · rw [HN.out]
            have e := HOW.out
            rw [List.length_append, show l[j].data.toList.length = l[j].size from by simp] at e
            exact e
          · rw [HN.out, List.length_append]; simp; omega
          · exact ((below_drewN HB.out 1).trans (HBC.out.mono (by simp; omega))).trans HBE.out
        case measure => have hm := HMI.out; simp [intOf]; omega
    · have d1 : decide ((p.length : Int) < n) = false := by simp; omega
      have hconv := fun (wx : World) (h : ∀ (k : Nat) (u : Value), (byteCells p)[k]? = some u → wx.cell? ⟨g, k, none⟩ = some u) => ownB_conv (n := n) (cap := cap) Try.underlying9 h (by omega)
      have hc2 := hconv wr HC.out
      have HF := Lib.hid (HE.out n (by omega))
      clear hconv
      go_wp2_with fail
      go_ret
      refine ⟨ret_str ?_, HB0.out.trans (HB.out.mono (by omega))⟩
      rw [HF.out]
end Go.Proofs.Ytfcbfflkajlhnaa

/- rising, of the laws. No condition. -/
namespace Go.Proofs.Ytfcbfflkajlhnaa
open Go.RowKit

set_option maxRecDepth 100000 in
theorem risingC (l : List ByteArray) (v : Value) (w : World) (h : Lst w v (strs l)) (ha : Asc l) (hn : l.length ≤ 1048576) :
    Calls Try.prog 31 #[v] w fun e w' => e = .returned (.bool true) ∧ Below w.heap.size w w' := by
  obtain ⟨A, c, rfl, hc1, hc2, h1⟩ := h
  rw [strs_length] at hc1 ⊢
  have HA := Lib.hid ha
  have H1 := Lib.hid h1
  clear ha h1
  go_enter Try.func31, Try.ntmps31
  go_wp2_with fail
  go_loopw [3] (fun i w' => ∃ k : Nat, k ≤ l.length ∧ i = .int .i64 ((k : Int) + 1) ∧ Below w.heap.size w w') (fun i _ => l.length + 2 - (intOf i).toNat)
  case atStart => exact ⟨0, by omega, rfl, Below.refl _ _⟩
  case round =>
    obtain ⟨k, hk, rfl, hb⟩ := hrel
    have HB := Lib.hid hb
    by_cases hlt : k + 1 < l.length
    · have h2 := H1.out.resolve_left (by
        intro e
        have := congrArg List.length e
        rw [strs_length] at this
        simp only [List.length_nil] at this
        omega)
      obtain ⟨b, off, rfl, h2⟩ := h2
      have g0 := strs_at h2 (k + 1) hlt
      have g1 : wr.cell? ⟨b, off + (k + 1), none⟩ = some (.string (l[k + 1]'hlt)) := (hb.cell (World.block_lt_of_cell? w _ g0)).trans g0
      have g3 := strs_at h2 k (by omega)
      have g2 : wr.cell? ⟨b, off + k, none⟩ = some (.string (l[k]'(by omega))) := (hb.cell (World.block_lt_of_cell? w _ g3)).trans g3
      have hlow : lessB (l[k]'(by omega)) (l[k + 1]'hlt) = true := List.pairwise_iff_getElem.1 HA.out k (k + 1) (by omega) hlt (by omega)
      have q1 : Op.bytesLess (l[k + 1]'hlt).toList (l[k]'(by omega)).toList = false := by
        rcases h : Op.bytesLess (l[k + 1]'hlt).toList (l[k]'(by omega)).toList with _ | _
        · rfl
        · exact absurd (less_trans hlow h) (less_self _)
      have q2 : ((l[k + 1]'hlt).toList == (l[k]'(by omega)).toList) = false := by
        rw [beq_eq_false_iff_ne]
        intro h
        rw [bytes_ext h] at hlow
        exact less_self _ hlow
      have b1 : (k : Int) + 1 < (l.length : Int) := by omega
      have b2 : (k : Int) < (l.length : Int) := by omega
      have b3 : (0 : Int) ≤ (k : Int) + 1 := by omega
      have b4 : ((k : Int) + 1).toNat = k + 1 := by omega
      have hw : IntKind.i64.wrap ((k : Int) + 1 - 1) = (k : Int) := by rw [IntWalk.i64_in _ (by omega)]; omega
      clear hb hlow g0 g3 h2
      go_wp2_with fail
      go_quiet (fail)
      go_wp2_with fail
      go_roundw
      case rel => exact ⟨k + 1, by omega, by go_num, below_drewN HB.out nq⟩
      case measure => simp [intOf]; omega
    · have b1 : ¬ (k : Int) + 1 < (l.length : Int) := by omega
      clear hb
      go_wp2_with fail
      go_ret
      exact ⟨rfl, HB.out⟩

theorem makeLongC (l : List ByteArray) (v : Value) (n : Nat) (w : World) (h : Lst w v (strs l)) (hl : substB l = true) (hg : growB l 0 = true) (hn : n ≤ 400) :
    Calls Try.prog 34 #[.agg #[v], .int .i64 n] w fun e w' => e = .returned (.string (fxS l n)) ∧ Below w.heap.size w w' := by
  obtain ⟨A, cp, rfl⟩ := lst_slice h
  rw [strs_length] at h ⊢
  have hb0 : Below w.heap.size w (w.alloc (.cells #[.slice A l.length cp] 25)) := (Below.refl _ _).alloc (Nat.le_refl _) _
  have HL := Lib.hid (h.below hb0)
  have HB0 := Lib.hid hb0
  have HS := Lib.hid (fun w h => specStart l (.slice A l.length cp) 0 n w h hl (subst_parts hl).1 hg hn)
  clear h hb0
  go_enter Try.func34, Try.ntmps34
  go_wp2_with fail
  refine (HS.out _ HL.out).mono ?_
  rintro e w2 ⟨rfl, hb2⟩
  have HB2 : Hid (Below w.heap.size w w2) := HB0.out.trans (hb2.mono (by simp))
  clear hb2
  go_wp2_with fail
  go_ret
  exact ⟨rfl, HB2.out⟩
end Go.Proofs.Ytfcbfflkajlhnaa

/- A struct of one slice of strings as a result; small facts on new rows. No condition. -/
namespace Go.Proofs.Ytfcbfflkajlhnaa
open Go.RowKit

/-- a struct of one slice of strings, and whether there is one -/
def SubSaid (r : List ByteArray) (ok : Bool) (w : World) (e : Ending) (w' : World) : Prop := ∃ v, e = .returned (.tuple #[.agg #[v], .bool ok]) ∧ w'.ownsRow w.heap.size 9 1 v r.length (strs r) ∧ Below w.heap.size w w'
theorem cell_one (w : World) (e : TypeId) (y : Value) (j : Nat) (u : Value) (hu : [y][j]? = some u) : (w.alloc (.cells #[y] e)).cell? ((⟨w.heap.size, 0, none⟩ : Addr).add j) = some u := by
  rcases j with _ | j
  · simp at hu
    subst hu
    rw [Addr.add_lit, World.cell?_alloc_at _ _ _ _ (by simp)]
    rfl
  · simp at hu
theorem build_zero (w : World) : (Instr.build 25 #[]).run Try.prog w = .ok (.agg #[.slice none 0 0]) w := run_build w _ _ _ (by kernel_rfl)
theorem build_sub (A : Option Addr) (n c : Nat) (w : World) : (Instr.build 25 #[(0, .slice A n c)]).run Try.prog w = .ok (.agg #[.slice A n c]) w := run_build w _ _ _ (by kernel_rfl)
end Go.Proofs.Ytfcbfflkajlhnaa
