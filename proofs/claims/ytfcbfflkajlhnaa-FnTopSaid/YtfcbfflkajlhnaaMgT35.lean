/- Texts put together. -/
import Derived.Test.YtfcbfflkajlhnaaMgT33
import Derived.Test.YtfcbfflkajlhnaaMgT6
import Derived.Test.YtfcbfflkajlhnaaMgT34
/- MakeGrowing: a substitution under which a grows. -/
namespace Go.Proofs.Ytfcbfflkajlhnaa
open Go.RowKit

/-- the first image, made to begin with a -/
def growI (x : ByteArray) : ByteArray := ⟨#[97]⟩ ++ x.extract 0 (min x.size 7)
theorem growI_img {n : Nat} {x : ByteArray} (h : imgB n x = true) (hn : 1 ≤ n) (_ : n ≤ 4) : imgB n (growI x) = true ∧ 2 ≤ (growI x).size ∧ (growI x).data.toList.getD 0 0 = 97 := by
  obtain ⟨h1, h2, h3, h4⟩ := img_parts h
  have hd : (growI x).data.toList = 97 :: (x.data.toList.take (min x.size 7)) := by
    unfold growI
    rw [ByteArray.data_append, Array.toList_append, ByteArray.data_extract, Array.toList_extract, List.extract_eq_take_drop, List.drop_zero, Nat.sub_zero]
    rfl
  have hsz : (growI x).size = 1 + min x.size 7 := by
    unfold growI
    rw [ByteArray.size_append, ByteArray.size_extract]
    show 1 + _ = _
    omega
  have hall : ∀ c ∈ (growI x).data.toList, 97 ≤ c.toNat ∧ c.toNat < 97 + n := by
    intro c hc
    rw [hd, List.mem_cons] at hc
    rcases hc with rfl | hc
    · have : (97 : UInt8).toNat = 97 := rfl
      omega
    · exact word_mem h3 h4 c (List.mem_of_mem_take hc)
  refine ⟨?_, by omega, by rw [hd]; rfl⟩
  refine img_yes (by omega) (by omega) ?_ ?_
  · unfold wordB
    rw [decide_eq_true (by omega)]
    show (true && (growI x).data.toList.all isAbcd) = true
    rw [Bool.true_and, List.all_eq_true]
    intro c hc
    have := hall c hc
    simp [isAbcd]
    omega
  · unfold withinB
    rw [List.all_eq_true]
    intro c hc
    have := hall c hc
    simp
    omega
theorem grow_subst {l : List ByteArray} (h : substB l = true) (h0 : 0 < l.length) : substB (l.set 0 (growI l[0])) = true ∧ growB (l.set 0 (growI l[0])) 0 = true := by
  obtain ⟨h1, h4, h5⟩ := subst_parts h
  obtain ⟨g1, g2, g3⟩ := growI_img (h5 0 h0) h1 h4
  constructor
  · refine subst_of_imgs (by simpa using h1) (by simpa using h4) ?_
    intro y hy
    rw [List.length_set]
    obtain ⟨k, hk, rfl⟩ := List.mem_iff_getElem.1 hy
    rw [List.length_set] at hk
    rw [List.getElem_set]
    split
    · exact g1
    · exact h5 k hk
  · unfold growB firstN
    have e : (l.set 0 (growI l[0])).getD 0 ⟨#[]⟩ = growI l[0] := by
      rw [List.getD_eq_getElem?_getD, List.getElem?_set, if_pos rfl, if_pos h0]
      rfl
    rw [e, g3, decide_eq_true (by omega)]
    rfl
def GrowSaid (w : World) (e : Ending) (w' : World) : Prop :=
  ∃ (u : Value) (l : List ByteArray), e = .returned (.agg #[u]) ∧ substB l = true ∧ growB l 0 = true ∧ w'.ownsRow w.heap.size 9 1 u l.length (strs l) ∧ Below w.heap.size w w'

set_option maxHeartbeats 2000000 in
set_option maxRecDepth 100000 in
theorem makeGrowing_any (v : Value) (zs : List Int) (c : Int) (w : World) (hz : IsBytes zs) (hl : Lst w v (bytesV zs)) (h0 : 0 ≤ c) (h1 : c ≤ 1048576) :
    Calls Try.prog 14 #[v, .int .i64 c] w (GrowSaid w) := by
  obtain ⟨i0, hi0, hz0, hz1, hz2⟩ := info_parts str_info
  have hb0 : Below w.heap.size w (w.alloc (.cells #[.slice none 0 0] 25)) := (Below.refl _ _).alloc (Nat.le_refl _) _
  have HN := Lib.hid (l31New_any v zs c _ hz (hl.below hb0) h0 h1)
  have HZ := Lib.hid hz
  have HB0 := Lib.hid hb0
  obtain ⟨A, cp, rfl, -, -, -⟩ := hl
  rw [bytesV_length] at HN ⊢
  clear hz hb0
  go_enter Try.func14, Try.ntmps14
  go_wp2_with fail
  refine HN.out.mono ?_
  rintro e w1 ⟨g, rfl, hg, hc1, hb1⟩
  have hsz1 : w.heap.size + 1 ≤ w1.heap.size := by have := hb1.size; simpa using this
  have c1 : w1.cell? ⟨w.heap.size, 0, none⟩ = some (.slice none 0 0) := (hb1.cell (p := ⟨w.heap.size, 0, none⟩) (by simp)).trans (by go_simp)
  have f1 : w1.frozen? ⟨w.heap.size, 0, none⟩ = false := (hb1.frozen (p := ⟨w.heap.size, 0, none⟩) (by simp)).trans (by go_simp)
  have HC := Lib.hid hc1
  have HB1 : Hid (Below w.heap.size w w1) := HB0.out.trans (hb1.mono (by simp))
  simp only [World.size_alloc] at hg
  clear hc1 hb1
  go_wp2_with fail
  refine (l03Draw_any g _ zs _ HZ.out HC.out).mono ?_
  rintro e w2 ⟨u, l, rfl, hsb, ho, hg2⟩
  have hl1 := (subst_parts hsb).1
  have hl4 := (subst_parts hsb).2.1
  obtain ⟨g2, cp2, rfl, _⟩ := own_some ho (by omega)
  have HSB := Lib.hid hsb
  have HO := Lib.hid ho
  have hg2lt := (ho.lt g2 rfl).2
  have HB2 : Hid (Below w.heap.size w w2) := HB1.out.grown hg2 HB1.out.size (fun j hj => by cases hj; omega)
  have hne : (some w.heap.size : Option Nat) ≠ some g := fun e => by injection e with e; omega
  have c2 : w2.cell? ⟨w.heap.size, 0, none⟩ = some (.slice none 0 0) := hg2.cell (a := ⟨w.heap.size, 0, none⟩) c1 hne
  have f2 : w2.frozen? ⟨w.heap.size, 0, none⟩ = false := (hg2.frozen_far ⟨w.heap.size, 0, none⟩ (by simp; omega) hne).trans f1
  have hsz2 : w.heap.size < w2.heap.size := by have := hg2.size; omega
  clear hsb ho hg2 c1 f1
  have HOE : Hid (((w2.alloc (.cells #[.slice (some ⟨g2, 0, none⟩) l.length cp2] 25)).alloc (.cells #[] 9)).ownsRow (w2.heap.size + 1) 9 1 (.slice (some ⟨w2.heap.size + 1, 0, none⟩) 0 0) 0 []) := by
    have := own_made0 (w2.alloc (.cells #[.slice (some ⟨g2, 0, none⟩) l.length cp2] 25)) (w2.heap.size + 1) 9 (by simp)
    simp only [World.size_alloc] at this
    exact this
  have HCE : Hid (∀ (j : Nat) (u : Value), (strs l)[j]? = some u → ((w2.alloc (.cells #[.slice (some ⟨g2, 0, none⟩) l.length cp2] 25)).alloc (.cells #[] 9)).cell? ((⟨g2, 0, none⟩ : Addr).add j) = some u) := fun j u hu => by
    have hj := (List.getElem?_eq_some_iff.1 hu).1
    rw [strs_length] at hj
    rw [Addr.add_lit, Nat.zero_add]
    exact (World.ownsRow.cellAt ((HO.out.alloc _).alloc _) j (by omega)).trans hu
  have HLN : Hid ((strs l).length = l.length * 1) := by show (strs l).length = l.length * 1; rw [strs_length, Nat.mul_one]
  have HON : Hid (∀ u ∈ strs l, u.oneCell' = true) := fun u hu => by obtain ⟨x, _, rfl⟩ := List.mem_map.1 hu; rfl
  go_wp2_with (at_builtin
               refine wpList_append_own _ rfl (.tmp 11) (.tmp 13) 23 rfl (w2.heap.size + 1) 9 i0 _ 1 16 Try.underlying23 hi0 hz0 hz1 hz2 rfl (by decide) _ 0 [] rfl HOE.out ⟨g2, 0, none⟩ l.length cp2 (strs l) rfl HLN.out HCE.out HON.out (by unfold maxLen; omega) (by omega) (by simp) ?_
               intro v' w4 hown4 hgr4 _
               rw [Nat.zero_add, List.nil_append] at hown4
               obtain ⟨g4, cp4, rfl, _⟩ := own_some hown4 (by omega)
               have HO4 := Lib.hid hown4
               have HG4 := Lib.hid hgr4
               have hne4 : (some w2.heap.size : Option Nat) ≠ (Value.slice (some ⟨w2.heap.size + 1, 0, none⟩) 0 0).ownBlock := fun e => by simp [Value.ownBlock] at e
               have c5 : w4.cell? ⟨w2.heap.size, 0, none⟩ = some (.slice (some ⟨g2, 0, none⟩) l.length cp2) := hgr4.cell (a := ⟨w2.heap.size, 0, none⟩) (by go_simp) hne4
               have f5 : w4.frozen? ⟨w2.heap.size, 0, none⟩ = false := (hgr4.frozen_far ⟨w2.heap.size, 0, none⟩ (by simp; omega) hne4).trans (by go_simp)
               have hne5 : (some w.heap.size : Option Nat) ≠ (Value.slice (some ⟨w2.heap.size + 1, 0, none⟩) 0 0).ownBlock := fun e => by simp [Value.ownBlock] at e; omega
               have c6 : w4.cell? ⟨w.heap.size, 0, none⟩ = some (.slice none 0 0) := hgr4.cell (a := ⟨w.heap.size, 0, none⟩) (by go_simp) hne5
               have f6 : w4.frozen? ⟨w.heap.size, 0, none⟩ = false := (hgr4.frozen_far ⟨w.heap.size, 0, none⟩ (by simp; omega) hne5).trans (by go_simp)
               have hg4 : w2.heap.size + 1 ≤ g4 := (hown4.lt g4 rfl).1
               have h40 : w4.cell? ⟨g4, 0, none⟩ = some (.string (l[0]'(by omega))) := by rw [hown4.cellAt 0 (by omega)]; simp [strs, List.getElem?_eq_getElem (show 0 < l.length by omega)]
               have f40 : w4.frozen? ⟨g4, 0, none⟩ = false := hown4.frozenAt 0
               have hsz4 := hgr4.size
               simp only [World.size_alloc] at hsz4
               clear hown4 hgr4 c2 f2)
  have hneg : g4 ≠ w2.heap.size := by omega
  have hneg2 : w2.heap.size ≠ g4 := by omega
  have hneg3 : g4 ≠ w.heap.size := by omega
  have hneg4 : w.heap.size ≠ g4 := by omega
  have hneg5 : w.heap.size ≠ w2.heap.size := by omega
  have hneg6 : w2.heap.size ≠ w.heap.size := by omega
  have hx8 := (img_parts ((subst_parts HSB.out).2.2 0 (by omega))).2.1
  have hq : ∀ w : World, (Instr.slice 9 (.string (l[0]'(by omega))) none (some (.int .i64 (if (7 : Int) < ((l[0]'(by omega)).size : Int) then 7 else ((l[0]'(by omega)).size : Int)))) none).run Try.prog w = .ok (.string ((l[0]'(by omega)).extract 0 (min (l[0]'(by omega)).size 7))) w := fun w => by
    rw [run_slice_string_to_if (P := Try.prog) w 9 _ .i64 _ Try.underlying9, if_pos ⟨by split <;> omega, by split <;> omega⟩]
    congr 3
    split <;> omega
  have hqm : ∀ w : World, (Instr.slice 9 (.string (l[0]'(by omega))) none (some (.int .i64 (min ((l[0]'(by omega)).size : Int) 7))) none).run Try.prog w = .ok (.string ((l[0]'(by omega)).extract 0 (min (l[0]'(by omega)).size 7))) w := fun w => by
    rw [run_slice_string_to_if (P := Try.prog) w 9 _ .i64 _ Try.underlying9, if_pos ⟨by omega, by omega⟩]
    congr 3
    omega
  have HIMG : Hid (⟨#[97]⟩ ++ (l[0]'(by omega)).extract 0 (min (l[0]'(by omega)).size 7) = growI (l[0]'(by omega))) := rfl
  have HGS := Lib.hid (grow_subst HSB.out (show 0 < l.length by omega))
  go_region
  rw [HIMG.out]
  go_wp2_with fail
  all_goals
    have HR : Hid (w4.ownsRow (w2.heap.size + 1) 9 1 (.slice (some ⟨g4, 0, none⟩) l.length cp4) l.length (strs l)) := HO4
    have hset : (strs l).set 0 (.string (growI (l[0]'(by omega)))) = strs (l.set 0 (growI (l[0]'(by omega)))) := by
      unfold strs
      rw [List.map_set]
    refine bodyPost_ret (v := .agg #[.slice (some ⟨g4, 0, none⟩) l.length cp4]) (by simp [results, Try.results14, go_sem, c6]) rfl ⟨_, l.set 0 (growI (l[0]'(by omega))), rfl, HGS.out.1, HGS.out.2, ?_, ?_⟩
    · have h1 := own_setCell HR.out (show (⟨w2.heap.size, 0, none⟩ : Addr).block < w2.heap.size + 1 by simp) (.slice (some ⟨g4, 0, none⟩) l.length cp4)
      have h2 := (World.ownsRow.stored h1 0 (.string (growI (l[0]'(by omega))))).1
      rw [hset] at h2
      have h3 := own_drewN h2 1
      rw [List.length_set]
      exact own_mono (own_setCell h3 (show (⟨w.heap.size, 0, none⟩ : Addr).block < w2.heap.size + 1 by simp; omega) _) (by omega)
    · have h1 : Below w.heap.size w w4 := ((HB2.out.alloc HB2.out.size _).alloc (by simp; omega) _).grown HG4.out (by simp; omega) (fun k hk => by have : w2.heap.size + 1 = k := Option.some.inj hk; omega)
      exact (below_drewN ((h1.setCell (by simp; omega) _).setCell (by simp; omega) _) 1).setCell (by simp) _
end Go.Proofs.Ytfcbfflkajlhnaa
