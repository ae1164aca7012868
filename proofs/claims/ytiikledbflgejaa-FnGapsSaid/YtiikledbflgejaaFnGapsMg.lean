/- FnGaps: points on a circle have at most three distances, and come back after at most three times; in company, every argument of type []byte. No condition. -/
import Derived.Test.YtiikledbflgejaaMgC39
import Derived.Test.YtiikledbflgejaaMgC41
import Derived.Test.YtiikledbflgejaaMgC42
namespace Go.Proofs.Ytiikledbflgejaa
open Go.Conc Go.RowKit Go.ChangeShapes Go.WideShapes Go.ChangeAt
open Go.ChangeMaps (open_string shut_string)

set_option maxRecDepth 100000 in
def gA1 (vc : Value) (a : Act) : Prop := ∃ u : Nat → Value, a = ⟨#[vc, undef, .bool false, undef, undef, undef, undef, undef, undef, undef, undef, undef, undef, undef, undef, undef, undef, undef, (u 18), (u 19), (u 20), undef, undef, undef, undef, undef, undef, undef, undef, undef, undef, undef, undef, undef, undef, undef, undef, undef, undef, undef, undef, undef, undef, undef, undef, undef, undef, undef, undef, undef, undef, undef, undef, undef, undef, undef, undef, undef, undef, undef, undef, undef, undef, undef, undef, undef, undef, undef, undef, undef, undef, undef, undef, undef, undef, undef, undef, undef, undef, undef, undef, undef, undef, undef, undef, undef, undef, undef, undef, undef, undef, undef, undef, undef, undef, undef, undef, undef, undef, undef, undef, undef, undef, undef, undef, undef, undef, undef, undef, undef, undef, undef, undef, undef, undef, undef, undef, undef, undef, undef, undef, undef, undef, undef, undef, undef, undef, undef, undef, undef, undef, undef, undef, undef, undef, undef, undef, undef, undef, undef, undef, undef, undef, undef, undef, undef, undef, undef, undef, undef, undef, undef, undef, undef, undef, undef, undef, undef, undef, undef, undef, undef, undef, undef, undef, undef, undef, undef, undef, undef, undef, undef, undef, undef, undef, undef, undef, undef, undef, undef, undef, undef, undef, undef, undef, undef, undef, undef, undef, undef, undef, undef, undef, undef, undef, undef, undef, undef, undef, undef, undef, undef, undef, undef, undef, undef, undef, undef, undef, undef, undef, undef, undef, undef, undef, undef, undef, undef, undef, undef, undef, undef, undef, undef, undef, undef, undef, undef, undef, undef, undef, undef, undef, undef, undef, undef, undef, undef, undef, undef, undef, undef, undef, undef, undef, undef, undef, undef, undef, undef, undef, undef, undef, undef, undef, undef, undef, undef, undef, undef, undef, undef, undef, undef, undef, undef, undef, undef, undef, undef, undef, undef, undef, undef, undef, undef, undef, undef, undef, undef, undef, undef, undef], []⟩
set_option maxRecDepth 100000 in
theorem gA1_of {vc : Value} {a : Act} (h : a = ⟨#[vc, undef, .bool false, undef, undef, undef, undef, undef, undef, undef, undef, undef, undef, undef, undef, undef, undef, undef, ((a.tmps[18]?).getD undef), ((a.tmps[19]?).getD undef), ((a.tmps[20]?).getD undef), undef, undef, undef, undef, undef, undef, undef, undef, undef, undef, undef, undef, undef, undef, undef, undef, undef, undef, undef, undef, undef, undef, undef, undef, undef, undef, undef, undef, undef, undef, undef, undef, undef, undef, undef, undef, undef, undef, undef, undef, undef, undef, undef, undef, undef, undef, undef, undef, undef, undef, undef, undef, undef, undef, undef, undef, undef, undef, undef, undef, undef, undef, undef, undef, undef, undef, undef, undef, undef, undef, undef, undef, undef, undef, undef, undef, undef, undef, undef, undef, undef, undef, undef, undef, undef, undef, undef, undef, undef, undef, undef, undef, undef, undef, undef, undef, undef, undef, undef, undef, undef, undef, undef, undef, undef, undef, undef, undef, undef, undef, undef, undef, undef, undef, undef, undef, undef, undef, undef, undef, undef, undef, undef, undef, undef, undef, undef, undef, undef, undef, undef, undef, undef, undef, undef, undef, undef, undef, undef, undef, undef, undef, undef, undef, undef, undef, undef, undef, undef, undef, undef, undef, undef, undef, undef, undef, undef, undef, undef, undef, undef, undef, undef, undef, undef, undef, undef, undef, undef, undef, undef, undef, undef, undef, undef, undef, undef, undef, undef, undef, undef, undef, undef, undef, undef, undef, undef, undef, undef, undef, undef, undef, undef, undef, undef, undef, undef, undef, undef, undef, undef, undef, undef, undef, undef, undef, undef, undef, undef, undef, undef, undef, undef, undef, undef, undef, undef, undef, undef, undef, undef, undef, undef, undef, undef, undef, undef, undef, undef, undef, undef, undef, undef, undef, undef, undef, undef, undef, undef, undef, undef, undef, undef, undef, undef, undef, undef, undef, undef, undef, undef, undef, undef, undef, undef, undef, undef, undef, undef, undef, undef, undef], []⟩) : gA1 vc a := ⟨fun i => (a.tmps[i]?).getD undef, h⟩
theorem gC10b_eq : gC10b = .cond (.tmp 135) gN .skip := by kernel_rfl
set_option maxRecDepth 100000 in
set_option maxHeartbeats 4000000 in
theorem gap_r1 (Ac : Option Addr) (m c : Nat) (hm : m ≤ 9223372036854775807) (w : World) (a : Act) (ha : a = ⟨#[(.slice Ac m c), undef, .bool false, undef, undef, undef, undef, undef, undef, undef, undef, undef, undef, undef, undef, undef, undef, undef, undef, undef, undef, undef, undef, undef, undef, undef, undef, undef, undef, undef, undef, undef, undef, undef, undef, undef, undef, undef, undef, undef, undef, undef, undef, undef, undef, undef, undef, undef, undef, undef, undef, undef, undef, undef, undef, undef, undef, undef, undef, undef, undef, undef, undef, undef, undef, undef, undef, undef, undef, undef, undef, undef, undef, undef, undef, undef, undef, undef, undef, undef, undef, undef, undef, undef, undef, undef, undef, undef, undef, undef, undef, undef, undef, undef, undef, undef, undef, undef, undef, undef, undef, undef, undef, undef, undef, undef, undef, undef, undef, undef, undef, undef, undef, undef, undef, undef, undef, undef, undef, undef, undef, undef, undef, undef, undef, undef, undef, undef, undef, undef, undef, undef, undef, undef, undef, undef, undef, undef, undef, undef, undef, undef, undef, undef, undef, undef, undef, undef, undef, undef, undef, undef, undef, undef, undef, undef, undef, undef, undef, undef, undef, undef, undef, undef, undef, undef, undef, undef, undef, undef, undef, undef, undef, undef, undef, undef, undef, undef, undef, undef, undef, undef, undef, undef, undef, undef, undef, undef, undef, undef, undef, undef, undef, undef, undef, undef, undef, undef, undef, undef, undef, undef, undef, undef, undef, undef, undef, undef, undef, undef, undef, undef, undef, undef, undef, undef, undef, undef, undef, undef, undef, undef, undef, undef, undef, undef, undef, undef, undef, undef, undef, undef, undef, undef, undef, undef, undef, undef, undef, undef, undef, undef, undef, undef, undef, undef, undef, undef, undef, undef, undef, undef, undef, undef, undef, undef, undef, undef, undef, undef, undef, undef, undef, undef, undef, undef, undef, undef, undef, undef, undef, undef, undef, undef, undef, undef, undef, undef, undef, undef, undef, undef, undef], []⟩) :
    (m ≤ 1048576 → gC1.wp Try.prog (fun e a' w' => e = .normal ∧ gA1 (.slice Ac m c) a' ∧ w' = w) a w) ∧
    (¬ m ≤ 1048576 → gC1.wp Try.prog (fun e a' w' => (e = .ret ∧ a'.defers = [] ∧ a'.tmps[2]? = some (.bool true)) ∧ w' = w) a w) := by
  subst ha
  constructor
  · intro h
    have d : ¬ (1048576 : Int) < (m : Int) := by omega
    simp only [gC1, gT1, gT0, Try.f3, Option.getD_some]
    go_wp2_with fail
    exact gA1_of rfl
  · intro h
    have d : (1048576 : Int) < (m : Int) := by omega
    simp only [gC1, gT1, gT0, Try.f3, Option.getD_some]
    go_wp2_with fail

set_option maxRecDepth 100000 in
set_option maxHeartbeats 8000000 in
theorem fnGaps_cwalk0 (zs : List Int) (v : Value) (W : World) (hl : Lst W v (bytesV zs)) (hzs : ∀ z ∈ zs, 0 ≤ z ∧ z ≤ 255) :
    CCalls Try.prog 3 #[v] W fun v w' => v = .bool true ∧ Bl W.heap.size W w' := by
  intro Fin cs hK
  have hl0 := hl
  obtain ⟨Ac, cc, rfl, hcc1, hcc2, _⟩ := hl
  rw [bytesV_length] at hcc1 hl0 ⊢
  have hmax : zs.length ≤ 9223372036854775807 := by unfold maxLen at hcc2; omega
  have leave := can_leave (cs := cs) Try.func3 (t := 2) (by simp [Try.f3]) hK
  have henter : Frame.enter Try.prog 3 #[.slice Ac zs.length cc] .normal = ({ (default : Frame) with fn := 3, kind := .normal } : Frame).at ⟨#[(.slice Ac zs.length cc), undef, undef, undef, undef, undef, undef, undef, undef, undef, undef, undef, undef, undef, undef, undef, undef, undef, undef, undef, undef, undef, undef, undef, undef, undef, undef, undef, undef, undef, undef, undef, undef, undef, undef, undef, undef, undef, undef, undef, undef, undef, undef, undef, undef, undef, undef, undef, undef, undef, undef, undef, undef, undef, undef, undef, undef, undef, undef, undef, undef, undef, undef, undef, undef, undef, undef, undef, undef, undef, undef, undef, undef, undef, undef, undef, undef, undef, undef, undef, undef, undef, undef, undef, undef, undef, undef, undef, undef, undef, undef, undef, undef, undef, undef, undef, undef, undef, undef, undef, undef, undef, undef, undef, undef, undef, undef, undef, undef, undef, undef, undef, undef, undef, undef, undef, undef, undef, undef, undef, undef, undef, undef, undef, undef, undef, undef, undef, undef, undef, undef, undef, undef, undef, undef, undef, undef, undef, undef, undef, undef, undef, undef, undef, undef, undef, undef, undef, undef, undef, undef, undef, undef, undef, undef, undef, undef, undef, undef, undef, undef, undef, undef, undef, undef, undef, undef, undef, undef, undef, undef, undef, undef, undef, undef, undef, undef, undef, undef, undef, undef, undef, undef, undef, undef, undef, undef, undef, undef, undef, undef, undef, undef, undef, undef, undef, undef, undef, undef, undef, undef, undef, undef, undef, undef, undef, undef, undef, undef, undef, undef, undef, undef, undef, undef, undef, undef, undef, undef, undef, undef, undef, undef, undef, undef, undef, undef, undef, undef, undef, undef, undef, undef, undef, undef, undef, undef, undef, undef, undef, undef, undef, undef, undef, undef, undef, undef, undef, undef, undef, undef, undef, undef, undef, undef, undef, undef, undef, undef, undef, undef, undef, undef, undef, undef, undef, undef, undef, undef, undef, undef, undef, undef, undef, undef, undef, undef, undef, undef, undef, undef, undef, undef], []⟩ [.code gT0] := by
    simp [Frame.enter, Frame.at, Try.func3, gT0, Try.f3]
  rw [henter, gT0_eq]
  refine Can.seq ?_
  simp only [gC0, gT0, Try.f3, Option.getD_some]
  refine Can.region (l := [0]) rfl ?_
  refine Can.op rfl rfl rfl (fun _ => rfl) (fun _ => rfl) ?_
  refine Can.regionEnd ?_
  walk_nrm
  rw [gT1_eq]
  refine Can.seq ?_
  by_cases hlen : ¬ zs.length ≤ 1048576
  · refine (CWp.of (c := gC1) (R := fun e a' w' => (e = .ret ∧ a'.defers = [] ∧ a'.tmps[2]? = some (.bool true)) ∧ Bl W.heap.size W w') closedS noEarlyS (by kernel_rfl) rfl (fun τ d => wp_mono ((gap_r1 Ac zs.length cc hmax (tp W τ d) _ rfl).2 hlen) (fun e a' w' h => ⟨h.1, by rw [h.2]; exact ⟨rfl, rfl, rfl, Nat.le_refl _, fun _ _ => rfl⟩⟩)) (fun e a w h => .inr h.1.1)) Fin _ _ cs rfl ?_
    rintro e a' w3 ⟨τ2, d2, ⟨rfl, hd, hv⟩, hb3⟩
    exact fun todo => leave a' todo w3 _ hd hv ⟨rfl, hb3.un⟩
  have hlen : zs.length ≤ 1048576 := by omega
  have hz : IsBytes zs := ⟨hlen, hzs⟩
  refine (CWp.of (c := gC1) (R := fun e a' w' => e = .normal ∧ gA1 (.slice Ac zs.length cc) a' ∧ Bl W.heap.size W w') closedS noEarlyS (by kernel_rfl) rfl (fun τ d => wp_mono ((gap_r1 Ac zs.length cc hmax (tp W τ d) _ rfl).1 hlen) (fun e a' w' h => ⟨h.1, h.2.1, by rw [h.2.2]; exact ⟨rfl, rfl, rfl, Nat.le_refl _, fun _ _ => rfl⟩⟩)) (fun e a w h => .inl h.1)) Fin _ _ cs rfl ?_
  rintro e a' w0 ⟨τ0, d0, rfl, ⟨u, rfl⟩, hb0⟩
  have HB0 : Bl W.heap.size W w0 := hb0.un
  have hl1 : Lst w0 _ (bytesV zs) := Lst.bl hl0 HB0
  have hN0 : W.heap.size ≤ w0.heap.size := HB0.size
  clear hb0 henter
  obtain ⟨cz0, hcz0⟩ := size_body
  generalize (Value.slice Ac zs.length cc) = vc at *
  show Can Try.prog Fin (G (Frame.at _ _ (.code gT2 :: [])) cs) w0
  rw [gT2_eq]
  refine Can.seq ?_
  simp only [gC2, gT2, gT1, gT0, Try.f3, Option.getD_some]
  refine Can.region (l := [0, 1, 2]) rfl ?_
  refine Can.op rfl rfl rfl (fun _ => rfl) (fun _ => rfl) ?_
  walk_nrm
  refine Can.call rfl rfl rfl (run_direct rfl rfl Try.func4 hcz0 size_name (by simp [Act.eval])) (c_size vc zs 0 1 60 w0 hz hl1 (by omega) (by omega) (by omega) (by omega) (by omega) (by omega)) fun v w1 hR => ?_
  obtain ⟨⟨x, rfl, g1, g2⟩, hb1⟩ := hR
  obtain ⟨q, rfl⟩ : ∃ q : Nat, x = q := ⟨x.toNat, by omega⟩
  have hq1 : 1 ≤ q := by omega
  have hq60 : q ≤ 60 := by omega
  clear g1 g2
  walk_nrm
  refine Can.op rfl rfl rfl (fun _ => rfl) (fun _ => rfl) ?_
  walk_nrm
  refine Can.regionEnd ?_
  have HB1 : Bl W.heap.size W w1 := HB0.trans (hb1.mono hN0)
  have hl2 : Lst w1 vc (bytesV zs) := Lst.bl hl1 hb1
  have hN1 : W.heap.size ≤ w1.heap.size := Nat.le_trans hN0 hb1.size
  clear hb1
  have ew : IntKind.i64.wrap ((q : Int) - 1) = (q : Int) - 1 := IntWalk.i64_in _ (by omega)
  rw [gT3_eq]
  refine Can.seq ?_
  simp only [gC3, gT3, gT2, gT1, gT0, Try.f3, Option.getD_some]
  refine Can.region (l := [0, 1, 2, 3, 4]) rfl ?_
  refine Can.op rfl rfl rfl (fun _ => rfl) (fun _ => rfl) ?_
  refine Can.op rfl rfl rfl (fun _ => rfl) (fun _ => rfl) ?_
  refine Can.opI rfl rfl rfl (fun _ => rfl) (fun _ => rfl) (ew) ?_
  walk_nrm
  refine Can.call rfl rfl rfl (run_direct rfl rfl Try.func4 hcz0 size_name (by simp [Act.eval])) (c_size vc zs 1 0 ((q : Int) - 1) w1 hz hl2 (by omega) (by omega) (by omega) (by omega) (by omega) (by omega)) fun v w2 hR => ?_
  obtain ⟨⟨x, rfl, g1, g2⟩, hb1⟩ := hR
  obtain ⟨p, rfl⟩ : ∃ p : Nat, x = p := ⟨x.toNat, by omega⟩
  have hpq : p < q := by omega
  clear g1 g2
  walk_nrm
  refine Can.op rfl rfl rfl (fun _ => rfl) (fun _ => rfl) ?_
  walk_nrm
  refine Can.regionEnd ?_
  have HB2 : Bl W.heap.size W w2 := HB1.trans (hb1.mono hN1)
  have hl3 : Lst w2 vc (bytesV zs) := Lst.bl hl2 hb1
  have hN2 : W.heap.size ≤ w2.heap.size := Nat.le_trans hN1 hb1.size
  clear hb1
  rw [gT4_eq]
  refine Can.seq ?_
  simp only [gC4, gT4, gT3, gT2, gT1, gT0, Try.f3, Option.getD_some]
  refine Can.region (l := [0, 1, 2]) rfl ?_
  refine Can.op rfl rfl rfl (fun _ => rfl) (fun _ => rfl) ?_
  walk_nrm
  refine Can.call rfl rfl rfl (run_direct rfl rfl Try.func4 hcz0 size_name (by simp [Act.eval])) (c_size vc zs 2 1 40 w2 hz hl3 (by omega) (by omega) (by omega) (by omega) (by omega) (by omega)) fun v w3 hR => ?_
  obtain ⟨⟨x, rfl, g1, g2⟩, hb1⟩ := hR
  obtain ⟨n, rfl⟩ : ∃ n : Nat, x = n := ⟨x.toNat, by omega⟩
  have hn1 : 1 ≤ n := by omega
  have hn40 : n ≤ 40 := by omega
  clear g1 g2
  walk_nrm
  refine Can.op rfl rfl rfl (fun _ => rfl) (fun _ => rfl) ?_
  walk_nrm
  refine Can.regionEnd ?_
  have HB3 : Bl W.heap.size W w3 := HB2.trans (hb1.mono hN2)
  have hl4 : Lst w3 vc (bytesV zs) := Lst.bl hl3 hb1
  have hN3 : W.heap.size ≤ w3.heap.size := Nat.le_trans hN2 hb1.size
  clear hb1
  have hS := gaps_all (p := p) hq1 (by omega) hpq hn1 (by omega)
  have HNR := fun (h : 2 ≤ n) => nr_all (p := p) hq1 (by omega) hpq h (by omega)
  have hcp := fun w => c_pts (p : Int) (q : Int) (n : Int) w
  have hcg := fun w => c_gps (p : Int) (q : Int) (n : Int) w
  have hcl := fun w => c_gln (p : Int) (q : Int) (n : Int) w
  have hcn := fun w => cNearestTo (p : Int) (q : Int) (n : Int) w
  generalize ptR (p : Int) (q : Int) (n : Int) = X at *
  generalize gpR (p : Int) (q : Int) (n : Int) = GG at *
  generalize glnR (p : Int) (q : Int) (n : Int) = L at *
  generalize nrA (p : Int) (q : Int) (n : Int) = na at *
  generalize nrB (p : Int) (q : Int) (n : Int) = nb at *
  rw [gT5_eq]
  refine Can.seq ?_
  simp only [gC5, gT5, gT4, gT3, gT2, gT1, gT0, Try.f3, Option.getD_some]
  refine Can.region (l := [0, 1, 2, 3, 4]) rfl ?_
  refine Can.op rfl rfl rfl (fun _ => rfl) (fun _ => rfl) ?_
  refine Can.op rfl rfl rfl (fun _ => rfl) (fun _ => rfl) ?_
  refine Can.op rfl rfl rfl (fun _ => rfl) (fun _ => rfl) ?_
  walk_nrm
  refine Can.call rfl rfl rfl (run_direct rfl rfl Try.func5 pts_body pts_name (by simp [Act.eval])) (hcp w3) fun vX w4 hR => ?_
  obtain ⟨ho, hb1⟩ := hR
  walk_nrm
  refine Can.op rfl rfl rfl (fun _ => rfl) (fun _ => rfl) ?_
  walk_nrm
  refine Can.regionEnd ?_
  have HB4 : Bl W.heap.size W w4 := HB3.trans (hb1.mono hN3)
  have hN4 : W.heap.size ≤ w4.heap.size := Nat.le_trans hN3 hb1.size
  replace hl4 := Lst.bl hl4 hb1
  have hvX : Lst w4 vX (ints X) := Lst.of_own ho
  clear hb1 ho
  rw [gT6_eq]
  refine Can.seq ?_
  simp only [gC6, gT6, gT5, gT4, gT3, gT2, gT1, gT0, Try.f3, Option.getD_some]
  refine Can.region (l := [0, 1, 2, 3, 4]) rfl ?_
  refine Can.op rfl rfl rfl (fun _ => rfl) (fun _ => rfl) ?_
  refine Can.op rfl rfl rfl (fun _ => rfl) (fun _ => rfl) ?_
  refine Can.op rfl rfl rfl (fun _ => rfl) (fun _ => rfl) ?_
  walk_nrm
  refine Can.call rfl rfl rfl (run_direct rfl rfl Try.func6 gps_body gps_name (by simp [Act.eval])) (hcg w4) fun vG w5 hR => ?_
  obtain ⟨ho, hb1⟩ := hR
  walk_nrm
  refine Can.op rfl rfl rfl (fun _ => rfl) (fun _ => rfl) ?_
  walk_nrm
  refine Can.regionEnd ?_
  have HB5 : Bl W.heap.size W w5 := HB4.trans (hb1.mono hN4)
  have hN5 : W.heap.size ≤ w5.heap.size := Nat.le_trans hN4 hb1.size
  replace hl4 := Lst.bl hl4 hb1
  replace hvX := Lst.bl hvX hb1
  have hvG : Lst w5 vG (ints GG) := Lst.of_own ho
  clear hb1 ho
  rw [gT7_eq]
  refine Can.seq ?_
  simp only [gC7, gT7, gT6, gT5, gT4, gT3, gT2, gT1, gT0, Try.f3, Option.getD_some]
  refine Can.region (l := [0, 1, 2, 3, 4]) rfl ?_
  refine Can.op rfl rfl rfl (fun _ => rfl) (fun _ => rfl) ?_
  refine Can.op rfl rfl rfl (fun _ => rfl) (fun _ => rfl) ?_
  refine Can.op rfl rfl rfl (fun _ => rfl) (fun _ => rfl) ?_
  walk_nrm
  refine Can.call rfl rfl rfl (run_direct rfl rfl Try.func7 gln_body gln_name (by simp [Act.eval])) (hcl w5) fun vL w6 hR => ?_
  obtain ⟨ho, hb1⟩ := hR
  walk_nrm
  refine Can.op rfl rfl rfl (fun _ => rfl) (fun _ => rfl) ?_
  walk_nrm
  refine Can.regionEnd ?_
  have HB6 : Bl W.heap.size W w6 := HB5.trans (hb1.mono hN5)
  have hN6 : W.heap.size ≤ w6.heap.size := Nat.le_trans hN5 hb1.size
  replace hl4 := Lst.bl hl4 hb1
  replace hvX := Lst.bl hvX hb1
  replace hvG := Lst.bl hvG hb1
  have hvL : Lst w6 vL (ints L) := Lst.of_own ho
  clear hb1 ho
  rw [gT8_eq]
  refine Can.seq ?_
  refine (CWp.of (c := gC8) (R := fun e a' w' => e = .normal ∧ gA9 vc (.int .i64 (q : Int)) (.int .i64 (p : Int)) (.int .i64 (n : Int)) vX vG vL a' ∧ Bl w6.heap.size w6 w') closedS noEarlyS (by kernel_rfl) rfl (fun τ d => wp_mono (gap_r9 p q n hq1 hq60 hpq hn1 hn40 X GG L hS vc vX vG vL (tp w6 τ d) hvX hvG hvL _ (gA8_of rfl)) (fun e a' w' h => ⟨h.1, h.2.1, Bl.tp' h.2.2⟩)) (fun e a w h => .inl h.1)) Fin _ _ cs rfl ?_
  rintro e a' w7 ⟨τ8, d8, rfl, ⟨u8, rfl⟩, hb1⟩
  replace hb1 := hb1.un
  have HB7 : Bl W.heap.size W w7 := HB6.trans (hb1.mono hN6)
  have hN7 : W.heap.size ≤ w7.heap.size := Nat.le_trans hN6 hb1.size
  replace hl4 := Lst.bl hl4 hb1
  replace hvX := Lst.bl hvX hb1
  replace hvG := Lst.bl hvG hb1
  replace hvL := Lst.bl hvL hb1
  clear hb1
  show Can Try.prog Fin (G (Frame.at _ _ (.code gT9 :: [])) cs) w7
  rw [gT9_eq]
  refine Can.seq ?_
  refine (CWp.of (c := gC9) (R := fun e a' w' => e = .normal ∧ gA11 vc (.int .i64 (q : Int)) (.int .i64 (p : Int)) (.int .i64 (n : Int)) vX vG vL a' ∧ Bl w7.heap.size w7 w') closedS noEarlyS (by kernel_rfl) rfl (fun τ d => wp_mono (gap_r11 p q n hq1 hq60 hpq hn1 hn40 X GG L hS vc vX vG vL (tp w7 τ d) hvX hvG hvL _ (gA9_of rfl)) (fun e a' w' h => ⟨h.1, h.2.1, Bl.tp' h.2.2⟩)) (fun e a w h => .inl h.1)) Fin _ _ cs rfl ?_
  rintro e a' w8 ⟨τ9, d9, rfl, ⟨u9, rfl⟩, hb1⟩
  replace hb1 := hb1.un
  have HB8 : Bl W.heap.size W w8 := HB7.trans (hb1.mono hN7)
  have hN8 : W.heap.size ≤ w8.heap.size := Nat.le_trans hN7 hb1.size
  replace hl4 := Lst.bl hl4 hb1
  replace hvX := Lst.bl hvX hb1
  replace hvG := Lst.bl hvG hb1
  replace hvL := Lst.bl hvL hb1
  clear hb1
  show Can Try.prog Fin (G (Frame.at _ _ (.code gT10 :: [])) cs) w8
  rw [gT10_eq, gC10_eq]
  refine Can.seq (Can.seq ?_)
  simp only [gC10a, gC10, gT10, gT9, gT8, gT7, gT6, gT5, gT4, gT3, gT2, gT1, gT0, Try.f3, Option.getD_some]
  refine Can.region (l := [0, 1]) rfl ?_
  refine Can.op rfl rfl rfl (fun _ => rfl) (fun _ => rfl) ?_
  by_cases hn2 : 2 ≤ n
  · obtain ⟨ea, eb, rfl, rfl, ⟨ha1, ha2⟩, ⟨hb1', hb2⟩, hlast⟩ := HNR hn2
    refine Can.opB rfl rfl rfl (fun _ => rfl) (fun _ => rfl) (show decide ((1 : Int) < (n : Int)) = true from decide_eq_true (by omega)) ?_
    walk_nrm
    refine Can.regionEnd ?_
    rw [gC10b_eq]
    refine Can.condT rfl rfl ?_
    rw [gN_eq]
    refine Can.seq ?_
    simp only [gNa, gN, gC10b, gC10, gT10, gT9, gT8, gT7, gT6, gT5, gT4, gT3, gT2, gT1, gT0, Try.f3, Option.getD_some]
    refine Can.region (l := [0, 1, 2, 3, 4, 5, 6, 7, 8]) rfl ?_
    refine Can.op rfl rfl rfl (fun _ => rfl) (fun _ => rfl) ?_
    refine Can.op rfl rfl rfl (fun _ => rfl) (fun _ => rfl) ?_
    refine Can.op rfl rfl rfl (fun _ => rfl) (fun _ => rfl) ?_
    walk_nrm
    refine Can.call rfl rfl rfl (run_direct rfl rfl Try.func10 nrt_body nrt_name (by simp [Act.eval])) (hcn w8) fun v w9 hR => ?_
    obtain ⟨rfl, hb1⟩ := hR
    have HB9 : Bl W.heap.size W w9 := HB8.trans (hb1.mono hN8)
    have hN9 : W.heap.size ≤ w9.heap.size := Nat.le_trans hN8 hb1.size
    replace hl4 := Lst.bl hl4 hb1
    replace hvX := Lst.bl hvX hb1
    replace hvG := Lst.bl hvG hb1
    replace hvL := Lst.bl hvL hb1
    clear hb1
    walk_nrm
    refine Can.op rfl rfl rfl (fun _ => rfl) (fun _ => rfl) ?_
    refine Can.op rfl rfl rfl (fun _ => rfl) (fun _ => rfl) ?_
    refine Can.op rfl rfl rfl (fun _ => rfl) (fun _ => rfl) ?_
    refine Can.op rfl rfl rfl (fun _ => rfl) (fun _ => rfl) ?_
    refine Can.op rfl rfl rfl (fun _ => rfl) (fun _ => rfl) ?_
    walk_nrm
    refine Can.regionEnd ?_
    refine (CWp.of (c := gNb) (R := fun e a' w' => e = .normal ∧ gA19 vc (.int .i64 (q : Int)) (.int .i64 (p : Int)) (.int .i64 (n : Int)) vX vG vL a' ∧ Bl w9.heap.size w9 w') closedS noEarlyS (by kernel_rfl) rfl (fun τ d => wp_mono (gap_r19 p q n hq1 hq60 hpq hn1 hn40 X GG L hS vc vX vG vL (tp w9 τ d) hvX hvG hvL _ ea eb ha1 ha2 hb1' hb2 hlast (gA18_of rfl)) (fun e a' w' h => ⟨h.1, h.2.1, Bl.tp' h.2.2⟩)) (fun e a w h => .inl h.1)) Fin _ _ cs rfl ?_
    rintro e a' wa ⟨τa, da, rfl, ⟨ua, rfl⟩, hbb⟩
    replace hbb := hbb.un
    have HBa : Bl W.heap.size W wa := HB9.trans (hbb.mono hN9)
    have hNa : W.heap.size ≤ wa.heap.size := Nat.le_trans hN9 hbb.size
    replace hl4 := Lst.bl hl4 hbb
    clear hbb
    show Can Try.prog Fin (G (Frame.at _ _ (.code gT11 :: [])) cs) wa
    exact gap_tail p q n hq1 hq60 hpq hn1 hn40 zs hz vc vX vG vL W.heap.size W wa hl4 HBa hNa _ (gA19_of rfl) Fin _ _ cs rfl (fun e a' w' ⟨⟨he, hd, hv⟩, hb⟩ => by subst he; exact fun todo => leave a' todo w' _ hd hv ⟨rfl, hb⟩)
  · refine Can.opB rfl rfl rfl (fun _ => rfl) (fun _ => rfl) (show decide ((1 : Int) < (n : Int)) = false from decide_eq_false (by omega)) ?_
    walk_nrm
    refine Can.regionEnd ?_
    rw [gC10b_eq]
    refine Can.condF rfl rfl ?_
    exact gap_tail p q n hq1 hq60 hpq hn1 hn40 zs hz vc vX vG vL W.heap.size W w8 hl4 HB8 hN8 _ (gA19_of rfl) Fin _ _ cs rfl (fun e a' w' ⟨⟨he, hd, hv⟩, hb⟩ => by subst he; exact fun todo => leave a' todo w' _ hd hv ⟨rfl, hb⟩)

theorem fnGaps_cwalk {H : Type} {enc : TypeId × Value → H} {base : Nat} {r : Reach} {b0 : Nat} {d0 : DataW H} {ps0 : List MemPlace} (v0 : Value) (w : World) (hval0 : Value.okWide Try.prog w r b0 22 v0) (h0 : DataW.Trod enc Try.prog w base (fun _ => true) true 22 v0 d0 ps0) :
    CCalls Try.prog 3 #[v0] w fun v w' => v = .bool true ∧ Bl w.heap.size w w' := by
  obtain ⟨zs, hl, hz⟩ := bytes_arg Try.underlying22 Try.underlying5 (by kernel_rfl) hval0 h0
  exact fnGaps_cwalk0 zs v0 w hl hz

set_option maxRecDepth 100000 in
theorem fnGaps_row (os : Os) (started : os.Started) (H : Type) (enc : TypeId × Value → H) :
    ReturnsInLeavingWide {} Try.checked os 3 .any (Rows.fnGapsSpec.pre6 enc Try.prog Try.f3 Rows.fnGapsRow.domain false) (Rows.fnGapsSpec.post enc Try.prog Try.f3 false true false false) :=
  lawLiftedG (C := Try.checked) ownKnobs started (by kernel_rfl) Try.func3 laidOut (by kernel_rfl) (by kernel_rfl) Try.underlying4 rfl
    (fun ds h => by match ds, h with | [_], _ => rfl)
    (ChangeSpec.witness6 (enc := enc) (C := Try.checked) false ⟨#[], #[.slice none 0 0], []⟩ 8 (by kernel_rfl) (by kernel_rfl) (by kernel_rfl) (by kernel_rfl))
    (fun W base args ds p hval0 hA0 hlt => by
      have hval : ∀ (j : Nat) t v, Try.f3.params[j]? = some t → args[j]? = some v → Value.okWide Try.prog W .any base t v := hval0
      have hA : DataW.TrodAll enc Try.prog W 0 (fun _ => true) true Try.f3.params.toList args.toList ds p := hA0
      clear hval0 hA0
      rw [Try.params3] at hA hval
      obtain ⟨v0, d0, rfl, rfl, h0⟩ := trodAll_one hA
      exact fnGaps_cwalk v0 W (hval 0 22 v0 rfl rfl) h0)

theorem fnGaps_holds : Rows.FnGapsSaid :=
  OpenClaim.holds_of_wide_leaving 3 Try.f3 rfl rfl rfl rfl rfl rfl rfl ⟨rfl, rfl, rfl, rfl, rfl⟩ rfl rfl rfl rfl rfl (by kernel_rfl) Try.func3 (by kernel_rfl)
    (of_decide_eq_true (by kernel_rfl)) (by unfold Func.isWrapper; first | (rw [if_pos (by decide +kernel)]; kernel_rfl) | (rw [if_neg (by decide +kernel)]; exact ⟨rfl, rfl⟩))
    (fun os started H enc _ => fnGaps_row os started H enc)


end Go.Proofs.Ytiikledbflgejaa
