/- FormatInt of the model: the decimal digits that Lib.itoa gives. No condition but that the number is an int. -/
import Derived.Test.YtpocfbhbllphdaaDoorChecked
import Derived.Test.YtpocfbhbllphdaaDoorBase
import Derived.Lib.ItoaNum
import Derived.Deep.RegionWith
import Derived.Deep.RegionHeld3
import Derived.Deep.DeepFit
import Derived.Deep.DeepMust
import Derived.IntWalk
namespace Go.Proofs.YtpocfbhbllphdaaDoor
open Go.RowKit

theorem decDigits_step {u : Nat} (h : ¬ u < 10) : Lib.decDigits u = Lib.decDigits (u / 10) ++ [UInt8.ofNat (48 + u % 10)] := by rw [Lib.decDigits, dif_neg h]
theorem decDigits_short : ∀ (k u : Nat), u < 10 ^ (k + 1) → (Lib.decDigits u).length ≤ k + 1
  | 0, u, h => by rw [Lib.decDigits_one (by omega)]; simp
  | k + 1, u, h => by
    by_cases h1 : u < 10
    · rw [Lib.decDigits_one h1]; simp
    · rw [decDigits_step h1, List.length_append]
      have := decDigits_short k (u / 10) (by rw [Nat.pow_succ] at h; omega)
      simp
      omega

set_option maxHeartbeats 400000 in
theorem specFormat_pos (n : Int) (w : World) (h0 : 0 ≤ n) (h1 : n ≤ 9223372036854775807) :
    Calls Tryd.prog 14 #[.int .i64 n] w fun e w' => e = .returned (.string ⟨(Lib.decDigits n.toNat).toArray⟩) ∧ Below w.heap.size w w' := by
  have kc := fun (w : World) (b : Int) => run_conv1 (P := Tryd.prog) w 22 9 5 Tryd.underlying22 Tryd.underlying5 Tryd.underlying9 b
  obtain ⟨u, rfl⟩ := Int.eq_ofNat_of_zero_le h0
  have hu : ((u : Int)).toNat = u := by omega
  rw [hu]
  clear hu
  go_enter Tryd.func14, Tryd.ntmps14
  go_wp2_with fail
  go_loopw [0, 3] (fun j o w' => ∃ (m f : Nat) (out : List UInt8), m < 10 ^ f ∧ m ≤ u ∧ j = .int .i64 m ∧ o = .string ⟨out.toArray⟩ ∧ Lib.decDigits m ++ out = Lib.decDigits u ∧ out.length + f = 20 ∧ Below w.heap.size w w') (fun j _ _ => (intOf j).toNat)
  case atStart => exact ⟨u, 20, [], by omega, by omega, rfl, rfl, by simp, by simp, Below.refl _ _⟩
  case round =>
    obtain ⟨m, f, out, hmf, hmn, rfl, rfl, hd, hlen, hb⟩ := hrel
    have HD := Lib.hid hd
    have HF := Lib.hid hmf
    have HL := Lib.hid hlen
    have hlen' : out.length ≤ 20 := by omega
    clear hd hmf hlen
    have hsz := hb.size
    by_cases hm0 : 9 < m
    · go_wp2_with fail
      go_roundw
      case rel =>
        have hF := HF.out
        have hL := HL.out
        cases f with
        | zero => rw [Nat.pow_zero] at hF; omega
        | succ g =>
          rw [Nat.pow_succ] at hF
          refine ⟨m / 10, g, UInt8.ofNat (48 + m % 10) :: out, by omega, by omega, by go_num, ?_, ?_, by rw [List.length_cons]; omega, ?_⟩
          · show Value.string (ByteArray.mk [(48 : UInt8) + UInt8.ofNat (m % 10)].toArray ++ ByteArray.mk out.toArray) = _
            rw [ByteArray.mk_append_mk]
            simp
          · rw [← HD.out, decDigits_step (show ¬ m < 10 by omega)]
            simp
          · exact hb.alloc hsz _
      case measure => simp [intOf]; omega
    · have hm9 : m < 10 := by omega
      go_wp2_with fail
      go_ret
      refine ⟨ret_str ?_, hb.alloc hsz _⟩
      rw [← HD.out, Lib.decDigits_one hm9]
      show ByteArray.mk [(48 : UInt8) + UInt8.ofNat m].toArray ++ ByteArray.mk out.toArray = _
      rw [ByteArray.mk_append_mk]
      simp

theorem minus_two (c : UInt8) : ByteArray.mk #[45] ++ ByteArray.mk #[c] = ⟨(45 :: [c]).toArray⟩ := by
  show ByteArray.mk [45].toArray ++ ByteArray.mk [c].toArray = _
  rw [ByteArray.mk_append_mk]
  rfl

theorem tdiv10_neg (n : Int) (h : n < 0) : n.tdiv 10 = -((n.natAbs / 10 : Nat) : Int) ∧ n.tmod 10 = -((n.natAbs % 10 : Nat) : Int) := by
  obtain ⟨u, rfl⟩ : ∃ u : Nat, n = -(u : Int) := ⟨n.natAbs, by omega⟩
  rw [Int.neg_tdiv, Int.neg_tmod, Int.natAbs_neg, Int.natAbs_natCast]
  exact ⟨by rw [show (10 : Int) = ((10 : Nat) : Int) from rfl, ← Int.ofNat_tdiv], by rw [show (10 : Int) = ((10 : Nat) : Int) from rfl, ← Int.ofNat_tmod]⟩

set_option maxHeartbeats 400000 in
theorem specFormat_one (n : Int) (w : World) (h0 : n < 0) (h10 : -10 < n) :
    Calls Tryd.prog 14 #[.int .i64 n] w fun e w' => e = .returned (.string ⟨(45 :: Lib.decDigits n.natAbs).toArray⟩) ∧ Below w.heap.size w w' := by
  have kc := fun (w : World) (b : Int) => run_conv1 (P := Tryd.prog) w 22 9 5 Tryd.underlying22 Tryd.underlying5 Tryd.underlying9 b
  have hq : (n.tdiv 10 == 0) = true := by
    rw [beq_iff_eq, (tdiv10_neg n h0).1]
    omega
  have hd : Lib.decDigits n.natAbs = [UInt8.ofNat (48 - n).toNat] := by
    rw [Lib.decDigits_one (by omega), show (48 - n).toNat = 48 + n.natAbs from by omega]
  have HD := Lib.hid hd
  clear hd
  go_enter Tryd.func14, Tryd.ntmps14
  go_wp2_with fail
  go_ret
  refine ⟨ret_str ?_, (Below.refl _ _).alloc (Nat.le_refl _) _⟩
  rw [HD.out]
  exact minus_two _

set_option maxHeartbeats 1000000 in
theorem specFormat_neg (k : Nat) : ∀ (n : Int) (w : World), n < 0 → n.natAbs < 10 ^ (k + 1) → -9223372036854775808 ≤ n →
    Calls Tryd.prog 14 #[.int .i64 n] w fun e w' => e = .returned (.string ⟨(45 :: Lib.decDigits n.natAbs).toArray⟩) ∧ Below w.heap.size w w' := by
  induction k with
  | zero =>
    intro n w h0 h1 h2
    exact specFormat_one n w h0 (by omega)
  | succ k ih =>
    intro n w h0 h1 h2
    by_cases h10 : -10 < n
    · exact specFormat_one n w h0 h10
    obtain ⟨hdv, hmd⟩ := tdiv10_neg n h0
    have IH : Hid (∀ w : World, Calls Tryd.prog 14 #[.int .i64 (n.tdiv 10)] w fun e w' => e = .returned (.string ⟨(45 :: Lib.decDigits (n.natAbs / 10)).toArray⟩) ∧ Below w.heap.size w w') := by
      intro w
      have := ih (n.tdiv 10) w (by omega) (by rw [hdv, Int.natAbs_neg, Int.natAbs_natCast]; rw [Nat.pow_succ] at h1; omega) (by omega)
      rwa [hdv, Int.natAbs_neg, Int.natAbs_natCast, ← hdv] at this
    have hq : (n.tdiv 10 == 0) = false := by
      rw [beq_eq_false_iff_ne, hdv]
      omega
    have hm1 : -9 ≤ n.tmod 10 := by omega
    have hm2 : n.tmod 10 ≤ 0 := by omega
    have hd1 : -9223372036854775808 ≤ n.tdiv 10 := by omega
    have hd2 : n.tdiv 10 ≤ -1 := by omega
    have e1 : IntKind.i64.wrap (n.tdiv 10) = n.tdiv 10 := IntWalk.i64_in _ (by omega)
    have e2 : IntKind.i64.wrap (48 - n.tmod 10) = 48 - n.tmod 10 := IntWalk.i64_in _ (by omega)
    have e3 : IntKind.u8.wrap (48 - n.tmod 10) = 48 - n.tmod 10 := by simp [IntKind.wrap, IntKind.signed, IntKind.bits]; omega
    have e4 : IntKind.i64.wrap (n.tmod 10) = n.tmod 10 := IntWalk.i64_in _ (by omega)
    have hfin : ByteArray.mk (45 :: Lib.decDigits (n.natAbs / 10)).toArray ++ ByteArray.mk [UInt8.ofNat (48 - n.tmod 10).toNat].toArray = ⟨(45 :: Lib.decDigits n.natAbs).toArray⟩ := by
      rw [ByteArray.mk_append_mk, decDigits_step (show ¬ n.natAbs < 10 by omega), hmd, show (48 - -((n.natAbs % 10 : Nat) : Int)).toNat = 48 + n.natAbs % 10 from by omega]
      rfl
    have HFIN := Lib.hid hfin
    clear hfin
    have hlen : (Lib.decDigits (n.natAbs / 10)).length ≤ 20 := decDigits_short 19 _ (by omega)
    have kc := fun (w : World) (b : Int) => run_conv1 (P := Tryd.prog) w 22 9 5 Tryd.underlying22 Tryd.underlying5 Tryd.underlying9 b
    clear hdv hmd ih h1
    go_enter Tryd.func14, Tryd.ntmps14
    go_wp2_with fail
    have kcell : (w.alloc (.cells #[.int .u8 (48 - n.tmod 10)] 5)).drew.cell? ⟨w.heap.size, 0, none⟩ = some (.int .u8 (48 - n.tmod 10)) := by
      show (w.alloc (.cells #[.int .u8 (48 - n.tmod 10)] 5)).cell? ⟨w.heap.size, 0, none⟩ = _
      rw [World.cell?_alloc_at _ _ _ _ rfl]
      rfl
    have k2 := run_conv_at (P := Tryd.prog) _ 22 9 5 Tryd.underlying22 Tryd.underlying5 Tryd.underlying9 w.heap.size (48 - n.tmod 10) kcell
    have KC := Lib.hid kcell
    clear kcell
    go_region_with (go_at_call 14; refine (IH.out _).mono ?_; rintro e w1 ⟨rfl, hb1⟩; (try (have k1 := run_conv_at (P := Tryd.prog) w1 22 9 5 Tryd.underlying22 Tryd.underlying5 Tryd.underlying9 w.heap.size (48 - n.tmod 10) ((hb1.cell (p := ⟨w.heap.size, 0, none⟩) (by simp)).trans KC.out))))
    all_goals go_wp2_with fail
    all_goals go_ret
    all_goals refine ⟨ret_str HFIN.out, ?_⟩
    all_goals first
      | exact ((Below.refl w.heap.size w).drew.trans hb1).alloc hb1.size _
      | exact (((Below.refl w.heap.size w).alloc (Nat.le_refl _) _).drew).trans (hb1.mono (by simp))
end Go.Proofs.YtpocfbhbllphdaaDoor
