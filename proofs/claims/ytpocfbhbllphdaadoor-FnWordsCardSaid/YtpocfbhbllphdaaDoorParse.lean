/- ParseInt of the program: the int whose text it is, or 0 and false. Conditions: a text of at most 2^20 bytes; strconv's table of powers of ten as its initialiser lays it; its two errors are errors. -/
import Derived.Test.YtpocfbhbllphdaaDoorFmtI
import Derived.Shelf.Strconv.AtoiAll
namespace Go.Proofs.YtpocfbhbllphdaaDoor
open Go.RowKit

def IsErr (v : Value) : Prop := v = .nilIface ∨ ∃ te pe, v = .iface te pe
def Errs (w : World) : Prop := (∃ v, w.cell? ⟨0, 0, none⟩ = some v ∧ IsErr v) ∧ ∃ v, w.cell? ⟨1, 0, none⟩ = some v ∧ IsErr v
theorem Errs.below {w w' : World} {B : Nat} (h : Errs w) (hb : Below B w w') (hB : w.heap.size ≤ B) : Errs w' := by
  obtain ⟨⟨v, h1, h2⟩, u, h3, h4⟩ := h
  exact ⟨⟨v, ((hb.mono hB).cell (World.block_lt_of_cell? w _ h1)).trans h1, h2⟩, u, ((hb.mono hB).cell (World.block_lt_of_cell? w _ h3)).trans h3, h4⟩

theorem atoi_good (s : ByteArray) (hs : s.size ≤ 1048576) (v : Int) (h : Lib.atoiAll s.data.toList = .ok v) (w : World) :
    Calls Tryd.prog 18 #[.string s] w fun e w' => e = .returned (.tuple #[.int .i64 v, .nilIface]) ∧ Below w.heap.size w w' := by
  refine (Tryd.strconv_Atoi_ok s (by omega) v h w).mono ?_
  rintro e w' ⟨rfl, rfl | ⟨t, rfl⟩⟩
  · exact ⟨rfl, Below.refl _ _⟩
  · exact ⟨rfl, Lib.bytesWorld_below _ _ _⟩
theorem atoi_bad (s : ByteArray) (hs : s.size ≤ 1048576) (h : ∀ v, Lib.atoiAll s.data.toList ≠ .ok v) (w : World) (hE : Errs w) :
    Calls Tryd.prog 18 #[.string s] w fun e w' => ∃ N u, e = .returned (.tuple #[.int .i64 u, .iface 55 (.pointer (some ⟨N, 0, none⟩))]) ∧ Below w.heap.size w w' := by
  obtain ⟨⟨v, h1, h2⟩, u, h3, h4⟩ := hE
  cases hx : Lib.atoiAll s.data.toList
  · exact absurd hx (h _)
  · refine (Any.strconv_Atoi_syntax Tryd.laysC172 s (by omega) hx v w h1 h2).mono ?_
    rintro e w' ⟨N, rfl, _, _, hb⟩
    exact ⟨N, _, rfl, hb⟩
  · refine (Any.strconv_Atoi_range Tryd.laysC172 s (by omega) hx u w h3 h4).mono ?_
    rintro e w' ⟨N, rfl, _, _, hb⟩
    exact ⟨N, _, rfl, hb⟩

def ParseSaid (s : ByteArray) (w : World) (e : Ending) (w' : World) : Prop := ∃ n b, e = .returned (.tuple #[.int .i64 n, .bool b]) ∧ Pres s n b ∧ Below w.heap.size w w'

set_option maxHeartbeats 400000 in
theorem implParseInt (s : ByteArray) (w : World) (hs : s.size ≤ 1048576) (ht : Tab w) (hE : Errs w) :
    Calls Tryd.prog 7 #[.string s] w (ParseSaid s w) := by
  by_cases hg : ∃ v, Lib.atoiAll s.data.toList = .ok v
  · obtain ⟨v, hv⟩ := hg
    obtain ⟨b1, b2⟩ := Lib.atoiAll_bounds hv
    have HC := Lib.hid (atoi_good s hs v hv w)
    have HV := Lib.hid hv
    clear hv hE
    by_cases he : itoaS v = s
    · have hbb : (!((itoaS v).toList == s.toList)) = false := by rw [he]; simp
      have HE := Lib.hid he
      clear he
      go_enter Tryd.func7, Tryd.ntmps7
      go_wp2_with fail
      refine HC.out.mono ?_
      rintro e w1 ⟨rfl, hb1⟩
      go_wp2_with fail
      refine (implFormatInt v _ b1 b2 (ht.below hb1 (Nat.le_refl _))).mono ?_
      rintro e w2 ⟨rfl, hb2⟩
      go_wp2_with fail
      go_ret2
      exact ⟨v, true, rfl, .inl ⟨rfl, ⟨b1, b2⟩, HE.out⟩, hb1.trans (hb2.mono hb1.size)⟩
    · have hbb : (!((itoaS v).toList == s.toList)) = true := by
        rw [Bool.not_eq_true', beq_eq_false_iff_ne]
        exact fun h => he (bytes_ext h)
      have HE := Lib.hid he
      clear he
      go_enter Tryd.func7, Tryd.ntmps7
      go_wp2_with fail
      refine HC.out.mono ?_
      rintro e w1 ⟨rfl, hb1⟩
      go_wp2_with fail
      refine (implFormatInt v _ b1 b2 (ht.below hb1 (Nat.le_refl _))).mono ?_
      rintro e w2 ⟨rfl, hb2⟩
      go_wp2_with fail
      go_ret2
      refine ⟨0, false, rfl, .inr ⟨rfl, rfl, fun m hm hms => ?_⟩, hb1.trans (hb2.mono hb1.size)⟩
      have hv := HV.out
      rw [← hms, itoaS_list, atoi_itoa m hm] at hv
      injection hv with hv
      subst hv
      exact HE.out hms
  · have hn : ∀ m, InR m → itoaS m ≠ s := fun m hm hms => hg ⟨m, by rw [← hms, itoaS_list]; exact atoi_itoa m hm⟩
    have HC := Lib.hid (atoi_bad s hs (fun v hv => hg ⟨v, hv⟩) w hE)
    have HN := Lib.hid hn
    clear hn hg hE
    go_enter Tryd.func7, Tryd.ntmps7
    go_wp2_with fail
    refine HC.out.mono ?_
    rintro e w1 ⟨N, u, rfl, hb1⟩
    go_wp2_with fail
    go_ret2
    exact ⟨0, false, rfl, .inr ⟨rfl, rfl, HN.out⟩, hb1⟩
end Go.Proofs.YtpocfbhbllphdaaDoor
