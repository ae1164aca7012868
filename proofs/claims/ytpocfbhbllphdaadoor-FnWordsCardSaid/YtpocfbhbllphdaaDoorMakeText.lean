/- MakeText gives a text of at most 16 bytes; nothing old turns. And a slice of bytes that came in, opened. -/
import Derived.Test.YtpocfbhbllphdaaDoorDraw
import Derived.ChangeSlices
namespace Go.Proofs.YtpocfbhbllphdaaDoor
open Go.ChangeShapes Go.WideShapes Go.RowKit

theorem bytes_arg {H : Type} {enc : TypeId × Value → H} {P : Program} {w : World} {base : Nat} {r : Reach} {b0 : Nat} {t e : TypeId} {v : Value} {d : DataW H} {ps : List MemPlace} (ht : P.underlying t = some (.slice e)) (he : P.underlying e = some (.int .u8)) (hc : P.cellsOf e = 1)
    (hval : Value.okWide P w r b0 t v) (h : DataW.Trod enc P w base (fun _ => true) true t v d ps) : ∃ zs : List Int, Lst w v (bytesV zs) ∧ ∀ z ∈ zs, 0 ≤ z ∧ z ≤ 255 := by
  obtain ⟨fuel, hf⟩ := h
  obtain ⟨A, ln, cp, rfl⟩ : ∃ A ln cp, v = .slice A ln cp := by
    simp only [Value.okWide, ht, Cell.okWide] at hval
    cases v <;> simp_all [Cell.ok]
  rcases open_ints ht he hc hf with ⟨hcs, _⟩ | ⟨a, len, cap, zs, hcs, _, hl, hm, hlen, _, hcell, hwf⟩
  · simp [Value.cells] at hcs
    obtain ⟨rfl, rfl, rfl⟩ := hcs
    exact ⟨[], ⟨none, 0, by simp [bytesV], by simp [bytesV], by simp [maxLen], .inl rfl⟩, by simp⟩
  · simp [Value.cells] at hcs
    obtain ⟨rfl, rfl, rfl⟩ := hcs
    simp at hlen
    refine ⟨zs.take ln, ?_, fun z hz => ?_⟩
    · refine ⟨some a, cp, by simp [bytesV, hlen, Nat.min_eq_left hl], by simp [bytesV, hlen]; omega, hm, ?_⟩
      by_cases h0 : ln = 0
      · subst h0
        exact .inl (by simp [bytesV])
      · obtain ⟨b, off, spot⟩ := a
        have h1 := hcell 0 (by omega)
        have hspot : spot = none := by simpa [Addr.add] using World.cell?_spot h1
        subst hspot
        refine .inr ⟨b, off, rfl, fun i u hu => ?_⟩
        have hi : i < ln := by
          have := (List.getElem?_eq_some_iff.1 hu).1
          simp [bytesV, hlen] at this
          omega
        have h2 := hcell i (by omega)
        rw [Addr.add_lit] at h2
        rw [h2]
        simp [bytesV, hi] at hu
        obtain ⟨x, hx, rfl⟩ := hu
        simp [List.getD, hx]
    · have := hwf z (List.mem_of_mem_take hz)
      simp [Lit.wf, IntKind.min, IntKind.max, IntKind.signed, IntKind.bits] at this
      exact this

def TextSaid (w : World) (e : Ending) (w' : World) : Prop := ∃ s : ByteArray, e = .returned (.string s) ∧ s.size ≤ 16 ∧ Below w.heap.size w w'
def five : List ByteArray := [⟨#[97]⟩, ⟨#[98, 99]⟩, ⟨#[32]⟩, ⟨#[44]⟩, ⟨#[120, 49]⟩]
theorem five_short : ∀ s ∈ five, s.size ≤ 2 := by
  intro s hs
  simp only [five, List.mem_cons, List.not_mem_nil, or_false] at hs
  rcases hs with rfl | rfl | rfl | rfl | rfl <;> decide

set_option maxRecDepth 100000 in
set_option maxHeartbeats 1000000 in
theorem makeText_any (v : Value) (zs : List Int) (w : World) (hz : IsBytes zs) (hl : Lst w v (bytesV zs)) :
    Calls Tryd.prog 9 #[v] w (TextSaid w) := by
  have HN := Lib.hid (l01New_any v zs w hz hl)
  have HZ := Lib.hid hz
  obtain ⟨A, c, rfl, -, -, -⟩ := hl
  rw [bytesV_length] at HN ⊢
  clear hz
  go_enter Tryd.func9, Tryd.ntmps9
  go_wp2_with fail
  refine HN.out.mono ?_
  rintro e w1 ⟨g, rfl, hg, hc1, hb1⟩
  have HC := Lib.hid hc1
  clear hc1
  go_wp2_with fail
  refine (l01Below_small g _ zs 8 _ HZ.out HC.out (by omega) (by omega)).mono ?_
  rintro e w2 ⟨x, rfl, x0, x1, hc2, hg2⟩
  have HC2 := Lib.hid hc2
  clear hc2
  have hb2 := hb1.grown hg2 hb1.size (fun j hj => by cases hj; exact hg)
  obtain ⟨n, rfl⟩ := Int.eq_ofNat_of_zero_le x0
  go_wp2_with fail
  go_loopw [4, 5] (fun t i w' => ∃ (k : Nat) (s : ByteArray), k ≤ n ∧ i = .int .i64 k ∧ t = .string s ∧ s.size + 2 * k ≤ 16 ∧ Cur w' g (.slice A zs.length c) zs ∧ Below w.heap.size w w') (fun _ i _ => (intOf i).toNat)
  case atStart => exact ⟨n, ⟨#[]⟩, by omega, rfl, rfl, by show 0 + 2 * n ≤ 16; omega, HC2.out, hb2⟩
  case round =>
    obtain ⟨k, s, hk, rfl, rfl, hs, hc, hb⟩ := hrel
    have HK := Lib.hid hc
    clear hc
    have hsz := hb.size
    by_cases hlt : 0 < k
    · have HG := Lib.hid HK.out.ptr
      go_wp2_with fail
      have hcells : ∀ j (hj : j < five.length), (wr.alloc (.cells #[.string ⟨#[97]⟩, .string ⟨#[98, 99]⟩, .string ⟨#[32]⟩, .string ⟨#[44]⟩, .string ⟨#[120, 49]⟩] 9)).cell? ⟨wr.heap.size, j, none⟩ = some (.string five[j]) := by
        intro j hj
        rw [World.cell?_alloc_at _ _ _ _ rfl]
        have hj' : j < 5 := hj
        rcases j with _ | _ | _ | _ | _ | j <;> first | rfl | omega
      refine (l01Str_any g _ zs wr.heap.size five _ HZ.out (HK.out.below ((Below.refl _ _).alloc (Nat.le_refl _) _)) (by decide) (by decide) (by have := HG.out; omega) hcells).mono ?_
      rintro e w3 ⟨u, hu, rfl, hc3, hg3⟩
      have hus := five_short u hu
      have HC3 := Lib.hid hc3
      clear hc3 hu hcells
      go_wp2_with fail
      go_roundw
      case rel =>
        refine ⟨k - 1, s ++ u, by omega, by rw [show (k : Int) - 1 = ((k - 1 : Nat) : Int) from by omega], rfl, ?_, HC3.out, ?_⟩
        · rw [ByteArray.size_append]; omega
        · exact (hb.alloc hsz _).grown hg3 (by simp; omega) (fun j hj => by cases hj; exact hg)
      case measure => simp [intOf]; omega
    · go_wp2_with fail
      go_ret
      exact ⟨s, rfl, by omega, hb⟩
end Go.Proofs.YtpocfbhbllphdaaDoor
