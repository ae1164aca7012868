/- Texts put together. -/
import Derived.Test.YtjmijedfmiplfaaMgA16
import Derived.Test.YtjmijedfmiplfaaMgA8
import Derived.Test.YtjmijedfmiplfaaChecked
import Derived.Test.YtjmijedfmiplfaaMgA5
import Derived.Shelf.Strings.Builder1
import Derived.Shelf.Strings.Builder2
import Derived.Shelf.Strings.BuilderF
import Derived.Shelf.Strings.BuilderK
import Derived.Shelf.Utf8.RuneCount
import Derived.Shelf.Strings.Builder2Cap
import Derived.Shelf.Strings.Search1
import Derived.Shelf.Strings.Search2
import Derived.Shelf.Strings.Search3
import Derived.Shelf.Strings.Count
import Derived.Shelf.LaysM
import Derived.Shelf.Strings.Shaped
import Derived.Shelf.Strings.Prefix
import Derived.Shelf.Strings.Split
import Derived.Shelf.Strings.RuneCount
import Derived.Shelf.Bits.Mul64
import Derived.Shelf.Strings.Repeat
import Derived.Shelf.Strings.BuilderCap
import Derived.Shelf.Slices.Turned
import Derived.Test.YtjmijedfmiplfaaProg
import Derived.Test.YtjmijedfmiplfaaMgA17
/- Chapter 13 of the model: NextStandard, StandardWord. Conditions: lengths of at most 2^20. -/
namespace Go.Proofs.Ytjmijedfmiplfaa
open Go.RowKit Go.Lib

theorem word_no {s : ByteArray} (h : 400 < s.size) : wordB s = false := by
  rw [Bool.eq_false_iff]
  intro hw
  have := word_size hw
  omega
theorem tim_up (v : ByteArray) {i k : Nat} (h : i ≤ k) : (timesB v i).size ≤ (timesB v k).size := by
  rw [tim_size, tim_size]
  exact Nat.mul_le_mul_right _ h

set_option maxRecDepth 100000 in
set_option maxHeartbeats 1000000 in
theorem specRepeat (u v : ByteArray) (k : Nat) (w : World) (hu : u.size ≤ 400) (hv : v.size ≤ 400) (hk : k ≤ 100) :
    Calls Try.prog 46 #[.string u, .string v, .int .i64 (k : Int)] w fun e w' => ∃ x, e = .returned (.string x) ∧ Hid (wordB x = wordB (timesB v k ++ u) ∧ (wordB x = true → x = timesB v k ++ u)) ∧ w = w' := by
  have HS : Hid (∀ i, timesB v (i + 1) = timesB v i ++ v) := fun i => rfl
  have H0 : Hid (timesB v 0 = ⟨#[]⟩) := rfl
  have HFULL : Hid (∀ x, x = timesB v k ++ u → wordB x = wordB (timesB v k ++ u) ∧ (wordB x = true → x = timesB v k ++ u)) := fun x e => ⟨by rw [e], fun _ => e⟩
  have HLONG : Hid (∀ i x, i ≤ k → 400 < (timesB v i).size → x = timesB v i ++ u → wordB x = wordB (timesB v k ++ u) ∧ (wordB x = true → x = timesB v k ++ u)) := fun i x hi h e => by
    have h1 : wordB x = false := word_no (by rw [e, ByteArray.size_append]; omega)
    have h2 : wordB (timesB v k ++ u) = false := word_no (by rw [ByteArray.size_append]; have := tim_up v hi; omega)
    rw [h1, h2]
    exact ⟨rfl, fun h => by cases h⟩
  generalize timesB v = T at *
  generalize wordB = B at *
  go_enter Try.func46, Try.ntmps46
  go_wp2_with fail
  go_loopw [7, 8] (fun xv iv w' => ∃ (i : Nat) (x : ByteArray), i ≤ k ∧ x = T i ∧ x.size ≤ 800 ∧ xv = .string x ∧ iv = .int .i64 (i : Int) ∧ w = w') (fun _ iv _ => k - (RowKit.intOf iv).toNat)
  case atStart => exact ⟨0, ⟨#[]⟩, Nat.zero_le _, H0.out.symm, Nat.zero_le _, rfl, rfl, rfl⟩
  case round =>
    obtain ⟨i, x, hi, hx, hz, rfl, rfl, rfl⟩ := hrel
    have HX := Lib.hid hx
    clear hx
    by_cases hlt : i < k
    · have hlt' : (i : Int) < (k : Int) := by omega
      by_cases h4 : x.size ≤ 400
      · have h4' : (x.size : Int) ≤ 400 := by omega
        have HN : Hid (x ++ v = T (i + 1)) := by show _ = _; rw [HS.out, HX.out]
        have hz2 : (x ++ v).size ≤ 800 := by rw [ByteArray.size_append]; omega
        go_wp2_with fail
        go_roundw
        case rel => exact ⟨i + 1, x ++ v, by omega, HN.out, hz2, rfl, by go_num, by trivial⟩
        case measure => simp [RowKit.intOf]; omega
      · have h4' : ¬ (x.size : Int) ≤ 400 := by omega
        have HL := Lib.hid (fun y => HLONG.out i y hi (by rw [← HX.out]; omega))
        rw [← HX.out] at HL
        go_wp2_with fail
        go_ret
        exact ⟨_, rfl, HL.out _ rfl, rfl⟩
    · have hik : i = k := by omega
      have hlt' : ¬ (i : Int) < (k : Int) := by omega
      have HF := Lib.hid HFULL.out
      rw [← hik, ← HX.out] at HF
      have HE : Hid (T i = T k) := by show _ = _; rw [hik]
      clear hik
      go_wp2_with fail
      go_ret
      exact ⟨_, rfl, by rw [← HE.out, ← HX.out]; exact HF.out _ rfl, rfl⟩

set_option maxRecDepth 100000 in
set_option maxHeartbeats 1000000 in
theorem specNextStandardQ (u v : ByteArray) (k : Int) (w : World) (_ : u.size ≤ 1048576) (_ : v.size ≤ 1048576) :
    Calls Try.prog 25 #[.string u, .string v, .int .i64 k] w fun e w' => e = .returned (.tuple #[.string (nsR u v k), .bool (nsOk u v k)]) ∧ w = w' := by
  have HD : Hid (nsOk u v k = (((decide (0 ≤ k) && decide (k ≤ 100)) && (wordB u && wordB v)) && wordB (timesB v k.toNat ++ u))) := rfl
  have HNO : Hid (nsOk u v k = false → nsR u v k = ⟨#[]⟩) := fun h => if_neg (by rw [h]; decide)
  cases h1 : (decide (0 ≤ k) && decide (k ≤ 100))
  · have HV : Hid (nsOk u v k = false) := by show _ = _; rw [HD.out, h1]; rfl
    have HR := Lib.hid (HNO.out HV.out)
    have H1 := Lib.hid h1
    clear h1 HD HNO
    generalize nsOk u v k = ok at *
    generalize nsR u v k = r at *
    go_enter Try.func25, Try.ntmps25
    go_wp2_with fail
    refine (specIn _ _ _ _).mono ?_
    rintro e w' ⟨rfl, rfl⟩
    rw [H1.out]
    go_wp2_with fail
    go_ret2
    exact ⟨by rw [HV.out, HR.out]; rfl, rfl⟩
  have H1 := Lib.hid h1
  cases h2 : wordB u
  · have HV : Hid (nsOk u v k = false) := by show _ = _; rw [HD.out, h1, h2]; rfl
    have HR := Lib.hid (HNO.out HV.out)
    have H2 := Lib.hid h2
    clear h1 h2 HD HNO
    generalize nsOk u v k = ok at *
    generalize nsR u v k = r at *
    go_enter Try.func25, Try.ntmps25
    go_wp2_with fail
    refine (specIn _ _ _ _).mono ?_
    rintro e w' ⟨rfl, rfl⟩
    rw [H1.out]
    go_wp2_with fail
    refine (specWordOk u _).mono ?_
    rintro e w' ⟨rfl, rfl⟩
    rw [H2.out]
    go_wp2_with fail
    go_ret2
    exact ⟨by rw [HV.out, HR.out]; rfl, rfl⟩
  have H2 := Lib.hid h2
  cases h3 : wordB v
  · have HV : Hid (nsOk u v k = false) := by show _ = _; rw [HD.out, h1, h2, h3]; rfl
    have HR := Lib.hid (HNO.out HV.out)
    have H3 := Lib.hid h3
    clear h1 h2 h3 HD HNO
    generalize nsOk u v k = ok at *
    generalize nsR u v k = r at *
    go_enter Try.func25, Try.ntmps25
    go_wp2_with fail
    refine (specIn _ _ _ _).mono ?_
    rintro e w' ⟨rfl, rfl⟩
    rw [H1.out]
    go_wp2_with fail
    refine (specWordOk u _).mono ?_
    rintro e w' ⟨rfl, rfl⟩
    rw [H2.out]
    go_wp2_with fail
    refine (specWordOk v _).mono ?_
    rintro e w' ⟨rfl, rfl⟩
    rw [H3.out]
    go_wp2_with fail
    go_ret2
    exact ⟨by rw [HV.out, HR.out]; rfl, rfl⟩
  have H3 := Lib.hid h3
  have hk := h1
  rw [Bool.and_eq_true, decide_eq_true_eq, decide_eq_true_eq] at hk
  obtain ⟨K, rfl⟩ : ∃ m : Nat, k = m := ⟨k.toNat, by omega⟩
  rw [Int.toNat_natCast] at HD
  rw [h1, h2, h3] at HD
  have HV : Hid (nsOk u v (K : Int) = wordB (timesB v K ++ u)) := by show _ = _; rw [HD.out]; rfl
  have HYES : Hid (nsOk u v (K : Int) = true → nsR u v (K : Int) = timesB v K ++ u) := fun h => if_pos h
  have HRP := Lib.hid (fun w => specRepeat u v K w (word_size h2) (word_size h3) (by omega))
  clear h1 h2 h3 HD
  generalize nsOk u v (K : Int) = ok at *
  generalize nsR u v (K : Int) = r at *
  generalize timesB v K ++ u = y at *
  go_enter Try.func25, Try.ntmps25
  go_wp2_with fail
  refine (specIn _ _ _ _).mono ?_
  rintro e w' ⟨rfl, rfl⟩
  rw [H1.out]
  go_wp2_with fail
  refine (specWordOk u _).mono ?_
  rintro e w' ⟨rfl, rfl⟩
  rw [H2.out]
  go_wp2_with fail
  refine (specWordOk v _).mono ?_
  rintro e w' ⟨rfl, rfl⟩
  rw [H3.out]
  go_wp2_with fail
  refine (HRP.out _).mono ?_
  rintro e w' ⟨x, rfl, hx, rfl⟩
  go_wp2_with fail
  refine (specWordOk x _).mono ?_
  rintro e w' ⟨rfl, rfl⟩
  obtain ⟨hx1, hx2⟩ := hx.out
  cases hwx : wordB x
  · have HK : Hid (ok = false) := by show _ = _; rw [HV.out, ← hx1, hwx]
    have HR := Lib.hid (HNO.out HK.out)
    clear hx hx1 hx2 hwx
    go_wp2_with fail
    go_ret2
    exact ⟨by rw [HK.out, HR.out]; rfl, rfl⟩
  · have HK : Hid (ok = true) := by show _ = _; rw [HV.out, ← hx1, hwx]
    have HR : Hid (r = x) := by show _ = _; rw [HYES.out HK.out, hx2 hwx]
    clear hx hx1 hx2 hwx
    go_wp2_with fail
    go_ret2
    exact ⟨by rw [HK.out, HR.out]; rfl, rfl⟩
theorem specNextStandard (u v : ByteArray) (k : Int) (w : World) (hu : u.size ≤ 1048576) (hv : v.size ≤ 1048576) :
    Calls Try.prog 25 #[.string u, .string v, .int .i64 k] w fun e w' => e = .returned (.tuple #[.string (nsR u v k), .bool (nsOk u v k)]) ∧ Below w.heap.size w w' := by
  exact (specNextStandardQ u v k w hu hv).mono fun _ _ h => ⟨h.1, by rw [← h.2]; exact Below.refl _ _⟩

theorem sw_stop {l : List Int} {j : Nat} (h : swTo l j = none) : ∀ d, swTo l (j + d) = none
  | 0 => h
  | d + 1 => by
    have ih := sw_stop h d
    show (match swTo l (j + d) with | none => none | some y => _) = none
    rw [ih]
theorem ns_size {u v : ByteArray} {k : Int} : (nsR u v k).size ≤ 400 := by
  unfold nsR
  split
  next h =>
    unfold nsOk at h
    rw [Bool.and_eq_true] at h
    exact word_size h.2
  · exact Nat.zero_le _

set_option maxRecDepth 100000 in
set_option maxHeartbeats 1000000 in
theorem specStandardWordQ (l : List Int) (v : Value) (w : World) (h : Lst w v (ints l)) :
    Calls Try.prog 27 #[v] w fun e w' => e = .returned (.tuple #[.string (swR l), .bool (swOk l)]) ∧ w = w' := by
  obtain ⟨A, c, rfl, hc1, hc2, h1⟩ := h
  rw [ints_length] at hc1 ⊢
  unfold maxLen at hc2
  have HNONE : Hid (swO l = none → swR l = ⟨#[]⟩ ∧ swOk l = false) := fun e => by unfold swR swOk; rw [e]; exact ⟨rfl, rfl⟩
  have HSOME : Hid (∀ u v, swO l = some (u, v) → swR l = v ∧ swOk l = true) := fun u v e => by unfold swR swOk; rw [e]; exact ⟨rfl, rfl⟩
  have HD : Hid ((decide ((1 : Int) ≤ (l.length : Int)) && decide ((l.length : Int) ≤ 12)) = (decide (1 ≤ l.length) && decide (l.length ≤ 12))) := by
    show _ = _
    rw [Bool.eq_iff_iff, Bool.and_eq_true, Bool.and_eq_true, decide_eq_true_eq, decide_eq_true_eq, decide_eq_true_eq, decide_eq_true_eq]
    omega
  cases hd : (decide (1 ≤ l.length) && decide (l.length ≤ 12))
  · rw [hd] at HD
    obtain ⟨n1, n2⟩ := HNONE.out (if_neg (by rw [hd]; decide))
    have HN1 := Lib.hid n1
    have HN2 := Lib.hid n2
    clear h1 hd n1 n2 HNONE HSOME
    generalize swR l = r at *
    generalize swOk l = ok at *
    go_enter Try.func27, Try.ntmps27
    go_wp2_with fail
    refine (specIn _ _ _ _).mono ?_
    rintro e w' ⟨rfl, rfl⟩
    rw [HD.out]
    go_wp2_with fail
    go_ret2
    exact ⟨by rw [HN1.out, HN2.out]; rfl, rfl⟩
  rw [hd] at HD
  have hd2 := hd
  simp only [Bool.and_eq_true, decide_eq_true_eq] at hd2
  have hl : l ≠ [] := fun e => by subst e; simp at hd2
  obtain ⟨b, off, rfl, h2⟩ := h1.resolve_left (by simp [ints, hl])
  have H1 := Lib.hid (ints_at h2)
  have HO : Hid (swO l = swTo l l.length) := if_pos hd
  have HST := Lib.hid (fun j (h : swTo l j = none) => sw_stop h)
  have HNX : Hid (∀ k u v, swTo l k = some (u, v) → swTo l (k + 1) = if ((decide (((min k 1 : Nat) : Int) ≤ l.getD k 0) && decide (l.getD k 0 ≤ 100)) && nsOk u v (l.getD k 0)) = true then some (v, nsR u v (l.getD k 0)) else none) := fun k u v e => by
    show (match swTo l k with | none => none | some y => _) = _
    rw [e]
  have HGD : Hid (∀ k (hk : k < l.length), l.getD k 0 = l[k]) := fun k hk => by rw [List.getD_eq_getElem?_getD, List.getElem?_eq_getElem hk]; rfl
  have H0 : Hid (swTo l 0 = some (⟨#[98]⟩, ⟨#[97]⟩)) := rfl
  have HNS := Lib.hid (fun u v k w (hu : u.size ≤ 400) (hv : v.size ≤ 400) => specNextStandardQ u v k w (by omega) (by omega))
  have HZ : Hid (∀ u v k, (nsR u v k).size ≤ 400) := fun u v k => ns_size
  clear h1 h2 hl hd
  generalize swR l = r at *
  generalize swOk l = ok at *
  generalize swO l = o at *
  generalize swTo l = T at *
  generalize nsOk = NK at *
  generalize nsR = NR at *
  go_enter Try.func27, Try.ntmps27
  go_wp2_with fail
  refine (specIn _ _ _ _).mono ?_
  rintro e w' ⟨rfl, rfl⟩
  rw [HD.out]
  go_wp2_with fail
  go_loopw [4, 5, 16] (fun uv vv iv w' => ∃ (k : Nat) (u v : ByteArray), k ≤ l.length ∧ u.size ≤ 400 ∧ v.size ≤ 400 ∧ uv = .string u ∧ vv = .string v ∧ iv = .int .i64 (k : Int) ∧ T k = some (u, v) ∧ w = w') (fun _ _ iv _ => l.length - (RowKit.intOf iv).toNat)
  case atStart => exact ⟨0, ⟨#[98]⟩, ⟨#[97]⟩, Nat.zero_le _, by decide, by decide, rfl, rfl, rfl, H0.out, rfl⟩
  case round =>
    obtain ⟨k, u, v, hk, hu, hv, rfl, rfl, rfl, ht, rfl⟩ := hrel
    have HT := Lib.hid ht
    clear ht
    by_cases hlt : k < l.length
    · have hlt' : (k : Int) < (l.length : Int) := by omega
      have g1 := H1.out k hlt
      have HNXK := Lib.hid (HNX.out k u v HT.out)
      have HFAIL : Hid (T (k + 1) = none → r = ⟨#[]⟩ ∧ ok = false) := fun h => HNONE.out (by
        have := HST.out (k + 1) h (l.length - (k + 1))
        rw [show k + 1 + (l.length - (k + 1)) = l.length by omega] at this
        rw [HO.out]; exact this)
      rw [HGD.out k hlt] at HNXK
      have hmn : min (k : Int) 1 = ((min k 1 : Nat) : Int) := by omega
      generalize (min k 1 : Nat) = mm at *
      generalize l[k] = x at *
      have HI := Lib.hid (fun w => specIn x (mm : Int) 100 w)
      have HNSK := Lib.hid (fun w => HNS.out u v x w hu hv)
      have hz := HZ.out u v x
      cases hb : (decide ((mm : Int) ≤ x) && decide (x ≤ 100))
      · rw [hb] at HI HNXK
        obtain ⟨n1, n2⟩ := HFAIL.out (by rw [HNXK.out, Bool.false_and]; exact if_neg (by decide))
        have HN1 := Lib.hid n1
        have HN2 := Lib.hid n2
        clear hb HNXK n1 n2
        go_wp2_with fail
        all_goals
          first
            | rw [show (mm : Int) = 1 from by omega] at HI
            | rw [show (mm : Int) = (k : Int) from by omega] at HI
            | skip
          refine (HI.out _).mono ?_
          rintro e w' ⟨rfl, rfl⟩
          go_wp2_with fail
          go_ret2
          exact ⟨by rw [HN1.out, HN2.out]; rfl, rfl⟩
      · rw [hb, Bool.true_and] at HNXK
        rw [hb] at HI
        generalize NR u v x = y at *
        cases hn : NK u v x
        · rw [hn] at HNXK HNSK
          obtain ⟨n1, n2⟩ := HFAIL.out (by rw [HNXK.out]; exact if_neg (by decide))
          have HN1 := Lib.hid n1
          have HN2 := Lib.hid n2
          clear hb hn HNXK n1 n2
          go_wp2_with fail
          all_goals
            first
              | rw [show (mm : Int) = 1 from by omega] at HI
              | rw [show (mm : Int) = (k : Int) from by omega] at HI
              | skip
            refine (HI.out _).mono ?_
            rintro e w' ⟨rfl, rfl⟩
            go_wp2_with fail
            refine (HNSK.out _).mono ?_
            rintro e w' ⟨rfl, rfl⟩
            go_wp2_with fail
            go_ret2
            exact ⟨by rw [HN1.out, HN2.out]; rfl, rfl⟩
        · rw [hn] at HNXK HNSK
          have HOK : Hid (T (k + 1) = some (v, y)) := by show _ = _; rw [HNXK.out]; exact if_pos rfl
          clear hb hn HNXK
          go_wp2_with fail
          all_goals
            first
              | rw [show (mm : Int) = 1 from by omega] at HI
              | rw [show (mm : Int) = (k : Int) from by omega] at HI
              | skip
            refine (HI.out _).mono ?_
            rintro e w' ⟨rfl, rfl⟩
            go_wp2_with fail
            refine (HNSK.out _).mono ?_
            rintro e w' ⟨rfl, rfl⟩
            go_wp2_with fail
            go_roundw
            case rel => exact ⟨k + 1, v, y, by omega, hv, hz, rfl, rfl, by go_num, HOK.out, by trivial⟩
            case measure => simp [RowKit.intOf]; omega
    · have hke : k = l.length := by omega
      have hlt' : ¬ (k : Int) < (l.length : Int) := by omega
      obtain ⟨n1, n2⟩ := HSOME.out u v (by rw [HO.out, ← hke]; exact HT.out)
      have HN1 := Lib.hid n1
      have HN2 := Lib.hid n2
      clear hke n1 n2
      go_wp2_with fail
      go_ret2
      exact ⟨by rw [HN1.out, HN2.out]; rfl, rfl⟩
theorem specStandardWord (l : List Int) (v : Value) (w : World) (h : Lst w v (ints l)) :
    Calls Try.prog 27 #[v] w fun e w' => e = .returned (.tuple #[.string (swR l), .bool (swOk l)]) ∧ Below w.heap.size w w' := by
  exact (specStandardWordQ l v w h).mono fun _ _ h => ⟨h.1, by rw [← h.2]; exact Below.refl _ _⟩
end Go.Proofs.Ytjmijedfmiplfaa

/- The program's WordOk: isLetter, ok and WordOk. No condition but that a text has at most 2^63 bytes. -/
namespace Go.Proofs.Ytjmijedfmiplfaa
open Go.RowKit

theorem isLetter_any (n : Int) (w : World) :
    Calls Try.prog 83 #[.int .i32 n] w fun e w' => e = .returned (.bool (decide (97 ≤ n) && decide (n < 101))) ∧ w = w' := by
  by_cases h1 : 97 ≤ n
  · have hd1 : decide ((97 : Int) ≤ n) = true := by simpa using h1
    go_enter Try.func83, Try.ntmps83
    go_wp2
    go_ret
    exact ⟨ret_bool (by simp [h1]), rfl⟩
  · have hd1 : decide ((97 : Int) ≤ n) = false := by simpa using h1
    go_enter Try.func83, Try.ntmps83
    go_wp2
    go_ret
    exact ⟨ret_bool (by simp), rfl⟩

set_option maxHeartbeats 400000 in
theorem implOk (s : ByteArray) (w : World) (_ : s.size ≤ 1048576) :
    Calls Try.prog 65 #[.string s] w fun e w' => e = .returned (.bool (wordB s)) ∧ Below w.heap.size w w' := by
  by_cases hl : 400 < s.size
  · have HE := Lib.hid (word_long hl)
    go_enter Try.func65, Try.ntmps65
    go_wp2
    go_ret
    exact ⟨ret_bool HE.out.symm, Below.refl _ _⟩
  have hs : s.size ≤ 400 := by omega
  go_enter Try.func65, Try.ntmps65
  go_wp2
  go_loopw [4] (fun _ w' => ∃ k : Nat, k ≤ s.size ∧ w' = w.iter s k ∧ (s.data.toList.take k).all isAbcd = true) (fun _ w' => s.size - w'.iterPos w.heap.size)
  case atStart => exact ⟨0, Nat.zero_le _, rfl, rfl⟩
  case round =>
    obtain ⟨k, hk, rfl, ha⟩ := hrel
    have HA := Lib.hid ha
    clear ha
    by_cases hlt : k < s.size
    · by_cases hc : isAbcd s[k] = true
      · have hasc : s[k].toNat < 128 := by simp [isAbcd] at hc; omega
        have hnx : ∀ ty, (Instr.next (.pointer (some ⟨w.heap.size, 0, none⟩)) true ty).run Try.prog (w.iter s k) = _ := fun ty => run_next_ascii w s k ty hlt hasc
        have hd1 : (decide ((97 : Int) ≤ s[k].toNat) && decide ((s[k].toNat : Int) < 101)) = true := by simp [isAbcd] at hc; simp; omega
        have HC := Lib.hid hc
        clear hc
        go_wp2_with (go_at_call 83; refine (isLetter_any _ _).mono ?_; rintro e w' ⟨rfl, rfl⟩)
        go_roundw
        case rel => exact ⟨k + 1, by omega, rfl, all_snoc s k hlt HA.out HC.out⟩
        case measure => simp; omega
      · have hf : isAbcd s[k] = false := by simpa using hc
        have hn : ∃ n : Nat, ∃ m : Nat, (∀ ty, (Instr.next (.pointer (some ⟨w.heap.size, 0, none⟩)) true ty).run Try.prog (w.iter s k) = .ok (.tuple #[.bool true, .int .i64 k, .int .i32 n]) (w.iter s m)) ∧ (n < 97 ∨ 100 < n) := by
          by_cases hasc : s[k].toNat < 128
          · exact ⟨_, _, fun ty => run_next_ascii w s k ty hlt hasc, by simp [isAbcd] at hf; omega⟩
          · have hd := decode_high s k hlt (by omega)
            exact ⟨_, _, fun ty => run_next_any w s k ty hlt, by omega⟩
        obtain ⟨n, m, hnx, hor⟩ := hn
        have HF := Lib.hid hf
        clear hf hc
        have hd1 : (decide ((97 : Int) ≤ n) && decide ((n : Int) < 101)) = false := by simp; omega
        go_wp2_with (go_at_call 83; refine (isLetter_any _ _).mono ?_; rintro e w' ⟨rfl, rfl⟩)
        go_ret
        exact ⟨ret_bool (word_not k hlt HF.out).symm, below_iter _ _ _⟩
    · have hnx : ∀ ty, (Instr.next (.pointer (some ⟨w.heap.size, 0, none⟩)) true ty).run Try.prog (w.iter s k) = _ := fun ty => run_next_end w s k ty hlt
      have hk' : k = s.size := by omega
      have HY := Lib.hid (word_yes hs (hk' ▸ HA.out))
      clear hk'
      go_wp2
      go_ret
      exact ⟨ret_bool HY.out.symm, below_iter _ _ _⟩

theorem implWordOk (s : ByteArray) (w : World) (hs : s.size ≤ 1048576) :
    Calls Try.prog 47 #[.string s] w fun e w' => e = .returned (.bool (wordB s)) ∧ Below w.heap.size w w' := by
  go_enter Try.func47, Try.ntmps47
  go_wp2_with fail
  refine (implOk s _ hs).mono ?_
  rintro e w' ⟨rfl, hb⟩
  go_wp2_with fail
  go_ret
  exact ⟨rfl, hb⟩

theorem implIsLetterWord (s : ByteArray) (w : World) (hs : s.size ≤ 1048576) :
    Calls Try.prog 61 #[.string s] w fun e w' => e = .returned (.bool (decide (s.size = 1) && wordB s)) ∧ Below w.heap.size w w' := by
  by_cases h1 : s.size = 1
  · have b1 : ((s.size : Int) == 1) = true := by rw [h1]; rfl
    have HD := Lib.hid (decide_eq_true h1)
    clear h1
    go_enter Try.func61, Try.ntmps61
    go_wp2_with fail
    refine (implOk s _ hs).mono ?_
    rintro e w' ⟨rfl, hb⟩
    go_wp2_with fail
    go_ret
    exact ⟨ret_bool (by rw [HD.out, Bool.true_and]), hb⟩
  · have b1 : ((s.size : Int) == 1) = false := by rw [beq_eq_false_iff_ne]; omega
    have HD := Lib.hid (decide_eq_false h1)
    clear h1
    go_enter Try.func61, Try.ntmps61
    go_wp2_with fail
    go_ret
    exact ⟨ret_bool (by rw [HD.out, Bool.false_and]), Below.refl _ _⟩
end Go.Proofs.Ytjmijedfmiplfaa

/-
  DERIVED: THE SHELF's CONTRACTS AT THIS DUMP, IN PLAIN WORDS (tools/lay-plain.mjs out of 'TryShelf.lean', which tools/lay-shelf.mjs wrote): THE SAME DECLARATIONS UNDER THE SAME NAMES: 'import', 'namespace', 'open', 'def', 'theorem' AND NOTHING ELSE: no command of the shelf's: FOR A HAND-IN. Each laying: the table of numbers ('.._ren') and one theorem, a field a fact of the dump's own or the kernel's comparison; each contract: ONE APPLICATION.
-/
namespace Go.Proofs
open Go.Shelf
def Try.lays138_ren : Go.Shelf.Ren := ⟨fun | 138 => 62 | 195 => 79 | 218 => 80 | 143 => 81 | 219 => 92 | 217 => 97 | 225 => 98 | 224 => 99 | 267 => 100 | 266 => 101 | 314 => 102 | n => n, fun | 9 => 9 | 3 => 3 | 4 => 4 | 5 => 5 | 0 => 0 | 46 => 63 | 146 => 88 | 51 => 87 | n => n, fun | 1 => 0 | n => n⟩
theorem Try.lays138 : Go.Proofs.Lays.n138 Try.prog Try.lays138_ren := {
  mixed := by kernel_rfl
  f138 := Try.func62.trans (congrArg some (by kernel_rfl))
  f143 := Try.func81.trans (congrArg some (by kernel_rfl))
  f195 := Try.func79.trans (congrArg some (by kernel_rfl))
  f217 := Try.func97.trans (congrArg some (by kernel_rfl))
  f218 := Try.func80.trans (congrArg some (by kernel_rfl))
  f219 := Try.func92.trans (congrArg some (by kernel_rfl))
  f224 := Try.func99.trans (congrArg some (by kernel_rfl))
  f225 := Try.func98.trans (congrArg some (by kernel_rfl))
  f266 := Try.func101.trans (congrArg some (by kernel_rfl))
  f267 := Try.func100.trans (congrArg some (by kernel_rfl))
  f314 := Try.func102.trans (congrArg some (by kernel_rfl))
  t0 := Try.underlying0
  a0 := Try.isAgg0
  z0 := Try.sizeOf0
  v0 := Try.zeroValue0
  t3 := Try.underlying3
  a3 := Try.isAgg3
  z3 := Try.sizeOf3
  v3 := Try.zeroValue3
  t4 := Try.underlying4
  a4 := Try.isAgg4
  z4 := Try.sizeOf4
  v4 := Try.zeroValue4
  t5 := Try.underlying5
  a5 := Try.isAgg5
  z5 := Try.sizeOf5
  v5 := Try.zeroValue5
  t9 := Try.underlying9
  a9 := Try.isAgg9
  z9 := Try.sizeOf9
  v9 := Try.zeroValue9
  t46 := Try.underlying63
  a46 := Try.isAgg63
  z46 := Try.sizeOf63
  v46 := Try.zeroValue63
  t51 := Try.underlying87
  a51 := Try.isAgg87
  z51 := Try.sizeOf87
  v51 := Try.zeroValue87
  t146 := Try.underlying88
  a146 := Try.isAgg88
  z146 := Try.sizeOf88
  v146 := Try.zeroValue88
  g1 := by kernel_rfl }
open Go.RowKit Go.Lib in
/-- strings.Count AT A substr OF ONE BYTE ('hp'): "Count counts the number of non-overlapping instances of substr in s.": IT RETURNS 'Lib.countByte s (that byte)'; the world is as it was. ✋ NO CONTRACT HERE YET at an empty substr (utf8.RuneCountInString) or at a longer one (a loop over strings.Index). (LAID: no walk: one application.) -/
theorem Try.strings_Count_one (s : ByteArray) (c : UInt8) (w : World) :
    Calls Try.prog 62 #[.string s, .string ⟨#[c]⟩] w fun e w' => e = .returned (.int .i64 (Lib.countByte s.data.toList c)) ∧ w' = w := Any.strings_Count_one Try.lays138 s c w
def Try.lays105_ren : Go.Shelf.Ren := ⟨fun | 105 => 48 | 212 => 66 | 99 => 67 | 165 => 68 | 166 => 69 | 170 => 70 | 169 => 71 | 263 => 84 | 264 => 85 | 206 => 86 | 240 => 87 | 241 => 88 | 276 => 93 | 277 => 94 | n => n, fun | 9 => 9 | 3 => 3 | 4 => 4 | 20 => 20 | 0 => 0 | 46 => 63 | 109 => 64 | 5 => 5 | 72 => 69 | 76 => 73 | 51 => 87 | 146 => 88 | 53 => 90 | 148 => 91 | 70 => 67 | 37 => 42 | 75 => 72 | 127 => 93 | 164 => 100 | 80 => 75 | n => n, fun | n => n⟩
theorem Try.lays105 : Go.Proofs.Lays.n105 Try.prog Try.lays105_ren := {
  mixed := by kernel_rfl
  f99 := Try.func67.trans (congrArg some (by kernel_rfl))
  f105 := Try.func48.trans (congrArg some (by kernel_rfl))
  f165 := Try.func68.trans (congrArg some (by kernel_rfl))
  f166 := Try.func69.trans (congrArg some (by kernel_rfl))
  f169 := Try.func71.trans (congrArg some (by kernel_rfl))
  f170 := Try.func70.trans (congrArg some (by kernel_rfl))
  f206 := Try.func86.trans (congrArg some (by kernel_rfl))
  f212 := Try.func66.trans (congrArg some (by kernel_rfl))
  f240 := Try.func87.trans (congrArg some (by kernel_rfl))
  f241 := Try.func88.trans (congrArg some (by kernel_rfl))
  f263 := Try.func84.trans (congrArg some (by kernel_rfl))
  f264 := Try.func85.trans (congrArg some (by kernel_rfl))
  f276 := Try.func93.trans (congrArg some (by kernel_rfl))
  f277 := Try.func94.trans (congrArg some (by kernel_rfl))
  t0 := Try.underlying0
  a0 := Try.isAgg0
  z0 := Try.sizeOf0
  v0 := Try.zeroValue0
  t3 := Try.underlying3
  a3 := Try.isAgg3
  z3 := Try.sizeOf3
  v3 := Try.zeroValue3
  t4 := Try.underlying4
  a4 := Try.isAgg4
  z4 := Try.sizeOf4
  v4 := Try.zeroValue4
  t5 := Try.underlying5
  a5 := Try.isAgg5
  z5 := Try.sizeOf5
  v5 := Try.zeroValue5
  t9 := Try.underlying9
  a9 := Try.isAgg9
  z9 := Try.sizeOf9
  v9 := Try.zeroValue9
  t20 := Try.underlying20
  a20 := Try.isAgg20
  z20 := Try.sizeOf20
  v20 := Try.zeroValue20
  t37 := Try.underlying42
  a37 := Try.isAgg42
  z37 := Try.sizeOf42
  v37 := Try.zeroValue42
  t46 := Try.underlying63
  a46 := Try.isAgg63
  z46 := Try.sizeOf63
  v46 := Try.zeroValue63
  t51 := Try.underlying87
  a51 := Try.isAgg87
  z51 := Try.sizeOf87
  v51 := Try.zeroValue87
  t53 := Try.underlying90
  a53 := Try.isAgg90
  z53 := Try.sizeOf90
  v53 := Try.zeroValue90
  t70 := Try.underlying67
  a70 := Try.isAgg67
  z70 := Try.sizeOf67
  v70 := Try.zeroValue67
  t72 := Try.underlying69
  a72 := Try.isAgg69
  z72 := Try.sizeOf69
  v72 := Try.zeroValue69
  t75 := Try.underlying72
  a75 := Try.isAgg72
  z75 := Try.sizeOf72
  v75 := Try.zeroValue72
  t76 := Try.underlying73
  a76 := Try.isAgg73
  z76 := Try.sizeOf73
  v76 := Try.zeroValue73
  t109 := Try.underlying64
  a109 := Try.isAgg64
  z109 := Try.sizeOf64
  v109 := Try.zeroValue64
  t127 := Try.underlying93
  a127 := Try.isAgg93
  z127 := Try.sizeOf93
  v127 := Try.zeroValue93
  t146 := Try.underlying88
  a146 := Try.isAgg88
  z146 := Try.sizeOf88
  v146 := Try.zeroValue88
  t148 := Try.underlying91
  a148 := Try.isAgg91
  z148 := Try.sizeOf91
  v148 := Try.zeroValue91
  t164 := Try.underlying100
  a164 := Try.isAgg100
  z164 := Try.sizeOf100
  v164 := Try.zeroValue100 }
theorem Try.Builder_Extra_105 : Builder.Extra Try.prog Try.lays105_ren := {
  sizeBuilder := by kernel_rfl
  liesBuilder := by kernel_rfl
  t5 := Try.underlying5
  a5 := Try.isAgg5
  z5 := Try.sizeOf5
  v5 := Try.zeroValue5
  infoByte := by kernel_rfl
  cellsByte := by kernel_rfl
  sizeByte := by kernel_rfl
  neB5 := by decide }
open Go.RowKit Go.Lib in
/-- **strings.Repeat: count ≥ 0, the result within one allocation: count copies of s.** (LAID: no walk: one application.) -/
theorem Try.strings_Repeat (s : ByteArray) (c : Nat) (w : World) (hc : c ≤ 9223372036854775807) (hlen : s.size * c ≤ 140737488355328) :
    Calls Try.prog 48 #[.string s, .int .i64 c] w fun e w' => e = .returned (.string ⟨(Lib.repeatL s.data.toList c).toArray⟩) ∧ Below w.heap.size w w' := Any.strings_Repeat Try.lays105 Try.Builder_Extra_105 s c w hc hlen
end Go.Proofs

/- The program's NextStandard, StandardWord. Conditions: lengths of at most 2^20. -/
namespace Go.Proofs.Ytjmijedfmiplfaa
open Go.RowKit

theorem rep_snoc (L : List UInt8) : ∀ k, Lib.repeatL L (k + 1) = Lib.repeatL L k ++ L
  | 0 => by simp [Lib.repeatL]
  | k + 1 => by
    have ih := rep_snoc L k
    show L ++ Lib.repeatL L (k + 1) = (L ++ Lib.repeatL L k) ++ L
    rw [ih, List.append_assoc]
theorem rep_times (v : ByteArray) : ∀ k, (⟨(Lib.repeatL v.data.toList k).toArray⟩ : ByteArray) = timesB v k
  | 0 => rfl
  | k + 1 => by
    have ih := rep_times v k
    have h : timesB v (k + 1) = timesB v k ++ v := rfl
    rw [h, ← ih]
    have hc := rep_snoc v.data.toList k
    rw [hc]
    apply ByteArray.ext
    simp

set_option maxRecDepth 100000 in
set_option maxHeartbeats 1000000 in
theorem implNextStandard (u v : ByteArray) (k : Int) (w : World) (hu : u.size ≤ 1048576) (hv : v.size ≤ 1048576) :
    Calls Try.prog 26 #[.string u, .string v, .int .i64 k] w fun e w' => e = .returned (.tuple #[.string (nsR u v k), .bool (nsOk u v k)]) ∧ Below w.heap.size w w' := by
  have HD : Hid (nsOk u v k = (((decide (0 ≤ k) && decide (k ≤ 100)) && (wordB u && wordB v)) && wordB (timesB v k.toNat ++ u))) := rfl
  have HNO : Hid (nsOk u v k = false → nsR u v k = ⟨#[]⟩) := fun h => if_neg (by rw [h]; decide)
  have HU := Lib.hid (fun w => implWordOk u w hu)
  have HW := Lib.hid (fun w => implWordOk v w hv)
  cases h2 : wordB u
  · have HV : Hid (nsOk u v k = false) := by show _ = _; rw [HD.out, h2, Bool.false_and, Bool.and_false, Bool.false_and]
    have HR := Lib.hid (HNO.out HV.out)
    rw [h2] at HU
    clear h2 HD HNO hu hv
    generalize nsOk u v k = ok at *
    generalize nsR u v k = r at *
    go_enter Try.func26, Try.ntmps26
    go_wp2_with fail
    refine (HU.out _).mono ?_
    rintro e w' ⟨rfl, hb⟩
    have HB := Lib.hid hb
    clear hb
    go_wp2_with fail
    go_ret2
    exact ⟨by rw [HV.out, HR.out]; rfl, HB.out⟩
  cases h3 : wordB v
  · have HV : Hid (nsOk u v k = false) := by show _ = _; rw [HD.out, h3, Bool.and_false, Bool.and_false, Bool.false_and]
    have HR := Lib.hid (HNO.out HV.out)
    rw [h2] at HU
    rw [h3] at HW
    clear h2 h3 HD HNO hu hv
    generalize nsOk u v k = ok at *
    generalize nsR u v k = r at *
    go_enter Try.func26, Try.ntmps26
    go_wp2_with fail
    refine (HU.out _).mono ?_
    rintro e w1 ⟨rfl, hb⟩
    have HB1 := Lib.hid hb
    clear hb
    go_wp2_with fail
    refine (HW.out _).mono ?_
    rintro e w2 ⟨rfl, hb⟩
    have HB2 : Hid (Below w.heap.size w w2) := HB1.out.trans (hb.mono HB1.out.size)
    clear hb
    go_wp2_with fail
    go_ret2
    exact ⟨by rw [HV.out, HR.out]; rfl, HB2.out⟩
  by_cases hk : 0 ≤ k ∧ k ≤ 100
  · obtain ⟨K, rfl⟩ : ∃ m : Nat, k = m := ⟨k.toNat, by omega⟩
    rw [Int.toNat_natCast] at HD
    have hK : K ≤ 100 := by omega
    have HV : Hid (nsOk u v (K : Int) = wordB (timesB v K ++ u)) := by
      show _ = _
      rw [HD.out, h2, h3, decide_eq_true hk.1, decide_eq_true hk.2]
      rfl
    have HYES : Hid (nsOk u v (K : Int) = true → nsR u v (K : Int) = timesB v K ++ u) := fun h => if_pos h
    have us := word_size h2
    have vs := word_size h3
    have ts := tim_size v K
    have hm : K * v.size ≤ 100 * 400 := Nat.mul_le_mul hK vs
    have hm2 : v.size * K ≤ 140737488355328 := by rw [Nat.mul_comm]; omega
    have HRP := Lib.hid (fun w => Try.strings_Repeat v K w (by omega) hm2)
    rw [rep_times v K] at HRP
    have hts : (timesB v K).size ≤ 40000 := by omega
    have HW3 := Lib.hid (fun w => implWordOk (timesB v K ++ u) w (by rw [ByteArray.size_append]; omega))
    rw [h2] at HU
    rw [h3] at HW
    clear h2 h3 HD hu hv hk ts hm hm2
    generalize nsOk u v (K : Int) = ok at *
    generalize nsR u v (K : Int) = r at *
    generalize timesB v K = y at *
    go_enter Try.func26, Try.ntmps26
    go_wp2_with fail
    refine (HU.out _).mono ?_
    rintro e w1 ⟨rfl, hb⟩
    have HB1 := Lib.hid hb
    clear hb
    go_wp2_with fail
    refine (HW.out _).mono ?_
    rintro e w2 ⟨rfl, hb⟩
    have HB2 : Hid (Below w.heap.size w w2) := HB1.out.trans (hb.mono HB1.out.size)
    clear hb HB1
    go_wp2_with fail
    refine (HRP.out _).mono ?_
    rintro e w3 ⟨rfl, hb⟩
    have HB3 : Hid (Below w.heap.size w w3) := HB2.out.trans (hb.mono HB2.out.size)
    clear hb HB2
    go_wp2_with fail
    refine (HW3.out _).mono ?_
    rintro e w4 ⟨rfl, hb⟩
    have HB4 : Hid (Below w.heap.size w w4) := HB3.out.trans (hb.mono HB3.out.size)
    clear hb HB3
    cases hwx : wordB (y ++ u)
    · rw [hwx] at HV
      have HR := Lib.hid (HNO.out HV.out)
      clear hwx
      go_wp2_with fail
      go_ret2
      exact ⟨by rw [HV.out, HR.out]; rfl, HB4.out⟩
    · rw [hwx] at HV
      have HR := Lib.hid (HYES.out HV.out)
      clear hwx
      go_wp2_with fail
      go_ret2
      exact ⟨by rw [HV.out, HR.out]; rfl, HB4.out⟩
  · have HV : Hid (nsOk u v k = false) := by
      show _ = _
      rw [HD.out]
      rw [show (decide (0 ≤ k) && decide (k ≤ 100)) = false from by
        rw [Bool.eq_false_iff]
        intro h
        rw [Bool.and_eq_true, decide_eq_true_eq, decide_eq_true_eq] at h
        exact hk h]
      rfl
    have HR := Lib.hid (HNO.out HV.out)
    rw [h2] at HU
    rw [h3] at HW
    have hcs : k < 0 ∨ (¬ k < 0 ∧ 100 < k) := by omega
    clear h2 h3 HD HNO hu hv hk
    generalize nsOk u v k = ok at *
    generalize nsR u v k = r at *
    rcases hcs with g1 | ⟨g1, g2⟩
    all_goals
      go_enter Try.func26, Try.ntmps26
      go_wp2_with fail
      refine (HU.out _).mono ?_
      rintro e w1 ⟨rfl, hb⟩
      have HB1 := Lib.hid hb
      clear hb
      go_wp2_with fail
      refine (HW.out _).mono ?_
      rintro e w2 ⟨rfl, hb⟩
      have HB2 : Hid (Below w.heap.size w w2) := HB1.out.trans (hb.mono HB1.out.size)
      clear hb
      go_wp2_with fail
      go_ret2
      exact ⟨by rw [HV.out, HR.out]; rfl, HB2.out⟩

theorem sw_few {l : List Int} (h : fewB l 12 100 = false) : swO l = none := by
  by_cases hd : 1 ≤ l.length ∧ l.length ≤ 12
  · have hd2 : (decide (1 ≤ l.length) && decide (l.length ≤ 12)) = true := by rw [Bool.and_eq_true, decide_eq_true_eq, decide_eq_true_eq]; exact hd
    have e : swO l = swTo l l.length := if_pos hd2
    rw [e]
    refine Classical.byContradiction fun hn => ?_
    have hall : ∀ j (hj : j < l.length), 0 ≤ l[j] ∧ l[j] ≤ 100 ∧ (1 ≤ j → 1 ≤ l[j]) := by
      intro j hj
      refine Classical.byContradiction fun hb => ?_
      have hs : swTo l (j + 1) = none := by
        show (match swTo l j with | none => none | some y => _) = none
        cases swTo l j with
        | none => rfl
        | some y =>
          refine if_neg ?_
          rw [List.getD_eq_getElem?_getD, List.getElem?_eq_getElem hj, Option.getD_some]
          simp only [Bool.and_eq_true, decide_eq_true_eq]
          intro hc
          have := hc.1
          omega
      have := sw_stop hs (l.length - (j + 1))
      rw [show j + 1 + (l.length - (j + 1)) = l.length by omega] at this
      exact hn this
    have : fewB l 12 100 = true := few_iff.2 ⟨⟨hd.1, by omega⟩, hall⟩
    rw [this] at h
    cases h
  · refine if_neg ?_
    rw [Bool.and_eq_true, decide_eq_true_eq, decide_eq_true_eq]
    exact hd

set_option maxRecDepth 100000 in
set_option maxHeartbeats 1000000 in
theorem implStandardWord (l : List Int) (v : Value) (w : World) (h : Lst w v (ints l)) :
    Calls Try.prog 28 #[v] w fun e w' => e = .returned (.tuple #[.string (swR l), .bool (swOk l)]) ∧ Below w.heap.size w w' := by
  have HARE := Lib.hid (implAre l 12 100 v w h)
  have HLST := Lib.hid h
  obtain ⟨A, c, rfl, hc1, hc2, h1⟩ := h
  rw [ints_length] at hc1 HARE HLST ⊢
  unfold maxLen at hc2
  have HNONE : Hid (swO l = none → swR l = ⟨#[]⟩ ∧ swOk l = false) := fun e => by unfold swR swOk; rw [e]; exact ⟨rfl, rfl⟩
  have HSOME : Hid (∀ u v, swO l = some (u, v) → swR l = v ∧ swOk l = true) := fun u v e => by unfold swR swOk; rw [e]; exact ⟨rfl, rfl⟩
  cases hd : fewB l 12 100
  · rw [hd] at HARE
    obtain ⟨n1, n2⟩ := HNONE.out (sw_few hd)
    have HN1 := Lib.hid n1
    have HN2 := Lib.hid n2
    clear h1 hd n1 n2 HNONE HSOME
    generalize swR l = r at *
    generalize swOk l = ok at *
    go_enter Try.func28, Try.ntmps28
    go_wp2_with fail
    refine HARE.out.mono ?_
    rintro e w' ⟨rfl, rfl⟩
    go_wp2_with fail
    go_ret2
    exact ⟨by rw [HN1.out, HN2.out]; rfl, Below.refl _ _⟩
  rw [hd] at HARE
  have hf := few_iff.1 hd
  have hd2 : 1 ≤ l.length ∧ l.length ≤ 12 := ⟨hf.1.1, by have := hf.1.2; omega⟩
  have HFX := Lib.hid hf.2
  have hl : l ≠ [] := fun e => by subst e; simp at hd2
  obtain ⟨b, off, rfl, h2⟩ := h1.resolve_left (by simp [ints, hl])
  have H1 : Hid (∀ (wx : World), Below w.heap.size w wx → ∀ k (hk : k < l.length), wx.cell? ⟨b, off + k, none⟩ = some (.int .i64 l[k])) := fun wx hb k hk => by
    have h := ints_at h2 k hk
    exact (hb.cell (World.block_lt_of_cell? _ _ h)).trans h
  have HO : Hid (swO l = swTo l l.length) := if_pos (by rw [Bool.and_eq_true, decide_eq_true_eq, decide_eq_true_eq]; exact hd2)
  have HST := Lib.hid (fun j (h : swTo l j = none) => sw_stop h)
  have HNX : Hid (∀ k u v, swTo l k = some (u, v) → swTo l (k + 1) = if ((decide (((min k 1 : Nat) : Int) ≤ l.getD k 0) && decide (l.getD k 0 ≤ 100)) && nsOk u v (l.getD k 0)) = true then some (v, nsR u v (l.getD k 0)) else none) := fun k u v e => by
    show (match swTo l k with | none => none | some y => _) = _
    rw [e]
  have HGD : Hid (∀ k (hk : k < l.length), l.getD k 0 = l[k]) := fun k hk => by rw [List.getD_eq_getElem?_getD, List.getElem?_eq_getElem hk]; rfl
  have H0 : Hid (swTo l 0 = some (⟨#[98]⟩, ⟨#[97]⟩)) := rfl
  have HNS := Lib.hid (fun u v k w (hu : u.size ≤ 400) (hv : v.size ≤ 400) => implNextStandard u v k w (by omega) (by omega))
  have HZ : Hid (∀ u v k, (nsR u v k).size ≤ 400) := fun u v k => ns_size
  clear h1 h2 hl hd hf HLST
  generalize swR l = r at *
  generalize swOk l = ok at *
  generalize swO l = o at *
  generalize swTo l = T at *
  generalize nsOk = NK at *
  generalize nsR = NR at *
  go_enter Try.func28, Try.ntmps28
  go_wp2_with fail
  refine HARE.out.mono ?_
  rintro e w' ⟨rfl, rfl⟩
  go_wp2_with fail
  go_loopw [4, 5, 15] (fun uv vv iv w' => ∃ (k : Nat) (u v : ByteArray), k ≤ l.length ∧ u.size ≤ 400 ∧ v.size ≤ 400 ∧ uv = .string u ∧ vv = .string v ∧ iv = .int .i64 (k : Int) ∧ T k = some (u, v) ∧ Below w.heap.size w w') (fun _ _ iv _ => l.length - (RowKit.intOf iv).toNat)
  case atStart => exact ⟨0, ⟨#[98]⟩, ⟨#[97]⟩, Nat.zero_le _, by decide, by decide, rfl, rfl, rfl, H0.out, Below.refl _ _⟩
  case round =>
    obtain ⟨k, u, v, hk, hu, hv, rfl, rfl, rfl, ht, hbw⟩ := hrel
    obtain ⟨wq, rfl⟩ : ∃ y : World, y = wr := ⟨_, rfl⟩
    have HT := Lib.hid ht
    have HB := Lib.hid hbw
    clear ht hbw
    by_cases hlt : k < l.length
    · have hlt' : (k : Int) < (l.length : Int) := by omega
      have g1 := H1.out wq HB.out k hlt
      have HNXK := Lib.hid (HNX.out k u v HT.out)
      have HFAIL : Hid (T (k + 1) = none → r = ⟨#[]⟩ ∧ ok = false) := fun h => HNONE.out (by
        have := HST.out (k + 1) h (l.length - (k + 1))
        rw [show k + 1 + (l.length - (k + 1)) = l.length by omega] at this
        rw [HO.out]; exact this)
      have hfx := HFX.out k hlt
      rw [HGD.out k hlt] at HNXK
      generalize l[k] = x at *
      have hin : (decide (((min k 1 : Nat) : Int) ≤ x) && decide (x ≤ 100)) = true := by
        rw [Bool.and_eq_true, decide_eq_true_eq, decide_eq_true_eq]
        omega
      rw [hin, Bool.true_and] at HNXK
      have HNSK := Lib.hid (fun w => HNS.out u v x w hu hv)
      have hz := HZ.out u v x
      clear hin hfx
      generalize NR u v x = y at *
      cases hn : NK u v x
      · rw [hn] at HNXK HNSK
        obtain ⟨n1, n2⟩ := HFAIL.out (by rw [HNXK.out]; exact if_neg (by decide))
        have HN1 := Lib.hid n1
        have HN2 := Lib.hid n2
        clear hn HNXK n1 n2
        go_wp2_with fail
        refine (HNSK.out _).mono ?_
        rintro e w' ⟨rfl, hb⟩
        have HB2 : Hid (Below w.heap.size w w') := HB.out.trans (hb.mono HB.out.size)
        clear hb
        go_wp2_with fail
        go_ret2
        exact ⟨by rw [HN1.out, HN2.out]; rfl, HB2.out⟩
      · rw [hn] at HNXK HNSK
        have HOK : Hid (T (k + 1) = some (v, y)) := by show _ = _; rw [HNXK.out]; exact if_pos rfl
        clear hn HNXK
        go_wp2_with fail
        refine (HNSK.out _).mono ?_
        rintro e w' ⟨rfl, hb⟩
        have HB2 : Hid (Below w.heap.size w w') := HB.out.trans (hb.mono HB.out.size)
        clear hb
        go_wp2_with fail
        go_roundw
        case rel => exact ⟨k + 1, v, y, by omega, hv, hz, rfl, rfl, by go_num, HOK.out, HB2.out⟩
        case measure => simp [RowKit.intOf]; omega
    · have hke : k = l.length := by omega
      have hlt' : ¬ (k : Int) < (l.length : Int) := by omega
      obtain ⟨n1, n2⟩ := HSOME.out u v (by rw [HO.out, ← hke]; exact HT.out)
      have HN1 := Lib.hid n1
      have HN2 := Lib.hid n2
      clear hke n1 n2
      go_wp2_with fail
      go_ret2
      exact ⟨by rw [HN1.out, HN2.out]; rfl, HB.out⟩
end Go.Proofs.Ytjmijedfmiplfaa
