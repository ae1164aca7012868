/- ParseInt of the model: the int whose text it is, or 0 and false. Condition: a text of at most 2^20 bytes. -/
import Derived.Test.YtpocfbhbllphdaaDoorFmtI
import Derived.Test.YtpocfbhbllphdaaDoorNum
import Derived.Test.YtpocfbhbllphdaaDoorDigs
import Derived.Lib.IndexBytes
namespace Go.Proofs.YtpocfbhbllphdaaDoor
open Go.RowKit

theorem dgB_eq : dgB = isDigB := rfl
theorem digs_dec (u : Nat) : digs (Lib.decDigits u) = true := by
  obtain ⟨h1, _, h3⟩ := dec_all u
  unfold digs
  rw [Bool.and_eq_true]
  refine ⟨List.all_eq_true.2 h1, ?_⟩
  cases hd : Lib.decDigits u with
  | nil => exact absurd hd h3
  | cons c r => rfl
theorem digs_at {s : ByteArray} (h : digs s.data.toList = true) (k : Nat) (hk : k < s.size) : 48 ≤ s[k].toNat ∧ s[k].toNat ≤ 57 := by
  unfold digs at h
  rw [Bool.and_eq_true] at h
  have hm : s[k] ∈ s.data.toList := by
    have : s[k] = s.data.toList[k]'(by simpa using hk) := rfl
    rw [this]; exact List.getElem_mem _
  have := List.all_eq_true.1 h.1 _ hm
  simpa [isDigB] using this
theorem valF_succ (s : ByteArray) (k : Nat) (hk : k < s.size) : valF 0 (s.data.toList.take (k + 1)) = valF 0 (s.data.toList.take k) * 10 + (s[k].toNat - 48) := by
  rw [take_snoc s k hk, valF_snoc]
/-- the text of a number, the sign apart -/
def MagOf (s t : ByteArray) (neg : Bool) : Prop := ∀ m, InR m → itoaS m = s → ∃ u, t.data.toList = Lib.decDigits u ∧ m = (if neg then -(u : Int) else (u : Int)) ∧ u ≤ (if neg then 9223372036854775808 else 9223372036854775807)
theorem mag_pos (s : ByteArray) (h : ∀ h0 : 0 < s.size, s[0].toNat ≠ 45) : MagOf s s false := by
  intro m hm he
  have hl : s.data.toList = Lib.itoa m := by rw [← he, itoaS_list]
  by_cases hn : m < 0
  · rw [itoa_neg hn] at hl
    have hs : 0 < s.size := by
      have := congrArg List.length hl
      rw [List.length_cons] at this
      have e : s.data.toList.length = s.size := by simp
      omega
    have h1 : s[0] = 45 := by
      have e : s.data.toList[0]? = some s[0] := List.getElem?_eq_getElem (by simpa using hs)
      rw [hl] at e
      simpa using e.symm
    exact absurd (by rw [h1]; rfl) (h hs)
  · rw [itoa_pos hn] at hl
    refine ⟨m.toNat, hl, ?_, ?_⟩
    · simp only [Bool.false_eq_true, if_false]; omega
    · have := hm.2; simp only [Bool.false_eq_true, if_false]; omega
theorem mag_neg (s : ByteArray) (h0 : 0 < s.size) (h : s[0].toNat = 45) : MagOf s (s.extract 1 s.size) true := by
  intro m hm he
  have hl : s.data.toList = Lib.itoa m := by rw [← he, itoaS_list]
  by_cases hn : m < 0
  · rw [itoa_neg hn] at hl
    refine ⟨m.natAbs, by rw [Lib.extract_to_end, hl]; rfl, ?_, ?_⟩
    · simp only [if_true]; omega
    · have := hm.1; simp only [if_true]; omega
  · rw [itoa_pos hn] at hl
    obtain ⟨c, r, hd, h1, h2⟩ := dec_head m.toNat
    rw [hd] at hl
    have e : s.data.toList[0]? = some s[0] := List.getElem?_eq_getElem (by simpa using h0)
    rw [hl] at e
    simp only [List.getElem?_cons_zero, Option.some.injEq] at e
    rw [e] at h1 h2
    omega
theorem no_digs {s t : ByteArray} {neg : Bool} (h : MagOf s t neg) (hd : digs t.data.toList = false) : ∀ m, InR m → itoaS m ≠ s := by
  intro m hm he
  obtain ⟨u, hu, _⟩ := h m hm he
  rw [hu, digs_dec] at hd
  cases hd
theorem no_long {s t : ByteArray} {neg : Bool} (h : MagOf s t neg) (hd : 19 < t.size) : ∀ m, InR m → itoaS m ≠ s := by
  intro m hm he
  obtain ⟨u, hu, _, hb⟩ := h m hm he
  have h1 := dec_short 18 u (by cases neg <;> simp at hb <;> omega)
  rw [← hu] at h1
  have e : t.data.toList.length = t.size := by simp
  omega
theorem mag_val {s t : ByteArray} {neg : Bool} (h : MagOf s t neg) {m : Int} (hm : InR m) (he : itoaS m = s) : m = (if neg then -((valF 0 t.data.toList : Nat) : Int) else ((valF 0 t.data.toList : Nat) : Int)) ∧ valF 0 t.data.toList ≤ (if neg then 9223372036854775808 else 9223372036854775807) := by
  obtain ⟨u, hu, h1, h2⟩ := h m hm he
  have := (dec_all u).2.1
  rw [← hu] at this
  rw [this]
  exact ⟨h1, h2⟩
theorem no_over {s t : ByteArray} {neg : Bool} (h : MagOf s t neg) (k : Nat) (hk : 9223372036854775808 < valF 0 (t.data.toList.take k)) : ∀ m, InR m → itoaS m ≠ s := by
  intro m hm he
  have h1 := (mag_val h hm he).2
  have h2 := valF_take t.data.toList k
  cases neg <;> simp at h1 <;> omega
theorem quo_dig (d : Nat) (h : d ≤ 9) : ((-9223372036854775808 : Int) + d).tdiv 10 = -(((9223372036854775808 - d) / 10 : Nat) : Int) := by
  have := (tdiv10_neg ((-9223372036854775808 : Int) + d) (by omega)).1
  rw [this]
  congr 2
  omega

def SParseSaid (s : ByteArray) (w : World) (e : Ending) (w' : World) : Prop := ∃ n b, e = .returned (.tuple #[.int .i64 n, .bool b]) ∧ Pres s n b ∧ Below w.heap.size w w'

theorem specParse_empty (s : ByteArray) (w : World) (h0 : s.size = 0) :
    Calls Tryd.prog 15 #[.string s] w (SParseSaid s w) := by
  have HMag := Lib.hid (mag_pos s (fun h => absurd h (by omega)))
  have hd' : digs s.data.toList = false := by
    obtain ⟨⟨l⟩⟩ := s
    cases l with
    | nil => rfl
    | cons c r => simp [ByteArray.size] at h0
  have HNO := Lib.hid (no_digs HMag.out hd')
  have h1 : ¬ 0 < s.size := by omega
  have hm : s.size ≤ maxLen := by omega
  clear h0
  go_enter Tryd.func15, Tryd.ntmps15
  go_wp2_with fail
  refine (specIsDigits s _ hm).mono ?_
  rintro e w1 ⟨rfl, rfl⟩
  go_wp2_with fail
  go_ret2
  exact ⟨0, false, rfl, .inr ⟨rfl, rfl, HNO.out⟩, Below.refl _ _⟩

set_option maxHeartbeats 1000000 in
theorem specParse_pos (s : ByteArray) (w : World) (hs : s.size ≤ 1048576) (h0 : 0 < s.size) (h45 : s[0].toNat ≠ 45) :
    Calls Tryd.prog 15 #[.string s] w (SParseSaid s w) := by
  have HMag := Lib.hid (mag_pos s (fun _ => h45))
  have d1 : ((s[0].toNat : Int) == 45) = false := by rw [beq_eq_false_iff_ne]; omega
  clear h45
  go_enter Tryd.func15, Tryd.ntmps15
  go_wp2_with fail
  by_cases hd : digs s.data.toList = true
  · by_cases hl : 19 < s.size
    · have HNO := Lib.hid (no_long HMag.out hl)
      refine (specIsDigits s _ (by unfold maxLen; omega)).mono ?_
      rintro e w1 ⟨rfl, rfl⟩
      go_wp2_with fail
      go_ret2
      exact ⟨0, false, rfl, .inr ⟨rfl, rfl, HNO.out⟩, Below.refl _ _⟩
    · have hl' : s.size ≤ 19 := by omega
      refine (specIsDigits s _ (by unfold maxLen; omega)).mono ?_
      rintro e w1 ⟨rfl, rfl⟩
      have HD := Lib.hid hd
      go_wp2_with fail
      clear hd
      go_loop [6, 7] (fun q i => ∃ (k V : Nat), k ≤ s.size ∧ i = .int .i64 k ∧ q = .int .i64 (-(V : Int)) ∧ V ≤ 9223372036854775808 ∧ V = valF 0 (s.data.toList.take k)) (fun _ i => s.size - (intOf i).toNat)
      case atStart => exact ⟨0, 0, by omega, rfl, rfl, by omega, rfl⟩
      case round =>
        obtain ⟨k, V, hk, rfl, rfl, hV, hval⟩ := hrel
        have HV := Lib.hid hval
        clear hval
        by_cases hlt : k < s.size
        · obtain ⟨c1, c2⟩ := digs_at HD.out k hlt
          have HS := Lib.hid (valF_succ s k hlt)
          obtain ⟨d, hd0⟩ : ∃ d, s[k].toNat = 48 + d := ⟨s[k].toNat - 48, by omega⟩
          have hd9 : d ≤ 9 := by omega
          have hq : ((-9223372036854775808 : Int) + ((s[k].toNat : Int) - 48)).tdiv 10 = -(((9223372036854775808 - d) / 10 : Nat) : Int) := by
            rw [show ((s[k].toNat : Int) - 48) = (d : Int) from by omega]
            exact quo_dig d hd9
          obtain ⟨Q, hQ⟩ : ∃ Q, (9223372036854775808 - d) / 10 = Q := ⟨_, rfl⟩
          have hQ1 : 10 * Q ≤ 9223372036854775808 - d := by omega
          have hQ2 : 9223372036854775808 - d < 10 * Q + 10 := by omega
          rw [hQ] at hq
          have hval' : valF 0 (s.data.toList.take (k + 1)) = V * 10 + d := by rw [HS.out, hd0, ← HV.out]; omega
          have HVV := Lib.hid hval'
          have HD0 := Lib.hid hd0
          have c3 : (48 : Int) ≤ s[k].toNat := by omega
          have c4 : (s[k].toNat : Int) ≤ 57 := by omega
          clear hval' hQ c1 c2 hd0
          by_cases hover : Q < V
          · have HNO := Lib.hid (no_over HMag.out (k + 1) (by rw [HVV.out]; omega))
            go_wp2_with fail
            go_ret2
            exact ⟨0, false, rfl, .inr ⟨rfl, rfl, HNO.out⟩, Below.refl _ _⟩
          · have hV2 : V * 10 + d ≤ 9223372036854775808 := by omega
            go_wp2_with fail
            go_round
            case rel => exact ⟨k + 1, V * 10 + d, by omega, by go_num, by rw [show (-(V : Int)) * 10 - ((s[k].toNat : Int) - 48) = -((V * 10 + d : Nat) : Int) from by have := HD0.out; omega, IntWalk.wrap64_in _ (by omega)], hV2, HVV.out.symm⟩
            case measure => simp [intOf]; omega
        · have hkT : k = s.size := by omega
          have hVT : valF 0 s.data.toList = V := by rw [HV.out, take_all s k (by omega)]
          have HVAL := Lib.hid hVT
          clear hVT hkT
          by_cases hbig : V = 9223372036854775808
          · have hbq : (-(V : Int) == -9223372036854775808) = true := by rw [hbig]; rfl
            have hno : ∀ m, InR m → itoaS m ≠ s := by
              intro m hm hms
              have h1 := (mag_val HMag.out hm hms).2
              rw [HVAL.out] at h1
              simp at h1
              omega
            have HNO := Lib.hid hno
            clear hno hbig
            go_wp2_with fail
            go_ret2
            exact ⟨0, false, rfl, .inr ⟨rfl, rfl, HNO.out⟩, Below.refl _ _⟩
          · have hbq : (-(V : Int) == -9223372036854775808) = false := by rw [beq_eq_false_iff_ne]; omega
            have hV3 : V ≤ 9223372036854775807 := by omega
            clear hbig
            by_cases he : itoaS ((V : Int)) = s
            · have hbb : (!((itoaS ((V : Int))).toList == s.toList)) = false := by rw [he]; simp
              have HE := Lib.hid he
              clear he
              go_wp2_with fail
              refine (specFormatInt ((V : Int)) _ (by omega) (by omega)).mono ?_
              rintro e w2 ⟨rfl, hb2⟩
              go_wp2_with fail
              go_ret2
              exact ⟨(V : Int), true, rfl, .inl ⟨rfl, ⟨by omega, by omega⟩, HE.out⟩, hb2⟩
            · have hbb : (!((itoaS ((V : Int))).toList == s.toList)) = true := by
                rw [Bool.not_eq_true', beq_eq_false_iff_ne]
                exact fun h => he (bytes_ext h)
              have hno : ∀ m, InR m → itoaS m ≠ s := by
                intro m hm hms
                have h1 := (mag_val HMag.out hm hms).1
                rw [HVAL.out] at h1
                simp only [Bool.false_eq_true, if_false] at h1
                rw [h1] at hms
                exact he hms
              have HNO := Lib.hid hno
              clear he hno
              go_wp2_with fail
              refine (specFormatInt ((V : Int)) _ (by omega) (by omega)).mono ?_
              rintro e w2 ⟨rfl, hb2⟩
              go_wp2_with fail
              go_ret2
              exact ⟨0, false, rfl, .inr ⟨rfl, rfl, HNO.out⟩, hb2⟩
  · have hd' : digs s.data.toList = false := by simpa using hd
    have HNO := Lib.hid (no_digs HMag.out hd')
    clear hd
    refine (specIsDigits s _ (by unfold maxLen; omega)).mono ?_
    rintro e w1 ⟨rfl, rfl⟩
    go_wp2_with fail
    go_ret2
    exact ⟨0, false, rfl, .inr ⟨rfl, rfl, HNO.out⟩, Below.refl _ _⟩

set_option maxHeartbeats 1000000 in
theorem specParse_neg (s : ByteArray) (w : World) (hs : s.size ≤ 1048576) (h0 : 0 < s.size) (h45 : s[0].toNat = 45) :
    Calls Tryd.prog 15 #[.string s] w (SParseSaid s w) := by
  have HMag := Lib.hid (mag_neg s h0 h45)
  have d1 : ((s[0].toNat : Int) == 45) = true := by rw [h45]; rfl
  have ht1 : (s.extract 1 s.size).size ≤ 1048576 := by rw [ByteArray.size_extract]; omega
  clear h45
  go_enter Tryd.func15, Tryd.ntmps15
  go_wp2_with fail
  generalize s.extract 1 s.size = t at HMag ht1 ⊢
  by_cases hd : digs t.data.toList = true
  · by_cases hl : 19 < t.size
    · have HNO := Lib.hid (no_long HMag.out hl)
      refine (specIsDigits t _ (by unfold maxLen; omega)).mono ?_
      rintro e w1 ⟨rfl, rfl⟩
      go_wp2_with fail
      go_ret2
      exact ⟨0, false, rfl, .inr ⟨rfl, rfl, HNO.out⟩, Below.refl _ _⟩
    · have hl' : t.size ≤ 19 := by omega
      refine (specIsDigits t _ (by unfold maxLen; omega)).mono ?_
      rintro e w1 ⟨rfl, rfl⟩
      have HD := Lib.hid hd
      go_wp2_with fail
      clear hd
      go_loop [6, 7] (fun q i => ∃ (k V : Nat), k ≤ t.size ∧ i = .int .i64 k ∧ q = .int .i64 (-(V : Int)) ∧ V ≤ 9223372036854775808 ∧ V = valF 0 (t.data.toList.take k)) (fun _ i => t.size - (intOf i).toNat)
      case atStart => exact ⟨0, 0, by omega, rfl, rfl, by omega, rfl⟩
      case round =>
        obtain ⟨k, V, hk, rfl, rfl, hV, hval⟩ := hrel
        have HV := Lib.hid hval
        clear hval
        by_cases hlt : k < t.size
        · obtain ⟨c1, c2⟩ := digs_at HD.out k hlt
          have HS := Lib.hid (valF_succ t k hlt)
          obtain ⟨d, hd0⟩ : ∃ d, t[k].toNat = 48 + d := ⟨t[k].toNat - 48, by omega⟩
          have hd9 : d ≤ 9 := by omega
          have hq : ((-9223372036854775808 : Int) + ((t[k].toNat : Int) - 48)).tdiv 10 = -(((9223372036854775808 - d) / 10 : Nat) : Int) := by
            rw [show ((t[k].toNat : Int) - 48) = (d : Int) from by omega]
            exact quo_dig d hd9
          obtain ⟨Q, hQ⟩ : ∃ Q, (9223372036854775808 - d) / 10 = Q := ⟨_, rfl⟩
          have hQ1 : 10 * Q ≤ 9223372036854775808 - d := by omega
          have hQ2 : 9223372036854775808 - d < 10 * Q + 10 := by omega
          rw [hQ] at hq
          have hval' : valF 0 (t.data.toList.take (k + 1)) = V * 10 + d := by rw [HS.out, hd0, ← HV.out]; omega
          have HVV := Lib.hid hval'
          have HD0 := Lib.hid hd0
          have c3 : (48 : Int) ≤ t[k].toNat := by omega
          have c4 : (t[k].toNat : Int) ≤ 57 := by omega
          clear hval' hQ c1 c2 hd0
          by_cases hover : Q < V
          · have HNO := Lib.hid (no_over HMag.out (k + 1) (by rw [HVV.out]; omega))
            go_wp2_with fail
            go_ret2
            exact ⟨0, false, rfl, .inr ⟨rfl, rfl, HNO.out⟩, Below.refl _ _⟩
          · have hV2 : V * 10 + d ≤ 9223372036854775808 := by omega
            go_wp2_with fail
            go_round
            case rel => exact ⟨k + 1, V * 10 + d, by omega, by go_num, by rw [show (-(V : Int)) * 10 - ((t[k].toNat : Int) - 48) = -((V * 10 + d : Nat) : Int) from by have := HD0.out; omega, IntWalk.wrap64_in _ (by omega)], hV2, HVV.out.symm⟩
            case measure => simp [intOf]; omega
        · have hkT : k = t.size := by omega
          have hVT : valF 0 t.data.toList = V := by rw [HV.out, take_all t k (by omega)]
          have HVAL := Lib.hid hVT
          clear hVT hkT
          by_cases he : itoaS (-(V : Int)) = s
          · have hbb : (!((itoaS (-(V : Int))).toList == s.toList)) = false := by rw [he]; simp
            have HE := Lib.hid he
            clear he
            go_wp2_with fail
            refine (specFormatInt (-(V : Int)) _ (by omega) (by omega)).mono ?_
            rintro e w2 ⟨rfl, hb2⟩
            go_wp2_with fail
            go_ret2
            exact ⟨-(V : Int), true, rfl, .inl ⟨rfl, ⟨by omega, by omega⟩, HE.out⟩, hb2⟩
          · have hbb : (!((itoaS (-(V : Int))).toList == s.toList)) = true := by
              rw [Bool.not_eq_true', beq_eq_false_iff_ne]
              exact fun h => he (bytes_ext h)
            have hno : ∀ m, InR m → itoaS m ≠ s := by
              intro m hm hms
              have h1 := (mag_val HMag.out hm hms).1
              rw [HVAL.out] at h1
              simp only [if_true] at h1
              rw [h1] at hms
              exact he hms
            have HNO := Lib.hid hno
            clear he hno
            go_wp2_with fail
            refine (specFormatInt (-(V : Int)) _ (by omega) (by omega)).mono ?_
            rintro e w2 ⟨rfl, hb2⟩
            go_wp2_with fail
            go_ret2
            exact ⟨0, false, rfl, .inr ⟨rfl, rfl, HNO.out⟩, hb2⟩
  · have hd' : digs t.data.toList = false := by simpa using hd
    have HNO := Lib.hid (no_digs HMag.out hd')
    clear hd
    refine (specIsDigits t _ (by unfold maxLen; omega)).mono ?_
    rintro e w1 ⟨rfl, rfl⟩
    go_wp2_with fail
    go_ret2
    exact ⟨0, false, rfl, .inr ⟨rfl, rfl, HNO.out⟩, Below.refl _ _⟩

theorem specParseInt (s : ByteArray) (w : World) (hs : s.size ≤ 1048576) :
    Calls Tryd.prog 15 #[.string s] w (SParseSaid s w) := by
  by_cases h0 : 0 < s.size
  · by_cases h45 : s[0].toNat = 45
    · exact specParse_neg s w hs h0 h45
    · exact specParse_pos s w hs h0 h45
  · exact specParse_empty s w (by omega)
end Go.Proofs.YtpocfbhbllphdaaDoor
