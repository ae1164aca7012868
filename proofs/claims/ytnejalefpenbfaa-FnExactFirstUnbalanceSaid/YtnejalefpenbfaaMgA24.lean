/- Texts put together. -/
import Derived.Test.YtnejalefpenbfaaMgA1
import Derived.HandedShaped
import Derived.Test.YtnejalefpenbfaaMgA14
import Derived.Test.YtnejalefpenbfaaMgA15
import Derived.Test.YtnejalefpenbfaaMgA23
import Derived.Test.YtnejalefpenbfaaMgA8
import Derived.Test.YtnejalefpenbfaaMgA16
import Derived.Test.YtnejalefpenbfaaMgA19
import Derived.Test.YtnejalefpenbfaaMgA18
/- From a walk that also knows the world's shape to the row of a law. No condition. -/
namespace Go.Proofs.Ytnejalefpenbfaa
open Go.ChangeShapes Go.WideShapes Go.ChangeAt Go.RowKit
section
variable {H : Type} {enc : TypeId × Value → H}
/-- lawLifted, where the walk also takes that the world is shaped. -/
theorem lawLiftedS {C : Checked} {os : Os} {f : FuncId} {fn : Func} {s : ChangeSpec} {tb : TypeId}
    (own : ownKnob C.prog.godebug = none) (started : os.Started) (noInit : C.prog.inits.idxOf? f = none) (hfn : C.prog.funcs[f]? = some fn)
    (hl : laidOutB C.prog = true) (hts : fn.params.toList.all (fun t => C.prog.readableRec t && decide (t < C.prog.types.size)) = true) (hres : fn.resultTypes = #[tb]) (htb : C.prog.underlying tb = some .bool)
    (hsv : s.vars = []) (hsp : ∀ ds : List (DataW H), ds.length = fn.params.size → s.fn H ds = { results := [.lit (.bool true)], args := ds })
    (witness : ∃ (w : World) (tape : Tape) (i : Input), w.os = os ∧ (w.forCall tape i).Shaped C.prog ∧ i.vars = [] ∧ Input.okWide C.prog (w.forCall tape i) .any w.heap.size f i ∧
      s.pre6 enc C.prog fn [] false (w.forCall tape i).memory i.args ∧ ({} : Assume).holds C.prog (lone (Frame.enter C.prog f i.args .normal) [] (w.forCall tape i)))
    (walk : ∀ (W : World) (base : Nat) (args : Array Value) (ds : List (DataW H)) (p : List MemPlace), W.ShapedOpen C.prog →
      (∀ (j : Nat) t v, fn.params[j]? = some t → args[j]? = some v → Value.okWide C.prog W .any base t v) →
      DataW.TrodAll enc C.prog W 0 (fun _ => true) true fn.params.toList args.toList ds p → (∀ x ∈ p, x.block < W.heap.size) →
      Calls C.prog f args W fun e W' => e = .returned (.bool true) ∧ Below W.heap.size W W') :
    ReturnsInHanded {} C os f .any (s.pre6 enc C.prog fn [] false) (s.post enc C.prog fn false true false false) := by
  refine returnsInHanded_of_change_shaped own started noInit hfn witness ?_
  intro W base args ds gs before hval hW _ _ hsh _
  have hW' := hW
  obtain ⟨p, q, hA, hV, rfl, _, _⟩ := hW
  rw [hsv] at hV
  obtain ⟨rfl, rfl⟩ := trodVars_none hV
  have hlen : ds.length = fn.params.size := by simpa using trodAll_length hA
  refine (walk W base args ds p hsh hval hA (fun x hx => hW'.lt x (by simpa using hx))).mono fun e W' ⟨he, hb⟩ => ⟨_, he, ?_⟩
  refine lawPost hl (fun t ht => ?_) hres htb hsv (by rw [List.append_nil]; exact hsp ds hlen) hW' hb
  have := List.all_eq_true.1 hts t ht
  simpa using this
end
end Go.Proofs.Ytnejalefpenbfaa

/- Chapter 9 of the model: IsPalindrome, PalindromesIn, DefectOf, IsRich. Conditions: lengths of at most 2^20. -/
namespace Go.Proofs.Ytnejalefpenbfaa
open Go.RowKit Go.Lib

theorem specIs (s : ByteArray) (w : World) (hs : s.size ≤ 1048576) :
    Calls Try.prog 41 #[.string s] w fun e w' => e = .returned (.bool (palB s)) ∧ Below w.heap.size w w' := by
  have HI := Lib.hid (palB_iff s)
  have HT := Lib.hid (fun w => specTurn s w hs)
  cases hp : palB s
  · have hne : turnS s ≠ s := fun h => by rw [HI.out.2 h] at hp; cases hp
    have bq := ne_bytes hne
    clear HI hp hne
    generalize turnS s = t at HT bq
    go_enter Try.func41, Try.ntmps41
    go_wp2_with fail
    refine (HT.out _).mono ?_
    rintro e w1 ⟨rfl, hb⟩
    have HB := Lib.hid hb
    clear hb
    go_wp2_with fail
    go_ret
    exact ⟨rfl, HB.out⟩
  · have he : turnS s = s := HI.out.1 hp
    have bq : (s.toList == s.toList) = true := by simp
    rw [he] at HT
    clear HI hp he
    go_enter Try.func41, Try.ntmps41
    go_wp2_with fail
    refine (HT.out _).mono ?_
    rintro e w1 ⟨rfl, hb⟩
    have HB := Lib.hid hb
    clear hb
    go_wp2_with fail
    go_ret
    exact ⟨rfl, HB.out⟩

end Go.Proofs.Ytnejalefpenbfaa

/- Chapter 11 of the model: FirstUnbalance. Condition: a text of at most 2^20 bytes. -/
namespace Go.Proofs.Ytnejalefpenbfaa
open Go.RowKit Go.Lib

theorem fuB_size {s : ByteArray} {n : Nat} : ∀ k, k ≤ s.size - 1 - n → ∀ v, fuB s n k = some v → v.size = n
  | 0, _, v, h => by cases h
  | k + 1, hk, v, h => by
    have ih := fuB_size (s := s) (n := n) k (by omega)
    have hz : (s.extract (k + 1) (k + 1 + n)).size = n := by rw [ByteArray.size_extract]; omega
    unfold fuB at h
    by_cases hc : fuC s n k = true
    · rw [if_pos hc] at h
      cases hb : fuB s n k with
      | none =>
        rw [hb] at h
        injection h with h
        rw [← h]; exact hz
      | some u =>
        rw [hb] at h
        have hu := ih u hb
        dsimp only at h
        by_cases hl : lessB (s.extract (k + 1) (k + 1 + n)) u = true
        · rw [if_pos hl] at h; injection h with h; rw [← h]; exact hz
        · rw [if_neg hl] at h; injection h with h; rw [← h]; exact hu
    · rw [if_neg hc] at h
      exact ih v h
theorem star_mid (v : ByteArray) : ((⟨#[42]⟩ : ByteArray) ++ v ++ ⟨#[42]⟩).extract 1 (1 + v.size) = v := by
  apply bytes_ext
  rw [ByteArray.toList_eq, ByteArray.toList_eq, ByteArray.data_extract, Array.toList_extract, List.extract_eq_take_drop, ByteArray.data_append, ByteArray.data_append, Array.toList_append, Array.toList_append]
  show List.take (1 + v.size - 1) (List.drop 1 ([42] ++ v.data.toList ++ [42])) = _
  have hl : v.data.toList.length = v.size := by simp
  rw [List.singleton_append, List.cons_append, List.drop_succ_cons, List.drop_zero, Nat.add_sub_cancel_left, ← hl, List.take_left]
theorem star_size (v : ByteArray) : ((⟨#[42]⟩ : ByteArray) ++ v ++ ⟨#[42]⟩).size = v.size + 2 := by
  rw [ByteArray.size_append, ByteArray.size_append]
  show 1 + v.size + 1 = _
  omega
theorem let_97 (s : ByteArray) (k : Nat) (h : k < s.size) : (s.data.toList[k]? == some 97) = ((s[k].toNat : Int) == 97) := by
  rw [at_list s k h, Bool.eq_iff_iff, beq_iff_eq, beq_iff_eq]
  constructor
  · intro e; injection e with e; rw [e]; rfl
  · intro e
    rw [show s[k] = 97 from UInt8.toNat.inj (by show s[k].toNat = 97; omega)]
theorem fuB_next (s : ByteArray) (n k : Nat) : fuB s n (k + 1) = if fuC s n k = true then (match fuB s n k with
      | none => some (s.extract (k + 1) (k + 1 + n))
      | some v => if lessB (s.extract (k + 1) (k + 1 + n)) v = true then some (s.extract (k + 1) (k + 1 + n)) else some v) else fuB s n k := rfl

set_option maxRecDepth 100000 in
set_option maxHeartbeats 2000000 in
theorem specFirstUnbalance (s : ByteArray) (w : World) (hs : s.size ≤ 1048576) :
    Calls Try.prog 25 #[.string s] w fun e w' => e = .returned (.string (fuR s)) ∧ Below w.heap.size w w' := by
  have HBI := Lib.hid (fun w => specIsBinaryQ s w hs)
  cases hb : binB s
  · have HV : Hid (fuR s = ⟨#[]⟩) := if_neg (by rw [hb]; decide)
    rw [hb] at HBI
    clear hb
    generalize fuR s = r at *
    go_enter Try.func25, Try.ntmps25
    go_wp2_with fail
    refine (HBI.out _).mono ?_
    rintro e w' ⟨rfl, rfl⟩
    go_wp2_with fail
    go_ret
    exact ⟨ret_str HV.out.symm, Below.refl _ _⟩
  have HV : Hid (fuR s = starB (fuTo s 0 (s.size - 1))) := if_pos hb
  have h4 := word_size (bin_word hb)
  have HT : Hid (∀ n f, fuTo s n (f + 1) = match fuB s n (s.size - 1 - n) with | some v => some v | none => fuTo s (n + 1) f) := fun n f => rfl
  have HT0 : Hid (∀ n, fuTo s n 0 = none) := fun n => rfl
  have HNX := Lib.hid (fuB_next s)
  have HB0 : Hid (∀ n, fuB s n 0 = none) := fun n => rfl
  have HSZ := Lib.hid (fun n k (h : k ≤ s.size - 1 - n) v => fuB_size (s := s) (n := n) k h v)
  have HFC : Hid (∀ n k, fuC s n k = ((s.data.toList[k]? == some 97 && s.data.toList[k + n + 1]? == some 97) && (palB (s.extract (k + 1) (k + 1 + n)) && hasR s (⟨#[98]⟩ ++ s.extract (k + 1) (k + 1 + n) ++ ⟨#[98]⟩)))) := fun n k => rfl
  rw [hb] at HBI
  clear hb
  generalize fuR s = r at *
  generalize fuTo s = T at *
  generalize fuB s = F at *
  generalize fuC s = C at *
  go_enter Try.func25, Try.ntmps25
  go_wp2_with fail
  refine (HBI.out _).mono ?_
  rintro e w' ⟨rfl, rfl⟩
  go_wp2_with fail
  go_loopw [3] (fun nv w' => ∃ n : Nat, n ≤ s.size ∧ nv = .int .i64 (n : Int) ∧ T 0 (s.size - 1) = T n (s.size - 1 - n) ∧ Below w.heap.size w w') (fun nv _ => s.size + 1 - (intOf nv).toNat)
  case atStart => exact ⟨0, Nat.zero_le _, rfl, rfl, Below.refl _ _⟩
  case round =>
    obtain ⟨n, hn, rfl, ht, hbw⟩ := hrel
    have HTN := Lib.hid ht
    have HBW := Lib.hid hbw
    clear ht hbw
    obtain ⟨wo, rfl⟩ : ∃ y : World, y = wr := ⟨_, rfl⟩
    by_cases hlt : n + 2 ≤ s.size
    · have hlt' : (n : Int) + 2 ≤ (s.size : Int) := by omega
      go_wp2_with fail
      go_loopw [4, 5] (fun bv iv w' => ∃ (k : Nat) (x : ByteArray), k ≤ s.size - 1 - n ∧ x = starB (F n k) ∧ bv = .string x ∧ iv = .int .i64 (k : Int) ∧ Below w.heap.size w w') (fun _ iv _ => s.size - (intOf iv).toNat)
      case atStart => exact ⟨0, ⟨#[]⟩, Nat.zero_le _, by rw [HB0.out]; rfl, rfl, rfl, HBW.out⟩
      case round =>
        obtain ⟨k, x, hk, hx, rfl, rfl, hbw⟩ := hrel
        have HX := Lib.hid hx
        have HB := Lib.hid hbw
        clear hx hbw
        obtain ⟨wi, rfl⟩ : ∃ y : World, y = wr := ⟨_, rfl⟩
        by_cases hkl : k + n + 2 ≤ s.size
        · have hkl' : (k : Int) + (n : Int) + 2 ≤ (s.size : Int) := by omega
          have hsl : ∀ w : World, (Instr.slice 9 (.string s) (some (.int .i64 ((k : Int) + 1))) (some (.int .i64 ((k : Int) + 1 + (n : Int)))) none).run Try.prog w = .ok (.string (s.extract (k + 1) (k + 1 + n))) w := fun w => slice_gen Try.underlying9 s _ _ (k + 1) (k + 1 + n) w (by omega) (by omega) (by omega) (by omega)
          have hiA : ∀ w : World, (Instr.index 9 (.string s) (.int .i64 (k : Int))).run Try.prog w = .ok (.int .u8 (s[k].toNat : Int)) w := fun w => index_at Try.underlying9 s k k w (by omega) rfl
          have hiB : ∀ w : World, (Instr.index 9 (.string s) (.int .i64 ((k : Int) + (n : Int) + 1))).run Try.prog w = .ok (.int .u8 (s[k + n + 1].toNat : Int)) w := fun w => index_at Try.underlying9 s _ (k + n + 1) w (by omega) (by omega)
          have HC := Lib.hid (HFC.out n k)
          rw [let_97 s k (by omega), let_97 s (k + n + 1) (by omega)] at HC
          have hzu : (s.extract (k + 1) (k + 1 + n)).size = n := by rw [ByteArray.size_extract]; omega
          have HPAL := Lib.hid (fun w => specIs (s.extract (k + 1) (k + 1 + n)) w (by omega))
          have HHAS := Lib.hid (fun w => specHas s (⟨#[98]⟩ ++ s.extract (k + 1) (k + 1 + n) ++ ⟨#[98]⟩) w hs (by rw [ByteArray.size_append, ByteArray.size_append]; show 1 + _ + 1 ≤ _; omega))
          have HN := Lib.hid (HNX.out n k)
          have HSZK := Lib.hid (HSZ.out n k hk)
          generalize s.extract (k + 1) (k + 1 + n) = u at *
          generalize hasR s (⟨#[98]⟩ ++ u ++ ⟨#[98]⟩) = hh at *
          generalize palB u = pp at *
          generalize (s[k].toNat : Int) = ca at *
          generalize (s[k + n + 1].toNat : Int) = cb at *
          have hu400 : u.size ≤ 400 := by omega
          have hbu : ((⟨#[98]⟩ : ByteArray) ++ u).size ≤ 401 := by rw [ByteArray.size_append]; show 1 + _ ≤ _; omega
          have hsu : ((⟨#[42]⟩ : ByteArray) ++ u).size ≤ 401 := by rw [ByteArray.size_append]; show 1 + _ ≤ _; omega
          by_cases hca : ca = 97
          · have dA : (ca != 97) = false := by rw [bne_eq_false_iff_eq]; exact hca
            by_cases hcb : cb = 97
            · have dB : (cb != 97) = false := by rw [bne_eq_false_iff_eq]; exact hcb
              rw [beq_iff_eq.2 hca, beq_iff_eq.2 hcb, Bool.true_and, Bool.true_and] at HC
              clear hca hcb
              cases pp
              · rw [Bool.false_and] at HC
                have HF : Hid (F n (k + 1) = F n k) := by show _ = _; rw [HN.out, HC.out]; exact if_neg (by decide)
                clear HN HC
                go_wp2_with fail
                refine (HPAL.out _).mono ?_
                rintro e w2 ⟨rfl, hb2⟩
                have HB2 := Lib.hid (HB.out.trans (hb2.mono HB.out.size))
                clear hb2
                go_wp2_with fail
                go_roundw
                case rel => exact ⟨k + 1, x, by omega, by rw [HF.out]; exact HX.out, rfl, by go_num, HB2.out⟩
                case measure => simp [intOf]; omega
              · rw [Bool.true_and] at HC
                cases hh
                · have HF : Hid (F n (k + 1) = F n k) := by show _ = _; rw [HN.out, HC.out]; exact if_neg (by decide)
                  clear HN HC
                  go_wp2_with fail
                  refine (HPAL.out _).mono ?_
                  rintro e w2 ⟨rfl, hb2⟩
                  have HB2 := Lib.hid (HB.out.trans (hb2.mono HB.out.size))
                  clear hb2
                  go_wp2_with fail
                  refine (HHAS.out _).mono ?_
                  rintro e w3 ⟨rfl, rfl⟩
                  go_wp2_with fail
                  go_roundw
                  case rel => exact ⟨k + 1, x, by omega, by rw [HF.out]; exact HX.out, rfl, by go_num, HB2.out⟩
                  case measure => simp [intOf]; omega
                · rw [HC.out, if_pos rfl] at HN
                  clear HC
                  cases hf : F n k with
                  | none =>
                    rw [hf] at HN HX
                    have hxe : x = ⟨#[]⟩ := HX.out
                    have hem : x.toList.isEmpty = true := empty_is (by rw [hxe]; rfl)
                    have HF : Hid (starB (F n (k + 1)) = ⟨#[42]⟩ ++ u ++ ⟨#[42]⟩) := by show _ = _; rw [HN.out]; rfl
                    clear hf HN hxe HX
                    go_wp2_with fail
                    refine (HPAL.out _).mono ?_
                    rintro e w2 ⟨rfl, hb2⟩
                    have HB2 := Lib.hid (HB.out.trans (hb2.mono HB.out.size))
                    clear hb2
                    go_wp2_with fail
                    refine (HHAS.out _).mono ?_
                    rintro e w3 ⟨rfl, rfl⟩
                    go_wp2_with fail
                    go_roundw
                    case rel => exact ⟨k + 1, _, by omega, HF.out.symm, rfl, by go_num, HB2.out⟩
                    case measure => simp [intOf]; omega
                  | some v =>
                    rw [hf] at HN HX
                    have hvz := HSZK.out v hf
                    have hxe : x = ⟨#[42]⟩ ++ v ++ ⟨#[42]⟩ := HX.out
                    have hxz : x.size = n + 2 := by rw [hxe, star_size, hvz]
                    have hem : x.toList.isEmpty = false := empty_no (by omega)
                    have hsx : ∀ w : World, (Instr.slice 9 (.string x) (some (.int .i64 1)) (some (.int .i64 (1 + (n : Int)))) none).run Try.prog w = .ok (.string v) w := fun w => by
                      have h1 := slice_gen (P := Try.prog) Try.underlying9 x 1 (1 + (n : Int)) 1 (1 + n) w rfl (by omega) (by omega) (by omega)
                      rw [h1]
                      congr 2
                      rw [hxe, ← hvz, star_mid]
                    cases hl : Op.bytesLess u.toList v.toList
                    · have HF : Hid (starB (F n (k + 1)) = x) := by
                        show _ = _
                        rw [HN.out, hxe]
                        show starB (if Op.bytesLess u.toList v.toList = true then some u else some v) = _
                        rw [hl]
                        rfl
                      clear hf HN hxe HX
                      go_wp2_with fail
                      refine (HPAL.out _).mono ?_
                      rintro e w2 ⟨rfl, hb2⟩
                      have HB2 := Lib.hid (HB.out.trans (hb2.mono HB.out.size))
                      clear hb2
                      go_wp2_with fail
                      refine (HHAS.out _).mono ?_
                      rintro e w3 ⟨rfl, rfl⟩
                      go_wp2_with fail
                      go_roundw
                      case rel => exact ⟨k + 1, x, by omega, HF.out.symm, rfl, by go_num, HB2.out⟩
                      case measure => simp [intOf]; omega
                    · have HF : Hid (starB (F n (k + 1)) = ⟨#[42]⟩ ++ u ++ ⟨#[42]⟩) := by
                        show _ = _
                        rw [HN.out]
                        show starB (if Op.bytesLess u.toList v.toList = true then some u else some v) = _
                        rw [hl]
                        rfl
                      clear hf HN hxe HX
                      go_wp2_with fail
                      refine (HPAL.out _).mono ?_
                      rintro e w2 ⟨rfl, hb2⟩
                      have HB2 := Lib.hid (HB.out.trans (hb2.mono HB.out.size))
                      clear hb2
                      go_wp2_with fail
                      refine (HHAS.out _).mono ?_
                      rintro e w3 ⟨rfl, rfl⟩
                      go_wp2_with fail
                      go_roundw
                      case rel => exact ⟨k + 1, _, by omega, HF.out.symm, rfl, by go_num, HB2.out⟩
                      case measure => simp [intOf]; omega
            · have dB : (cb != 97) = true := by rw [bne_iff_ne]; exact hcb
              have HF : Hid (F n (k + 1) = F n k) := by show _ = _; rw [HN.out, HC.out, beq_eq_false_iff_ne.2 hcb, Bool.and_false, Bool.false_and]; exact if_neg (by decide)
              clear HN HC hca
              go_wp2_with fail
              go_roundw
              case rel => exact ⟨k + 1, x, by omega, by rw [HF.out]; exact HX.out, rfl, by go_num, HB.out⟩
              case measure => simp [intOf]; omega
          · have dA : (ca != 97) = true := by rw [bne_iff_ne]; exact hca
            have HF : Hid (F n (k + 1) = F n k) := by show _ = _; rw [HN.out, HC.out, beq_eq_false_iff_ne.2 hca, Bool.false_and, Bool.false_and]; exact if_neg (by decide)
            clear HN HC
            go_wp2_with fail
            go_roundw
            case rel => exact ⟨k + 1, x, by omega, by rw [HF.out]; exact HX.out, rfl, by go_num, HB.out⟩
            case measure => simp [intOf]; omega
        · have hke : k = s.size - 1 - n := by omega
          have hkl' : ¬ (k : Int) + (n : Int) + 2 ≤ (s.size : Int) := by omega
          obtain ⟨f, hf1⟩ : ∃ f, s.size - 1 - n = f + 1 := ⟨s.size - 1 - n - 1, by omega⟩
          have HTX := Lib.hid (HT.out n f)
          have HSZK := Lib.hid (HSZ.out n k hk)
          rw [← hf1, ← HTN.out, ← hke] at HTX
          cases hfk : F n k with
          | none =>
            rw [hfk] at HTX HX
            have hxe : x = ⟨#[]⟩ := HX.out
            have hem : x.toList.isEmpty = true := empty_is (by rw [hxe]; rfl)
            have HT2 : Hid (T 0 (s.size - 1) = T (n + 1) (s.size - 1 - (n + 1))) := by
              show _ = _
              rw [show s.size - 1 - (n + 1) = f by omega]
              exact HTX.out
            clear hfk HTX hxe HX hke hf1
            go_wp2_with fail
            go_roundw
            case rel => exact ⟨n + 1, by omega, by go_num, HT2.out, HB.out⟩
            case measure => simp [intOf]; omega
          | some v =>
            rw [hfk] at HTX HX
            have hvz := HSZK.out v hfk
            have hxz : x.size = n + 2 := by rw [HX.out]; show ((⟨#[42]⟩ : ByteArray) ++ v ++ ⟨#[42]⟩).size = _; rw [star_size, hvz]
            have hem : x.toList.isEmpty = false := empty_no (by omega)
            have HR : Hid (x = r) := by
              show _ = _
              rw [HV.out, HTX.out]
              exact HX.out
            clear hfk HTX HX hke hf1
            go_wp2_with fail
            go_ret
            exact ⟨ret_str HR.out, HB.out⟩
    · have hlt' : ¬ (n : Int) + 2 ≤ (s.size : Int) := by omega
      have HR : Hid (⟨#[]⟩ = r) := by
        show _ = _
        rw [HV.out, HTN.out, show s.size - 1 - n = 0 by omega, HT0.out]
        rfl
      go_wp2_with fail
      go_ret
      exact ⟨ret_str HR.out, HBW.out⟩
end Go.Proofs.Ytnejalefpenbfaa

/- The least length of two factors that show that a word is not balanced, and the one palindrome that parts it. No program in it. -/
namespace Go.Proofs.Ytnejalefpenbfaa
open Go.RowKit

/-- two letters around a text -/
def wrapB (a : UInt8) (u : ByteArray) (b : UInt8) : ByteArray := ⟨#[a]⟩ ++ u ++ ⟨#[b]⟩
theorem wrap_list (a : UInt8) (u : ByteArray) (b : UInt8) : (wrapB a u b).data.toList = a :: (u.data.toList ++ [b]) := by
  unfold wrapB
  rw [ByteArray.data_append, ByteArray.data_append, Array.toList_append, Array.toList_append]
  rfl
theorem wrap_size (a : UInt8) (u : ByteArray) (b : UInt8) : (wrapB a u b).size = u.size + 2 := by
  have h1 := pl_len (wrapB a u b)
  rw [wrap_list, List.length_cons, List.length_append, pl_len] at h1
  have : [b].length = 1 := rfl
  omega
theorem wrap_inj {a b c d : UInt8} {u v : ByteArray} (h : wrapB a u b = wrapB c v d) : a = c ∧ u = v ∧ b = d := by
  have e : (wrapB a u b).data.toList = (wrapB c v d).data.toList := by rw [h]
  rw [wrap_list, wrap_list] at e
  injection e with e1 e2
  obtain ⟨e3, e4⟩ := List.append_inj' e2 rfl
  injection e4 with e4 _
  exact ⟨e1, bytes_ext (by rw [ByteArray.toList_eq, ByteArray.toList_eq]; exact e3), e4⟩
theorem wrap_mid (a : UInt8) (u : ByteArray) (b : UInt8) : (wrapB a u b).extract 1 (1 + u.size) = u := by
  apply bytes_ext
  rw [ByteArray.toList_eq, ByteArray.toList_eq, ByteArray.data_extract, Array.toList_extract, List.extract_eq_take_drop, wrap_list, List.drop_succ_cons, List.drop_zero, Nat.add_sub_cancel_left, ← pl_len u, List.take_left]
theorem ext_wrap {s : ByteArray} {j n : Nat} (h : j + n + 2 ≤ s.size) {a b : UInt8} (ha : s.data.toList[j]? = some a) (hb : s.data.toList[j + n + 1]? = some b) : s.extract j (j + (n + 2)) = wrapB a (s.extract (j + 1) (j + 1 + n)) b := by
  have hz := pz_size s j (n + 2) (by omega)
  have hz2 := pz_size s (j + 1) n (by omega)
  have hl2 : (s.extract (j + 1) (j + 1 + n)).data.toList.length = n := by rw [pl_len, hz2]
  refine pl_ext (by rw [wrap_size, hz, hz2]) fun i hi => ?_
  rw [hz] at hi
  rw [pz_list s j (n + 2) i hi, wrap_list]
  rcases i with _ | i
  · exact ha
  · rw [List.getElem?_cons_succ]
    by_cases hin : i < n
    · rw [List.getElem?_append_left (by omega), pz_list s (j + 1) n i hin]
      congr 1
      omega
    · have e : i = n := by omega
      subst e
      rw [List.getElem?_append_right (by omega), hl2, Nat.sub_self, show j + (i + 1) = j + i + 1 by omega, hb]
      rfl

/-- the letters of a word of the letters a and b -/
theorem bin_byte {s : ByteArray} (h : binB s = true) {i : Nat} (hi : i < s.size) : s.data.toList[i]? = some (if bX s i = true then 98 else 97) := by
  have h1 := bin_at h i hi
  have h2 := at_list s i hi
  rw [h2]
  congr 1
  cases hx : bX s i
  · rw [hx] at h1
    have : false.toNat = 0 := rfl
    rw [if_neg (by decide)]
    exact UInt8.toNat.inj (by show s[i].toNat = 97; omega)
  · rw [hx] at h1
    have : true.toNat = 1 := rfl
    rw [if_pos rfl]
    exact UInt8.toNat.inj (by show s[i].toNat = 98; omega)
theorem bx_98 {s : ByteArray} {i : Nat} (h : s.data.toList[i]? = some 98) : bX s i = true := by unfold bX; rw [h]; rfl
theorem bx_97 {s : ByteArray} {i : Nat} (h : s.data.toList[i]? = some 97) : bX s i = false := by unfold bX; rw [h]; rfl
theorem bx_same {s : ByteArray} {i j : Nat} (h : s.data.toList[i]? = s.data.toList[j]?) : bX s i = bX s j := by unfold bX; rw [h]

theorem low_unb {s : ByteArray} {n : Nat} (h2 : n ≤ s.size) : lwN s n + 1 < hgN s n ↔ UnbAt (bX s) s.size n := by
  constructor
  · intro h
    obtain ⟨⟨j, hj, ej⟩, ⟨i, hi, ei⟩⟩ := sp_some s n (s.size + 1 - n) (by omega)
    have e1 : lwN s n = spLo s n (s.size + 1 - n) := rfl
    have e2 : hgN s n = spHi s n (s.size + 1 - n) := rfl
    exact ⟨i, j, by omega, by omega, by omega⟩
  · rintro ⟨i, j, hi, hj, h⟩
    have a := (sp_all s n (s.size + 1 - n) i (by omega)).2
    have b := (sp_all s n (s.size + 1 - n) j (by omega)).1
    have e1 : lwN s n = spLo s n (s.size + 1 - n) := rfl
    have e2 : hgN s n = spHi s n (s.size + 1 - n) := rfl
    omega
theorem ub_least (s : ByteArray) : ∀ k, k ≤ s.size → (ubTo s k = 0 → ∀ m, m ≤ k → ¬ UnbAt (bX s) s.size m) ∧ (ubTo s k ≠ 0 → ubTo s k ≤ k ∧ UnbAt (bX s) s.size (ubTo s k) ∧ ∀ m, m < ubTo s k → ¬ UnbAt (bX s) s.size m)
  | 0, _ => by
    refine ⟨fun _ m hm => ?_, fun h => absurd rfl h⟩
    rintro ⟨i, j, _, _, h⟩
    have e : m = 0 := by omega
    subst e
    have : cbN (bX s) i 0 = 0 := rfl
    omega
  | k + 1, hk => by
    obtain ⟨a, b⟩ := ub_least s k (by omega)
    have hu := low_unb (s := s) (n := k + 1) hk
    by_cases h0 : ubTo s k = 0
    · by_cases hc : lwN s (k + 1) + 1 < hgN s (k + 1)
      · have e : ubTo s (k + 1) = k + 1 := by
          show (if ubTo s k = 0 then (if lwN s (k + 1) + 1 < hgN s (k + 1) then k + 1 else 0) else ubTo s k) = k + 1
          rw [if_pos h0, if_pos hc]
        rw [e]
        exact ⟨fun h => absurd h (by omega), fun _ => ⟨Nat.le_refl _, hu.1 hc, fun m hm => a h0 m (by omega)⟩⟩
      · rw [ub_next h0 hc]
        refine ⟨fun _ m hm => ?_, fun h => absurd rfl h⟩
        by_cases e : m = k + 1
        · subst e; exact fun h => hc (hu.2 h)
        · exact a h0 m (by omega)
    · have e := ub_stay h0 1
      rw [e]
      obtain ⟨b1, b2, b3⟩ := b h0
      exact ⟨fun h => absurd h h0, fun _ => ⟨by omega, b2, b3⟩⟩
theorem ub_none {s : ByteArray} (h : ubN s = 0) (m : Nat) : ¬ UnbAt (bX s) s.size m := by
  by_cases hm : m ≤ s.size
  · exact (ub_least s s.size (Nat.le_refl _)).1 h m hm
  · rintro ⟨i, j, hi, _, _⟩
    omega
theorem ub_some {s : ByteArray} (h : ubN s ≠ 0) : ubN s ≤ s.size ∧ UnbAt (bX s) s.size (ubN s) ∧ ∀ m, m < ubN s → ¬ UnbAt (bX s) s.size m := (ub_least s s.size (Nat.le_refl _)).2 h

/-- between two letters a here, and between two letters b elsewhere -/
def TwoAt (s : ByteArray) (m j : Nat) : Prop := j + m + 2 ≤ s.size ∧ s.data.toList[j]? = some 97 ∧ s.data.toList[j + m + 1]? = some 97 ∧ ∃ i, i + m + 2 ≤ s.size ∧ s.data.toList[i]? = some 98 ∧ s.data.toList[i + m + 1]? = some 98 ∧ s.extract (i + 1) (i + 1 + m) = s.extract (j + 1) (j + 1 + m)
theorem cb_ends (x : Nat → Bool) (i m : Nat) : cbN x i (m + 2) = (x i).toNat + cbN x (i + 1) m + (x (i + m + 1)).toNat := by
  show cbN x i (m + 1) + (x (i + (m + 1))).toNat = _
  rw [cb_cons, Nat.add_assoc i m 1]
theorem two_unb {s : ByteArray} {m j : Nat} (h : TwoAt s m j) : UnbAt (bX s) s.size (m + 2) := by
  obtain ⟨h1, a1, a2, i, h2, b1, b2, he⟩ := h
  have hs := (pl_ext2 (by omega) (by omega)).1 he
  refine ⟨i, j, by omega, by omega, ?_⟩
  rw [cb_ends, cb_ends, bx_98 b1, bx_98 b2, bx_97 a1, bx_97 a2, cb_same (i := i + 1) (j := j + 1) m (fun r hr => bx_same (hs r hr))]
  show (0 : Nat) + _ + 0 + 2 ≤ 1 + _ + 1
  omega
/-- only one text is so, of the least length -/
theorem two_one {s : ByteArray} {m j j' : Nat} (h : TwoAt s m j) (h' : TwoAt s m j') (hb : binB s = true) (hmin : ∀ k, k < m + 2 → ¬ UnbAt (bX s) s.size k) : s.extract (j + 1) (j + 1 + m) = s.extract (j' + 1) (j' + 1 + m) := by
  obtain ⟨h1, a1, a2, i, h2, b1, b2, he⟩ := h
  obtain ⟨h1', a1', a2', i', h2', b1', b2', he'⟩ := h'
  have hs := (pl_ext2 (by omega) (by omega)).1 he
  have hs' := (pl_ext2 (by omega) (by omega)).1 he'
  rw [pl_ext2 (by omega) (by omega)]
  intro r
  induction r using Nat.strongRecOn with
  | ind r ih =>
    intro hr
    have hpre : ∀ q, q < r → bX s (j + 1 + q) = bX s (j' + 1 + q) := fun q hq => bx_same (ih q hq (by omega))
    have hc : cbN (bX s) (j + 1) r = cbN (bX s) (j' + 1) r := cb_same r hpre
    have hci : cbN (bX s) (i + 1) r = cbN (bX s) (j + 1) r := cb_same r fun q hq => bx_same (hs q (by omega))
    have hci' : cbN (bX s) (i' + 1) r = cbN (bX s) (j' + 1) r := cb_same r fun q hq => bx_same (hs' q (by omega))
    rw [bin_byte hb (by omega), bin_byte hb (by omega)]
    have hxi : bX s (i + 1 + r) = bX s (j + 1 + r) := bx_same (hs r hr)
    have hxi' : bX s (i' + 1 + r) = bX s (j' + 1 + r) := bx_same (hs' r hr)
    have hno := hmin (r + 2) (by omega)
    cases hx : bX s (j + 1 + r) <;> cases hx' : bX s (j' + 1 + r)
    · rfl
    · -- a at j, b at i'
      refine absurd ⟨i', j, by omega, by omega, ?_⟩ hno
      rw [cb_ends, cb_ends, bx_97 a1, bx_98 b1', show j + r + 1 = j + 1 + r by omega, show i' + r + 1 = i' + 1 + r by omega, hx, hxi', hx', hci', hc]
      show (0 : Nat) + _ + 0 + 2 ≤ 1 + _ + 1
      omega
    · refine absurd ⟨i, j', by omega, by omega, ?_⟩ hno
      rw [cb_ends, cb_ends, bx_97 a1', bx_98 b1, show j' + r + 1 = j' + 1 + r by omega, show i + r + 1 = i + 1 + r by omega, hx', hxi, hx, hci, hc]
      show (0 : Nat) + _ + 0 + 2 ≤ 1 + _ + 1
      omega
    · rfl
theorem has_two {s u : ByteArray} {m : Nat} (hu : u.size = m) : hasR s (wrapB 98 u 98) = true ↔ ∃ i, i + m + 2 ≤ s.size ∧ s.data.toList[i]? = some 98 ∧ s.data.toList[i + m + 1]? = some 98 ∧ s.extract (i + 1) (i + 1 + m) = u := by
  rw [has_iff, wrap_size, hu]
  constructor
  · rintro ⟨i, h1, h2⟩
    have ha := at_list s i (by omega)
    have hb := at_list s (i + m + 1) (by omega)
    rw [ext_wrap (by omega) ha hb] at h2
    obtain ⟨e1, e2, e3⟩ := wrap_inj h2
    exact ⟨i, by omega, by rw [ha, e1], by rw [hb, e3], e2⟩
  · rintro ⟨i, h1, h2, h3, h4⟩
    exact ⟨i, by omega, by rw [ext_wrap (by omega) h2 h3, h4]⟩
theorem fuC_iff {s : ByteArray} {m j : Nat} (hj : j + m + 2 ≤ s.size) : fuC s m j = true ↔ TwoAt s m j ∧ PalS (s.extract (j + 1) (j + 1 + m)) := by
  have hz := pz_size s (j + 1) m (by omega)
  have hh := has_two (s := s) hz
  unfold fuC
  rw [Bool.and_eq_true, Bool.and_eq_true, Bool.and_eq_true, beq_iff_eq, beq_iff_eq, palB_iff]
  show _ ∧ _ ∧ hasR s (wrapB 98 _ 98) = true ↔ _
  rw [hh]
  constructor
  · rintro ⟨⟨a, b⟩, c, d⟩
    exact ⟨⟨hj, a, b, d⟩, c⟩
  · rintro ⟨⟨_, a, b, d⟩, c⟩
    exact ⟨⟨a, b⟩, c, d⟩
theorem fuB_none {s : ByteArray} {m : Nat} : ∀ k, (∀ i, i < k → fuC s m i = false) → fuB s m k = none
  | 0, _ => rfl
  | k + 1, h => by
    rw [fuB_next, h k (by omega), if_neg (by decide)]
    exact fuB_none k fun i hi => h i (by omega)
theorem fuB_some {s : ByteArray} {m : Nat} : ∀ k v, fuB s m k = some v → ∃ i, i < k ∧ fuC s m i = true ∧ v = s.extract (i + 1) (i + 1 + m)
  | 0, v, h => by cases h
  | k + 1, v, h => by
    rw [fuB_next] at h
    have down : fuB s m k = some v → ∃ i, i < k + 1 ∧ fuC s m i = true ∧ v = s.extract (i + 1) (i + 1 + m) := fun h => by
      obtain ⟨i, a, b, c⟩ := fuB_some k v h
      exact ⟨i, by omega, b, c⟩
    by_cases hc : fuC s m k = true
    · rw [if_pos hc] at h
      cases hb : fuB s m k with
      | none =>
        rw [hb] at h
        injection h with h
        exact ⟨k, by omega, hc, h.symm⟩
      | some u =>
        rw [hb] at h
        dsimp only at h
        split at h
        · injection h with h
          exact ⟨k, by omega, hc, h.symm⟩
        · rw [h] at hb
          exact down hb
    · rw [if_neg hc] at h
      exact down h
theorem fuB_there {s : ByteArray} {m : Nat} : ∀ k i, i < k → fuC s m i = true → ∃ v, fuB s m k = some v
  | 0, i, h, _ => absurd h (by omega)
  | k + 1, i, h, hc => by
    rw [fuB_next]
    by_cases e : i = k
    · subst e
      rw [if_pos hc]
      cases fuB s m i with
      | none => exact ⟨_, rfl⟩
      | some u =>
        dsimp only
        split
        · exact ⟨_, rfl⟩
        · exact ⟨_, rfl⟩
    · obtain ⟨v, hv⟩ := fuB_there k i (by omega) hc
      split
      · rw [hv]
        dsimp only
        split
        · exact ⟨_, rfl⟩
        · exact ⟨_, rfl⟩
      · exact ⟨v, hv⟩
theorem fuTo_skip {s : ByteArray} : ∀ (f n : Nat), (∀ m, n ≤ m → m < n + f → fuB s m (s.size - 1 - m) = none) → fuTo s n f = none
  | 0, _, _ => rfl
  | f + 1, n, h => by
    unfold fuTo
    rw [h n (Nat.le_refl _) (by omega)]
    exact fuTo_skip f (n + 1) fun m a b => h m (by omega) (by omega)
theorem fuTo_first {s v : ByteArray} {m : Nat} : ∀ (d n f : Nat), n + d = m → d < f → (∀ k, n ≤ k → k < m → fuB s k (s.size - 1 - k) = none) → fuB s m (s.size - 1 - m) = some v → fuTo s n f = some v
  | d, n, 0, _, h, _, _ => absurd h (by omega)
  | 0, n, f + 1, e, _, _, hv => by
    have : n = m := by omega
    subst this
    unfold fuTo
    rw [hv]
  | d + 1, n, f + 1, e, hf, h, hv => by
    unfold fuTo
    rw [h n (Nat.le_refl _) (by omega)]
    exact fuTo_first d (n + 1) f (by omega) (by omega) (fun k a b => h k (by omega) b) hv
theorem fu_short {s : ByteArray} {n : Nat} (hmin : ∀ k, k < n → ¬ UnbAt (bX s) s.size k) {m : Nat} (hm : m + 2 < n) : fuB s m (s.size - 1 - m) = none := by
  refine fuB_none _ fun i hi => ?_
  rw [Bool.eq_false_iff]
  intro h
  exact hmin (m + 2) hm (two_unb ((fuC_iff (by omega)).1 h).1)
/-- a balanced word -/
theorem fu_none {s : ByteArray} (h : ubN s = 0) : fuR s = ⟨#[]⟩ := by
  unfold fuR
  by_cases hb : binB s = true
  · rw [if_pos hb, fuTo_skip (s.size - 1) 0 fun m _ _ => ?_]
    · rfl
    · refine fuB_none _ fun i hi => ?_
      rw [Bool.eq_false_iff]
      intro hc
      exact ub_none h (m + 2) (two_unb ((fuC_iff (by omega)).1 hc).1)
  · rw [if_neg hb]
/-- a word that is not: each place of the least length leads to the answer, and there is one -/
theorem fu_some {s : ByteArray} (hb : binB s = true) (h : ubN s ≠ 0) : ∃ m, ubN s = m + 2 ∧ m + 2 ≤ s.size ∧ (∀ j, TwoAt s m j → fuR s = wrapB 42 (s.extract (j + 1) (j + 1 + m)) 42) ∧ ∃ j, TwoAt s m j := by
  obtain ⟨hle, hun, hmin⟩ := ub_some h
  obtain ⟨m, hm, i, j, hi, hj, xi, yi, xj, yj, hsame, hpal⟩ := unb_part hun hmin
  rw [hm] at hle hmin
  have bi := bin_byte hb (i := i) (by omega)
  have bi2 := bin_byte hb (i := i + m + 1) (by omega)
  have bj := bin_byte hb (i := j) (by omega)
  have bj2 := bin_byte hb (i := j + m + 1) (by omega)
  rw [xi, if_pos rfl] at bi
  rw [yi, if_pos rfl] at bi2
  rw [xj, if_neg (by decide)] at bj
  rw [yj, if_neg (by decide)] at bj2
  have hext : s.extract (i + 1) (i + 1 + m) = s.extract (j + 1) (j + 1 + m) := by
    rw [pl_ext2 (by omega) (by omega)]
    intro k hk
    rw [bin_byte hb (by omega), bin_byte hb (by omega), hsame k hk]
  have htwo : TwoAt s m j := ⟨hj, bj, bj2, i, hi, bi, bi2, hext⟩
  have hps : PalS (s.extract (j + 1) (j + 1 + m)) := by
    rw [← hext, pl_at (by omega)]
    intro k hk
    rw [bin_byte hb (by omega), bin_byte hb (by omega), hpal k hk]
  have hfc : fuC s m j = true := (fuC_iff hj).2 ⟨htwo, hps⟩
  refine ⟨m, hm, hle, fun j' hj' => ?_, j, htwo⟩
  obtain ⟨v, hv⟩ := fuB_there (s.size - 1 - m) j (by omega) hfc
  obtain ⟨q, hq, hqc, rfl⟩ := fuB_some _ _ hv
  have hq2 := ((fuC_iff (by omega)).1 hqc).1
  unfold fuR
  rw [if_pos hb, fuTo_first m 0 (s.size - 1) (by omega) (by omega) (fun k _ hk => fu_short hmin (by omega)) hv, two_one hj' hq2 hb hmin]
  rfl
end Go.Proofs.Ytnejalefpenbfaa
