/- Texts put together. -/
import Derived.Test.YthckpgfhldocdaaMgp28
import Derived.Test.YthckpgfhldocdaaMgp30
import Derived.Test.YthckpgfhldocdaaMgp12
import Derived.Test.YthckpgfhldocdaaMgp8
import Derived.Test.YthckpgfhldocdaaMgp1
import Derived.HandedShaped
/- FixedPoint, IsFixedStart and LetterAt of the program. Conditions: lengths of at most 2^20. -/
namespace Go.Proofs.Ythckpgfhldocdaa
open Go.RowKit

set_option maxRecDepth 100000 in
set_option maxHeartbeats 1000000 in
theorem implFixedPoint (l : List ByteArray) (v : Value) (t : ByteArray) (n : Int) (w : World) (h : Lst w v (strs l)) (hz : ∀ x ∈ l, x.size ≤ 1048576) (hn : l.length ≤ 1048576) (ht : t.size ≤ 1048576) :
    Calls Try.prog 17 #[.agg #[v], .string t, .int .i64 n] w (PairSaid (fixR l t n) (fixOk l t n) w) := by
  obtain ⟨A, cp, rfl⟩ := lst_slice h
  rw [strs_length] at h ⊢
  have hb0 : Below w.heap.size w (w.alloc (.cells #[.slice A l.length cp] 34)) := (Below.refl _ _).alloc (Nat.le_refl _) _
  have HL := Lib.hid (h.below hb0)
  have HZ := Lib.hid hz
  have HB0 := Lib.hid hb0
  clear h hz hb0
  by_cases h0 : growOk l t = true
  · have H0 := Lib.hid h0
    by_cases hin : 0 ≤ n ∧ n ≤ 400
    · obtain ⟨m, rfl⟩ : ∃ m : Nat, n = m := ⟨n.toNat, by omega⟩
      have hm : m ≤ 400 := by omega
      have d1 : decide ((0 : Int) ≤ (m : Int)) = true := by simp
      have d2 : decide ((m : Int) ≤ (400 : Int)) = true := by simp; omega
      have HOK : Hid (fixOk l t m = true) := by show fixOk l t m = true; unfold fixOk; rw [h0, d1, d2]; rfl
      have HV : Hid (fixR l t m = ⟨(fixL l (letN t) m).toArray⟩) := if_pos HOK.out
      have e1 : decide ((m : Int) < 0) = false := by simp
      have e2 : decide ((400 : Int) < (m : Int)) = false := by simp; omega
      have e3 : ¬ (400 < m) := by omega
      have e4 : decide (400 < m) = false := by simp; omega
      clear h0 hin d1 d2
      go_enter Try.func17, Try.ntmps17
      go_wp2_with fail
      refine (implIsGrowing l _ t _ HL.out HZ.out hn ht).mono ?_
      rintro e w1 ⟨rfl, hb1⟩
      rw [H0.out]
      have HB1 : Hid (Below w.heap.size w w1) := HB0.out.trans (hb1.mono (by simp))
      have c1 : w1.cell? ⟨w.heap.size, 0, none⟩ = some (.slice A l.length cp) := (hb1.cell (p := ⟨w.heap.size, 0, none⟩) (by simp)).trans (by go_simp)
      have HL1 := Lib.hid (HL.out.below hb1)
      clear hb1
      go_wp2_with fail
      refine (implFixedStart l _ t m _ HL1.out H0.out (by omega)).mono ?_
      rintro e w2 ⟨v', rfl, ho2, hb2⟩
      obtain ⟨A2, cp2, rfl⟩ := own_slice ho2
      have hconv := conv_own_to Try.underlying9 ho2
      have HB2 : Hid (Below w.heap.size w w2) := HB1.out.trans (hb2.mono HB1.out.size)
      clear hb2 c1 ho2
      go_wp2_with fail
      go_ret2
      refine ⟨?_, HB2.out⟩
      rw [HOK.out, HV.out]
      rfl
    · have d1 : (decide ((0 : Int) ≤ n) && decide (n ≤ (400 : Int))) = false := by simp; omega
      have HNO : Hid (fixOk l t n = false) := by show fixOk l t n = false; unfold fixOk; rw [d1, Bool.and_false]
      clear h0 d1
      by_cases hneg : n < 0
      · have e1 : decide (n < 0) = true := by simpa using hneg
        clear hin
        go_enter Try.func17, Try.ntmps17
        go_wp2_with fail
        refine (implIsGrowing l _ t _ HL.out HZ.out hn ht).mono ?_
        rintro e w1 ⟨rfl, hb1⟩
        rw [H0.out]
        have HB1 : Hid (Below w.heap.size w w1) := HB0.out.trans (hb1.mono (by simp))
        clear hb1
        go_wp2_with fail
        go_ret2
        exact fixR_no HNO.out HB1.out
      · have hbig : 400 < n := by omega
        have e1 : decide (n < 0) = false := by simpa using hneg
        have e2 : decide (400 < n) = true := by simpa using hbig
        clear hin
        go_enter Try.func17, Try.ntmps17
        go_wp2_with fail
        refine (implIsGrowing l _ t _ HL.out HZ.out hn ht).mono ?_
        rintro e w1 ⟨rfl, hb1⟩
        rw [H0.out]
        have HB1 : Hid (Below w.heap.size w w1) := HB0.out.trans (hb1.mono (by simp))
        clear hb1
        go_wp2_with fail
        go_ret2
        exact fixR_no HNO.out HB1.out
  · have h0' : growOk l t = false := by simpa using h0
    have HNO : Hid (fixOk l t n = false) := by show fixOk l t n = false; unfold fixOk; rw [h0']; rfl
    clear h0
    go_enter Try.func17, Try.ntmps17
    go_wp2_with fail
    refine (implIsGrowing l _ t _ HL.out HZ.out hn ht).mono ?_
    rintro e w1 ⟨rfl, hb1⟩
    rw [h0']
    have HB1 : Hid (Below w.heap.size w w1) := HB0.out.trans (hb1.mono (by simp))
    clear hb1
    go_wp2_with fail
    go_ret2
    exact fixR_no HNO.out HB1.out
theorem sizeOf_u8 (w : World) : (sizeOf (Try.prog.elem 22)).run Try.prog w = .ok 1 w := by
  rw [show Try.prog.elem 22 = 5 by simp [Program.elem, Try.underlying22]]
  exact Try.sizeOf5 w
/-- one byte of a row turned into a text -/
theorem conv_one (w : World) (g o c : Nat) (b : UInt8) (hc : w.cell? ⟨g, o, none⟩ = some (.int .u8 (b.toNat : Int))) :
    (convert 22 9 (.slice (some ⟨g, o, none⟩) 1 c)).run Try.prog w = .ok (.string ⟨#[b]⟩) w := by
  rw [run_convert_bytes_string _ 22 9 5 _ _ _ Try.underlying22 Try.underlying5 Try.underlying9, run_bytesToString _ _ _ _ [(b.toNat : Int)] ?_]
  · simp only [List.foldl_cons, List.foldl_nil, Int.toNat_natCast, UInt8.ofNat_toNat]
    rfl
  · simp [loadCells, go_sem, hc]
theorem latR_noI {l : List ByteArray} {t : ByteArray} {n : Int} (h : latOk l t n = false) {w w' : World} (hb : Below w.heap.size w w') : PairSaid (latR l t n) (latOk l t n) w (.returned (.tuple #[.string ⟨#[]⟩, .bool false])) w' := by
  refine ⟨?_, hb⟩
  have e : latR l t n = ⟨#[]⟩ := if_neg (by rw [h]; decide)
  rw [h, e]

end Go.Proofs.Ythckpgfhldocdaa

/- From a walk that also knows the world's shape to the row of a law. No condition. -/
namespace Go.Proofs.Ythckpgfhldocdaa
open Go.ChangeShapes Go.WideShapes Go.ChangeAt Go.RowKit
section
variable {H : Type} {enc : TypeId × Value → H}
/-- lawLifted, where the walk also takes that the world is shaped. -/
theorem lawLiftedS {C : Checked} {os : Os} {f : FuncId} {fn : Func} {s : ChangeSpec} {tb : TypeId}
    (own : ownKnob C.prog.godebug = none) (started : os.Started) (noInit : C.prog.inits.idxOf? f = none) (hfn : C.prog.funcs[f]? = some fn)
    (hl : laidOutB C.prog = true) (hts : fn.params.toList.all (fun t => C.prog.readableRec t && decide (t < C.prog.types.size)) = true) (hres : fn.resultTypes = #[tb]) (htb : C.prog.underlying tb = some .bool)
    (hsv : s.vars = []) (hsp : ∀ ds : List (DataW H), ds.length = fn.params.size → s.fn H ds = { results := [.lit (.bool true)], args := ds })
    (witness : ∃ (w : World) (tape : Tape) (i : Input), w.os = os ∧ (w.forCall tape i).Shaped C.prog ∧ i.vars = [] ∧ Input.okWide C.prog (w.forCall tape i) .any w.heap.size f i ∧
      s.pre6 enc C.prog fn [] false (w.forCall tape i).memory i.args ∧ ({} : Assume).holds C.prog (lone (Frame.enter C.prog f i.args .normal) [] (w.forCall tape i)))
    (walk : ∀ (W : World) (base : Nat) (args : Array Value) (ds : List (DataW H)) (p : List MemPlace), W.ShapedOpen C.prog →
      (∀ (j : Nat) t v, fn.params[j]? = some t → args[j]? = some v → Value.okWide C.prog W .any base t v) →
      DataW.TrodAll enc C.prog W 0 (fun _ => true) true fn.params.toList args.toList ds p → (∀ x ∈ p, x.block < W.heap.size) →
      Calls C.prog f args W fun e W' => e = .returned (.bool true) ∧ Below W.heap.size W W') :
    ReturnsInHanded {} C os f .any (s.pre6 enc C.prog fn [] false) (s.post enc C.prog fn false true false false) := by
  refine returnsInHanded_of_change_shaped own started noInit hfn witness ?_
  intro W base args ds gs before hval hW _ _ hsh _
  have hW' := hW
  obtain ⟨p, q, hA, hV, rfl, _, _⟩ := hW
  rw [hsv] at hV
  obtain ⟨rfl, rfl⟩ := trodVars_none hV
  have hlen : ds.length = fn.params.size := by simpa using trodAll_length hA
  refine (walk W base args ds p hsh hval hA (fun x hx => hW'.lt x (by simpa using hx))).mono fun e W' ⟨he, hb⟩ => ⟨_, he, ?_⟩
  refine lawPost hl (fun t ht => ?_) hres htb hsv (by rw [List.append_nil]; exact hsp ds hlen) hW' hb
  have := List.all_eq_true.1 hts t ht
  simpa using this
end
end Go.Proofs.Ythckpgfhldocdaa
