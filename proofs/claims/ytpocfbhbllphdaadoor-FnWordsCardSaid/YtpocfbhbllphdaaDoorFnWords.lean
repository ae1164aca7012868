/- FnWords: for every slice of bytes the law returns true and it reads as before. The listed variables of Go's library are as their initialisers lay them; the card ties that to the program's text. -/
import Derived.Test.YtpocfbhbllphdaaDoorOwn
import Derived.Test.YtpocfbhbllphdaaDoorMakeText
import Derived.Test.YtpocfbhbllphdaaDoorSplitJoin
import Derived.Test.YtpocfbhbllphdaaDoorSplitI
import Derived.Test.YtpocfbhbllphdaaDoorLinesI
import Derived.Test.YtpocfbhbllphdaaDoorJoinParts
import Derived.Test.YtpocfbhbllphdaaDoorNameI
import Derived.Test.YtpocfbhbllphdaaDoorLaidErr
import Derived.Test.YtpocfbhbllphdaaDoorCards
import Derived.Test.YtpocfbhbllphdaaDoorTie
import Derived.Deep.DeepHandedRow
import Derived.Deep.DeepWitnessRowRef
namespace Go.Proofs.YtpocfbhbllphdaaDoor
open Go.ChangeShapes Go.WideShapes Go.ChangeAt Go.RowKit

theorem itoaS_short (n : Int) (h : InR n) : (itoaS n).size ≤ 1048576 := by
  have e : (itoaS n).size = (Lib.itoa n).length := by show (Lib.itoa n).toArray.size = _; simp
  rw [e]
  obtain ⟨h0, h1⟩ := h
  by_cases hn : n < 0
  · rw [itoa_neg hn, List.length_cons]
    have := dec_short 19 n.natAbs (by omega)
    omega
  · rw [itoa_pos hn]
    have := dec_short 19 n.toNat (by omega)
    omega
theorem splitL_few (s y : ByteArray) : (splitL s y).length ≤ s.size + 1 := by
  have := splitTo_le s y s.size
  unfold splitL
  simp
  omega
def Chain (w : World) (e : Ending) (w' : World) : Prop := e = .returned (.bool true) ∧ Below w.heap.size w w'

set_option maxRecDepth 100000 in
set_option maxHeartbeats 1000000 in
theorem fnWords_walk0 (v : Value) (zs : List Int) (w : World) (hl : Lst w v (bytesV zs)) (hz : ∀ z ∈ zs, 0 ≤ z ∧ z ≤ 255) (ht : Tab w) (hE : Errs w) :
    Calls Tryd.prog 3 #[v] w (Chain w) := by
  have HL := Lib.hid hl
  have HZ := Lib.hid hz
  have HT := Lib.hid ht
  have HE := Lib.hid hE
  obtain ⟨A, c, rfl, hc1, hc2, -⟩ := hl
  rw [bytesV_length] at hc1 HL ⊢
  unfold maxLen at hc2
  clear hz ht hE
  by_cases hlen : zs.length ≤ 1048576
  · have hzs : IsBytes zs := ⟨hlen, HZ.out⟩
    have HB := Lib.hid hzs
    clear hzs
    go_enter Tryd.func3, Tryd.ntmps3
    go_wp2_with fail
    refine (makeNum_any _ zs 1 _ HB.out HL.out (by omega) (by omega)).mono ?_
    rintro e w1 ⟨x, rfl, x0, x1, hb1⟩
    have HR : Hid (InR (x - 30000)) := ⟨by omega, by omega⟩
    go_wp2_with fail
    refine (implFormatInt (x - 30000) _ HR.out.1 HR.out.2 (HT.out.below hb1 (Nat.le_refl _))).mono ?_
    rintro e w2 ⟨rfl, hb2⟩
    have hb02 : Below w.heap.size w w2 := hb1.trans (hb2.mono hb1.size)
    go_wp2_with fail
    refine (implParseInt (itoaS (x - 30000)) _ (itoaS_short _ HR.out) (HT.out.below hb02 (Nat.le_refl _)) (HE.out.below hb02 (Nat.le_refl _))).mono ?_
    rintro e w3 ⟨m, b, rfl, hp, hb3⟩
    obtain ⟨rfl, rfl⟩ := Pres_one (.inl ⟨rfl, HR.out, rfl⟩) hp
    clear hp
    have hb03 : Below w.heap.size w w3 := hb02.trans (hb3.mono hb02.size)
    go_wp2_with fail
    refine (makeText_any _ zs _ HB.out (HL.out.below hb03)).mono ?_
    rintro e w4 ⟨s, rfl, hs, hb4⟩
    have hb04 : Below w.heap.size w w4 := hb03.trans (hb4.mono hb03.size)
    have hkn : (x - 30000 == x - 30000) = true := by simp
    go_wp2_with fail
    refine (implSplitAny s ⟨#[32]⟩ _ (by omega)).mono ?_
    rintro e w5 ⟨v5, rfl, ho5, hb5⟩
    have hb05 : Below w.heap.size w w5 := hb04.trans (hb5.mono hb04.size)
    have HJ := Lib.hid (split_join s 32)
    have hss : (s.toList == s.toList) = true := by simp
    have hfew := splitL_few s ⟨#[32]⟩
    have HC := Lib.hid (implJoin_any (splitL s ⟨#[32]⟩) ⟨#[32]⟩ v5 w5 (Lst.of_own ho5) (by omega) (by rw [HJ.out]; omega))
    rw [HJ.out] at HC
    clear ho5 hfew
    go_wp2_with fail
    refine HC.out.mono ?_
    rintro e w6 ⟨rfl, hb6⟩
    have hb06 : Below w.heap.size w w6 := hb05.trans (hb6.mono hb05.size)
    go_wp2_with fail
    refine (implIsName ⟨#[120, 49]⟩ _ (by decide)).mono ?_
    rintro e w7 ⟨rfl, hb7⟩
    rw [name_x1]
    have hb07 : Below w.heap.size w w7 := hb06.trans (hb7.mono hb06.size)
    go_wp2_with fail
    refine (implSplitLines ⟨#[97, 10, 98, 10]⟩ _ (by decide)).mono ?_
    rintro e w8 ⟨v8, rfl, ho8, hb8⟩
    have hb08 : Below w.heap.size w w8 := hb07.trans (hb8.mono hb07.size)
    rw [two_lines] at ho8
    obtain ⟨g8, c8, rfl, -⟩ := own_some ho8 (by omega)
    clear ho8
    go_wp2_with fail
    go_ret
    exact ⟨rfl, hb08⟩
  · go_enter Tryd.func3, Tryd.ntmps3
    go_wp2_with fail
    go_ret
    exact ⟨rfl, Below.refl _ _⟩

theorem cellsU8 : Tryd.prog.cellsOf 5 = 1 := by kernel_rfl
theorem fnWords_walk {H : Type} {enc : TypeId × Value → H} {base : Nat} {r : Reach} {b0 : Nat} {d : DataW H} {ps : List MemPlace} (v : Value) (w : World)
    (hval : Value.okWide Tryd.prog w r b0 22 v) (h : DataW.Trod enc Tryd.prog w base (fun _ => true) true 22 v d ps) (hL : laidMetH Tryd.prog Rows.fnWordsRow.laid w) :
    Calls Tryd.prog 3 #[v] w fun e w' => e = .returned (.bool true) ∧ Below w.heap.size w w' := by
  obtain ⟨zs, hl, hz⟩ := bytes_arg Tryd.underlying22 Tryd.underlying5 cellsU8 hval h
  exact fnWords_walk0 v zs w hl hz (tab_of hL) (errs_of hL)

/-- a world that holds the listed variables as the row lists them -/
noncomputable def fnWords_world (os : Os) : World :=
  { (World.holding Tryd.prog os ⟨#[.cells #[.string { data := #[105, 110, 118, 97, 108, 105, 100, 32, 115, 121, 110, 116, 97, 120] }] 80, .cells #[.string { data := #[118, 97, 108, 117, 101, 32, 111, 117, 116, 32, 111, 102, 32, 114, 97, 110, 103, 101] }] 80], #[], []⟩) with heap := ((((((World.holding Tryd.prog os ⟨#[.cells #[.string { data := #[105, 110, 118, 97, 108, 105, 100, 32, 115, 121, 110, 116, 97, 120] }] 80, .cells #[.string { data := #[118, 97, 108, 117, 101, 32, 111, 117, 116, 32, 111, 102, 32, 114, 97, 110, 103, 101] }] 80], #[], []⟩).heap.modify 3 fun
      | .cells _ t frozen => .cells #[.int .u64 1, .int .u64 10, .int .u64 100, .int .u64 1000, .int .u64 10000, .int .u64 100000, .int .u64 1000000, .int .u64 10000000, .int .u64 100000000, .int .u64 1000000000, .int .u64 10000000000, .int .u64 100000000000, .int .u64 1000000000000, .int .u64 10000000000000, .int .u64 100000000000000, .int .u64 1000000000000000, .int .u64 10000000000000000, .int .u64 100000000000000000, .int .u64 1000000000000000000, .int .u64 10000000000000000000] t frozen
      | o => o).modify 4 fun
      | .cells _ t frozen => .cells #[.int .u8 0, .int .u8 1, .int .u8 28, .int .u8 2, .int .u8 29, .int .u8 14, .int .u8 24, .int .u8 3, .int .u8 30, .int .u8 22, .int .u8 20, .int .u8 15, .int .u8 25, .int .u8 17, .int .u8 4, .int .u8 8, .int .u8 31, .int .u8 27, .int .u8 13, .int .u8 23, .int .u8 21, .int .u8 19, .int .u8 16, .int .u8 7, .int .u8 26, .int .u8 12, .int .u8 18, .int .u8 6, .int .u8 11, .int .u8 5, .int .u8 10, .int .u8 9] t frozen
      | o => o).modify 5 fun
      | .cells _ t frozen => .cells #[.int .u8 0, .int .u8 1, .int .u8 56, .int .u8 2, .int .u8 57, .int .u8 49, .int .u8 28, .int .u8 3, .int .u8 61, .int .u8 58, .int .u8 42, .int .u8 50, .int .u8 38, .int .u8 29, .int .u8 17, .int .u8 4, .int .u8 62, .int .u8 47, .int .u8 59, .int .u8 36, .int .u8 45, .int .u8 43, .int .u8 51, .int .u8 22, .int .u8 53, .int .u8 39, .int .u8 33, .int .u8 30, .int .u8 24, .int .u8 18, .int .u8 12, .int .u8 5, .int .u8 63, .int .u8 55, .int .u8 48, .int .u8 27, .int .u8 60, .int .u8 41, .int .u8 37, .int .u8 16, .int .u8 46, .int .u8 35, .int .u8 44, .int .u8 21, .int .u8 52, .int .u8 32, .int .u8 23, .int .u8 11, .int .u8 54, .int .u8 26, .int .u8 40, .int .u8 15, .int .u8 34, .int .u8 20, .int .u8 31, .int .u8 10, .int .u8 25, .int .u8 14, .int .u8 19, .int .u8 9, .int .u8 13, .int .u8 8, .int .u8 7, .int .u8 6] t frozen
      | o => o).modify 0 fun
      | .cells _ t frozen => .cells #[.iface 78 (.pointer (some ⟨(World.holding Tryd.prog default ⟨#[], #[], []⟩).heap.size, 0, none⟩))] t frozen
      | o => o).modify 1 fun
      | .cells _ t frozen => .cells #[.iface 78 (.pointer (some ⟨(World.holding Tryd.prog default ⟨#[], #[], []⟩).heap.size + 1, 0, none⟩))] t frozen
      | o => o) }
theorem fnWords_met (os : Os) : laidMet Tryd.prog Rows.fnWordsRow.laid ((fnWords_world os).forCall (fun _ _ => 0) ⟨#[], #[.slice none 0 0], []⟩).memory :=
  laidMet_of_run' 8 (by kernel_rfl) (by kernel_rfl)
theorem fnWords_reads (os : Os) {H : Type} (enc : TypeId × Value → H) : ∃ places, DataW.whole enc Tryd.prog ((fnWords_world os).forCall (fun _ _ => 0) ⟨#[], #[.slice none 0 0], []⟩).memory Tryd.f3.params.toList Rows.fnWordsSpec.vars false #[.slice none 0 0].toList 8 = some ([.nil], [], places) :=
  ⟨[], by kernel_rfl⟩

set_option maxRecDepth 100000 in
theorem fnWords_row (os : Os) (started : os.Started) (H : Type) (enc : TypeId × Value → H) (F : Stop.Interp) :
    ReturnsInHanded {} Tryd.checked os 3 .any ((OpenSpec.ofChange Rows.fnWordsSpec).preRow enc Tryd.prog Tryd.f3 Rows.fnWordsRow.domain false Rows.fnWordsRow.laid) (((OpenSpec.ofChange Rows.fnWordsSpec).at F).post enc Tryd.prog Tryd.f3 false true false false) := by
  obtain ⟨places, hx⟩ := fnWords_reads os enc
  refine returnsInHanded_of_row (C := Tryd.checked) (s := OpenSpec.ofChange Rows.fnWordsSpec) ownKnobs started (by kernel_rfl) Tryd.func3
    (witness_row_atRef (enc := enc) (C := Tryd.checked) false (fnWords_world os) #[.slice none 0 0] rfl (by kernel_rfl) (by kernel_rfl) (by kernel_rfl)
      (OpenSpec.preRow_of_cond 8 hx (by kernel_rfl) (fun k hk => by cases hk) (by kernel_rfl) (fnWords_met os))) ?_
  intro W base args ds gs before hval0 hW _ _ _ hL _ _
  have hval : ∀ (j : Nat) t v, Tryd.f3.params[j]? = some t → args[j]? = some v → Value.okWide Tryd.prog W .any base t v := hval0
  clear hval0
  have hW' := hW
  obtain ⟨p, q, hA0, hV, rfl, _, _⟩ := hW
  have hA : DataW.TrodAll enc Tryd.prog W 0 (fun _ => true) true Tryd.f3.params.toList args.toList ds p := hA0
  clear hA0
  obtain ⟨rfl, rfl⟩ := trodVars_none hV
  have walk : Calls Tryd.prog 3 args W fun e W' => e = .returned (.bool true) ∧ Below W.heap.size W W' := by
    rw [Tryd.params3] at hA hval
    obtain ⟨v0, d0, rfl, rfl, h0⟩ := trodAll_one hA
    exact fnWords_walk v0 W (hval 0 22 v0 rfl rfl) h0 hL
  refine walk.mono fun e W' ⟨he, hb⟩ => ⟨_, he, ?_⟩
  refine lawPost laidOut (fun t ht => ?_) (by kernel_rfl) Tryd.underlying4 rfl ?_ hW' hb
  · have hall : (Tryd.f3.params.toList.all fun t => Tryd.prog.readableRec t && decide (t < Tryd.prog.types.size)) = true := by kernel_rfl
    have h3 := Bool.and_eq_true_iff.1 (List.all_eq_true.1 hall t ht)
    exact ⟨h3.1, of_decide_eq_true h3.2⟩
  · have hlen : ds.length = 1 := by
      rw [Tryd.params3] at hA
      exact trodAll_length hA
    rw [List.append_nil]
    match ds, hlen with | [_], _ => rfl

theorem fnWords_said : Rows.FnWordsSaid :=
  OpenClaim.holds_of_cond 3 Tryd.f3 rfl rfl rfl rfl rfl rfl rfl ⟨rfl, rfl, rfl, rfl, rfl⟩ rfl rfl rfl rfl rfl (by kernel_rfl) Tryd.func3 (by kernel_rfl)
    (of_decide_eq_true (by kernel_rfl)) (by unfold Func.isWrapper; first | (rw [if_pos (by decide +kernel)]; kernel_rfl) | (rw [if_neg (by decide +kernel)]; exact ⟨rfl, rfl⟩))
    (fun os started H enc _ F => by rw [OpenClaim.pre_eq_preRow]; exact fnWords_row os started H enc F)

/-- no parameter wants a stand-in -/
theorem fnWords_plain (f : FuncId) (fn : Func) (hf : Tryd.pinned.checked.prog.funcNamed Rows.fnWordsRow.func = some f) (hfn : Tryd.pinned.checked.prog.funcs[f]? = some fn) :
    true = Tryd.pinned.checked.prog.looks [] ∧ ∀ (j : Nat) t, fn.params[j]? = some t → Tryd.pinned.checked.prog.wantsStandIn t = false := by
  obtain rfl : f = 3 := Option.some.inj ((show Tryd.prog.funcNamed Rows.fnWordsRow.func = some 3 by kernel_rfl).symm.trans hf) |>.symm
  obtain rfl : fn = Tryd.f3 := (Option.some.inj (Tryd.func3.symm.trans hfn)).symm
  refine ⟨by kernel_rfl, fun j t ht => ?_⟩
  have hall : (Tryd.f3.params.toList.all fun t => !Tryd.prog.wantsStandIn t) = true := by kernel_rfl
  have := List.all_eq_true.1 hall t (by simpa using Array.mem_of_getElem? ht)
  rw [Bool.not_eq_true'] at this
  exact this

theorem fnWords_card : Rows.FnWordsCardSaid :=
  Claim7.holds_tied_plain_at .later [] _ _ _ _ fnWords_said (fun _ h => by cases h) (by kernel_rfl) (fun _ h => by cases h) fnWords_row_tie rfl ⟨rfl, rfl⟩ (by kernel_rfl) rfl fnWords_plain (by kernel_rfl)

end Go.Proofs.YtpocfbhbllphdaaDoor
