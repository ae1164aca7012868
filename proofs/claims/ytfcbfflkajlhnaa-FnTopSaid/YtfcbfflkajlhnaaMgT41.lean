/- Texts put together. -/
import Derived.Test.YtfcbfflkajlhnaaMgT1
import Derived.Test.YtfcbfflkajlhnaaMgT13
import Derived.Test.YtfcbfflkajlhnaaMgT14
import Derived.Test.YtfcbfflkajlhnaaMgT16
import Derived.Test.YtfcbfflkajlhnaaMgT21
import Derived.Test.YtfcbfflkajlhnaaMgT22
import Derived.Test.YtfcbfflkajlhnaaMgT27
import Derived.Test.YtfcbfflkajlhnaaMgT26
import Derived.Test.YtfcbfflkajlhnaaMgT24
import Derived.Test.YtfcbfflkajlhnaaMgT31
import Derived.Test.YtfcbfflkajlhnaaMgT32
import Derived.Test.YtfcbfflkajlhnaaMgT35
import Derived.Test.YtfcbfflkajlhnaaMgT36
import Derived.Test.YtfcbfflkajlhnaaMgT37
import Derived.Test.YtfcbfflkajlhnaaMgT40
import Derived.Deep.DeepCutAuto
import Derived.Deep.CutBlock
import Derived.Deep.LoopGhost
import Derived.Deep.QuietTactic
import Derived.BigQuiet
/- FnTop's last statement. Conditions: the substitution is valid, a is growing. -/
namespace Go.Proofs.Ytfcbfflkajlhnaa
open Go.ChangeShapes Go.WideShapes Go.ChangeAt Go.RowKit

theorem sub_smallT {l : List ByteArray} (hl : substB l = true) : ∀ x ∈ l, x.size ≤ 1048576 := fun x hx => by
  obtain ⟨k, hk, rfl⟩ := List.mem_iff_getElem.1 hx
  have := (img_parts ((subst_parts hl).2.2 k hk)).2.1
  omega

/-- the region of that number -/
def regionOf (n : Nat) : Code → Option Code
  | .region id ops d => if id = n then some (.region id ops d) else none
  | .seq a b => match regionOf n a with
    | some c => some c
    | none => regionOf n b
  | .block _ c => regionOf n c
  | .loop c => regionOf n c
  | .scope c => regionOf n c
  | .cond _ a b => match regionOf n a with
    | some c => some c
    | none => regionOf n b
  | _ => none
noncomputable def topLast : Code := ((Try.f3.body.bind (regionOf 38)).getD .skip)

set_option maxHeartbeats 4000000 in
set_option maxRecDepth 1000000 in
theorem topLast_walk (l : List ByteArray) (A : Option Addr) (cp pb : Nat) (W wg : World) (hsb : substB l = true) (hgr : growB l 0 = true) (hs0 : Lst W (.slice A l.length cp) (strs l)) (c0 : W.cell? ⟨pb, 0, none⟩ = some (.slice A l.length cp)) (hz0 : pb < W.heap.size) (hbg : Below W.heap.size W wg)
    (K : Act → World → Prop) (Q : Exit → Act → World → Prop) (hK : ∀ (a : Act) (w' : World), a.defers = [] → a.tmps[2]? = some (.bool true) → Below W.heap.size W w' → K a w')
    (u0 u1 u2 u4 u5 u6 u7 u8 u9 u10 u11 u12 u13 u14 u15 u16 u17 u18 u19 u20 u21 u22 u24 u25 u26 u27 u28 u29 u30 u31 u32 u33 u34 u35 u36 u37 u38 u39 u40 u41 u42 u43 u44 u45 u46 u47 u48 u49 u50 u51 u52 u53 u54 u55 u56 u57 u58 u59 u60 u61 u62 u63 u64 u65 u66 u67 u68 u69 u70 u71 u72 u73 u74 u75 u76 u77 u78 u79 u80 u81 u82 u83 u84 u85 u86 u87 u88 u89 u90 u91 u92 u93 u94 u95 u96 u97 u98 u99 u100 u101 u102 u103 u104 u105 u106 u107 u108 u109 u110 u111 u112 u113 u114 u115 u116 u117 u118 u119 u120 u121 u122 u123 u124 u125 u126 u127 u128 u129 u130 u131 u132 u133 u134 u135 u136 u137 u138 u139 u140 u141 u142 u143 u144 u145 u146 u147 u148 u149 u150 u151 u152 u153 u154 u155 u156 u157 u158 u159 u160 u161 u162 u163 u164 u165 u166 u167 u168 u169 u170 u171 u172 u173 u174 u175 u176 u177 u178 u179 u180 u181 u182 u183 u184 u185 u186 u187 u188 u189 u190 u191 u192 u193 u194 u195 u196 u197 u198 u199 u200 u201 u202 u203 u204 u205 u206 u207 u208 u209 u210 u211 u212 u213 u214 u215 u216 u217 u218 u219 u220 u221 u222 u223 u224 u225 u226 u227 u228 u229 u230 u231 u232 u233 u234 u235 u236 u237 u238 u239 u240 u241 u242 u243 u244 u245 u246 u247 u248 u249 u250 u251 u252 u253 u254 u255 u256 u257 : Value) :
    Code.wp Try.prog topLast (Exit.then K Q) { tmps := #[u0, u1, u2, .pointer (some ⟨pb, 0, none⟩), u4, u5, u6, u7, u8, u9, u10, u11, u12, u13, u14, u15, u16, u17, u18, u19, u20, u21, u22, .string (growR l), u24, u25, u26, u27, u28, u29, u30, u31, u32, u33, u34, u35, u36, u37, u38, u39, u40, u41, u42, u43, u44, u45, u46, u47, u48, u49, u50, u51, u52, u53, u54, u55, u56, u57, u58, u59, u60, u61, u62, u63, u64, u65, u66, u67, u68, u69, u70, u71, u72, u73, u74, u75, u76, u77, u78, u79, u80, u81, u82, u83, u84, u85, u86, u87, u88, u89, u90, u91, u92, u93, u94, u95, u96, u97, u98, u99, u100, u101, u102, u103, u104, u105, u106, u107, u108, u109, u110, u111, u112, u113, u114, u115, u116, u117, u118, u119, u120, u121, u122, u123, u124, u125, u126, u127, u128, u129, u130, u131, u132, u133, u134, u135, u136, u137, u138, u139, u140, u141, u142, u143, u144, u145, u146, u147, u148, u149, u150, u151, u152, u153, u154, u155, u156, u157, u158, u159, u160, u161, u162, u163, u164, u165, u166, u167, u168, u169, u170, u171, u172, u173, u174, u175, u176, u177, u178, u179, u180, u181, u182, u183, u184, u185, u186, u187, u188, u189, u190, u191, u192, u193, u194, u195, u196, u197, u198, u199, u200, u201, u202, u203, u204, u205, u206, u207, u208, u209, u210, u211, u212, u213, u214, u215, u216, u217, u218, u219, u220, u221, u222, u223, u224, u225, u226, u227, u228, u229, u230, u231, u232, u233, u234, u235, u236, u237, u238, u239, u240, u241, u242, u243, u244, u245, u246, u247, u248, u249, u250, u251, u252, u253, u254, u255, u256, u257], defers := [] } wg := by
  refine wp_calm ?_
  conv => arg 2; whnf
  have HL := Lib.hid hsb
  have HG := Lib.hid hgr
  have HZ := Lib.hid (sub_smallT hsb)
  have HS0 := Lib.hid hs0
  have HBG := Lib.hid hbg
  have HK := Lib.hid hK
  obtain ⟨hl1, hl4, _⟩ := subst_parts hsb
  have hln : l.length ≤ 1048576 := by omega
  clear hsb hgr hs0 hbg hK
  have HS1 : Hid ((⟨#[97]⟩ : ByteArray).data.toList <+: (growR l).data.toList) := top_growR HL.out HG.out
  have HS2 : Hid ((⟨#[97]⟩ : ByteArray).data.toList <+: (⟨#[97]⟩ : ByteArray).data.toList) := List.prefix_refl _
  have HPW := Lib.hid (top_pow HL.out HG.out)
  have HOR : Hid (orbR l ⟨#[97]⟩ = ⟨#[97]⟩) := top_orb HL.out HG.out
  have HF3 : Hid (facR l ⟨#[97]⟩ 3 = facTo (fxS l 400) 3 398) := top_fac HL.out HG.out (n := 3) (by omega) (by omega)
  have HF1 : Hid (facR l ⟨#[97]⟩ 1 = facTo (fxS l 400) 1 400) := top_fac HL.out HG.out (n := 1) (by omega) (by omega)
  have h400 := fxS_size HL.out HG.out 400
  have HC1 : Hid (fctR (fxS l 400) 1 = facTo (fxS l 400) 1 400) := by
    have e : fctOk (fxS l 400) 1 = true := by
      unfold fctOk
      rw [top_word HL.out HG.out (Nat.le_refl _)]
      rfl
    have e2 : fctR (fxS l 400) 1 = fctL (fxS l 400) 1 := if_pos e
    show fctR (fxS l 400) 1 = _
    rw [e2]
    unfold fctL
    rw [h400]
  have hl3 : (facTo (fxS l 400) 3 398).length ≤ 1048576 := by have := facTo_few (fxS l 400) 3 398; omega
  have HA3 := Lib.hid (facTo_asc (fxS l 400) 3 398)
  have HML := Lib.hid (fun w h => makeLongC l (.slice A l.length cp) 400 w h HL.out HG.out (Nat.le_refl _))
  have HZZ : Hid ((fxS l 400).size ≤ 1048576) := by show _ ≤ _; omega
  clear h400
  generalize fxS l 400 = fs at HF3 HF1 HC1 hl3 HA3 HML HZZ
  generalize facTo fs 3 398 = f3 at HF3 hl3 HA3
  generalize facTo fs 1 400 = f1 at HF1 HC1
  replace HBG : Hid (Below W.heap.size W wg.drew) := HBG.out.drew
  have cd : wg.drew.cell? ⟨pb, 0, none⟩ = some (.slice A l.length cp) := (HBG.out.cell (p := ⟨pb, 0, none⟩) hz0).trans c0
  go_region_with (first
    | (go_at_call 21; refine (startsC _ _ (by first | exact HS1.out | exact HS2.out) _).mono ?_; rintro e w' ⟨rfl, rfl⟩)
    | (go_at_call 29
       refine (implPowerNeeded l _ _ (HS0.out.below HBG.out) HZ.out hln).mono ?_
       rintro e wn ⟨rfl, hb⟩
       rw [HPW.out]
       replace HBG : Hid (Below W.heap.size W wn) := HBG.out.trans (hb.mono HBG.out.size)
       have cn : wn.cell? ⟨pb, 0, none⟩ = some (.slice A l.length cp) := (HBG.out.cell (p := ⟨pb, 0, none⟩) hz0).trans c0
       clear hb)
    | (go_at_call 30
       refine (implOrbitOfFirst l _ ⟨#[97]⟩ _ (HS0.out.below HBG.out) HZ.out hln (by decide)).mono ?_
       rintro e wn ⟨rfl, hb⟩
       rw [HOR.out]
       replace HBG : Hid (Below W.heap.size W wn) := HBG.out.trans (hb.mono HBG.out.size)
       have cn : wn.cell? ⟨pb, 0, none⟩ = some (.slice A l.length cp) := (HBG.out.cell (p := ⟨pb, 0, none⟩) hz0).trans c0
       clear hb)
    | (go_at_call 32
       refine (implFixedFactors l _ ⟨#[97]⟩ _ _ (HS0.out.below HBG.out) HZ.out hln (by decide)).mono ?_
       rintro e wn ⟨vf, rfl, hof, hb⟩
       first | rw [HF3.out] at hof | rw [HF1.out] at hof
       obtain ⟨Af, cpf, rfl⟩ := own_slice hof
       have HFF := Lib.hid (Lst.of_own hof)
       replace HBG : Hid (Below W.heap.size W wn) := HBG.out.trans (hb.mono HBG.out.size)
       have cn : wn.cell? ⟨pb, 0, none⟩ = some (.slice A l.length cp) := (HBG.out.cell (p := ⟨pb, 0, none⟩) hz0).trans c0
       clear hb hof)
    | (go_at_call 31
       refine (risingC f3 _ _ HFF.out HA3.out hl3).mono ?_
       rintro e wn ⟨rfl, hb⟩
       replace HBG : Hid (Below W.heap.size W wn) := HBG.out.trans (hb.mono HBG.out.size)
       have cn : wn.cell? ⟨pb, 0, none⟩ = some (.slice A l.length cp) := (HBG.out.cell (p := ⟨pb, 0, none⟩) hz0).trans c0
       clear hb)
    | (go_at_call 34
       refine (HML.out _ (HS0.out.below HBG.out)).mono ?_
       rintro e wn ⟨rfl, hb⟩
       replace HBG : Hid (Below W.heap.size W wn) := HBG.out.trans (hb.mono HBG.out.size)
       have cn : wn.cell? ⟨pb, 0, none⟩ = some (.slice A l.length cp) := (HBG.out.cell (p := ⟨pb, 0, none⟩) hz0).trans c0
       clear hb)
    | (go_at_call 33
       refine (implFactorsOf fs 1 _ HZZ.out).mono ?_
       rintro e wn ⟨vc, rfl, hof, hb⟩
       rw [HC1.out] at hof
       obtain ⟨Ac2, cpc, rfl⟩ := own_slice hof
       replace HBG : Hid (Below W.heap.size W wn) := HBG.out.trans (hb.mono HBG.out.size)
       have cn : wn.cell? ⟨pb, 0, none⟩ = some (.slice A l.length cp) := (HBG.out.cell (p := ⟨pb, 0, none⟩) hz0).trans c0
       clear hb hof))
  all_goals exact HK.out _ _ rfl rfl HBG.out
end Go.Proofs.Ytfcbfflkajlhnaa
