/- Texts put together. -/
import Derived.Test.YtcdchieielpahaaMgC18
import Derived.Test.YtcdchieielpahaaMgC5
import Derived.Test.YtcdchieielpahaaMgC13
import Derived.Test.YtcdchieielpahaaMgC16
import Derived.Test.YtcdchieielpahaaMgC10
import Derived.Laws.Cover1
import Derived.Deep.CutBlock
/- The start of a fixed point, of the model. Conditions: lengths of at most 2^20. -/
namespace Go.Proofs.Ytcdchieielpahaa
open Go.RowKit

section
variable {l : List ByteArray} {k : Nat} (hl : substB l = true) (hk : k < l.length) (hg : growB l k = true)
include hl hk hg
theorem fixL_head (i : Nat) : ∃ r, fixL l k (i + 1) = letterN k :: r ∧ r.length = i := by
  obtain ⟨r, e⟩ := iterL_head hl hk hg (i + 1)
  have h := fixL_length hl hk hg (i + 1)
  unfold fixL at h ⊢
  rw [e, List.take_succ_cons] at h ⊢
  exact ⟨_, rfl, by simpa using h⟩
/-- the images of the first i letters are more than i letters -/
theorem build_long (i : Nat) : i + 2 ≤ (applyL l (fixL l k (i + 1))).length := by
  obtain ⟨r, e, hr⟩ := fixL_head hl hk hg i
  obtain ⟨q, e2, h2⟩ := grow_img hl hk hg
  have hw : Within l r := by
    intro c hc
    refine iterL_within hl hk (i + 1) c ?_
    exact List.mem_of_mem_take (show c ∈ (iterL l [letterN k] (i + 1)).take (i + 1) from by
      show c ∈ fixL l k (i + 1)
      rw [e]; exact List.mem_cons_of_mem _ hc)
  have := apply_grows hl hw
  rw [e, show letterN k :: r = [letterN k] ++ r from rfl, applyL_app, e2, List.length_append]
  simp
  omega
omit hl hk hg in
theorem build_pre (i : Nat) : IsPre l k (applyL l (fixL l k i)) := pre_apply (fixL_pre l k i)
/-- one more letter, and its image -/
theorem build_step (i : Nat) : ∃ (h : i + 1 < (applyL l (fixL l k (i + 1))).length) (j : Nat) (hj : j < l.length), (applyL l (fixL l k (i + 1)))[i + 1].toNat = 97 + j ∧ applyL l (fixL l k (i + 2)) = applyL l (fixL l k (i + 1)) ++ l[j].data.toList := by
  have h1 := build_long hl hk hg i
  have h : i + 1 < (applyL l (fixL l k (i + 1))).length := by omega
  have hp := build_pre (l := l) (k := k) (i + 1)
  have e1 := pre_take hl hk hg hp (i + 1) (by omega)
  have e2 := pre_take hl hk hg hp (i + 2) (by omega)
  have hw : ∀ m, Within l (fixL l k m) := fun m c hc => iterL_within hl hk m c (List.mem_of_mem_take hc)
  have hw2 := hw (i + 2)
  have e0 : applyL l (fixL l k (i + 2)) = applyL l ((applyL l (fixL l k (i + 1))).take (i + 2)) := by rw [e2]
  rw [← e2] at hw2
  rw [e0]
  generalize hp' : applyL l (fixL l k (i + 1)) = p at h e1 hw2 ⊢
  have e3 : p.take (i + 2) = p.take (i + 1) ++ [p[i + 1]] := List.take_succ_eq_append_getElem h
  have hm : p[i + 1] ∈ p.take (i + 2) := by rw [e3]; exact List.mem_append_right _ (List.mem_singleton.2 rfl)
  obtain ⟨a, b⟩ := hw2 _ hm
  obtain ⟨j, hj⟩ : ∃ j, p[i + 1].toNat = 97 + j := ⟨p[i + 1].toNat - 97, by omega⟩
  have hjl : j < l.length := by omega
  refine ⟨h, j, hjl, hj, ?_⟩
  rw [e3, applyL_app, e1, hp']
  congr 1
  show imgOf l _ ++ [] = _
  rw [List.append_nil, imgOf_at l _ j hj hjl]
theorem build_one : applyL l (fixL l k 1) = l[k].data.toList := by
  have h4 := (subst_parts hl).2.1
  obtain ⟨r, e, hr⟩ := fixL_head hl hk hg 0
  have : r = [] := List.eq_nil_of_length_eq_zero hr
  subst this
  rw [e]
  show imgOf l (letterN k) ++ [] = _
  rw [imgOf_at l _ k (letterN_toNat k (by omega)) hk, List.append_nil]
theorem build_end (i n : Nat) (hn : n ≤ (applyL l (fixL l k i)).length) : (applyL l (fixL l k i)).take n = fixL l k n := pre_take hl hk hg (build_pre i) n hn
end
end Go.Proofs.Ytcdchieielpahaa

/- FixedPoint and IsFixedStart of the model. Conditions: lengths of at most 2^20. -/
namespace Go.Proofs.Ytcdchieielpahaa
open Go.RowKit

theorem fixR_no {l : List ByteArray} {t : ByteArray} {n : Int} (h : fixOk l t n = false) {w w' : World} (hb : Below w.heap.size w w') : PairSaid (fixR l t n) (fixOk l t n) w (.returned (.tuple #[.string ⟨#[]⟩, .bool false])) w' := by
  refine ⟨?_, hb⟩
  have e : fixR l t n = ⟨#[]⟩ := if_neg (by rw [h]; decide)
  rw [h, e]
theorem fixStart_eq {l : List ByteArray} {s : ByteArray} (h0 : 0 < s.size) : fixStart l s = (fixOk l (oneOf s) s.size && decide ((fixR l (oneOf s) s.size).toList = s.toList)) := by
  unfold fixStart
  rw [decide_eq_false (show ¬ s.size = 0 by omega), Bool.false_or]
  by_cases h : fixOk l (oneOf s) s.size = true
  · have e : fixR l (oneOf s) s.size = ⟨(fixL l (letN (oneOf s)) s.size).toArray⟩ := if_pos h
    rw [h, e, Bool.true_and, Bool.true_and, ByteArray.toList_eq, ByteArray.toList_eq]
  · rw [show fixOk l (oneOf s) s.size = false by simpa using h, Bool.false_and, Bool.false_and]
end Go.Proofs.Ytcdchieielpahaa

/- What SplitAny is to give. No program in it. -/
namespace Go.Proofs.Ytcdchieielpahaa
open Go.RowKit

def isSep (y : ByteArray) (c : UInt8) : Prop := ∃ i, ∃ h : i < y.size, y[i] = c
open Classical in
noncomputable def splitTo (s y : ByteArray) : Nat → List ByteArray × Nat
  | 0 => ([], 0)
  | k + 1 => if ∃ h : k < s.size, isSep y s[k] then ((splitTo s y k).1 ++ [s.extract (splitTo s y k).2 k], k + 1) else splitTo s y k
noncomputable def splitL (s y : ByteArray) : List ByteArray := (splitTo s y s.size).1 ++ [s.extract (splitTo s y s.size).2 s.size]
theorem splitTo_le (s y : ByteArray) : ∀ k, (splitTo s y k).1.length ≤ k ∧ (splitTo s y k).2 ≤ k
  | 0 => by simp [splitTo]
  | k + 1 => by
    have := splitTo_le s y k
    unfold splitTo
    split
    · simp; omega
    · omega
theorem splitTo_yes {s y : ByteArray} {k : Nat} (h : k < s.size) (hs : isSep y s[k]) : splitTo s y (k + 1) = ((splitTo s y k).1 ++ [s.extract (splitTo s y k).2 k], k + 1) := by
  rw [splitTo, if_pos ⟨h, hs⟩]
theorem splitTo_no {s y : ByteArray} {k : Nat} (h : k < s.size) (hs : ¬ isSep y s[k]) : splitTo s y (k + 1) = splitTo s y k := by
  rw [splitTo, if_neg (fun ⟨_, h2⟩ => hs h2)]
theorem splitTo_small (s y : ByteArray) : ∀ k, ∀ x ∈ (splitTo s y k).1, x.size ≤ s.size
  | 0 => by simp [splitTo]
  | k + 1 => by
    intro x hx
    unfold splitTo at hx
    split at hx
    · rcases List.mem_append.1 hx with hx | hx
      · exact splitTo_small s y k x hx
      · simp only [List.mem_singleton] at hx
        subst hx
        rw [ByteArray.size_extract]
        omega
    · exact splitTo_small s y k x hx
theorem splitL_small (s y : ByteArray) : ∀ x ∈ splitL s y, x.size ≤ s.size := by
  intro x hx
  unfold splitL at hx
  rcases List.mem_append.1 hx with hx | hx
  · exact splitTo_small s y _ x hx
  · simp only [List.mem_singleton] at hx
    subst hx
    rw [ByteArray.size_extract]
    omega
theorem splitL_length (s y : ByteArray) : (splitL s y).length ≤ s.size + 1 := by
  unfold splitL
  have := (splitTo_le s y s.size).1
  simp
  omega
theorem strs_one (l : List ByteArray) : ∀ u ∈ strs l, u.oneCell' = true := by
  intro u hu
  obtain ⟨_, _, rfl⟩ := List.mem_map.1 hu
  rfl
end Go.Proofs.Ytcdchieielpahaa

/- The factors of a fixed point, of the model. Conditions: lengths of at most 2^20. -/
namespace Go.Proofs.Ytcdchieielpahaa
open Go.RowKit

theorem own_str_at {w : World} {B g cp n : Nat} {m : List ByteArray} (h : w.ownsRow B 9 1 (.slice (some ⟨g, 0, none⟩) n cp) n (strs m)) (k : Nat) (hk : k < m.length) : w.cell? ⟨g, k, none⟩ = some (.string m[k]) := by
  have := h.cells (g := g) rfl k (.string m[k]) (by simp [strs, hk])
  rwa [Addr.add_lit, Nat.zero_add] at this
end Go.Proofs.Ytcdchieielpahaa
