/- Texts put together. -/
import Derived.Test.YtiikledbflgejaaMgC36
import Derived.Test.YtiikledbflgejaaMgC12
/- The laws' helpers over rows of numbers, in company. -/
namespace Go.Proofs.Ytiikledbflgejaa
open Go.Conc Go.RowKit Go.Lib

/-- 'KeepsOut', on whatever tape -/
def KO (lo hi : Nat) (W w : World) : Prop := KeepsOut lo hi W (tp w W.tape w.drawn)
theorem Bl.keeps {N lo hi : Nat} {A w w' : World} (h : Bl N A w) (k : KO lo hi w w') (hN : N ≤ w.heap.size) (hl : N ≤ lo) : Bl N A w' :=
  ⟨k.1.trans h.os, rfl, k.2.2.1.trans h.output, Nat.le_trans h.size k.2.2.2.1, fun i hi => (k.2.2.2.2 i (by show i < w.heap.size; omega) (.inl (by omega))).trans (h.block i hi)⟩
theorem Lst.bl {w w' : World} {v : Value} {xs : List Value} (h : Lst w v xs) (hb : Bl w.heap.size w w') : Lst w' v xs := Lst.below (w' := tp w' w.tape w'.drawn) h hb
theorem own_bl {w w' : World} {B s : Nat} {e : TypeId} {v : Value} {n : Nat} {xs : List Value} (h : w.ownsRow B e s v n xs) (hb : Bl w.heap.size w w') : w'.ownsRow B e s v n xs := own_below (w' := tp w' w.tape w'.drawn) h hb

section
variable {P : Program} {Fin : Goroutine → World → Prop} {b : Frame} {a : Act} {k : List Item} {cs : List Frame} {w : World}
theorem Can.region {id : Nat} {ops : Array Oper} {l : List Nat} (hl : List.range ops.size = l) (h : Can P Fin (G (b.at a (.inRegion ops l :: k)) cs) w) : Can P Fin (G (b.at a (.code (.region id ops false) :: k)) cs) w := by
  subst hl
  exact Can.silent rfl (fun _ => stepG_region) h
theorem Can.regionEnd {ops : Array Oper} (h : Can P Fin (G (b.at a k) cs) w) : Can P Fin (G (b.at a (.inRegion ops [] :: k)) cs) w := Can.silent rfl (fun _ => stepG_region_end) h
theorem Can.seq {x y : Code} (h : Can P Fin (G (b.at a (.code x :: .code y :: k)) cs) w) : Can P Fin (G (b.at a (.code (.seq x y) :: k)) cs) w := Can.silent rfl (fun _ => stepG_seq) h
theorem Can.skip (h : Can P Fin (G (b.at a k) cs) w) : Can P Fin (G (b.at a (.code .skip :: k)) cs) w := Can.silent rfl (fun _ => stepG_skip) h
theorem Can.condF {c : Operand} {x : Code} {t : Bool} (hc : a.eval c = .bool t) (ht : t = false) (h : Can P Fin (G (b.at a k) cs) w) : Can P Fin (G (b.at a (.code (.cond c x .skip) :: k)) cs) w := by
  subst ht
  exact Can.silent rfl (fun _ => stepG_cond hc) (Can.skip h)
end
end Go.Proofs.Ytiikledbflgejaa
