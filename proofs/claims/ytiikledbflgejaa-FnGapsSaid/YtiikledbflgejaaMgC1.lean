/- Texts put together. -/
import Derived.WalkKit
import Derived.ProofKit
import Derived.OpenShut
import Derived.Carry
import Derived.Lib.Hide
import Derived.Deep.Draws
import Derived.Test.YtiikledbflgejaaRows
/- What every law's row has in common: from 'the call returns true and nothing old has turned' to the row. No condition. -/
namespace Go.Proofs.Ytiikledbflgejaa
open Go.ChangeShapes Go.WideShapes Go.ChangeAt Go.RowKit

theorem ret_bool {a b : Bool} (h : a = b) : Ending.returned (.bool a) = .returned (.bool b) := by rw [h]
theorem ret_str {a b : ByteArray} (h : a = b) : Ending.returned (.string a) = .returned (.string b) := by rw [h]
theorem ret_int {a b : Int} (h : a = b) : Ending.returned (.int .i64 a) = .returned (.int .i64 b) := by rw [h]
theorem below_drewN {B : Nat} {a w : World} (h : Below B a w) (n : Nat) : Below B a (w.drewN n) := ⟨h.os, h.tape, h.output, h.size, h.block⟩

/-- a one-byte slice turned into a string -/
theorem run_conv_at {P : Program} (w : World) (src dst e : TypeId) (hs : P.underlying src = some (.slice e)) (he : P.underlying e = some (.int .u8)) (hd : P.underlying dst = some .string) (g : Nat) (b : Int) (hc : w.cell? ⟨g, 0, none⟩ = some (.int .u8 b)) :
    (convert src dst (.slice (some ⟨g, 0, none⟩) 1 1)).run P w = .ok (.string ⟨[UInt8.ofNat b.toNat].toArray⟩) w := by
  rw [run_convert_bytes_string _ src dst e _ _ _ hs he hd, run_bytesToString _ _ _ _ [b] ?_]
  · rfl
  · simp [loadCells, go_sem, hc]
/-- a new one-byte slice turned into a string -/
theorem run_conv1 {P : Program} (w : World) (src dst e : TypeId) (hs : P.underlying src = some (.slice e)) (he : P.underlying e = some (.int .u8)) (hd : P.underlying dst = some .string) (b : Int) :
    (convert src dst (.slice (some ⟨w.heap.size, 0, none⟩) 1 1)).run P (w.alloc (.cells #[.int .u8 b] e)) = .ok (.string ⟨[UInt8.ofNat b.toNat].toArray⟩) (w.alloc (.cells #[.int .u8 b] e)) :=
  run_conv_at _ src dst e hs he hd _ b (by rw [World.cell?_alloc_at _ _ _ _ rfl]; rfl)

theorem bytes_ext {a b : ByteArray} (h : a.toList = b.toList) : a = b := by
  rw [ByteArray.toList_eq, ByteArray.toList_eq] at h
  exact ByteArray.ext (Array.toList_inj.1 h)

theorem wf_bounds {n : Int} (h : (Lit.int .i64 n).wf = true) : -9223372036854775808 ≤ n ∧ n ≤ 9223372036854775807 := by
  simp [Lit.wf, IntKind.min, IntKind.max, IntKind.signed, IntKind.bits] at h
  exact h

theorem own_drewN {w : World} {B : Nat} {e : TypeId} {size : Nat} {v : Value} {n : Nat} {xs : List Value} (h : w.ownsRow B e size v n xs) (k : Nat) : (w.drewN k).ownsRow B e size v n xs := h

theorem below_iter (w : World) (s : ByteArray) (k : Nat) : Below w.heap.size w (w.iter s k) := (Below.refl _ _).alloc (Nat.le_refl _) _

/-- append of one element: the walk has just laid the new element into a block of its own. -/
theorem wpList_append1 {P : Program} (w : World) {ops : Array Oper} {rest : List Oper} {o : Oper} {a : Act} {Q : Exit → Act → World → Prop} (hgd : o.guard = none) (s x : Operand) (t : TypeId)
    (ho : o.op = .call { callee := .builtin .append, args := #[s, x], argTypes := #[t, t] })
    (base : Nat) (e : TypeId) (i : TypeInfo) (z : Value) (bytes : Nat) (ht : P.underlying t = some (.slice e)) (hi : P.info? e = some i) (hz : i.zero = some z)
    (hsize : i.size = 1) (hby : i.bytes = bytes) (hzs : z.cells.size = 1)
    (v : Value) (n : Nat) (xs : List Value) (hs : a.eval s = v) (hown : w.ownsRow base e 1 v n xs)
    (y : Value) (hy : y.oneCell' = true) (hx : a.eval x = .slice (some ⟨w.heap.size, 0, none⟩) 1 1)
    (h63 : n + 1 ≤ maxLen) (hbytes : (n + 1) * bytes ≤ 140737488355328) (hbase : base ≤ w.heap.size)
    (h : ∀ v' w', w'.ownsRow base e 1 v' (n + 1) (xs ++ [y]) → Below base w w' → wpList P ops Q rest (a.put o.dst v') w') :
    wpList P ops Q (o :: rest) a (w.alloc (.cells #[y] e)) := by
  refine wpList_append_own _ hgd s x t ho base e i z 1 bytes ht hi hz hsize hby hzs (by decide) v n xs hs (hown.alloc _) ⟨w.heap.size, 0, none⟩ 1 1 [y] hx rfl ?_ ?_ h63 hbytes (by simp; omega) ?_
  · intro j u hu
    rcases j with _ | j
    · simp at hu
      subst hu
      rw [Addr.add_lit, World.cell?_alloc_at _ _ _ _ (by simp)]
      rfl
    · simp at hu
  · intro u hu
    simp at hu
    subst hu
    exact hy
  · intro v' w' h1 h2 _
    refine h v' w' h1 ?_
    have hb : Below base w (w.alloc (.cells #[y] e)) := (Below.refl _ _).alloc hbase _
    exact hb.grown h2 (by simp; omega) (fun k hk => (hown.lt k hk).1)

section
variable {H : Type} {enc : TypeId × Value → H} {P : Program}

/-- The arguments' reading, in a world in which nothing old has turned. -/
theorem trodAll_later (hl : laidOutB P = true) {W W' : World} (hb : Below W.heap.size W W') {sp : Nat → Bool} :
    ∀ (ts : List TypeId) (vs : List Value) (ds : List (DataW H)) (ps : List MemPlace), (∀ t ∈ ts, P.readableRec t = true ∧ t < P.types.size) →
      DataW.TrodAll enc P W 0 (fun _ => true) true ts vs ds ps → (∀ x ∈ ps, x.block < W.heap.size) → (∀ x ∈ ps, sp x.block = true) → DataW.TrodAll enc P W' 0 sp true ts vs ds ps
  | [], vs, ds, ps, _, h, _, _ => by
    obtain ⟨rfl, rfl, rfl⟩ := trodAll_nil h
    rfl
  | t :: ts, vs, ds, ps, hr, h, hlt, hsp => by
    obtain ⟨v, vs', d, ds', p, q, rfl, rfl, rfl, hd, hrest⟩ := trodAll_cons h
    refine ⟨p, q, ?_, ?_, rfl⟩
    · exact WideElems.Trod_stays hl (hr t (List.mem_cons_self ..)).1 (hr t (List.mem_cons_self ..)).2 hd (fun x hx => hb.same (hlt x (List.mem_append_left _ hx))) (fun x hx => hsp x (List.mem_append_left _ hx))
    · exact trodAll_later hl hb ts vs' ds' q (fun u hu => hr u (List.mem_cons_of_mem _ hu)) hrest (fun x hx => hlt x (List.mem_append_right _ hx)) (fun x hx => hsp x (List.mem_append_right _ hx))

theorem trodAll_length {w : World} {base : Nat} {sp : Nat → Bool} {held : Bool} : ∀ {ts : List TypeId} {vs : List Value} {ds : List (DataW H)} {ps : List MemPlace}, DataW.TrodAll enc P w base sp held ts vs ds ps → ds.length = ts.length
  | [], _, _, _, h => by
    obtain ⟨_, rfl, _⟩ := trodAll_nil h
    rfl
  | _ :: _, _, _, _, h => by
    obtain ⟨_, _, _, ds', _, q, _, rfl, _, _, hr⟩ := trodAll_cons h
    simp [trodAll_length hr]

/-- A law's post: it returned true, nothing old has turned. -/
theorem lawPost {f : Func} {s : ChangeSpec} {W W' : World} {args : Array Value} {ds gs : List (DataW H)} {before : List MemPlace} {tb : TypeId}
    (hl : laidOutB P = true) (hts : ∀ t ∈ f.params.toList, P.readableRec t = true ∧ t < P.types.size) (hres : f.resultTypes = #[tb]) (htb : P.underlying tb = some .bool)
    (hsv : s.vars = []) (hsp : s.fn H (ds ++ gs) = { results := [.lit (.bool true)], args := ds })
    (hW : DataW.Whole enc P f.params.toList s.vars false W args.toList ds gs before) (hb : Below W.heap.size W W') :
    s.post enc P f false true false false W args (.bool true) W' := by
  have hlt : ∀ p ∈ before, p.block < W.heap.size := fun p hp => hW.lt p hp
  have hW0 := hW
  obtain ⟨p, q, hA, hV, rfl, _, _⟩ := hW
  rw [hsv] at hV
  obtain ⟨rfl, rfl⟩ := trodVars_none hV
  simp only [List.append_nil] at hW0 hlt hsp ⊢
  refine ⟨ds, [], p, [], p, [], hW0, ?_, ?_, ?_, ?_, fun h => by cases h⟩
  · rw [List.append_nil, hsp, hres]
    exact trodAll_mk1 (shut_bool htb true)
  · rw [List.append_nil, hsp]
    exact trodAll_later hl hb _ _ _ _ hts hA hlt (fun x hx => by simpa using hlt x hx)
  · rw [List.append_nil, hsp, hsv]
    rfl
  · exact World.keptBut_mono (fun x hx => ⟨hx, .inr (.inl hx)⟩) (hb.frame (· ∈ p))

/-- The row's step for a law whose row has no condition and lists no variable. -/
theorem lawLifted {C : Checked} {os : Os} {f : FuncId} {fn : Func} {s : ChangeSpec} {tb : TypeId}
    (own : ownKnob C.prog.godebug = none) (started : os.Started) (noInit : C.prog.inits.idxOf? f = none) (hfn : C.prog.funcs[f]? = some fn)
    (hl : laidOutB C.prog = true) (hts : fn.params.toList.all (fun t => C.prog.readableRec t && decide (t < C.prog.types.size)) = true) (hres : fn.resultTypes = #[tb]) (htb : C.prog.underlying tb = some .bool)
    (hsv : s.vars = []) (hsp : ∀ ds : List (DataW H), ds.length = fn.params.size → s.fn H ds = { results := [.lit (.bool true)], args := ds })
    (witness : ∃ (w : World) (tape : Tape) (i : Input), w.os = os ∧ (w.forCall tape i).Shaped C.prog ∧ i.vars = [] ∧ Input.okWide C.prog (w.forCall tape i) .any w.heap.size f i ∧
      s.pre6 enc C.prog fn [] false (w.forCall tape i).memory i.args ∧ ({} : Assume).holds C.prog (lone (Frame.enter C.prog f i.args .normal) [] (w.forCall tape i)))
    (walk : ∀ (W : World) (base : Nat) (args : Array Value) (ds : List (DataW H)) (p : List MemPlace),
      (∀ (j : Nat) t v, fn.params[j]? = some t → args[j]? = some v → Value.okWide C.prog W .any base t v) →
      DataW.TrodAll enc C.prog W 0 (fun _ => true) true fn.params.toList args.toList ds p → (∀ x ∈ p, x.block < W.heap.size) →
      Calls C.prog f args W fun e W' => e = .returned (.bool true) ∧ Below W.heap.size W W') :
    ReturnsInHanded {} C os f .any (s.pre6 enc C.prog fn [] false) (s.post enc C.prog fn false true false false) := by
  refine returnsInHanded_of_change own started noInit hfn witness ?_
  intro W base args ds gs before hval hW _ _
  have hW' := hW
  obtain ⟨p, q, hA, hV, rfl, _, _⟩ := hW
  rw [hsv] at hV
  obtain ⟨rfl, rfl⟩ := trodVars_none hV
  have hlen : ds.length = fn.params.size := by
    have h2 : ∀ (ts : List TypeId) (vs : List Value) (ds : List (DataW H)) (ps : List MemPlace), DataW.TrodAll enc C.prog W 0 (fun _ => true) true ts vs ds ps → ds.length = ts.length := by
      intro ts
      induction ts with
      | nil => intro vs ds ps h; obtain ⟨_, rfl, _⟩ := trodAll_nil h; rfl
      | cons t ts ih => intro vs ds ps h; obtain ⟨_, _, _, ds', _, q, _, rfl, _, _, hr⟩ := trodAll_cons h; simp [ih _ _ _ hr]
    simpa using h2 _ _ _ _ hA
  refine (walk W base args ds p hval hA (fun x hx => hW'.lt x (by simpa using hx))).mono fun e W' ⟨he, hb⟩ => ⟨_, he, ?_⟩
  refine lawPost hl (fun t ht => ?_) hres htb hsv (by rw [List.append_nil]; exact hsp ds hlen) hW' hb
  have := List.all_eq_true.1 hts t ht
  simpa using this
end
end Go.Proofs.Ytiikledbflgejaa

/- Two closed facts on the program that every row asks for. -/
namespace Go.Proofs.Ytiikledbflgejaa
theorem ownKnobs : ownKnob Try.prog.godebug = none := by kernel_rfl
theorem laidOut : laidOutB Try.prog = true := by kernel_rfl
end Go.Proofs.Ytiikledbflgejaa

/- The mathematics of balance: a word that is not balanced has a palindrome that parts it; slopes; mechanical words. No program in it. -/
namespace Go.Proofs.Ytiikledbflgejaa

/-- how many of the n letters from i on are b -/
def cbN (x : Nat → Bool) (i : Nat) : Nat → Nat
  | 0 => 0
  | n + 1 => cbN x i n + (x (i + n)).toNat
theorem cb_split (x : Nat → Bool) (i m : Nat) : ∀ n, cbN x i (m + n) = cbN x i m + cbN x (i + m) n
  | 0 => rfl
  | n + 1 => by
    show cbN x i (m + n) + (x (i + (m + n))).toNat = cbN x i m + (cbN x (i + m) n + (x (i + m + n)).toNat)
    rw [cb_split x i m n, Nat.add_assoc, Nat.add_assoc]
theorem cb_cons (x : Nat → Bool) (i n : Nat) : cbN x i (n + 1) = (x i).toNat + cbN x (i + 1) n := by
  rw [Nat.add_comm n 1, cb_split]
  show 0 + (x (i + 0)).toNat + _ = _
  rw [Nat.zero_add, Nat.add_zero]
theorem cb_le (x : Nat → Bool) (i : Nat) : ∀ n, cbN x i n ≤ n
  | 0 => Nat.le_refl _
  | n + 1 => by
    have := cb_le x i n
    have : (x (i + n)).toNat ≤ 1 := Bool.toNat_le _
    show cbN x i n + _ ≤ _
    omega
theorem cb_same {x : Nat → Bool} {i j : Nat} : ∀ n, (∀ r, r < n → x (i + r) = x (j + r)) → cbN x i n = cbN x j n
  | 0, _ => rfl
  | n + 1, h => by
    show cbN x i n + _ = cbN x j n + _
    rw [cb_same n (fun r hr => h r (by omega)), h n (by omega)]
theorem cb_turn {x : Nat → Bool} : ∀ (k p q : Nat), (∀ r, r < k → x (p + r) = x (q + (k - 1 - r))) → cbN x p k = cbN x q k
  | 0, _, _, _ => rfl
  | k + 1, p, q, h => by
    rw [cb_cons x q k]
    show cbN x p k + (x (p + k)).toNat = _
    have h0 := h k (by omega)
    rw [show q + (k + 1 - 1 - k) = q by omega] at h0
    rw [h0, cb_turn k p (q + 1) (fun r hr => by
      have := h r (by omega)
      rwa [show q + (k + 1 - 1 - r) = q + 1 + (k - 1 - r) by omega] at this)]
    omega
/-- the least one -/
theorem least_one {P : Nat → Prop} (h : ∃ n, P n) : ∃ n, P n ∧ ∀ m, m < n → ¬ P m := by
  obtain ⟨n, hn⟩ := h
  induction n using Nat.strongRecOn with
  | ind n ih =>
    by_cases hm : ∃ m, m < n ∧ P m
    · obtain ⟨m, h1, h2⟩ := hm
      exact ih m h1 h2
    · exact ⟨n, hn, fun m h1 h2 => hm ⟨m, h1, h2⟩⟩

/-- two factors of n letters whose numbers of letters b differ by 2 and more -/
def UnbAt (x : Nat → Bool) (N n : Nat) : Prop := ∃ i j, i + n ≤ N ∧ j + n ≤ N ∧ cbN x j n + 2 ≤ cbN x i n
def BalAt (x : Nat → Bool) (N : Nat) : Prop := ∀ n i j, i + n ≤ N → j + n ≤ N → cbN x i n ≤ cbN x j n + 1
theorem bal_unb {x : Nat → Bool} {N : Nat} : BalAt x N ↔ ∀ n, ¬ UnbAt x N n := by
  constructor
  · rintro h n ⟨i, j, a, b, c⟩
    have := h n i j a b
    omega
  · intro h n i j a b
    have : ¬ cbN x j n + 2 ≤ cbN x i n := fun e => h n ⟨i, j, a, b, e⟩
    omega
/-- a palindrome of m letters, at i + 1 between two letters b and at j + 1 between two letters a -/
def PartAt (x : Nat → Bool) (N m : Nat) : Prop := ∃ i j, i + m + 2 ≤ N ∧ j + m + 2 ≤ N ∧ x i = true ∧ x (i + m + 1) = true ∧ x j = false ∧ x (j + m + 1) = false ∧ (∀ k, k < m → x (i + 1 + k) = x (j + 1 + k)) ∧ ∀ k, k < m → x (i + 1 + k) = x (i + 1 + (m - 1 - k))
theorem part_unb {x : Nat → Bool} {N m : Nat} (h : PartAt x N m) : UnbAt x N (m + 2) := by
  obtain ⟨i, j, h1, h2, a1, a2, b1, b2, hs, _⟩ := h
  refine ⟨i, j, by omega, by omega, ?_⟩
  have e1 : cbN x i (m + 2) = (x i).toNat + cbN x (i + 1) m + (x (i + m + 1)).toNat := by
    show cbN x i (m + 1) + (x (i + (m + 1))).toNat = _
    rw [cb_cons, Nat.add_assoc i m 1]
  have e2 : cbN x j (m + 2) = (x j).toNat + cbN x (j + 1) m + (x (j + m + 1)).toNat := by
    show cbN x j (m + 1) + (x (j + (m + 1))).toNat = _
    rw [cb_cons, Nat.add_assoc j m 1]
  rw [e1, e2, a1, a2, b1, b2, cb_same (i := i + 1) (j := j + 1) m hs]
  show (0 : Nat) + _ + 0 + 2 ≤ 1 + _ + 1
  omega
/-- the shortest unbalance -/
theorem unb_part {x : Nat → Bool} {N n : Nat} (h : UnbAt x N n) (hmin : ∀ m, m < n → ¬ UnbAt x N m) : ∃ m, n = m + 2 ∧ PartAt x N m := by
  obtain ⟨i, j, h1, h2, hd⟩ := h
  have hn := cb_le x i n
  obtain ⟨m, rfl⟩ : ∃ m, n = m + 2 := ⟨n - 2, by omega⟩
  refine ⟨m, rfl, ?_⟩
  -- the first letters
  have hi : cbN x i (m + 2) = (x i).toNat + cbN x (i + 1) (m + 1) := cb_cons x i (m + 1)
  have hj : cbN x j (m + 2) = (x j).toNat + cbN x (j + 1) (m + 1) := cb_cons x j (m + 1)
  have hshort := hmin (m + 1) (by omega)
  have hfst : x i = true ∧ x j = false := by
    cases a : x i <;> cases b : x j
    · rw [a] at hi; rw [b] at hj
      exact absurd ⟨i + 1, j + 1, by omega, by omega, by simp only [Bool.toNat_false] at hi hj; omega⟩ hshort
    · rw [a] at hi; rw [b] at hj
      exact absurd ⟨i + 1, j + 1, by omega, by omega, by simp only [Bool.toNat_false, Bool.toNat_true] at hi hj; omega⟩ hshort
    · exact ⟨rfl, rfl⟩
    · rw [a] at hi; rw [b] at hj
      exact absurd ⟨i + 1, j + 1, by omega, by omega, by simp only [Bool.toNat_true] at hi hj; omega⟩ hshort
  obtain ⟨xi, xj⟩ := hfst
  rw [xi] at hi; rw [xj] at hj
  simp only [Bool.toNat_true, Bool.toNat_false] at hi hj
  -- the first place where they part
  have hex : ∃ t, t < m + 1 ∧ x (i + 1 + t) ≠ x (j + 1 + t) := by
    refine Classical.byContradiction fun hno => ?_
    have : cbN x (i + 1) (m + 1) = cbN x (j + 1) (m + 1) := cb_same (m + 1) (fun r hr => Classical.byContradiction fun hne => hno ⟨r, hr, hne⟩)
    omega
  obtain ⟨t, ⟨ht, hne⟩, htmin⟩ := least_one hex
  have hpre : ∀ r, r < t → x (i + 1 + r) = x (j + 1 + r) := fun r hr => Classical.byContradiction fun hne => htmin r hr ⟨by omega, hne⟩
  have hct : cbN x (i + 1) t = cbN x (j + 1) t := cb_same t hpre
  have si : cbN x (i + 1) (m + 1) = cbN x (i + 1) t + ((x (i + 1 + t)).toNat + cbN x (i + 1 + t + 1) (m - t)) := by
    rw [← cb_cons, ← cb_split]
    congr 1
    omega
  have sj : cbN x (j + 1) (m + 1) = cbN x (j + 1) t + ((x (j + 1 + t)).toNat + cbN x (j + 1 + t + 1) (m - t)) := by
    rw [← cb_cons, ← cb_split]
    congr 1
    omega
  have hlast : x (i + 1 + t) = true ∧ x (j + 1 + t) = false := by
    cases a : x (i + 1 + t) <;> cases b : x (j + 1 + t)
    · rw [a, b] at hne; exact absurd rfl hne
    · rw [a] at si; rw [b] at sj
      simp only [Bool.toNat_true, Bool.toNat_false] at si sj
      exact absurd ⟨i + 1 + t + 1, j + 1 + t + 1, by omega, by omega, by omega⟩ (hmin (m - t) (by omega))
    · exact ⟨rfl, rfl⟩
    · rw [a, b] at hne; exact absurd rfl hne
  obtain ⟨yi, yj⟩ := hlast
  have htm : t = m := by
    refine Classical.byContradiction fun hne2 => ?_
    refine hmin (t + 2) (by omega) ⟨i, j, by omega, by omega, ?_⟩
    have e1 : cbN x i (t + 2) = 1 + cbN x (i + 1) t + 1 := by
      show cbN x i (t + 1) + (x (i + (t + 1))).toNat = _
      rw [cb_cons, xi, show i + (t + 1) = i + 1 + t by omega, yi]
      rfl
    have e2 : cbN x j (t + 2) = 0 + cbN x (j + 1) t + 0 := by
      show cbN x j (t + 1) + (x (j + (t + 1))).toNat = _
      rw [cb_cons, xj, show j + (t + 1) = j + 1 + t by omega, yj]
      rfl
    omega
  subst htm
  refine ⟨i, j, by omega, by omega, xi, by rw [show i + t + 1 = i + 1 + t by omega]; exact yi, xj, by rw [show j + t + 1 = j + 1 + t by omega]; exact yj, hpre, ?_⟩
  -- the palindrome
  refine Classical.byContradiction fun hnp => ?_
  have hex2 : ∃ k, k < t ∧ x (i + 1 + k) ≠ x (i + 1 + (t - 1 - k)) := Classical.byContradiction fun hno => hnp (fun k hk => Classical.byContradiction fun hne => hno ⟨k, hk, hne⟩)
  obtain ⟨k, ⟨hk, hkne⟩, hkmin⟩ := least_one hex2
  have hpal : ∀ r, r < k → x (i + 1 + r) = x (i + 1 + (t - 1 - r)) := fun r hr => Classical.byContradiction fun hne => hkmin r hr ⟨by omega, hne⟩
  have hk2 : k < t - 1 - k := by
    refine Classical.byContradiction fun hge => ?_
    by_cases e : k = t - 1 - k
    · exact hkne (by rw [← e])
    · have := hpal (t - 1 - k) (by omega)
      rw [show t - 1 - (t - 1 - k) = k by omega] at this
      exact hkne this.symm
  have hz : cbN x (i + 1 + (t - k)) k = cbN x (i + 1) k := by
    refine cb_turn k _ _ (fun r hr => ?_)
    have := hpal (k - 1 - r) (by omega)
    rw [this]
    congr 1
    omega
  cases hc : x (i + 1 + k)
  · have hd : x (i + 1 + (t - 1 - k)) = true := by
      cases hx : x (i + 1 + (t - 1 - k))
      · rw [hc, hx] at hkne; exact absurd rfl hkne
      · rfl
    refine hmin (k + 2) (by omega) ⟨i + 1 + (t - 1 - k), j, by omega, by omega, ?_⟩
    have e1 : cbN x (i + 1 + (t - 1 - k)) (k + 2) = 1 + cbN x (i + 1 + (t - k)) k + 1 := by
      show cbN x _ (k + 1) + (x (i + 1 + (t - 1 - k) + (k + 1))).toNat = _
      rw [cb_cons, hd, show i + 1 + (t - 1 - k) + (k + 1) = i + 1 + t by omega, yi, show i + 1 + (t - 1 - k) + 1 = i + 1 + (t - k) by omega]
      rfl
    have e2 : cbN x j (k + 2) = 0 + cbN x (j + 1) k + 0 := by
      show cbN x j (k + 1) + (x (j + (k + 1))).toNat = _
      rw [cb_cons, xj, show j + (k + 1) = j + 1 + k by omega, ← hpre k hk, hc]
      rfl
    have e3 : cbN x (i + 1) k = cbN x (j + 1) k := cb_same k (fun r hr => hpre r (by omega))
    omega
  · have hd : x (i + 1 + (t - 1 - k)) = false := by
      cases hx : x (i + 1 + (t - 1 - k))
      · rfl
      · rw [hc, hx] at hkne; exact absurd rfl hkne
    refine hmin (k + 2) (by omega) ⟨i, j + 1 + (t - 1 - k), by omega, by omega, ?_⟩
    have e1 : cbN x i (k + 2) = 1 + cbN x (i + 1) k + 1 := by
      show cbN x i (k + 1) + (x (i + (k + 1))).toNat = _
      rw [cb_cons, xi, show i + (k + 1) = i + 1 + k by omega, hc]
      rfl
    have e2 : cbN x (j + 1 + (t - 1 - k)) (k + 2) = 0 + cbN x (j + 1 + (t - k)) k + 0 := by
      show cbN x _ (k + 1) + (x (j + 1 + (t - 1 - k) + (k + 1))).toNat = _
      rw [cb_cons, ← hpre (t - 1 - k) (by omega), hd, show j + 1 + (t - 1 - k) + (k + 1) = j + 1 + t by omega, yj, show j + 1 + (t - 1 - k) + 1 = j + 1 + (t - k) by omega]
      rfl
    have e3 : cbN x (i + 1 + (t - k)) k = cbN x (j + 1 + (t - k)) k := cb_same k (fun r hr => by
      have := hpre (t - k + r) (by omega)
      rwa [← Nat.add_assoc, ← Nat.add_assoc] at this)
    omega
/-- a word is balanced exactly if no palindrome parts it -/
theorem bal_part {x : Nat → Bool} {N : Nat} : BalAt x N ↔ ∀ m, ¬ PartAt x N m := by
  rw [bal_unb]
  constructor
  · exact fun h m hp => h _ (part_unb hp)
  · intro h n hn
    obtain ⟨k, hk, hmin⟩ := least_one ⟨n, hn⟩
    obtain ⟨m, _, hp⟩ := unb_part hk hmin
    exact h m hp

/-! ### slopes -/
theorem bal_slope {x : Nat → Bool} {N : Nat} (h : BalAt x N) : ∀ (s n m i j : Nat), n + m = s → 1 ≤ n → 1 ≤ m → i + n ≤ N → j + m ≤ N → ((cbN x i n : Int) - 1) * m < ((cbN x j m : Int) + 1) * n := by
  intro s
  induction s using Nat.strongRecOn with
  | ind s ih =>
    intro n m i j hs hn hm hi hj
    by_cases e : n = m
    · subst e
      have := h n i j hi hj
      exact Int.mul_lt_mul_of_pos_right (by omega) (by omega)
    · by_cases hlt : m < n
      · obtain ⟨d, rfl⟩ : ∃ d, n = m + d := ⟨n - m, by omega⟩
        have h1 := ih (d + m) (by omega) d m (i + m) j rfl (by omega) hm (by omega) hj
        have h2 := h m i j (by omega) hj
        have h3 : ((cbN x i m : Int)) * m ≤ ((cbN x j m : Int) + 1) * m := Int.mul_le_mul_of_nonneg_right (by omega) (by omega)
        rw [cb_split]
        generalize cbN x i m = a at *
        generalize cbN x (i + m) d = b at *
        generalize cbN x j m = c at *
        have e1 : ((a + b : Nat) : Int) - 1 = (a : Int) + ((b : Int) - 1) := by omega
        have e2 : ((m + d : Nat) : Int) = (m : Int) + (d : Int) := by omega
        rw [e1, e2, Int.add_mul, Int.mul_add]
        omega
      · obtain ⟨d, rfl⟩ : ∃ d, m = n + d := ⟨m - n, by omega⟩
        have h1 := ih (n + d) (by omega) n d i (j + n) rfl hn (by omega) hi (by omega)
        have h2 := h n i j hi (by omega)
        have h3 : ((cbN x i n : Int) - 1) * n ≤ (cbN x j n : Int) * n := Int.mul_le_mul_of_nonneg_right (by omega) (by omega)
        rw [cb_split]
        generalize cbN x i n = a at *
        generalize cbN x (j + n) d = b at *
        generalize cbN x j n = c at *
        have e1 : ((c + b : Nat) : Int) + 1 = (c : Int) + ((b : Int) + 1) := by omega
        have e2 : ((n + d : Nat) : Int) = (n : Int) + (d : Int) := by omega
        rw [e1, e2, Int.add_mul, Int.mul_add]
        omega
/-- a word is balanced exactly if some slope fits -/
theorem slope_bal {x : Nat → Bool} {N : Nat} (h : ∀ n i j, 1 ≤ n → i + n ≤ N → j + n ≤ N → ((cbN x i n : Int) - 1) * n < ((cbN x j n : Int) + 1) * n) : BalAt x N := fun n i j hi hj => by
  by_cases hn : n = 0
  · subst hn; exact Nat.zero_le _
  · have := h n i j (by omega) hi hj
    have := Int.lt_of_mul_lt_mul_right this (by omega)
    omega

/-! ### mechanical words -/
/-- the letter with the index i -/
def mcX (p q s : Nat) (i : Nat) : Bool := decide ((s + i * p) / q < (s + (i + 1) * p) / q)
theorem mc_step {p q s : Nat} (hq : 1 ≤ q) (hp : p ≤ q) (i : Nat) : (s + (i + 1) * p) / q = (s + i * p) / q + (mcX p q s i).toNat := by
  have h1 : (s + i * p) / q ≤ (s + (i + 1) * p) / q := Nat.div_le_div_right (by rw [Nat.succ_mul]; omega)
  have h2 : (s + (i + 1) * p) / q ≤ (s + i * p) / q + 1 := by
    have : (s + (i + 1) * p) / q ≤ (s + i * p + q) / q := Nat.div_le_div_right (by rw [Nat.succ_mul]; omega)
    rwa [Nat.add_div_right _ (by omega)] at this
  unfold mcX
  by_cases h : (s + i * p) / q < (s + (i + 1) * p) / q
  · rw [decide_eq_true h, Bool.toNat_true]; omega
  · rw [decide_eq_false h, Bool.toNat_false]; omega
theorem mc_count {p q s : Nat} (hq : 1 ≤ q) (hp : p ≤ q) (i : Nat) : ∀ n, (s + (i + n) * p) / q = (s + i * p) / q + cbN (mcX p q s) i n
  | 0 => rfl
  | n + 1 => by
    rw [← Nat.add_assoc, mc_step hq hp, mc_count hq hp i n]
    show _ = _ + (cbN (mcX p q s) i n + _)
    omega
theorem mc_bal {p q s : Nat} (hq : 1 ≤ q) (hp : p ≤ q) (N : Nat) : BalAt (mcX p q s) N := fun n i j _ _ => by
  have h1 := mc_count (s := s) hq hp i n
  have h2 := mc_count (s := s) hq hp j n
  rw [Nat.add_mul, ← Nat.add_assoc] at h1 h2
  have a1 : (s + i * p + n * p) / q ≤ (s + i * p) / q + n * p / q + 1 := by
    have := Nat.div_add_mod (s + i * p) q
    have := Nat.div_add_mod (n * p) q
    have m1 := Nat.mod_lt (s + i * p) (show q > 0 by omega)
    have m2 := Nat.mod_lt (n * p) (show q > 0 by omega)
    have : s + i * p + n * p < q * ((s + i * p) / q + n * p / q + 2) := by rw [Nat.mul_add, Nat.mul_add]; omega
    have := Nat.div_lt_of_lt_mul this
    omega
  have a2 : (s + j * p) / q + n * p / q ≤ (s + j * p + n * p) / q := by
    rw [Nat.le_div_iff_mul_le (by omega), Nat.add_mul]
    have := Nat.div_mul_le_self (s + j * p) q
    have := Nat.div_mul_le_self (n * p) q
    omega
  omega
end Go.Proofs.Ytiikledbflgejaa

/- The mathematics of multiples on a circle: at most three times of return, at most three distances. No program in it. -/
namespace Go.Proofs.Ytiikledbflgejaa

/-- where the multiple with the number i lies -/
def dpN (p q i : Nat) : Nat := i * p % q
theorem dp_lt {p q : Nat} (hq : 1 ≤ q) (i : Nat) : dpN p q i < q := Nat.mod_lt _ (by omega)
theorem dp_add {p q : Nat} (hq : 1 ≤ q) (i j : Nat) : dpN p q (i + j) = dpN p q i + dpN p q j ∨ dpN p q (i + j) + q = dpN p q i + dpN p q j := by
  have h : dpN p q (i + j) = (dpN p q i + dpN p q j) % q := by
    unfold dpN
    rw [Nat.add_mul, Nat.add_mod]
  have h1 := dp_lt (p := p) hq i
  have h2 := dp_lt (p := p) hq j
  by_cases hc : dpN p q i + dpN p q j < q
  · rw [Nat.mod_eq_of_lt hc] at h
    exact .inl h
  · rw [Nat.mod_eq_sub_mod (by omega), Nat.mod_eq_of_lt (by omega)] at h
    right
    omega
theorem dp_zero (p q : Nat) : dpN p q 0 = 0 := by unfold dpN; rw [Nat.zero_mul, Nat.zero_mod]
theorem dp_full (p q : Nat) : dpN p q q = 0 := Nat.mul_mod_right q p

/-! ### times of return -/
/-- from the place t of an arc of L places the multiple at d leads back into it -/
def JmpAt (L q t d : Nat) : Prop := t + d < L ∨ q ≤ t + d
/-- the first time -/
def RetAt (p q L t n : Nat) : Prop := 1 ≤ n ∧ JmpAt L q t (dpN p q n) ∧ ∀ i, 1 ≤ i → i < n → ¬ JmpAt L q t (dpN p q i)
theorem ret_three {p q L : Nat} (hq : 1 ≤ q) (hL : 1 ≤ L) : ∃ A B, ∀ t n, t < L → RetAt p q L t n → n = A ∨ n = B ∨ n = A + B := by
  obtain ⟨A, ⟨hA1, hA⟩, hAm⟩ := least_one (P := fun i => 1 ≤ i ∧ dpN p q i < L) ⟨q, hq, by rw [dp_full]; omega⟩
  have ha := dp_lt (p := p) hq A
  by_cases hex : ∃ i, 1 ≤ i ∧ q < L + dpN p q i
  · obtain ⟨B, ⟨hB1, hB⟩, hBm⟩ := least_one (P := fun i => 1 ≤ i ∧ q < L + dpN p q i) hex
    have hb := dp_lt (p := p) hq B
    refine ⟨A, B, fun t n ht ⟨hn1, hj, hmin⟩ => ?_⟩
    -- not later than A, B, A + B
    have lA : t + dpN p q A < L → n ≤ A := fun h => Nat.le_of_not_lt (fun hlt => hmin A hA1 hlt (.inl h))
    have lB : q ≤ t + dpN p q B → n ≤ B := fun h => Nat.le_of_not_lt (fun hlt => hmin B hB1 hlt (.inr h))
    have lAB : ¬ t + dpN p q A < L → ¬ q ≤ t + dpN p q B → n ≤ A + B := fun h1 h2 => Nat.le_of_not_lt (fun hlt => by
      refine hmin (A + B) (by omega) hlt ?_
      rcases dp_add (p := p) hq A B with h | h
      · exact .inr (by omega)
      · exact .inl (by omega))
    have hd := dp_lt (p := p) hq n
    rcases hj with hj | hj
    · have hAn : A ≤ n := Nat.le_of_not_lt (fun hlt => hAm n hlt ⟨hn1, by omega⟩)
      by_cases e : n = A
      · exact .inl e
      · have h1 : ¬ t + dpN p q A < L := fun h => by have := lA h; omega
        obtain ⟨i, rfl⟩ : ∃ i, n = A + i := ⟨n - A, by omega⟩
        have hBi : B ≤ i := Nat.le_of_not_lt (fun hlt => hBm i hlt ⟨by omega, by
          have := dp_lt (p := p) hq i
          rcases dp_add (p := p) hq A i with h | h
          · omega
          · omega⟩)
        have h2 : ¬ q ≤ t + dpN p q B := fun h => by have := lB h; omega
        have := lAB h1 h2
        exact .inr (.inr (by omega))
    · have hBn : B ≤ n := Nat.le_of_not_lt (fun hlt => hBm n hlt ⟨hn1, by omega⟩)
      by_cases e : n = B
      · exact .inr (.inl e)
      · have h2 : ¬ q ≤ t + dpN p q B := fun h => by have := lB h; omega
        obtain ⟨i, rfl⟩ : ∃ i, n = B + i := ⟨n - B, by omega⟩
        have hAi : A ≤ i := Nat.le_of_not_lt (fun hlt => hAm i hlt ⟨by omega, by
          have := dp_lt (p := p) hq i
          rcases dp_add (p := p) hq B i with h | h
          · omega
          · omega⟩)
        have h1 : ¬ t + dpN p q A < L := fun h => by have := lA h; omega
        have := lAB h1 h2
        exact .inr (.inr (by omega))
  · -- no way back to the left: the first multiple is the place itself
    have hzero : dpN p q A = 0 := by
      refine Classical.byContradiction fun hne => hex ⟨A * (q - 1), ?_, ?_⟩
      · exact Nat.mul_pos hA1 (by omega)
      · have h1 : dpN p q (A + A * (q - 1)) = 0 := by
          rw [show A + A * (q - 1) = A * q by rw [Nat.add_comm, ← Nat.mul_succ]; congr 1; omega]
          unfold dpN
          rw [Nat.mul_assoc, Nat.mul_comm q p, ← Nat.mul_assoc]
          exact Nat.mul_mod_left _ _
        rcases dp_add (p := p) hq A (A * (q - 1)) with h | h
        · omega
        · omega
    refine ⟨A, A, fun t n ht ⟨hn1, hj, hmin⟩ => ?_⟩
    left
    rcases hj with hj | hj
    · have h1 : A ≤ n := Nat.le_of_not_lt (fun hlt => hAm n hlt ⟨hn1, by omega⟩)
      have h2 : n ≤ A := Nat.le_of_not_lt (fun hlt => hmin A hA1 hlt (.inl (by omega)))
      omega
    · exact absurd ⟨n, hn1, by omega⟩ hex
/-- it comes back by itself after q times -/
theorem ret_some {p q L t : Nat} (hq : 1 ≤ q) (ht : t < L) : ∃ n, RetAt p q L t n ∧ n ≤ q := by
  obtain ⟨n, ⟨h1, h2⟩, h3⟩ := least_one (P := fun i => 1 ≤ i ∧ JmpAt L q t (dpN p q i)) ⟨q, hq, .inl (by rw [dp_full]; exact ht)⟩
  refine ⟨n, ⟨h1, h2, fun i a b c => h3 i b ⟨a, c⟩⟩, ?_⟩
  exact Nat.le_of_not_lt (fun hlt => h3 q hlt ⟨hq, .inl (by rw [dp_full]; exact ht)⟩)
/-- in an arc from low on -/
theorem jmp_arc {q low L t d : Nat} (hl : low + L ≤ q) (ht : t < L) (hd : d < q) : (low ≤ (low + t + d) % q ∧ (low + t + d) % q < low + L) ↔ JmpAt L q t d := by
  unfold JmpAt
  by_cases hc : low + t + d < q
  · rw [Nat.mod_eq_of_lt hc]
    omega
  · rw [Nat.mod_eq_sub_mod (by omega), Nat.mod_eq_of_lt (by omega)]
    omega

/-! ### distances -/
/-- from the point with the number i one of the n points is reached behind v -/
def ReachV (p q n i v : Nat) : Prop := ∃ j, j < n ∧ (dpN p q j = dpN p q i + v ∨ dpN p q j + q = dpN p q i + v)
/-- the distance to the next one -/
def GapAt (p q n i v : Nat) : Prop := 1 ≤ v ∧ ReachV p q n i v ∧ ∀ u, 1 ≤ u → u < v → ¬ ReachV p q n i u
theorem gap_some {p q n i : Nat} (hq : 1 ≤ q) (hi : i < n) : ∃ v, GapAt p q n i v ∧ v ≤ q := by
  have h0 : ReachV p q n i q := ⟨i, hi, .inr rfl⟩
  obtain ⟨v, ⟨h1, h2⟩, h3⟩ := least_one (P := fun v => 1 ≤ v ∧ ReachV p q n i v) ⟨q, hq, h0⟩
  exact ⟨v, ⟨h1, h2, fun u a b c => h3 u b ⟨a, c⟩⟩, Nat.le_of_not_lt (fun hlt => h3 q hlt ⟨hq, h0⟩)⟩
/-- all points are one, or the distances are a, b, a + b -/
theorem gap_three {p q n : Nat} (hq : 1 ≤ q) : (∀ i, i < n → dpN p q i = 0) ∨ ∃ a b, 1 ≤ a ∧ 1 ≤ b ∧ ∀ i v, i < n → v ≤ q → GapAt p q n i v → v = a ∨ v = b ∨ v = a + b := by
  by_cases hall : ∀ i, i < n → dpN p q i = 0
  · exact .inl hall
  right
  have hex : ∃ m, m < n ∧ dpN p q m ≠ 0 := Classical.byContradiction fun hno => hall (fun i hi => Classical.byContradiction fun hne => hno ⟨i, hi, hne⟩)
  obtain ⟨m0, hm0, hne0⟩ := hex
  obtain ⟨a, ⟨ha1, hax⟩, ham⟩ := least_one (P := fun v => 1 ≤ v ∧ ∃ m, m < n ∧ dpN p q m = v) ⟨dpN p q m0, by omega, m0, hm0, rfl⟩
  obtain ⟨α, ⟨hα, hαe⟩, hαm⟩ := least_one (P := fun m => m < n ∧ dpN p q m = a) hax
  have hm0q := dp_lt (p := p) hq m0
  obtain ⟨b, ⟨hb1, hbx⟩, hbm⟩ := least_one (P := fun v => 1 ≤ v ∧ ∃ m, m < n ∧ dpN p q m + v = q) ⟨q - dpN p q m0, by omega, m0, hm0, by omega⟩
  -- 0 itself is at distance q: it is not the nearest one from the left
  have hbq : b < q := Nat.lt_of_le_of_lt (Nat.le_of_not_lt (fun hlt => hbm (q - dpN p q m0) hlt ⟨by omega, m0, hm0, by omega⟩)) (by omega)
  obtain ⟨β, ⟨hβ, hβe⟩, hβm⟩ := least_one (P := fun m => m < n ∧ dpN p q m + b = q) hbx
  refine ⟨a, b, ha1, hb1, fun i v hi hvq ⟨hv1, ⟨j, hj, hje⟩, hmin⟩ => ?_⟩
  have hα0 : 1 ≤ α := by
    refine Classical.byContradiction fun h => ?_
    rw [show α = 0 by omega, dp_zero] at hαe
    omega
  have hβ0 : 1 ≤ β := by
    refine Classical.byContradiction fun h => ?_
    rw [show β = 0 by omega, dp_zero] at hβe
    omega
  have hiq := dp_lt (p := p) hq i
  have hjq := dp_lt (p := p) hq j
  -- what is reached
  have rA : i + α < n → v ≤ a := fun h => Nat.le_of_not_lt (fun hlt => hmin a ha1 hlt ⟨i + α, h, by
    rcases dp_add (p := p) hq i α with e | e
    · exact .inl (by omega)
    · exact .inr (by omega)⟩)
  have rB : β ≤ i → v ≤ b := fun h => Nat.le_of_not_lt (fun hlt => hmin b hb1 hlt ⟨i - β, by omega, by
    have e := dp_add (p := p) hq (i - β) β
    rw [Nat.sub_add_cancel h] at e
    rcases e with e | e
    · exact .inr (by omega)
    · exact .inl (by omega)⟩)
  have rAB : ¬ i + α < n → i < β → a + b ≤ q → v ≤ a + b := fun h1 h2 h3 => Nat.le_of_not_lt (fun hlt => hmin (a + b) (by omega) hlt ⟨i + α - β, by omega, by
    have e1 := dp_add (p := p) hq i α
    have e2 := dp_add (p := p) hq (i + α - β) β
    rw [Nat.sub_add_cancel (by omega)] at e2
    have := dp_lt (p := p) hq (i + α - β)
    have := dp_lt (p := p) hq (i + α)
    omega⟩)
  -- v < q: there are two points
  have hvlt : v < q := by
    refine Classical.byContradiction fun hge => ?_
    have hve : v = q := by omega
    by_cases h0 : dpN p q i = 0
    · exact hmin (dpN p q m0) (by omega) (by omega) ⟨m0, hm0, .inl (by omega)⟩
    · exact hmin (q - dpN p q i) (by omega) (by omega) ⟨0, by omega, .inr (by rw [dp_zero]; omega)⟩
  have hij : j ≠ i := fun e => by subst e; omega
  by_cases hlt : i < j
  · obtain ⟨m, rfl⟩ : ∃ m, j = i + m := ⟨j - i, by omega⟩
    have hmq := dp_lt (p := p) hq m
    have hmv : dpN p q m = v := by
      rcases dp_add (p := p) hq i m with e | e <;> omega
    have hav : a ≤ v := Nat.le_of_not_lt (fun h => ham v h ⟨hv1, m, by omega, hmv⟩)
    by_cases e : v = a
    · exact .inl e
    · have h1 : ¬ i + α < n := fun h => by have := rA h; omega
      obtain ⟨k, rfl⟩ : ∃ k, α = m + k := ⟨α - m, by omega⟩
      have hkq := dp_lt (p := p) hq k
      have hbv : b ≤ v - a := Nat.le_of_not_lt (fun h => hbm (v - a) h ⟨by omega, k, by omega, by
        rcases dp_add (p := p) hq m k with e2 | e2 <;> omega⟩)
      have h2 : i < β := Nat.lt_of_not_le (fun h => by have := rB h; omega)
      have := rAB h1 h2 (by omega)
      exact .inr (.inr (by omega))
  · obtain ⟨m, rfl⟩ : ∃ m, i = j + m := ⟨i - j, by omega⟩
    have hmq := dp_lt (p := p) hq m
    have hmv : dpN p q m + v = q := by
      rcases dp_add (p := p) hq j m with e | e <;> omega
    have hbv : b ≤ v := Nat.le_of_not_lt (fun h => hbm v h ⟨hv1, m, by omega, hmv⟩)
    by_cases e : v = b
    · exact .inr (.inl e)
    · have h2 : j + m < β := Nat.lt_of_not_le (fun h => by have := rB h; omega)
      obtain ⟨k, rfl⟩ : ∃ k, β = m + k := ⟨β - m, by omega⟩
      have hkq := dp_lt (p := p) hq k
      have hav : a ≤ v - b := Nat.le_of_not_lt (fun h => ham (v - b) h ⟨by omega, k, by omega, by
        rcases dp_add (p := p) hq m k with e2 | e2 <;> omega⟩)
      have h1 : ¬ j + m + α < n := fun h => by have := rA h; omega
      have := rAB h1 h2 (by omega)
      exact .inr (.inr (by omega))
end Go.Proofs.Ytiikledbflgejaa
