/- Texts put together. -/
import Derived.Test.YtiikledbflgejaaMgC24
/- The entry of a plain operation is plain; plain code, plain frames; the functions of S are plain. -/
namespace Go.Proofs.Ytiikledbflgejaa
open Go.Conc

def tameOps (S : FuncId → Bool) (ops : Array Oper) : Bool := ops.all fun o => tameOp S o.op
def tameCode (S : FuncId → Bool) : Code → Bool
  | .skip | .ret | .refuse _ | .label _ | .exit _ => true
  | .region _ ops _ => tameOps S ops
  | .seq a b | .cond _ a b => tameCode S a && tameCode S b
  | .block _ c | .loop c | .scope c => tameCode S c
  | .rangeFunc _ _ _ _ | .goto _ => false
def tameItem (S : FuncId → Bool) : Item → Bool
  | .code c | .inLoop c | .inScope c => tameCode S c
  | .inBlock _ => true
  | .inRegion ops _ => tameOps S ops
  | _ => false
structure TameF (S : FuncId → Bool) (fr : Frame) : Prop where
  items : ∀ x ∈ fr.todo, tameItem S x = true
  defers : fr.defers = []
  kind : fr.kind = .normal
  round : fr.roundOf = none
/-- the functions of S have plain bodies and call functions of S alone -/
def Closed (P : Program) (S : FuncId → Bool) : Prop :=
  ∀ f, S f = true → ∃ fn c, P.funcs[f]? = some fn ∧ fn.body = some c ∧ tameCode S c = true ∧ (fn.name == "runtime.NumGoroutine") = false
def closedB (P : Program) (l : List Nat) : Bool :=
  l.all fun f => match P.funcs[f]? with
    | some fn => match fn.body with
      | some c => tameCode (fun g => l.contains g) c && !(fn.name == "runtime.NumGoroutine")
      | none => false
    | none => false
theorem closed_of (P : Program) (l : List Nat) (h : closedB P l = true) : Closed P (fun g => l.contains g) := by
  intro f hf
  have := List.all_eq_true.1 h f (by simpa using hf)
  split at this
  · rename_i fn hfn
    split at this
    · rename_i c hc
      simp only [Bool.and_eq_true, Bool.not_eq_true'] at this
      exact ⟨fn, c, hfn, hc, this.1, this.2⟩
    · cases this
  · cases this

theorem run_callFunc {P : Program} {f : FuncId} {fn : Func} {c : Code} (hf : P.funcs[f]? = some fn) (hb : fn.body = some c) (hn : (fn.name == "runtime.NumGoroutine") = false) (args : Array Value) (w : World) (es : Array Event) :
    (callFunc f args).runT P w es = (.ok (.enter f args) w, es) := by
  unfold callFunc
  simp only [bind, Sem.bind, program, Sem.runT, hf, hn, hb, Option.isNone_some, Bool.false_eq_true, if_false]
  rfl

theorem plain_call {P : Program} {S : FuncId → Bool} (hS : Closed P S) (f : FuncId) (hf : S f = true) (args : Array Value) : Plain P S (callFunc f args) := by
  obtain ⟨fn, c, h1, h2, _, h4⟩ := hS f hf
  refine ⟨fun w es r es' h => ?_, fun w es => ?_, fun w es h => ?_⟩
  · rw [run_callFunc h1 h2 h4] at h
    simp only [Prod.mk.injEq] at h
    obtain ⟨rfl, rfl⟩ := h
    exact ⟨Nat.le_refl _, rfl, fun τ D _ => by rw [run_callFunc h1 h2 h4]; simp [rtp, wof]⟩
  · rw [run_callFunc h1 h2 h4]; exact hf
  · rw [run_callFunc h1 h2 h4]; exact h

theorem plain_exec {P : Program} {S : FuncId → Bool} (hS : Closed P S) (ρ : Operand → Value) (hρ : ∀ f, ρ (.func f) = .func (.func f) #[] #[]) (o : Oper) (h : tameOp S o.op = true) : Plain P S (execOp ρ o) := by
  have V : ∀ {s : Sem Value}, Mild s → Plain P S (s.bind fun v => Pure.pure (.value v)) := fun hs => plain_value Next.value (fun _ _ => trivial) hs
  have U : ∀ {s : Sem Unit}, Mild s → Plain P S (s.bind fun _ => Pure.pure .skip) := fun hs => plain_value (fun _ => Next.skip) (fun _ _ => trivial) hs
  unfold execOp
  cases ho : o.op with
  | call c =>
    obtain ⟨callee, args, ats⟩ := c
    rw [ho] at h
    cases callee with
    | builtin b =>
      cases b <;> first
        | (simp [tameOp] at h; done)
        | exact V (mild_append_ _ _ _)
        | exact V (mild_cap_ _ _ _)
        | exact V (mild_clear_ _ _ _)
        | exact V (mild_copy_ _ _ _)
        | exact V (mild_len_ _ _ _)
        | exact V (mild_max_ _ _ _)
        | exact V (mild_min_ _ _ _)
    | invoke r n => simp [tameOp] at h
    | value f =>
      cases f with
      | func f =>
        have e : (do let d ← resolve ρ { callee := .value (.func f), args := args, argTypes := ats } o.type; invoke d.target d.args : Sem Next) = callFunc f (#[] ++ args.map ρ ++ #[]) := by
          unfold resolve
          simp only [hρ]
          rfl
        have hp := plain_call hS f h (#[] ++ args.map ρ ++ #[])
        rw [← e] at hp
        exact hp
      | _ => simp [tameOp] at h
  | nilCheck x =>
    dsimp only
    refine plain_leaf ?_ ?_
    · repeat' (first | with_reducible (first | exact mild_pure _ | exact mild_unsupported _ | exact mild_runtimePanic _ | exact mild_program | exact mild_nilAhead _ _ _ _) | (with_reducible refine mild_bind ?_ (fun _ => ?_)) | split | (dsimp only))
    · repeat' (first | exact trivial | (refine LeafV.bind (fun _ => ?_)) | split | (dsimp only))
  | _ =>
    rw [ho] at h
    first
      | (simp [tameOp] at h; done)
      | exact plain_pure _ (fun _ => trivial)
      | exact V (mild_bind (mild_asBool _) (fun _ => mild_pure _))
      | exact plain_value _ (fun _ _ => trivial) (mild_asBool _)
      | exact V (mild_alloc _ _ _)
      | exact V (mild_box _ _)
      | exact V (mild_build _ _)
      | exact V (mild_buildSlice _ _ _)
      | exact V (mild_loadAt _ _)
      | exact U (mild_storeAt _ _ _)
      | exact V (mild_bind (mild_eqGuard _ _ _ _ _ _) (fun _ => mild_binOp _ _ _ _))
      | exact V (mild_unary _ _)
      | exact V (mild_convert _ _ _)
      | exact V (mild_makeInterface _ _)
      | exact V (mild_makeFunc _ _ _)
      | exact V (mild_makeChan _ _)
      | exact V (mild_makeSlice _ _ _)
      | exact V (mild_sliceAt _ _ _ _ _)
      | exact V (mild_fieldAt _ _ _)
      | exact V (mild_field _ _ _)
      | exact V (mild_indexAt _ _ _)
      | exact V (mild_index _ _ _)
      | exact V (mild_extract _ _)
      | exact V (mild_panic _)
end Go.Proofs.Ytiikledbflgejaa
