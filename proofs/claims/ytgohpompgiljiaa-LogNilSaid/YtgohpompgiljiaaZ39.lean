/-
  No dump: a call of a Go function (or of a function value) as one step of a region that draws its order.
-/
import Derived.Deep.RegionLaw
import Derived.Deep.RegionHeld3
namespace Go.Proofs.Ytgohpompgiljiaa

theorem run_fn {P : Program} {o : Oper} {a : Act} {w : World} {t : Operand} {args : Array Operand} {tys : Array TypeId} (hop : o.op = .call { callee := .value t, args := args, argTypes := tys })
    {n : Nat} {caps : Array Value} (ht : a.eval t = .func (.func n) #[] caps) {fn : Func} (hf : P.funcs[n]? = some fn) (hb : fn.body.isNone = false) (hn : (fn.name == "runtime.NumGoroutine") = false) :
    (execOp a.eval o).run P w = .ok (.enter n (args.map a.eval ++ caps)) w := by
  simp [execOp, hop, resolve, ht, Deferred.ofValue, invoke, callFunc, program, Result.andThen]
  simp only [Sem.run, hf]
  rw [if_neg (by simpa using hn), if_neg (fun e => by rw [e] at hb; cases hb)]
  rfl

theorem step_fn {P : Program} {ops : Array Oper} {o : Oper} {a : Act} {w : World} {K : Act → World → Prop} {Q : Exit → Act → World → Prop} {E : Prop}
    (hg : o.guard = none) (t : Operand) (args : List Operand) (tys : Array TypeId) (hop : o.op = .call { callee := .value t, args := args.toArray, argTypes := tys })
    (n : Nat) (caps : List Value) (ht : a.eval t = .func (.func n) #[] caps.toArray) (fn : Func) (hf : P.funcs[n]? = some fn) (hb : fn.body.isNone = false) (hn : (fn.name == "runtime.NumGoroutine") = false)
    {vs : List Value} {C : Ending → World → Prop} (hc : Calls P n vs.toArray w C) (hv : args.map a.eval ++ caps = vs) (hk : ∀ e w', C e w' → ∃ v, e = .returned v ∧ K (a.put o.dst v) w') :
    if Region.wanted o (yielded ops a.tmps) = true then Oper.wp P o a w K Q else E := by
  have hw : Region.wanted o (yielded ops a.tmps) = true := by simp [Region.wanted, hg]
  rw [if_pos hw]
  unfold Oper.wp
  have e1 : args.toArray.map a.eval ++ caps.toArray = vs.toArray := by rw [← hv]; simp
  rw [run_fn hop ht hf hb hn, Oper.upon_enter, e1]
  refine hc.mono fun e w' h => ?_
  obtain ⟨v, rfl, h2⟩ := hk e w' h
  exact h2

/-- the same for an operation with a guard -/
theorem step_fnW {P : Program} {ops : Array Oper} {o : Oper} {a : Act} {w : World} {K : Act → World → Prop} {Q : Exit → Act → World → Prop} {E : Prop}
    (hw : Region.wanted o (yielded ops a.tmps) = true) (t : Operand) (args : List Operand) (tys : Array TypeId) (hop : o.op = .call { callee := .value t, args := args.toArray, argTypes := tys })
    (n : Nat) (caps : List Value) (ht : a.eval t = .func (.func n) #[] caps.toArray) (fn : Func) (hf : P.funcs[n]? = some fn) (hb : fn.body.isNone = false) (hn : (fn.name == "runtime.NumGoroutine") = false)
    {vs : List Value} {C : Ending → World → Prop} (hc : Calls P n vs.toArray w C) (hv : args.map a.eval ++ caps = vs) (hk : ∀ e w', C e w' → ∃ v, e = .returned v ∧ K (a.put o.dst v) w') :
    if Region.wanted o (yielded ops a.tmps) = true then Oper.wp P o a w K Q else E := by
  rw [if_pos hw]
  unfold Oper.wp
  have e1 : args.toArray.map a.eval ++ caps.toArray = vs.toArray := by rw [← hv]; simp
  rw [run_fn hop ht hf hb hn, Oper.upon_enter, e1]
  refine hc.mono fun e w' h => ?_
  obtain ⟨v, rfl, h2⟩ := hk e w' h
  exact h2
theorem step_skip {ops : Array Oper} {o : Oper} {a : Act} {K : Act → World → Prop} {w : World} {E : Prop} (hw : Region.wanted o (yielded ops a.tmps) = false) (hk : K (a.put o.dst undef) w) :
    if Region.wanted o (yielded ops a.tmps) = true then E else K (a.put o.dst undef) w := by
  rw [if_neg (by rw [hw]; decide)]
  exact hk

end Go.Proofs.Ytgohpompgiljiaa
