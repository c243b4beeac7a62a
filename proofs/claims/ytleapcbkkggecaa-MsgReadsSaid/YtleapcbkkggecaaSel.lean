/-
  Selectors for the arms of a walk: each fails at once at another operation. Nothing of the program stands here.
-/
import Derived.Test.YtleapcbkkggecaaMem
import Derived.Deep.MidRow
import Derived.BigFrame
namespace Go.Proofs.Ytleapcbkkggecaa

/-- the next operation writes slot s -/
theorem at_dst (s : Nat) {P : Program} {ops : Array Oper} {Q : Exit → Act → World → Prop} {rest : List Oper} {op : Op} {ty : TypeId} {pos : String} {af : Array Edge} {g : Option (Nat × Bool)} {a : Act} {w : World}
    (h : wpList P ops Q (⟨some s, op, ty, pos, af, g⟩ :: rest) a w) : wpList P ops Q (⟨some s, op, ty, pos, af, g⟩ :: rest) a w := h
/-- the next operation stores slot y where slot x points -/
theorem at_store (x y : Nat) {P : Program} {ops : Array Oper} {Q : Exit → Act → World → Prop} {rest : List Oper} {t ty : TypeId} {pos : String} {af : Array Edge} {g : Option (Nat × Bool)} {a : Act} {w : World}
    (h : wpList P ops Q (⟨none, .store t (.tmp x) (.tmp y), ty, pos, af, g⟩ :: rest) a w) : wpList P ops Q (⟨none, .store t (.tmp x) (.tmp y), ty, pos, af, g⟩ :: rest) a w := h
/-- a call with these arguments -/
theorem at_args (vs : Array Value) {P : Program} {f : FuncId} {w : World} {Q : Ending → World → Prop} (h : Calls P f vs w Q) : Calls P f vs w Q := h
/-- a slice literal whose run is known -/
theorem wpList_slice_run {P : Program} {ops : Array Oper} {rest : List Oper} {o : Oper} {a : Act} {w : World} {Q : Exit → Act → World → Prop} (hw : Region.wanted o (yielded ops a.tmps) = true) (t : TypeId) (len : Nat) (parts : Array (Nat × Operand)) (ho : o.op = .buildSlice t len parts)
    (vs : List (Nat × Value)) (hv : (parts.toList.map fun x => (x.1, a.eval x.2)) = vs) (v : Value) (w' : World) (hr : (Instr.buildSlice t len vs.toArray).run P w = .ok v w')
    (h : wpList P ops Q rest (a.put o.dst v) w') : wpList P ops Q (o :: rest) a w := by
  have e : (parts.map fun (i, x) => (i, a.eval x)) = vs.toArray := by rw [← hv]; apply Array.ext'; simp
  refine BigFrame.wpList_want hw fun K hK => ?_
  unfold Oper.wp execOp
  simp only [ho, e, Sem.run_bind, hr, Result.andThen_ok]
  exact hK _ _ h
end Go.Proofs.Ytleapcbkkggecaa
