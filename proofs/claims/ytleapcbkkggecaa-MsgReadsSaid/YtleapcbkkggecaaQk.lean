/-
  A region that draws its order, of reads and of calls that make memory and change nothing that was there: one walk, in the order of the text. Nothing of the program stands here.
-/
import Derived.Test.YtleapcbkkggecaaMem
import Derived.Laws.Rows
import Derived.BigQuiet
namespace Go.Proofs.Ytleapcbkkggecaa

/-- The beginning: in whatever world that keeps what W has. -/
theorem wp_kept {P : Program} {id : Nat} {Q : Exit → Act → World → Prop} {a : Act} {W w : World} {l : List Oper} (hm : P.follows .mixedOrders = true) (hB : Region.lexB .any l.toArray = true) (k : Kp (fun _ => False) W w)
    (h : wpQuiet P l.toArray (fun w' => Kp (fun _ => False) W w') (fun a' => ∀ w', Kp (fun _ => False) W w' → Q .normal a' w') l a) : (Code.region id l.toArray true).wp P Q a w :=
  wp_region_quiet (C := fun w' => Kp (fun _ => False) W w') hm hB k.drew (by simpa using h)
/-- A whole row loaded. -/
theorem quiet_load_row {P : Program} {C : World → Prop} {a : Act} {o : Oper} {K : Act → Prop} (ty : TypeId) (x : Operand) (ho : o.op = .load ty x)
    (g : Nat) (hx : a.eval x = .pointer (some ⟨g, 0, none⟩)) (t : TypeId) (cs : Array Value) (fr : Nat × Nat) (d : TypeDesc) (hg : ∀ w, C w → w.heap[g]? = some (.cells cs t fr))
    (hu : P.underlying ty = some d) (hd : (match d with | .struct _ | .array _ _ => true | _ => false) = true) (hi : (P.info? ty).map (·.size) = some cs.size)
    (h : K (a.put o.dst (.agg cs))) : o.quiet P a C K :=
  ⟨.agg cs, fun w hw => by
    unfold Oper.quietAt execOp
    simp only [ho, hx, Instr.loadAt, Instr.sureAddr, Sem.run_bind, Sem.run_pure, Result.andThen_ok, run_loadVar_row w g t ty cs fr d (hg w hw) hu hd hi]
    exact ⟨rfl, rfl⟩, h⟩
end Go.Proofs.Ytleapcbkkggecaa
