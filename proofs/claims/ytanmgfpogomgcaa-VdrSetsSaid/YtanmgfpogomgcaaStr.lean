/-
  A row stored whole into a block made just now. Nothing of the program stands here.
-/
import Derived.Test.YtanmgfpogomgcaaSel
import Derived.Laws.Rows
import Derived.Laws.Tables
namespace Go.Proofs.Ytanmgfpogomgcaa
open Go.RowKit

theorem st_row_blk {w : World} {g t : Nat} {old cs : Array Value} {fr : Nat × Nat} (h : w.heap[g]? = some (.cells old t fr)) : (w.setRow g cs).heap[g]? = some (.cells cs t fr) := by
  simp [World.setRow, Array.getElem?_modify, h]
theorem st_row_kp {F : Nat → Prop} {a w : World} (h : Kp F a w) {g : Nat} (hg : g < a.heap.size → F g) (cs : Array Value) : Kp F a (w.setRow g cs) :=
  h.trans (G := fun k => k = g) ⟨rfl, rfl, rfl, by simp, fun k _ hne => by simp [World.setRow, Array.getElem?_modify, Ne.symm hne]⟩ (fun x hx e => by subst e; exact hg hx)
theorem st_fresh {P : Program} {ops : Array Oper} {rest : List Oper} {o : Oper} {a : Act} {w : World} {Q : Exit → Act → World → Prop} (hgd : o.guard = none) (ty : TypeId) (x y : Operand) (ho : o.op = .store ty x y)
    (cells : Array Value) (hx : a.eval x = .pointer (some ⟨w.heap.size, 0, none⟩)) (hy : a.eval y = .agg cells)
    (t : TypeId) (old : Array Value) (hi : (P.info? ty).map (·.size) = some cells.size)
    (hold : old.size = cells.size) (h1 : cells.all (·.oneCell') = true)
    (h : ∀ w2, Kp (fun _ => False) w w2 → w2.heap[w.heap.size]? = some (.cells cells t (0, 0)) → w2.heap.size = w.heap.size + 1 → wpList P ops Q rest (a.put o.dst undef) w2) :
    wpList P ops Q (o :: rest) a (w.alloc (.cells old t)) :=
  wpList_store_row hgd ty x y ho w.heap.size cells hx hy t old (new_blk _ _) hi hold h1
    (h _ (st_row_kp ((Kp.refl _ w).alloc _) (by simp) _) (st_row_blk (new_blk _ _)) (by simp))
end Go.Proofs.Ytanmgfpogomgcaa
