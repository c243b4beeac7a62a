/-
  Contracts of package sha's names: Compare, Less, Hex.
-/
import Derived.Test.YtleapcbkkggecaaWr
import Derived.Test.YtleapcbkkggecaaBy
import Derived.BigRegion
namespace Go.Proofs.Ytleapcbkkggecaa
open Go.ChangeShapes Go.WideShapes Go.ChangeAt Go.RowKit

/-- a name's bytes -/
structure Nm (xs : List Int) : Prop where
  len : xs.length = 32
  rng : Rng xs
theorem array_sees {w : World} {g t : Nat} {xs : List Int} {fr : Nat × Nat} (h : w.heap[g]? = some (.cells (U8s xs).toArray t fr)) (hl : xs.length ≤ 100000) : Sees w (.slice (some ⟨g, 0, none⟩) xs.length xs.length) xs :=
  Sees.mk (Nat.le_refl _) (by unfold maxLen; omega) (fun i x hx => by
    rw [Nat.zero_add, cell_blk h, List.getElem?_toArray]; exact U8s_get hx)

end Go.Proofs.Ytleapcbkkggecaa
