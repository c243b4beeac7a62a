/-
  Which units one has: the document's.
-/
import Derived.Test.YtanmgfpogomgcaaDh
import Derived.Deep.Cut
namespace Go.Proofs.Ytanmgfpogomgcaa
open Go.RowKit

theorem totalV_take {l : List Vd} (h : GoodV l) {m : Nat} (hm : m ≤ l.length) : totalV (l.take m) = sumV (l.take m) := by
  unfold totalV
  rcases Nat.eq_zero_or_pos m with h0 | h0
  · subst h0
    cases h1 : decide (checkE (List.take 0 l) = 0) <;> simp [sumV]
  · rw [decide_eq_true (checkE_ok.2 (h.take h0 hm))]; rfl
theorem vok_take {l : List Vd} (h : VOk l) (m : Nat) : VOk (l.take m) := fun x hx => h x (List.mem_of_mem_take hx)

end Go.Proofs.Ytanmgfpogomgcaa
