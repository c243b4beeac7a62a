/-
  Contracts of package sha's New, Len, Clone, Write and Sum of bytes; and of a state that no call made.
-/
import Derived.Test.YtleapcbkkggecaaSum
namespace Go.Proofs.Ytleapcbkkggecaa
open Go.ChangeShapes Go.WideShapes Go.ChangeAt Go.RowKit

/-- a slice of slices that shows these bytes; nothing of it lies in block p -/
def SeesL (p : Nat) (w : World) (v : Value) (ls : List (List Int)) : Prop :=
  (v = .slice none 0 0 ∧ ls = []) ∨
  ∃ ad cap, v = .slice (some ad) ls.length cap ∧ ls.length ≤ cap ∧ cap ≤ maxLen ∧ ∀ i l, ls[i]? = some l → ad.block ≠ p ∧ ∃ u, w.cell? (ad.add i) = some u ∧ Sees w u l ∧ (l ≠ [] → ∀ g, u.ownBlock = some g → g ≠ p)
theorem SeesL.kept {p : Nat} {w w' : World} {v : Value} {ls : List (List Int)} (h : SeesL p w v ls) (k : Kp (fun y => y = p) w w') : SeesL p w' v ls := by
  rcases h with h | ⟨ad, cap, rfl, h1, h2, h3⟩
  · exact .inl h
  · refine .inr ⟨ad, cap, rfl, h1, h2, fun i l hi => ?_⟩
    obtain ⟨hne, u, hc, hs, hf⟩ := h3 i l hi
    exact ⟨hne, u, by rw [k.cell (lt_of_cell hc) (by rw [add_block]; exact hne)]; exact hc, hs.kept k hf, hf⟩
theorem SeesL.len {p : Nat} {w : World} {v : Value} {ls : List (List Int)} (h : SeesL p w v ls) : ∃ a c, v = .slice a ls.length c := by
  rcases h with ⟨rfl, rfl⟩ | ⟨ad, cap, rfl, _⟩
  · exact ⟨_, _, rfl⟩
  · exact ⟨_, _, rfl⟩
theorem flatten_take_le (ls : List (List Int)) (k : Nat) : (ls.take k).flatten.length ≤ ls.flatten.length := by
  have := congrArg List.length (congrArg List.flatten (List.take_append_drop k ls))
  rw [List.flatten_append, List.length_append] at this
  omega
theorem take_flat (ls : List (List Int)) (k : Nat) (l : List Int) (h : ls[k]? = some l) : (ls.take (k + 1)).flatten = (ls.take k).flatten ++ l := by
  rw [List.take_add_one, h]; simp

end Go.Proofs.Ytleapcbkkggecaa
