/-
  The arguments of the laws of layer 1: bytes, and a list of items, as they lie in memory.
-/
import Derived.Test.YtleapcbkkggecaaFrame
import Derived.Deep.Slices
import Derived.Deep.Fields
import Derived.ChangeSlices
namespace Go.Proofs.Ytleapcbkkggecaa
open Go.ChangeShapes Go.WideShapes Go.ChangeAt Go.RowKit

theorem Try.cellsOf8 : Try.prog.cellsOf 5 = 1 := by kernel_rfl
theorem wf_u8 {x : Int} (h : (Lit.int .u8 x).wf = true) : 0 ≤ x ∧ x ≤ 255 := by simpa [Lit.wf, IntKind.min, IntKind.max, IntKind.signed, IntKind.bits] using h
theorem wf_u64 {x : Int} (h : (Lit.int .u64 x).wf = true) : 0 ≤ x ∧ x ≤ 18446744073709551615 := by simpa [Lit.wf, IntKind.min, IntKind.max, IntKind.signed, IntKind.bits] using h
theorem wf_i64 {x : Int} (h : (Lit.int .i64 x).wf = true) : -9223372036854775808 ≤ x ∧ x ≤ 9223372036854775807 := by simpa [Lit.wf, IntKind.min, IntKind.max, IntKind.signed, IntKind.bits] using h

theorem open_bytes {H : Type} {enc : TypeId × Value → H} {W : World} {base : Nat} {spare : Nat → Bool} {held : Bool} {fuel : Nat} {v : Value} {x : DataW H × List MemPlace} (h : DataW.trod enc Try.prog W base spare held fuel 29 [v] = some x) :
    ∃ xs, Sees W v xs ∧ Rng xs := by
  rcases open_ints Try.underlying29 Try.underlying5 Try.cellsOf8 h with ⟨hc, _⟩ | ⟨a, len, cap, zs, hc, _, hl, hm, hz, _, hcell, hwz⟩
  · exact ⟨[], .inl ⟨by simpa using hc, rfl⟩, fun _ h => by cases h⟩
  · have hlz : len ≤ zs.length := by rw [hz]; split <;> omega
    refine ⟨zs.take len, .inr ⟨a, cap, ?_, ?_, hm, fun i y hi => ?_⟩, fun y hy => wf_u8 (hwz y (List.mem_of_mem_take hy))⟩
    · rw [List.length_take, Nat.min_eq_left hlz]; simpa using hc
    · rw [List.length_take]; omega
    · have hi' := (List.getElem?_eq_some_iff.1 hi).1
      rw [List.length_take] at hi'
      rw [hcell i (by omega)]
      rw [List.getElem?_take_of_lt (by omega)] at hi
      simp [List.getD, hi]

structure Itm where
  d : Int
  V : Int
  n : Int
  b : Value
  xs : List Int
/-- an item at a place of a list of items -/
structure ItmAt (W : World) (a : Addr) (i : Nat) (it : Itm) : Prop where
  c0 : W.cell? (a.add (i * 4 + 0)) = some (.int .i64 it.d)
  c1 : W.cell? (a.add (i * 4 + 1)) = some (.int .u64 it.V)
  c2 : W.cell? (a.add (i * 4 + 2)) = some it.b
  c3 : W.cell? (a.add (i * 4 + 3)) = some (.int .i64 it.n)
structure Good (W : World) (it : Itm) : Prop where
  dr : -9223372036854775808 ≤ it.d ∧ it.d ≤ 9223372036854775807
  vr : 0 ≤ it.V ∧ it.V ≤ 18446744073709551615
  nr : -9223372036854775808 ≤ it.n ∧ it.n ≤ 9223372036854775807
  sees : Sees W it.b it.xs
  rng : Rng it.xs
def ItemsAt (W : World) (lv : Value) (its : List Itm) : Prop :=
  (lv = .slice none 0 0 ∧ its = []) ∨ ∃ a cap, lv = .slice (some a) its.length cap ∧ its.length ≤ cap ∧ cap ≤ maxLen ∧ ∀ i it, its[i]? = some it → ItmAt W a i it ∧ Good W it

theorem Try.cellsInt : Try.prog.cellsOf 3 = 1 := by kernel_rfl
theorem Try.cellsU64 : Try.prog.cellsOf 79 = 1 := by kernel_rfl
theorem Try.cellsBytes : Try.prog.cellsOf 29 = 1 := by kernel_rfl
end Go.Proofs.Ytleapcbkkggecaa
