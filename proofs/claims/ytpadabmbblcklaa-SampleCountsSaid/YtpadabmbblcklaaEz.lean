/-
  The arguments of the laws: slices of numbers of any kind.
-/
import Derived.Test.YtpadabmbblcklaaEb
import Derived.Test.YtpadabmbblcklaaFrame
import Derived.Deep.Slices
import Derived.ChangeSlices
namespace Go.Proofs.Ytpadabmbblcklaa
open Go.ChangeShapes Go.WideShapes Go.ChangeAt Go.RowKit

theorem wf_i64Z {x : Int} (h : (Lit.int .i64 x).wf = true) : -9223372036854775808 ≤ x ∧ x ≤ 9223372036854775807 := by simpa [Lit.wf, IntKind.min, IntKind.max, IntKind.signed, IntKind.bits] using h
theorem wf_u64Z {x : Int} (h : (Lit.int .u64 x).wf = true) : 0 ≤ x ∧ x ≤ 18446744073709551615 := by simpa [Lit.wf, IntKind.min, IntKind.max, IntKind.signed, IntKind.bits] using h
theorem wf_u32Z {x : Int} (h : (Lit.int .u32 x).wf = true) : 0 ≤ x ∧ x ≤ 4294967295 := by simpa [Lit.wf, IntKind.min, IntKind.max, IntKind.signed, IntKind.bits] using h
theorem wf_u8Z {x : Int} (h : (Lit.int .u8 x).wf = true) : 0 ≤ x ∧ x ≤ 255 := by simpa [Lit.wf, IntKind.min, IntKind.max, IntKind.signed, IntKind.bits] using h
theorem open_numsZ {H : Type} {enc : TypeId × Value → H} {W : World} {base : Nat} {spare : Nat → Bool} {held : Bool} {fuel : Nat} {v : Value} {x : DataW H × List MemPlace} {T E : TypeId} {k : IntKind}
    (hu : Try.prog.underlying T = some (.slice E)) (he : Try.prog.underlying E = some (.int k)) (hc1 : Try.prog.cellsOf E = 1) (h : DataW.trod enc Try.prog W base spare held fuel T [v] = some x) :
    ∃ l, SeesZ k W v l ∧ ∀ y ∈ l, (Lit.int k y).wf = true := by
  rcases open_ints hu he hc1 h with ⟨hc, _⟩ | ⟨a, len, cap, zs, hc, _, hl, hm, hz, _, hcell, hwz⟩
  · exact ⟨[], ⟨none, 0, by simpa using hc, by simp, by simp, fun _ => rfl, fun i x h => by cases h⟩, fun y hy => by cases hy⟩
  · have hlz : len ≤ zs.length := by rw [hz]; split <;> omega
    have hcl : ∀ i y, (zs.take len)[i]? = some y → W.cell? (a.add i) = some (.int k y) := fun i y hi => by
      have hi' := (List.getElem?_eq_some_iff.1 hi).1
      rw [List.length_take] at hi'
      rw [hcell i (by omega)]
      rw [List.getElem?_take_of_lt (by omega)] at hi
      simp [List.getD, hi]
    refine ⟨zs.take len, ⟨some a, cap, ?_, ?_, hm, (by intro e; cases e), fun i y hi => ?_⟩, fun y hy => hwz y (List.mem_of_mem_take hy)⟩
    · rw [List.length_take, Nat.min_eq_left hlz]; simpa using hc
    · rw [List.length_take]; omega
    · have hlt := (List.getElem?_eq_some_iff.1 hi).1
      obtain ⟨x0, hx0⟩ : ∃ x0, (zs.take len)[0]? = some x0 := ⟨(zs.take len)[0]'(by omega), List.getElem?_eq_getElem _⟩
      have hsp := spot_of_cell (hcl 0 x0 hx0)
      obtain ⟨b0, o0, sp⟩ := a
      have hsp : sp = none := by simpa [Addr.add] using hsp
      subst hsp
      have := hcl i y hi
      rw [Addr.add_lit] at this
      exact ⟨b0, o0, rfl, this⟩
theorem Try.cellsI64Z : Try.prog.cellsOf 2 = 1 := by kernel_rfl
theorem Try.cellsIntZ : Try.prog.cellsOf 3 = 1 := by kernel_rfl
theorem Try.cellsU64Z : Try.prog.cellsOf 31 = 1 := by kernel_rfl
theorem Try.cellsU32Z : Try.prog.cellsOf 53 = 1 := by kernel_rfl
end Go.Proofs.Ytpadabmbblcklaa
