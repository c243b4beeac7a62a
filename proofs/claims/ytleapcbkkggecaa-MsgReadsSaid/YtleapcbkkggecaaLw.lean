/-
  Contracts of the laws' own helpers: bytes held against bytes, the chapter's examples, what is put into both.
-/
import Derived.Test.YtleapcbkkggecaaRf
import Derived.Test.YtleapcbkkggecaaBc
namespace Go.Proofs.Ytleapcbkkggecaa
open Go.ChangeShapes Go.WideShapes Go.ChangeAt Go.RowKit

set_option maxHeartbeats 400000 in
theorem equal_any {w : World} {a b : Value} {xs ys : List Int} (ha : Sees w a xs) (hb : Sees w b ys) (hx : Rng xs) (hy : Rng ys) :
    Calls Try.prog 19 #[a, b] w fun r w' => r = .returned (.bool (decide (xs = ys))) ∧ w = w' := by
  have h1 := run_string_of ha
  have h2 := run_string_of hb
  have H3 := Lib.hid (strOf_inj hx hy)
  obtain ⟨a1, c1, rfl⟩ := sees_form ha
  obtain ⟨a2, c2, rfl⟩ := sees_form hb
  clear ha hb hx hy
  go_enter Try.func19, Try.ntmps19
  go_wp2
  go_ret
  refine ⟨?_, rfl⟩
  show Ending.returned (Value.bool ((strOfNums xs).toList == (strOfNums ys).toList)) = _
  rw [H3.out]

/-- a literal of bytes -/
theorem lit_sees (w : World) (xs : List Int) (hx : xs.length ≤ 1000) : Sees (w.alloc (.cells (U8s xs).toArray 5)) (.slice (some ⟨w.heap.size, 0, none⟩) xs.length xs.length) xs := by
  refine Sees.mk (Nat.le_refl _) (by unfold maxLen; omega) (fun i x hi => ?_)
  rw [Nat.zero_add, cell_blk (new_blk w _), List.getElem?_toArray, U8s_get hi]

def LiveLit : List Int := [1, 2, 0, 0, 0, 2, 7, 8, 0, 2, 195, 169]

/-! ### both packers -/
/-- a slice's row is the one that it was, or a new one -/
def Fr (w : World) (v v' : Value) : Prop := v'.ownBlock = v.ownBlock ∨ ∀ g, v'.ownBlock = some g → w.heap.size ≤ g
section
variable {w w1 : World} {B p q : Nat} {v u : Value} {lim1 : Int} {l1 : List Int} {e1 : Int} {lim2 : Int} {l2 : List Int} {e2 : Int}
theorem PK.foot (h : PK w B p v lim1 l1 e1) : ∀ x, PF p v x → B ≤ x ∧ x < w.heap.size := by
  rintro x (rfl | hx)
  · exact ⟨h.base, lt_of_blk h.cell⟩
  · exact h.own.lt x hx
end

/-- what an item does -/
def itemS (lim : Int) (l : List Int) (e : Int) (d V : Int) (xs : List Int) : List Int × Int :=
  if d = 0 then putS lim l e xs else if d = 1 then putS lim l e (be 1 (V % 256)) else if d = 2 then putS lim l e (be 2 (V % 65536)) else if d = 3 then putS lim l e (be 4 xs.length ++ xs)
  else if d = 4 then putS lim l e (be 4 (V % 4294967296)) else if d = 5 then putT lim l e (strOfNums xs) else if d = 8 then putS lim l e (be 8 V) else (l, e)
/-- bytes that lie in none of a packer's blocks -/
def Away (b : Value) (xs : List Int) (F : Nat → Prop) : Prop := xs ≠ [] → ∀ g, b.ownBlock = some g → ¬ F g

end Go.Proofs.Ytleapcbkkggecaa
