/-
  Contract of the laws' own begun: the letters' abc sum is the one that FIPS 180-4 tells.
-/
import Derived.Test.YtoognhbdgdfkoaaDoorHx
import Derived.Lib.SlBytesConst
namespace Go.Proofs.YtoognhbdgdfkoaaDoor
open Go.ChangeShapes Go.WideShapes Go.ChangeAt Go.RowKit

set_option maxRecDepth 100000 in
theorem abc_sum : sumOf [97, 98, 99] = [186, 120, 22, 191, 143, 1, 207, 234, 65, 65, 64, 222, 93, 174, 34, 35, 176, 3, 97, 163, 150, 23, 122, 156, 180, 16, 255, 97, 242, 0, 21, 173] := by decide +kernel
def abcText : ByteArray := ⟨#[98, 97, 55, 56, 49, 54, 98, 102, 56, 102, 48, 49, 99, 102, 101, 97, 52, 49, 52, 49, 52, 48, 100, 101, 53, 100, 97, 101, 50, 50, 50, 51, 98, 48, 48, 51, 54, 49, 97, 51, 57, 54, 49, 55, 55, 97, 57, 99, 98, 52, 49, 48, 102, 102, 54, 49, 102, 50, 48, 48, 49, 53, 97, 100]⟩
theorem abc_text : strOfNums (hexI (sumOf [97, 98, 99])) = abcText := by
  rw [abc_sum]; rfl

theorem lits_sees (w : World) (xs : List Int) (hx : xs.length ≤ 1000) (t : Nat) (fr : Nat × Nat) : Sees (w.alloc (.cells (U8s xs).toArray t fr)) (.slice (some ⟨w.heap.size, 0, none⟩) xs.length xs.length) xs :=
  array_sees (new_blk w _) (by omega)
end Go.Proofs.YtoognhbdgdfkoaaDoor
