/-
  Contract of the laws' own begun: the letters' abc sum is the one that FIPS 180-4 tells.
-/
import Derived.Test.YtopckankheljhaaDoorHx
import Derived.Lib.SlBytesConst
namespace Go.Proofs.YtopckankheljhaaDoor
open Go.ChangeShapes Go.WideShapes Go.ChangeAt Go.RowKit

set_option maxRecDepth 100000 in
theorem abc_sum : sumOf [97, 98, 99] = [186, 120, 22, 191, 143, 1, 207, 234, 65, 65, 64, 222, 93, 174, 34, 35, 176, 3, 97, 163, 150, 23, 122, 156, 180, 16, 255, 97, 242, 0, 21, 173] := by decide +kernel
def abcText : ByteArray := ⟨#[98, 97, 55, 56, 49, 54, 98, 102, 56, 102, 48, 49, 99, 102, 101, 97, 52, 49, 52, 49, 52, 48, 100, 101, 53, 100, 97, 101, 50, 50, 50, 51, 98, 48, 48, 51, 54, 49, 97, 51, 57, 54, 49, 55, 55, 97, 57, 99, 98, 52, 49, 48, 102, 102, 54, 49, 102, 50, 48, 48, 49, 53, 97, 100]⟩
theorem abc_text : strOfNums (hexI (sumOf [97, 98, 99])) = abcText := by
  rw [abc_sum]; rfl

theorem lit_sees (w : World) (xs : List Int) (hx : xs.length ≤ 1000) (t : Nat) (fr : Nat × Nat) : Sees (w.alloc (.cells (U8s xs).toArray t fr)) (.slice (some ⟨w.heap.size, 0, none⟩) xs.length xs.length) xs :=
  array_sees (new_blk w _) (by omega)
set_option maxHeartbeats 400000 in
theorem begun_any (w : World) (hR : Rts w) : Calls Tryd.prog 10 #[] w fun r w' => r = .returned (.bool true) ∧ Kp (fun _ => False) w w' := by
  have hs := lit_sees w [97, 98, 99] (by decide) 5 (3, 4)
  have hsum := sums_any [97, 98, 99] (by intro x hx; simp at hx; omega) (by decide) _ _ (hR.kept ((Kp.refl (fun _ => False) w).alloc _) (fun _ _ f => f)) hs
  have hhex := fun w' => hex_any (sumOf [97, 98, 99]) ⟨rfl, sumOf_rng _⟩ w'
  rw [abc_text] at hhex
  have hcv := Lib.run_convert_bytes_const (P := Tryd.prog) w 22 5 #[.int .u8 97, .int .u8 98, .int .u8 99] 3 3 Tryd.underlying22 Tryd.underlying5
  have HS := Lib.hid hsum
  have HH := Lib.hid hhex
  clear hs hsum hhex hR
  go_enter Tryd.func10, Tryd.ntmps10
  go_wp2_with fail
  refine HS.out.mono ?_
  rintro e w1 ⟨rfl, hk1⟩
  go_wp2_with fail
  refine (HH.out _).mono ?_
  rintro e w2 ⟨rfl, hk2⟩
  have hk : Kp (fun _ => False) w w2 := (((Kp.refl _ w).alloc _).trans hk1 (fun _ _ f => f)).trans hk2 (fun _ _ f => f)
  have HK := Lib.hid hk
  clear hk hk1 hk2
  unfold abcText
  go_wp2_with fail
  go_outline
  go_ret
  exact ⟨rfl, HK.out⟩
end Go.Proofs.YtopckankheljhaaDoor
