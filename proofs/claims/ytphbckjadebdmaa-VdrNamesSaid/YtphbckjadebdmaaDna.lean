/-
  VdrNames: the law's walk.
-/
import Derived.Test.YtphbckjadebdmaaDm
namespace Go.Proofs.Ytphbckjadebdmaa
open Go.RowKit

set_option maxRecDepth 100000 in
set_option maxHeartbeats 1600000 in
theorem names_law (s : ByteArray) (w : World) : Calls Try.prog 3 #[.string s] w fun e w' => e = .returned (.bool true) ∧ Kp (fun _ => False) w w' := by
  have HB := Lib.hid (fun w => vlive_any w)
  have H1 := Lib.hid (fun (h : s.size ≤ 10000) w => runes_any s w (by omega))
  have H2 := Lib.hid (fun (h : s.size ≤ 10000) w => rrunes_any s w (by omega))
  have H3 := Lib.hid (fun (h : s.size ≤ 10000) w => name_any s w (by omega))
  have H4 := Lib.hid (fun (h : s.size ≤ 10000) w => rname_any s w (by omega))
  obtain ⟨r, hr⟩ : ∃ r, r = Lib.runeCount s := ⟨_, rfl⟩
  obtain ⟨b, hb⟩ : ∃ b, b = nameE (nameOk s) := ⟨_, rfl⟩
  rw [← hr] at H1 H2
  rw [← hb] at H3 H4
  clear hr hb
  go_enter Try.func3, Try.ntmps3
  go_wp2_with fail
  refine (HB.out _).mono ?_
  rintro e w1 ⟨rfl, k1⟩
  have K1 := Lib.hid k1
  clear k1
  by_cases hs : s.size ≤ 10000
  · have hs' : ¬ (10000 : Int) < s.size := by omega
    go_wp2_with fail
    refine (H1.out hs _).mono ?_
    rintro e w2 ⟨rfl, k2⟩
    have K2 := Lib.hid (K1.out.trans k2 (fun _ _ f => f))
    clear k2
    go_wp2_with fail
    refine (H2.out hs _).mono ?_
    rintro e w3 ⟨rfl, k3⟩
    have K3 := Lib.hid (K2.out.trans k3 (fun _ _ f => f))
    clear k3
    go_wp2_with fail
    refine (H3.out hs _).mono ?_
    rintro e w4 ⟨rfl, k4⟩
    have K4 := Lib.hid (K3.out.trans k4 (fun _ _ f => f))
    clear k4
    go_wp2_with fail
    refine (H4.out hs _).mono ?_
    rintro e w5 ⟨rfl, k5⟩
    have K5 := Lib.hid (K4.out.trans k5 (fun _ _ f => f))
    clear k5
    go_wp2_with fail
    go_ret
    exact ⟨by first | rfl | simp, K5.out⟩
  · have hs' : (10000 : Int) < s.size := by omega
    go_wp2_with fail
    refine (HB.out _).mono ?_
    rintro e w2 ⟨rfl, k2⟩
    have K2 := Lib.hid (K1.out.trans k2 (fun _ _ f => f))
    clear k2
    go_wp2_with fail
    go_ret
    exact ⟨rfl, K2.out⟩
end Go.Proofs.Ytphbckjadebdmaa
