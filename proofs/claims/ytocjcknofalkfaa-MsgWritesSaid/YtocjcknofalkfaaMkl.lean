/-
  MsgKinds and MsgWrites: the laws' walks.
-/
import Derived.Test.YtocjcknofalkfaaMg
import Derived.Test.YtocjcknofalkfaaMr
import Derived.Test.YtocjcknofalkfaaMz
namespace Go.Proofs.Ytocjcknofalkfaa
open Go.ChangeShapes Go.WideShapes Go.ChangeAt Go.RowKit
variable {A : Nat → Prop}

set_option maxRecDepth 100000 in
set_option maxHeartbeats 1600000 in
theorem kinds_law (k : Int) (w : World) : Calls Try.prog 6 #[.int .i64 k] w fun e w' => e = .returned (.bool true) ∧ Kp (fun _ => False) w w' := by
  have HB := Lib.hid (begun_any w)
  have H1 := Lib.hid (fun w => reply_any k w)
  have H2 := Lib.hid (fun w => rreply_any k w)
  have H3 := Lib.hid (fun w => name_any k w)
  have H4 := Lib.hid (fun w => rname_any k w)
  obtain ⟨r, hr⟩ : ∃ r, r = replyOf k := ⟨_, rfl⟩
  obtain ⟨s, hs⟩ : ∃ s, s = nameOf k := ⟨_, rfl⟩
  rw [← hr] at H1 H2
  rw [← hs] at H3 H4
  clear hr hs
  go_enter Try.func6, Try.ntmps6
  go_wp2_with fail
  refine HB.out.mono ?_
  rintro e w1 ⟨rfl, k1⟩
  have K1 := Lib.hid k1
  clear k1
  go_wp2_with fail
  refine (H1.out _).mono ?_
  rintro e w2 ⟨rfl, rfl⟩
  go_wp2_with fail
  refine (H2.out _).mono ?_
  rintro e w3 ⟨rfl, rfl⟩
  go_wp2_with fail
  refine (H3.out _).mono ?_
  rintro e w4 ⟨rfl, k4⟩
  have K4 := Lib.hid (K1.out.trans k4 (fun _ _ f => f))
  clear k4
  go_wp2_with fail
  refine (H4.out _).mono ?_
  rintro e w5 ⟨rfl, rfl⟩
  go_wp2_with fail
  go_ret
  exact ⟨by first | rfl | simp, K4.out⟩

set_option maxRecDepth 100000 in
set_option maxHeartbeats 1600000 in
theorem writes_law {vi vb : Value} {m : Ms} {w : World} (hw : m.wf) (hs : SeesM A w vi vb m) : Calls Try.prog 4 #[msV m.k m.r vi vb] w fun e w' => e = .returned (.bool true) ∧ Kp (fun _ => False) w w' := by
  obtain ⟨a1, c1, rfl, hm1⟩ := hs.i.form
  obtain ⟨a2, c2, rfl, hm2⟩ := hs.b.form
  have k0 : Kp (fun _ => False) w (w.alloc (.cells #[.int .i64 m.k, .int .i64 m.r, .slice a1 m.ids.length c1, .slice a2 m.bl.length c2] 25)) := (Kp.refl _ _).alloc _
  have HAT := Lib.hid (MsAt.new w m.k m.r (.slice a1 m.ids.length c1) (.slice a2 m.bl.length c2))
  have HS := Lib.hid (hs.old k0)
  have K0 := Lib.hid k0
  have HW := Lib.hid hw
  have HB := Lib.hid (fun w => begun_any w)
  have HF := Lib.hid (fun w' (k : Kp (fun _ => False) _ w') => few_any (HS.out.old k))
  have HX := Lib.hid (fun w' (k : Kp (fun _ => False) _ w') => mbytes_any HW.out (HS.out.old k))
  have HY := Lib.hid (fun w' (k : Kp (fun _ => False) _ w') => rmbytes_any HW.out (HS.out.old k))
  have HR := Lib.hid (show Rng (msBytes m) from msBytes_rng hw)
  unfold msV at HF HX HY
  clear hs k0 hw
  go_enter Try.func4, Try.ntmps4
  unfold msV
  go_wp2_with fail
  refine (HB.out _).mono ?_
  rintro e w1 ⟨rfl, k1⟩
  have K1 := Lib.hid k1
  obtain ⟨x0, x1, x2, x3, _⟩ := (HAT.out.old k1).cells
  clear k1
  go_wp2_with fail
  refine (HF.out _ K1.out).mono ?_
  rintro e w2 ⟨rfl, k2⟩
  have K2 := Lib.hid (K1.out.trans k2 (fun _ _ f => f))
  obtain ⟨y0, y1, y2, y3, _⟩ := (HAT.out.old K2.out).cells
  obtain ⟨f, hf⟩ : ∃ f, f = fewM m := ⟨_, rfl⟩
  rw [← hf]
  clear k2 hf
  cases f
  · go_wp2_with fail
    refine (HB.out _).mono ?_
    rintro e w3 ⟨rfl, k3⟩
    have K3 := Lib.hid (K2.out.trans k3 (fun _ _ f => f))
    clear k3
    go_wp2_with fail
    go_ret
    exact ⟨rfl, K0.out.trans K3.out (fun _ _ f => f)⟩
  · go_wp2_with fail
    refine (HX.out _ K2.out).mono ?_
    rintro e w3 ⟨v3, rfl, o3, k3⟩
    have K3 := Lib.hid (K2.out.trans k3 (fun _ _ f => f))
    obtain ⟨z0, z1, z2, z3, _⟩ := (HAT.out.old K3.out).cells
    obtain ⟨a3, c3, rfl⟩ := sees_form o3.sees
    have O3 := Lib.hid o3.sees
    clear k3 o3
    go_wp2_with fail
    refine (HY.out _ K3.out).mono ?_
    rintro e w4 ⟨v4, rfl, o4, k4⟩
    have K4 := Lib.hid (K3.out.trans k4 (fun _ _ f => f))
    obtain ⟨a4, c4, rfl⟩ := sees_form o4.sees
    have heq := equal_any (O3.out.kept k4 (fun _ _ _ f => f)) o4.sees HR.out HR.out
    rw [decide_eq_true rfl] at heq
    have HEQ := Lib.hid heq
    clear k4 o4 heq
    go_wp2_with fail
    refine HEQ.out.mono ?_
    rintro e w5 ⟨rfl, rfl⟩
    go_wp2_with fail
    go_ret
    exact ⟨by first | rfl | simp, K0.out.trans K4.out (fun _ _ f => f)⟩
end Go.Proofs.Ytocjcknofalkfaa
