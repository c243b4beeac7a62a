/-
  MsgBack: the law's walk.
-/
import Derived.Test.YtocjcknofalkfaaMg
import Derived.Test.YtocjcknofalkfaaMz
namespace Go.Proofs.Ytocjcknofalkfaa
open Go.ChangeShapes Go.WideShapes Go.ChangeAt Go.RowKit
variable {A : Nat → Prop}

theorem ms0_wf : ms0.wf := ⟨by decide, by decide, by decide, by decide, (fun x hx => by cases hx), (fun x hx => by cases hx)⟩
theorem msBytes_len {m : Ms} (hw : m.wf) : (msBytes m).length ≤ 4009 := by
  unfold msBytes
  split
  · rename_i h; exact form_len hw h
  · simp
theorem prs_wf {b : List Int} (hr : Rng b) : (prs b).1.wf := by
  rcases prs_cases hr with ⟨m, h1, _, _, h4⟩ | ⟨_, h4⟩
  · rw [h4]; exact h1
  · rw [h4]; exact ms0_wf

set_option maxRecDepth 100000 in
set_option maxHeartbeats 3200000 in
/-- the law's second half: all bytes -/
theorem back_law {vi vb v : Value} {m : Ms} {b : List Int} {w : World} (hw : m.wf) (hs : SeesM A w vi vb m) (hb : Sees w v b) (hr : Rng b) :
    Calls Try.prog 7 #[msV m.k m.r vi vb, v] w fun e w' => e = .returned (.bool true) ∧ Kp (fun _ => False) w w' := by
  obtain ⟨a1, c1, rfl, hm1⟩ := hs.i.form
  obtain ⟨a2, c2, rfl, hm2⟩ := hs.b.form
  obtain ⟨ab, cb, rfl⟩ := sees_form hb
  have k0 : Kp (fun _ => False) w (w.alloc (.cells #[.int .i64 m.k, .int .i64 m.r, .slice a1 m.ids.length c1, .slice a2 m.bl.length c2] 25)) := (Kp.refl _ _).alloc _
  have HAT := Lib.hid (MsAt.new w m.k m.r (.slice a1 m.ids.length c1) (.slice a2 m.bl.length c2))
  have HS := Lib.hid (hs.old k0)
  have HSB := Lib.hid (hb.kept k0 (fun _ _ _ f => f))
  have K0 := Lib.hid k0
  have HW := Lib.hid hw
  have HR := Lib.hid hr
  have HB := Lib.hid (fun w => begun_any w)
  have HF := Lib.hid (fun w' (k : Kp (fun _ => False) _ w') => few_any (HS.out.old k))
  have HX := Lib.hid (fun w' (k : Kp (fun _ => False) _ w') => mbytes_any HW.out (HS.out.old k))
  have HC := Lib.hid (fun w' (k : Kp (fun _ => False) _ w') => mcheck_any (HS.out.old k))
  have HZ := Lib.hid (fun w' (k : Kp (fun _ => False) _ w') => msize_any HW.out (HS.out.old k))
  unfold msV at HF HX HC HZ
  clear hs k0 hw hb hr
  go_enter Try.func7, Try.ntmps7
  unfold msV
  go_wp2_with fail
  refine (HB.out _).mono ?_
  rintro e w1 ⟨rfl, k1⟩
  have K1 := Lib.hid k1
  obtain ⟨x0, x1, x2, x3, _⟩ := (HAT.out.old k1).cells
  clear k1
  go_wp2_with fail
  refine (HF.out _ K1.out).mono ?_
  rintro e w2 ⟨rfl, k2⟩
  have K2 := Lib.hid (K1.out.trans k2 (fun _ _ f => f))
  obtain ⟨y0, y1, y2, y3, _⟩ := (HAT.out.old K2.out).cells
  obtain ⟨f, hf⟩ : ∃ f, f = fewM m := ⟨_, rfl⟩
  rw [← hf]
  clear k2 hf
  cases f
  · go_wp2_with fail
    refine (HB.out _).mono ?_
    rintro e w3 ⟨rfl, k3⟩
    have K3 := Lib.hid (K2.out.trans k3 (fun _ _ f => f))
    clear k3
    go_wp2_with fail
    go_ret
    exact ⟨rfl, K0.out.trans K3.out (fun _ _ f => f)⟩
  by_cases hlen : 10000 < b.length
  · have hlen' : (10000 : Int) < b.length := by omega
    clear hlen
    go_wp2_with fail
    refine (HB.out _).mono ?_
    rintro e w3 ⟨rfl, k3⟩
    have K3 := Lib.hid (K2.out.trans k3 (fun _ _ f => f))
    clear k3
    go_wp2_with fail
    go_ret
    exact ⟨rfl, K0.out.trans K3.out (fun _ _ f => f)⟩
  have hlen' : ¬ (10000 : Int) < b.length := by omega
  have HLN := Lib.hid (show b.length ≤ 1000000 by omega)
  clear hlen
  go_wp2_with fail
  refine (HX.out _ K2.out).mono ?_
  rintro e w3 ⟨v3, rfl, o3, k3⟩
  have K3 := Lib.hid (K2.out.trans k3 (fun _ _ f => f))
  obtain ⟨z0, z1, z2, z3, _⟩ := (HAT.out.old K3.out).cells
  obtain ⟨a3, c3, rfl⟩ := sees_form o3.sees
  have O3 := Lib.hid o3.sees
  clear k3 o3
  have h4k := msBytes_len HW.out
  have h4k' : ¬ (4009 : Int) < ((msBytes m).length : Int) := by omega
  have HMB := Lib.hid (show msBytes m = if okM m then form m else [] from rfl)
  obtain ⟨q, hq⟩ : ∃ q, q = chk m := ⟨_, rfl⟩
  rw [← hq] at HC ⊢
  have hqc : (q = 0 ∧ okM m = true) ∨ q = 40 := by
    rw [hq]; unfold chk
    by_cases h : okM m = true
    · rw [if_pos h]; exact .inl ⟨rfl, h⟩
    · rw [if_neg h]; exact .inr rfl
  obtain ⟨L, hL⟩ : ∃ L, L = msBytes m := ⟨_, rfl⟩
  rw [← hL] at O3 h4k' HMB HZ ⊢
  clear h4k hq hL
  rcases hqc with ⟨rfl, hok⟩ | rfl
  · have HFM := Lib.hid (show L = form m by rw [HMB.out, if_pos hok])
    have HOK := Lib.hid hok
    clear hok
    go_wp2_with fail
    refine (HC.out _ K3.out).mono ?_
    rintro e w4 ⟨rfl, k4⟩
    have K4 := Lib.hid (K3.out.trans k4 (fun _ _ f => f))
    have K34 := Lib.hid k4
    obtain ⟨p0, p1, p2, p3, _⟩ := (HAT.out.old K4.out).cells
    clear k4
    go_wp2_with fail
    refine (HZ.out _ K4.out).mono ?_
    rintro e w5 ⟨rfl, k5⟩
    have K5 := Lib.hid (K4.out.trans k5 (fun _ _ f => f))
    have K45 := Lib.hid (K34.out.trans k5 (fun _ _ f => f))
    obtain ⟨s0, s1, s2, s3, _⟩ := (HAT.out.old K5.out).cells
    have hp1 := mparse_any (by rw [HFM.out]; exact form_rng HW.out) (by rw [HFM.out]; have := form_len HW.out HOK.out; omega) (O3.out.kept ((show Kp (fun _ => False) _ w5 from (K45.out))) (fun _ _ _ f => f))
    unfold MsIn at hp1
    rw [prs_of_good HW.out HOK.out HFM.out.symm] at hp1
    have HP1 := Lib.hid hp1
    clear hp1 k5
    go_wp2_with fail
    refine HP1.out.mono ?_
    rintro e w6 ⟨vi, vb, rfl, hsm, k6⟩
    obtain ⟨a6, c6, rfl, _⟩ := hsm.i.form
    obtain ⟨a7, c7, rfl, _⟩ := hsm.b.form
    have ka : Kp (fun _ => False) w6 (w6.alloc (.cells #[.int .i64 m.k, .int .i64 m.r, .slice a6 m.ids.length c6, .slice a7 m.bl.length c7] 25)) := (Kp.refl _ _).alloc _
    have K6 := Lib.hid ((K5.out.trans k6 (fun _ _ f => f)).trans ka (fun _ _ f => f))
    have hq := msame_any (hsm.old ka) (HS.out.old K6.out) HW.out HW.out
    rw [(sameM_iff m m).2 rfl] at hq
    unfold msV at hq
    have HQ1 := Lib.hid hq
    obtain ⟨i0, i1, i2, i3, _⟩ := (MsAt.new w6 m.k m.r (.slice a6 m.ids.length c6) (.slice a7 m.bl.length c7)).cells
    obtain ⟨j0, j1, j2, j3, _⟩ := (HAT.out.old K6.out).cells
    clear hq hsm k6 ka
    unfold msV
    go_wp2_with fail
    refine HQ1.out.mono ?_
    rintro e w7 ⟨rfl, k7⟩
    have K7 := Lib.hid (K6.out.trans k7 (fun _ _ f => f))
    clear k7
    have hp := mparse_any HR.out HLN.out (HSB.out.kept K7.out (fun _ _ _ f => f))
    rcases prs_cases HR.out with ⟨m2, g1, g2, g3, g4⟩ | ⟨_, g4⟩
    · unfold MsIn at hp
      rw [g4] at hp
      have HP := Lib.hid hp
      have G1 := Lib.hid g1
      have G2 := Lib.hid g2
      have G3 := Lib.hid g3
      clear hp g1 g2 g3 g4
      go_wp2_with fail
      refine HP.out.mono ?_
      rintro e w8 ⟨vi, vb, rfl, hsm, k8⟩
      obtain ⟨a8, c8, rfl, _⟩ := hsm.i.form
      obtain ⟨a9, c9, rfl, _⟩ := hsm.b.form
      have ka : Kp (fun _ => False) w8 (w8.alloc (.cells #[.int .i64 m2.k, .int .i64 m2.r, .slice a8 m2.ids.length c8, .slice a9 m2.bl.length c9] 25)) := (Kp.refl _ _).alloc _
      have K9 := Lib.hid ((K7.out.trans k8 (fun _ _ f => f)).trans ka (fun _ _ f => f))
      have hq := mbytes_any G1.out (hsm.old ka)
      unfold MsOut msBytes at hq
      rw [if_pos G2.out, G3.out, show chk m2 = 0 by unfold chk; rw [if_pos G2.out]] at hq
      unfold msV at hq
      have HQ := Lib.hid hq
      obtain ⟨u0, u1, u2, u3, _⟩ := (MsAt.new w8 m2.k m2.r (.slice a8 m2.ids.length c8) (.slice a9 m2.bl.length c9)).cells
      clear hq hsm k8 ka
      unfold msV
      go_wp2_with fail
      refine HQ.out.mono ?_
      rintro e w10 ⟨v10, rfl, o10, k10⟩
      have K10 := Lib.hid (K9.out.trans k10 (fun _ _ f => f))
      obtain ⟨a10, c10, rfl⟩ := sees_form o10.sees
      have heq := equal_any o10.sees (HSB.out.kept K10.out (fun _ _ _ f => f)) HR.out HR.out
      rw [decide_eq_true rfl] at heq
      have HEQ := Lib.hid heq
      clear k10 o10 heq
      go_wp2_with fail
      refine HEQ.out.mono ?_
      rintro e w11 ⟨rfl, rfl⟩
      go_wp2_with fail
      go_ret
      exact ⟨rfl, K0.out.trans K10.out (fun _ _ f => f)⟩
    · unfold MsIn at hp
      rw [g4] at hp
      have HP := Lib.hid hp
      clear hp g4
      go_wp2_with fail
      refine HP.out.mono ?_
      rintro e w8 ⟨vi, vb, rfl, hsm, k8⟩
      obtain ⟨a8, c8, rfl, _⟩ := hsm.i.form
      obtain ⟨a9, c9, rfl, _⟩ := hsm.b.form
      have ka : Kp (fun _ => False) w8 (w8.alloc (.cells #[.int .i64 ms0.k, .int .i64 ms0.r, .slice a8 ms0.ids.length c8, .slice a9 ms0.bl.length c9] 25)) := (Kp.refl _ _).alloc _
      have K9 := Lib.hid ((K7.out.trans k8 (fun _ _ f => f)).trans ka (fun _ _ f => f))
      have hq := msame_any (hsm.old ka) (sees0 (fun _ => True) _) ms0_wf ms0_wf
      rw [(sameM_iff ms0 ms0).2 rfl] at hq
      unfold msV at hq
      have HQ := Lib.hid hq
      obtain ⟨u0, u1, u2, u3, _⟩ := (MsAt.new w8 ms0.k ms0.r (.slice a8 ms0.ids.length c8) (.slice a9 ms0.bl.length c9)).cells
      clear hq hsm k8 ka
      unfold msV
      go_wp2_with fail
      refine HQ.out.mono ?_
      rintro e w10 ⟨rfl, k10⟩
      have K10 := Lib.hid (K9.out.trans k10 (fun _ _ f => f))
      clear k10
      go_wp2_with fail
      go_ret
      exact ⟨rfl, K0.out.trans K10.out (fun _ _ f => f)⟩
  · go_wp2_with fail
    refine (HC.out _ K3.out).mono ?_
    rintro e w4 ⟨rfl, k4⟩
    have K4 := Lib.hid (K3.out.trans k4 (fun _ _ f => f))
    obtain ⟨p0, p1, p2, p3, _⟩ := (HAT.out.old K4.out).cells
    clear k4
    go_wp2_with fail
    refine (HZ.out _ K4.out).mono ?_
    rintro e w5 ⟨rfl, k5⟩
    have K5 := Lib.hid (K4.out.trans k5 (fun _ _ f => f))
    obtain ⟨s0, s1, s2, s3, _⟩ := (HAT.out.old K5.out).cells
    clear k5
    have hp := mparse_any HR.out HLN.out (HSB.out.kept K5.out (fun _ _ _ f => f))
    rcases prs_cases HR.out with ⟨m2, g1, g2, g3, g4⟩ | ⟨_, g4⟩
    · unfold MsIn at hp
      rw [g4] at hp
      have HP := Lib.hid hp
      have G1 := Lib.hid g1
      have G2 := Lib.hid g2
      have G3 := Lib.hid g3
      clear hp g1 g2 g3 g4
      go_wp2_with fail
      refine HP.out.mono ?_
      rintro e w8 ⟨vi, vb, rfl, hsm, k8⟩
      obtain ⟨a8, c8, rfl, _⟩ := hsm.i.form
      obtain ⟨a9, c9, rfl, _⟩ := hsm.b.form
      have ka : Kp (fun _ => False) w8 (w8.alloc (.cells #[.int .i64 m2.k, .int .i64 m2.r, .slice a8 m2.ids.length c8, .slice a9 m2.bl.length c9] 25)) := (Kp.refl _ _).alloc _
      have K9 := Lib.hid ((K5.out.trans k8 (fun _ _ f => f)).trans ka (fun _ _ f => f))
      have hq := mbytes_any G1.out (hsm.old ka)
      unfold MsOut msBytes at hq
      rw [if_pos G2.out, G3.out, show chk m2 = 0 by unfold chk; rw [if_pos G2.out]] at hq
      unfold msV at hq
      have HQ := Lib.hid hq
      obtain ⟨u0, u1, u2, u3, _⟩ := (MsAt.new w8 m2.k m2.r (.slice a8 m2.ids.length c8) (.slice a9 m2.bl.length c9)).cells
      clear hq hsm k8 ka
      unfold msV
      go_wp2_with fail
      refine HQ.out.mono ?_
      rintro e w10 ⟨v10, rfl, o10, k10⟩
      have K10 := Lib.hid (K9.out.trans k10 (fun _ _ f => f))
      obtain ⟨a10, c10, rfl⟩ := sees_form o10.sees
      have heq := equal_any o10.sees (HSB.out.kept K10.out (fun _ _ _ f => f)) HR.out HR.out
      rw [decide_eq_true rfl] at heq
      have HEQ := Lib.hid heq
      clear k10 o10 heq
      go_wp2_with fail
      refine HEQ.out.mono ?_
      rintro e w11 ⟨rfl, rfl⟩
      go_wp2_with fail
      go_ret
      exact ⟨rfl, K0.out.trans K10.out (fun _ _ f => f)⟩
    · unfold MsIn at hp
      rw [g4] at hp
      have HP := Lib.hid hp
      clear hp g4
      go_wp2_with fail
      refine HP.out.mono ?_
      rintro e w8 ⟨vi, vb, rfl, hsm, k8⟩
      obtain ⟨a8, c8, rfl, _⟩ := hsm.i.form
      obtain ⟨a9, c9, rfl, _⟩ := hsm.b.form
      have ka : Kp (fun _ => False) w8 (w8.alloc (.cells #[.int .i64 ms0.k, .int .i64 ms0.r, .slice a8 ms0.ids.length c8, .slice a9 ms0.bl.length c9] 25)) := (Kp.refl _ _).alloc _
      have K9 := Lib.hid ((K5.out.trans k8 (fun _ _ f => f)).trans ka (fun _ _ f => f))
      have hq := msame_any (hsm.old ka) (sees0 (fun _ => True) _) ms0_wf ms0_wf
      rw [(sameM_iff ms0 ms0).2 rfl] at hq
      unfold msV at hq
      have HQ := Lib.hid hq
      obtain ⟨u0, u1, u2, u3, _⟩ := (MsAt.new w8 ms0.k ms0.r (.slice a8 ms0.ids.length c8) (.slice a9 ms0.bl.length c9)).cells
      clear hq hsm k8 ka
      unfold msV
      go_wp2_with fail
      refine HQ.out.mono ?_
      rintro e w10 ⟨rfl, k10⟩
      have K10 := Lib.hid (K9.out.trans k10 (fun _ _ f => f))
      clear k10
      go_wp2_with fail
      go_ret
      exact ⟨rfl, K0.out.trans K10.out (fun _ _ f => f)⟩
end Go.Proofs.Ytocjcknofalkfaa
