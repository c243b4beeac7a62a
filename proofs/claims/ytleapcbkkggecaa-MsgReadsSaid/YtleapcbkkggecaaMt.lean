/-
  Messages: the document's Same.
-/
import Derived.Test.YtleapcbkkggecaaMs
namespace Go.Proofs.Ytleapcbkkggecaa
open Go.ChangeShapes Go.WideShapes Go.ChangeAt Go.RowKit
variable {A A' : Nat → Prop}

theorem neq_nat {a b : Nat} (h : a ≠ b) : ((a : Int) != (b : Int)) = true := by
  have : (a : Int) ≠ (b : Int) := by omega
  simpa using this
theorem neq_nat0 {a b : Nat} (h : a = b) : ((a : Int) != (b : Int)) = false := by
  subst h; simp
set_option maxRecDepth 100000 in
set_option maxHeartbeats 3200000 in
theorem rmsame_any {ui ub vi vb : Value} {a b : Ms} {w : World} (ha : SeesM A w ui ub a) (hb : SeesM A' w vi vb b) (wa : a.wf) (wb : b.wf) :
    Calls Try.prog 13 #[msV a.k a.r ui ub, msV b.k b.r vi vb] w fun e w' => e = .returned (.bool (sameM a b)) ∧ Kp (fun _ => False) w w' := by
  obtain ⟨a1, c1, rfl, hm1⟩ := ha.i.form
  obtain ⟨a2, c2, rfl, hm2⟩ := ha.b.form
  obtain ⟨a3, c3, rfl, hm3⟩ := hb.i.form
  obtain ⟨a4, c4, rfl, hm4⟩ := hb.b.form
  have k1 : Kp (fun _ => False) w (w.alloc (.cells #[.int .i64 a.k, .int .i64 a.r, .slice a1 a.ids.length c1, .slice a2 a.bl.length c2] 25)) := (Kp.refl _ _).alloc _
  have k2 : Kp (fun _ => False) (w.alloc (.cells #[.int .i64 a.k, .int .i64 a.r, .slice a1 a.ids.length c1, .slice a2 a.bl.length c2] 25)) _ := (Kp.refl _ _).alloc (.cells #[.int .i64 b.k, .int .i64 b.r, .slice a3 b.ids.length c3, .slice a4 b.bl.length c4] 25)
  have hA := (MsAt.new w a.k a.r (.slice a1 a.ids.length c1) (.slice a2 a.bl.length c2)).old k2
  have hB := MsAt.new (w.alloc (.cells #[.int .i64 a.k, .int .i64 a.r, .slice a1 a.ids.length c1, .slice a2 a.bl.length c2] 25)) b.k b.r (.slice a3 b.ids.length c3) (.slice a4 b.bl.length c4)
  rw [World.size_alloc] at hB
  obtain ⟨x0, x1, x2, x3, _⟩ := hA.cells
  obtain ⟨y0, y1, y2, y3, _⟩ := hB.cells
  have k12 := k1.trans k2 (fun _ _ f => f)
  have HXI := Lib.hid (ha.i.kept k12 (fun _ _ f => f))
  have HYI := Lib.hid (hb.i.kept k12 (fun _ _ f => f))
  have HXR := Lib.hid (ha.b.kept k12 (fun _ _ f => f))
  have HYR := Lib.hid (hb.b.kept k12 (fun _ _ f => f))
  have XL := Lib.hid (fun x hx => (wa.idl x hx).1)
  have YL := Lib.hid (fun x hx => (wb.idl x hx).1)
  have XR := Lib.hid wa.blr
  have YR := Lib.hid wb.blr
  have HI := Lib.hid (fun (x : List Int) (h : x.length = 32) => infoId' h)
  have HN := Lib.hid (fun (x y : List Int) (hx : x.length = 32) (hy : y.length = 32) => neq_names x y hx hy)
  have HA := Lib.hid hA
  have HB := Lib.hid hB
  have HK := Lib.hid k12
  have HSF := Lib.hid (fun (h : a ≠ b) => (show sameM a b = false by
    cases hs : sameM a b
    · rfl
    · exact absurd ((sameM_iff a b).1 hs) h))
  have HST := Lib.hid (fun (h : a = b) => (sameM_iff a b).2 h)
  clear ha hb wa wb k1 k2 k12 hA hB
  by_cases h1 : a.k = b.k
  rotate_left
  · have e1 : (a.k != b.k) = true := by simpa using h1
    have HZ := Lib.hid (HSF.out (fun h => h1 (by rw [h])))
    clear h1
    go_enter Try.func13, Try.ntmps13
    unfold msV
    go_wp2_with fail
    go_ret
    exact ⟨by rw [HZ.out]; rfl, HK.out⟩
  have e1 : (a.k != b.k) = false := by simpa using h1
  by_cases h2 : a.r = b.r
  rotate_left
  · have e2 : (a.r != b.r) = true := by simpa using h2
    have HZ := Lib.hid (HSF.out (fun h => h2 (by rw [h])))
    clear h1 h2
    go_enter Try.func13, Try.ntmps13
    unfold msV
    go_wp2_with fail
    go_ret
    exact ⟨by rw [HZ.out]; rfl, HK.out⟩
  have e2 : (a.r != b.r) = false := by simpa using h2
  by_cases h3 : a.ids.length = b.ids.length
  rotate_left
  · have e3 := neq_nat h3
    have HZ := Lib.hid (HSF.out (fun h => h3 (by rw [h])))
    clear h1 h2 h3
    go_enter Try.func13, Try.ntmps13
    unfold msV
    go_wp2_with fail
    go_ret
    exact ⟨by rw [HZ.out]; rfl, HK.out⟩
  have e3 := neq_nat0 h3
  by_cases h4 : a.bl.length = b.bl.length
  rotate_left
  · have e4 := neq_nat h4
    have HZ := Lib.hid (HSF.out (fun h => h4 (by rw [h])))
    clear h1 h2 h3 h4
    go_enter Try.func13, Try.ntmps13
    unfold msV
    go_wp2_with fail
    go_ret
    exact ⟨by rw [HZ.out]; rfl, HK.out⟩
  have e4 := neq_nat0 h4
  have H1 := Lib.hid h1
  have H2 := Lib.hid h2
  have H3 := Lib.hid h3
  have H4 := Lib.hid h4
  clear h1 h2 h3 h4
  obtain ⟨wc, hwc⟩ : ∃ wc, wc = ((w.alloc (.cells #[.int .i64 a.k, .int .i64 a.r, .slice a1 a.ids.length c1, .slice a2 a.bl.length c2] 25)).alloc (.cells #[.int .i64 b.k, .int .i64 b.r, .slice a3 b.ids.length c3, .slice a4 b.bl.length c4] 25)) := ⟨_, rfl⟩
  go_enter Try.func13, Try.ntmps13
  unfold msV
  go_wp2_with fail
  rw [← hwc] at HXI HYI HXR HYR HA HB HK ⊢
  clear x0 x1 x2 x3 y0 y1 y2 y3 hwc
  go_loopw [5] (fun i wr => ∃ k : Nat, k ≤ a.ids.length ∧ i = .int .i64 k ∧ Kp (fun _ => False) wc wr ∧ Hid (∀ (j : Nat) (hj : j < a.ids.length) (hj' : j < b.ids.length), j < k → a.ids[j] = b.ids[j])) (fun i _ => a.ids.length - (intOf i).toNat)
  case atStart => exact ⟨0, by omega, rfl, Kp.refl _ _, Lib.hid (fun j _ _ h => by omega)⟩
  case round =>
    obtain ⟨k, hk, rfl, hkp, hsm⟩ := hrel
    obtain ⟨_, _, z2, z3, _⟩ := (HA.out.old hkp).cells
    obtain ⟨_, _, u2, u3, _⟩ := (HB.out.old hkp).cells
    by_cases hlt : k < a.ids.length
    · have hlt2 : k < b.ids.length := by have := H3.out; omega
      obtain ⟨g1, o1, rfl, r1, hc1, hd1, _⟩ := (HXI.out.kept hkp (fun _ _ f => f)).at XL.out hlt
      obtain ⟨g2, o2, rfl, r2, hc2, hd2, _⟩ := (HYI.out.kept hkp (fun _ _ f => f)).at YL.out hlt2
      have hd1' : c1 ≤ 9223372036854775807 := hd1
      have hd2' : c3 ≤ 9223372036854775807 := hd2
      have e1 := XL.out _ (List.getElem_mem hlt)
      have e2 := YL.out _ (List.getElem_mem hlt2)
      obtain ⟨x, hxe⟩ : ∃ x, x = a.ids[k] := ⟨_, rfl⟩
      obtain ⟨y, hye⟩ : ∃ y, y = b.ids[k] := ⟨_, rfl⟩
      rw [← hxe] at r1 e1
      rw [← hye] at r2 e2
      have R1 := Lib.hid (fun (w' : World) (h : ∃ n, w' = wr.drewN n) => (by obtain ⟨n, rfl⟩ := h; exact rangeAt_kept r1 (kp_drewN _ n) : w'.rangeAt g1 (o1 + k * 32) (U8s x)))
      have R2 := Lib.hid (fun (w' : World) (h : ∃ n, w' = wr.drewN n) => (by obtain ⟨n, rfl⟩ := h; exact rangeAt_kept r2 (kp_drewN _ n) : w'.rangeAt g2 (o2 + k * 32) (U8s y)))
      have E1 := Lib.hid e1
      have E2 := Lib.hid e2
      have HK1 := Lib.hid hkp
      have hne := HN.out x y e1 e2
      have HXE := Lib.hid hxe
      have HYE := Lib.hid hye
      clear r1 r2 e1 e2 hkp hxe hye
      go_upto_region 6 with fail
      refine wp_region_quiet_lit (by kernel_rfl) (by kernel_rfl) ?_
      repeat (first
        | go_big_quiet_skip
        | (go_big_quiet_want; refine quiet_load_part 37 _ rfl g1 (o1 + k * 32) rfl (U8s x) _ R1.out Try.underlying37 rfl (HI.out _ E1.out) ?_; (simp only [Act.put, List.setIfInBounds_toArray, List.set_cons_zero, List.set_cons_succ]); go_big_quiet_on)
        | (go_big_quiet_want; refine quiet_load_part 37 _ rfl g2 (o2 + k * 32) rfl (U8s y) _ R2.out Try.underlying37 rfl (HI.out _ E2.out) ?_; (simp only [Act.put, List.setIfInBounds_toArray, List.set_cons_zero, List.set_cons_succ]); go_big_quiet_on)
        | (go_big_quiet_want; go_big_quiet_op; go_big_quiet_on))
      refine wpQuiet_nil ?_
      rintro _ ⟨nq, rfl⟩
      have HK2 := Lib.hid (HK1.out.drewN nq)
      by_cases hxy : x = y
      · have HXY := Lib.hid hxy
        rw [decide_eq_true hxy]
        clear hxy
        go_wp2_with fail
        go_roundw
        case rel => exact ⟨k + 1, by omega, by go_num, HK2.out, Lib.hid (fun j hj hj' h => by
          rcases Nat.lt_or_ge j k with h' | h'
          · exact hsm.out j hj hj' h'
          · obtain rfl : j = k := by omega
            rw [← HXE.out, ← HYE.out]; exact HXY.out)⟩
        case measure => simp [intOf]; omega
      · have HXY := Lib.hid hxy
        rw [decide_eq_false hxy]
        clear hxy
        have HZ := Lib.hid (HSF.out (fun h => HXY.out (by rw [HXE.out, HYE.out]; simp only [h])))
        go_wp2_with fail
        go_ret
        exact ⟨by rw [HZ.out]; rfl, HK.out.trans HK2.out (fun _ _ f => f)⟩
    · obtain rfl : k = a.ids.length := by omega
      have HIE := Lib.hid (list_eq_of H3.out (fun i hi => hsm.out i hi _ hi))
      have HK1 := Lib.hid hkp
      clear hsm hkp
      go_wp2_with fail
      go_loopw [6] (fun i wr => ∃ k : Nat, k ≤ a.bl.length ∧ i = .int .i64 k ∧ Kp (fun _ => False) wc wr ∧ Hid (∀ (j : Nat) (hj : j < a.bl.length) (hj' : j < b.bl.length), j < k → a.bl[j] = b.bl[j])) (fun i _ => a.bl.length - (intOf i).toNat)
      case atStart => exact ⟨0, by omega, rfl, HK1.out, Lib.hid (fun j _ _ h => by omega)⟩
      case round =>
        obtain ⟨k, hk, rfl, hkp, hsm⟩ := hrel
        obtain ⟨_, _, z2, z3, _⟩ := (HA.out.old hkp).cells
        obtain ⟨_, _, u2, u3, _⟩ := (HB.out.old hkp).cells
        by_cases hlt : k < a.bl.length
        · have hlt2 : k < b.bl.length := by have := H4.out; omega
          obtain ⟨g1, o1, v1, rfl, t1, s1, hc1, hd1, _⟩ := (HXR.out.kept hkp (fun _ _ f => f)).at hlt
          obtain ⟨g2, o2, v2, rfl, t2, s2, hc2, hd2, _⟩ := (HYR.out.kept hkp (fun _ _ f => f)).at hlt2
          have hd1' : c2 ≤ 9223372036854775807 := hd1
          have hd2' : c4 ≤ 9223372036854775807 := hd2
          have hq := strOf_inj (XR.out _ (List.getElem_mem hlt)) (YR.out _ (List.getElem_mem hlt2))
          obtain ⟨b1, d1, rfl⟩ := sees_form s1
          obtain ⟨b2, d2, rfl⟩ := sees_form s2
          obtain ⟨x, hxe⟩ : ∃ x, x = a.bl[k] := ⟨_, rfl⟩
          obtain ⟨y, hye⟩ : ∃ y, y = b.bl[k] := ⟨_, rfl⟩
          rw [← hxe] at t1 s1 hq
          rw [← hye] at t2 s2 hq
          have S1 := fun n => run_string_of (s1.kept (kp_drewN _ n) (fun _ _ _ f => f))
          have S2 := fun n => run_string_of (s2.kept (kp_drewN _ n) (fun _ _ _ f => f))
          have HK2 := Lib.hid hkp
          have HXE := Lib.hid hxe
          have HYE := Lib.hid hye
          have HQ := Lib.hid hq
          clear s1 s2 hkp hxe hye
          by_cases hxy : x = y
          · rw [decide_eq_true hxy] at hq
            have HXY := Lib.hid hxy
            clear hxy
            go_wp2_with (go_quiet (fail))
            go_roundw
            case rel => exact ⟨k + 1, by omega, by go_num, HK2.out.drewN _, Lib.hid (fun j hj hj' h => by
              rcases Nat.lt_or_ge j k with h' | h'
              · exact hsm.out j hj hj' h'
              · obtain rfl : j = k := by omega
                rw [← HXE.out, ← HYE.out]; exact HXY.out)⟩
            case measure => simp [intOf]; omega
          · rw [decide_eq_false hxy] at hq
            have HZ := Lib.hid (HSF.out (fun h => hxy (by rw [HXE.out, HYE.out]; simp only [h])))
            clear hxy
            go_wp2_with (go_quiet (fail))
            go_ret
            exact ⟨by rw [HZ.out]; rfl, HK.out.trans (HK2.out.drewN _) (fun _ _ f => f)⟩
        · obtain rfl : k = a.bl.length := by omega
          have HZ := Lib.hid (HST.out (by
            have e1 := list_eq_of H4.out (fun i hi => hsm.out i hi _ hi)
            have e2 := HIE.out
            have e3 := H1.out
            have e4 := H2.out
            cases a; cases b
            simp_all))
          have HK2 := Lib.hid hkp
          clear hsm hkp
          go_wp2_with fail
          go_ret
          exact ⟨by rw [HZ.out]; rfl, HK.out.trans HK2.out (fun _ _ f => f)⟩
end Go.Proofs.Ytleapcbkkggecaa
