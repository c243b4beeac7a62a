/-
  MsgApart: what no other message's bytes begin with; the law's walk.
-/
import Derived.Test.YtocjcknofalkfaaMg
import Derived.Test.YtocjcknofalkfaaMz
import Derived.Test.YtocjcknofalkfaaBc
import Derived.Test.YtocjcknofalkfaaMr
namespace Go.Proofs.Ytocjcknofalkfaa
open Go.ChangeShapes Go.WideShapes Go.ChangeAt Go.RowKit
variable {A A' : Nat → Prop}

theorem wf_u16' {x : Int} (h : (Lit.int .u16 x).wf = true) : 0 ≤ x ∧ x ≤ 65535 := by simpa [Lit.wf, IntKind.min, IntKind.max, IntKind.signed, IntKind.bits] using h
theorem form_end {m : Ms} (hw : m.wf) (hok : okM m = true) (t : List Int) : pEnd (form m ++ t) = (t, 0) := by
  obtain ⟨hr0, hr1, hf⟩ := okM_parts hok
  have hk := kind_bd (k := m.k) (fun e => by rw [e] at hf; cases hf)
  have hbd := ldOf_bd m.k
  have e0 : form m ++ t = be 1 m.k ++ (be 4 m.r ++ (m.rows.flatten ++ t)) := by simp [form, List.append_assoc]
  obtain ⟨g1, g2⟩ := tk_app (x := be 1 m.k) (rest := be 4 m.r ++ (m.rows.flatten ++ t)) (n := 1) (be_length _ _)
  obtain ⟨g3, g4⟩ := tk_app (x := be 4 m.r) (rest := m.rows.flatten ++ t) (n := 4) (be_length _ _)
  have p1 : (256 : Int) ^ 1 = 256 := by decide
  have s1 : pS1 (form m ++ t) = (be 4 m.r ++ (m.rows.flatten ++ t), 0) := by unfold pS1; rw [e0]; exact g2
  have s2 : pS2 (form m ++ t) = (m.rows.flatten ++ t, 0) := by unfold pS2; rw [s1]; exact g4
  have v1 : pK (form m ++ t) = m.k := by
    unfold pK
    rw [e0]
    refine (congrArg val g1).trans ?_
    rw [val_be _ _ (by omega)]; omega
  unfold pEnd
  rw [v1, s2]
  unfold Ms.rows
  cases hl : ldOf m.k with
  | no => rw [hl] at hf; cases hf
  | nm a c =>
    rw [hl] at hf
    obtain ⟨h1, h2, h3⟩ := fits_nm hf
    obtain ⟨_, h4⟩ := hbd.1 a c hl
    have hn := takeN_app m.ids t (fun x hx => (hw.idl x hx).1) m.ids.length (Nat.le_refl _)
    rw [List.take_length, List.drop_length] at hn
    simp only [ldEnd, List.flatten_append, List.append_assoc]
    rw [cntS_app _ h1 h2 (by omega)]
    simp only []
    rw [hn]
    rfl
  | bl a c =>
    rw [hl] at hf
    obtain ⟨h1, h2, h3, h5⟩ := fits_bl hf
    obtain ⟨_, h4⟩ := hbd.2 a c hl
    have hn := takeB_app m.bl t h5 m.bl.length (Nat.le_refl _)
    rw [List.take_length, List.drop_length] at hn
    simp only [ldEnd, List.flatten_append, List.append_assoc]
    rw [cntS_app _ h1 h2 (by omega)]
    simp only []
    rw [hn]
    rfl
theorem form_free {a m : Ms} (ha : a.wf) (oa : okM a = true) (hm : m.wf) (om : okM m = true) {t : List Int} (h : form m = form a ++ t) : t = [] := by
  have h1 := form_end ha oa t
  have h2 := form_end hm om []
  rw [List.append_nil, h] at h2
  rw [h1] at h2
  exact congrArg Prod.fst h2
theorem form_inj {a b : Ms} (ha : a.wf) (oa : okM a = true) (hb : b.wf) (ob : okM b = true) : form a = form b ↔ a = b := by
  constructor
  · intro h
    have h1 := (form_pM ha oa).2
    have h2 := (form_pM hb ob).2
    rw [h] at h1
    exact h1.symm.trans h2
  · rintro rfl; rfl
theorem prs_more {a : Ms} (ha : a.wf) (oa : okM a = true) {t : List Int} (ht : Rng t) (hne : t ≠ []) : prs (form a ++ t) = (ms0, 40) :=
  prs_of_none ((form_rng ha).append ht) (fun _ hm om h => hne (form_free ha oa hm om h))
theorem prs_less {a : Ms} (ha : a.wf) (oa : okM a = true) {k : Nat} (hk : k < (form a).length) : prs ((form a).take k) = (ms0, 40) :=
  prs_of_none (fun x hx => form_rng ha x (List.mem_of_mem_take hx)) (fun _ hm om h => by
    have e : form a = _ ++ (form a).drop k := (by rw [h, List.take_append_drop] : form a = form _ ++ (form a).drop k)
    have := form_free hm om ha oa e
    have h2 := congrArg List.length this
    rw [List.length_drop] at h2
    simp at h2
    omega)
theorem form_pos (m : Ms) : 5 ≤ (form m).length := by
  simp only [form, List.length_append, be_length]
  omega

set_option maxRecDepth 100000 in
set_option maxHeartbeats 6400000 in
theorem apart_law {ua ub vi vb v : Value} {a b : Ms} {t : List Int} {h : Int} {w : World} (ha : a.wf) (sa : SeesM A w ua ub a) (hb : b.wf) (sb : SeesM A' w vi vb b) (ht : Sees w v t) (hr : Rng t) (hh : 0 ≤ h ∧ h ≤ 65535) :
    Calls Try.prog 8 #[msV a.k a.r ua ub, msV b.k b.r vi vb, v, .int .u16 h] w fun e w' => e = .returned (.bool true) ∧ Kp (fun _ => False) w w' := by
  obtain ⟨a1, c1, rfl, hm1⟩ := sa.i.form
  obtain ⟨a2, c2, rfl, hm2⟩ := sa.b.form
  obtain ⟨a3, c3, rfl, hm3⟩ := sb.i.form
  obtain ⟨a4, c4, rfl, hm4⟩ := sb.b.form
  obtain ⟨at', ct, rfl⟩ := sees_form ht
  have k1 : Kp (fun _ => False) w (w.alloc (.cells #[.int .i64 a.k, .int .i64 a.r, .slice a1 a.ids.length c1, .slice a2 a.bl.length c2] 25)) := (Kp.refl _ _).alloc _
  have k2 : Kp (fun _ => False) (w.alloc (.cells #[.int .i64 a.k, .int .i64 a.r, .slice a1 a.ids.length c1, .slice a2 a.bl.length c2] 25)) _ := (Kp.refl _ _).alloc (.cells #[.int .i64 b.k, .int .i64 b.r, .slice a3 b.ids.length c3, .slice a4 b.bl.length c4] 25)
  have hA := (MsAt.new w a.k a.r (.slice a1 a.ids.length c1) (.slice a2 a.bl.length c2)).old k2
  have hB := MsAt.new (w.alloc (.cells #[.int .i64 a.k, .int .i64 a.r, .slice a1 a.ids.length c1, .slice a2 a.bl.length c2] 25)) b.k b.r (.slice a3 b.ids.length c3) (.slice a4 b.bl.length c4)
  rw [World.size_alloc] at hB
  have k12 := k1.trans k2 (fun _ _ f => f)
  have HSA := Lib.hid (sa.old k12)
  have HSB := Lib.hid (sb.old k12)
  have HST := Lib.hid (ht.kept k12 (fun _ _ _ f => f))
  have HA := Lib.hid hA
  have HB := Lib.hid hB
  have K0 := Lib.hid k12
  have WA := Lib.hid ha
  have WB := Lib.hid hb
  have HR := Lib.hid hr
  have HG := Lib.hid (fun w => begun_any w)
  have HFA := Lib.hid (fun w' (k : Kp (fun _ => False) _ w') => few_any (HSA.out.old k))
  have HFB := Lib.hid (fun w' (k : Kp (fun _ => False) _ w') => few_any (HSB.out.old k))
  have HXA := Lib.hid (fun w' (k : Kp (fun _ => False) _ w') => mbytes_any WA.out (HSA.out.old k))
  have HXB := Lib.hid (fun w' (k : Kp (fun _ => False) _ w') => mbytes_any WB.out (HSB.out.old k))
  have HSS := Lib.hid (fun w' (k : Kp (fun _ => False) _ w') => msame_any (HSA.out.old k) (HSB.out.old k) WA.out WB.out)
  unfold msV at HFA HFB HXA HXB HSS
  clear sa sb ht ha hb hr k1 k2 k12 hA hB
  obtain ⟨wc, hwc⟩ : ∃ wc, wc = ((w.alloc (.cells #[.int .i64 a.k, .int .i64 a.r, .slice a1 a.ids.length c1, .slice a2 a.bl.length c2] 25)).alloc (.cells #[.int .i64 b.k, .int .i64 b.r, .slice a3 b.ids.length c3, .slice a4 b.bl.length c4] 25)) := ⟨_, rfl⟩
  go_enter Try.func8, Try.ntmps8
  unfold msV
  go_wp2_with fail
  rw [← hwc] at HSA HSB HST HA HB K0 HFA HFB HXA HXB HSS ⊢
  clear hwc
  refine (HG.out _).mono ?_
  rintro e w1 ⟨rfl, k1⟩
  have K1 := Lib.hid k1
  obtain ⟨x0, x1, x2, x3, _⟩ := (HA.out.old k1).cells
  clear k1
  go_wp2_with fail
  refine (HFA.out _ K1.out).mono ?_
  rintro e w2 ⟨rfl, k2⟩
  have K2 := Lib.hid (K1.out.trans k2 (fun _ _ f => f))
  obtain ⟨y0, y1, y2, y3, _⟩ := (HB.out.old K2.out).cells
  obtain ⟨f, hf⟩ : ∃ f, f = fewM a := ⟨_, rfl⟩
  rw [← hf]
  clear k2 hf
  cases f
  · go_wp2_with fail
    refine (HG.out _).mono ?_
    rintro e w3 ⟨rfl, k3⟩
    have K3 := Lib.hid (K2.out.trans k3 (fun _ _ f => f))
    clear k3
    go_wp2_with fail
    go_ret
    exact ⟨rfl, K0.out.trans K3.out (fun _ _ f => f)⟩
  go_wp2_with fail
  refine (HFB.out _ K2.out).mono ?_
  rintro e w3 ⟨rfl, k3⟩
  have K3 := Lib.hid (K2.out.trans k3 (fun _ _ f => f))
  obtain ⟨f, hf⟩ : ∃ f, f = fewM b := ⟨_, rfl⟩
  rw [← hf]
  clear k3 hf
  cases f
  · go_wp2_with fail
    refine (HG.out _).mono ?_
    rintro e w4 ⟨rfl, k4⟩
    have K4 := Lib.hid (K3.out.trans k4 (fun _ _ f => f))
    clear k4
    go_wp2_with fail
    go_ret
    exact ⟨rfl, K0.out.trans K4.out (fun _ _ f => f)⟩
  by_cases hlen : 1000 < t.length
  · have hlen' : (1000 : Int) < t.length := by omega
    clear hlen
    go_wp2_with fail
    refine (HG.out _).mono ?_
    rintro e w4 ⟨rfl, k4⟩
    have K4 := Lib.hid (K3.out.trans k4 (fun _ _ f => f))
    clear k4
    go_wp2_with fail
    go_ret
    exact ⟨rfl, K0.out.trans K4.out (fun _ _ f => f)⟩
  have hlen' : ¬ (1000 : Int) < t.length := by omega
  have HTL := Lib.hid (show t.length ≤ 1000 by omega)
  obtain ⟨z0, z1, z2, z3, _⟩ := (HA.out.old K3.out).cells
  clear hlen
  go_wp2_with fail
  refine (HXA.out _ K3.out).mono ?_
  rintro e w4 ⟨v4, rfl, o4, k4⟩
  have K4 := Lib.hid (K3.out.trans k4 (fun _ _ f => f))
  obtain ⟨a5, c5, rfl⟩ := sees_form o4.sees
  have O4 := Lib.hid o4.sees
  obtain ⟨p0, p1, p2, p3, _⟩ := (HB.out.old K4.out).cells
  clear k4 o4
  go_wp2_with fail
  refine (HXB.out _ K4.out).mono ?_
  rintro e w5 ⟨v5, rfl, o5, k5⟩
  have K5 := Lib.hid (K4.out.trans k5 (fun _ _ f => f))
  obtain ⟨a6, c6, rfl⟩ := sees_form o5.sees
  have O5 := Lib.hid o5.sees
  have O45 := Lib.hid (O4.out.kept k5 (fun _ _ _ f => f))
  clear k5 o5
  by_cases oka : okM a = true
  rotate_left
  · rw [show chk a = 40 by unfold chk; rw [if_neg oka]]
    clear oka
    go_wp2_with fail
    go_ret
    exact ⟨rfl, K0.out.trans K5.out (fun _ _ f => f)⟩
  rw [show chk a = 0 by unfold chk; rw [if_pos oka]]
  by_cases okb : okM b = true
  rotate_left
  · rw [show chk b = 40 by unfold chk; rw [if_neg okb]]
    clear oka okb
    go_wp2_with fail
    go_ret
    exact ⟨rfl, K0.out.trans K5.out (fun _ _ f => f)⟩
  rw [show chk b = 0 by unfold chk; rw [if_pos okb]]
  have ea : msBytes a = form a := by unfold msBytes; rw [if_pos oka]
  have eb : msBytes b = form b := by unfold msBytes; rw [if_pos okb]
  rw [ea] at O4 O45 ⊢
  rw [eb] at O5 ⊢
  have OKA := Lib.hid oka
  have OKB := Lib.hid okb
  clear ea eb oka okb
  have hpq : decide (form a = form b) = sameM a b := by
    rw [Bool.eq_iff_iff, decide_eq_true_iff, sameM_iff]
    exact form_inj WA.out OKA.out WB.out OKB.out
  obtain ⟨p, hp⟩ : ∃ p, p = sameM a b := ⟨_, rfl⟩
  have HEQ := Lib.hid (fun w' (k : Kp (fun _ => False) w5 w') => equal_any (O45.out.kept k (fun _ _ _ f => f)) (O5.out.kept k (fun _ _ _ f => f)) (form_rng WA.out) (form_rng WB.out))
  rw [hpq, ← hp] at HEQ
  rw [← hp] at HSS
  have HMA := Lib.hid (fun w' (k : Kp (fun _ => False) w5 w') => (HA.out.old (K5.out.trans k (fun _ _ f => f)) : w'.heap[w.heap.size]? = some (.cells #[.int .i64 a.k, .int .i64 a.r, .slice a1 a.ids.length c1, .slice a2 a.bl.length c2] 25 (0, 0))))
  have HMB := Lib.hid (fun w' (k : Kp (fun _ => False) w5 w') => (HB.out.old (K5.out.trans k (fun _ _ f => f)) : w'.heap[w.heap.size + 1]? = some (.cells #[.int .i64 b.k, .int .i64 b.r, .slice a3 b.ids.length c3, .slice a4 b.bl.length c4] 25 (0, 0))))
  have HS5 := Lib.hid (fun w' (k : Kp (fun _ => False) w5 w') => HSS.out w' (K5.out.trans k (fun _ _ f => f)))
  obtain ⟨La, hLa⟩ : ∃ La, La = form a := ⟨_, rfl⟩
  obtain ⟨Lb, hLb⟩ : ∃ Lb, Lb = form b := ⟨_, rfl⟩
  rw [← hLa] at HEQ O4 O45 ⊢
  rw [← hLb] at HEQ O5 ⊢
  have HLA := Lib.hid hLa
  clear hpq hp hLa hLb
  go_upto_region 7 with fail
  refine wp_kept (W := w5) (by kernel_rfl) (by kernel_rfl) (Kp.refl _ _) ?_
  repeat (first
    | go_big_quiet_skip
    | (go_big_quiet_want; refine quiet_load_row 25 _ rfl w.heap.size rfl 25 _ (0, 0) _ HMA.out Try.underlying25 rfl (infoMs _ _ _ _) ?_; (simp only [Act.put, List.setIfInBounds_toArray, List.set_cons_zero, List.set_cons_succ]); go_big_quiet_on)
    | (go_big_quiet_want; refine quiet_load_row 25 _ rfl (w.heap.size + 1) rfl 25 _ (0, 0) _ HMB.out Try.underlying25 rfl (infoMs _ _ _ _) ?_; (simp only [Act.put, List.setIfInBounds_toArray, List.set_cons_zero, List.set_cons_succ]); go_big_quiet_on)
    | (go_big_quiet_want; go_big_quiet_op; first | go_big_quiet_on | go_big_quiet_call ((intro hk; first
        | with_reducible rfl
        | (go_at_call 20; exact (HEQ.out _ hk).mono (fun e w' h => ⟨h.1, h.2 ▸ hk⟩))
        | (go_at_call 16; exact (HS5.out _ hk).mono (fun e w' h => ⟨h.1, hk.trans h.2 (fun _ _ f => f)⟩))))))
  refine wpQuiet_nil ?_
  intro w6 k6
  have K6 := Lib.hid (K5.out.trans k6 (fun _ _ f => f))
  have O6 := Lib.hid (O45.out.kept k6 (fun _ _ _ f => f))
  have hcl := bclone_any O6.out (by have := form_len WA.out OKA.out; have := HLA.out; subst this; omega)
  unfold NewB at hcl
  have HCL := Lib.hid hcl
  clear k6 hcl
  have hpp : ∀ (x : Bool), (x != x) = false := fun x => by cases x <;> rfl
  have hpp' := hpp p
  clear hpp
  go_wp2_with fail
  refine HCL.out.mono ?_
  rintro e w7 ⟨v7, rfl, o7, k7⟩
  have K7 := Lib.hid (K6.out.trans k7 (fun _ _ f => f))
  have hll : La.length ≤ 4009 := by rw [HLA.out]; exact form_len WA.out OKA.out
  have hlp : 5 ≤ La.length := by rw [HLA.out]; exact form_pos a
  obtain ⟨v8, w8, hap, o8, k8, _⟩ := run_append_by k7.size o7 (HST.out.kept K7.out (fun _ _ _ f => f)) (by have := HTL.out; omega)
  have hk8 : Kp (fun _ => False) wc w8 := K7.out.trans k8 (fun x hx e => by have h1 := (o7.lt x e).1; have h2 := K6.out.size; omega)
  have h68 : Sees w8 (.slice a5 La.length c5) La := (O6.out.kept k7 (fun _ _ _ f => f)).kept k8 (fun hne g hg e => by have h1 := (o7.lt g e).1; have h2 := O6.out.lt hne g hg; omega)
  obtain ⟨a7, c7, rfl⟩ := sees_form o7.sees
  obtain ⟨a8, c8, rfl⟩ := sees_form o8.sees
  have hr8 : Rng (La ++ t) := by rw [HLA.out]; exact (form_rng WA.out).append HR.out
  have hp8 := mparse_any hr8 (by rw [List.length_append]; have := HTL.out; omega) o8.sees
  unfold MsIn at hp8
  obtain ⟨z8, hz8⟩ : ∃ z8, z8 = (prs (La ++ t)).2 := ⟨_, rfl⟩
  have hzc : (z8 = 0 ∧ ((t.length : Int) == 0) = true) ∨ (z8 = 40 ∧ ((t.length : Int) == 0) = false) := by
    by_cases ht : t = []
    · left
      refine ⟨?_, by rw [ht]; rfl⟩
      rw [hz8, ht, List.append_nil, prs_of_good WA.out OKA.out HLA.out.symm]
    · right
      refine ⟨by rw [hz8, HLA.out, prs_more WA.out OKA.out HR.out ht], ?_⟩
      rw [len_eq0, decide_eq_false (fun h => ht (List.eq_nil_of_length_eq_zero h))]
  rw [← hz8] at hp8
  obtain ⟨L8, hL8⟩ : ∃ L8, L8 = La ++ t := ⟨_, rfl⟩
  rw [← hL8] at hp8 hap
  have HAP := Lib.hid hap
  have HP8 := Lib.hid hp8
  have K8 := Lib.hid hk8
  have H68 := Lib.hid h68
  clear hp8 hap hk8 h68 k7 k8 o7 o8 hz8 hL8 hr8
  go_wp2_with ((with_reducible refine at_dst 58 ?_); refine Lib.wpList_append_run _ rfl _ _ _ _ rfl _ _ rfl rfl _ _ (HAP.out _) ?_)
  refine HP8.out.mono ?_
  rintro e w9 ⟨vi9, vb9, rfl, _, k9⟩
  have K9 := Lib.hid (K8.out.trans k9 (fun _ _ f => f))
  have hs9 := H68.out.kept k9 (fun _ _ _ f => f)
  obtain ⟨g5, o5, c5', he5, hlc5, hcm5⟩ := hs9.lit (by rintro rfl; simp at hlp)
  injection he5 with e1 _ e3
  subst e1 e3
  obtain ⟨kk, hkk, hkl⟩ : ∃ kk : Nat, h.tmod (La.length : Int) = kk ∧ kk < La.length := ⟨(h % (La.length : Int)).toNat, by
    rw [Int.tmod_eq_emod_of_nonneg hh.1, Int.toNat_of_nonneg (Int.emod_nonneg _ (by omega))], by
    have h1 := Int.emod_lt_of_pos h (show (0 : Int) < La.length by omega)
    have h2 := Int.emod_nonneg h (show (La.length : Int) ≠ 0 by omega)
    omega⟩
  have hne0 : (La.length : Int) ≠ 0 := by omega
  have hp10 := mparse_any (b := La.take kk) (fun x hx => by rw [HLA.out] at hx; exact form_rng WA.out x (List.mem_of_mem_take hx)) (by rw [List.length_take]; omega) (sees_take hs9 kk (by omega))
  unfold MsIn at hp10
  rw [HLA.out, prs_less WA.out OKA.out (by rw [← HLA.out]; exact hkl)] at hp10
  have HP10 := Lib.hid hp10
  have hcm5' : c5 ≤ 9223372036854775807 := hcm5
  have hkc : kk ≤ c5 := by omega
  have hh1 := hh.1
  have hh2 := hh.2
  clear hp10 hs9 k9 hcm5
  go_wp2_with fail
  refine HP10.out.mono ?_
  rintro e w11 ⟨vi11, vb11, rfl, _, k11⟩
  have K11 := Lib.hid (K9.out.trans k11 (fun _ _ f => f))
  clear k11
  rcases hzc with ⟨rfl, ht0⟩ | ⟨rfl, ht0⟩
  · go_wp2_with fail
    go_ret
    exact ⟨by first | rfl | simp, K0.out.trans K11.out (fun _ _ f => f)⟩
  · go_wp2_with fail
    go_ret
    exact ⟨by first | rfl | simp, K0.out.trans K11.out (fun _ _ f => f)⟩
end Go.Proofs.Ytocjcknofalkfaa
