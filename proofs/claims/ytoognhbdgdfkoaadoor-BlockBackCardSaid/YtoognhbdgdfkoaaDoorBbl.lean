/-
  BlockBack's walk.
-/
import Derived.Test.YtoognhbdgdfkoaaDoorBs
import Derived.Test.YtoognhbdgdfkoaaDoorBpa
import Derived.Test.YtoognhbdgdfkoaaDoorBpi
import Derived.Test.YtoognhbdgdfkoaaDoorQk
namespace Go.Proofs.YtoognhbdgdfkoaaDoor
open Go.ChangeShapes Go.WideShapes Go.ChangeAt Go.RowKit

set_option maxRecDepth 100000 in
set_option maxHeartbeats 6400000 in
theorem back_law {a b : Blk} {va vb vd : Value} {d : List Int} (ha : a.wf) (hb : b.wf) (hd : Rng d) (w : World) (sa : Sees w va a.d) (sb : Sees w vb b.d) (sd : Sees w vd d) (hR : Rts w) :
    Calls Tryd.prog 6 #[blkV a va, blkV b vb, vd] w fun e w' => e = .returned (.bool true) ∧ Kp (fun _ => False) w w' := by
  obtain ⟨a1, c1, rfl⟩ := sees_form sa
  obtain ⟨a2, c2, rfl⟩ := sees_form sb
  obtain ⟨a0, c0, rfl⟩ := sees_form sd
  obtain ⟨hA, hB⟩ := two_at w ha.nm.len hb.nm.len (.slice a1 a.d.length c1) (.slice a2 b.d.length c2)
  have k1 : Kp (fun _ => False) w ((w.alloc (.cells (blkC a (.slice a1 a.d.length c1)).toArray 26)).alloc (.cells (blkC b (.slice a2 b.d.length c2)).toArray 26)) := ((Kp.refl _ _).alloc _).alloc _
  have SA := Lib.hid (fun w' (k : Kp (fun _ => False) w w') => sa.kept k (fun _ _ _ f => f))
  have SB := Lib.hid (fun w' (k : Kp (fun _ => False) w w') => sb.kept k (fun _ _ _ f => f))
  have SD := Lib.hid (fun w' (k : Kp (fun _ => False) w w') => sd.kept k (fun _ _ _ f => f))
  have HR := Lib.hid (fun w' (k : Kp (fun _ => False) w w') => hR.kept k (fun _ _ f => f))
  have IA := Lib.hid (fun v => infoBlk ha.nm.len v)
  have IB := Lib.hid (fun v => infoBlk hb.nm.len v)
  have WA := Lib.hid ha
  have WB := Lib.hid hb
  have WD := Lib.hid hd
  have HA := Lib.hid hA
  have HB := Lib.hid hB
  have K1 := Lib.hid k1
  have hz := zeroBlk
  have HMK := Lib.hid (fun w => mks2 ha.nm.len hb.nm.len (.slice a1 a.d.length c1) (.slice a2 b.d.length c2) w)
  have HSH := Lib.hid (show shortB [(a, .slice a1 a.d.length c1), (b, .slice a2 b.d.length c2)] = true → a.d.length ≤ 3000 ∧ b.d.length ≤ 3000 from fun h => by
    simp [shortB] at h; omega)
  clear sa sb sd hA hB ha hb hd k1 hR
  go_enter Tryd.func6, Tryd.ntmps6
  unfold blkV
  go_wp2_with fail
  refine (blive_any _ (HR.out _ K1.out)).mono ?_
  rintro e w1 ⟨rfl, k⟩
  have A1 := Lib.hid (HA.out.kept k (fun f => f))
  have B1 := Lib.hid (HB.out.kept k (fun f => f))
  have K2 := Lib.hid (K1.out.trans k (fun _ _ f => f))
  clear k
  go_wp2_with (first
    | ((with_reducible refine at_dst 19 ?_); refine wpList_load_want rfl 26 _ rfl (w.heap.size) rfl 26 _ (0, 0) _ A1.out.row Tryd.underlying26 rfl (IA.out _) ?_)
    | ((with_reducible refine at_dst 20 ?_); refine wpList_load_want rfl 26 _ rfl (w.heap.size + 1) rfl 26 _ (0, 0) _ B1.out.row Tryd.underlying26 rfl (IB.out _) ?_)
    | ((with_reducible refine at_dst 21 ?_); refine wpList_slice_run rfl _ _ _ rfl _ rfl _ _ (HMK.out _) ?_))
  have kr : Kp (fun _ => False) w1 (w1.alloc (.cells (blkC a (.slice a1 a.d.length c1) ++ blkC b (.slice a2 b.d.length c2)).toArray 26)) := (Kp.refl _ w1).alloc _
  refine (short_any (two_row w1 (.slice a1 a.d.length c1) (.slice a2 b.d.length c2) WA.out.nm.len WB.out.nm.len) (fun x hx => ?_)).mono ?_
  · simp only [List.mem_cons, List.not_mem_nil, or_false] at hx
    rcases hx with rfl | rfl
    · exact ⟨WA.out, SA.out _ (K2.out.trans kr (fun _ _ f => f))⟩
    · exact ⟨WB.out, SB.out _ (K2.out.trans kr (fun _ _ f => f))⟩
  rintro e w2 ⟨rfl, k⟩
  have A2 := Lib.hid ((A1.out.kept kr (fun f => f)).kept k (fun f => f))
  have B2 := Lib.hid ((B1.out.kept kr (fun f => f)).kept k (fun f => f))
  have K3 := Lib.hid ((K2.out.trans kr (fun _ _ f => f)).trans k (fun _ _ f => f))
  clear k kr A1 B1
  obtain ⟨sh, hsh⟩ : ∃ sh, sh = shortB [(a, .slice a1 a.d.length c1), (b, .slice a2 b.d.length c2)] := ⟨_, rfl⟩
  rw [← hsh] at HSH ⊢
  clear hsh
  have hsd : sh = false ∨ (sh = true ∧ decide ((3000 : Int) < d.length) = true) ∨ (sh = true ∧ decide ((3000 : Int) < d.length) = false) := by
    cases sh <;> simp
    omega
  rcases hsd with rfl | ⟨rfl, hdl⟩ | ⟨rfl, hdl⟩
  · go_wp2_with fail
    refine (blive_any _ (HR.out _ K3.out)).mono ?_
    rintro e w3 ⟨rfl, k⟩
    have K4 := Lib.hid (K3.out.trans k (fun _ _ f => f))
    clear k
    go_wp2_with fail
    go_ret
    exact ⟨rfl, K4.out⟩
  · go_wp2_with fail
    refine (blive_any _ (HR.out _ K3.out)).mono ?_
    rintro e w3 ⟨rfl, k⟩
    have K4 := Lib.hid (K3.out.trans k (fun _ _ f => f))
    clear k
    go_wp2_with fail
    go_ret
    exact ⟨rfl, K4.out⟩
  have HL := Lib.hid (HSH.out rfl)
  have hdm : d.length ≤ 3000 := by simp at hdl; omega
  clear HSH
  have QA := Lib.hid (fun w' hs => blbytes_any (w := w') (v := .slice a1 a.d.length c1) WA.out hs)
  have QB := Lib.hid (fun w' hs => blbytes_any (w := w') (v := .slice a2 b.d.length c2) WB.out hs)
  unfold BytesP at QA QB
  have hca := bchk_cases a
  have hcb := bchk_cases b
  have HPA := Lib.hid (fun h => pB_bbytes (a := a) WA.out h)
  have HIN := Lib.hid (fun h1 h2 => bbytes_inj (a := a) (b := b) WA.out WB.out h1 h2)
  have HLA := Lib.hid (bbytes_length WA.out.nm.len)
  have HRA := Lib.hid (bbytes_rng WA.out)
  have HCA := Lib.hid (fun (h : bchk a = 0) => (rfl : a = a))
  -- Parse of any bytes
  have WX := Lib.hid (orpB_wf WD.out)
  have QP := Lib.hid (fun w' hs => parse3_any (w := w') (v := .slice a0 d.length c0) WD.out (by omega) hs)
  have HPC := Lib.hid (show (pE d = 0 ∧ True) ∨ pE d = 30 from (pE_cases d).imp (fun h => ⟨h.1, trivial⟩) id)
  have hpx : True → pE d = 0 → bchk (orBlk (pB d) (pE d)) = 0 ∧ bbytes (orBlk (pB d) (pE d)) = d := fun _ h => by
    rcases pE_cases d with h1 | h1
    · rw [h]; exact ⟨h1.2.1, h1.2.2.1⟩
    · rw [h] at h1; cases h1
  obtain ⟨pe, hpe⟩ : ∃ pe, pe = pE d := ⟨_, rfl⟩
  rw [← hpe] at WX QP HPC hpx
  obtain ⟨x, hx⟩ : ∃ x, x = orBlk (pB d) pe := ⟨_, rfl⟩
  rw [← hx] at WX QP hpx
  have IX := Lib.hid (fun v => infoBlk WX.out.nm.len v)
  have HPX0 := Lib.hid hpx
  clear hpe hx hpx hdm
  obtain ⟨ea, hea⟩ : ∃ e, e = bchk a := ⟨_, rfl⟩
  obtain ⟨eb, heb⟩ : ∃ e, e = bchk b := ⟨_, rfl⟩
  rw [← hea] at QA hca HPA HIN
  rw [← heb] at QB hcb HIN
  have HEA := Lib.hid hea
  clear hea heb
  have HPX := Lib.hid (fun (h : True) => HPX0.out h)
  rcases hca with rfl | rfl
  · have HPO := Lib.hid (HPA.out rfl)
    rcases hcb with rfl | rfl
    · have HINJ := Lib.hid (HIN.out rfl rfl)
      clear HPX0 HPA HIN
      go_wp2_with ((with_reducible refine at_dst 32 ?_); refine wpList_load_row rfl 26 _ rfl (w.heap.size) rfl 26 _ (0, 0) _ A2.out.row Tryd.underlying26 rfl (IA.out _) ?_)
      refine (QA.out _ (SA.out _ K3.out)).mono ?_
      rintro e w4 ⟨v4, rfl, own, k⟩
      replace own : OwnB w4 _ v4 (bbytes a) := own
      obtain ⟨a4, c4, rfl⟩ := sees_form own.sees
      have BX4 := Lib.hid own
      have A4 := Lib.hid (A2.out.kept k (fun f => f))
      have B4 := Lib.hid (B2.out.kept k (fun f => f))
      have K5 := Lib.hid (K3.out.trans k (fun _ _ f => f))
      clear own k
      go_wp2_with ((with_reducible refine at_dst 37 ?_); refine wpList_load_row rfl 26 _ rfl (w.heap.size + 1) rfl 26 _ (0, 0) _ B4.out.row Tryd.underlying26 rfl (IB.out _) ?_)
      refine (QB.out _ (SB.out _ K5.out)).mono ?_
      rintro e w5 ⟨v5, rfl, own, k⟩
      replace own : OwnB w5 _ v5 (bbytes b) := own
      obtain ⟨a5, c5, rfl⟩ := sees_form own.sees
      have BY5 := Lib.hid own
      have BX5 := Lib.hid (BX4.out.kept k (fun _ _ f => f))
      have A5 := Lib.hid (A4.out.kept k (fun f => f))
      have B5 := Lib.hid (B4.out.kept k (fun f => f))
      have K6 := Lib.hid (K5.out.trans k (fun _ _ f => f))
      clear own k A4 B4 BX4
      go_wp2_with fail
      have qp := parse3_any (w := w5) HRA.out (by rw [HLA.out]; have := HL.out.1; omega) BX5.out.sees
      rw [show pE (bbytes a) = 0 by unfold pE; rw [if_pos HPO.out.1], HPO.out.2] at qp
      refine qp.mono ?_
      intro e w6 hq
      obtain ⟨v6, rfl, own, k⟩ := (show NewBlkE _ a 0 e w6 from hq)
      obtain ⟨a6, c6, rfl⟩ := sees_form own.sees
      have O6 := Lib.hid own
      have BY6 := Lib.hid (BY5.out.kept k (fun _ _ f => f))
      have BX6 := Lib.hid (BX5.out.kept k (fun _ _ f => f))
      have A6 := Lib.hid (A5.out.kept k (fun f => f))
      have B6 := Lib.hid (B5.out.kept k (fun f => f))
      have K7 := Lib.hid (K6.out.trans k (fun _ _ f => f))
      clear hq own k
      unfold blkV
      go_upto_region 7 with ((with_reducible refine at_store 11 46 ?_); refine wpList_store_fresh rfl 26 _ _ rfl (blkC a (.slice a6 a.d.length c6)).toArray rfl rfl 26 _ (IA.out _) (by rw [List.size_toArray, List.size_toArray, blkC_length WA.out.nm.len]; rfl) blkC_one ?_; intro w7 k7 m7 s7; have C7 := Lib.hid (BlkAt.mk m7 WA.out.nm.len); have O7 := Lib.hid (O6.out.kept k7 (fun _ _ f => f)); have BY7 := Lib.hid (BY6.out.kept k7 (fun _ _ f => f)); have BX7 := Lib.hid (BX6.out.kept k7 (fun _ _ f => f)); have A7 := Lib.hid (A6.out.kept k7 (fun f => f)); have B7 := Lib.hid (B6.out.kept k7 (fun f => f)); have K8 := Lib.hid (K7.out.trans k7 (fun _ _ f => f)); clear s7; clear m7 k7)
      have QS := Lib.hid (same_any WA.out WA.out O7.out.sees (SA.out _ K8.out))
      rw [decide_eq_true rfl] at QS
      go_wp2_with (first
        | ((with_reducible refine at_dst 51 ?_); refine wpList_load_want rfl 26 _ rfl (w6.heap.size) rfl 26 _ (0, 0) _ C7.out.row Tryd.underlying26 rfl (IA.out _) ?_)
        | ((with_reducible refine at_dst 52 ?_); refine wpList_load_want rfl 26 _ rfl (w.heap.size) rfl 26 _ (0, 0) _ A7.out.row Tryd.underlying26 rfl (IA.out _) ?_))
      refine QS.out.mono ?_
      rintro e w8 ⟨rfl, k⟩
      have A8 := Lib.hid (A7.out.kept k (fun f => f))
      have B8 := Lib.hid (B7.out.kept k (fun f => f))
      have BX8 := Lib.hid (BX7.out.kept k (fun _ _ f => f))
      have BY8 := Lib.hid (BY7.out.kept k (fun _ _ f => f))
      have K9 := Lib.hid (K8.out.trans k (fun _ _ f => f))
      have c33 := A8.out.dat
      have hlx := HLA.out
      have hle : (((bbytes a).length : Int) != 46 + (a.d.length : Int)) = false := by simp; omega
      have hsm := HL.out.1
      clear k hlx
      go_wp2_with fail
      clear hle hsm c33
      have LA := Lib.hid (fun w' (k : Kp (fun _ => False) w8 w') => (A8.out.kept k (fun f => f)).row)
      have LB := Lib.hid (fun w' (k : Kp (fun _ => False) w8 w') => (B8.out.kept k (fun f => f)).row)
      have q1 := fun w' (k : Kp (fun _ => False) w8 w') => equal_any (BX8.out.kept k (fun _ _ f => f)).sees (BY8.out.kept k (fun _ _ f => f)).sees (bbytes_rng WA.out) (bbytes_rng WB.out)
      have q2 := fun w' (k : Kp (fun _ => False) w8 w') => same_any WA.out WB.out (SA.out _ (K9.out.trans k (fun _ _ f => f))) (SB.out _ (K9.out.trans k (fun _ _ f => f)))
      rw [show decide (bbytes a = bbytes b) = decide (a = b) by rw [Bool.eq_iff_iff]; simp only [decide_eq_true_eq]; exact HINJ.out] at q1
      obtain ⟨zz, hzz⟩ : ∃ z, z = decide (a = b) := ⟨_, rfl⟩
      rw [← hzz] at q1 q2
      have Q1 := Lib.hid q1
      have Q2 := Lib.hid q2
      clear q1 q2 hzz
      unfold blkV at Q2
      obtain ⟨g0, hg0⟩ : ∃ g, g = w.heap.size := ⟨_, rfl⟩
      obtain ⟨g1, hg1⟩ : ∃ g, g = w.heap.size + 1 := ⟨_, rfl⟩
      rw [← hg1, ← hg0]
      rw [← hg0] at LA
      rw [← hg1] at LB
      refine wp_kept (W := w8) (by kernel_rfl) (by kernel_rfl) (Kp.refl _ _) ?_
      repeat (first
        | go_big_quiet_skip
        | (go_big_quiet_want; refine quiet_load_row 26 _ rfl g0 rfl 26 _ (0, 0) _ LA.out Tryd.underlying26 rfl (IA.out _) ?_; (simp only [Act.put, List.setIfInBounds_toArray, List.set_cons_zero, List.set_cons_succ]); go_big_quiet_on)
        | (go_big_quiet_want; refine quiet_load_row 26 _ rfl g1 rfl 26 _ (0, 0) _ LB.out Tryd.underlying26 rfl (IB.out _) ?_; (simp only [Act.put, List.setIfInBounds_toArray, List.set_cons_zero, List.set_cons_succ]); go_big_quiet_on)
        | (go_big_quiet_want; go_big_quiet_op; first | go_big_quiet_on | go_big_quiet_call ((intro hk; first
            | with_reducible rfl
            | (go_at_call 25; exact (Q1.out _ hk).mono (fun e w' h => ⟨h.1, by rw [← h.2]; exact hk⟩))
            | (go_at_call 16; exact (Q2.out _ hk).mono (fun e w' h => ⟨h.1, hk.trans h.2 (fun _ _ f => f)⟩))))))
      refine wpQuiet_nil ?_
      intro w18 k18
      have K19 := Lib.hid (K9.out.trans k18 (fun _ _ f => f))
      clear k18
      go_wp2_with fail
      refine (QP.out _ (SD.out _ K19.out)).mono ?_
      rintro e w20 ⟨v20, rfl, own, k⟩
      obtain ⟨a20, c20, rfl⟩ := sees_form own.sees
      have O20 := Lib.hid own
      have K20 := Lib.hid (K19.out.trans k (fun _ _ f => f))
      clear own k
      unfold blkV
      rcases HPC.out with ⟨hp0, hp2⟩ | hp0
      · obtain ⟨hbc, hbb⟩ := HPX.out hp2 hp0
        subst hp0
        have HBC := Lib.hid hbc
        have HBB := Lib.hid hbb
        clear hbc hbb
        go_wp2_with (first
          | ((with_reducible refine at_store 13 83 ?_); refine wpList_store_fresh rfl 26 _ _ rfl (blkC x (.slice a20 x.d.length c20)).toArray rfl rfl 26 _ (IX.out _) (by rw [List.size_toArray, List.size_toArray, blkC_length WX.out.nm.len]; rfl) blkC_one ?_; intro w21 k21 m21 s21; have X21 := Lib.hid (BlkAt.mk m21 WX.out.nm.len); have O21 := Lib.hid (O20.out.kept k21 (fun _ _ f => f)); have K21 := Lib.hid (K20.out.trans k21 (fun _ _ f => f)); clear s21; clear m21 k21)
          | ((with_reducible refine at_dst 90 ?_); refine wpList_load_row rfl 26 _ rfl (w20.heap.size) rfl 26 _ (0, 0) _ X21.out.row Tryd.underlying26 rfl (IX.out _) ?_))
        have qb := blbytes_any WX.out O21.out.sees
        unfold BytesP at qb
        rw [HBC.out, if_pos rfl, HBB.out] at qb
        refine qb.mono ?_
        rintro e w22 ⟨v22, rfl, own, k⟩
        obtain ⟨a22, c22, rfl⟩ := sees_form own.sees
        have K22 := Lib.hid (K21.out.trans k (fun _ _ f => f))
        have Q9 := Lib.hid (equal_any own.sees (SD.out _ K22.out) WD.out WD.out)
        rw [decide_eq_true rfl] at Q9
        clear own k
        go_wp2_with (go_at_call 25; refine Q9.out.mono ?_; rintro r w23 ⟨rfl, rfl⟩)
        go_ret
        exact ⟨rfl, K22.out⟩
      · subst hp0
        go_wp2_with ((with_reducible refine at_store 13 83 ?_); refine wpList_store_fresh rfl 26 _ _ rfl (blkC x (.slice a20 x.d.length c20)).toArray rfl rfl 26 _ (IX.out _) (by rw [List.size_toArray, List.size_toArray, blkC_length WX.out.nm.len]; rfl) blkC_one ?_; intro w21 k21 m21 s21; have X21 := Lib.hid (BlkAt.mk m21 WX.out.nm.len); have O21 := Lib.hid (O20.out.kept k21 (fun _ _ f => f)); have K21 := Lib.hid (K20.out.trans k21 (fun _ _ f => f)); clear s21; clear m21 k21)
        go_ret
        exact ⟨rfl, K21.out⟩
    · clear HPX0 HPA HIN
      go_wp2_with ((with_reducible refine at_dst 32 ?_); refine wpList_load_row rfl 26 _ rfl (w.heap.size) rfl 26 _ (0, 0) _ A2.out.row Tryd.underlying26 rfl (IA.out _) ?_)
      refine (QA.out _ (SA.out _ K3.out)).mono ?_
      rintro e w4 ⟨v4, rfl, own, k⟩
      replace own : OwnB w4 _ v4 (bbytes a) := own
      obtain ⟨a4, c4, rfl⟩ := sees_form own.sees
      have BX4 := Lib.hid own
      have A4 := Lib.hid (A2.out.kept k (fun f => f))
      have B4 := Lib.hid (B2.out.kept k (fun f => f))
      have K5 := Lib.hid (K3.out.trans k (fun _ _ f => f))
      clear own k
      go_wp2_with ((with_reducible refine at_dst 37 ?_); refine wpList_load_row rfl 26 _ rfl (w.heap.size + 1) rfl 26 _ (0, 0) _ B4.out.row Tryd.underlying26 rfl (IB.out _) ?_)
      refine (QB.out _ (SB.out _ K5.out)).mono ?_
      rintro e w5 ⟨v5, rfl, own, k⟩
      replace own : OwnB w5 _ v5 [] := own
      obtain ⟨a5, c5, rfl⟩ := sees_form own.sees
      have BY5 := Lib.hid own
      have BX5 := Lib.hid (BX4.out.kept k (fun _ _ f => f))
      have A5 := Lib.hid (A4.out.kept k (fun f => f))
      have B5 := Lib.hid (B4.out.kept k (fun f => f))
      have K6 := Lib.hid (K5.out.trans k (fun _ _ f => f))
      clear own k A4 B4 BX4
      go_wp2_with fail
      have qp := parse3_any (w := w5) HRA.out (by rw [HLA.out]; have := HL.out.1; omega) BX5.out.sees
      rw [show pE (bbytes a) = 0 by unfold pE; rw [if_pos HPO.out.1], HPO.out.2] at qp
      refine qp.mono ?_
      intro e w6 hq
      obtain ⟨v6, rfl, own, k⟩ := (show NewBlkE _ a 0 e w6 from hq)
      obtain ⟨a6, c6, rfl⟩ := sees_form own.sees
      have O6 := Lib.hid own
      have BY6 := Lib.hid (BY5.out.kept k (fun _ _ f => f))
      have BX6 := Lib.hid (BX5.out.kept k (fun _ _ f => f))
      have A6 := Lib.hid (A5.out.kept k (fun f => f))
      have B6 := Lib.hid (B5.out.kept k (fun f => f))
      have K7 := Lib.hid (K6.out.trans k (fun _ _ f => f))
      clear hq own k
      unfold blkV
      go_upto_region 7 with ((with_reducible refine at_store 11 46 ?_); refine wpList_store_fresh rfl 26 _ _ rfl (blkC a (.slice a6 a.d.length c6)).toArray rfl rfl 26 _ (IA.out _) (by rw [List.size_toArray, List.size_toArray, blkC_length WA.out.nm.len]; rfl) blkC_one ?_; intro w7 k7 m7 s7; have C7 := Lib.hid (BlkAt.mk m7 WA.out.nm.len); have O7 := Lib.hid (O6.out.kept k7 (fun _ _ f => f)); have BY7 := Lib.hid (BY6.out.kept k7 (fun _ _ f => f)); have BX7 := Lib.hid (BX6.out.kept k7 (fun _ _ f => f)); have A7 := Lib.hid (A6.out.kept k7 (fun f => f)); have B7 := Lib.hid (B6.out.kept k7 (fun f => f)); have K8 := Lib.hid (K7.out.trans k7 (fun _ _ f => f)); clear s7; clear m7 k7)
      have QS := Lib.hid (same_any WA.out WA.out O7.out.sees (SA.out _ K8.out))
      rw [decide_eq_true rfl] at QS
      go_wp2_with (first
        | ((with_reducible refine at_dst 51 ?_); refine wpList_load_want rfl 26 _ rfl (w6.heap.size) rfl 26 _ (0, 0) _ C7.out.row Tryd.underlying26 rfl (IA.out _) ?_)
        | ((with_reducible refine at_dst 52 ?_); refine wpList_load_want rfl 26 _ rfl (w.heap.size) rfl 26 _ (0, 0) _ A7.out.row Tryd.underlying26 rfl (IA.out _) ?_))
      refine QS.out.mono ?_
      rintro e w8 ⟨rfl, k⟩
      have A8 := Lib.hid (A7.out.kept k (fun f => f))
      have B8 := Lib.hid (B7.out.kept k (fun f => f))
      have BX8 := Lib.hid (BX7.out.kept k (fun _ _ f => f))
      have BY8 := Lib.hid (BY7.out.kept k (fun _ _ f => f))
      have K9 := Lib.hid (K8.out.trans k (fun _ _ f => f))
      have c33 := A8.out.dat
      have hlx := HLA.out
      have hle : (((bbytes a).length : Int) != 46 + (a.d.length : Int)) = false := by simp; omega
      have hsm := HL.out.1
      clear k hlx
      go_wp2_with fail
      clear hle hsm c33
      have LA := Lib.hid (fun w' (k : Kp (fun _ => False) w8 w') => (A8.out.kept k (fun f => f)).row)
      have LB := Lib.hid (fun w' (k : Kp (fun _ => False) w8 w') => (B8.out.kept k (fun f => f)).row)
      obtain ⟨g0, hg0⟩ : ∃ g, g = w.heap.size := ⟨_, rfl⟩
      obtain ⟨g1, hg1⟩ : ∃ g, g = w.heap.size + 1 := ⟨_, rfl⟩
      rw [← hg1, ← hg0]
      rw [← hg0] at LA
      rw [← hg1] at LB
      refine wp_kept (W := w8) (by kernel_rfl) (by kernel_rfl) (Kp.refl _ _) ?_
      repeat (first
        | go_big_quiet_skip
        | (go_big_quiet_want; refine quiet_load_row 26 _ rfl g0 rfl 26 _ (0, 0) _ LA.out Tryd.underlying26 rfl (IA.out _) ?_; (simp only [Act.put, List.setIfInBounds_toArray, List.set_cons_zero, List.set_cons_succ]); go_big_quiet_on)
        | (go_big_quiet_want; refine quiet_load_row 26 _ rfl g1 rfl 26 _ (0, 0) _ LB.out Tryd.underlying26 rfl (IB.out _) ?_; (simp only [Act.put, List.setIfInBounds_toArray, List.set_cons_zero, List.set_cons_succ]); go_big_quiet_on)
        | (go_big_quiet_want; go_big_quiet_op; first | go_big_quiet_on | go_big_quiet_call ((intro hk; first
            | with_reducible rfl))))
      refine wpQuiet_nil ?_
      intro w18 k18
      have K19 := Lib.hid (K9.out.trans k18 (fun _ _ f => f))
      clear k18
      go_wp2_with fail
      refine (QP.out _ (SD.out _ K19.out)).mono ?_
      rintro e w20 ⟨v20, rfl, own, k⟩
      obtain ⟨a20, c20, rfl⟩ := sees_form own.sees
      have O20 := Lib.hid own
      have K20 := Lib.hid (K19.out.trans k (fun _ _ f => f))
      clear own k
      unfold blkV
      rcases HPC.out with ⟨hp0, hp2⟩ | hp0
      · obtain ⟨hbc, hbb⟩ := HPX.out hp2 hp0
        subst hp0
        have HBC := Lib.hid hbc
        have HBB := Lib.hid hbb
        clear hbc hbb
        go_wp2_with (first
          | ((with_reducible refine at_store 13 83 ?_); refine wpList_store_fresh rfl 26 _ _ rfl (blkC x (.slice a20 x.d.length c20)).toArray rfl rfl 26 _ (IX.out _) (by rw [List.size_toArray, List.size_toArray, blkC_length WX.out.nm.len]; rfl) blkC_one ?_; intro w21 k21 m21 s21; have X21 := Lib.hid (BlkAt.mk m21 WX.out.nm.len); have O21 := Lib.hid (O20.out.kept k21 (fun _ _ f => f)); have K21 := Lib.hid (K20.out.trans k21 (fun _ _ f => f)); clear s21; clear m21 k21)
          | ((with_reducible refine at_dst 90 ?_); refine wpList_load_row rfl 26 _ rfl (w20.heap.size) rfl 26 _ (0, 0) _ X21.out.row Tryd.underlying26 rfl (IX.out _) ?_))
        have qb := blbytes_any WX.out O21.out.sees
        unfold BytesP at qb
        rw [HBC.out, if_pos rfl, HBB.out] at qb
        refine qb.mono ?_
        rintro e w22 ⟨v22, rfl, own, k⟩
        obtain ⟨a22, c22, rfl⟩ := sees_form own.sees
        have K22 := Lib.hid (K21.out.trans k (fun _ _ f => f))
        have Q9 := Lib.hid (equal_any own.sees (SD.out _ K22.out) WD.out WD.out)
        rw [decide_eq_true rfl] at Q9
        clear own k
        go_wp2_with (go_at_call 25; refine Q9.out.mono ?_; rintro r w23 ⟨rfl, rfl⟩)
        go_ret
        exact ⟨rfl, K22.out⟩
      · subst hp0
        go_wp2_with ((with_reducible refine at_store 13 83 ?_); refine wpList_store_fresh rfl 26 _ _ rfl (blkC x (.slice a20 x.d.length c20)).toArray rfl rfl 26 _ (IX.out _) (by rw [List.size_toArray, List.size_toArray, blkC_length WX.out.nm.len]; rfl) blkC_one ?_; intro w21 k21 m21 s21; have X21 := Lib.hid (BlkAt.mk m21 WX.out.nm.len); have O21 := Lib.hid (O20.out.kept k21 (fun _ _ f => f)); have K21 := Lib.hid (K20.out.trans k21 (fun _ _ f => f)); clear s21; clear m21 k21)
        go_ret
        exact ⟨rfl, K21.out⟩
  · clear HPX0 HPA
    rcases hcb with rfl | rfl
    · clear HIN
      go_wp2_with ((with_reducible refine at_dst 32 ?_); refine wpList_load_row rfl 26 _ rfl (w.heap.size) rfl 26 _ (0, 0) _ A2.out.row Tryd.underlying26 rfl (IA.out _) ?_)
      refine (QA.out _ (SA.out _ K3.out)).mono ?_
      rintro e w4 ⟨v4, rfl, own, k⟩
      replace own : OwnB w4 _ v4 [] := own
      obtain ⟨a4, c4, rfl⟩ := sees_form own.sees
      have BX4 := Lib.hid own
      have A4 := Lib.hid (A2.out.kept k (fun f => f))
      have B4 := Lib.hid (B2.out.kept k (fun f => f))
      have K5 := Lib.hid (K3.out.trans k (fun _ _ f => f))
      clear own k
      go_wp2_with ((with_reducible refine at_dst 37 ?_); refine wpList_load_row rfl 26 _ rfl (w.heap.size + 1) rfl 26 _ (0, 0) _ B4.out.row Tryd.underlying26 rfl (IB.out _) ?_)
      refine (QB.out _ (SB.out _ K5.out)).mono ?_
      rintro e w5 ⟨v5, rfl, own, k⟩
      replace own : OwnB w5 _ v5 (bbytes b) := own
      obtain ⟨a5, c5, rfl⟩ := sees_form own.sees
      have BY5 := Lib.hid own
      have BX5 := Lib.hid (BX4.out.kept k (fun _ _ f => f))
      have A5 := Lib.hid (A4.out.kept k (fun f => f))
      have B5 := Lib.hid (B4.out.kept k (fun f => f))
      have K6 := Lib.hid (K5.out.trans k (fun _ _ f => f))
      clear own k A4 B4 BX4
      go_wp2_with fail
      have LA := Lib.hid (fun w' (k : Kp (fun _ => False) w5 w') => (A5.out.kept k (fun f => f)).row)
      have LB := Lib.hid (fun w' (k : Kp (fun _ => False) w5 w') => (B5.out.kept k (fun f => f)).row)
      obtain ⟨g0, hg0⟩ : ∃ g, g = w.heap.size := ⟨_, rfl⟩
      obtain ⟨g1, hg1⟩ : ∃ g, g = w.heap.size + 1 := ⟨_, rfl⟩
      rw [← hg1, ← hg0]
      rw [← hg0] at LA
      rw [← hg1] at LB
      refine wp_kept (W := w5) (by kernel_rfl) (by kernel_rfl) (Kp.refl _ _) ?_
      repeat (first
        | go_big_quiet_skip
        | (go_big_quiet_want; refine quiet_load_row 26 _ rfl g0 rfl 26 _ (0, 0) _ LA.out Tryd.underlying26 rfl (IA.out _) ?_; (simp only [Act.put, List.setIfInBounds_toArray, List.set_cons_zero, List.set_cons_succ]); go_big_quiet_on)
        | (go_big_quiet_want; refine quiet_load_row 26 _ rfl g1 rfl 26 _ (0, 0) _ LB.out Tryd.underlying26 rfl (IB.out _) ?_; (simp only [Act.put, List.setIfInBounds_toArray, List.set_cons_zero, List.set_cons_succ]); go_big_quiet_on)
        | (go_big_quiet_want; go_big_quiet_op; first | go_big_quiet_on | go_big_quiet_call ((intro hk; first
            | with_reducible rfl))))
      refine wpQuiet_nil ?_
      intro w18 k18
      have K19 := Lib.hid (K6.out.trans k18 (fun _ _ f => f))
      clear k18
      go_wp2_with fail
      refine (QP.out _ (SD.out _ K19.out)).mono ?_
      rintro e w20 ⟨v20, rfl, own, k⟩
      obtain ⟨a20, c20, rfl⟩ := sees_form own.sees
      have O20 := Lib.hid own
      have K20 := Lib.hid (K19.out.trans k (fun _ _ f => f))
      clear own k
      unfold blkV
      rcases HPC.out with ⟨hp0, hp2⟩ | hp0
      · obtain ⟨hbc, hbb⟩ := HPX.out hp2 hp0
        subst hp0
        have HBC := Lib.hid hbc
        have HBB := Lib.hid hbb
        clear hbc hbb
        go_wp2_with (first
          | ((with_reducible refine at_store 13 83 ?_); refine wpList_store_fresh rfl 26 _ _ rfl (blkC x (.slice a20 x.d.length c20)).toArray rfl rfl 26 _ (IX.out _) (by rw [List.size_toArray, List.size_toArray, blkC_length WX.out.nm.len]; rfl) blkC_one ?_; intro w21 k21 m21 s21; have X21 := Lib.hid (BlkAt.mk m21 WX.out.nm.len); have O21 := Lib.hid (O20.out.kept k21 (fun _ _ f => f)); have K21 := Lib.hid (K20.out.trans k21 (fun _ _ f => f)); clear s21; clear m21 k21)
          | ((with_reducible refine at_dst 90 ?_); refine wpList_load_row rfl 26 _ rfl (w20.heap.size) rfl 26 _ (0, 0) _ X21.out.row Tryd.underlying26 rfl (IX.out _) ?_))
        have qb := blbytes_any WX.out O21.out.sees
        unfold BytesP at qb
        rw [HBC.out, if_pos rfl, HBB.out] at qb
        refine qb.mono ?_
        rintro e w22 ⟨v22, rfl, own, k⟩
        obtain ⟨a22, c22, rfl⟩ := sees_form own.sees
        have K22 := Lib.hid (K21.out.trans k (fun _ _ f => f))
        have Q9 := Lib.hid (equal_any own.sees (SD.out _ K22.out) WD.out WD.out)
        rw [decide_eq_true rfl] at Q9
        clear own k
        go_wp2_with (go_at_call 25; refine Q9.out.mono ?_; rintro r w23 ⟨rfl, rfl⟩)
        go_ret
        exact ⟨rfl, K22.out⟩
      · subst hp0
        go_wp2_with ((with_reducible refine at_store 13 83 ?_); refine wpList_store_fresh rfl 26 _ _ rfl (blkC x (.slice a20 x.d.length c20)).toArray rfl rfl 26 _ (IX.out _) (by rw [List.size_toArray, List.size_toArray, blkC_length WX.out.nm.len]; rfl) blkC_one ?_; intro w21 k21 m21 s21; have X21 := Lib.hid (BlkAt.mk m21 WX.out.nm.len); have O21 := Lib.hid (O20.out.kept k21 (fun _ _ f => f)); have K21 := Lib.hid (K20.out.trans k21 (fun _ _ f => f)); clear s21; clear m21 k21)
        go_ret
        exact ⟨rfl, K21.out⟩
    · clear HIN
      go_wp2_with ((with_reducible refine at_dst 32 ?_); refine wpList_load_row rfl 26 _ rfl (w.heap.size) rfl 26 _ (0, 0) _ A2.out.row Tryd.underlying26 rfl (IA.out _) ?_)
      refine (QA.out _ (SA.out _ K3.out)).mono ?_
      rintro e w4 ⟨v4, rfl, own, k⟩
      replace own : OwnB w4 _ v4 [] := own
      obtain ⟨a4, c4, rfl⟩ := sees_form own.sees
      have BX4 := Lib.hid own
      have A4 := Lib.hid (A2.out.kept k (fun f => f))
      have B4 := Lib.hid (B2.out.kept k (fun f => f))
      have K5 := Lib.hid (K3.out.trans k (fun _ _ f => f))
      clear own k
      go_wp2_with ((with_reducible refine at_dst 37 ?_); refine wpList_load_row rfl 26 _ rfl (w.heap.size + 1) rfl 26 _ (0, 0) _ B4.out.row Tryd.underlying26 rfl (IB.out _) ?_)
      refine (QB.out _ (SB.out _ K5.out)).mono ?_
      rintro e w5 ⟨v5, rfl, own, k⟩
      replace own : OwnB w5 _ v5 [] := own
      obtain ⟨a5, c5, rfl⟩ := sees_form own.sees
      have BY5 := Lib.hid own
      have BX5 := Lib.hid (BX4.out.kept k (fun _ _ f => f))
      have A5 := Lib.hid (A4.out.kept k (fun f => f))
      have B5 := Lib.hid (B4.out.kept k (fun f => f))
      have K6 := Lib.hid (K5.out.trans k (fun _ _ f => f))
      clear own k A4 B4 BX4
      go_wp2_with fail
      have LA := Lib.hid (fun w' (k : Kp (fun _ => False) w5 w') => (A5.out.kept k (fun f => f)).row)
      have LB := Lib.hid (fun w' (k : Kp (fun _ => False) w5 w') => (B5.out.kept k (fun f => f)).row)
      obtain ⟨g0, hg0⟩ : ∃ g, g = w.heap.size := ⟨_, rfl⟩
      obtain ⟨g1, hg1⟩ : ∃ g, g = w.heap.size + 1 := ⟨_, rfl⟩
      rw [← hg1, ← hg0]
      rw [← hg0] at LA
      rw [← hg1] at LB
      refine wp_kept (W := w5) (by kernel_rfl) (by kernel_rfl) (Kp.refl _ _) ?_
      repeat (first
        | go_big_quiet_skip
        | (go_big_quiet_want; refine quiet_load_row 26 _ rfl g0 rfl 26 _ (0, 0) _ LA.out Tryd.underlying26 rfl (IA.out _) ?_; (simp only [Act.put, List.setIfInBounds_toArray, List.set_cons_zero, List.set_cons_succ]); go_big_quiet_on)
        | (go_big_quiet_want; refine quiet_load_row 26 _ rfl g1 rfl 26 _ (0, 0) _ LB.out Tryd.underlying26 rfl (IB.out _) ?_; (simp only [Act.put, List.setIfInBounds_toArray, List.set_cons_zero, List.set_cons_succ]); go_big_quiet_on)
        | (go_big_quiet_want; go_big_quiet_op; first | go_big_quiet_on | go_big_quiet_call ((intro hk; first
            | with_reducible rfl))))
      refine wpQuiet_nil ?_
      intro w18 k18
      have K19 := Lib.hid (K6.out.trans k18 (fun _ _ f => f))
      clear k18
      go_wp2_with fail
      refine (QP.out _ (SD.out _ K19.out)).mono ?_
      rintro e w20 ⟨v20, rfl, own, k⟩
      obtain ⟨a20, c20, rfl⟩ := sees_form own.sees
      have O20 := Lib.hid own
      have K20 := Lib.hid (K19.out.trans k (fun _ _ f => f))
      clear own k
      unfold blkV
      rcases HPC.out with ⟨hp0, hp2⟩ | hp0
      · obtain ⟨hbc, hbb⟩ := HPX.out hp2 hp0
        subst hp0
        have HBC := Lib.hid hbc
        have HBB := Lib.hid hbb
        clear hbc hbb
        go_wp2_with (first
          | ((with_reducible refine at_store 13 83 ?_); refine wpList_store_fresh rfl 26 _ _ rfl (blkC x (.slice a20 x.d.length c20)).toArray rfl rfl 26 _ (IX.out _) (by rw [List.size_toArray, List.size_toArray, blkC_length WX.out.nm.len]; rfl) blkC_one ?_; intro w21 k21 m21 s21; have X21 := Lib.hid (BlkAt.mk m21 WX.out.nm.len); have O21 := Lib.hid (O20.out.kept k21 (fun _ _ f => f)); have K21 := Lib.hid (K20.out.trans k21 (fun _ _ f => f)); clear s21; clear m21 k21)
          | ((with_reducible refine at_dst 90 ?_); refine wpList_load_row rfl 26 _ rfl (w20.heap.size) rfl 26 _ (0, 0) _ X21.out.row Tryd.underlying26 rfl (IX.out _) ?_))
        have qb := blbytes_any WX.out O21.out.sees
        unfold BytesP at qb
        rw [HBC.out, if_pos rfl, HBB.out] at qb
        refine qb.mono ?_
        rintro e w22 ⟨v22, rfl, own, k⟩
        obtain ⟨a22, c22, rfl⟩ := sees_form own.sees
        have K22 := Lib.hid (K21.out.trans k (fun _ _ f => f))
        have Q9 := Lib.hid (equal_any own.sees (SD.out _ K22.out) WD.out WD.out)
        rw [decide_eq_true rfl] at Q9
        clear own k
        go_wp2_with (go_at_call 25; refine Q9.out.mono ?_; rintro r w23 ⟨rfl, rfl⟩)
        go_ret
        exact ⟨rfl, K22.out⟩
      · subst hp0
        go_wp2_with ((with_reducible refine at_store 13 83 ?_); refine wpList_store_fresh rfl 26 _ _ rfl (blkC x (.slice a20 x.d.length c20)).toArray rfl rfl 26 _ (IX.out _) (by rw [List.size_toArray, List.size_toArray, blkC_length WX.out.nm.len]; rfl) blkC_one ?_; intro w21 k21 m21 s21; have X21 := Lib.hid (BlkAt.mk m21 WX.out.nm.len); have O21 := Lib.hid (O20.out.kept k21 (fun _ _ f => f)); have K21 := Lib.hid (K20.out.trans k21 (fun _ _ f => f)); clear s21; clear m21 k21)
        go_ret
        exact ⟨rfl, K21.out⟩
end Go.Proofs.YtoognhbdgdfkoaaDoor
