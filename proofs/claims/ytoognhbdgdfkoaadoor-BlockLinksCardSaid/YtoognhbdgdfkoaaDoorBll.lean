/-
  BlockLinks's walk.
-/
import Derived.Test.YtoognhbdgdfkoaaDoorBs
import Derived.Test.YtoognhbdgdfkoaaDoorQk
namespace Go.Proofs.YtoognhbdgdfkoaaDoor
open Go.ChangeShapes Go.WideShapes Go.ChangeAt Go.RowKit

theorem lnk_back {a : Blk} {d : List Int} (h : chdE a d = 0) : bchk a = 0 ∧ lnkE (chd a d) a = 0 ∧ lnkE a (chd a d) = 31 := by
  unfold chdE at h
  split at h
  · cases h
  · rename_i h1
    have h2 : bchk a = 0 := Decidable.byContradiction (fun h => h1 (.inl h))
    have h3 : a.h ≠ 9223372036854775807 := fun h => h1 (.inr (.inl h))
    have h4 : ¬ 200 < d.length := fun h => h1 (.inr (.inr h))
    have h5 : bchk (chd a d) = 0 := by rw [chd_chk h2 h3, (chdE_good h2 h3).2 h4]
    refine ⟨h2, lnkE_yes h5 h2 rfl (by show a.h + 1 - 1 = a.h; omega), lnkE_not h2 h5 (.inr (by show a.h - 1 ≠ a.h + 1; omega))⟩
theorem chdE_max {a : Blk} {d : List Int} (h : a.h = 9223372036854775807) : chdE a d = 30 := chdE_bad (.inr h)
theorem orChd_wf {a : Blk} {d : List Int} (ha : a.wf) (hd : Rng d) : (orBlk (chd a d) (chdE a d)).wf := by
  by_cases h : a.h = 9223372036854775807
  · rw [chdE_max h]; exact blk1_wf (d := []) (fun _ h => by cases h)
  · exact orBlk_wf (chd_wf ha h hd) _

set_option maxRecDepth 100000 in
set_option maxHeartbeats 3200000 in
theorem links_law {a b : Blk} {va vb vd : Value} {d : List Int} (ha : a.wf) (hb : b.wf) (hd : Rng d) (w : World) (sa : Sees w va a.d) (sb : Sees w vb b.d) (sd : Sees w vd d) (hR : Rts w) :
    Calls Tryd.prog 5 #[blkV a va, blkV b vb, vd] w fun e w' => e = .returned (.bool true) ∧ Kp (fun _ => False) w w' := by
  obtain ⟨a1, c1, rfl⟩ := sees_form sa
  obtain ⟨a2, c2, rfl⟩ := sees_form sb
  obtain ⟨a0, c0, rfl⟩ := sees_form sd
  obtain ⟨hA, hB⟩ := two_at w ha.nm.len hb.nm.len (.slice a1 a.d.length c1) (.slice a2 b.d.length c2)
  have k1 : Kp (fun _ => False) w ((w.alloc (.cells (blkC a (.slice a1 a.d.length c1)).toArray 26)).alloc (.cells (blkC b (.slice a2 b.d.length c2)).toArray 26)) := ((Kp.refl _ _).alloc _).alloc _
  have SA := Lib.hid (fun w' (k : Kp (fun _ => False) w w') => sa.kept k (fun _ _ _ f => f))
  have SB := Lib.hid (fun w' (k : Kp (fun _ => False) w w') => sb.kept k (fun _ _ _ f => f))
  have SD := Lib.hid (fun w' (k : Kp (fun _ => False) w w') => sd.kept k (fun _ _ _ f => f))
  have HR := Lib.hid (fun w' (k : Kp (fun _ => False) w w') => hR.kept k (fun _ _ f => f))
  have IA := Lib.hid (fun v => infoBlk ha.nm.len v)
  have IB := Lib.hid (fun v => infoBlk hb.nm.len v)
  have WA := Lib.hid ha
  have WB := Lib.hid hb
  have WD := Lib.hid hd
  have HA := Lib.hid hA
  have HB := Lib.hid hB
  have K1 := Lib.hid k1
  have hz := zeroBlk
  have HMK := Lib.hid (fun w => mks2 ha.nm.len hb.nm.len (.slice a1 a.d.length c1) (.slice a2 b.d.length c2) w)
  have HSH := Lib.hid (show shortB [(a, .slice a1 a.d.length c1), (b, .slice a2 b.d.length c2)] = true → a.d.length ≤ 3000 ∧ b.d.length ≤ 3000 from fun h => by
    simp [shortB] at h; omega)
  clear sa sb sd hA hB ha hb hd k1 hR
  go_enter Tryd.func5, Tryd.ntmps5
  unfold blkV
  go_wp2_with fail
  refine (blive_any _ (HR.out _ K1.out)).mono ?_
  rintro e w1 ⟨rfl, k⟩
  have A1 := Lib.hid (HA.out.kept k (fun f => f))
  have B1 := Lib.hid (HB.out.kept k (fun f => f))
  have K2 := Lib.hid (K1.out.trans k (fun _ _ f => f))
  clear k
  go_wp2_with (first
    | ((with_reducible refine at_dst 14 ?_); refine wpList_load_want rfl 26 _ rfl (w.heap.size) rfl 26 _ (0, 0) _ A1.out.row Tryd.underlying26 rfl (IA.out _) ?_)
    | ((with_reducible refine at_dst 15 ?_); refine wpList_load_want rfl 26 _ rfl (w.heap.size + 1) rfl 26 _ (0, 0) _ B1.out.row Tryd.underlying26 rfl (IB.out _) ?_)
    | ((with_reducible refine at_dst 16 ?_); refine wpList_slice_run rfl _ _ _ rfl _ rfl _ _ (HMK.out _) ?_))
  have kr : Kp (fun _ => False) w1 (w1.alloc (.cells (blkC a (.slice a1 a.d.length c1) ++ blkC b (.slice a2 b.d.length c2)).toArray 26)) := (Kp.refl _ w1).alloc _
  refine (short_any (two_row w1 (.slice a1 a.d.length c1) (.slice a2 b.d.length c2) WA.out.nm.len WB.out.nm.len) (fun x hx => ?_)).mono ?_
  · simp only [List.mem_cons, List.not_mem_nil, or_false] at hx
    rcases hx with rfl | rfl
    · exact ⟨WA.out, SA.out _ (K2.out.trans kr (fun _ _ f => f))⟩
    · exact ⟨WB.out, SB.out _ (K2.out.trans kr (fun _ _ f => f))⟩
  rintro e w2 ⟨rfl, k⟩
  have A2 := Lib.hid ((A1.out.kept kr (fun f => f)).kept k (fun f => f))
  have B2 := Lib.hid ((B1.out.kept kr (fun f => f)).kept k (fun f => f))
  have K3 := Lib.hid ((K2.out.trans kr (fun _ _ f => f)).trans k (fun _ _ f => f))
  clear k kr A1 B1
  obtain ⟨sh, hsh⟩ : ∃ sh, sh = shortB [(a, .slice a1 a.d.length c1), (b, .slice a2 b.d.length c2)] := ⟨_, rfl⟩
  rw [← hsh] at HSH ⊢
  clear hsh
  have hsd : sh = false ∨ (sh = true ∧ decide ((3000 : Int) < d.length) = true) ∨ (sh = true ∧ decide ((3000 : Int) < d.length) = false) := by
    cases sh <;> simp
    omega
  rcases hsd with rfl | ⟨rfl, hdl⟩ | ⟨rfl, hdl⟩
  · go_wp2_with fail
    refine (blive_any _ (HR.out _ K3.out)).mono ?_
    rintro e w3 ⟨rfl, k⟩
    have K4 := Lib.hid (K3.out.trans k (fun _ _ f => f))
    clear k
    go_wp2_with fail
    go_ret
    exact ⟨rfl, K4.out⟩
  · go_wp2_with fail
    refine (blive_any _ (HR.out _ K3.out)).mono ?_
    rintro e w3 ⟨rfl, k⟩
    have K4 := Lib.hid (K3.out.trans k (fun _ _ f => f))
    clear k
    go_wp2_with fail
    go_ret
    exact ⟨rfl, K4.out⟩
  have HL := Lib.hid (HSH.out rfl)
  have hdm : d.length ≤ 3000 := by simp at hdl; omega
  clear HSH
  have WX := Lib.hid (orChd_wf WA.out WD.out)
  have QF := Lib.hid (fun w' hs hsd hR => child_any (w := w') (v := .slice a1 a.d.length c1) (vd := .slice a0 d.length c0) WA.out WD.out hs hsd hR)
  have QG := Lib.hid (fun w' hs hsd => rchild_any (w := w') (v := .slice a1 a.d.length c1) (vd := .slice a0 d.length c0) WA.out WD.out hs hsd)
  have HLB := Lib.hid (fun h => lnk_back (a := a) (d := d) h)
  have hxc := fun (h : chdE a d = 0) => (show orBlk (chd a d) (chdE a d) = chd a d by unfold orBlk; rw [if_pos h])
  have hce : chdE a d = 0 ∨ chdE a d = 30 := by unfold chdE; split <;> simp
  obtain ⟨e0, he0⟩ : ∃ e0, e0 = chdE a d := ⟨_, rfl⟩
  rw [← he0] at WX QF QG HLB hxc hce
  obtain ⟨x, hx⟩ : ∃ x, x = orBlk (chd a d) e0 := ⟨_, rfl⟩
  rw [← hx] at WX QF QG hxc
  have IX := Lib.hid (fun v => infoBlk WX.out.nm.len v)
  have HXC := Lib.hid hxc
  have HCE := Lib.hid hce
  clear he0 hx hxc hce
  go_wp2_with ((with_reducible refine at_dst 27 ?_); refine wpList_load_row rfl 26 _ rfl (w.heap.size) rfl 26 _ (0, 0) _ A2.out.row Tryd.underlying26 rfl (IA.out _) ?_)
  refine (QF.out _ (SA.out _ K3.out) (SD.out _ K3.out) (HR.out _ K3.out)).mono ?_
  rintro e w5 ⟨v5, rfl, own, k⟩
  obtain ⟨a5, c5, rfl⟩ := sees_form own.sees
  have OX := Lib.hid own
  have A5 := Lib.hid (A2.out.kept k (fun f => f))
  have B5 := Lib.hid (B2.out.kept k (fun f => f))
  have K5 := Lib.hid (K3.out.trans k (fun _ _ f => f))
  clear own k A2 B2
  unfold blkV
  go_wp2_with (first
    | ((with_reducible refine at_store 7 30 ?_); refine wpList_store_fresh rfl 26 _ _ rfl (blkC x (.slice a5 x.d.length c5)).toArray rfl rfl 26 _ (IX.out _) (by rw [List.size_toArray, List.size_toArray, blkC_length WX.out.nm.len]; rfl) blkC_one ?_; intro w6 k6 m6 s6; have X6 := Lib.hid (BlkAt.mk m6 WX.out.nm.len); have OX6 := Lib.hid (OX.out.kept k6 (fun _ _ f => f)); have A6 := Lib.hid (A5.out.kept k6 (fun f => f)); have B6 := Lib.hid (B5.out.kept k6 (fun f => f)); have K6 := Lib.hid (K5.out.trans k6 (fun _ _ f => f)); clear s6; clear m6 k6)
    | ((with_reducible refine at_dst 33 ?_); refine wpList_load_row rfl 26 _ rfl (w.heap.size) rfl 26 _ (0, 0) _ A6.out.row Tryd.underlying26 rfl (IA.out _) ?_))
  refine (QG.out _ (SA.out _ K6.out) (SD.out _ K6.out)).mono ?_
  rintro e w7 ⟨v7, rfl, own, k⟩
  obtain ⟨a7, c7, rfl⟩ := sees_form own.sees
  have OY := Lib.hid own
  have A7 := Lib.hid (A6.out.kept k (fun f => f))
  have B7 := Lib.hid (B6.out.kept k (fun f => f))
  have X7 := Lib.hid (X6.out.kept k (fun f => f))
  have OX7 := Lib.hid (OX6.out.kept k (fun _ _ f => f))
  have K7 := Lib.hid (K6.out.trans k (fun _ _ f => f))
  clear own k A6 B6 X6 OX6
  unfold blkV
  go_wp2_with ((with_reducible refine at_store 9 36 ?_); refine wpList_store_fresh rfl 26 _ _ rfl (blkC x (.slice a7 x.d.length c7)).toArray rfl rfl 26 _ (IX.out _) (by rw [List.size_toArray, List.size_toArray, blkC_length WX.out.nm.len]; rfl) blkC_one ?_; intro w8 k8 m8 s8; have Y8 := Lib.hid (BlkAt.mk m8 WX.out.nm.len); have OY8 := Lib.hid (OY.out.kept k8 (fun _ _ f => f)); have A8 := Lib.hid (A7.out.kept k8 (fun f => f)); have B8 := Lib.hid (B7.out.kept k8 (fun f => f)); have X8 := Lib.hid (X7.out.kept k8 (fun f => f)); have OX8 := Lib.hid (OX7.out.kept k8 (fun _ _ f => f)); have K8 := Lib.hid (K7.out.trans k8 (fun _ _ f => f)); clear s8; clear m8 k8)
  have kr10 : ∀ {g : Nat} {b : Blk} {v : Value}, Hid (BlkAt w8 g b v) → ∀ w', Kp (fun _ => False) w8 w' → w'.heap[g]? = some (.cells (blkC b v).toArray 26 (0, 0)) := fun h w' k => (h.out.kept k (fun f => f)).row
  have LA := Lib.hid (kr10 A8)
  have LB := Lib.hid (kr10 B8)
  have LX := Lib.hid (kr10 X8)
  have LY := Lib.hid (kr10 Y8)
  have q1 := fun w' (k : Kp (fun _ => False) w8 w') => rsame_any WX.out WX.out (OX8.out.kept k (fun _ _ f => f)).sees (OY8.out.kept k (fun _ _ f => f)).sees
  have q2 := fun w' (k : Kp (fun _ => False) w8 w') => linked_any WA.out WB.out (SA.out _ (K8.out.trans k (fun _ _ f => f))) (SB.out _ (K8.out.trans k (fun _ _ f => f))) (HR.out _ (K8.out.trans k (fun _ _ f => f)))
  have q3 := fun w' (k : Kp (fun _ => False) w8 w') => rlinked_any WA.out WB.out (SA.out _ (K8.out.trans k (fun _ _ f => f))) (SB.out _ (K8.out.trans k (fun _ _ f => f)))
  rw [decide_eq_true rfl] at q1
  obtain ⟨z1, hz1⟩ : ∃ z, z = lnkE a b := ⟨_, rfl⟩
  rw [← hz1] at q2 q3
  have Q1 := Lib.hid q1
  have Q2 := Lib.hid q2
  have Q3 := Lib.hid q3
  clear q1 q2 q3 hz1 kr10
  unfold blkV at Q1 Q2 Q3
  obtain ⟨g0, hg0⟩ : ∃ g, g = w.heap.size := ⟨_, rfl⟩
  obtain ⟨g1, hg1⟩ : ∃ g, g = w.heap.size + 1 := ⟨_, rfl⟩
  obtain ⟨gx, hgx⟩ : ∃ g, g = w5.heap.size := ⟨_, rfl⟩
  obtain ⟨gy, hgy⟩ : ∃ g, g = w7.heap.size := ⟨_, rfl⟩
  have HG0 := Lib.hid hg0
  have HGX := Lib.hid hgx
  rw [← hg1, ← hg0, ← hgx, ← hgy]
  rw [← hg0] at LA
  rw [← hg1] at LB
  rw [← hgx] at LX
  rw [← hgy] at LY
  refine wp_kept (W := w8) (by kernel_rfl) (by kernel_rfl) (Kp.refl _ _) ?_
  repeat (first
    | go_big_quiet_skip
    | (go_big_quiet_want; refine quiet_load_row 26 _ rfl g0 rfl 26 _ (0, 0) _ LA.out Tryd.underlying26 rfl (IA.out _) ?_; (simp only [Act.put, List.setIfInBounds_toArray, List.set_cons_zero, List.set_cons_succ]); go_big_quiet_on)
    | (go_big_quiet_want; refine quiet_load_row 26 _ rfl g1 rfl 26 _ (0, 0) _ LB.out Tryd.underlying26 rfl (IB.out _) ?_; (simp only [Act.put, List.setIfInBounds_toArray, List.set_cons_zero, List.set_cons_succ]); go_big_quiet_on)
    | (go_big_quiet_want; refine quiet_load_row 26 _ rfl gx rfl 26 _ (0, 0) _ LX.out Tryd.underlying26 rfl (IX.out _) ?_; (simp only [Act.put, List.setIfInBounds_toArray, List.set_cons_zero, List.set_cons_succ]); go_big_quiet_on)
    | (go_big_quiet_want; refine quiet_load_row 26 _ rfl gy rfl 26 _ (0, 0) _ LY.out Tryd.underlying26 rfl (IX.out _) ?_; (simp only [Act.put, List.setIfInBounds_toArray, List.set_cons_zero, List.set_cons_succ]); go_big_quiet_on)
    | (go_big_quiet_want; go_big_quiet_op; first | go_big_quiet_on | go_big_quiet_call ((intro hk; first
        | with_reducible rfl
        | (go_at_call 17; ((with_reducible refine at_args #[.agg (blkC x (.slice a5 x.d.length c5)).toArray, .agg (blkC x (.slice a7 x.d.length c7)).toArray] ?_); exact (Q1.out _ hk).mono (fun e w' h => ⟨h.1, hk.trans h.2 (fun _ _ f => f)⟩)))
        | (go_at_call 28; ((with_reducible refine at_args #[.agg (blkC a (.slice a1 a.d.length c1)).toArray, .agg (blkC b (.slice a2 b.d.length c2)).toArray] ?_); exact (Q2.out _ hk).mono (fun e w' h => ⟨h.1, hk.trans h.2 (fun _ _ f => f)⟩)))
        | (go_at_call 29; ((with_reducible refine at_args #[.agg (blkC a (.slice a1 a.d.length c1)).toArray, .agg (blkC b (.slice a2 b.d.length c2)).toArray] ?_); exact (Q3.out _ hk).mono (fun e w' h => ⟨h.1, hk.trans h.2 (fun _ _ f => f)⟩)))))))
  refine wpQuiet_nil ?_
  intro w9 k9
  have K9 := Lib.hid (K8.out.trans k9 (fun _ _ f => f))
  have LA9 := Lib.hid (LA.out _ k9)
  have LX9 := Lib.hid (LX.out _ k9)
  have OX9 := Lib.hid (OX8.out.kept k9 (fun _ _ f => f))
  clear k9
  rcases HCE.out with rfl | rfl
  · have hxe := HXC.out rfl
    have hlb := HLB.out rfl
    have q4 := linked_any WX.out WA.out OX9.out.sees (SA.out _ K9.out) (HR.out _ K9.out)
    have q5 := fun w' (k : Kp (fun _ => False) w9 w') => linked_any WA.out WX.out (SA.out _ (K9.out.trans k (fun _ _ f => f))) (OX9.out.kept k (fun _ _ f => f)).sees (HR.out _ (K9.out.trans k (fun _ _ f => f)))
    rw [show lnkE x a = 0 by rw [hxe]; exact hlb.2.1] at q4
    rw [show lnkE a x = 31 by rw [hxe]; exact hlb.2.2] at q5
    have Q4 := Lib.hid q4
    have Q5 := Lib.hid q5
    clear q4 q5 hxe hlb
    go_wp2_with (first
      | ((with_reducible refine at_dst 59 ?_); refine wpList_load_want rfl 26 _ rfl (gx) rfl 26 _ (0, 0) _ LX9.out Tryd.underlying26 rfl (IX.out _) ?_)
      | ((with_reducible refine at_dst 60 ?_); refine wpList_load_want rfl 26 _ rfl (g0) rfl 26 _ (0, 0) _ LA9.out Tryd.underlying26 rfl (IA.out _) ?_))
    refine Q4.out.mono ?_
    rintro e w10 ⟨rfl, k10⟩
    have K10 := Lib.hid (K9.out.trans k10 (fun _ _ f => f))
    have l10 := BlkAt.kept ⟨LA9.out, WA.out.nm.len⟩ k10 (fun f => f)
    have x10 := BlkAt.kept ⟨LX9.out, WX.out.nm.len⟩ k10 (fun f => f)
    rw [HG0.out] at l10
    rw [HGX.out] at x10
    have L10 := Lib.hid l10
    have X10 := Lib.hid x10
    have Q6 := Lib.hid (Q5.out _ k10)
    clear k10 l10 x10
    go_wp2_with (first
      | ((with_reducible refine at_dst 64 ?_); refine wpList_load_want rfl 26 _ rfl (w.heap.size) rfl 26 _ (0, 0) _ L10.out.row Tryd.underlying26 rfl (IA.out _) ?_)
      | ((with_reducible refine at_dst 65 ?_); refine wpList_load_want rfl 26 _ rfl (w5.heap.size) rfl 26 _ (0, 0) _ X10.out.row Tryd.underlying26 rfl (IX.out _) ?_))
    refine Q6.out.mono ?_
    rintro e w11 ⟨rfl, k11⟩
    have K11 := Lib.hid (K10.out.trans k11 (fun _ _ f => f))
    clear k11
    go_wp2_with fail
    go_ret
    exact ⟨rfl, K11.out⟩
  · go_wp2_with fail
    go_ret
    exact ⟨rfl, K9.out⟩
end Go.Proofs.YtoognhbdgdfkoaaDoor
