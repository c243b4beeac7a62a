/-
  Contracts of the laws' own live and short.
-/
import Derived.Test.YtoognhbdgdfkoaaDoorBk3
namespace Go.Proofs.YtoognhbdgdfkoaaDoor
open Go.ChangeShapes Go.WideShapes Go.ChangeAt Go.RowKit

/-- the chapter's first block and its child -/
def gB : Blk := blk1 [103]
theorem gB_wf : gB.wf := blk1_wf (fun x hx => by simp at hx; omega)
theorem gB_chk : bchk gB = 0 := by decide
theorem gB_bytes : bbytes gB = List.replicate 42 0 ++ [0, 0, 0, 1, 103] := by decide
theorem gB_chd : chdE gB [97] = 0 := by
  unfold chdE
  rw [if_neg]
  rintro (h | h | h)
  · exact h gB_chk
  · exact absurd h (by decide)
  · exact absurd h (by decide)
theorem r97 : Rng [97] := fun x hx => by simp at hx; omega
theorem gB_lnk : lnkE (chd gB [97]) gB = 0 :=
  lnkE_yes (by rw [chd_chk gB_chk (by decide)]; exact gB_chd) gB_chk rfl (by decide)
theorem mk42 (w : World) : (Instr.makeSlice 24 (.int .i64 42) (.int .i64 42)).run Tryd.prog w = .ok (.slice (some ⟨w.heap.size, 0, none⟩) 42 42) (w.alloc (.cells (U8s (List.replicate 42 0)).toArray 5)) := by kernel_rfl

/-- forty-two noughts and five bytes more -/
theorem app42 (w : World) : ∃ a c w8, (∀ ty, (Builtin.append_ #[24, 24] ty #[.slice (some ⟨w.heap.size, 0, none⟩) 42 42, .slice (some ⟨w.heap.size + 1, 0, none⟩) 5 5]).run Tryd.prog
    ((w.alloc (.cells (U8s (List.replicate 42 0)).toArray 5)).alloc (.cells #[.int .u8 0, .int .u8 0, .int .u8 0, .int .u8 1, .int .u8 103] 5)) = .ok (.slice a 47 c) w8) ∧ OwnB w8 w.heap.size (.slice a 47 c) (bbytes gB) ∧ Kp (fun _ => False) w w8 := by
  have ho : OwnB (w.alloc (.cells (U8s (List.replicate 42 0)).toArray 5)) w.heap.size (.slice (some ⟨w.heap.size, 0, none⟩) 42 42) (List.replicate 42 0) :=
    .inr ⟨w.heap.size, 42, [], by rw [List.length_replicate], Nat.le_refl _, by rw [List.append_nil]; exact new_blk _ _, by rw [List.append_nil, U8s_length, List.length_replicate], by unfold maxLen; omega⟩
  have k1 : Kp (fun _ => False) w (w.alloc (.cells (U8s (List.replicate 42 0)).toArray 5)) := (Kp.refl _ w).alloc _
  have k2 : Kp (fun _ => False) (w.alloc (.cells (U8s (List.replicate 42 0)).toArray 5)) ((w.alloc (.cells (U8s (List.replicate 42 0)).toArray 5)).alloc (.cells #[.int .u8 0, .int .u8 0, .int .u8 0, .int .u8 1, .int .u8 103] 5)) := (Kp.refl _ _).alloc _
  have hl := lit_sees (w.alloc (.cells (U8s (List.replicate 42 0)).toArray 5)) [0, 0, 0, 1, 103] (by decide)
  rw [World.size_alloc] at hl
  obtain ⟨v8, w8, h1, h2, h3, _⟩ := run_append_by (Nat.le_trans k1.size k2.size) (ho.kept k2 (fun _ _ f => f)) hl (by simp)
  rw [← gB_bytes] at h2
  obtain ⟨a, c, rfl⟩ := sees_form h2.sees
  exact ⟨a, c, w8, h1, h2, (k1.trans k2 (fun _ _ f => f)).trans h3 (fun y hy e => by have := own_some e; omega)⟩

set_option maxRecDepth 100000 in
set_option maxHeartbeats 1600000 in
theorem blive_any (w : World) (hR : Rts w) : Calls Tryd.prog 8 #[] w fun e w' => e = .returned (.bool true) ∧ Kp (fun _ => False) w w' := by
  have hz := zeroBlk
  have hmk := mk42
  have HR := Lib.hid (fun w' (k : Kp (fun _ => False) w w') => hR.kept k (fun _ _ f => f))
  have hcv1 := Lib.run_convert_bytes_const (P := Tryd.prog) w 24 5 #[.int .u8 103] 1 1 Tryd.underlying24 Tryd.underlying5
  have hcv2 := fun w => Lib.run_convert_bytes_const (P := Tryd.prog) w 24 5 #[.int .u8 97] 1 1 Tryd.underlying24 Tryd.underlying5
  have k1 : Kp (fun _ => False) w (w.alloc (.cells #[.int .u8 103] 5 (1, 2))) := (Kp.refl _ w).alloc _
  have K1 := Lib.hid k1
  have HF := Lib.hid (first_any (d := [103]) gB_wf.rng (lits_sees w [103] (by decide) 5 (1, 2)))
  have IG := Lib.hid (fun v => infoBlk gB_wf.nm.len v)
  clear hR k1
  go_enter Tryd.func8, Tryd.ntmps8
  go_wp2_with fail
  refine HF.out.mono ?_
  intro e w1 hq
  obtain ⟨v1, rfl, own, k⟩ := (show NewBlkE _ gB 0 e w1 from hq)
  obtain ⟨a1, c1, rfl⟩ := sees_form own.sees
  have OW1 := Lib.hid own
  have K2 := Lib.hid (K1.out.trans k (fun _ _ f => f))
  clear hq own k
  unfold blkV
  go_wp2_with (first
    | ((with_reducible refine at_store 1 11 ?_); refine wpList_store_fresh rfl 26 _ _ rfl (blkC gB (.slice a1 gB.d.length c1)).toArray rfl rfl 26 _ (IG.out _) rfl blkC_one ?_; intro w2 k2 m2 s2; have M2 := Lib.hid (BlkAt.mk m2 gB_wf.nm.len); have O2 := Lib.hid (OW1.out.kept k2 (fun _ _ f => f)); have K3 := Lib.hid (K2.out.trans k2 (fun _ _ f => f)); clear m2 s2 k2)
    | ((with_reducible refine at_dst 14 ?_); refine wpList_load_row rfl 26 _ rfl w1.heap.size rfl 26 _ (0, 0) _ M2.out.row Tryd.underlying26 rfl (IG.out _) ?_))
  refine (blbytes_any gB_wf (v := .slice a1 gB.d.length c1) O2.out.sees).mono ?_
  intro e w3 hq
  unfold BytesP at hq
  rw [gB_chk, if_pos rfl] at hq
  obtain ⟨v3, rfl, own, k⟩ := hq
  obtain ⟨a3, c3, rfl⟩ := sees_form own.sees
  have BY3 := Lib.hid own
  have M3 := Lib.hid (M2.out.kept k (fun f => f))
  have O3 := Lib.hid (O2.out.kept k (fun _ _ f => f))
  have K4 := Lib.hid (K3.out.trans k (fun _ _ f => f))
  clear own k
  go_wp2_with ((with_reducible refine at_dst 19 ?_); refine wpList_load_row rfl 26 _ rfl w1.heap.size rfl 26 _ (0, 0) _ M3.out.row Tryd.underlying26 rfl (IG.out _) ?_)
  have k5 : Kp (fun _ => False) w3 (w3.alloc (.cells #[.int .u8 97] 5 (1, 2))) := (Kp.refl _ w3).alloc _
  have K5 := Lib.hid (K4.out.trans k5 (fun _ _ f => f))
  have BY5 := Lib.hid (BY3.out.kept k5 (fun _ _ f => f))
  have M5 := Lib.hid (M3.out.kept k5 (fun f => f))
  have O5 := Lib.hid (O3.out.kept k5 (fun _ _ f => f))
  clear k5
  refine (child_any gB_wf r97 (v := .slice a1 gB.d.length c1) O5.out.sees (lits_sees w3 [97] (by decide) 5 (1, 2)) (HR.out _ K5.out)).mono ?_
  rw [gB_chd]
  intro e w6 hq
  obtain ⟨v6, rfl, own, k⟩ := (show NewBlkE _ (chd gB [97]) 0 e w6 from hq)
  obtain ⟨a6, c6, rfl⟩ := sees_form own.sees
  have HCW := Lib.hid (chd_wf (b := gB) (d := [97]) gB_wf (by decide) r97)
  have IC := Lib.hid (fun v => infoBlk HCW.out.nm.len v)
  have OC6 := Lib.hid own
  have BY6 := Lib.hid (BY5.out.kept k (fun _ _ f => f))
  have M6 := Lib.hid (M5.out.kept k (fun f => f))
  have O6 := Lib.hid (O5.out.kept k (fun _ _ f => f))
  have K6 := Lib.hid (K5.out.trans k (fun _ _ f => f))
  clear hq own k
  unfold blkV
  go_upto_region 4 with ((with_reducible refine at_store 5 23 ?_); refine wpList_store_fresh rfl 26 _ _ rfl (blkC (chd gB [97]) (.slice a6 (chd gB [97]).d.length c6)).toArray rfl rfl 26 _ (IC.out _) (by rw [List.size_toArray, List.size_toArray, blkC_length HCW.out.nm.len]; rfl) blkC_one ?_; intro w7 k7 m7 s7; have N7 := Lib.hid (BlkAt.mk m7 HCW.out.nm.len); have OC7 := Lib.hid (OC6.out.kept k7 (fun _ _ f => f)); have BY7 := Lib.hid (BY6.out.kept k7 (fun _ _ f => f)); have M7 := Lib.hid (M6.out.kept k7 (fun f => f)); have O7 := Lib.hid (O6.out.kept k7 (fun _ _ f => f)); have K7 := Lib.hid (K6.out.trans k7 (fun _ _ f => f)); clear m7 s7 k7)
  obtain ⟨a8, c8, w8, hap, own, k⟩ := app42 w7
  have HAP := Lib.hid hap
  have HQ := Lib.hid (equal_any (BY7.out.kept k (fun _ _ f => f)).sees own.sees (bbytes_rng gB_wf) (bbytes_rng gB_wf))
  rw [decide_eq_true rfl] at HQ
  have N8 := Lib.hid (N7.out.kept k (fun f => f))
  have c32 := N8.out.ht
  have M8 := Lib.hid (M7.out.kept k (fun f => f))
  have K8 := Lib.hid (K7.out.trans k (fun _ _ f => f))
  have HL := Lib.hid (linked_any HCW.out gB_wf (OC7.out.kept k (fun _ _ f => f)).sees (O7.out.kept k (fun _ _ f => f)).sees (HR.out _ K8.out))
  rw [gB_lnk] at HL
  have e1 : (chd gB [97]).h = 1 := rfl
  rw [e1] at c32
  clear hap own k e1
  go_wp2_with (first
    | ((with_reducible refine at_dst 39 ?_); refine wpList_append_want _ rfl _ _ _ _ rfl _ _ rfl rfl _ _ (HAP.out _) ?_)
    | (go_at_call 25; refine HQ.out.mono ?_; rintro r w9 ⟨rfl, rfl⟩)
    | ((with_reducible refine at_dst 48 ?_); refine wpList_load_want rfl 26 _ rfl w6.heap.size rfl 26 _ (0, 0) _ N8.out.row Tryd.underlying26 rfl (IC.out _) ?_)
    | ((with_reducible refine at_dst 49 ?_); refine wpList_load_want rfl 26 _ rfl w1.heap.size rfl 26 _ (0, 0) _ M8.out.row Tryd.underlying26 rfl (IG.out _) ?_)
    | (go_at_call 28; refine HL.out.mono ?_; rintro r w9 ⟨rfl, k9⟩))
  go_ret
  exact ⟨rfl, K8.out.trans k9 (fun _ _ f => f)⟩
end Go.Proofs.YtoognhbdgdfkoaaDoor
