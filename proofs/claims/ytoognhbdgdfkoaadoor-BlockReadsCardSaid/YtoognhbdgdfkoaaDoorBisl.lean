/-
  BlockIs's walk.
-/
import Derived.Test.YtoognhbdgdfkoaaDoorBs
import Derived.Test.YtoognhbdgdfkoaaDoorQk
namespace Go.Proofs.YtoognhbdgdfkoaaDoor
open Go.ChangeShapes Go.WideShapes Go.ChangeAt Go.RowKit

/-- two slices of the call's own, in blocks of their own -/
structure Own2 (W : World) (B : Nat) (cv xv : Value) (n m : Nat) (wr : World) : Prop where
  c : ∃ ys, ys.length = n ∧ OwnB wr B cv ys
  x : ∃ zs, zs.length = m ∧ OwnB wr B xv zs
  ne : ∀ g, cv.ownBlock = some g → xv.ownBlock ≠ some g
  kp : Kp (fun y => cv.ownBlock = some y ∨ xv.ownBlock = some y) W wr

/-- a byte of one's own is written -/
theorem OwnB.put {w : World} {B : Nat} {a : Option Addr} {n c : Nat} {ys : List Int} (h : OwnB w B (.slice a n c) ys) (hl : ys.length = n) (k : Nat) (hk : k < n) :
    ∃ g x, a = some ⟨g, 0, none⟩ ∧ w.cell? ⟨g, k, none⟩ = some (.int .u8 x) ∧ w.frozen? ⟨g, k, none⟩ = false ∧ ∀ y, ∃ zs, zs.length = n ∧ OwnB (w.setCell ⟨g, k, none⟩ (.int .u8 y)) B (.slice a n c) zs := by
  rcases h with ⟨e, _⟩ | ⟨g, cap, rest, e, h1, h2, h3, h4⟩
  · injection e with _ e2 _; omega
  · injection e with e1 e2 e3
    subst e1 e3
    refine ⟨g, ys.getD k 0, rfl, ?_, free_blk h2 _, fun y => ⟨ys.set k y, by rw [List.length_set]; exact hl, .inr ⟨g, c, rest, by rw [List.length_set, hl], h1, ?_, ?_, h4⟩⟩⟩
    · rw [cell_blk h2, List.getElem?_toArray, List.getElem?_append_left (by rw [U8s_length]; omega)]
      simp [U8s, show k < ys.length by omega]
    · rw [set_blk h2]
      congr 2
      apply Array.ext'
      simp only [Array.toList_setIfInBounds]
      rw [List.set_append_left _ _ (by rw [U8s_length]; omega)]
      simp [U8s, List.map_set]
    · rw [List.length_append, U8s_length, List.length_set, ← U8s_length ys, ← List.length_append]; exact h3
theorem Own2.putC {W wr : World} {B : Nat} {a : Option Addr} {n c m : Nat} {xv : Value} (h : Own2 W B (.slice a n c) xv n m wr) (k : Nat) (hk : k < n) :
    ∃ g x, a = some ⟨g, 0, none⟩ ∧ wr.cell? ⟨g, k, none⟩ = some (.int .u8 x) ∧ wr.frozen? ⟨g, k, none⟩ = false ∧ ∀ y, Own2 W B (.slice a n c) xv n m (wr.setCell ⟨g, k, none⟩ (.int .u8 y)) := by
  obtain ⟨ys, hl, ho⟩ := h.c
  obtain ⟨zs, hz, hx⟩ := h.x
  obtain ⟨g, x, rfl, h1, h2, h3⟩ := ho.put hl k hk
  refine ⟨g, x, rfl, h1, h2, fun y => ⟨h3 y, ⟨zs, hz, ?_⟩, h.ne, h.kp.setCell (p := ⟨g, k, none⟩) (fun _ => .inl rfl) _⟩⟩
  exact hx.kept ((Kp.refl (fun y => y = g) wr).setCell (fun _ => rfl) _) (fun g' hg' e => h.ne g rfl (by rw [hg', e]))
theorem Own2.putX {W wr : World} {B : Nat} {a : Option Addr} {n c m : Nat} {cv : Value} (h : Own2 W B cv (.slice a m c) n m wr) (k : Nat) (hk : k < m) :
    ∃ g x, a = some ⟨g, 0, none⟩ ∧ wr.cell? ⟨g, k, none⟩ = some (.int .u8 x) ∧ wr.frozen? ⟨g, k, none⟩ = false ∧ ∀ y, Own2 W B cv (.slice a m c) n m (wr.setCell ⟨g, k, none⟩ (.int .u8 y)) := by
  obtain ⟨ys, hl, ho⟩ := h.x
  obtain ⟨zs, hz, hx⟩ := h.c
  obtain ⟨g, x, rfl, h1, h2, h3⟩ := ho.put hl k hk
  refine ⟨g, x, rfl, h1, h2, fun y => ⟨⟨zs, hz, ?_⟩, h3 y, h.ne, h.kp.setCell (p := ⟨g, k, none⟩) (fun _ => .inr rfl) _⟩⟩
  exact hx.kept ((Kp.refl (fun y => y = g) wr).setCell (fun _ => rfl) _) (fun g' hg' e => h.ne g' hg' (by rw [e]; rfl))

set_option maxRecDepth 100000 in
set_option maxHeartbeats 3200000 in
theorem is_law {a b : Blk} {va vb : Value} (ha : a.wf) (hb : b.wf) (w : World) (sa : Sees w va a.d) (sb : Sees w vb b.d) (hR : Rts w) :
    Calls Tryd.prog 3 #[blkV a va, blkV b vb] w fun e w' => e = .returned (.bool true) ∧ Kp (fun _ => False) w w' := by
  obtain ⟨a1, c1, rfl⟩ := sees_form sa
  obtain ⟨a2, c2, rfl⟩ := sees_form sb
  obtain ⟨hA, hB⟩ := two_at w ha.nm.len hb.nm.len (.slice a1 a.d.length c1) (.slice a2 b.d.length c2)
  have k1 : Kp (fun _ => False) w ((w.alloc (.cells (blkC a (.slice a1 a.d.length c1)).toArray 26)).alloc (.cells (blkC b (.slice a2 b.d.length c2)).toArray 26)) := ((Kp.refl _ _).alloc _).alloc _
  have SA := Lib.hid (fun w' (k : Kp (fun _ => False) w w') => sa.kept k (fun _ _ _ f => f))
  have SB := Lib.hid (fun w' (k : Kp (fun _ => False) w w') => sb.kept k (fun _ _ _ f => f))
  have HR := Lib.hid (fun w' (k : Kp (fun _ => False) w w') => hR.kept k (fun _ _ f => f))
  have IA := Lib.hid (fun v => infoBlk ha.nm.len v)
  have IB := Lib.hid (fun v => infoBlk hb.nm.len v)
  have WA := Lib.hid ha
  have WB := Lib.hid hb
  have HA := Lib.hid hA
  have HB := Lib.hid hB
  have K1 := Lib.hid k1
  have hz := zeroBlk
  have HMK := Lib.hid (fun w => mks2 ha.nm.len hb.nm.len (.slice a1 a.d.length c1) (.slice a2 b.d.length c2) w)
  have HSH := Lib.hid (show shortB [(a, .slice a1 a.d.length c1), (b, .slice a2 b.d.length c2)] = true → a.d.length ≤ 3000 from fun h => by
    simp [shortB] at h; omega)
  clear sa sb hA hB ha hb k1 hR
  go_enter Tryd.func3, Tryd.ntmps3
  unfold blkV
  go_wp2_with fail
  refine (blive_any _ (HR.out _ K1.out)).mono ?_
  rintro e w1 ⟨rfl, k⟩
  have A1 := Lib.hid (HA.out.kept k (fun f => f))
  have B1 := Lib.hid (HB.out.kept k (fun f => f))
  have K2 := Lib.hid (K1.out.trans k (fun _ _ f => f))
  clear k
  go_wp2_with (first
    | ((with_reducible refine at_dst 17 ?_); refine wpList_load_want rfl 26 _ rfl (w.heap.size) rfl 26 _ (0, 0) _ A1.out.row Tryd.underlying26 rfl (IA.out _) ?_)
    | ((with_reducible refine at_dst 18 ?_); refine wpList_load_want rfl 26 _ rfl (w.heap.size + 1) rfl 26 _ (0, 0) _ B1.out.row Tryd.underlying26 rfl (IB.out _) ?_)
    | ((with_reducible refine at_dst 19 ?_); refine wpList_slice_run rfl _ _ _ rfl _ rfl _ _ (HMK.out _) ?_))
  have kr : Kp (fun _ => False) w1 (w1.alloc (.cells (blkC a (.slice a1 a.d.length c1) ++ blkC b (.slice a2 b.d.length c2)).toArray 26)) := (Kp.refl _ w1).alloc _
  refine (short_any (two_row w1 (.slice a1 a.d.length c1) (.slice a2 b.d.length c2) WA.out.nm.len WB.out.nm.len) (fun x hx => ?_)).mono ?_
  · simp only [List.mem_cons, List.not_mem_nil, or_false] at hx
    rcases hx with rfl | rfl
    · exact ⟨WA.out, SA.out _ (K2.out.trans kr (fun _ _ f => f))⟩
    · exact ⟨WB.out, SB.out _ (K2.out.trans kr (fun _ _ f => f))⟩
  rintro e w2 ⟨rfl, k⟩
  have A2 := Lib.hid ((A1.out.kept kr (fun f => f)).kept k (fun f => f))
  have B2 := Lib.hid ((B1.out.kept kr (fun f => f)).kept k (fun f => f))
  have K3 := Lib.hid ((K2.out.trans kr (fun _ _ f => f)).trans k (fun _ _ f => f))
  clear k kr A1 B1
  obtain ⟨sh, hsh⟩ : ∃ sh, sh = shortB [(a, .slice a1 a.d.length c1), (b, .slice a2 b.d.length c2)] := ⟨_, rfl⟩
  rw [← hsh] at HSH ⊢
  clear hsh
  cases sh with
  | false =>
    go_wp2_with fail
    refine (blive_any _ (HR.out _ K3.out)).mono ?_
    rintro e w3 ⟨rfl, k⟩
    have K4 := Lib.hid (K3.out.trans k (fun _ _ f => f))
    clear k
    go_wp2_with fail
    go_ret
    exact ⟨rfl, K4.out⟩
  | true =>
    have HL := Lib.hid (HSH.out rfl)
    clear HSH
    have WX := Lib.hid (orBlk_wf (blk1_wf WA.out.rng) (bchk (blk1 a.d)))
    have QF := Lib.hid (fun w' hs => first_any (w := w') (v := .slice a1 a.d.length c1) WA.out.rng hs)
    have QG := Lib.hid (fun w' hs => rfirst_any (w := w') (v := .slice a1 a.d.length c1) WA.out.rng hs)
    obtain ⟨e0, he0⟩ : ∃ e0, e0 = bchk (blk1 a.d) := ⟨_, rfl⟩
    rw [← he0] at WX QF QG
    obtain ⟨x, hx⟩ : ∃ x, x = orBlk (blk1 a.d) e0 := ⟨_, rfl⟩
    rw [← hx] at WX QF QG
    have HXL := Lib.hid (show x.d.length ≤ 3000 by
      have := HL.out
      rw [hx]; unfold orBlk; split
      · exact this
      · exact Nat.zero_le _)
    have IX := Lib.hid (fun v => infoBlk WX.out.nm.len v)
    clear he0 hx
    go_wp2_with ((with_reducible refine at_dst 24 ?_); refine wpList_load_row rfl 26 _ rfl (w.heap.size) rfl 26 _ (0, 0) _ A2.out.row Tryd.underlying26 rfl (IA.out _) ?_)
    refine (rblclone_any WA.out (SA.out _ K3.out) (by have := HL.out; omega)).mono ?_
    rintro e w3 ⟨v3, rfl, own, k⟩
    obtain ⟨a3, c3, rfl⟩ := sees_form own.sees
    have OW := Lib.hid own
    have A3 := Lib.hid (A2.out.kept k (fun f => f))
    have B3 := Lib.hid (B2.out.kept k (fun f => f))
    have K4 := Lib.hid (K3.out.trans k (fun _ _ f => f))
    clear own k A2 B2
    unfold blkV
    go_wp2_with (first
      | ((with_reducible refine at_store 5 25 ?_); refine wpList_store_fresh rfl 26 _ _ rfl (blkC a (.slice a3 a.d.length c3)).toArray rfl rfl 26 _ (IA.out _) (by rw [List.size_toArray, List.size_toArray, blkC_length WA.out.nm.len]; rfl) blkC_one ?_; intro w4 k4 m4 s4; have WS4 := Lib.hid (BlkAt.mk m4 WA.out.nm.len); have OW4 := Lib.hid (OW.out.kept k4 (fun _ _ f => f)); have A4 := Lib.hid (A3.out.kept k4 (fun f => f)); have B4 := Lib.hid (B3.out.kept k4 (fun f => f)); have K5 := Lib.hid (K4.out.trans k4 (fun _ _ f => f)); have S4 := Lib.hid s4; clear s4; clear m4 k4)
      | ((with_reducible refine at_dst 26 ?_); refine wpList_load_row rfl 26 _ rfl (w.heap.size) rfl 26 _ (0, 0) _ A4.out.row Tryd.underlying26 rfl (IA.out _) ?_))
    refine (blclone_any WA.out (SA.out _ K5.out) (by have := HL.out; omega)).mono ?_
    rintro e w5 ⟨v5, rfl, own, k⟩
    obtain ⟨a5, c5, rfl⟩ := sees_form own.sees
    have OC := Lib.hid own
    have A5 := Lib.hid (A4.out.kept k (fun f => f))
    have B5 := Lib.hid (B4.out.kept k (fun f => f))
    have WS5 := Lib.hid (WS4.out.kept k (fun f => f))
    have OW5 := Lib.hid (OW4.out.kept k (fun _ _ f => f))
    have K6 := Lib.hid (K5.out.trans k (fun _ _ f => f))
    have k45 := Lib.hid k
    clear own k A4 B4
    unfold blkV
    go_wp2_with ((with_reducible refine at_store 6 27 ?_); refine wpList_store_fresh rfl 26 _ _ rfl (blkC a (.slice a5 a.d.length c5)).toArray rfl rfl 26 _ (IA.out _) (by rw [List.size_toArray, List.size_toArray, blkC_length WA.out.nm.len]; rfl) blkC_one ?_; intro w6 k6 m6 s6; have C6 := Lib.hid (BlkAt.mk m6 WA.out.nm.len); have OC6 := Lib.hid (OC.out.kept k6 (fun _ _ f => f)); have A6 := Lib.hid (A5.out.kept k6 (fun f => f)); have B6 := Lib.hid (B5.out.kept k6 (fun f => f)); have WS6 := Lib.hid (WS5.out.kept k6 (fun f => f)); have OW6 := Lib.hid (OW5.out.kept k6 (fun _ _ f => f)); have K7 := Lib.hid (K6.out.trans k6 (fun _ _ f => f)); have S6 := Lib.hid s6; clear s6; have c33 := A6.out.dat; clear m6 k6)
    refine (QF.out _ (SA.out _ K7.out)).mono ?_
    rintro e w7 ⟨v7, rfl, own, k⟩
    obtain ⟨a7, c7, rfl⟩ := sees_form own.sees
    have OX := Lib.hid own
    have A7 := Lib.hid (A6.out.kept k (fun f => f))
    have B7 := Lib.hid (B6.out.kept k (fun f => f))
    have WS7 := Lib.hid (WS6.out.kept k (fun f => f))
    have OW7 := Lib.hid (OW6.out.kept k (fun _ _ f => f))
    have C7 := Lib.hid (C6.out.kept k (fun f => f))
    have OC7 := Lib.hid (OC6.out.kept k (fun _ _ f => f))
    have K8 := Lib.hid (K7.out.trans k (fun _ _ f => f))
    clear own k A6 B6 c33
    unfold blkV
    go_wp2_with ((with_reducible refine at_store 7 32 ?_); refine wpList_store_fresh rfl 26 _ _ rfl (blkC x (.slice a7 x.d.length c7)).toArray rfl rfl 26 _ (IX.out _) (by rw [List.size_toArray, List.size_toArray, blkC_length WX.out.nm.len]; rfl) blkC_one ?_; intro w8 k8 m8 s8; have X8 := Lib.hid (BlkAt.mk m8 WX.out.nm.len); have OX8 := Lib.hid (OX.out.kept k8 (fun _ _ f => f)); have A8 := Lib.hid (A7.out.kept k8 (fun f => f)); have B8 := Lib.hid (B7.out.kept k8 (fun f => f)); have WS8 := Lib.hid (WS7.out.kept k8 (fun f => f)); have OW8 := Lib.hid (OW7.out.kept k8 (fun _ _ f => f)); have C8 := Lib.hid (C7.out.kept k8 (fun f => f)); have OC8 := Lib.hid (OC7.out.kept k8 (fun _ _ f => f)); have K9 := Lib.hid (K8.out.trans k8 (fun _ _ f => f)); have S8 := Lib.hid s8; clear s8; have c33 := A8.out.dat; clear m8 k8)
    refine (QG.out _ (SA.out _ K9.out)).mono ?_
    rintro e w9 ⟨v9, rfl, own, k⟩
    obtain ⟨a9, c9, rfl⟩ := sees_form own.sees
    have OY := Lib.hid own
    have A9 := Lib.hid (A8.out.kept k (fun f => f))
    have B9 := Lib.hid (B8.out.kept k (fun f => f))
    have WS9 := Lib.hid (WS8.out.kept k (fun f => f))
    have OW9 := Lib.hid (OW8.out.kept k (fun _ _ f => f))
    have C9 := Lib.hid (C8.out.kept k (fun f => f))
    have OC9 := Lib.hid (OC8.out.kept k (fun _ _ f => f))
    have X9 := Lib.hid (X8.out.kept k (fun f => f))
    have OX9 := Lib.hid (OX8.out.kept k (fun _ _ f => f))
    have K10 := Lib.hid (K9.out.trans k (fun _ _ f => f))
    clear own k A8 B8 c33
    unfold blkV
    go_wp2_with ((with_reducible refine at_store 9 38 ?_); refine wpList_store_fresh rfl 26 _ _ rfl (blkC x (.slice a9 x.d.length c9)).toArray rfl rfl 26 _ (IX.out _) (by rw [List.size_toArray, List.size_toArray, blkC_length WX.out.nm.len]; rfl) blkC_one ?_; intro w10 k10 m10 s10; have Y10 := Lib.hid (BlkAt.mk m10 WX.out.nm.len); have OY10 := Lib.hid (OY.out.kept k10 (fun _ _ f => f)); have A10 := Lib.hid (A9.out.kept k10 (fun f => f)); have B10 := Lib.hid (B9.out.kept k10 (fun f => f)); have WS10 := Lib.hid (WS9.out.kept k10 (fun f => f)); have OW10 := Lib.hid (OW9.out.kept k10 (fun _ _ f => f)); have C10 := Lib.hid (C9.out.kept k10 (fun f => f)); have OC10 := Lib.hid (OC9.out.kept k10 (fun _ _ f => f)); have X10 := Lib.hid (X9.out.kept k10 (fun f => f)); have OX10 := Lib.hid (OX9.out.kept k10 (fun _ _ f => f)); have K11 := Lib.hid (K10.out.trans k10 (fun _ _ f => f)); have S10 := Lib.hid s10; clear s10; clear m10 k10)
    have kr10 : ∀ {g : Nat} {b : Blk} {v : Value}, Hid (BlkAt w10 g b v) → ∀ w', Kp (fun _ => False) w10 w' → w'.heap[g]? = some (.cells (blkC b v).toArray 26 (0, 0)) := fun h w' k => (h.out.kept k (fun f => f)).row
    have LA := Lib.hid (kr10 A10)
    have LB := Lib.hid (kr10 B10)
    have LC := Lib.hid (kr10 C10)
    have LX := Lib.hid (kr10 X10)
    have LY := Lib.hid (kr10 Y10)
    have q1 := fun w' (k : Kp (fun _ => False) w10 w') => check_any WA.out (SA.out _ (K11.out.trans k (fun _ _ f => f)))
    have q2 := fun w' (k : Kp (fun _ => False) w10 w') => rcheck_any WA.out (SA.out _ (K11.out.trans k (fun _ _ f => f)))
    have q3 := fun w' (k : Kp (fun _ => False) w10 w') => same_any WA.out WB.out (SA.out _ (K11.out.trans k (fun _ _ f => f))) (SB.out _ (K11.out.trans k (fun _ _ f => f)))
    have q4 := fun w' (k : Kp (fun _ => False) w10 w') => rsame_any WA.out WB.out (SA.out _ (K11.out.trans k (fun _ _ f => f))) (SB.out _ (K11.out.trans k (fun _ _ f => f)))
    have q5 := fun w' (k : Kp (fun _ => False) w10 w') => same_any WA.out WA.out (SA.out _ (K11.out.trans k (fun _ _ f => f))) (SA.out _ (K11.out.trans k (fun _ _ f => f)))
    have q6 := fun w' (k : Kp (fun _ => False) w10 w') => rsame_any WA.out WA.out (OC10.out.kept k (fun _ _ f => f)).sees (SA.out _ (K11.out.trans k (fun _ _ f => f)))
    have q7 := fun w' (k : Kp (fun _ => False) w10 w') => rsame_any WX.out WX.out (OX10.out.kept k (fun _ _ f => f)).sees (OY10.out.kept k (fun _ _ f => f)).sees
    rw [decide_eq_true rfl] at q5 q6 q7
    obtain ⟨z1, hz1⟩ : ∃ z, z = bchk a := ⟨_, rfl⟩
    obtain ⟨z2, hz2⟩ : ∃ z, z = decide (a = b) := ⟨_, rfl⟩
    rw [← hz1] at q1 q2
    rw [← hz2] at q3 q4
    have Q1 := Lib.hid q1
    have Q2 := Lib.hid q2
    have Q3 := Lib.hid q3
    have Q4 := Lib.hid q4
    have Q5 := Lib.hid q5
    have Q6 := Lib.hid q6
    have Q7 := Lib.hid q7
    clear q1 q2 q3 q4 q5 q6 q7 hz1 hz2 kr10
    unfold blkV at Q1 Q2 Q3 Q4 Q5 Q6 Q7
    obtain ⟨g0, hg0⟩ : ∃ g, g = w.heap.size := ⟨_, rfl⟩
    obtain ⟨g1, hg1⟩ : ∃ g, g = w.heap.size + 1 := ⟨_, rfl⟩
    obtain ⟨gw, hgw⟩ : ∃ g, g = w3.heap.size := ⟨_, rfl⟩
    obtain ⟨gc, hgc⟩ : ∃ g, g = w5.heap.size := ⟨_, rfl⟩
    obtain ⟨gx, hgx⟩ : ∃ g, g = w7.heap.size := ⟨_, rfl⟩
    obtain ⟨gy, hgy⟩ : ∃ g, g = w9.heap.size := ⟨_, rfl⟩
    rw [← hg1, ← hg0, ← hgw, ← hgc, ← hgx, ← hgy]
    rw [← hg0] at LA
    rw [← hg1] at LB
    rw [← hgc] at LC
    rw [← hgx] at LX
    rw [← hgy] at LY
    refine wp_kept (W := w10) (by kernel_rfl) (by kernel_rfl) (Kp.refl _ _) ?_
    repeat (first
      | go_big_quiet_skip
      | (go_big_quiet_want; refine quiet_load_row 26 _ rfl g0 rfl 26 _ (0, 0) _ LA.out Tryd.underlying26 rfl (IA.out _) ?_; (simp only [Act.put, List.setIfInBounds_toArray, List.set_cons_zero, List.set_cons_succ]); go_big_quiet_on)
      | (go_big_quiet_want; refine quiet_load_row 26 _ rfl g1 rfl 26 _ (0, 0) _ LB.out Tryd.underlying26 rfl (IB.out _) ?_; (simp only [Act.put, List.setIfInBounds_toArray, List.set_cons_zero, List.set_cons_succ]); go_big_quiet_on)
      | (go_big_quiet_want; refine quiet_load_row 26 _ rfl gc rfl 26 _ (0, 0) _ LC.out Tryd.underlying26 rfl (IA.out _) ?_; (simp only [Act.put, List.setIfInBounds_toArray, List.set_cons_zero, List.set_cons_succ]); go_big_quiet_on)
      | (go_big_quiet_want; refine quiet_load_row 26 _ rfl gx rfl 26 _ (0, 0) _ LX.out Tryd.underlying26 rfl (IX.out _) ?_; (simp only [Act.put, List.setIfInBounds_toArray, List.set_cons_zero, List.set_cons_succ]); go_big_quiet_on)
      | (go_big_quiet_want; refine quiet_load_row 26 _ rfl gy rfl 26 _ (0, 0) _ LY.out Tryd.underlying26 rfl (IX.out _) ?_; (simp only [Act.put, List.setIfInBounds_toArray, List.set_cons_zero, List.set_cons_succ]); go_big_quiet_on)
      | (go_big_quiet_want; go_big_quiet_op; first | go_big_quiet_on | go_big_quiet_call ((intro hk; first
          | with_reducible rfl
          | (go_at_call 14; exact (Q1.out _ hk).mono (fun e w' h => ⟨h.1, hk.trans h.2 (fun _ _ f => f)⟩))
          | (go_at_call 15; exact (Q2.out _ hk).mono (fun e w' h => ⟨h.1, hk.trans h.2 (fun _ _ f => f)⟩))
          | (go_at_call 16; first
              | ((with_reducible refine at_args #[.agg (blkC a (.slice a1 a.d.length c1)).toArray, .agg (blkC b (.slice a2 b.d.length c2)).toArray] ?_); exact (Q3.out _ hk).mono (fun e w' h => ⟨h.1, hk.trans h.2 (fun _ _ f => f)⟩))
              | ((with_reducible refine at_args #[.agg (blkC a (.slice a1 a.d.length c1)).toArray, .agg (blkC a (.slice a1 a.d.length c1)).toArray] ?_); exact (Q5.out _ hk).mono (fun e w' h => ⟨h.1, hk.trans h.2 (fun _ _ f => f)⟩)))
          | (go_at_call 17; first
              | ((with_reducible refine at_args #[.agg (blkC a (.slice a1 a.d.length c1)).toArray, .agg (blkC b (.slice a2 b.d.length c2)).toArray] ?_); exact (Q4.out _ hk).mono (fun e w' h => ⟨h.1, hk.trans h.2 (fun _ _ f => f)⟩))
              | ((with_reducible refine at_args #[.agg (blkC a (.slice a5 a.d.length c5)).toArray, .agg (blkC a (.slice a1 a.d.length c1)).toArray] ?_); exact (Q6.out _ hk).mono (fun e w' h => ⟨h.1, hk.trans h.2 (fun _ _ f => f)⟩))
              | ((with_reducible refine at_args #[.agg (blkC x (.slice a7 x.d.length c7)).toArray, .agg (blkC x (.slice a9 x.d.length c9)).toArray] ?_); exact (Q7.out _ hk).mono (fun e w' h => ⟨h.1, hk.trans h.2 (fun _ _ f => f)⟩)))))))
    refine wpQuiet_nil ?_
    intro w11 k11
    have C11 := (C10.out.kept k11 (fun f => f))
    have X11 := (X10.out.kept k11 (fun f => f))
    rw [← hgc] at C11
    rw [← hgx] at X11
    have cc := C11.dat
    have cx := X11.dat
    have hs3 := A3.out.lt
    have hOW : ∀ g, (Value.slice a3 a.d.length c3).ownBlock = some g → g < w4.heap.size := fun g hg => by have := (OW.out.lt g hg).2; have := S4.out; omega
    have hOC : ∀ g, (Value.slice a5 a.d.length c5).ownBlock = some g → w4.heap.size ≤ g ∧ g < w5.heap.size := fun g hg => OC.out.lt g hg
    have hOX : ∀ g, (Value.slice a7 x.d.length c7).ownBlock = some g → w6.heap.size ≤ g ∧ g < w7.heap.size := fun g hg => OX.out.lt g hg
    have hOC2 : ∀ g, (Value.slice a5 a.d.length c5).ownBlock = some g → g < w11.heap.size := fun g hg => ((OC10.out.kept k11 (fun _ _ f => f)).lt g hg).2
    have hOX2 : ∀ g, (Value.slice a7 x.d.length c7).ownBlock = some g → g < w11.heap.size := fun g hg => ((OX10.out.kept k11 (fun _ _ f => f)).lt g hg).2
    have s6 := S6.out
    have s4 := S4.out
    have h45 : w4.heap.size ≤ w5.heap.size := k45.out.size
    have kw : Kp (fun _ => False) w11 (w11.alloc (.cells #[.slice a5 a.d.length c5, .slice a7 x.d.length c7] 24)) := (Kp.refl _ w11).alloc _
    have hst : Own2 (w11.alloc (.cells #[.slice a5 a.d.length c5, .slice a7 x.d.length c7] 24)) 0 (.slice a5 a.d.length c5) (.slice a7 x.d.length c7) a.d.length x.d.length (w11.alloc (.cells #[.slice a5 a.d.length c5, .slice a7 x.d.length c7] 24)) :=
      ⟨⟨a.d, rfl, ((OC10.out.kept k11 (fun _ _ f => f)).kept kw (fun _ _ f => f)).up (Nat.zero_le _)⟩, ⟨x.d, rfl, ((OX10.out.kept k11 (fun _ _ f => f)).kept kw (fun _ _ f => f)).up (Nat.zero_le _)⟩,
        fun g h1 h2 => by have := (hOC g h1).2; have := (hOX g h2).1; omega, Kp.refl _ _⟩
    have HST := Lib.hid hst
    have hnl := new_blk w11 (.cells #[.slice a5 a.d.length c5, .slice a7 x.d.length c7] 24)
    have HC0 := Lib.hid (fun (wr : World) (h : Own2 (w11.alloc (.cells #[.slice a5 a.d.length c5, .slice a7 x.d.length c7] 24)) 0 (.slice a5 a.d.length c5) (.slice a7 x.d.length c7) a.d.length x.d.length wr) =>
      (kept_blk hnl h.kp (by rintro (h | h); exact absurd (hOC2 _ h) (Nat.lt_irrefl _); exact absurd (hOX2 _ h) (Nat.lt_irrefl _))))
    have HFIN := Lib.hid (fun (wr : World) (h : Own2 (w11.alloc (.cells #[.slice a5 a.d.length c5, .slice a7 x.d.length c7] 24)) 0 (.slice a5 a.d.length c5) (.slice a7 x.d.length c7) a.d.length x.d.length wr) =>
      (h.kp.mono (F := fun y => w4.heap.size ≤ y) (fun y _ hy => by rcases hy with hy | hy; exact (hOC y hy).1; have := (hOX y hy).1; omega)))
    have KW := Lib.hid ((K11.out.trans k11 (fun _ _ f => f)).trans kw (fun _ _ f => f))
    have AW := Lib.hid ((A10.out.kept k11 (fun f => f)).kept kw (fun f => f))
    have WW := Lib.hid ((WS10.out.kept k11 (fun f => f)).kept kw (fun f => f))
    have OWW := Lib.hid ((OW10.out.kept k11 (fun _ _ f => f)).kept kw (fun _ _ f => f))
    have HOW := Lib.hid hOW
    have HG0 := Lib.hid hg0
    have HGW := Lib.hid hgw
    have HS4 := Lib.hid (show w.heap.size < w3.heap.size ∧ w3.heap.size < w4.heap.size from ⟨hs3, by omega⟩)
    have hmx : a.d.length ≤ 3000 := HL.out
    have hmy : x.d.length ≤ 3000 := HXL.out
    clear C11 X11 hs3 hOW hOC hOX hOC2 hOX2 s6 s4 h45 kw hst hnl hg0 hgw hgc hgx hgy hg1 k11
    go_wp2_with fail
    obtain ⟨W, hW⟩ : ∃ W, W = w11.alloc (.cells #[.slice a5 a.d.length c5, .slice a7 x.d.length c7] 24) := ⟨_, rfl⟩
    rw [← hW] at HST HC0 HFIN KW AW WW OWW ⊢
    obtain ⟨gl, hgl⟩ : ∃ gl, gl = w11.heap.size := ⟨_, rfl⟩
    rw [← hgl] at HC0 ⊢
    clear hW hgl cc cx
    go_loopw [83] (fun i wr => ∃ k : Nat, k ≤ 2 ∧ i = .int .i64 k ∧ Own2 W 0 (.slice a5 a.d.length c5) (.slice a7 x.d.length c7) a.d.length x.d.length wr) (fun i _ => 2 - (intOf i).toNat)
    case atStart => exact ⟨0, by omega, rfl, HST.out⟩
    case round =>
      obtain ⟨k, hk, rfl, hr⟩ := hrel
      have hblk := HC0.out _ hr
      have hk3 : k = 0 ∨ k = 1 ∨ k = 2 := by omega
      rcases hk3 with rfl | rfl | rfl
      · have d0 : wr.cell? ⟨gl, 0, none⟩ = some (.slice a5 a.d.length c5) := by rw [cell_blk hblk]; rfl
        have HRL := Lib.hid hr
        obtain ⟨wo, rfl⟩ : ∃ wo : World, wo = wr := ⟨_, rfl⟩
        clear hblk hr
        go_wp2_with fail
        go_loopw [89] (fun i wx => ∃ j : Nat, j ≤ a.d.length ∧ i = .int .i64 j ∧ Own2 W 0 (.slice a5 a.d.length c5) (.slice a7 x.d.length c7) a.d.length x.d.length wx) (fun i _ => a.d.length - (intOf i).toNat)
        case atStart => exact ⟨0, Nat.zero_le _, rfl, HRL.out⟩
        case round =>
          obtain ⟨j, hj, rfl, hq⟩ := hrel
          by_cases hlt : j < a.d.length
          · obtain ⟨gq, y, hgq, hcq, hfq, hnq⟩ := hq.putC j hlt
            subst hgq
            have HN := Lib.hid hnq
            have hd : decide ((j : Int) < a.d.length) = true := by simp; omega
            clear hnq hq d0
            go_wp2_with fail
            go_roundw
            case rel => exact ⟨j + 1, by omega, by go_num, HN.out _⟩
            case measure => simp [intOf]; omega
          · obtain rfl : j = a.d.length := by omega
            have HQ := Lib.hid hq
            clear hq d0
            go_wp2_with fail
            go_roundw
            case rel => exact ⟨1, by omega, rfl, HQ.out⟩
            case measure => simp [intOf]
      · have d0 : wr.cell? ⟨gl, 1, none⟩ = some (.slice a7 x.d.length c7) := by rw [cell_blk hblk]; rfl
        have HRL := Lib.hid hr
        obtain ⟨wo, rfl⟩ : ∃ wo : World, wo = wr := ⟨_, rfl⟩
        clear hblk hr
        go_wp2_with fail
        go_loopw [89] (fun i wx => ∃ j : Nat, j ≤ x.d.length ∧ i = .int .i64 j ∧ Own2 W 0 (.slice a5 a.d.length c5) (.slice a7 x.d.length c7) a.d.length x.d.length wx) (fun i _ => x.d.length - (intOf i).toNat)
        case atStart => exact ⟨0, Nat.zero_le _, rfl, HRL.out⟩
        case round =>
          obtain ⟨j, hj, rfl, hq⟩ := hrel
          by_cases hlt : j < x.d.length
          · obtain ⟨gq, y, hgq, hcq, hfq, hnq⟩ := hq.putX j hlt
            subst hgq
            have HN := Lib.hid hnq
            have hd : decide ((j : Int) < x.d.length) = true := by simp; omega
            clear hnq hq d0
            go_wp2_with fail
            go_roundw
            case rel => exact ⟨j + 1, by omega, by go_num, HN.out _⟩
            case measure => simp [intOf]; omega
          · obtain rfl : j = x.d.length := by omega
            have HQ := Lib.hid hq
            clear hq d0
            go_wp2_with fail
            go_roundw
            case rel => exact ⟨2, by omega, rfl, HQ.out⟩
            case measure => simp [intOf]
      · have kf := HFIN.out _ hr
        have ar := AW.out.kept kf (fun h => by have := HS4.out; omega)
        have wr' := WW.out.kept kf (fun h => by have := HS4.out; omega)
        have ow := (OWW.out.kept kf (fun g hg h => by have := HOW.out g hg; omega)).sees
        have k12 : Kp (fun _ => False) w wr := KW.out.trans kf (fun y hy h => by have := HS4.out; omega)
        have q8 := rsame_any WA.out WA.out (SA.out _ k12) ow
        rw [decide_eq_true rfl] at q8
        have Q8 := Lib.hid q8
        rw [← HG0.out] at ar
        rw [← HGW.out] at wr'
        have AR := Lib.hid ar
        have WRW := Lib.hid wr'
        have K12 := Lib.hid k12
        clear kf ar wr' ow k12 q8 hblk hr
        go_wp2_with (first
          | ((with_reducible refine at_dst 100 ?_); refine wpList_load_row rfl 26 _ rfl (g0) rfl 26 _ (0, 0) _ AR.out.row Tryd.underlying26 rfl (IA.out _) ?_)
          | ((with_reducible refine at_dst 101 ?_); refine wpList_load_row rfl 26 _ rfl (gw) rfl 26 _ (0, 0) _ WRW.out.row Tryd.underlying26 rfl (IA.out _) ?_))
        refine Q8.out.mono ?_
        rintro e w13 ⟨rfl, k13⟩
        have K13 := Lib.hid (K12.out.trans k13 (fun _ _ f => f))
        clear k13
        go_wp2_with fail
        go_ret
        exact ⟨rfl, K13.out⟩
end Go.Proofs.YtoognhbdgdfkoaaDoor
