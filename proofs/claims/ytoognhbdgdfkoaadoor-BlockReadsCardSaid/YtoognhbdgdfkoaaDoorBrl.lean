/-
  BlockReads's walk.
-/
import Derived.Test.YtoognhbdgdfkoaaDoorBs
import Derived.Test.YtoognhbdgdfkoaaDoorBpa
import Derived.Test.YtoognhbdgdfkoaaDoorBpr
import Derived.Test.YtoognhbdgdfkoaaDoorBc
import Derived.Test.YtoognhbdgdfkoaaDoorBisl
namespace Go.Proofs.YtoognhbdgdfkoaaDoor
open Go.ChangeShapes Go.WideShapes Go.ChangeAt Go.RowKit

/-- a slice of the call's own that is written -/
structure Own1 (W : World) (B : Nat) (cv : Value) (n : Nat) (wr : World) : Prop where
  c : ∃ ys, ys.length = n ∧ OwnB wr B cv ys
  kp : Kp (fun y => cv.ownBlock = some y) W wr
theorem Own1.put {W wr : World} {B : Nat} {a : Option Addr} {n c : Nat} (h : Own1 W B (.slice a n c) n wr) (k : Nat) (hk : k < n) :
    ∃ g x, a = some ⟨g, 0, none⟩ ∧ wr.cell? ⟨g, k, none⟩ = some (.int .u8 x) ∧ wr.frozen? ⟨g, k, none⟩ = false ∧ ∀ y, Own1 W B (.slice a n c) n (wr.setCell ⟨g, k, none⟩ (.int .u8 y)) := by
  obtain ⟨ys, hl, ho⟩ := h.c
  obtain ⟨g, x, rfl, h1, h2, h3⟩ := ho.put hl k hk
  exact ⟨g, x, rfl, h1, h2, fun y => ⟨h3 y, h.kp.setCell (p := ⟨g, k, none⟩) (fun _ => rfl) _⟩⟩

set_option maxRecDepth 100000 in
set_option maxHeartbeats 3200000 in
theorem reads_law {a : Blk} {va vd : Value} {d : List Int} (ha : a.wf) (hd : Rng d) (w : World) (sa : Sees w va a.d) (sd : Sees w vd d) (hR : Rts w) :
    Calls Tryd.prog 4 #[blkV a va, vd] w fun e w' => e = .returned (.bool true) ∧ Kp (fun _ => False) w w' := by
  obtain ⟨a1, c1, rfl⟩ := sees_form sa
  obtain ⟨a0, c0, rfl⟩ := sees_form sd
  have hA := BlkAt.new w ha.nm.len (.slice a1 a.d.length c1)
  have k1 : Kp (fun _ => False) w (w.alloc (.cells (blkC a (.slice a1 a.d.length c1)).toArray 26)) := (Kp.refl _ _).alloc _
  have SA := Lib.hid (fun w' (k : Kp (fun _ => False) w w') => sa.kept k (fun _ _ _ f => f))
  have SD := Lib.hid (fun w' (k : Kp (fun _ => False) w w') => sd.kept k (fun _ _ _ f => f))
  have SDL := Lib.hid sd.lt
  have HR := Lib.hid (fun w' (k : Kp (fun _ => False) w w') => hR.kept k (fun _ _ f => f))
  have IA := Lib.hid (fun v => infoBlk ha.nm.len v)
  have WA := Lib.hid ha
  have WD := Lib.hid hd
  have HA := Lib.hid hA
  have K1 := Lib.hid k1
  have hz := zeroBlk
  have hz2 := zerosId
  have HMK := Lib.hid (fun w => mks1 ha.nm.len (.slice a1 a.d.length c1) w)
  have HSH := Lib.hid (show shortB [(a, .slice a1 a.d.length c1)] = true → a.d.length ≤ 3000 from fun h => by
    simp [shortB] at h; omega)
  clear sa sd hA ha hd k1 hR
  go_enter Tryd.func4, Tryd.ntmps4
  unfold blkV
  go_wp2_with fail
  refine (blive_any _ (HR.out _ K1.out)).mono ?_
  rintro e w1 ⟨rfl, k⟩
  have A1 := Lib.hid (HA.out.kept k (fun f => f))
  have K2 := Lib.hid (K1.out.trans k (fun _ _ f => f))
  clear k
  go_wp2_with (first
    | ((with_reducible refine at_dst 22 ?_); refine wpList_load_want rfl 26 _ rfl (w.heap.size) rfl 26 _ (0, 0) _ A1.out.row Tryd.underlying26 rfl (IA.out _) ?_)
    | ((with_reducible refine at_dst 23 ?_); refine wpList_slice_run rfl _ _ _ rfl _ rfl _ _ (HMK.out _) ?_))
  have kr : Kp (fun _ => False) w1 (w1.alloc (.cells (blkC a (.slice a1 a.d.length c1)).toArray 26)) := (Kp.refl _ w1).alloc _
  refine (short_any (one_row w1 (.slice a1 a.d.length c1) WA.out.nm.len) (fun x hx => ?_)).mono ?_
  · simp only [List.mem_cons, List.not_mem_nil, or_false] at hx
    rcases hx with rfl
    exact ⟨WA.out, SA.out _ (K2.out.trans kr (fun _ _ f => f))⟩
  rintro e w2 ⟨rfl, k⟩
  have A2 := Lib.hid ((A1.out.kept kr (fun f => f)).kept k (fun f => f))
  have K3 := Lib.hid ((K2.out.trans kr (fun _ _ f => f)).trans k (fun _ _ f => f))
  clear k kr A1
  obtain ⟨sh, hsh⟩ : ∃ sh, sh = shortB [(a, .slice a1 a.d.length c1)] := ⟨_, rfl⟩
  rw [← hsh] at HSH ⊢
  clear hsh
  have hsd : sh = false ∨ (sh = true ∧ decide ((3000 : Int) < d.length) = true) ∨ (sh = true ∧ decide ((3000 : Int) < d.length) = false) := by
    cases sh <;> simp
    omega
  rcases hsd with rfl | ⟨rfl, hdl⟩ | ⟨rfl, hdl⟩
  · go_wp2_with fail
    refine (blive_any _ (HR.out _ K3.out)).mono ?_
    rintro e w3 ⟨rfl, k⟩
    have K4 := Lib.hid (K3.out.trans k (fun _ _ f => f))
    clear k
    go_wp2_with fail
    go_ret
    exact ⟨rfl, K4.out⟩
  · go_wp2_with fail
    refine (blive_any _ (HR.out _ K3.out)).mono ?_
    rintro e w3 ⟨rfl, k⟩
    have K4 := Lib.hid (K3.out.trans k (fun _ _ f => f))
    clear k
    go_wp2_with fail
    go_ret
    exact ⟨rfl, K4.out⟩
  have HL := Lib.hid (HSH.out rfl)
  have hdm : d.length ≤ 3000 := by simp at hdl; omega
  have HDM := Lib.hid hdm
  clear HSH hdm
  go_wp2_with fail
  refine (bclone_any (SD.out _ K3.out) (by have := HDM.out; omega)).mono ?_
  intro e w3 hnb
  obtain ⟨a3, c3, rfl, own, k⟩ := hnb.form
  have WS3 := Lib.hid own
  have A3 := Lib.hid (A2.out.kept k (fun f => f))
  have K4 := Lib.hid (K3.out.trans k (fun _ _ f => f))
  clear hnb own k A2
  -- bytes
  have QB := Lib.hid (fun w' hs => blbytes_any (w := w') (v := .slice a1 a.d.length c1) WA.out hs)
  have QC := Lib.hid (fun w' hs => rblbytes_any (w := w') (v := .slice a1 a.d.length c1) WA.out hs)
  have QI := Lib.hid (fun w' hs hR => blid_any (w := w') (v := .slice a1 a.d.length c1) WA.out hs hR)
  have QJ := Lib.hid (fun w' hs => rblid_any (w := w') (v := .slice a1 a.d.length c1) WA.out hs)
  unfold BytesP at QB QC
  unfold IdP at QI QJ
  have NI := Lib.hid (orId_nm a (bchk a))
  have hrx : Rng (if bchk a = 0 then bbytes a else []) := by
    split
    · exact bbytes_rng WA.out
    · intro x hx; cases hx
  obtain ⟨e0, he0⟩ : ∃ e0, e0 = bchk a := ⟨_, rfl⟩
  rw [← he0] at QB QC QI QJ NI hrx
  obtain ⟨xb, hxb⟩ : ∃ xb, xb = (if e0 = 0 then bbytes a else []) := ⟨_, rfl⟩
  rw [← hxb] at QB QC hrx
  obtain ⟨ix, hix⟩ : ∃ ix, ix = orId a e0 := ⟨_, rfl⟩
  rw [← hix] at QI QJ NI
  have RX := Lib.hid hrx
  have II := Lib.hid (info32 ix NI.out.len)
  -- Parse
  have WX := Lib.hid (orpB_wf WD.out)
  have QP := Lib.hid (fun w' hs => parse3_any (w := w') (v := .slice a0 d.length c0) WD.out (by have := HDM.out; omega) hs)
  have QR := Lib.hid (fun w' hs => rparse_any (w := w') (v := .slice a0 d.length c0) WD.out (by have := HDM.out; omega) hs)
  obtain ⟨pe, hpe⟩ : ∃ pe, pe = pE d := ⟨_, rfl⟩
  rw [← hpe] at WX QP QR
  obtain ⟨x, hx⟩ : ∃ x, x = orBlk (pB d) pe := ⟨_, rfl⟩
  rw [← hx] at WX QP QR
  have IX := Lib.hid (fun v => infoBlk WX.out.nm.len v)
  have HXL := Lib.hid (show x.d.length ≤ 3000 by
    rw [hx]; unfold orBlk; split
    · show (d.drop 46).length ≤ 3000; rw [List.length_drop]; have := HDM.out; omega
    · exact Nat.zero_le _)
  clear he0 hxb hix hrx hpe hx
  go_wp2_with ((with_reducible refine at_dst 36 ?_); refine wpList_load_row rfl 26 _ rfl (w.heap.size) rfl 26 _ (0, 0) _ A3.out.row Tryd.underlying26 rfl (IA.out _) ?_)
  refine (QB.out _ (SA.out _ K4.out)).mono ?_
  rintro e w4 ⟨v4, rfl, own, k⟩
  obtain ⟨a4, c4, rfl⟩ := sees_form own.sees
  have BX4 := Lib.hid own
  have A4 := Lib.hid (A3.out.kept k (fun f => f))
  have WS4 := Lib.hid (WS3.out.kept k (fun _ _ f => f))
  have K5 := Lib.hid (K4.out.trans k (fun _ _ f => f))
  clear own k A3 WS3
  go_wp2_with ((with_reducible refine at_dst 41 ?_); refine wpList_load_row rfl 26 _ rfl (w.heap.size) rfl 26 _ (0, 0) _ A4.out.row Tryd.underlying26 rfl (IA.out _) ?_)
  refine (QC.out _ (SA.out _ K5.out)).mono ?_
  rintro e w5 ⟨v5, rfl, own, k⟩
  obtain ⟨a5, c5, rfl⟩ := sees_form own.sees
  have BY5 := Lib.hid own
  have BX5 := Lib.hid (BX4.out.kept k (fun _ _ f => f))
  have A5 := Lib.hid (A4.out.kept k (fun f => f))
  have WS5 := Lib.hid (WS4.out.kept k (fun _ _ f => f))
  have K6 := Lib.hid (K5.out.trans k (fun _ _ f => f))
  clear own k A4 WS4 BX4
  go_wp2_with ((with_reducible refine at_dst 46 ?_); refine wpList_load_row rfl 26 _ rfl (w.heap.size) rfl 26 _ (0, 0) _ A5.out.row Tryd.underlying26 rfl (IA.out _) ?_)
  refine (QI.out _ (SA.out _ K6.out) (HR.out _ K6.out)).mono ?_
  rintro e w6 ⟨rfl, k⟩
  have BY6 := Lib.hid (BY5.out.kept k (fun _ _ f => f))
  have BX6 := Lib.hid (BX5.out.kept k (fun _ _ f => f))
  have A6 := Lib.hid (A5.out.kept k (fun f => f))
  have WS6 := Lib.hid (WS5.out.kept k (fun _ _ f => f))
  have K7 := Lib.hid (K6.out.trans k (fun _ _ f => f))
  clear k A5 WS5 BX5 BY5
  go_wp2_with (first
    | ((with_reducible refine at_store 10 48 ?_); refine wpList_store_fresh rfl 23 _ _ rfl (U8s ix).toArray rfl rfl 23 _ II.out (by rw [List.size_toArray, List.size_toArray, U8s_length, U8s_length, NI.out.len]; rfl) (all_oneCell_toArray (U8s_one _)) ?_; intro w7 k7 m7 s7; have I7 := Lib.hid m7; have BY7 := Lib.hid (BY6.out.kept k7 (fun _ _ f => f)); have BX7 := Lib.hid (BX6.out.kept k7 (fun _ _ f => f)); have A7 := Lib.hid (A6.out.kept k7 (fun f => f)); have WS7 := Lib.hid (WS6.out.kept k7 (fun _ _ f => f)); have K8 := Lib.hid (K7.out.trans k7 (fun _ _ f => f)); clear m7 k7 s7)
    | ((with_reducible refine at_dst 51 ?_); refine wpList_load_row rfl 26 _ rfl (w.heap.size) rfl 26 _ (0, 0) _ A7.out.row Tryd.underlying26 rfl (IA.out _) ?_))
  refine (QJ.out _ (SA.out _ K8.out)).mono ?_
  rintro e w8 ⟨rfl, k⟩
  have BY8 := Lib.hid (BY7.out.kept k (fun _ _ f => f))
  have BX8 := Lib.hid (BX7.out.kept k (fun _ _ f => f))
  have WS8 := Lib.hid (WS7.out.kept k (fun _ _ f => f))
  have I8 := Lib.hid (kept_blk I7.out k (fun f => f))
  have K9 := Lib.hid (K8.out.trans k (fun _ _ f => f))
  clear k A7 WS7 BX7 BY7 I7
  go_wp2_with ((with_reducible refine at_store 12 53 ?_); refine wpList_store_fresh rfl 23 _ _ rfl (U8s ix).toArray rfl rfl 23 _ II.out (by rw [List.size_toArray, List.size_toArray, U8s_length, U8s_length, NI.out.len]; rfl) (all_oneCell_toArray (U8s_one _)) ?_; intro w9 k9 m9 s9; have J9 := Lib.hid m9; have BY9 := Lib.hid (BY8.out.kept k9 (fun _ _ f => f)); have BX9 := Lib.hid (BX8.out.kept k9 (fun _ _ f => f)); have WS9 := Lib.hid (WS8.out.kept k9 (fun _ _ f => f)); have I9 := Lib.hid (kept_blk I8.out k9 (fun f => f)); have K10 := Lib.hid (K9.out.trans k9 (fun _ _ f => f)); clear m9 k9 s9)
  refine (QP.out _ (SD.out _ K10.out)).mono ?_
  rintro e w10 ⟨v10, rfl, own, k⟩
  obtain ⟨a10, c10, rfl⟩ := sees_form own.sees
  have OC10 := Lib.hid own
  have OCB := Lib.hid own.lt
  have WSB := Lib.hid WS9.out.lt
  have BY10 := Lib.hid (BY9.out.kept k (fun _ _ f => f))
  have BX10 := Lib.hid (BX9.out.kept k (fun _ _ f => f))
  have WS10 := Lib.hid (WS9.out.kept k (fun _ _ f => f))
  have I10 := Lib.hid (kept_blk I9.out k (fun f => f))
  have J10 := Lib.hid (kept_blk J9.out k (fun f => f))
  have KW9 := Lib.hid K10.out.size
  have K11 := Lib.hid (K10.out.trans k (fun _ _ f => f))
  clear own k WS9 BX9 BY9 I9 J9
  unfold blkV
  go_wp2_with ((with_reducible refine at_store 14 58 ?_); refine wpList_store_fresh rfl 26 _ _ rfl (blkC x (.slice a10 x.d.length c10)).toArray rfl rfl 26 _ (IX.out _) (by rw [List.size_toArray, List.size_toArray, blkC_length WX.out.nm.len]; rfl) blkC_one ?_; intro w11 k11 m11 s11; have C11 := Lib.hid (BlkAt.mk m11 WX.out.nm.len); have BY11 := Lib.hid (BY10.out.kept k11 (fun _ _ f => f)); have BX11 := Lib.hid (BX10.out.kept k11 (fun _ _ f => f)); have WS11 := Lib.hid (WS10.out.kept k11 (fun _ _ f => f)); have OC11 := Lib.hid (OC10.out.kept k11 (fun _ _ f => f)); have I11 := Lib.hid (kept_blk I10.out k11 (fun f => f)); have J11 := Lib.hid (kept_blk J10.out k11 (fun f => f)); have K12 := Lib.hid (K11.out.trans k11 (fun _ _ f => f)); clear s11; clear m11 k11)
  refine (QR.out _ (SD.out _ K12.out)).mono ?_
  rintro e w12 ⟨v12, rfl, own, k⟩
  obtain ⟨a12, c12, rfl⟩ := sees_form own.sees
  have OD12 := Lib.hid own
  have OC12 := Lib.hid (OC11.out.kept k (fun _ _ f => f))
  have C12 := Lib.hid (C11.out.kept k (fun f => f))
  have BY12 := Lib.hid (BY11.out.kept k (fun _ _ f => f))
  have BX12 := Lib.hid (BX11.out.kept k (fun _ _ f => f))
  have WS12 := Lib.hid (WS11.out.kept k (fun _ _ f => f))
  have I12 := Lib.hid (kept_blk I11.out k (fun f => f))
  have J12 := Lib.hid (kept_blk J11.out k (fun f => f))
  have K13 := Lib.hid (K12.out.trans k (fun _ _ f => f))
  clear own k WS11 BX11 BY11 I11 J11 C11 OC11
  unfold blkV
  go_upto_region 10 with ((with_reducible refine at_store 16 63 ?_); refine wpList_store_fresh rfl 26 _ _ rfl (blkC x (.slice a12 x.d.length c12)).toArray rfl rfl 26 _ (IX.out _) (by rw [List.size_toArray, List.size_toArray, blkC_length WX.out.nm.len]; rfl) blkC_one ?_; intro w13 k13 m13 s13; have D13 := Lib.hid (BlkAt.mk m13 WX.out.nm.len); have BY13 := Lib.hid (BY12.out.kept k13 (fun _ _ f => f)); have BX13 := Lib.hid (BX12.out.kept k13 (fun _ _ f => f)); have WS13 := Lib.hid (WS12.out.kept k13 (fun _ _ f => f)); have OC13 := Lib.hid (OC12.out.kept k13 (fun _ _ f => f)); have OD13 := Lib.hid (OD12.out.kept k13 (fun _ _ f => f)); have C13 := Lib.hid (C12.out.kept k13 (fun f => f)); have I13 := Lib.hid (kept_blk I12.out k13 (fun f => f)); have J13 := Lib.hid (kept_blk J12.out k13 (fun f => f)); have K14 := Lib.hid (K13.out.trans k13 (fun _ _ f => f)); clear s13; clear m13 k13)
  have QE := Lib.hid (equal_any BX13.out.sees BY13.out.sees RX.out RX.out)
  rw [decide_eq_true rfl] at QE
  have QS := Lib.hid (rsame_any WX.out WX.out OC13.out.sees OD13.out.sees)
  rw [decide_eq_true rfl] at QS
  have hn := fun w => eqn_names ix ix NI.out.len NI.out.len w
  rw [decide_eq_true rfl] at hn
  go_wp2_with (first
    | (go_at_call 25; refine QE.out.mono ?_; rintro r w14 ⟨rfl, rfl⟩)
    | ((with_reducible refine at_dst 75 ?_); refine wpList_load_want rfl 23 _ rfl w6.heap.size rfl 23 (U8s ix).toArray (0, 0) _ I13.out Tryd.underlying23 rfl II.out ?_)
    | ((with_reducible refine at_dst 76 ?_); refine wpList_load_want rfl 23 _ rfl w8.heap.size rfl 23 (U8s ix).toArray (0, 0) _ J13.out Tryd.underlying23 rfl II.out ?_)
    | ((with_reducible refine at_dst 85 ?_); refine wpList_load_want rfl 26 _ rfl (w10.heap.size) rfl 26 _ (0, 0) _ C13.out.row Tryd.underlying26 rfl (IX.out _) ?_)
    | ((with_reducible refine at_dst 86 ?_); refine wpList_load_want rfl 26 _ rfl (w12.heap.size) rfl 26 _ (0, 0) _ D13.out.row Tryd.underlying26 rfl (IX.out _) ?_))
  refine QS.out.mono ?_
  rintro e w14 ⟨rfl, k⟩
  have hC := C13.out.kept k (fun f => f)
  have c33 := hC.dat
  have hO := OC13.out.kept k (fun _ _ f => f)
  have HCB := Lib.hid (show ∀ y, (Value.slice a10 x.d.length c10).ownBlock = some y → w9.heap.size ≤ y ∧ y < w10.heap.size from OCB.out)
  have HST := Lib.hid (show Own1 w14 0 (.slice a10 x.d.length c10) x.d.length w14 from ⟨⟨x.d, rfl, hO.up (Nat.zero_le _)⟩, Kp.refl _ _⟩)
  have K15 := Lib.hid (K14.out.trans k (fun _ _ f => f))
  have HC := Lib.hid hC
  have WS14 := Lib.hid (WS13.out.kept k (fun _ _ f => f))
  have hmx : x.d.length ≤ 3000 := HXL.out
  clear hC hO k hn
  go_wp2_with fail
  go_loopw [98] (fun i wr => ∃ j : Nat, j ≤ x.d.length ∧ i = .int .i64 j ∧ Own1 w14 0 (.slice a10 x.d.length c10) x.d.length wr) (fun i _ => x.d.length - (intOf i).toNat)
  case atStart => exact ⟨0, Nat.zero_le _, rfl, HST.out⟩
  case round =>
    obtain ⟨j, hj, rfl, hq⟩ := hrel
    by_cases hlt : j < x.d.length
    · have c33r := (HC.out.kept hq.kp (fun h => by have := (HCB.out _ h).2; omega)).dat
      obtain ⟨gq, y, hgq, hcq, hfq, hnq⟩ := hq.put j hlt
      subst hgq
      have HN := Lib.hid hnq
      have hd : decide ((j : Int) < x.d.length) = true := by simp; omega
      clear hnq hq c33
      go_wp2_with fail
      go_roundw
      case rel => exact ⟨j + 1, by omega, by go_num, HN.out _⟩
      case measure => simp [intOf]; omega
    · obtain rfl : j = x.d.length := by omega
      have hkw := KW9.out
      have k16 : Kp (fun _ => False) w wr := K15.out.trans hq.kp (fun y hy h => by have := (HCB.out y h).1; omega)
      have hs1 : Sees wr (.slice a0 d.length c0) d := SD.out _ k16
      have hs2 := (WS14.out.kept hq.kp (fun g hg h => by have h1 := (HCB.out g h).1; have h2 := (WSB.out g hg).2; omega)).sees
      have Q8 := Lib.hid (equal_any hs1 hs2 WD.out WD.out)
      rw [decide_eq_true rfl] at Q8
      have K16 := Lib.hid k16
      clear hq c33 hkw k16 hs1 hs2
      go_wp2_with fail
      refine Q8.out.mono ?_
      rintro e w17 ⟨rfl, rfl⟩
      go_wp2_with fail
      go_ret
      exact ⟨rfl, K16.out⟩
end Go.Proofs.YtoognhbdgdfkoaaDoor
