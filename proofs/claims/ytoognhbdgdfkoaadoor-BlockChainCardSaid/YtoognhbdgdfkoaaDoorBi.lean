/-
  Contracts of package block's ID, and of the document's own.
-/
import Derived.Test.YtoognhbdgdfkoaaDoorBo
namespace Go.Proofs.YtoognhbdgdfkoaaDoor
open Go.ChangeShapes Go.WideShapes Go.ChangeAt Go.RowKit

/-- the name, or that of an error -/
def orId (b : Blk) (x : Int) : List Int := if x = 0 then bid b else id0
/-- a name and an error -/
def IdP (w : World) (b : Blk) (e : Ending) (w' : World) : Prop := e = .returned (.tuple #[.agg (U8s (orId b (bchk b))).toArray, .int .i64 (bchk b)]) ∧ Kp (fun _ => False) w w'
theorem sumOf_nm (l : List Int) : Nm (sumOf l) := ⟨sumOf_length l, sumOf_rng l⟩
theorem bid_nm (b : Blk) : Nm (bid b) := sumOf_nm _
theorem orId_nm (b : Blk) (x : Int) : Nm (orId b x) := by
  unfold orId; split
  · exact bid_nm b
  · exact id0_nm

set_option maxRecDepth 100000 in
set_option maxHeartbeats 800000 in
theorem blid_any {b : Blk} {v : Value} (hb : b.wf) {w : World} (hs : Sees w v b.d) (hR : Rts w) :
    Calls Tryd.prog 21 #[blkV b v] w (IdP w b) := by
  obtain ⟨a0, c0, rfl⟩ := sees_form hs
  have hA := old_blk (BlkAt.new w hb.nm.len (.slice a0 b.d.length c0)).row (.cells (U8s id0).toArray 23)
  have hO := new_blk (w.alloc (.cells (blkC b (.slice a0 b.d.length c0)).toArray 26)) (.cells (U8s id0).toArray 23)
  rw [World.size_alloc] at hO
  have k1 : Kp (fun _ => False) w ((w.alloc (.cells (blkC b (.slice a0 b.d.length c0)).toArray 26)).alloc (.cells (U8s id0).toArray 23)) := ((Kp.refl _ _).alloc _).alloc _
  have HC := Lib.hid (blbytes_any hb (hs.kept k1 (fun _ _ _ f => f)))
  have HS := Lib.hid hs
  have HA := Lib.hid hA
  have HO := Lib.hid hO
  have HW := Lib.hid hb
  have K1 := Lib.hid k1
  have HI := Lib.hid (fun v => infoBlk hb.nm.len v)
  have HI2 := Lib.hid (info32 (bid b) (bid_nm b).len)
  have HI0 := Lib.hid (info32 id0 rfl)
  have HRng := Lib.hid (bbytes_rng hb)
  have hlen := bbytes_length hb.nm.len
  have HR := Lib.hid (fun w' (k : Kp (fun _ => False) w w') => hR.kept k (fun _ _ f => f))
  have hz := zerosId
  have hcs := bchk_cases b
  have hcl := fun h => bchk_len (b := b) h
  unfold IdP
  unfold BytesP at HC
  obtain ⟨x, hx⟩ : ∃ x, x = bchk b := ⟨_, rfl⟩
  rw [← hx] at HC hcs hcl ⊢
  clear hs hA hO hb hx k1 hR
  rcases hcs with rfl | rfl
  · have hl := hcl rfl
    have HL := Lib.hid (show (bbytes b).length ≤ 300 by omega)
    clear hcl hl hlen
    go_enter Tryd.func21, Tryd.ntmps21
    unfold blkV
    go_wp2_with ((with_reducible refine at_dst 7 ?_); refine wpList_load_row rfl 26 _ rfl w.heap.size rfl 26 _ (0, 0) _ HA.out Tryd.underlying26 rfl (HI.out _) ?_)
    refine HC.out.mono ?_
    rintro e w1 ⟨v1, rfl, own, k⟩
    replace own : OwnB w1 _ v1 (bbytes b) := own
    obtain ⟨a1, c1, rfl⟩ := sees_form own.sees
    have HO1 := Lib.hid (kept_blk HO.out k (fun f => f))
    have K2 := Lib.hid (K1.out.trans k (fun _ _ f => f))
    have Q := Lib.hid (sums_any (bbytes b) HRng.out (by have := HL.out; omega) _ w1 (HR.out _ K2.out) own.sees)
    clear k own
    go_wp2_with fail
    refine Q.out.mono ?_
    rintro e w2 ⟨rfl, k⟩
    have HO2 := Lib.hid (kept_blk HO1.out k (fun f => f))
    have K3 := Lib.hid (K2.out.trans k (fun _ _ f => f))
    clear k
    go_wp2_with ((with_reducible refine at_store 2 16 ?_); refine wpList_store_row rfl 23 _ _ rfl (w.heap.size + 1) (U8s (bid b)).toArray rfl rfl 23 _ HO2.out HI2.out (by rw [List.size_toArray, List.size_toArray, U8s_length, U8s_length, (bid_nm b).len]; rfl) (all_oneCell_toArray (U8s_one _)) ?_)
    refine bodyPost_ret (v := .tuple #[.agg (U8s (bid b)).toArray, .int .i64 0]) (results_cell_tmp Tryd.results21 _ _ (w.heap.size + 1) 23 _ (0, 0) _ _ rfl rfl (setRow_blk HO2.out) Tryd.underlying23 rfl HI2.out) rfl ⟨rfl, K3.out.setRow (fun hlt => by omega) _⟩
  · clear hcl
    go_enter Tryd.func21, Tryd.ntmps21
    unfold blkV
    go_wp2_with ((with_reducible refine at_dst 7 ?_); refine wpList_load_row rfl 26 _ rfl w.heap.size rfl 26 _ (0, 0) _ HA.out Tryd.underlying26 rfl (HI.out _) ?_)
    refine HC.out.mono ?_
    rintro e w1 ⟨v1, rfl, own, k⟩
    have HO1 := Lib.hid (kept_blk HO.out k (fun f => f))
    have K2 := Lib.hid (K1.out.trans k (fun _ _ f => f))
    clear k own
    go_wp2_with ((with_reducible refine at_store 2 13 ?_); refine wpList_store_row rfl 23 _ _ rfl (w.heap.size + 1) (U8s id0).toArray rfl rfl 23 _ HO1.out HI0.out rfl (all_oneCell_toArray (U8s_one _)) ?_)
    refine bodyPost_ret (v := .tuple #[.agg (U8s id0).toArray, .int .i64 30]) (results_cell_tmp Tryd.results21 _ _ (w.heap.size + 1) 23 _ (0, 0) _ _ rfl rfl (setRow_blk HO1.out) Tryd.underlying23 rfl HI0.out) rfl ⟨rfl, K2.out.setRow (fun hlt => by omega) _⟩

set_option maxRecDepth 100000 in
set_option maxHeartbeats 800000 in
theorem rblid_any {b : Blk} {v : Value} (hb : b.wf) {w : World} (hs : Sees w v b.d) :
    Calls Tryd.prog 22 #[blkV b v] w (IdP w b) := by
  obtain ⟨a0, c0, rfl⟩ := sees_form hs
  have hA := old_blk (BlkAt.new w hb.nm.len (.slice a0 b.d.length c0)).row (.cells (U8s id0).toArray 23)
  have hO := new_blk (w.alloc (.cells (blkC b (.slice a0 b.d.length c0)).toArray 26)) (.cells (U8s id0).toArray 23)
  rw [World.size_alloc] at hO
  have k1 : Kp (fun _ => False) w ((w.alloc (.cells (blkC b (.slice a0 b.d.length c0)).toArray 26)).alloc (.cells (U8s id0).toArray 23)) := ((Kp.refl _ _).alloc _).alloc _
  have HC := Lib.hid (rblbytes_any hb (hs.kept k1 (fun _ _ _ f => f)))
  have HS := Lib.hid hs
  have HA := Lib.hid hA
  have HO := Lib.hid hO
  have HW := Lib.hid hb
  have K1 := Lib.hid k1
  have HI := Lib.hid (fun v => infoBlk hb.nm.len v)
  have HI2 := Lib.hid (info32 (bid b) (bid_nm b).len)
  have HI0 := Lib.hid (info32 id0 rfl)
  have HRng := Lib.hid (bbytes_rng hb)
  have hlen := bbytes_length hb.nm.len
  have hz := zerosId
  have hcs := bchk_cases b
  have hcl := fun h => bchk_len (b := b) h
  unfold IdP
  unfold BytesP at HC
  obtain ⟨x, hx⟩ : ∃ x, x = bchk b := ⟨_, rfl⟩
  rw [← hx] at HC hcs hcl ⊢
  clear hs hA hO hb hx k1
  rcases hcs with rfl | rfl
  · have hl := hcl rfl
    have HL := Lib.hid (show (bbytes b).length ≤ 300 by omega)
    clear hcl hl hlen
    go_enter Tryd.func22, Tryd.ntmps22
    unfold blkV
    go_wp2_with ((with_reducible refine at_dst 7 ?_); refine wpList_load_row rfl 26 _ rfl w.heap.size rfl 26 _ (0, 0) _ HA.out Tryd.underlying26 rfl (HI.out _) ?_)
    refine HC.out.mono ?_
    rintro e w1 ⟨v1, rfl, own, k⟩
    replace own : OwnB w1 _ v1 (bbytes b) := own
    obtain ⟨a1, c1, rfl⟩ := sees_form own.sees
    have HO1 := Lib.hid (kept_blk HO.out k (fun f => f))
    have K2 := Lib.hid (K1.out.trans k (fun _ _ f => f))
    have Q := Lib.hid (rsum_any (bbytes b) HRng.out (by have := HL.out; omega) _ w1 own.sees)
    clear k own
    go_wp2_with fail
    refine Q.out.mono ?_
    rintro e w2 ⟨rfl, k⟩
    have HO2 := Lib.hid (kept_blk HO1.out k (fun f => f))
    have K3 := Lib.hid (K2.out.trans k (fun _ _ f => f))
    clear k
    go_wp2_with ((with_reducible refine at_store 2 16 ?_); refine wpList_store_row rfl 23 _ _ rfl (w.heap.size + 1) (U8s (bid b)).toArray rfl rfl 23 _ HO2.out HI2.out (by rw [List.size_toArray, List.size_toArray, U8s_length, U8s_length, (bid_nm b).len]; rfl) (all_oneCell_toArray (U8s_one _)) ?_)
    refine bodyPost_ret (v := .tuple #[.agg (U8s (bid b)).toArray, .int .i64 0]) (results_cell_tmp Tryd.results22 _ _ (w.heap.size + 1) 23 _ (0, 0) _ _ rfl rfl (setRow_blk HO2.out) Tryd.underlying23 rfl HI2.out) rfl ⟨rfl, K3.out.setRow (fun hlt => by omega) _⟩
  · clear hcl
    go_enter Tryd.func22, Tryd.ntmps22
    unfold blkV
    go_wp2_with ((with_reducible refine at_dst 7 ?_); refine wpList_load_row rfl 26 _ rfl w.heap.size rfl 26 _ (0, 0) _ HA.out Tryd.underlying26 rfl (HI.out _) ?_)
    refine HC.out.mono ?_
    rintro e w1 ⟨v1, rfl, own, k⟩
    have HO1 := Lib.hid (kept_blk HO.out k (fun f => f))
    have K2 := Lib.hid (K1.out.trans k (fun _ _ f => f))
    clear k own
    go_wp2_with ((with_reducible refine at_store 2 13 ?_); refine wpList_store_row rfl 23 _ _ rfl (w.heap.size + 1) (U8s id0).toArray rfl rfl 23 _ HO1.out HI0.out rfl (all_oneCell_toArray (U8s_one _)) ?_)
    refine bodyPost_ret (v := .tuple #[.agg (U8s id0).toArray, .int .i64 30]) (results_cell_tmp Tryd.results22 _ _ (w.heap.size + 1) 23 _ (0, 0) _ _ rfl rfl (setRow_blk HO1.out) Tryd.underlying23 rfl HI0.out) rfl ⟨rfl, K2.out.setRow (fun hlt => by omega) _⟩
end Go.Proofs.YtoognhbdgdfkoaaDoor
