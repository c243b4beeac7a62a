/-
  Contract of the document's own Parse.
-/
import Derived.Test.YtoognhbdgdfkoaaDoorBpp
import Derived.Test.YtoognhbdgdfkoaaDoorRv
import Derived.Deep.RegionWith
import Derived.Deep.DeepCutAuto
import Derived.Deep.CutRange
namespace Go.Proofs.YtoognhbdgdfkoaaDoor
open Go.ChangeShapes Go.WideShapes Go.ChangeAt Go.RowKit

theorem run_storeCells_row {P : Program} {w : World} {g t : Nat} {old : Array Value} (hg : w.heap[g]? = some (.cells old t (0, 0))) (cs : List Value) (hold : old.size = cs.length) (h1 : ∀ v ∈ cs, v.oneCell' = true) :
    (storeCells ⟨g, 0, none⟩ cs).run P w = .ok () (w.setRow g cs.toArray) := by
  have := run_storeCells_from (P := P) g t cs 0 old w hg (by omega) h1
  rw [this]
  simp
theorem all_one {b : Blk} {a : Option Addr} {n c : Nat} : ∀ v ∈ blkC b (.slice a n c), v.oneCell' = true := fun v hv => by
  simp only [blkC, U8s, List.mem_cons, List.mem_append, List.mem_map, List.not_mem_nil, or_false] at hv
  rcases hv with ⟨_, _, rfl⟩ | rfl | rfl <;> rfl
/-- behind the drawn region: the block as it is laid at first -/
def PrRel (w : World) (g4 : Nat) (b : Blk) (v : Value) (p : Value) (wc : World) : Prop :=
  p = .pointer (some ⟨g4, 0, none⟩) ∧ BlkAt wc g4 b v ∧ Kp (fun _ => False) w wc
/-- the first k bytes of the parent stand -/
def PpRel (w : World) (g4 : Nat) (l : List Int) (h : Int) (v : Value) (k : Nat) (wr : World) : Prop :=
  BlkAt wr g4 ⟨(l.drop 2).take k ++ List.replicate (32 - k) 0, h, []⟩ v ∧ Kp (fun _ => False) w wr
theorem PpRel.next {w wr : World} {g4 : Nat} {l : List Int} {h : Int} {v : Value} {k : Nat} (hp : PpRel w g4 l h v k wr) (hk : k < 32) (hl : 34 ≤ l.length) (hg : w.heap.size ≤ g4) :
    (∃ u, wr.cell? ⟨g4, k, none⟩ = some u) ∧ wr.frozen? ⟨g4, k, none⟩ = false ∧ PpRel w g4 l h v (k + 1) (wr.setCell ⟨g4, k, none⟩ (.int .u8 (l.getD (2 + k) 0))) := by
  have hlen : ((l.drop 2).take k).length = k := by rw [List.length_take, List.length_drop]; omega
  refine ⟨⟨_, by rw [cell_blk hp.1.row, List.getElem?_toArray, List.getElem?_eq_getElem (by rw [blkC_length hp.1.len]; omega)]⟩, free_blk hp.1.row _, ⟨?_, ?_⟩, hp.2.setCell (fun hlt => absurd hlt (by show ¬ g4 < _; omega)) _⟩
  · rw [set_blk hp.1.row]
    congr 2
    apply Array.ext'
    simp only [Array.toList_setIfInBounds, blkC]
    rw [List.set_append_left _ _ (by rw [U8s_length, hp.1.len]; omega)]
    congr 1
    have e1 : (l.drop 2).take (k + 1) = (l.drop 2).take k ++ [l.getD (2 + k) 0] := by
      rw [List.take_succ_eq_append_getElem (by rw [List.length_drop]; omega)]
      simp [show 2 + k < l.length by omega]
    rw [e1, show 32 - k = (32 - (k + 1)) + 1 by omega, List.replicate_succ, U8s_append, U8s_append, U8s_append, List.set_append_right _ _ (by rw [U8s_length, hlen]; omega), U8s_length, hlen, List.append_assoc]
    simp [U8s]
  · show (((l.drop 2).take (k + 1)) ++ List.replicate (32 - (k + 1)) 0).length = 32
    rw [List.length_append, List.length_take, List.length_drop, List.length_replicate]; omega
theorem builtP (h : Int) (a : Option Addr) (n c : Nat) : (Tryd.prog.built 26 [(1, .int .i64 h), (2, .slice a n c)]).isSome = true ∧
    (Tryd.prog.built 26 [(1, .int .i64 h), (2, .slice a n c)]).getD #[] = (blkC ⟨id0, h, []⟩ (.slice a n c)).toArray := ⟨by kernel_rfl, by kernel_rfl⟩

set_option maxRecDepth 100000 in
set_option maxHeartbeats 3200000 in
theorem rparse_any {l : List Int} {v : Value} (hr : Rng l) (hl : l.length ≤ 1000000) {w : World} (hs : Sees w v l) :
    Calls Tryd.prog 24 #[v] w (NewBlkE w (orBlk (pB l) (pE l)) (pE l)) := by
  by_cases hlen : 46 ≤ l.length
  · obtain ⟨vs, hsl, hss⟩ := sees_part hs 34 8 (by omega) (by omega) 34 42 (by omega) (by omega)
    obtain ⟨vt, htl, hts, hto⟩ := sees_from hs 46 hlen
    obtain ⟨a0, c0, rfl⟩ := sees_form hs
    have hz := zeroBlk
    have k1 : Kp (fun _ => False) w (w.alloc (.cells (blkC blk0 (.slice none 0 0)).toArray 26)) := (Kp.refl _ _).alloc _
    have hcs : Sees w vs ((l.drop 34).take 8) := hss
    obtain ⟨xv, hxv⟩ : ∃ xv, xv = val ((l.drop 34).take 8) := ⟨_, rfl⟩
    have hva := fun w' (k : Kp (fun _ => False) w w') => val_any (hcs.kept k (fun _ _ _ f => f)) (fun x hx => hr x (List.mem_of_mem_drop (List.mem_of_mem_take hx))) (by rw [List.length_take]; omega)
    rw [← hxv] at hva
    have htl : ∀ w', (Instr.sliceAt 24 (.slice a0 l.length c0) (some (.int .i64 46)) none none).run Tryd.prog w' = .ok vt w' := htl
    obtain ⟨at', ct, hvt⟩ := sees_form hts
    have HVA := Lib.hid hva
    subst hvt
    have HTS := Lib.hid hts
    have HS := Lib.hid hs
    have HR := Lib.hid hr
    have HXV := Lib.hid hxv
    have HB0 := Lib.hid (BlkAt.new w (b := blk0) rfl (.slice none 0 0))
    have K1 := Lib.hid k1
    have hBt : BlkAt (((w.alloc (.cells (blkC blk0 (.slice none 0 0)).toArray 26)).alloc (.cells (blkC blk0 (.slice none 0 0)).toArray 26)).drew) (w.heap.size + 1) blk0 (.slice none 0 0) :=
      ⟨(two_at w (a := blk0) (b := blk0) rfl rfl (.slice none 0 0) (.slice none 0 0)).2.row, rfl⟩
    have hst : (storeCells ⟨w.heap.size + 1, 0, none⟩ (((blkC blk0 (.slice none 0 0)).set 32 (.int .i64 (IntKind.i64.wrap xv))).set 33 (.slice at' (l.length - 46) ct))).run Tryd.prog
        (((w.alloc (.cells (blkC blk0 (.slice none 0 0)).toArray 26)).alloc (.cells (blkC blk0 (.slice none 0 0)).toArray 26)).drew) = .ok () _ :=
      run_storeCells_row hBt.row _ (by rfl) (fun v hv => all_one (b := ⟨id0, IntKind.i64.wrap xv, []⟩) v hv)
    have hm1 : l.length ≤ 9223372036854775807 := by omega
    have hfin : ∀ x, x = wrap64 xv → PrRel (w.alloc (.cells (blkC blk0 (.slice none 0 0)).toArray 26)) (w.heap.size + 1) ⟨id0, wrap64 xv, []⟩ (.slice at' (l.length - 46) ct) (.pointer (some ⟨w.heap.size + 1, 0, none⟩)) ((((w.alloc (.cells (blkC blk0 (.slice none 0 0)).toArray 26)).alloc (.cells (blkC blk0 (.slice none 0 0)).toArray 26)).drew).setRow (w.heap.size + 1) ((((blkC blk0 (.slice none 0 0)).set 32 (.int .i64 x)).set 33 (.slice at' (l.length - 46) ct))).toArray) := by
      rintro x rfl
      exact ⟨rfl, ⟨setRow_blk hBt.row, rfl⟩, Kp.setRow (F := fun _ => False) ((((Kp.refl _ _).alloc _).drew)) (fun hlt => by rw [World.size_alloc] at hlt; omega) _⟩
    have HF := Lib.hid (hfin _ (IntWalk.i64_left xv))
    have HF2 := Lib.hid (hfin _ rfl)
    have HK0 := Lib.hid k1.drew
    have HK1 := Lib.hid (k1.alloc (.cells (blkC blk0 (.slice none 0 0)).toArray 26)).drew
    clear hBt hfin
    have hl46 : ¬ (l.length : Int) < 46 := by omega
    clear hts hss hcs hto hva hs hr hxv k1
    go_enter Tryd.func24, Tryd.ntmps24
    go_upto_region 3 with (fail)
    go_cut [4] from 12 (fun p wc => PrRel (w.alloc (.cells (blkC blk0 (.slice none 0 0)).toArray 26)) (w.heap.size + 1) ⟨id0, wrap64 xv, []⟩ (.slice at' (l.length - 46) ct) p wc)
    case first =>
      go_region_with (first
        | (go_at_call 48; refine (HVA.out _ (by first | exact HK0.out | exact HK1.out)).mono ?_; rintro e w1 ⟨rfl, rfl⟩))
      all_goals
        go_wp2_with fail
        go_meet
        case rel => first | exact HF2.out | exact HF.out
    case rest =>
      obtain ⟨rfl, hat, hk⟩ := hcut
      have HB1 := Lib.hid (show BlkAt (w.alloc (.cells (blkC blk0 (.slice none 0 0)).toArray 26)) w.heap.size blk0 (.slice none 0 0) from HB0.out)
      have HI0 := Lib.hid (fun v => infoBlk (b := blk0) rfl v)
      have HST := Lib.hid (show PpRel (w.alloc (.cells (blkC blk0 (.slice none 0 0)).toArray 26)) (w.heap.size + 1) l (wrap64 xv) (.slice at' (l.length - 46) ct) 0 wc from ⟨hat, hk⟩)
      have hne : l ≠ [] := by rintro rfl; simp at hlen
      obtain ⟨bb, off, cap, hvl, _, _⟩ := HS.out.lit hne
      injection hvl with hv1 hv2 hv3
      subst hv1 hv3
      clear hat hk hst hsl htl
      go_wp2_with fail
      go_loopw [5] (fun i wr => ∃ k : Nat, k ≤ 32 ∧ i = .int .i64 k ∧ PpRel (w.alloc (.cells (blkC blk0 (.slice none 0 0)).toArray 26)) (w.heap.size + 1) l (wrap64 xv) (.slice at' (l.length - 46) ct) k wr) (fun i _ => 32 - (intOf i).toNat)
      case atStart => exact ⟨0, by omega, rfl, HST.out⟩
      case round =>
        obtain ⟨k, hk, rfl, hp⟩ := hrel
        by_cases hlt : k < 32
        · have hc : wr.cell? ⟨bb, off + (2 + k), none⟩ = some (.int .u8 (l.getD (2 + k) 0)) := by
            rcases HS.out.kept (K1.out.trans hp.2 (fun _ _ f => f)) (fun _ _ _ f => f) with ⟨h, _⟩ | ⟨ad, cap', e, _, _, h3⟩
            · cases h
            · injection e with e1 _ _
              injection e1 with e1
              subst e1
              have := h3 (2 + k) (l.getD (2 + k) 0) (by simp [show 2 + k < l.length by omega])
              rw [Addr.add_lit] at this
              exact this
          obtain ⟨⟨u, hd⟩, hf, hnx⟩ := hp.next hlt (by omega) (by rw [World.size_alloc]; omega)
          have hx1 : ((2 : Int) + k).toNat = 2 + k := by omega
          have hx2 : (0 : Int) ≤ 2 + k := by omega
          have hx3 : (2 : Int) + k < l.length := by omega
          have HN := Lib.hid hnx
          obtain ⟨y, hy⟩ : ∃ y, y = l.getD (2 + k) 0 := ⟨_, rfl⟩
          rw [← hy] at hc HN
          clear hp hnx hy
          go_wp2
          go_roundw
          case rel => exact ⟨k + 1, by omega, by go_num, HN.out⟩
          case measure => simp [intOf]; omega
        · obtain rfl : k = 32 := by omega
          have hfb : BlkAt wr (w.heap.size + 1) (pB l) (.slice at' (pB l).d.length ct) := by
            have h := hp.1
            rw [show 32 - 32 = 0 from rfl, List.replicate_zero, List.append_nil] at h
            have e1 : (pB l).d.length = l.length - 46 := by show (l.drop 46).length = _; rw [List.length_drop]
            rw [e1]
            have e2 : wrap64 xv = (pB l).h := by rw [HXV.out]; rfl
            rw [e2] at h
            exact ⟨h.row, h.len⟩
          have hwf := pB_wf HR.out hlen
          have IB := Lib.hid (fun v => infoBlk hwf.nm.len v)
          have WB := Lib.hid hwf
          have FB := Lib.hid hfb
          have K3 := Lib.hid (K1.out.trans hp.2 (fun _ _ f => f))
          have B3 := Lib.hid (HB1.out.kept hp.2 (fun f => f))
          have TS := Lib.hid (show Sees w (.slice at' (pB l).d.length ct) (pB l).d from HTS.out)
          have hq := rblbytes_any hwf (TS.out.kept K3.out (fun _ _ _ f => f))
          have HBY := Lib.hid hq
          have hcs := bchk_cases (pB l)
          have HPE := Lib.hid (show pE l = if bchk (pB l) = 0 ∧ bbytes (pB l) = l then 0 else 30 from by
            unfold pE
            by_cases h : bchk (pB l) = 0 ∧ bbytes (pB l) = l
            · rw [if_pos h, if_pos (show pOk l from ⟨hlen, h⟩)]
            · rw [if_neg h, if_neg (fun (h' : pOk l) => h h'.2)])
          have e1 : l.length - 46 = (pB l).d.length := by show _ = (l.drop 46).length; rw [List.length_drop]
          have HE1 := Lib.hid e1
          unfold BytesP at HBY
          have HBC := Lib.hid (show ∀ h : bchk (pB l) = 0, (pB l).d.length ≤ 1000000 from fun h => by have := bchk_len h; omega)
          obtain ⟨z, hzz⟩ : ∃ z, z = bchk (pB l) := ⟨_, rfl⟩
          rw [← hzz] at HBY hcs HPE HBC
          clear hq hwf hfb hp hlt hk hzz
          rw [show ((32 : Nat) : Int) = 32 from rfl]
          rcases hcs with rfl | rfl
          · have HPY := Lib.hid (fun (h : bbytes (pB l) = l) => (show pE l = 0 by rw [HPE.out, if_pos ⟨rfl, h⟩]))
            have HPN := Lib.hid (fun (h : ¬ bbytes (pB l) = l) => (show pE l = 30 by rw [HPE.out, if_neg (fun h' => h h'.2)]))
            have HBL := Lib.hid (HBC.out rfl)
            clear HPE HBC
            go_wp2_with ((with_reducible refine at_dst 32 ?_); refine wpList_load_row rfl 26 _ rfl (w.heap.size + 1) rfl 26 _ (0, 0) _ FB.out.row Tryd.underlying26 rfl (IB.out _) ?_)
            refine HBY.out.mono ?_
            rintro e w4 ⟨v4, rfl, own, k⟩
            replace own : OwnB w4 _ v4 (bbytes (pB l)) := own
            obtain ⟨a4, c4, rfl⟩ := sees_form own.sees
            have K4 := Lib.hid (K3.out.trans k (fun _ _ f => f))
            have B4 := Lib.hid (B3.out.kept k (fun f => f))
            have F4 := Lib.hid (FB.out.kept k (fun f => f))
            have hs1 := run_string_of own.sees
            have hs2 := run_string_of (HS.out.kept K4.out (fun _ _ _ f => f))
            have hsi := strOf_inj (bbytes_rng WB.out) HR.out
            clear own k
            by_cases hbl : bbytes (pB l) = l
            · rw [decide_eq_true hbl] at hsi
              have HZ := Lib.hid (HPY.out hbl)
              have hne : ((strOfNums (bbytes (pB l))).toList != (strOfNums l).toList) = false := by simpa using hsi
              clear hbl
              go_wp2_with ((with_reducible refine at_dst 46 ?_); refine wpList_load_row rfl 26 _ rfl (w.heap.size + 1) rfl 26 _ (0, 0) _ F4.out.row Tryd.underlying26 rfl (IB.out _) ?_)
              refine (rblclone_any WB.out (TS.out.kept K4.out (fun _ _ _ f => f)) HBL.out).mono ?_
              rintro e w5 ⟨v5, rfl, own, k⟩
              obtain ⟨a5, c5, rfl⟩ := sees_form own.sees
              have B5 := Lib.hid (B4.out.kept k (fun f => f))
              have K5 := Lib.hid (K4.out.trans k (fun _ _ f => f))
              have OW := Lib.hid own
              have hlt4 := B4.out.lt
              clear own k
              unfold blkV
              go_wp2_with ((with_reducible refine at_store 2 47 ?_); refine wpList_store_row rfl 26 _ _ rfl w.heap.size (blkC (pB l) (.slice a5 (pB l).d.length c5)).toArray rfl rfl 26 _ B5.out.row (IB.out _) (by rw [List.size_toArray, List.size_toArray, blkC_length B5.out.len, blkC_length WB.out.nm.len]) blkC_one ?_)
              refine bodyPost_ret (v := .tuple #[blkV (pB l) (.slice a5 (pB l).d.length c5), .int .i64 0]) (results_cell_tmp Tryd.results24 _ _ w.heap.size 26 _ (0, 0) _ _ rfl rfl (setRow_blk B5.out.row) Tryd.underlying26 rfl (IB.out _)) rfl ⟨.slice a5 (pB l).d.length c5, by rw [HZ.out]; rfl, ?_, K5.out.setRow (fun hlt => by omega) _⟩
              rw [HZ.out]
              exact (OW.out.kept ((Kp.refl (fun y => y = w.heap.size) w5).setRow (fun _ => rfl) _) (fun g hg e => by have := (OW.out.lt g hg).1; omega)).up K4.out.size
            · rw [decide_eq_false hbl] at hsi
              have HZ := Lib.hid (HPN.out hbl)
              have hne : ((strOfNums (bbytes (pB l))).toList != (strOfNums l).toList) = true := by simpa using hsi
              clear hbl
              go_wp2_with ((with_reducible refine at_store 2 45 ?_); refine wpList_store_row rfl 26 _ _ rfl w.heap.size (blkC blk0 (.slice none 0 0)).toArray rfl rfl 26 _ B4.out.row (HI0.out _) rfl blkC_one ?_)
              rw [HZ.out]
              refine bodyPost_ret (v := .tuple #[blkV blk0 (.slice none 0 0), .int .i64 30]) (results_cell_tmp Tryd.results24 _ _ w.heap.size 26 _ (0, 0) _ _ rfl rfl (setRow_blk B4.out.row) Tryd.underlying26 rfl (HI0.out _)) rfl ⟨_, rfl, .inl ⟨rfl, rfl⟩, K4.out.setRow (fun hlt => by omega) _⟩
          · have HZ := Lib.hid (show pE l = 30 by rw [HPE.out, if_neg (fun h => absurd h.1 (by decide))])
            go_wp2_with ((with_reducible refine at_dst 32 ?_); refine wpList_load_row rfl 26 _ rfl (w.heap.size + 1) rfl 26 _ (0, 0) _ FB.out.row Tryd.underlying26 rfl (IB.out _) ?_)
            refine HBY.out.mono ?_
            rintro e w4 ⟨v4, rfl, own, k⟩
            have K4 := Lib.hid (K3.out.trans k (fun _ _ f => f))
            have B4 := Lib.hid (B3.out.kept k (fun f => f))
            clear own k
            go_wp2_with ((with_reducible refine at_store 2 45 ?_); refine wpList_store_row rfl 26 _ _ rfl w.heap.size (blkC blk0 (.slice none 0 0)).toArray rfl rfl 26 _ B4.out.row (HI0.out _) rfl blkC_one ?_)
            rw [HZ.out]
            refine bodyPost_ret (v := .tuple #[blkV blk0 (.slice none 0 0), .int .i64 30]) (results_cell_tmp Tryd.results24 _ _ w.heap.size 26 _ (0, 0) _ _ rfl rfl (setRow_blk B4.out.row) Tryd.underlying26 rfl (HI0.out _)) rfl ⟨_, rfl, .inl ⟨rfl, rfl⟩, K4.out.setRow (fun hlt => by omega) _⟩
  · have HZ := Lib.hid (show pE l = 30 by unfold pE; rw [if_neg (fun h => hlen h.1)])
    have HZ0 := Lib.hid (show orBlk (pB l) 30 = blk0 from rfl)
    obtain ⟨a0, c0, rfl⟩ := sees_form hs
    have hz := zeroBlk
    have HB0 := Lib.hid (BlkAt.new w (b := blk0) rfl (.slice none 0 0))
    have K1 := Lib.hid (show Kp (fun _ => False) w (w.alloc (.cells (blkC blk0 (.slice none 0 0)).toArray 26)) from (Kp.refl _ _).alloc _)
    have HI0 := Lib.hid (fun v => infoBlk (b := blk0) rfl v)
    have hl46 : (l.length : Int) < 46 := by omega
    rw [HZ.out]
    clear hs hr hlen
    go_enter Tryd.func24, Tryd.ntmps24
    go_wp2_with ((with_reducible refine at_store 2 11 ?_); refine wpList_store_row rfl 26 _ _ rfl w.heap.size (blkC blk0 (.slice none 0 0)).toArray rfl rfl 26 _ HB0.out.row (HI0.out _) rfl blkC_one ?_)
    refine bodyPost_ret (v := .tuple #[blkV blk0 (.slice none 0 0), .int .i64 30]) (results_cell_tmp Tryd.results24 _ _ w.heap.size 26 _ (0, 0) _ _ rfl rfl (setRow_blk HB0.out.row) Tryd.underlying26 rfl (HI0.out _)) rfl ⟨_, rfl, .inl ⟨rfl, rfl⟩, K1.out.setRow (fun hlt => by omega) _⟩
end Go.Proofs.YtoognhbdgdfkoaaDoor
