/-
  Contract of package block's Parse.
-/
import Derived.Test.YtoognhbdgdfkoaaDoorBpp
import Derived.Test.YtoognhbdgdfkoaaDoorUo
import Derived.Deep.RegionWith
import Derived.Deep.DeepCutAuto
import Derived.Deep.CutRange
namespace Go.Proofs.YtoognhbdgdfkoaaDoor
open Go.ChangeShapes Go.WideShapes Go.ChangeAt Go.RowKit

/-- a name copied into a block's parent, or nothing -/
theorem run_copy_par {w : World} {g : Nat} {b : Blk} {v src : Value} {xs : List Int} (hb : BlkAt w g b v) (hs : Sees w src xs) (hx : xs = [] ∨ xs.length = 32) :
    ∃ (n : Int) (w' : World), (∀ ty, (Builtin.copy_ #[24, 24] ty #[.slice (some ⟨g, 0, none⟩) 32 32, src]).run Tryd.prog w = .ok (.int .i64 n) w') ∧ BlkAt w' g ⟨if xs = [] then b.p else xs, b.h, b.d⟩ v ∧ Kp (fun y => y = g) w w' := by
  by_cases hn : xs = []
  · subst hn
    obtain ⟨a, c, rfl⟩ := sees_form hs
    refine ⟨0, w, fun ty => run_copy_zero _ _ Tryd.underlying24 w _ a 32 32 0 c (.inr rfl) ty, ?_, Kp.refl _ _⟩
    rw [if_pos rfl]; exact ⟨hb.row, hb.len⟩
  · have hl : xs.length = 32 := by rcases hx with h | h; exact absurd h hn; exact h
    rcases hs with ⟨_, h⟩ | ⟨ad, cap, rfl, _, _, hc⟩
    · exact absurd h hn
    · have h := fun ty => run_copy_row (P := Tryd.prog) w 24 24 ty 5 g 0 32 32 ad xs.length cap (blkC b v).toArray 26 (U8s xs) Tryd.underlying24 byte1 hb.row (by rw [U8s_length, hl]; rfl)
        (fun j u hj => by
          obtain ⟨x, hx, rfl⟩ := U8s_inv hj
          exact hc j x hx) (by rw [U8s_length, hl, List.size_toArray, blkC_length hb.len]; omega) (U8s_one xs)
      refine ⟨_, _, h, ⟨?_, by show (if xs = [] then b.p else xs).length = 32; rw [if_neg hn]; exact hl⟩, (setRow_kp _ _ _).1⟩
      rw [setRow_blk hb.row]
      congr 2
      show _ = (blkC ⟨if xs = [] then b.p else xs, b.h, b.d⟩ v).toArray
      rw [if_neg hn]
      have e1 : (blkC b v).drop (0 + (U8s xs).length) = [.int .i64 b.h, v] := by
        rw [U8s_length, hl, Nat.zero_add]; unfold blkC
        exact List.drop_left' (by rw [U8s_length, hb.len])
      simp only [List.take_zero, List.nil_append]
      rw [e1]
      rfl
theorem BlkAt.setHt {w : World} {g : Nat} {b : Blk} {v : Value} (h : BlkAt w g b v) (x : Int) : BlkAt (w.setCell ⟨g, 32, none⟩ (.int .i64 x)) g ⟨b.p, x, b.d⟩ v := by
  refine ⟨?_, h.len⟩
  rw [set_blk h.row]
  congr 2
  apply Array.ext'
  simp only [Array.toList_setIfInBounds, blkC]
  rw [List.set_append_right _ _ (by rw [U8s_length, h.len]; omega), U8s_length, h.len]
  rfl
theorem takeL_len' (l : List Int) (e n : Int) : (takeL l e n).length ≤ l.length := by
  unfold takeL; split
  · rw [List.length_drop]; omega
  · exact Nat.le_refl _
/-- behind the drawn region -/
def PaRel (w : World) (B u : Nat) (l : List Int) (e : Int) (b : Blk) (g : Nat) (wc : World) : Prop :=
  (∃ v', UK wc B u v' l e ∧ (l ≠ [] → ∀ x, v'.ownBlock = some x → x < g)) ∧ BlkAt wc g b (.slice none 0 0) ∧ Kp (fun _ => False) w wc

set_option maxRecDepth 100000 in
set_option maxHeartbeats 3200000 in
theorem parse3_any {l : List Int} {v : Value} (hr : Rng l) (hl : l.length ≤ 1000000) {w : World} (hs : Sees w v l) :
    Calls Tryd.prog 23 #[v] w (NewBlkE w (orBlk (pB l) (pE l)) (pE l)) := by
  obtain ⟨a0, c0, rfl⟩ := sees_form hs
  have hz := zeroBlk
  have k1 : Kp (fun _ => False) w (w.alloc (.cells (blkC blk0 (.slice none 0 0)).toArray 26)) := (Kp.refl _ _).alloc _
  have HRD := Lib.hid (uRead_any (B := w.heap.size + 1) (by rw [World.size_alloc]; exact Nat.le_refl _) (hs.kept k1 (fun _ _ _ f => f)) (by omega))
  have HB0 := Lib.hid (BlkAt.new w (b := blk0) rfl (.slice none 0 0))
  have HI0 := Lib.hid (fun v => infoBlk (b := blk0) rfl v)
  have HRR := Lib.hid hr
  have HLL := Lib.hid hl
  clear hs k1
  go_enter Tryd.func23, Tryd.ntmps23
  go_wp2_with fail
  refine HRD.out.mono ?_
  rintro e w1 ⟨u, uv, rfl, hu, hug, _, k⟩
  rw [World.size_alloc] at hug
  have HS1 := Lib.hid (uShort_any hu hr)
  have B1 := Lib.hid (HB0.out.kept k (fun f => f))
  have K1 := Lib.hid k
  clear hu k hr hl
  go_wp2_with fail
  refine HS1.out.mono ?_
  rintro e w2 ⟨rfl, hp⟩
  obtain ⟨uv2, hu2, _⟩ := hp.ex
  have B2 := Lib.hid (B1.out.kept hp.kp (fun h => by omega))
  have K2 := Lib.hid (K1.out.trans hp.kp (fun y hy h => by rw [World.size_alloc] at hy; omega))
  have U2 := Lib.hid (show UK w2 (w.heap.size + 1) u uv2 (pl1 l) (pe1 l) from hu2)
  clear hp hu2
  have hst := BlkAt.new w2 (b := blk0) rfl (.slice none 0 0)
  have ka : Kp (fun _ => False) w2 (w2.alloc (.cells (blkC blk0 (.slice none 0 0)).toArray 26)) := (Kp.refl _ _).alloc _
  have R3 := Lib.hid hst
  have U3 := Lib.hid (U2.out.kept ka (fun f => f) (fun _ _ _ f => f))
  have B3 := Lib.hid (B2.out.kept ka (fun f => f))
  have K3 := Lib.hid (K2.out.trans ka (fun _ _ f => f))
  have HU2 := Lib.hid (lt_of_blk U2.out.cell)
  clear hst ka
  go_upto_region 4 with (fail)
  go_cut [] from 11 (fun wc => PaRel (w.alloc (.cells (blkC blk0 (.slice none 0 0)).toArray 26)) (w.heap.size + 1) u (pl2 l) (pe2 l) ⟨ppar l, 0, []⟩ w2.heap.size wc)
  case first =>
    have hfx := uFixed_any 32 (w := (w2.alloc (.cells (blkC blk0 (.slice none 0 0)).toArray 26)).drew) ⟨U3.out.cell, U3.out.sees, U3.out.away, U3.out.base⟩ (by have := HLL.out; have := takeL_len' l 0 2; unfold pl1; omega)
    have HFX := Lib.hid hfx
    have HFC := Lib.hid (fun (rv : Value) (w4 : World) (hsr : Sees w4 rv (pr2 l)) (hpp : UPost (w2.alloc (.cells (blkC blk0 (.slice none 0 0)).toArray 26)).drew (w.heap.size + 1) u uv2 (pl2 l) (pe2 l) w4) =>
      (show ∃ (n5 : Int) (w5 : World), (∀ ty, (Builtin.copy_ #[24, 24] ty #[.slice (some ⟨w2.heap.size, 0, none⟩) 32 32, rv]).run Tryd.prog w4 = .ok (.int .i64 n5) w5) ∧ PaRel (w.alloc (.cells (blkC blk0 (.slice none 0 0)).toArray 26)) (w.heap.size + 1) u (pl2 l) (pe2 l) ⟨ppar l, 0, []⟩ w2.heap.size w5 from by
        have hul := HU2.out
        obtain ⟨n5, w5, hcp, hb5, kc⟩ := run_copy_par (b := blk0) (v := .slice none 0 0) ((show BlkAt (w2.alloc (.cells (blkC blk0 (.slice none 0 0)).toArray 26)).drew w2.heap.size blk0 (.slice none 0 0) from ⟨R3.out.row, rfl⟩).kept hpp.kp (fun h => by have h' : w2.heap.size = u := h; omega)) hsr (takeR_len_or (pl1 l) (pe1 l) 32)
        obtain ⟨uv4, hu4, hown⟩ := hpp.ex
        have hlt4 : pl2 l ≠ [] → ∀ g, uv4.ownBlock = some g → g < w2.heap.size := fun hne g hg => by
          rw [hown hne] at hg
          exact U2.out.sees.lt (fun hl => hne (by unfold pl2; rw [show pl1 l = [] from hl]; unfold takeL; split <;> simp)) g hg
        refine ⟨n5, w5, hcp, ⟨uv4, hu4.kept kc (fun h => by omega) (fun hne g hg e => by have := hlt4 hne g hg; omega), hlt4⟩, hb5, ((K3.out.drew).trans hpp.kp (fun y hy h => by rw [World.size_alloc] at hy; omega)).trans kc (fun y hy h => by have := K2.out.size; omega)⟩))
    clear hfx
    go_region_with (first
      | (go_at_call 44; refine HFX.out.mono ?_; rintro e w4 ⟨rv, rfl, hsr, _, hpp⟩; obtain ⟨ra, rc, hrv⟩ := sees_form hsr; obtain ⟨n5, w5, hcp, hpa⟩ := HFC.out rv w4 hsr hpp; rw [hrv] at hcp; subst hrv; have HPA := Lib.hid hpa; clear hsr hpp hpa))
    all_goals
      go_wp2_with fail
      go_meet
      case rel => exact HPA.out
  case rest =>
    obtain ⟨⟨uv3, hu3, hlt3⟩, hb3, hk3⟩ := hcut
    have hul : u < w2.heap.size := HU2.out
    have KC := Lib.hid ((show Kp (fun _ => False) w (w.alloc (.cells (blkC blk0 (.slice none 0 0)).toArray 26)) from (Kp.refl _ _).alloc _).trans hk3 (fun _ _ f => f))
    have BC := Lib.hid (HB0.out.kept hk3 (fun f => f))
    have QL := Lib.hid (uLong_any hu3 (takeL_rng (takeL_rng HRR.out _ _) _ _))
    have UC := Lib.hid hu3
    have LC := Lib.hid hlt3
    have RC := Lib.hid hb3
    clear hu3 hlt3 hb3 hk3
    go_wp2_with fail
    refine QL.out.mono ?_
    rintro e w4 ⟨rfl, hpp⟩
    obtain ⟨uv4, hu4, hown4⟩ := hpp.ex
    have hlt4 : pl3 l ≠ [] → ∀ x, uv4.ownBlock = some x → x < w2.heap.size := fun hne x hx => LC.out (fun hl => hne (by unfold pl3; rw [hl]; unfold takeL; split <;> simp)) x (by rw [← hown4 hne]; exact hx)
    have hb4 := RC.out.kept hpp.kp (fun h => by have h' : w2.heap.size = u := h; omega)
    have c32 := hb4.ht
    have f32 := free_blk hb4.row 32
    have k4 : Kp (fun _ => False) w w4 := KC.out.trans hpp.kp (fun y hy h => by omega)
    have k5 : Kp (fun y => y = w2.heap.size) w4 (w4.setCell ⟨w2.heap.size, 32, none⟩ (.int .i64 (wrap64 (val (pr3 l))))) := (Kp.refl (fun y => y = w2.heap.size) w4).setCell (p := ⟨w2.heap.size, 32, none⟩) (fun _ => rfl) _
    have hw2 : w.heap.size < w2.heap.size := by omega
    have hu5 : UK (w4.setCell ⟨w2.heap.size, 32, none⟩ (.int .i64 (wrap64 (val (pr3 l))))) (w.heap.size + 1) u uv4 (pl3 l) (pe3 l) := UK.kept hu4 k5 (fun h => by have h' : u = w2.heap.size := h; omega) (fun hne g hg h => by have := hlt4 hne g hg; have h' : g = w2.heap.size := h; omega)
    have hb5 := hb4.setHt (wrap64 (val (pr3 l)))
    have hz5 := (BC.out.kept hpp.kp (fun h => by have h' : w.heap.size = u := h; omega)).other (p := ⟨w2.heap.size, 32, none⟩) (by show w.heap.size ≠ w2.heap.size; omega) (.int .i64 (wrap64 (val (pr3 l))))
    have K5 := Lib.hid (k4.trans k5 (fun y hy h => by omega))
    have QB := Lib.hid (uBytes_own 200 (by omega) hu5 (pl3_rng HRR.out) (by have := HLL.out; have h1 := takeL_len' l 0 2; have h2 := takeL_len' (pl1 l) (pe1 l) 32; have h3 := takeL_len' (pl2 l) (pe2 l) 8; unfold pl3; unfold pl2 at *; unfold pl1 at *; omega))
    have HW3 : Hid (val (takeR (pl2 l) (pe2 l) 8) = val (pr3 l)) := Lib.hid rfl
    rw [HW3.out]
    have R5 := Lib.hid hb5
    have Z5 := Lib.hid hz5
    have HLT := Lib.hid hlt4
    obtain ⟨x8, hx8⟩ : ∃ x8, x8 = val (pr3 l) := ⟨_, rfl⟩
    rw [← hx8] at R5 Z5 K5 QB ⊢
    have HX8 := Lib.hid hx8
    clear hpp hu4 hown4 hb4 k4 k5 hu5 hb5 hz5 hlt4 hx8 HW3
    go_wp2_with fail
    refine QB.out.mono ?_
    rintro e w6 ⟨rv, rfl, own, hpp⟩
    obtain ⟨uv6, hu6, hown6⟩ := hpp.ex
    have hb6 := R5.out.kept hpp.kp (fun h => by have h' : w2.heap.size = u := h; omega)
    have c33 := hb6.dat
    have f33 := free_blk hb6.row 33
    have hlt6 : pl4 l ≠ [] → ∀ x, uv6.ownBlock = some x → x < w2.heap.size := fun hne x hx => HLT.out (fun hl => hne (by unfold pl4; rw [hl]; unfold cntL; split <;> simp)) x (by rw [← hown6 hne]; exact hx)
    have hrv : ∀ x, rv.ownBlock = some x → w2.heap.size < x := fun x hx => by
      have h1 := (own.lt x hx).1
      have h2 := R5.out.lt
      omega
    have k6 : Kp (fun _ => False) w w6 := K5.out.trans hpp.kp (fun y hy h => by omega)
    have k7 : Kp (fun y => y = w2.heap.size) w6 (w6.setCell ⟨w2.heap.size, 33, none⟩ rv) := (Kp.refl (fun y => y = w2.heap.size) w6).setCell (p := ⟨w2.heap.size, 33, none⟩) (fun _ => rfl) _
    have hu7 : UK (w6.setCell ⟨w2.heap.size, 33, none⟩ rv) (w.heap.size + 1) u uv6 (pl4 l) (pe4 l) := UK.kept hu6 k7 (fun h => by have h' : u = w2.heap.size := h; omega) (fun hne g hg h => by have := hlt6 hne g hg; have h' : g = w2.heap.size := h; omega)
    have hb7 : BlkAt (w6.setCell ⟨w2.heap.size, 33, none⟩ rv) w2.heap.size (pblk l) rv := by
      have h := hb6.setDat rv
      rw [HX8.out] at h
      exact ⟨h.row, h.len⟩
    have own7 : OwnB (w6.setCell ⟨w2.heap.size, 33, none⟩ rv) (w2.heap.size + 1) rv (pblk l).d := (own.kept k7 (fun g hg h => by have := hrv g hg; have h' : g = w2.heap.size := h; omega)).up R5.out.lt
    have hz7 := (Z5.out.kept hpp.kp (fun h => by have h' : w.heap.size = u := h; omega)).other (p := ⟨w2.heap.size, 33, none⟩) (by show w.heap.size ≠ w2.heap.size; omega) rv
    have K7 := Lib.hid (k6.trans k7 (fun y hy h => by omega))
    have QE := Lib.hid (uEnd_any hu7)
    have hwf := pblk_wf HRR.out
    have WP := Lib.hid hwf
    have IP := Lib.hid (fun v => infoBlk hwf.nm.len v)
    have QC := Lib.hid (check_any hwf own7.sees)
    have R7 := Lib.hid hb7
    have BZ := Lib.hid hz7
    have OW7 := Lib.hid own7
    have HIFF := Lib.hid (pE_iff HRR.out)
    have HEQ := Lib.hid (pblk_eq HRR.out)
    have hcs := bchk_cases (pblk l)
    obtain ⟨a6, c6, hrvf⟩ := sees_form own7.sees
    subst hrvf
    clear hpp own hu6 hown6 hb6 hlt6 hrv k6 k7 hu7 hb7 own7 hz7 hwf
    obtain ⟨z1, hz1⟩ : ∃ z, z = pz l := ⟨_, rfl⟩
    obtain ⟨z2, hz2⟩ : ∃ z, z = endE (pl4 l) (pe4 l) := ⟨_, rfl⟩
    obtain ⟨z3, hz3⟩ : ∃ z, z = bchk (pblk l) := ⟨_, rfl⟩
    have e1 : val (takeR l 0 2) = z1 := hz1.symm
    rw [e1]
    rw [← hz1, ← hz2, ← hz3] at HIFF
    rw [← hz2] at QE
    rw [← hz3] at QC hcs
    clear e1 hz1 hz2 hz3
    by_cases h1 : z1 = 0
    · subst h1
      by_cases h2 : z2 = 0
      · subst h2
        rcases hcs with rfl | rfl
        · have hok := HIFF.out.1 ⟨rfl, rfl, rfl⟩
          have HZ := Lib.hid (show pE l = 0 by unfold pE; rw [if_pos hok])
          have HQ := Lib.hid (HEQ.out hok)
          clear hok
          go_wp2_with (first
            | (go_at_call 47; refine QE.out.mono ?_; rintro e w8 ⟨rfl, rfl⟩)
            | ((with_reducible refine at_dst 31 ?_); refine wpList_load_want rfl 26 _ rfl w2.heap.size rfl 26 _ (0, 0) _ R7.out.row Tryd.underlying26 rfl (IP.out _) ?_))
          refine QC.out.mono ?_
          rintro e w9 ⟨rfl, k9⟩
          have R9 := Lib.hid (R7.out.kept k9 (fun f => f))
          have B9 := Lib.hid (BZ.out.kept k9 (fun f => f))
          have K9 := Lib.hid (K7.out.trans k9 (fun _ _ f => f))
          have O9 := Lib.hid (OW7.out.kept k9 (fun _ _ f => f))
          clear k9
          go_wp2_with (first
            | ((with_reducible refine at_dst 36 ?_); refine wpList_load_row rfl 26 _ rfl w2.heap.size rfl 26 _ (0, 0) _ R9.out.row Tryd.underlying26 rfl (IP.out _) ?_)
            | ((with_reducible refine at_store 2 36 ?_); refine wpList_store_row rfl 26 _ _ rfl w.heap.size (blkC (pblk l) (.slice a6 (pblk l).d.length c6)).toArray rfl rfl 26 _ B9.out.row (IP.out _) (by rw [List.size_toArray, List.size_toArray, blkC_length B9.out.len, blkC_length WP.out.nm.len]) blkC_one ?_))
          refine bodyPost_ret (v := .tuple #[blkV (pblk l) (.slice a6 (pblk l).d.length c6), .int .i64 0]) (results_cell_tmp Tryd.results23 _ _ w.heap.size 26 _ (0, 0) _ _ rfl rfl (setRow_blk B9.out.row) Tryd.underlying26 rfl (IP.out _)) rfl ⟨.slice a6 (pblk l).d.length c6, by rw [HZ.out, HQ.out]; rfl, ?_, K9.out.setRow (fun hlt => by omega) _⟩
          rw [HZ.out]
          show OwnB _ w.heap.size _ (pB l).d
          rw [← HQ.out]
          exact (O9.out.kept ((Kp.refl (fun y => y = w.heap.size) w9).setRow (fun _ => rfl) _) (fun g hg e => by have := (O9.out.lt g hg).1; have e' : g = w.heap.size := e; omega)).up (by omega)
        · have HZ := Lib.hid (show pE l = 30 by unfold pE; rw [if_neg (fun h => absurd (HIFF.out.2 h).2.2 (by decide))])
          go_wp2_with (first
            | (go_at_call 47; refine QE.out.mono ?_; rintro e w8 ⟨rfl, rfl⟩)
            | ((with_reducible refine at_dst 31 ?_); refine wpList_load_want rfl 26 _ rfl w2.heap.size rfl 26 _ (0, 0) _ R7.out.row Tryd.underlying26 rfl (IP.out _) ?_))
          refine QC.out.mono ?_
          rintro e w9 ⟨rfl, k9⟩
          replace BZ := Lib.hid (BZ.out.kept k9 (fun f => f))
          have KZ := Lib.hid (K7.out.trans k9 (fun _ _ f => f))
          clear k9
          go_wp2_with ((with_reducible refine at_store 2 35 ?_); refine wpList_store_row rfl 26 _ _ rfl w.heap.size (blkC blk0 (.slice none 0 0)).toArray rfl rfl 26 _ BZ.out.row (HI0.out _) rfl blkC_one ?_)
          refine bodyPost_ret (v := .tuple #[blkV blk0 (.slice none 0 0), .int .i64 30]) (results_cell_tmp Tryd.results23 _ _ w.heap.size 26 _ (0, 0) _ _ rfl rfl (setRow_blk BZ.out.row) Tryd.underlying26 rfl (HI0.out _)) rfl ⟨.slice none 0 0, by rw [HZ.out]; rfl, by rw [HZ.out]; exact .inl ⟨rfl, rfl⟩, KZ.out.setRow (fun hlt => by omega) _⟩
      · have HZ := Lib.hid (show pE l = 30 by unfold pE; rw [if_neg (fun h => h2 (HIFF.out.2 h).2.1)])
        have hb : (z2 != 0) = true := by simpa using h2
        have KZ := K7
        clear h2
        go_wp2_with (first
          | (go_at_call 47; refine QE.out.mono ?_; rintro e w8 ⟨rfl, rfl⟩)
          | ((with_reducible refine at_store 2 35 ?_); refine wpList_store_row rfl 26 _ _ rfl w.heap.size (blkC blk0 (.slice none 0 0)).toArray rfl rfl 26 _ BZ.out.row (HI0.out _) rfl blkC_one ?_))
        refine bodyPost_ret (v := .tuple #[blkV blk0 (.slice none 0 0), .int .i64 30]) (results_cell_tmp Tryd.results23 _ _ w.heap.size 26 _ (0, 0) _ _ rfl rfl (setRow_blk BZ.out.row) Tryd.underlying26 rfl (HI0.out _)) rfl ⟨.slice none 0 0, by rw [HZ.out]; rfl, by rw [HZ.out]; exact .inl ⟨rfl, rfl⟩, KZ.out.setRow (fun hlt => by omega) _⟩
    · have HZ := Lib.hid (show pE l = 30 by unfold pE; rw [if_neg (fun h => h1 (HIFF.out.2 h).1)])
      have hb : (z1 != 0) = true := by simpa using h1
      have KZ := K7
      clear h1
      go_wp2_with ((with_reducible refine at_store 2 35 ?_); refine wpList_store_row rfl 26 _ _ rfl w.heap.size (blkC blk0 (.slice none 0 0)).toArray rfl rfl 26 _ BZ.out.row (HI0.out _) rfl blkC_one ?_)
      refine bodyPost_ret (v := .tuple #[blkV blk0 (.slice none 0 0), .int .i64 30]) (results_cell_tmp Tryd.results23 _ _ w.heap.size 26 _ (0, 0) _ _ rfl rfl (setRow_blk BZ.out.row) Tryd.underlying26 rfl (HI0.out _)) rfl ⟨.slice none 0 0, by rw [HZ.out]; rfl, by rw [HZ.out]; exact .inl ⟨rfl, rfl⟩, KZ.out.setRow (fun hlt => by omega) _⟩
end Go.Proofs.YtoognhbdgdfkoaaDoor
