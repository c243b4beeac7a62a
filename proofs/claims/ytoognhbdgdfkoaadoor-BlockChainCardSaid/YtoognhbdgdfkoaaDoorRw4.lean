/-
  Contract of the document's own SHA-256: goes, eight words behind 64 bytes more.
-/
import Derived.Test.YtoognhbdgdfkoaaDoorRw3
namespace Go.Proofs.YtoognhbdgdfkoaaDoor
open Go.ChangeShapes Go.WideShapes Go.ChangeAt Go.RowKit

def zeros8w : List Int := List.replicate 8 0
theorem zerosV (w : World) : (zeroValue 76).run Tryd.prog w = .ok (.agg (U32s zeros8w).toArray) w := by kernel_rfl

/-- all that goes holds, while its words are s -/
structure GRel (w : World) (gw gk gv : Nat) (H : St) (m kt : List Int) (s : St) (wr : World) : Prop where
  kp : Kp (fun _ => False) w wr
  bx : wr.heap[w.heap.size]? = some (.cells (U32s H.list).toArray 76 (0, 0))
  out : wr.heap[w.heap.size + 1]? = some (.cells (U32s zeros8w).toArray 76 (0, 0))
  wd : wr.heap[gw]? = some (.cells (U32s m).toArray 87 (0, 0))
  kk : wr.heap[gk]? = some (.cells (U32s kt).toArray 87 (0, 0))
  vv : wr.heap[gv]? = some (.cells (U32s s.list).toArray 76 (0, 0))
  h1 : w.heap.size + 1 < gw
  h2 : gw < gk
  h3 : gk < gv
theorem GRel.drewN {w : World} {gw gk gv : Nat} {H : St} {m kt : List Int} {s : St} {wr : World} (h : GRel w gw gk gv H m kt s wr) (n : Nat) : GRel w gw gk gv H m kt s (wr.drewN n) :=
  ⟨h.kp.drewN n, h.bx, h.out, h.wd, h.kk, h.vv, h.h1, h.h2, h.h3⟩
theorem GRel.set {w : World} {gw gk gv : Nat} {H : St} {m kt : List Int} {s : St} {wr : World} (h : GRel w gw gk gv H m kt s wr) (s' : St)   : GRel w gw gk gv H m kt s' (wr.setRow gv (U32s s'.list).toArray) := by
  have h1 := h.h1
  have h2 := h.h2
  have h3 := h.h3
  refine ⟨h.kp.setRow (fun hlt => by omega) _, ?_, ?_, ?_, ?_, setRow_blk h.vv, h1, h2, h3⟩
  · rw [setRow_other_blk _ (by omega)]; exact h.bx
  · rw [setRow_other_blk _ (by omega)]; exact h.out
  · rw [setRow_other_blk _ (by omega)]; exact h.wd
  · rw [setRow_other_blk _ (by omega)]; exact h.kk
theorem GRel.cells {w : World} {gw gk gv : Nat} {H : St} {m kt : List Int} {s : St} {wr : World} (h : GRel w gw gk gv H m kt s wr) (i : Nat) (hi : i < 8) : wr.cell? ⟨gv, i, none⟩ = some (.int .u32 (s.list.getD i 0)) := by
  rw [cell_blk h.vv, U32s_get _ _ hi]
/-- the first k words are added up -/
structure ARel (w : World) (gv : Nat) (l1 l0 : List Int) (s : St) (k : Nat) (wr : World) : Prop where
  kp : Kp (fun _ => False) w wr
  bx : wr.heap[w.heap.size]? = some (.cells (U32s (l1.take k ++ l0.drop k)).toArray 76 (0, 0))
  out : wr.heap[w.heap.size + 1]? = some (.cells (U32s zeros8w).toArray 76 (0, 0))
  vv : wr.heap[gv]? = some (.cells (U32s s.list).toArray 76 (0, 0))
  h1 : w.heap.size + 1 < gv
theorem ARel.cell {w wr : World} {gv : Nat} {l1 l0 : List Int} {s : St} {k : Nat} (h : ARel w gv l1 l0 s k wr) (h1 : l1.length = 8) (h0 : l0.length = 8) (hk : k < 8) :
    wr.cell? ⟨w.heap.size, k, none⟩ = some (.int .u32 (l0.getD k 0)) ∧ wr.frozen? ⟨w.heap.size, k, none⟩ = false ∧ wr.cell? ⟨gv, k, none⟩ = some (.int .u32 (s.list.getD k 0)) := by
  refine ⟨?_, free_blk h.bx _, ?_⟩
  · rw [cell_blk h.bx, U32s_get _ _ (by simp; omega)]
    congr 2
    simp only [List.getD_eq_getElem?_getD]
    rw [List.getElem?_append_right (by simp; omega)]
    simp [h1, show min k 8 = k by omega]
  · rw [cell_blk h.vv, U32s_get _ _ hk]
theorem ARel.set {w wr : World} {gv : Nat} {l1 l0 : List Int} {s : St} {k : Nat} (h : ARel w gv l1 l0 s k wr) (h1 : l1.length = 8) (h0 : l0.length = 8) (hk : k < 8) (n : Nat) :
    ARel w gv l1 l0 s (k + 1) ((wr.drewN n).setCell ⟨w.heap.size, k, none⟩ (.int .u32 (l1.getD k 0))) := by
  have hr : (wr.drewN n).heap[w.heap.size]? = _ := h.bx
  have hg := h.h1
  refine ⟨(h.kp.drewN n).setCell (fun hlt => absurd hlt (by show ¬ w.heap.size < _; omega)) _, ?_, ?_, ?_, hg⟩
  · rw [set_blk hr]
    congr 2
    apply Array.ext'
    have e0 : l0.drop k = l0.getD k 0 :: l0.drop (k + 1) := by rw [List.drop_eq_getElem_cons (by omega)]; simp [show k < l0.length by omega]
    have e1 : l1.take (k + 1) = l1.take k ++ [l1.getD k 0] := by rw [List.take_succ_eq_append_getElem (by omega)]; simp [show k < l1.length by omega]
    have hl : (U32s (l1.take k)).length = k := by rw [U32s_length]; simp; omega
    rw [e0, e1]
    simp only [U32s_append, Array.toList_setIfInBounds, List.append_assoc]
    rw [List.set_append_right _ _ (by omega), hl]
    simp [U32s]
  · rw [other_blk (w := wr.drewN n) h.out (by show w.heap.size + 1 ≠ w.heap.size; omega)]
  · rw [other_blk (w := wr.drewN n) h.vv (by show gv ≠ w.heap.size; omega)]

set_option maxRecDepth 100000 in
set_option maxHeartbeats 1600000 in
theorem goes_any (H : St) (hH : H.ok) (part : List Int) (hb : Rng part) (hl : part.length = 64) (v : Value) (w : World) (hs : Sees w v part) :
    Calls Tryd.prog 56 #[.agg (U32s H.list).toArray, v] w fun e w' => e = .returned (.agg (U32s (comp H part).list).toArray) ∧ Kp (fun _ => False) w w' := by
  have hz1 := zerosV
  have hz2 := zerosK
  have hk0 : Kp (fun _ => False) w ((w.alloc (.cells (U32s H.list).toArray 76)).alloc (.cells (U32s zeros8w).toArray 76)) := ((Kp.refl _ w).alloc _).alloc _
  have hb0 : ((w.alloc (.cells (U32s H.list).toArray 76)).alloc (.cells (U32s zeros8w).toArray 76)).heap[w.heap.size]? = _ := old_blk (new_blk w (.cells (U32s H.list).toArray 76)) _
  have ho0 := new_blk (w.alloc (.cells (U32s H.list).toArray 76)) (.cells (U32s zeros8w).toArray 76)
  rw [World.size_alloc] at ho0
  have hsz0 : ((w.alloc (.cells (U32s H.list).toArray 76)).alloc (.cells (U32s zeros8w).toArray 76)).heap.size = w.heap.size + 2 := by rw [World.size_alloc, World.size_alloc]
  have HWO := Lib.hid (words_any part hb hl v _ (hs.kept hk0 (fun _ _ _ f => f)))
  have HK0 := Lib.hid hk0
  have HB0 := Lib.hid hb0
  have HO0 := Lib.hid ho0
  have HZ0 := Lib.hid hsz0
  have HL := Lib.hid (sched_length part)
  clear hk0 hb0 ho0 hsz0 hs
  go_enter Tryd.func56, Tryd.ntmps56
  go_wp2_with fail
  refine HWO.out.mono ?_
  rintro e w1 ⟨rfl, hk1⟩
  go_wp2_with (refine wpList_store_fresh rfl 87 _ _ rfl _ rfl rfl 87 _ (info64 _ HL.out) (by simp [U32s_length, HL.out, zeros64w]) (U32s_one _) ?_; intro w2 hk2 hm2 hs2)
  obtain ⟨kt, hkt⟩ : ∃ l, l = kTab := ⟨_, rfl⟩
  have hc3 := constants_any w2
  rw [← hkt] at hc3
  have HKL := Lib.hid (hkt ▸ kTab_length : kt.length = 64)
  have HKT := Lib.hid hkt
  have HC3 := Lib.hid hc3
  clear hkt hc3
  refine HC3.out.mono ?_
  rintro e w3 ⟨rfl, hk3⟩
  have hb3 := kept_blk (kept_blk (kept_blk HB0.out hk1 (fun f => f)) hk2 (fun f => f)) hk3 (fun f => f)
  have HB3 := Lib.hid hb3
  have HI8 := Lib.hid (info8 H.list rfl)
  have HM2 := Lib.hid hm2
  have HS2 := Lib.hid hs2
  have HHb := Lib.hid hb
  have HHH := Lib.hid hH
  clear hb3 hm2 hs2 hb hH
  go_wp2_with (first
    | (refine wpList_store_fresh rfl 87 _ _ rfl _ rfl rfl 87 _ (info64 _ HKL.out) (by simp [U32s_length, HKL.out, zeros64w]) (U32s_one _) ?_; intro w4 hk4 hm4 hs4; have HM4 := Lib.hid hm4; have HS4 := Lib.hid hs4; clear hm4 hs4; have HB4 := Lib.hid (kept_blk HB3.out hk4 (fun f => f)))
    | (refine wpList_load_row rfl 76 _ rfl w.heap.size rfl 76 _ (0, 0) _ HB4.out Tryd.underlying76 rfl HI8.out ?_)
    | (refine wpList_store_fresh rfl 76 _ _ rfl _ rfl rfl 76 _ HI8.out rfl (U32s_one _) ?_; intro w5 hk5 hm5 hs5; have HM5 := Lib.hid hm5; have HS5 := Lib.hid hs5; clear hm5 hs5))
  have hst : GRel w w1.heap.size w3.heap.size w4.heap.size H (sched part) kt H w5 := by
    have e1 := hk1.size
    have e3 := hk3.size
    rw [HZ0.out] at e1
    rw [HS2.out] at e3
    refine ⟨((((HK0.out.trans hk1 (fun _ _ f => f)).trans hk2 (fun _ _ f => f)).trans hk3 (fun _ _ f => f)).trans hk4 (fun _ _ f => f)).trans hk5 (fun _ _ f => f), kept_blk HB4.out hk5 (fun f => f),
      kept_blk (kept_blk (kept_blk (kept_blk (kept_blk HO0.out hk1 (fun f => f)) hk2 (fun f => f)) hk3 (fun f => f)) hk4 (fun f => f)) hk5 (fun f => f),
      kept_blk (kept_blk (kept_blk HM2.out hk3 (fun f => f)) hk4 (fun f => f)) hk5 (fun f => f), kept_blk HM4.out hk5 (fun f => f), HM5.out, by omega, by omega, by rw [HS4.out]; omega⟩
  have HST := Lib.hid hst
  clear hst hk1 hk2 hk3 hk4 hk5 HB3 HB4 HM2 HM4 HM5 HB0 HO0 HK0 HWO HC3 HHb hz1 hz2 hl
  go_loopw [8, 9, 10, 11, 12] (fun i _ _ _ _ wr => ∃ k : Nat, k ≤ 64 ∧ i = .int .i64 k ∧ GRel w w1.heap.size w3.heap.size w4.heap.size H (sched part) kt (rounds (sched part) H k) wr) (fun i _ _ _ _ _ => 64 - (intOf i).toNat)
  case atStart => exact ⟨0, by omega, rfl, HST.out⟩
  case round =>
    obtain ⟨k, hk64, rfl, hr⟩ := hrel
    have hok := rounds_ok (sched part) HHH.out k
    have hsn : rounds (sched part) H (k + 1) = step (rounds (sched part) H k) (kt.getD k 0) ((sched part).getD k 0) := by rw [HKT.out]; rfl
    obtain ⟨s, hse⟩ : ∃ s, s = rounds (sched part) H k := ⟨_, rfl⟩
    rw [← hse] at hok hsn hr
    have HE := Lib.hid hse
    have HN := Lib.hid hsn
    have HR := Lib.hid hr
    clear hse hsn
    by_cases hlt : k < 64
    · have c0 := hr.cells 0 (by omega)
      have c1 := hr.cells 1 (by omega)
      have c2 := hr.cells 2 (by omega)
      have c3 := hr.cells 3 (by omega)
      have c4 := hr.cells 4 (by omega)
      have c5 := hr.cells 5 (by omega)
      have c6 := hr.cells 6 (by omega)
      have c7 := hr.cells 7 (by omega)
      simp only [St.list, List.getD_cons_zero, List.getD_cons_succ] at c0 c1 c2 c3 c4 c5 c6 c7
      have cw : wr.cell? ⟨w1.heap.size, k, none⟩ = some (.int .u32 ((sched part).getD k 0)) := by rw [cell_blk hr.wd, U32s_get _ _ (by rw [HL.out]; exact hlt)]
      have ck : wr.cell? ⟨w3.heap.size, k, none⟩ = some (.int .u32 (kt.getD k 0)) := by rw [cell_blk hr.kk, U32s_get _ _ (by rw [HKL.out]; exact hlt)]
      have HI := Lib.hid (info8 (rounds (sched part) H (k + 1)).list rfl)
      clear hr
      have hd : decide ((k : Int) < 64) = true := by simp; omega
      have p0 : (0 : Int) ≤ k := by omega
      have p1 : (k : Int) < 64 := by omega
      obtain ⟨e0, e1⟩ := hok.e
      clear hok
      go_wp2_with fail
      go_quiet ((go_at_call 67; exact Calls.quiet_of_same (turned_q _ _ (by omega) (by omega) _)))
      have hrW := HR.out.drewN nq
      obtain ⟨W, hW⟩ : ∃ W, W = wr.drewN nq := ⟨_, rfl⟩
      rw [← hW] at hrW ⊢
      generalize hT : ((s.h + bits BinOp.xor IntKind.u32 (bits BinOp.xor IntKind.u32 (rotr 6 s.e) (rotr 11 s.e)) (rotr 25 s.e) + bits BinOp.xor IntKind.u32 (bits BinOp.and IntKind.u32 s.e s.f) (bits BinOp.and IntKind.u32 (bits BinOp.xor IntKind.u32 (if IntKind.u32.signed = true then -1 else IntKind.u32.max) s.e) s.g) + kt[k]?.getD 0) % 4294967296 + (sched part)[k]?.getD 0) % 4294967296 = T
      have hT1 : T = t1 s (kt.getD k 0) ((sched part).getD k 0) := by
        rw [← hT, ← List.getD_eq_getElem?_getD, ← List.getD_eq_getElem?_getD, Int.emod_add_emod]; rfl
      have HT := Lib.hid hT1
      have HRW := Lib.hid hrW
      clear c0 c1 c2 c3 c4 c5 c6 c7 cw ck hW hT hT1 hrW HR e0 e1
      have c0 := HRW.out.cells 0 (by omega)
      have c1 := HRW.out.cells 1 (by omega)
      have c2 := HRW.out.cells 2 (by omega)
      have c3 := HRW.out.cells 3 (by omega)
      have c4 := HRW.out.cells 4 (by omega)
      have c5 := HRW.out.cells 5 (by omega)
      have c6 := HRW.out.cells 6 (by omega)
      simp only [St.list, List.getD_cons_zero, List.getD_cons_succ] at c0 c1 c2 c3 c4 c5 c6
      go_wp2_with (first
        | (go_quiet ((go_at_call 67; exact Calls.quiet_of_same (turned_q _ _ (by omega) (by omega) _))); have HRX := Lib.hid (HRW.out.drewN nq); clear c0 c1 c2 c3 c4 c5 c6; obtain ⟨X, hX⟩ : ∃ X, X = W.drewN nq := ⟨_, rfl⟩; rw [← hX] at HRX ⊢;
           generalize hT2 : (bits BinOp.xor IntKind.u32 (bits BinOp.xor IntKind.u32 (rotr 2 s.a) (rotr 13 s.a)) (rotr 22 s.a) + bits BinOp.xor IntKind.u32 (bits BinOp.xor IntKind.u32 (bits BinOp.and IntKind.u32 s.a s.b) (bits BinOp.and IntKind.u32 s.a s.c)) (bits BinOp.and IntKind.u32 s.b s.c)) % 4294967296 = T2;
           have HT2 := Lib.hid (show t2 s = T2 from hT2); clear hT2 hX;
           have c0 := HRX.out.cells 0 (by omega); have c1 := HRX.out.cells 1 (by omega); have c2 := HRX.out.cells 2 (by omega); have c3 := HRX.out.cells 3 (by omega); have c4 := HRX.out.cells 4 (by omega); have c5 := HRX.out.cells 5 (by omega); have c6 := HRX.out.cells 6 (by omega);
           simp only [St.list, List.getD_cons_zero, List.getD_cons_succ] at c0 c1 c2 c3 c4 c5 c6;
           have HV := Lib.hid HRX.out.vv)
        | (refine wpList_store_row rfl 76 _ _ rfl w4.heap.size (U32s (rounds (sched part) H (k + 1)).list).toArray rfl (by rw [HN.out, step, ← HT.out, HT2.out]; rfl) 76 _ HV.out HI.out rfl (U32s_one _) ?_))
      go_roundw
      case rel => exact ⟨k + 1, by omega, by go_num, HRX.out.set _⟩
      case measure => simp [intOf]; omega
    · obtain rfl : k = 64 := by omega
      rw [show ((64 : Nat) : Int) = 64 from rfl]
      go_wp2_with fail
      clear hlt hk64 hr
      have hstart : ARel w w4.heap.size (comp H part).list H.list s 0 wr := ⟨HR.out.kp, HR.out.bx, HR.out.out, HR.out.vv, by have := HR.out.h1; have := HR.out.h2; have := HR.out.h3; omega⟩
      have hcs : ∀ j, j < 8 → (comp H part).list.getD j 0 = (H.list.getD j 0 + s.list.getD j 0) % 4294967296 := fun j hj => by
        rw [HE.out]; exact add_get _ _ _ hj
      have HS := Lib.hid hstart
      have HCS := Lib.hid hcs
      clear hstart hcs
      go_loopw [13] (fun i wx => ∃ k : Nat, k ≤ 8 ∧ i = .int .i64 k ∧ ARel w w4.heap.size (comp H part).list H.list s k wx) (fun i _ => 8 - (intOf i).toNat)
      case atStart => exact ⟨0, by omega, rfl, HS.out⟩
      case round =>
        rename_i wo _
        obtain ⟨k, hk8, rfl, hr⟩ := hrel
        by_cases hlt : k < 8
        · obtain ⟨hc, hf, hc2⟩ := hr.cell rfl rfl hlt
          have hd : decide ((k : Int) < 8) = true := by simp; omega
          have p0 : (0 : Int) ≤ k := by omega
          have p1 : (k : Int) < 8 := by omega
          have hset := fun n => hr.set rfl rfl hlt n
          rw [HCS.out k hlt] at hset
          have HX := Lib.hid hset
          clear hset hr
          go_wp2_with fail
          refine wp_tail 8 (by kernel_rfl) (by kernel_rfl) ?_
          simp only [List.take_succ_cons, List.take_zero, List.drop_succ_cons, List.drop_zero]
          repeat still_step
          refine wpStill_nil ?_
          go_wp2
          go_roundw
          case rel => exact ⟨k + 1, by omega, by go_num, HX.out 1⟩
          case measure => simp [intOf]; omega
        · obtain rfl : k = 8 := by omega
          have HI2 := Lib.hid (info8 (comp H part).list rfl)
          have HB := Lib.hid (show wr.heap[w.heap.size]? = some (.cells (U32s (comp H part).list).toArray 76 (0, 0)) from hr.bx)
          have HO := Lib.hid hr.out
          have HKP := Lib.hid hr.kp
          clear hr
          rw [show ((8 : Nat) : Int) = 8 from rfl]
          go_wp2_with (first
            | (refine wpList_load_row rfl 76 _ rfl w.heap.size rfl 76 _ (0, 0) _ HB.out Tryd.underlying76 rfl HI2.out ?_)
            | (refine wpList_store_row rfl 76 _ _ rfl (w.heap.size + 1) _ rfl rfl 76 _ HO.out HI2.out rfl (U32s_one _) ?_))
          refine bodyPost_ret (v := .agg (U32s (comp H part).list).toArray) (results_cell_row Tryd.results56 _ _ (w.heap.size + 1) 76 _ (0, 0) _ rfl (setRow_blk HO.out) Tryd.underlying76 rfl HI2.out) rfl ⟨rfl, ?_⟩
          exact HKP.out.setRow (fun hlt => by omega) _
end Go.Proofs.YtoognhbdgdfkoaaDoor
