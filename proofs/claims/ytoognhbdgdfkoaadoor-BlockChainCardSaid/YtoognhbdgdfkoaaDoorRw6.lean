/-
  Contract of the document's own SHA-256: Sum.
-/
import Derived.Test.YtoognhbdgdfkoaaDoorRw5
namespace Go.Proofs.YtoognhbdgdfkoaaDoor
open Go.ChangeShapes Go.WideShapes Go.ChangeAt Go.RowKit

theorem sees_part {w : World} {v : Value} {xs : List Int} (h : Sees w v xs) (n m : Nat) (hn : n + m ≤ xs.length) (hm : 1 ≤ m) (L H : Int) (hL : L = n) (hH : H = (n : Int) + m) :
    ∃ v', (∀ w', (Instr.sliceAt 24 v (some (.int .i64 L)) (some (.int .i64 H)) none).run Tryd.prog w' = .ok v' w') ∧ Sees w v' ((xs.drop n).take m) := by
  subst hL hH
  obtain ⟨i, hi, hs⟩ := Option.map_eq_some_iff.1 u8size
  rcases h with ⟨rfl, rfl⟩ | ⟨ad, cap, rfl, h1, h2, h3⟩
  · simp at hn; omega
  · have hlen : ((xs.drop n).take m).length = m := by simp; omega
    refine ⟨.slice (some (if cap = n then ad else ad.add n)) m (cap - n), fun w' => ?_, .inr ⟨_, cap - n, by rw [hlen], by rw [hlen]; omega, by unfold maxLen at *; omega, fun i x hx => ?_⟩⟩
    · obtain ⟨N, hN⟩ : ∃ N, N = n + m := ⟨_, rfl⟩
      have g0 : (0 : Int) ≤ n := by omega
      have g1 : (0 : Int) ≤ N := by omega
      have g3 : N ≤ cap := by omega
      have g5 : n ≤ N := by omega
      have g4 : N - n = m := by omega
      rw [show (n : Int) + m = N by omega]
      simp [Instr.sliceAt, run_underlying Tryd.underlying24, Instr.slice, Instr.sliceBounds, run_sliceBound, sizeOf, typeInfo, hi, hs, g0, g1, g3, g4, g5]
      split <;> rfl
    · have hlt : i < m := by rw [← hlen]; exact (List.getElem?_eq_some_iff.1 hx).1
      rw [List.getElem?_take_of_lt hlt, List.getElem?_drop] at hx
      rw [if_neg (by omega), Addr.add_add]
      exact h3 _ _ hx

theorem zerosI (w : World) : (zeroValue 23).run Tryd.prog w = .ok (.agg (U8s id0).toArray) w := zerosId w
/-- the words behind some parts -/
structure MnRel (w : World) (gH : Nat) (v : Value) (xs : List Int) (s : St) (wr : World) : Prop where
  kp : Kp (fun _ => False) w wr
  out : wr.heap[w.heap.size]? = some (.cells (U8s id0).toArray 23 (0, 0))
  row : wr.heap[gH]? = some (.cells (U32s s.list).toArray 76 (0, 0))
  see : Sees wr v xs
  ne : ∀ g, v.ownBlock = some g → g ≠ gH
  hH : w.heap.size < gH
theorem MnRel.cells {w wr : World} {gH : Nat} {v : Value} {xs : List Int} {s : St} (h : MnRel w gH v xs s wr) (i : Nat) (hi : i < 8) : wr.cell? ⟨gH, i, none⟩ = some (.int .u32 (s.list.getD i 0)) := by
  rw [cell_blk h.row, U32s_get _ _ hi]

theorem byte_at (s : St) (h : s.ok) (Q R : Nat) (hq : Q = 0 ∨ Q = 1 ∨ Q = 2 ∨ Q = 3 ∨ Q = 4 ∨ Q = 5 ∨ Q = 6 ∨ Q = 7) (hr : R = 0 ∨ R = 1 ∨ R = 2 ∨ R = 3) : (bytesOf s).getD (4 * Q + R) 0 = s.list.getD Q 0 / 2 ^ (24 - 8 * R) % 256 := by
  obtain ⟨⟨a0, a1⟩, ⟨b0, b1⟩, ⟨c0, c1⟩, ⟨d0, d1⟩, ⟨e0, e1⟩, ⟨f0, f1⟩, ⟨g0, g1⟩, ⟨h0, h1⟩⟩ := h
  rcases hq with rfl | rfl | rfl | rfl | rfl | rfl | rfl | rfl <;> rcases hr with rfl | rfl | rfl | rfl <;> first | (simp [bytesOf, St.list, w4]; done) | (simp [bytesOf, St.list, w4]; omega)
theorem byte_of (s : St) (h : s.ok) (k : Nat) (hk : k < 32) : (bytesOf s).getD k 0 = s.list.getD (k / 4) 0 / 2 ^ (24 - 8 * (k % 4)) % 256 := by
  rw [← byte_at s h (k / 4) (k % 4) (by omega) (by omega), show 4 * (k / 4) + k % 4 = k by omega]
/-- the first k bytes of the sum stand -/
structure OtRel (w : World) (gH gO : Nat) (s : St) (k : Nat) (wr : World) : Prop where
  kp : Kp (fun _ => False) w wr
  out : wr.heap[w.heap.size]? = some (.cells (U8s id0).toArray 23 (0, 0))
  row : wr.heap[gH]? = some (.cells (U32s s.list).toArray 76 (0, 0))
  id : wr.heap[gO]? = some (.cells (U8s ((bytesOf s).take k ++ List.replicate (32 - k) 0)).toArray 23 (0, 0))
  h1 : w.heap.size < gH
  h2 : gH < gO
theorem OtRel.cells {w wr : World} {gH gO k : Nat} {s : St} (h : OtRel w gH gO s k wr) (hk : k < 32) :
    wr.cell? ⟨gH, k / 4, none⟩ = some (.int .u32 (s.list.getD (k / 4) 0)) ∧ wr.cell? ⟨gO, k, none⟩ = some (.int .u8 0) ∧ wr.frozen? ⟨gO, k, none⟩ = false := by
  have hl := bytesOf_length s
  refine ⟨by rw [cell_blk h.row, U32s_get _ _ (show k / 4 < 8 by omega)], ?_, free_blk h.id _⟩
  rw [cell_blk h.id, List.getElem?_toArray]
  simp only [U8s, List.getElem?_map]
  rw [List.getElem?_append_right (by simp; omega)]
  simp [hl, show min k 32 = k by omega, show 0 < 32 - k by omega]
theorem OtRel.set {w wr : World} {gH gO k : Nat} {s : St} (h : OtRel w gH gO s k wr) (hk : k < 32) : OtRel w gH gO s (k + 1) (wr.setCell ⟨gO, k, none⟩ (.int .u8 ((bytesOf s).getD k 0))) := by
  have hl := bytesOf_length s
  have h1 := h.h1
  have h2 := h.h2
  refine ⟨h.kp.setCell (fun hlt => absurd hlt (by show ¬ gO < _; omega)) _, ?_, ?_, ?_, h1, h2⟩
  · rw [other_blk h.out (by show w.heap.size ≠ gO; omega)]
  · rw [other_blk h.row (by show gH ≠ gO; omega)]
  · rw [set_blk h.id]
    congr 2
    apply Array.ext'
    have e1 : (bytesOf s).take (k + 1) = (bytesOf s).take k ++ [(bytesOf s).getD k 0] := by rw [List.take_succ_eq_append_getElem (by omega)]; simp [show k < (bytesOf s).length by omega]
    have hk2 : (U8s ((bytesOf s).take k)).length = k := by rw [U8s_length]; simp; omega
    rw [e1, show 32 - k = (32 - (k + 1)) + 1 by omega, List.replicate_succ]
    simp only [U8s_append, Array.toList_setIfInBounds, List.append_assoc]
    rw [List.set_append_right _ _ (by omega), hk2]
    simp [U8s]

set_option maxRecDepth 100000 in
set_option maxHeartbeats 800000 in
theorem rsum_any (bs : List Int) (hb : Rng bs) (hl : bs.length ≤ 2000) (v : Value) (w : World) (hs : Sees w v bs) :
    Calls Tryd.prog 41 #[v] w fun e w' => e = .returned (.agg (U8s (sumOf bs)).toArray) ∧ Kp (fun _ => False) w w' := by
  have hz1 := zerosI
  have hz2 := zerosV
  have hk0 : Kp (fun _ => False) w (w.alloc (.cells (U8s id0).toArray 23)) := (Kp.refl _ w).alloc _
  have hp := padded_any bs hl v _ (hs.kept hk0 (fun _ _ _ f => f))
  have hPl : (padded bs).length % 64 = 0 := by unfold padded; rw [List.length_append]; exact behind_length _
  have hPm : (padded bs).length ≤ 3000 := by unfold padded behind gap; rw [List.length_append]; simp [be_length]; omega
  have hP0 : padded bs ≠ [] := by unfold padded behind; simp
  have hPr : Rng (padded bs) := fun x hx => by
    rcases List.mem_append.1 hx with h | h
    · exact hb x h
    · exact behind_rng _ x h
  have hsum : sumOf bs = bytesOf (many ((padded bs).length / 64) h0 (padded bs)) := rfl
  obtain ⟨P, hPe⟩ : ∃ P, P = padded bs := ⟨_, rfl⟩
  rw [← hPe] at hp hPl hPm hP0 hPr hsum
  have HP := Lib.hid hp
  have HK0 := Lib.hid hk0
  have HPR := Lib.hid hPr
  have HSUM := Lib.hid hsum
  have HO0 := Lib.hid (new_blk w (.cells (U8s id0).toArray 23))
  have HB := Lib.hid hb
  clear hp hk0 hs hPr hsum hPe hb
  go_enter Tryd.func41, Tryd.ntmps41
  go_wp2_with fail
  refine HP.out.mono ?_
  rintro e w1 hnb
  obtain ⟨a3, c3, rfl, hown, hk1⟩ := hnb.here
  have hsee := hown.sees
  have hlt := hown.lt
  rw [World.size_alloc] at hlt
  have HSE := Lib.hid hsee
  have HLT := Lib.hid hlt
  have HP0 := Lib.hid hP0
  have HI8 := Lib.hid (info8 h0.list rfl)
  clear hnb hown hsee hlt hP0
  go_wp2_with (refine wpList_store_fresh rfl 76 _ _ rfl (U32s h0.list).toArray rfl rfl 76 _ HI8.out rfl (U32s_one _) ?_; intro w2 hk2 hm2 hs2)
  have hst : MnRel w w1.heap.size (.slice a3 P.length c3) P h0 w2 :=
    ⟨(HK0.out.trans hk1 (fun _ _ f => f)).trans hk2 (fun _ _ f => f), kept_blk (kept_blk HO0.out hk1 (fun f => f)) hk2 (fun f => f), hm2, HSE.out.kept hk2 (fun _ _ _ f => f),
      fun g hg => by have := (HLT.out g hg).2; omega, by have := hk1.size; rw [World.size_alloc] at this; omega⟩
  have HST := Lib.hid hst
  clear hst hk1 hk2 hm2 hs2 hz2
  go_loopw [5] (fun i wr => ∃ j : Nat, j ≤ P.length / 64 ∧ i = .int .i64 (64 * (j : Int)) ∧ MnRel w w1.heap.size (.slice a3 P.length c3) P (many j h0 P) wr) (fun i _ => P.length - (intOf i).toNat)
  case atStart => exact ⟨0, by omega, rfl, HST.out⟩
  case round =>
    obtain ⟨j, hj, rfl, hr⟩ := hrel
    by_cases hlt : j < P.length / 64
    · have hms := many_succ j h0 P
      have hok := many_ok j P
      obtain ⟨s, hse⟩ : ∃ s, s = many j h0 P := ⟨_, rfl⟩
      rw [← hse] at hr hms hok
      have HMS := Lib.hid hms
      have HOK := Lib.hid hok
      have HR := Lib.hid hr
      obtain ⟨v', hsl, hsee'⟩ := sees_part hr.see (64 * j) 64 (by omega) (by omega) (64 * (j : Int)) (64 * (j : Int) + 64) (by omega) (by omega)
      have hgo := goes_any s hok ((P.drop (64 * j)).take 64) (fun x hx => HPR.out x (List.mem_of_mem_drop (List.mem_of_mem_take hx))) (by simp; omega) v' wr.drew (hsee'.kept (Kp.refl (fun _ => False) wr).drew (fun _ _ _ f => f))
      have HGO := Lib.hid hgo
      have c0 := hr.cells 0 (by omega)
      have c1 := hr.cells 1 (by omega)
      have c2 := hr.cells 2 (by omega)
      have c3' := hr.cells 3 (by omega)
      have c4 := hr.cells 4 (by omega)
      have c5 := hr.cells 5 (by omega)
      have c6 := hr.cells 6 (by omega)
      have c7 := hr.cells 7 (by omega)
      simp only [St.list, List.getD_cons_zero, List.getD_cons_succ] at c0 c1 c2 c3' c4 c5 c6 c7
      have hd : decide (64 * (j : Int) < P.length) = true := by simp; omega
      have e1 : IntKind.i64.wrap (64 * (j : Int) + 64) = 64 * j + 64 := IntWalk.i64_in _ (by omega)
      clear hgo hr hse hms hok hsee'
      go_wp2_with fail
      refine wp_tail 6 (by kernel_rfl) (by kernel_rfl) ?_
      simp only [List.take_succ_cons, List.take_zero, List.drop_succ_cons, List.drop_zero]
      repeat still_step
      refine wpStill_nil ?_
      have HSL := Lib.hid hsl
      clear hsl c0 c1 c2 c3' c4 c5 c6 c7 e1 hd
      go_wp2_with fail
      refine HGO.out.mono ?_
      rintro e w3 ⟨rfl, hk3⟩
      have hk3' : Kp (fun _ => False) wr w3 := (Kp.refl (fun _ => False) wr).drew.trans hk3 (fun _ _ f => f)
      have hrow3 := kept_blk HR.out.row hk3' (fun f => f)
      have hnext : MnRel w w1.heap.size (.slice a3 P.length c3) P (many (j + 1) h0 P) (w3.setRow w1.heap.size (U32s (comp s ((P.drop (64 * j)).take 64)).list).toArray) := by
        have hh := HR.out.hH
        refine ⟨(HR.out.kp.trans hk3' (fun _ _ f => f)).setRow (fun hlt => by omega) _, ?_, ?_, ?_, HR.out.ne, hh⟩
        · rw [setRow_other_blk _ (by omega)]; exact kept_blk HR.out.out hk3' (fun f => f)
        · rw [HMS.out]; exact setRow_blk hrow3
        · exact (HR.out.see.kept hk3' (fun _ _ _ f => f)).kept ((Kp.refl (fun y => y = w1.heap.size) w3).setRow (fun _ => rfl) _) (fun _ g hg e => HR.out.ne g hg e)
      have HN := Lib.hid hnext
      have HR3 := Lib.hid hrow3
      have HIc := Lib.hid (info8 (comp s ((P.drop (64 * j)).take 64)).list rfl)
      clear hnext hk3 hk3' hrow3
      go_wp2_with (refine wpList_store_row rfl 76 _ _ rfl w1.heap.size (U32s (comp s ((P.drop (64 * j)).take 64)).list).toArray rfl rfl 76 _ HR3.out HIc.out rfl (U32s_one _) ?_)
      go_roundw
      case rel => exact ⟨j + 1, by omega, by go_num, HN.out⟩
      case measure => simp [intOf]; omega
    · obtain rfl : j = P.length / 64 := by omega
      have hd : decide (64 * ((P.length / 64 : Nat) : Int) < P.length) = false := by simp; omega
      obtain ⟨J, hJ⟩ : ∃ J, J = P.length / 64 := ⟨_, rfl⟩
      rw [← hJ] at hr hd ⊢
      have hso := HSUM.out
      rw [← hJ] at hso
      have hok := many_ok J P
      obtain ⟨s, hse⟩ : ∃ s, s = many J h0 P := ⟨_, rfl⟩
      rw [← hse] at hr hso hok
      have HR := Lib.hid hr
      have HS := Lib.hid hso
      have HOK := Lib.hid hok
      clear hr hso hok hse hlt hj hJ
      go_wp2_with fail
      have hst2 : OtRel w w1.heap.size wr.heap.size s 0 (wr.alloc (.cells (U8s id0).toArray 23)) :=
        ⟨HR.out.kp.alloc _, old_blk HR.out.out _, old_blk HR.out.row _, new_blk _ _, HR.out.hH, lt_of_blk HR.out.row⟩
      have HS2 := Lib.hid hst2
      clear hst2
      go_loopw [7] (fun i wx => ∃ k : Nat, k ≤ 32 ∧ i = .int .i64 k ∧ OtRel w w1.heap.size wr.heap.size s k wx) (fun i _ => 32 - (intOf i).toNat)
      case atStart => exact ⟨0, by omega, rfl, HS2.out⟩
      case round =>
        rename_i wo _
        obtain ⟨k, hk32, rfl, hr⟩ := hrel
        by_cases hlt : k < 32
        · obtain ⟨hc1, hc2, hf2⟩ := hr.cells hlt
          have hx := hr.set hlt
          rw [byte_of s HOK.out k hlt] at hx
          obtain ⟨Q, hQ⟩ : ∃ Q, Q = k / 4 := ⟨_, rfl⟩
          obtain ⟨R, hR⟩ : ∃ R, R = k % 4 := ⟨_, rfl⟩
          rw [← hQ, ← hR] at hx
          rw [← hQ] at hc1
          have t1 : (k : Int).tdiv 4 = Q := by rw [Int.tdiv_eq_ediv_of_nonneg (by omega)]; omega
          have t2 : (k : Int).tmod 4 = R := by rw [Int.tmod_eq_emod_of_nonneg (by omega)]; omega
          have t3 : (k : Int) / 4 = Q := by omega
          have t4 : (k : Int) % 4 = R := by omega
          have hd : decide ((k : Int) < 32) = true := by simp; omega
          have p0 : (0 : Int) ≤ k := by omega
          have p1 : (k : Int) < 32 := by omega
          have q0 : (0 : Int) ≤ Q := by omega
          have q1 : (Q : Int) < 8 := by omega
          have e1 : IntKind.i64.wrap (8 * (R : Int)) = 8 * R := IntWalk.i64_in _ (by omega)
          have e2 : IntKind.i64.wrap (24 - 8 * (R : Int)) = 24 - 8 * R := IntWalk.i64_in _ (by omega)
          have e3 : IntKind.u64.wrap (24 - 8 * (R : Int)) = 24 - 8 * R := IntWalk.u64_in _ (by omega)
          have e4 : min (24 - 8 * (R : Int)).toNat IntKind.u32.bits = (24 - 8 * (R : Int)).toNat := by simp [IntKind.bits]; omega
          have p2 : (0 : Int) ≤ 24 - 8 * R := by omega
          have p3 : ¬ (24 - 8 * (R : Int) < 0) := by omega
          have HX := Lib.hid hx
          have HQ := Lib.hid hQ
          have HRR := Lib.hid hR
          clear hx hr hQ hR
          go_wp2
          go_roundw
          case rel => exact ⟨k + 1, by omega, by go_num, HX.out⟩
          case measure => simp [intOf]; omega
        · obtain rfl : k = 32 := by omega
          have hid := hr.id
          rw [List.take_of_length_le (by rw [bytesOf_length]; exact Nat.le_refl 32), show 32 - 32 = 0 from rfl, List.replicate_zero, List.append_nil, ← HS.out] at hid
          have HI := Lib.hid hid
          have HO := Lib.hid hr.out
          have HKP := Lib.hid hr.kp
          have HI32 := Lib.hid (info32 (sumOf bs) rfl)
          clear hid hr hlt hk32
          rw [show ((32 : Nat) : Int) = 32 from rfl]
          go_wp2_with (first
            | (refine wpList_load_row rfl 23 _ rfl _ rfl 23 _ (0, 0) _ HI.out Tryd.underlying23 rfl HI32.out ?_)
            | (refine wpList_store_row rfl 23 _ _ rfl w.heap.size (U8s (sumOf bs)).toArray rfl rfl 23 _ HO.out HI32.out rfl (all_oneCell_toArray (U8s_one _)) ?_))
          refine bodyPost_ret (v := .agg (U8s (sumOf bs)).toArray) (results_cell_row Tryd.results41 _ _ w.heap.size 23 _ (0, 0) _ rfl (setRow_blk HO.out) Tryd.underlying23 rfl HI32.out) rfl ⟨rfl, ?_⟩
          exact HKP.out.setRow (fun hlt => by omega) _
end Go.Proofs.YtoognhbdgdfkoaaDoor
