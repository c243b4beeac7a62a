/-
  VdrShares: the law's walk.
-/
import Derived.Test.YtphbckjadebdmaaDyb
import Derived.Test.YtphbckjadebdmaaDnn
namespace Go.Proofs.Ytphbckjadebdmaa
open Go.ChangeShapes Go.WideShapes Go.ChangeAt Go.RowKit

set_option maxRecDepth 100000 in
set_option maxHeartbeats 3200000 in
theorem shares_law (s : Int) (hs : s ≤ 9223372036854775807) (x : Shr) (hx : x.wf) (w : World) :
    Calls Try.prog 6 #[.int .i64 s, .agg (shrC x).toArray] w fun e w' => e = .returned (.bool true) ∧ Kp (fun _ => False) w w' := by
  obtain ⟨T, N, D⟩ := x
  obtain ⟨T0, T1, N0, N1, D0, D1⟩ := hx
  simp only at T0 T1 N0 N1 D0 D1
  have HB := Lib.hid (fun w => vlive_any w)
  have HA1 := Lib.hid (fun w => atLeast_any s T N D hs T1 N1 D1 w)
  have HA2 := Lib.hid (fun w => ratLeast_any s T N D hs T1 N1 D1 w)
  have HN1 := Lib.hid (fun w => need_any T N D T1 N1 D1 w)
  have HN2 := Lib.hid (fun w => rneed_any T N D T1 N1 D1 w)
  obtain ⟨b, hb⟩ : ∃ b, b = atLeastB s T N D := ⟨_, rfl⟩
  obtain ⟨c, hc⟩ : ∃ c, c = needI T N D := ⟨_, rfl⟩
  rw [← hb] at HA1 HA2
  rw [← hc] at HN1 HN2
  have K0 := Lib.hid ((Kp.refl (fun _ => False) w).alloc (.cells #[.int .i64 T, .int .i64 N, .int .i64 D] 49))
  obtain ⟨W0, hW0⟩ : ∃ W0, W0 = w.alloc (.cells #[.int .i64 T, .int .i64 N, .int .i64 D] 49) := ⟨_, rfl⟩
  have hC : ∀ w' (k : Kp (fun _ => False) W0 w'), w'.cell? ⟨w.heap.size, 0, none⟩ = some (.int .i64 T) ∧ w'.cell? ⟨w.heap.size, 1, none⟩ = some (.int .i64 N) ∧ w'.cell? ⟨w.heap.size, 2, none⟩ = some (.int .i64 D) := by
    intro w' k
    rw [hW0] at k
    exact ⟨cell_blk (kept_blk (new_blk w _) k (fun f => f)) 0, cell_blk (kept_blk (new_blk w _) k (fun f => f)) 1, cell_blk (kept_blk (new_blk w _) k (fun f => f)) 2⟩
  have hC0 := Lib.hid (fun w' (k : Kp (fun _ => False) W0 w') => (hC w' k).1)
  have hC1 := Lib.hid (fun w' (k : Kp (fun _ => False) W0 w') => (hC w' k).2.1)
  have hC2 := Lib.hid (fun w' (k : Kp (fun _ => False) W0 w') => (hC w' k).2.2)
  rw [← hW0] at K0
  have HW0 := Lib.hid hW0
  unfold shrC
  clear hb hc hC hW0
  go_enter Try.func6, Try.ntmps6
  go_upto_region 1 with (fail)
  show Code.wp _ _ _ _ (w.alloc (.cells #[.int .i64 T, .int .i64 N, .int .i64 D] 49))
  rw [← HW0.out]
  obtain ⟨g, hg⟩ : ∃ g, g = w.heap.size := ⟨_, rfl⟩
  rw [← hg] at hC0 hC1 hC2 ⊢
  clear hg
  have hbb : (b == b) = true := by simp
  have hcc : (c == c) = true := by simp
  refine wp_kept (W := W0) (by kernel_rfl) (by kernel_rfl) (Kp.refl _ _) ?_
  repeat (first
    | go_big_quiet_skip
    | (go_big_quiet_want; (with_reducible refine qdst 9 ?_); refine quiet_load_cell 2 _ rfl ⟨g, 0, none⟩ rfl (.int .i64 T) _ hC0.out Try.underlying2 rfl ?_; (simp only [Act.put, List.setIfInBounds_toArray, List.set_cons_zero, List.set_cons_succ]); go_big_quiet_on)
    | (go_big_quiet_want; (with_reducible refine qdst 11 ?_); refine quiet_load_cell 2 _ rfl ⟨g, 1, none⟩ rfl (.int .i64 N) _ hC1.out Try.underlying2 rfl ?_; (simp only [Act.put, List.setIfInBounds_toArray, List.set_cons_zero, List.set_cons_succ]); go_big_quiet_on)
    | (go_big_quiet_want; (with_reducible refine qdst 13 ?_); refine quiet_load_cell 2 _ rfl ⟨g, 2, none⟩ rfl (.int .i64 D) _ hC2.out Try.underlying2 rfl ?_; (simp only [Act.put, List.setIfInBounds_toArray, List.set_cons_zero, List.set_cons_succ]); go_big_quiet_on)
    | (go_big_quiet_want; (with_reducible refine qdst 17 ?_); refine quiet_load_cell 2 _ rfl ⟨g, 0, none⟩ rfl (.int .i64 T) _ hC0.out Try.underlying2 rfl ?_; (simp only [Act.put, List.setIfInBounds_toArray, List.set_cons_zero, List.set_cons_succ]); go_big_quiet_on)
    | (go_big_quiet_want; (with_reducible refine qdst 19 ?_); refine quiet_load_cell 2 _ rfl ⟨g, 1, none⟩ rfl (.int .i64 N) _ hC1.out Try.underlying2 rfl ?_; (simp only [Act.put, List.setIfInBounds_toArray, List.set_cons_zero, List.set_cons_succ]); go_big_quiet_on)
    | (go_big_quiet_want; (with_reducible refine qdst 21 ?_); refine quiet_load_cell 2 _ rfl ⟨g, 2, none⟩ rfl (.int .i64 D) _ hC2.out Try.underlying2 rfl ?_; (simp only [Act.put, List.setIfInBounds_toArray, List.set_cons_zero, List.set_cons_succ]); go_big_quiet_on)
    | (go_big_quiet_want; (with_reducible refine qdst 27 ?_); refine quiet_load_cell 2 _ rfl ⟨g, 0, none⟩ rfl (.int .i64 T) _ hC0.out Try.underlying2 rfl ?_; (simp only [Act.put, List.setIfInBounds_toArray, List.set_cons_zero, List.set_cons_succ]); go_big_quiet_on)
    | (go_big_quiet_want; (with_reducible refine qdst 29 ?_); refine quiet_load_cell 2 _ rfl ⟨g, 1, none⟩ rfl (.int .i64 N) _ hC1.out Try.underlying2 rfl ?_; (simp only [Act.put, List.setIfInBounds_toArray, List.set_cons_zero, List.set_cons_succ]); go_big_quiet_on)
    | (go_big_quiet_want; (with_reducible refine qdst 31 ?_); refine quiet_load_cell 2 _ rfl ⟨g, 2, none⟩ rfl (.int .i64 D) _ hC2.out Try.underlying2 rfl ?_; (simp only [Act.put, List.setIfInBounds_toArray, List.set_cons_zero, List.set_cons_succ]); go_big_quiet_on)
    | (go_big_quiet_want; (with_reducible refine qdst 34 ?_); refine quiet_load_cell 2 _ rfl ⟨g, 0, none⟩ rfl (.int .i64 T) _ hC0.out Try.underlying2 rfl ?_; (simp only [Act.put, List.setIfInBounds_toArray, List.set_cons_zero, List.set_cons_succ]); go_big_quiet_on)
    | (go_big_quiet_want; (with_reducible refine qdst 36 ?_); refine quiet_load_cell 2 _ rfl ⟨g, 1, none⟩ rfl (.int .i64 N) _ hC1.out Try.underlying2 rfl ?_; (simp only [Act.put, List.setIfInBounds_toArray, List.set_cons_zero, List.set_cons_succ]); go_big_quiet_on)
    | (go_big_quiet_want; (with_reducible refine qdst 38 ?_); refine quiet_load_cell 2 _ rfl ⟨g, 2, none⟩ rfl (.int .i64 D) _ hC2.out Try.underlying2 rfl ?_; (simp only [Act.put, List.setIfInBounds_toArray, List.set_cons_zero, List.set_cons_succ]); go_big_quiet_on)
    | (go_big_quiet_want; go_big_quiet_op; first | go_big_quiet_on | go_big_quiet_call ((intro hk; first
        | with_reducible rfl
        | (go_at_call 8; exact (HB.out _).mono (fun e w' h => ⟨h.1, hk.trans h.2 (fun _ _ f => f)⟩))
        | (go_at_call 29; exact (HA1.out _).mono (fun e w' h => ⟨h.1, by rw [h.2]; exact hk⟩))
        | (go_at_call 30; exact (HA2.out _).mono (fun e w' h => ⟨h.1, hk.trans h.2 (fun _ _ f => f)⟩))
        | (go_at_call 31; exact (HN1.out _).mono (fun e w' h => ⟨h.1, hk.trans h.2 (fun _ _ f => f)⟩))
        | (go_at_call 32; exact (HN2.out _).mono (fun e w' h => ⟨h.1, hk.trans h.2 (fun _ _ f => f)⟩))))))
  refine wpQuiet_nil ?_
  intro w5 k5
  have K5 := Lib.hid (K0.out.trans k5 (fun _ _ f => f))
  clear k5
  go_wp2_with fail
  go_ret
  exact ⟨by first | rfl | simp, K5.out⟩
end Go.Proofs.Ytphbckjadebdmaa
