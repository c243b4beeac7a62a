/-
  ShaOrder's walk: names stand in one order.
-/
import Derived.Test.YtopckankheljhaaDoorOd
import Derived.Test.YtopckankheljhaaDoorQk
import Derived.Deep.DeepCutAuto
namespace Go.Proofs.YtopckankheljhaaDoor
open Go.ChangeShapes Go.WideShapes Go.ChangeAt Go.RowKit

set_option maxRecDepth 100000 in
set_option maxHeartbeats 1600000 in
theorem order_law (a b c : List Int) (ha : Nm a) (hb : Nm b) (hc : Nm c) (w : World) (hR : Rts w) :
    Calls Tryd.prog 8 #[.agg (U8s a).toArray, .agg (U8s b).toArray, .agg (U8s c).toArray] w fun e w' => e = .returned (.bool true) ∧ Kp (fun _ => False) w w' := by
  have i1 := info32 a ha.len
  have i2 := info32 b hb.len
  have i3 := info32 c hc.len
  have hu : Tryd.prog.underlying 26 = some (.array 32 5) := Tryd.underlying26
  have HA := Lib.hid ha
  have HB := Lib.hid hb
  have HC := Lib.hid hc
  have HR := Lib.hid hR
  clear hR
  go_enter Tryd.func8, Tryd.ntmps8
  go_wp2_with fail
  obtain ⟨W, hW⟩ : ∃ W, W = ((w.alloc (.cells (U8s a).toArray 26)).alloc (.cells (U8s b).toArray 26)).alloc (.cells (U8s c).toArray 26) := ⟨_, rfl⟩
  have h1 := old_blk (old_blk (new_blk w (.cells (U8s a).toArray 26)) (.cells (U8s b).toArray 26)) (.cells (U8s c).toArray 26)
  have h2 := old_blk (new_blk (w.alloc (.cells (U8s a).toArray 26)) (.cells (U8s b).toArray 26)) (.cells (U8s c).toArray 26)
  have h3 := new_blk ((w.alloc (.cells (U8s a).toArray 26)).alloc (.cells (U8s b).toArray 26)) (.cells (U8s c).toArray 26)
  rw [World.size_alloc] at h2
  rw [World.size_alloc, World.size_alloc] at h3
  have hk : Kp (fun _ => False) w W := by rw [hW]; exact (((Kp.refl _ w).alloc _).alloc _).alloc _
  rw [← hW] at h1 h2 h3 ⊢
  obtain ⟨g2, hg2⟩ : ∃ g, g = w.heap.size + 1 + 1 := ⟨_, rfl⟩
  rw [← hg2] at h3 ⊢
  obtain ⟨g1, hg1⟩ : ∃ g, g = w.heap.size + 1 := ⟨_, rfl⟩
  rw [← hg1] at h2 ⊢
  obtain ⟨g0, hg0⟩ : ∃ g, g = w.heap.size := ⟨_, rfl⟩
  rw [← hg0] at h1 ⊢
  clear hg0 hg1 hg2
  have H1 := Lib.hid (fun w' (k : Kp (fun _ => False) W w') => kept_blk h1 k (fun f => f))
  have H2 := Lib.hid (fun w' (k : Kp (fun _ => False) W w') => kept_blk h2 k (fun f => f))
  have H3 := Lib.hid (fun w' (k : Kp (fun _ => False) W w') => kept_blk h3 k (fun f => f))
  have I1 := Lib.hid i1
  have I2 := Lib.hid i2
  have I3 := Lib.hid i3
  have HW := Lib.hid hW
  have HK := Lib.hid hk
  have k0 : Kp (fun _ => False) W W := Kp.refl _ _
  clear h1 h2 h3 hW hk i1 i2 i3
  refine wp_kept (W := W) (by kernel_rfl) (by kernel_rfl) k0 ?_
  repeat (first
    | go_big_quiet_skip
    | (go_big_quiet_want; refine quiet_load_row 26 _ rfl g0 rfl 26 _ (0, 0) _ H1.out Tryd.underlying26 rfl I1.out ?_; (simp only [Act.put, List.setIfInBounds_toArray, List.set_cons_zero, List.set_cons_succ]); go_big_quiet_on)
    | (go_big_quiet_want; refine quiet_load_row 26 _ rfl g1 rfl 26 _ (0, 0) _ H2.out Tryd.underlying26 rfl I2.out ?_; (simp only [Act.put, List.setIfInBounds_toArray, List.set_cons_zero, List.set_cons_succ]); go_big_quiet_on)
    | (go_big_quiet_want; refine quiet_load_row 26 _ rfl g2 rfl 26 _ (0, 0) _ H3.out Tryd.underlying26 rfl I3.out ?_; (simp only [Act.put, List.setIfInBounds_toArray, List.set_cons_zero, List.set_cons_succ]); go_big_quiet_on)
    | (go_big_quiet_want; go_big_quiet_op; first | go_big_quiet_on | go_big_quiet_call ((intro hk; first | with_reducible rfl | (exact (ncmp_any _ _ (by assumption) (by assumption) _).mono (fun e w' h => ⟨h.1, hk.trans h.2 (fun _ _ f => f)⟩))))))
  refine wpQuiet_nil ?_
  intro w1 k1
  have hrx := cmpI_range a b
  have hry := cmpI_range b c
  have htr := cmpI_trans a b c
  have htr' := cmpI_trans' a b c
  have hba := cmpI_turn a b
  have hz := cmpI_zero a b (by rw [ha.len, hb.len])
  have hle := less_cmp (hexI a) (hexI b) (hexI_rng ha.rng) (hexI_rng hb.rng)
  rw [hex_cmp a b (by rw [ha.len, hb.len]) ha.rng hb.rng] at hle
  obtain ⟨x, hx⟩ : ∃ x, x = cmpI a b := ⟨_, rfl⟩
  obtain ⟨y, hy⟩ : ∃ y, y = cmpI b c := ⟨_, rfl⟩
  obtain ⟨z, hz'⟩ : ∃ z, z = cmpI a c := ⟨_, rfl⟩
  have hq : ∀ w, (binOp .eql 26 (.agg (U8s a).toArray) (.agg (U8s b).toArray)).run Tryd.prog w = .ok (.bool (x == 0)) w := fun w => by
    rw [eql_names a b ha.len hb.len w]
    congr 2
    rw [Bool.eq_iff_iff]
    simp [hx, hz]
  have q1 := ncmp_any b a hb ha
  rw [hba] at q1
  have Q1 := Lib.hid q1
  have Q3 := Lib.hid (less_any a b ha hb)
  rw [← hx] at Q1 Q3 hrx htr htr' hle ⊢
  rw [← hy] at hry htr htr' ⊢
  rw [← hz'] at htr htr' ⊢
  have hxr : -1 ≤ x ∧ x ≤ 1 := by omega
  obtain ⟨hx0, hx1⟩ := hxr
  have d1 : decide (x < -1) = false := by simp; omega
  have d2 : decide (1 < x) = false := by simp; omega
  clear hx hy hz' hz hba q1
  go_wp2_with fail
  refine (begun_any _ ((HR.out.kept HK.out (fun _ _ f => f)).kept k1 (fun _ _ f => f))).mono ?_
  rintro e w2 ⟨rfl, k2⟩
  replace k2 := k1.trans k2 (fun _ _ f => f)
  go_wp2_with (first
    | (refine wpList_load_want rfl 26 _ rfl g0 rfl 26 _ (0, 0) _ (H1.out _ (by assumption)) Tryd.underlying26 rfl I1.out ?_)
    | (refine wpList_load_want rfl 26 _ rfl g1 rfl 26 _ (0, 0) _ (H2.out _ (by assumption)) Tryd.underlying26 rfl I2.out ?_))
  refine (Q1.out _).mono ?_
  rintro e w3 ⟨rfl, k3⟩
  replace k3 := k2.trans k3 (fun _ _ f => f)
  go_upto_region 6 with (first
    | (refine wpList_load_want rfl 26 _ rfl g0 rfl 26 _ (0, 0) _ (H1.out _ (by assumption)) Tryd.underlying26 rfl I1.out ?_)
    | (refine wpList_load_want rfl 26 _ rfl g1 rfl 26 _ (0, 0) _ (H2.out _ (by assumption)) Tryd.underlying26 rfl I2.out ?_))
  all_goals
    refine wp_kept (W := W) (by kernel_rfl) (by kernel_rfl) k3 ?_
    repeat (first
      | go_big_quiet_skip
      | (go_big_quiet_want; refine quiet_load_row 26 _ rfl g0 rfl 26 _ (0, 0) _ H1.out Tryd.underlying26 rfl I1.out ?_; (simp only [Act.put, List.setIfInBounds_toArray, List.set_cons_zero, List.set_cons_succ]); go_big_quiet_on)
      | (go_big_quiet_want; refine quiet_load_row 26 _ rfl g1 rfl 26 _ (0, 0) _ H2.out Tryd.underlying26 rfl I2.out ?_; (simp only [Act.put, List.setIfInBounds_toArray, List.set_cons_zero, List.set_cons_succ]); go_big_quiet_on)
      | (go_big_quiet_want; go_big_quiet_op; first | go_big_quiet_on | go_big_quiet_call ((intro hk; first | with_reducible rfl | (exact (hex_any _ (by assumption) _).mono (fun e w' h => ⟨h.1, hk.trans h.2 (fun _ _ f => f)⟩)) | (exact (Q3.out _).mono (fun e w' h => ⟨h.1, hk.trans h.2 (fun _ _ f => f)⟩))))))
    refine wpQuiet_nil ?_
    intro w5 k5
    go_wp2_with fail
    go_ret
    exact ⟨rfl, HK.out.trans k5 (fun _ _ f => f)⟩
end Go.Proofs.YtopckankheljhaaDoor
