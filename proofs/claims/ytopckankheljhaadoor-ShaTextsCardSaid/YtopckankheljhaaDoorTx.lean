/-
  ShaTexts's walk: any name's text, the name of any text.
-/
import Derived.Test.YtopckankheljhaaDoorRx
import Derived.Test.YtopckankheljhaaDoorQk
namespace Go.Proofs.YtopckankheljhaaDoor
open Go.ChangeShapes Go.WideShapes Go.ChangeAt Go.RowKit

set_option maxRecDepth 100000 in
set_option maxHeartbeats 1600000 in
theorem texts_law (a : List Int) (ha : Nm a) (s : ByteArray) (w : World) (hR : Rts w) :
    Calls Tryd.prog 4 #[.agg (U8s a).toArray, .string s] w fun e w' => e = .returned (.bool true) ∧ Kp (fun _ => False) w w' := by
  have hz2 := zerosId
  have i1 := info32 a ha.len
  have h1 := new_blk w (.cells (U8s a).toArray 26)
  have k0 : Kp (fun _ => False) w (w.alloc (.cells (U8s a).toArray 26)) := (Kp.refl _ w).alloc _
  have qp := parse_any s
  have qr := rparse_any s
  have hnm := parsed_nm (Bys s)
  obtain ⟨y, hy⟩ : ∃ y, y = (parsed (Bys s)).1 := ⟨_, rfl⟩
  obtain ⟨e, he⟩ : ∃ e, e = (parsed (Bys s)).2 := ⟨_, rfl⟩
  rw [← hy, ← he] at qp qr
  rw [← hy] at hnm
  have QP := Lib.hid qp
  have QR := Lib.hid qr
  have IY := Lib.hid (info32 y hnm.len)
  have hq := eql_names y y hnm.len hnm.len
  rw [decide_eq_true rfl] at hq
  have HR := Lib.hid hR
  have H1 := Lib.hid h1
  have I1 := Lib.hid i1
  have K0 := Lib.hid k0
  clear qp qr i1 h1 hy he hR k0
  go_enter Tryd.func4, Tryd.ntmps4
  go_wp2_with fail
  refine (QP.out _).mono ?_
  rintro r w1 ⟨rfl, k1⟩
  have h1 := kept_blk H1.out k1 (fun f => f)
  have k01 := K0.out.trans k1 (fun _ _ f => f)
  have H1' := Lib.hid h1
  have K1 := Lib.hid k01
  clear h1 k01 k1
  go_wp2_with (refine wpList_store_fresh rfl 26 _ _ rfl _ rfl rfl 26 _ IY.out (by rw [List.size_toArray, List.size_toArray, U8s_length, U8s_length, hnm.len]; rfl) (all_oneCell_toArray (U8s_one _)) ?_; intro w2 k2 m2 s2; have M2 := Lib.hid m2; have H2 := Lib.hid (kept_blk H1'.out k2 (fun f => f)); have K2 := Lib.hid (K1.out.trans k2 (fun _ _ f => f)); clear m2 s2 k2)
  refine (QR.out _).mono ?_
  rintro r w3 ⟨rfl, k3⟩
  have H3 := Lib.hid (kept_blk H2.out k3 (fun f => f))
  have M3 := Lib.hid (kept_blk M2.out k3 (fun f => f))
  have K3 := Lib.hid (K2.out.trans k3 (fun _ _ f => f))
  clear k3
  obtain ⟨g5, hg5⟩ : ∃ g, g = w1.heap.size := ⟨_, rfl⟩
  rw [← hg5] at M3 ⊢
  clear hg5
  go_wp2_with (refine wpList_store_fresh rfl 26 _ _ rfl _ rfl rfl 26 _ IY.out (by rw [List.size_toArray, List.size_toArray, U8s_length, U8s_length, hnm.len]; rfl) (all_oneCell_toArray (U8s_one _)) ?_; intro w4 k4 m4 s4; have M4 := Lib.hid m4; have H4 := Lib.hid (kept_blk H3.out k4 (fun f => f)); have M5 := Lib.hid (kept_blk M3.out k4 (fun f => f)); have K4 := Lib.hid (K3.out.trans k4 (fun _ _ f => f)); clear m4 s4 k4)
  obtain ⟨g7, hg7⟩ : ∃ g, g = w3.heap.size := ⟨_, rfl⟩
  rw [← hg7] at M4 ⊢
  clear hg7
  have L1 := Lib.hid (fun w' (k : Kp (fun _ => False) w4 w') => kept_blk H4.out k (fun f => f))
  have L5 := Lib.hid (fun w' (k : Kp (fun _ => False) w4 w') => kept_blk M5.out k (fun f => f))
  have L7 := Lib.hid (fun w' (k : Kp (fun _ => False) w4 w') => kept_blk M4.out k (fun f => f))
  obtain ⟨g0, hg0⟩ : ∃ g, g = w.heap.size := ⟨_, rfl⟩
  rw [← hg0] at L1 ⊢
  clear hg0
  have HR4 := Lib.hid (HR.out.kept K4.out (fun _ _ f => f))
  refine wp_kept (W := w4) (by kernel_rfl) (by kernel_rfl) (Kp.refl _ _) ?_
  repeat (first
    | go_big_quiet_skip
    | (go_big_quiet_want; refine quiet_load_row 26 _ rfl g0 rfl 26 _ (0, 0) _ L1.out Tryd.underlying26 rfl I1.out ?_; (simp only [Act.put, List.setIfInBounds_toArray, List.set_cons_zero, List.set_cons_succ]); go_big_quiet_on)
    | (go_big_quiet_want; refine quiet_load_row 26 _ rfl g5 rfl 26 _ (0, 0) _ L5.out Tryd.underlying26 rfl IY.out ?_; (simp only [Act.put, List.setIfInBounds_toArray, List.set_cons_zero, List.set_cons_succ]); go_big_quiet_on)
    | (go_big_quiet_want; refine quiet_load_row 26 _ rfl g7 rfl 26 _ (0, 0) _ L7.out Tryd.underlying26 rfl IY.out ?_; (simp only [Act.put, List.setIfInBounds_toArray, List.set_cons_zero, List.set_cons_succ]); go_big_quiet_on)
    | (go_big_quiet_want; go_big_quiet_op; first | go_big_quiet_on | go_big_quiet_call ((intro hk; first
        | with_reducible rfl
        | (go_at_call 10; exact (begun_any _ (HR4.out.kept hk (fun _ _ f => f))).mono (fun e w' h => ⟨h.1, hk.trans h.2 (fun _ _ f => f)⟩))
        | (go_at_call 20; exact (hex_any _ (by assumption) _).mono (fun e w' h => ⟨h.1, hk.trans h.2 (fun _ _ f => f)⟩))
        | (go_at_call 21; exact (rhex_any _ (by assumption) _).mono (fun e w' h => ⟨h.1, hk.trans h.2 (fun _ _ f => f)⟩))))))
  refine wpQuiet_nil ?_
  intro w5 k5
  go_wp2_with fail
  go_ret
  exact ⟨rfl, K4.out.trans k5 (fun _ _ f => f)⟩
end Go.Proofs.YtopckankheljhaaDoor
