/-
  Are units drawn, and owned: begun.
-/
import Derived.Test.YtpadabmbblcklaaEp
namespace Go.Proofs.Ytpadabmbblcklaa
open Go.RowKit

theorem begun_units : unitsU 5 3 [0, 0, 2] = ([0, 1, 4], 0) := by decide +kernel
theorem begun_slots : slotsE [2, 3] 3 [4, 0, 0] = ([1, 0, 0], 0) := by decide +kernel
theorem lit_sees {w w' : World} {T : Nat} {k : IntKind} {l : List Int} (kp : Kp (fun _ => False) (w.alloc (.cells (encZ k l ++ []).toArray T)) w') (hl : l.length ≤ 1000) : SeesZ k w' (.slice (some ⟨w.heap.size, 0, none⟩) l.length l.length) l :=
  (seesZ_blk (new_blk w (.cells (encZ k l ++ []).toArray T)) (Nat.le_refl _) (by unfold maxLen; omega)).kept kp

set_option maxRecDepth 100000 in
set_option maxHeartbeats 4000000 in
theorem begun_any (w : World) : Calls Try.prog 9 #[] w fun e w' => e = .returned (.bool true) ∧ Kp (fun _ => False) w w' := by
  have H1 := Lib.hid (units_any (w := w.alloc (.cells #[.int .u64 0, .int .u64 0, .int .u64 2] 31)) (vd := .slice (some ⟨w.heap.size, 0, none⟩) 3 3) (ds := [0, 0, 2]) (lit_sees (w := w) (T := 31) (k := .u64) (l := [0, 0, 2]) (Kp.refl _ _) (by decide)) (by intro x hx; simp at hx; omega) 5 3)
  rw [begun_units] at H1
  go_enter Try.func9, Try.ntmps9
  go_wp2_with fail
  refine H1.out.mono ?_
  rintro e w2 ⟨v2, rfl, s2, _, k2⟩
  have hw2 : w.heap.size + 1 ≤ w2.heap.size := by have := k2.size; simpa using this
  have K2 := Lib.hid (((Kp.refl (fun _ => False) w).alloc _).trans k2 (fun _ _ f => f))
  have S2 := Lib.hid s2
  have HW2 := Lib.hid hw2
  clear s2 k2 hw2
  have H2 := Lib.hid (slots_any (w := (w2.alloc (.cells #[.int .i64 2, .int .i64 3] 2)).alloc (.cells #[.int .u64 4, .int .u64 0, .int .u64 0] 31)) (v := .slice (some ⟨w2.heap.size, 0, none⟩) 2 2) (vd := .slice (some ⟨w2.heap.size + 1, 0, none⟩) 3 3) (l := [2, 3]) (ds := [4, 0, 0])
    (lit_sees (w := w2) (T := 2) (k := .i64) (l := [2, 3]) ((Kp.refl _ _).alloc _) (by decide)) (by intro x hx; simp at hx; omega)
    (by have := lit_sees (w := w2.alloc (.cells #[.int .i64 2, .int .i64 3] 2)) (T := 31) (k := .u64) (l := [4, 0, 0]) (Kp.refl _ _) (by decide); rw [World.size_alloc] at this; exact this) (by intro x hx; simp at hx; omega) 3)
  rw [begun_slots] at H2
  go_wp2_with fail
  refine H2.out.mono ?_
  rintro e w3 ⟨v3, rfl, s3, _, k3⟩
  have k23 : Kp (fun _ => False) w2 w3 := (((Kp.refl (fun _ => False) w2).alloc _).alloc _).trans k3 (fun _ _ f => f)
  have S23 := Lib.hid (S2.out.kept k23)
  have S3 := Lib.hid s3
  have K3 := Lib.hid (K2.out.trans k23 (fun _ _ f => f))
  clear s3 k3 k23
  have H3 := Lib.hid (equalQ_any (w := w3.alloc (.cells #[.int .i64 0, .int .i64 1, .int .i64 4] 2)) (v1 := v2) (v2 := .slice (some ⟨w3.heap.size, 0, none⟩) 3 3) (S23.out.kept ((Kp.refl _ _).alloc _)) (lit_sees (w := w3) (T := 2) (k := .i64) (l := [0, 1, 4]) (Kp.refl _ _) (by decide)))
  rw [decide_eq_true rfl] at H3
  go_wp2_with fail
  refine H3.out.mono ?_
  rintro e w4 ⟨rfl, k4⟩
  have k34 : Kp (fun _ => False) w3 w4 := ((Kp.refl (fun _ => False) w3).alloc _).trans k4 (fun _ _ f => f)
  have S34 := Lib.hid (S3.out.kept k34)
  have K4 := Lib.hid (K3.out.trans k34 (fun _ _ f => f))
  clear k4 k34
  have H4 := Lib.hid (equalI_any (w := w4.alloc (.cells #[.int .i64 1, .int .i64 0, .int .i64 0] 3)) (v1 := v3) (v2 := .slice (some ⟨w4.heap.size, 0, none⟩) 3 3) (S34.out.kept ((Kp.refl _ _).alloc _)) (lit_sees (w := w4) (T := 3) (k := .i64) (l := [1, 0, 0]) (Kp.refl _ _) (by decide)))
  rw [decide_eq_true rfl] at H4
  go_wp2_with fail
  refine H4.out.mono ?_
  rintro e w5 ⟨rfl, k5⟩
  have K5 := Lib.hid (K4.out.trans (((Kp.refl (fun _ => False) w4).alloc _).trans k5 (fun _ _ f => f)) (fun _ _ f => f))
  clear k5
  go_wp2_with fail
  go_ret
  exact ⟨rfl, K5.out⟩
end Go.Proofs.Ytpadabmbblcklaa
