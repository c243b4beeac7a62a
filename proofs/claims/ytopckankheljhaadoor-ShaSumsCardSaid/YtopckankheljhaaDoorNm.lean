/-
  Contracts of package sha's names: Compare, Less, Hex.
-/
import Derived.Test.YtopckankheljhaaDoorWr
import Derived.Test.YtopckankheljhaaDoorBy
import Derived.BigRegion
namespace Go.Proofs.YtopckankheljhaaDoor
open Go.ChangeShapes Go.WideShapes Go.ChangeAt Go.RowKit

/-- a name's bytes -/
structure Nm (xs : List Int) : Prop where
  len : xs.length = 32
  rng : Rng xs
theorem array_sees {w : World} {g t : Nat} {xs : List Int} {fr : Nat × Nat} (h : w.heap[g]? = some (.cells (U8s xs).toArray t fr)) (hl : xs.length ≤ 100000) : Sees w (.slice (some ⟨g, 0, none⟩) xs.length xs.length) xs :=
  Sees.mk (Nat.le_refl _) (by unfold maxLen; omega) (fun i x hx => by
    rw [Nat.zero_add, cell_blk h, List.getElem?_toArray]; exact U8s_get hx)

set_option maxHeartbeats 400000 in
theorem ncmp_any (a b : List Int) (ha : Nm a) (hb : Nm b) (w : World) :
    Calls Tryd.prog 23 #[.agg (U8s a).toArray, .agg (U8s b).toArray] w fun e w' => e = .returned (.int .i64 (cmpI a b)) ∧ Kp (fun _ => False) w w' := by
  have s1 : ∀ o n, Sees (((w.alloc (.cells (U8s a).toArray 26)).alloc o).drewN n) (.slice (some ⟨w.heap.size, 0, none⟩) 32 32) a := fun o n => by
    have := array_sees (w := ((w.alloc (.cells (U8s a).toArray 26)).alloc o).drewN n) (g := w.heap.size) (old_blk (new_blk w _) o) (by rw [ha.len]; omega)
    rw [ha.len] at this; exact this
  have s2 : ∀ n, Sees (((w.alloc (.cells (U8s a).toArray 26)).alloc (.cells (U8s b).toArray 26)).drewN n) (.slice (some ⟨w.heap.size + 1, 0, none⟩) 32 32) b := fun n => by
    have h := new_blk (w.alloc (.cells (U8s a).toArray 26)) (.cells (U8s b).toArray 26)
    rw [World.size_alloc] at h
    have := array_sees (w := ((w.alloc (.cells (U8s a).toArray 26)).alloc (.cells (U8s b).toArray 26)).drewN n) (g := w.heap.size + 1) h (by rw [hb.len]; omega)
    rw [hb.len] at this; exact this
  have hq := fun n => (compare_any (s1 _ n) (s2 n) ha.rng hb.rng)
  have HQ := Lib.hid hq
  clear s1 s2 hq ha hb
  go_enter Tryd.func23, Tryd.ntmps23
  go_wp2
  go_quiet ((go_at_call 33; exact Calls.quiet_of_same ((HQ.out _).mono fun _ _ h => ⟨h.1, h.2.symm⟩)))
  go_wp2
  go_ret
  exact ⟨rfl, (((Kp.refl _ w).alloc _).alloc _).drewN _⟩
set_option maxHeartbeats 400000 in
theorem less_any (a b : List Int) (ha : Nm a) (hb : Nm b) (w : World) :
    Calls Tryd.prog 24 #[.agg (U8s a).toArray, .agg (U8s b).toArray] w fun e w' => e = .returned (.bool (decide (cmpI a b < 0))) ∧ Kp (fun _ => False) w w' := by
  have i1 := info32 a ha.len
  have i2 := info32 b hb.len
  have h1 := old_blk (new_blk w (.cells (U8s a).toArray 26)) (.cells (U8s b).toArray 26)
  have h2 := new_blk (w.alloc (.cells (U8s a).toArray 26)) (.cells (U8s b).toArray 26)
  rw [World.size_alloc] at h2
  have H1 := Lib.hid h1
  have H2 := Lib.hid h2
  have I1 := Lib.hid i1
  have I2 := Lib.hid i2
  have HQ := Lib.hid (ncmp_any a b ha hb)
  clear h1 h2 i1 i2 ha hb
  go_enter Tryd.func24, Tryd.ntmps24
  go_wp2_with (first
    | (refine wpList_load_row (o := ⟨some 5, _, _, _, _, _⟩) rfl 26 _ rfl w.heap.size rfl 26 _ (0, 0) _ H1.out Tryd.underlying26 rfl I1.out ?_)
    | (refine wpList_load_row (o := ⟨some 6, _, _, _, _, _⟩) rfl 26 _ rfl (w.heap.size + 1) rfl 26 _ (0, 0) _ H2.out Tryd.underlying26 rfl I2.out ?_))
  refine (HQ.out _).mono ?_
  rintro e w1 ⟨rfl, hk⟩
  go_wp2
  go_ret
  exact ⟨rfl, (((Kp.refl _ w).alloc _).alloc _).trans hk (fun _ _ f => f)⟩
end Go.Proofs.YtopckankheljhaaDoor
