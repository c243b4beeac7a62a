/-
  ShaCompares's walk: which of any two names comes ahead.
-/
import Derived.Test.YtopckankheljhaaDoorBeg
import Derived.Test.YtopckankheljhaaDoorEq
namespace Go.Proofs.YtopckankheljhaaDoor
open Go.ChangeShapes Go.WideShapes Go.ChangeAt Go.RowKit

theorem cmpI_drop : ∀ (k : Nat) (a b : List Int), a.take k = b.take k → k ≤ a.length → k ≤ b.length → cmpI a b = cmpI (a.drop k) (b.drop k)
  | 0, _, _, _, _, _ => rfl
  | k + 1, x :: a, y :: b, h, h1, h2 => by
    rw [List.take_succ_cons, List.take_succ_cons] at h
    obtain ⟨e, h'⟩ := List.cons.inj h
    subst e
    have := cmpI_drop k a b h' (by simpa using h1) (by simpa using h2)
    rw [List.drop_succ_cons, List.drop_succ_cons, ← this]
    simp [cmpI]
  | k + 1, [], _, _, h1, _ => by simp at h1
  | k + 1, _ :: _, [], _, _, h2 => by simp at h2
theorem cmpI_self (a : List Int) : cmpI a a = 0 := by
  induction a with
  | nil => rfl
  | cons x r ih => simp [cmpI, ih]
theorem cmpI_range (a b : List Int) : cmpI a b = -1 ∨ cmpI a b = 0 ∨ cmpI a b = 1 := by
  fun_induction cmpI <;> simp_all

set_option maxRecDepth 100000 in
set_option maxHeartbeats 800000 in
theorem rcmp_any (a b : List Int) (ha : Nm a) (hb : Nm b) (w : World) :
    Calls Tryd.prog 22 #[.agg (U8s a).toArray, .agg (U8s b).toArray] w fun e w' => e = .returned (.int .i64 (cmpI a b)) ∧ Kp (fun _ => False) w w' := by
  have h1 := old_blk (new_blk w (.cells (U8s a).toArray 26)) (.cells (U8s b).toArray 26)
  have h2 := new_blk (w.alloc (.cells (U8s a).toArray 26)) (.cells (U8s b).toArray 26)
  rw [World.size_alloc] at h2
  have hstart : ∃ m, (w.alloc (.cells (U8s a).toArray 26)).alloc (.cells (U8s b).toArray 26) = ((w.alloc (.cells (U8s a).toArray 26)).alloc (.cells (U8s b).toArray 26)).drewN m := ⟨0, rfl⟩
  have hkp : ∀ m, Kp (fun _ => False) w (((w.alloc (.cells (U8s a).toArray 26)).alloc (.cells (U8s b).toArray 26)).drewN m) := fun m => (((Kp.refl _ w).alloc _).alloc _).drewN m
  have H1 := Lib.hid h1
  have H2 := Lib.hid h2
  have HA := Lib.hid ha
  have HB := Lib.hid hb
  have HS := Lib.hid hstart
  have HK := Lib.hid hkp
  clear h1 h2 ha hb hstart hkp
  go_enter Tryd.func22, Tryd.ntmps22
  go_wp2
  go_loopw [5] (fun i wr => ∃ k : Nat, k ≤ 32 ∧ i = .int .i64 k ∧ a.take k = b.take k ∧ ∃ m, wr = ((w.alloc (.cells (U8s a).toArray 26)).alloc (.cells (U8s b).toArray 26)).drewN m) (fun i _ => 32 - (intOf i).toNat)
  case atStart => exact ⟨0, by omega, rfl, rfl, HS.out⟩
  case round =>
    obtain ⟨k, hk, rfl, hab, m, hwr⟩ := hrel
    have hcd := cmpI_drop k a b hab (by rw [HA.out.len]; exact hk) (by rw [HB.out.len]; exact hk)
    have hfin : Kp (fun _ => False) w wr := by rw [hwr]; exact HK.out m
    by_cases hlt : k < 32
    · have ca : wr.cell? ⟨w.heap.size, k, none⟩ = some (.int .u8 (a.getD k 0)) := by
        rw [hwr, World.cell?_drewN, cell_blk H1.out, List.getElem?_toArray]
        exact U8s_get (by simp [HA.out.len, hlt])
      have cb : wr.cell? ⟨w.heap.size + 1, k, none⟩ = some (.int .u8 (b.getD k 0)) := by
        rw [hwr, World.cell?_drewN, cell_blk H2.out, List.getElem?_toArray]
        exact U8s_get (by simp [HB.out.len, hlt])
      rw [drop_getD a k (by rw [HA.out.len]; exact hlt), drop_getD b k (by rw [HB.out.len]; exact hlt)] at hcd
      have hnx : a.getD k 0 = b.getD k 0 → a.take (k + 1) = b.take (k + 1) := fun e => by
        rw [List.take_succ_eq_append_getElem (by rw [HA.out.len]; exact hlt), List.take_succ_eq_append_getElem (by rw [HB.out.len]; exact hlt), hab]
        simp [HA.out.len, HB.out.len, hlt] at e
        rw [e]
      obtain ⟨x, hx⟩ : ∃ x, x = a.getD k 0 := ⟨_, rfl⟩
      obtain ⟨y, hy⟩ : ∃ y, y = b.getD k 0 := ⟨_, rfl⟩
      rw [← hx] at ca hcd hnx
      rw [← hy] at cb hcd hnx
      have hd : decide ((k : Int) < 32) = true := by simp; omega
      have p0 : (0 : Int) ≤ k := by omega
      have p1 : (k : Int) < 32 := by omega
      have HN := Lib.hid hnx
      have HC := Lib.hid hcd
      have HW := Lib.hid hwr
      have HF := Lib.hid hfin
      clear hnx hcd hwr hfin hx hy hab
      by_cases hxy : x < y
      · have e1 : decide (x < y) = true := by simpa using hxy
        go_wp2_with fail
        go_quiet (fail)
        go_wp2_with fail
        go_ret
        exact ⟨by rw [HC.out]; simp [cmpI, hxy], HF.out.drewN _⟩
      · have e1 : decide (x < y) = false := by simpa using hxy
        by_cases hyx : y < x
        · have e2 : decide (y < x) = true := by simpa using hyx
          go_wp2_with fail
          go_quiet (fail)
          go_wp2_with fail
          go_quiet (fail)
          go_wp2_with fail
          go_ret
          exact ⟨by rw [HC.out]; simp [cmpI, hxy, hyx], (HF.out.drewN _).drewN _⟩
        · have e2 : decide (y < x) = false := by simpa using hyx
          go_wp2_with fail
          go_quiet (fail)
          go_wp2_with fail
          go_quiet (fail)
          go_wp2_with fail
          go_roundw
          case rel => exact ⟨k + 1, by omega, by go_num, HN.out (by omega), _, by rw [HW.out]; exact drewN_two _ _ _⟩
          case measure => simp [intOf]; omega
    · obtain rfl : k = 32 := by omega
      rw [List.drop_eq_nil_of_le (by rw [HA.out.len]; omega), List.drop_eq_nil_of_le (by rw [HB.out.len]; omega)] at hcd
      have HC := Lib.hid hcd
      have HF := Lib.hid hfin
      clear hcd hfin hwr hab
      rw [show ((32 : Nat) : Int) = 32 from rfl]
      go_wp2_with fail
      go_ret
      exact ⟨by rw [HC.out]; rfl, HF.out⟩

set_option maxRecDepth 100000 in
set_option maxHeartbeats 800000 in
theorem compares_law (a b : List Int) (ha : Nm a) (hb : Nm b) (w : World) (hR : Rts w) :
    Calls Tryd.prog 5 #[.agg (U8s a).toArray, .agg (U8s b).toArray] w fun e w' => e = .returned (.bool true) ∧ Kp (fun _ => False) w w' := by
  have i1 := info32 a ha.len
  have i2 := info32 b hb.len
  obtain ⟨W, hW⟩ : ∃ W, W = (w.alloc (.cells (U8s a).toArray 26)).alloc (.cells (U8s b).toArray 26) := ⟨_, rfl⟩
  have h1 := old_blk (new_blk w (.cells (U8s a).toArray 26)) (.cells (U8s b).toArray 26)
  have h2 := new_blk (w.alloc (.cells (U8s a).toArray 26)) (.cells (U8s b).toArray 26)
  have hk : Kp (fun _ => False) w W := by rw [hW]; exact ((Kp.refl _ w).alloc _).alloc _
  rw [World.size_alloc] at h2
  rw [← hW] at h1 h2
  have hg1 : ∀ w', Kp (fun _ => False) W w' → w'.heap[w.heap.size]? = _ := fun w' k => kept_blk h1 k (fun f => f)
  have hg2 : ∀ w', Kp (fun _ => False) W w' → w'.heap[w.heap.size + 1]? = _ := fun w' k => kept_blk h2 k (fun f => f)
  have hcr := cmpI_range a b
  have hself := cmpI_self a
  obtain ⟨c, hc⟩ : ∃ c, c = cmpI a b := ⟨_, rfl⟩
  have K1 := rcmp_any a b ha hb
  have K2 := ncmp_any a b ha hb
  have K3 := less_any a b ha hb
  have K4 := ncmp_any a a ha ha
  have K5 := begun_any
  rw [← hc] at K1 K2 K3 hcr
  rw [hself] at K4
  have H1 := Lib.hid hg1
  have H2 := Lib.hid hg2
  have I1 := Lib.hid i1
  have I2 := Lib.hid i2
  have HW := Lib.hid hW
  have HK := Lib.hid hk
  have HR := Lib.hid hR
  have Q1 := Lib.hid K1
  have Q2 := Lib.hid K2
  have Q3 := Lib.hid K3
  have Q4 := Lib.hid K4
  have Q5 := Lib.hid K5
  clear h1 h2 hg1 hg2 i1 i2 hk hR K1 K2 K3 K4 K5 hself hc ha hb hW hcr
  go_enter Tryd.func5, Tryd.ntmps5
  have k0 : Kp (fun _ => False) W ((w.alloc (.cells (U8s a).toArray 26)).alloc (.cells (U8s b).toArray 26)) := by rw [← HW.out]; exact Kp.refl _ _
  go_wp2_with (first
    | ((refine wpList_load_want rfl 26 _ rfl w.heap.size rfl 26 _ (0, 0) _ (H1.out _ (by assumption)) Tryd.underlying26 rfl I1.out ?_))
    | ((refine wpList_load_want rfl 26 _ rfl (w.heap.size + 1) rfl 26 _ (0, 0) _ (H2.out _ (by assumption)) Tryd.underlying26 rfl I2.out ?_)))
  refine (Q1.out _).mono ?_
  rintro e w1 ⟨rfl, k1⟩
  replace k1 := k0.trans k1 (fun _ _ f => f)
  go_wp2_with (first
    | ((refine wpList_load_want rfl 26 _ rfl w.heap.size rfl 26 _ (0, 0) _ (H1.out _ (by assumption)) Tryd.underlying26 rfl I1.out ?_))
    | ((refine wpList_load_want rfl 26 _ rfl (w.heap.size + 1) rfl 26 _ (0, 0) _ (H2.out _ (by assumption)) Tryd.underlying26 rfl I2.out ?_)))
  refine (Q5.out _ ((HR.out.kept HK.out (fun _ _ f => f)).kept k1 (fun _ _ f => f))).mono ?_
  rintro e w2 ⟨rfl, k2⟩
  replace k2 := k1.trans k2 (fun _ _ f => f)
  go_wp2_with (first
    | ((refine wpList_load_want rfl 26 _ rfl w.heap.size rfl 26 _ (0, 0) _ (H1.out _ (by assumption)) Tryd.underlying26 rfl I1.out ?_))
    | ((refine wpList_load_want rfl 26 _ rfl (w.heap.size + 1) rfl 26 _ (0, 0) _ (H2.out _ (by assumption)) Tryd.underlying26 rfl I2.out ?_)))
  refine (Q2.out _).mono ?_
  rintro e w3 ⟨rfl, k3⟩
  replace k3 := k2.trans k3 (fun _ _ f => f)
  go_wp2_with (first
    | ((refine wpList_load_want rfl 26 _ rfl w.heap.size rfl 26 _ (0, 0) _ (H1.out _ (by assumption)) Tryd.underlying26 rfl I1.out ?_))
    | ((refine wpList_load_want rfl 26 _ rfl (w.heap.size + 1) rfl 26 _ (0, 0) _ (H2.out _ (by assumption)) Tryd.underlying26 rfl I2.out ?_)))
  refine (Q3.out _).mono ?_
  rintro e w4 ⟨rfl, k4⟩
  replace k4 := k3.trans k4 (fun _ _ f => f)
  go_wp2_with (first
    | ((refine wpList_load_want rfl 26 _ rfl w.heap.size rfl 26 _ (0, 0) _ (H1.out _ (by assumption)) Tryd.underlying26 rfl I1.out ?_))
    | ((refine wpList_load_want rfl 26 _ rfl (w.heap.size + 1) rfl 26 _ (0, 0) _ (H2.out _ (by assumption)) Tryd.underlying26 rfl I2.out ?_)))
  refine (Q4.out _).mono ?_
  rintro e w5 ⟨rfl, k5⟩
  replace k5 := k4.trans k5 (fun _ _ f => f)
  go_wp2_with (first
    | ((refine wpList_load_want rfl 26 _ rfl w.heap.size rfl 26 _ (0, 0) _ (H1.out _ (by assumption)) Tryd.underlying26 rfl I1.out ?_))
    | ((refine wpList_load_want rfl 26 _ rfl (w.heap.size + 1) rfl 26 _ (0, 0) _ (H2.out _ (by assumption)) Tryd.underlying26 rfl I2.out ?_)))
  go_outline
  go_ret
  exact ⟨rfl, HK.out.trans k5 (fun _ _ f => f)⟩
end Go.Proofs.YtopckankheljhaaDoor
