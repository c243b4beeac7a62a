/-
  ShaNone's walk: a state that no call made.
-/
import Derived.Test.YtopckankheljhaaDoorBeg
import Derived.Test.YtopckankheljhaaDoorEq
namespace Go.Proofs.YtopckankheljhaaDoor
open Go.ChangeShapes Go.WideShapes Go.ChangeAt Go.RowKit

/-- a state that no call made -/
def Unm (w : World) (v : Value) : Prop := v = .pointer none ∨ ∃ p, v = .pointer (some ⟨p, 0, none⟩) ∧ w.cell? ⟨p, 0, none⟩ = some (.bool false) ∧ w.cell? ⟨p, 73, none⟩ = some (.int .i64 0) ∧ p < w.heap.size
theorem Unm.kept {w w' : World} {v : Value} (h : Unm w v) (k : Kp (fun _ => False) w w') : Unm w' v := by
  rcases h with h | ⟨p, rfl, h0, h1, h2⟩
  · exact .inl h
  · exact .inr ⟨p, rfl, by rw [k.cell h2 (fun f => f)]; exact h0, by rw [k.cell h2 (fun f => f)]; exact h1, Nat.lt_of_lt_of_le h2 k.size⟩
set_option maxHeartbeats 400000 in
theorem write_unm (v l : Value) (w : World) (h : Unm w v) : Calls Tryd.prog 14 #[v, l] w fun e w' => e = .returned (.int .i64 2) ∧ w = w' := by
  rcases h with rfl | ⟨p, rfl, h0, h1, _⟩
  · go_enter Tryd.func14, Tryd.ntmps14
    go_wp2
    go_ret
    exact ⟨rfl, rfl⟩
  · go_enter Tryd.func14, Tryd.ntmps14
    go_wp2
    go_ret
    exact ⟨rfl, rfl⟩
set_option maxHeartbeats 400000 in
theorem len_unm (v : Value) (w : World) (h : Unm w v) : Calls Tryd.prog 17 #[v] w fun e w' => e = .returned (.int .i64 0) ∧ w = w' := by
  rcases h with rfl | ⟨p, rfl, h0, h1, _⟩
  · go_enter Tryd.func17, Tryd.ntmps17
    go_wp2
    go_ret
    exact ⟨rfl, rfl⟩
  · go_enter Tryd.func17, Tryd.ntmps17
    go_wp2
    go_ret
    exact ⟨rfl, rfl⟩
set_option maxHeartbeats 400000 in
theorem clone_unm (v : Value) (w : World) (h : Unm w v) : Calls Tryd.prog 25 #[v] w fun e w' => e = .returned (.pointer none) ∧ w = w' := by
  rcases h with rfl | ⟨p, rfl, h0, h1, _⟩
  · go_enter Tryd.func25, Tryd.ntmps25
    go_wp2
    go_ret
    exact ⟨rfl, rfl⟩
  · go_enter Tryd.func25, Tryd.ntmps25
    go_wp2
    go_ret
    exact ⟨rfl, rfl⟩
set_option maxHeartbeats 400000 in
theorem sum_unm (v : Value) (w : World) (h : Unm w v) : Calls Tryd.prog 16 #[v] w fun e w' => e = .returned (.agg (U8s id0).toArray) ∧ Kp (fun _ => False) w w' := by
  have hz2 := zerosId
  have hi := info32 id0 rfl
  have HI := Lib.hid hi
  clear hi
  rcases h with rfl | ⟨p, rfl, h0, h1, hp⟩
  · go_enter Tryd.func16, Tryd.ntmps16
    go_wp2_with (refine wpList_store_row rfl 26 _ _ rfl w.heap.size _ rfl rfl 26 _ (new_blk _ _) HI.out rfl (all_oneCell_toArray (U8s_one _)) ?_)
    refine bodyPost_ret (v := .agg (U8s id0).toArray) (results_cell_row Tryd.results16 _ _ w.heap.size 26 _ (0, 0) _ rfl (setRow_blk (new_blk _ _)) Tryd.underlying26 rfl HI.out) rfl ⟨rfl, ?_⟩
    exact ((Kp.refl _ w).alloc _).setRow (by simp) _
  · go_enter Tryd.func16, Tryd.ntmps16
    go_wp2_with (refine wpList_store_row rfl 26 _ _ rfl w.heap.size _ rfl rfl 26 _ (new_blk _ _) HI.out rfl (all_oneCell_toArray (U8s_one _)) ?_)
    refine bodyPost_ret (v := .agg (U8s id0).toArray) (results_cell_row Tryd.results16 _ _ w.heap.size 26 _ (0, 0) _ rfl (setRow_blk (new_blk _ _)) Tryd.underlying26 rfl HI.out) rfl ⟨rfl, ?_⟩
    exact ((Kp.refl _ w).alloc _).setRow (by simp) _

/-- the two states that no call made, in a slice -/
def NoRel (w : World) (wr : World) : Prop := ∃ v1, wr.cell? ⟨w.heap.size + 1, 0, none⟩ = some (.pointer none) ∧ wr.cell? ⟨w.heap.size + 1, 1, none⟩ = some v1 ∧ Unm wr v1 ∧ Kp (fun _ => False) w wr ∧ w.heap.size + 1 < wr.heap.size
theorem NoRel.kept {w wr w' : World} (h : NoRel w wr) (k : Kp (fun _ => False) wr w') : NoRel w w' := by
  obtain ⟨v1, h0, h1, h2, h3, h4⟩ := h
  exact ⟨v1, by rw [k.cell h4 (fun f => f)]; exact h0, by rw [k.cell h4 (fun f => f)]; exact h1, h2.kept k, h3.trans k (fun _ _ f => f), Nat.lt_of_lt_of_le h4 k.size⟩
set_option maxRecDepth 100000 in
set_option maxHeartbeats 800000 in
theorem none_law (a : Option Addr) (n c : Nat) (w : World) (hR : Rts w) : Calls Tryd.prog 9 #[.slice a n c] w fun r w' => r = .returned (.bool true) ∧ Kp (fun _ => False) w w' := by
  have hz1 := zerosSt
  have hz2 := zerosId
  have HR := Lib.hid hR
  have hq := neq_names id0 id0 rfl rfl
  rw [decide_eq_true rfl, Bool.not_true] at hq
  have hs : NoRel w ((w.alloc (.cells st0.toArray 48)).alloc (.cells #[.pointer none, .pointer (some ⟨w.heap.size, 0, none⟩)] 28)) := by
    have h1 := new_blk (w.alloc (.cells st0.toArray 48)) (.cells #[.pointer none, .pointer (some ⟨w.heap.size, 0, none⟩)] 28)
    rw [World.size_alloc] at h1
    have h0 := old_blk (new_blk w (.cells st0.toArray 48)) (.cells #[.pointer none, .pointer (some ⟨w.heap.size, 0, none⟩)] 28)
    exact ⟨_, by rw [cell_blk h1]; rfl, by rw [cell_blk h1]; rfl, .inr ⟨_, rfl, by rw [cell_blk h0]; rfl, by rw [cell_blk h0]; rfl, by rw [World.size_alloc, World.size_alloc]; omega⟩, ((Kp.refl _ w).alloc _).alloc _, by simp⟩
  have HS := Lib.hid hs
  clear hR hs
  go_enter Tryd.func9, Tryd.ntmps9
  go_wp2
  go_loopw [4, 9] (fun _ i wr => ∃ k : Nat, k ≤ 2 ∧ i = .int .i64 k ∧ NoRel w wr) (fun _ i _ => 2 - (intOf i).toNat)
  case atStart => exact ⟨0, by omega, rfl, HS.out⟩
  case round =>
    obtain ⟨k, hk, rfl, hr⟩ := hrel
    by_cases hlt : k < 2
    · have hu : ∃ u, wr.cell? ⟨w.heap.size + 1, k, none⟩ = some u ∧ Unm wr u := by
        obtain ⟨v1, h0, h1, h2, _⟩ := hr
        have e : k = 0 ∨ k = 1 := by omega
        rcases e with rfl | rfl
        · exact ⟨_, h0, .inl rfl⟩
        · exact ⟨_, h1, h2⟩
      obtain ⟨u, hc, hu⟩ := hu
      have hd : decide ((k : Int) < 2) = true := by simp; omega
      have HRR := Lib.hid hr
      have HU := Lib.hid hu
      clear hr hu
      go_wp2_with fail
      refine (write_unm u _ _ (HU.out.kept ((Kp.refl _ wr).alloc _))).mono ?_
      rintro e w1 ⟨rfl, rfl⟩
      go_wp2_with fail
      refine (sum_unm u _ (HU.out.kept ((Kp.refl _ wr).alloc _))).mono ?_
      rintro e w2 ⟨rfl, hk2⟩
      have hk02 : Kp (fun _ => False) wr w2 := ((Kp.refl _ wr).alloc _).trans hk2 (fun _ _ f => f)
      have HK := Lib.hid hk02
      clear hk2 hk02
      go_wp2_with (first
        | (go_at_call 17; refine (len_unm u _ (HU.out.kept HK.out)).mono ?_; rintro e w3 ⟨rfl, rfl⟩)
        | (go_at_call 25; refine (clone_unm u _ (HU.out.kept HK.out)).mono ?_; rintro e w3 ⟨rfl, rfl⟩))
      go_outline
      go_roundw
      case rel => exact ⟨k + 1, by omega, by go_num, HRR.out.kept HK.out⟩
      case measure => simp [intOf]; omega
    · obtain rfl : k = 2 := by omega
      obtain ⟨_, _, _, _, hk, _⟩ := hr
      have HK := Lib.hid hk
      clear hk
      rw [show ((2 : Nat) : Int) = 2 from rfl]
      go_wp2_with fail
      refine (begun_any _ (HR.out.kept HK.out (fun _ _ f => f))).mono ?_
      rintro e w1 ⟨rfl, hk1⟩
      have hk01 := HK.out.trans hk1 (fun _ _ f => f)
      have HK1 := Lib.hid hk01
      clear hk01 hk1
      go_wp2_with fail
      go_ret
      exact ⟨rfl, HK1.out⟩
end Go.Proofs.YtopckankheljhaaDoor
