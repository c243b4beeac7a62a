/-
  MsgReads: the law's walk.
-/
import Derived.Test.YtleapcbkkggecaaRp
import Derived.Test.YtleapcbkkggecaaMg
import Derived.Test.YtleapcbkkggecaaMz
import Derived.Test.YtleapcbkkggecaaBc
namespace Go.Proofs.Ytleapcbkkggecaa
open Go.ChangeShapes Go.WideShapes Go.ChangeAt Go.RowKit

theorem prs_wfR {b : List Int} (hr : Rng b) : (prs b).1.wf := by
  rcases prs_cases hr with ⟨m, h1, _, _, h4⟩ | ⟨_, h4⟩
  · rw [h4]; exact h1
  · rw [h4]; exact ⟨by decide, by decide, by decide, by decide, (fun x hx => by cases hx), (fun x hx => by cases hx)⟩
/-- one byte of a row of one's own turned -/
theorem own_turn {w : World} {B : Nat} {a : Option Addr} {n c : Nat} {ys : List Int} (h : OwnB w B (.slice a n c) ys) (hl : ys.length = n) (k : Nat) (hk : k < n) :
    ∃ g, a = some ⟨g, 0, none⟩ ∧ B ≤ g ∧ w.cell? ⟨g, k, none⟩ = some (.int .u8 (ys.getD k 0)) ∧ w.frozen? ⟨g, k, none⟩ = false ∧
      ∀ x, ∃ zs, zs.length = n ∧ OwnB (w.setCell ⟨g, k, none⟩ (.int .u8 x)) B (.slice a n c) zs ∧ Kp (fun y => (Value.slice a n c).ownBlock = some y) w (w.setCell ⟨g, k, none⟩ (.int .u8 x)) := by
  rcases h with ⟨e, _⟩ | ⟨g, cap, rest, e, h1, h2, h3, h4⟩
  · injection e with _ e2 _; omega
  · injection e with e1 e2 e3
    subst e1 e3
    refine ⟨g, rfl, h1, ?_, free_blk h2 _, fun x => ⟨ys.set k x, by rw [List.length_set]; exact hl, ?_, ?_⟩⟩
    · rw [cell_blk h2, List.getElem?_toArray, List.getElem?_append_left (by rw [U8s_length]; omega)]
      simp [U8s, show k < ys.length by omega]
    · refine .inr ⟨g, c, rest, by rw [List.length_set, ← e2], h1, ?_, by rw [List.length_append, U8s_length, List.length_set, ← U8s_length ys, ← List.length_append]; exact h3, h4⟩
      rw [set_blk h2]
      congr 2
      apply Array.ext'
      simp only [Array.toList_setIfInBounds]
      rw [List.set_append_left _ _ (by rw [U8s_length]; omega)]
      unfold U8s
      rw [List.map_set]
    · exact (Kp.refl (fun y => (Value.slice (some ⟨g, 0, none⟩) n c).ownBlock = some y) w).setCell (p := ⟨g, k, none⟩) (fun _ => rfl) _

set_option maxRecDepth 100000 in
set_option maxHeartbeats 8000000 in
theorem reads_law {v : Value} {b : List Int} {w : World} (hb : Sees w v b) (hr : Rng b) :
    Calls Try.prog 4 #[v] w fun e w' => e = .returned (.bool true) ∧ Kp (fun _ => False) w w' := by
  have HB := Lib.hid (fun w => begun_any w)
  have HS := Lib.hid (fun w' (k : Kp (fun _ => False) w w') => hb.kept k (fun _ _ _ f => f))
  have HLT := Lib.hid (fun (h : b ≠ []) => hb.lt h)
  have HR := Lib.hid hr
  have HWF := Lib.hid (prs_wfR hr)
  obtain ⟨M, hM⟩ : ∃ M, M = (prs b).1 := ⟨_, rfl⟩
  obtain ⟨q, hq⟩ : ∃ q, q = (prs b).2 := ⟨_, rfl⟩
  have HIN := Lib.hid (fun (w1 w2 : World) (e : Ending) (h : MsIn w1 b e w2) => (show ∃ vi vb, e = .returned (.tuple #[msV M.k M.r vi vb, .int .i64 q]) ∧ SeesM (fun g => w1.heap.size ≤ g) w2 vi vb M ∧ Kp (fun _ => False) w1 w2 by rw [hM, hq]; exact h))
  rw [← hM] at HWF
  have HB0 := Lib.hid hb
  obtain ⟨ab, cb, rfl⟩ := sees_form hb
  have hl0 : (0 : Int) ≤ b.length := by omega
  have eqq : (q == q) = true := by simp
  clear hb hr hM hq
  by_cases hbig : 10000 < (b.length : Int)
  · go_enter Try.func4, Try.ntmps4
    go_wp2_with fail
    refine (HB.out w).mono ?_
    rintro e w2 ⟨rfl, k2⟩
    have K2 := Lib.hid k2
    clear k2
    go_wp2_with fail
    refine (HB.out w2).mono ?_
    rintro e w3 ⟨rfl, k3⟩
    have K3 := Lib.hid (K2.out.trans k3 (fun _ _ f => f))
    clear k3
    go_wp2_with fail
    go_ret
    exact ⟨rfl, K3.out⟩
  go_enter Try.func4, Try.ntmps4
  go_wp2_with fail
  refine (HB.out w).mono ?_
  rintro e w1 ⟨rfl, k1⟩
  have HCL := Lib.hid (bclone_any (HS.out _ k1) (by omega))
  have K1 := Lib.hid k1
  clear k1
  go_wp2_with fail
  refine HCL.out.mono ?_
  rintro e w2 ⟨v2, rfl, o2, k2⟩
  have HP := Lib.hid (mparse_any HR.out (by omega) o2.sees)
  obtain ⟨a2, c2, rfl⟩ := sees_form o2.sees
  have O2 := Lib.hid o2
  have HOL := Lib.hid o2.lt
  have K2 := Lib.hid (K1.out.trans k2 (fun _ _ f => f))
  have HW1 := Lib.hid k2.size
  clear k2 o2
  go_wp2_with fail
  refine HP.out.mono ?_
  rintro e w3 hin
  obtain ⟨vi, vb, rfl, hsm, k3⟩ := HIN.out _ _ _ hin
  obtain ⟨a6, c6, rfl, _⟩ := hsm.i.form
  obtain ⟨a7, c7, rfl, _⟩ := hsm.b.form
  obtain ⟨w4, hw4⟩ : ∃ w4, w4 = w3.alloc (.cells #[.int .i64 M.k, .int .i64 M.r, .slice a6 M.ids.length c6, .slice a7 M.bl.length c7] 25) := ⟨_, rfl⟩
  have ka : Kp (fun _ => False) w3 w4 := by rw [hw4]; exact (Kp.refl _ _).alloc _
  have HMT := Lib.hid (show MsAt w4 w3.heap.size M.k M.r (.slice a6 M.ids.length c6) (.slice a7 M.bl.length c7) by rw [hw4]; exact MsAt.new w3 _ _ _ _)
  have HSM := Lib.hid (hsm.old ka)
  have K24 := Lib.hid (k3.trans ka (fun _ _ f => f))
  have K4 := Lib.hid (K2.out.trans K24.out (fun _ _ f => f))
  have HW4 := Lib.hid hw4
  have H23 := Lib.hid k3.size
  have O4 := Lib.hid (O2.out.kept K24.out (fun _ _ f => f))
  clear hsm k3 ka hw4 hin
  unfold msV
  go_wp2_with fail
  rw [show w3.alloc (.cells #[.int .i64 M.k, .int .i64 M.r, .slice a6 M.ids.length c6, .slice a7 M.bl.length c7] 25) = w4 from HW4.out.symm]
  go_loopw [26] (fun i wr => ∃ (k : Nat) (ys : List Int), k ≤ b.length ∧ i = .int .i64 k ∧ ys.length = b.length ∧ Hid (OwnB wr w1.heap.size (.slice a2 b.length c2) ys) ∧ Hid (Kp (fun y => (Value.slice a2 b.length c2).ownBlock = some y) w4 wr)) (fun i _ => b.length - (intOf i).toNat)
  case atStart => exact ⟨0, b, by omega, rfl, rfl, O4, Lib.hid (Kp.refl _ _)⟩
  case round =>
    obtain ⟨k, ys, hk, rfl, hyl, hown, hkp⟩ := hrel
    by_cases hlt : k < b.length
    · obtain ⟨g, rfl, _, hc, hf, hx⟩ := own_turn hown.out hyl k hlt
      have HXX := Lib.hid hx
      have HKP := Lib.hid hkp.out
      clear hown hkp hx
      go_wp2_with fail
      go_roundw
      case rel =>
        obtain ⟨zs, z1, z2, z3⟩ := HXX.out _
        exact ⟨k + 1, zs, by omega, by go_num, z1, Lib.hid z2, Lib.hid (HKP.out.trans z3 (fun _ _ h => h))⟩
      case measure => simp [intOf]; omega
    · obtain rfl : k = b.length := by omega
      have hF : ∀ y, (Value.slice a2 b.length c2).ownBlock = some y → w1.heap.size ≤ y ∧ y < w2.heap.size := fun y hy => HOL.out y hy
      have hww1 := K1.out.size
      have KR := Lib.hid (show Kp (fun _ => False) w wr from K4.out.trans hkp.out (fun x hx h => by have := (hF x h).1; omega))
      have HMR := Lib.hid (HMT.out.kept hkp.out (fun h => by have := (hF _ h).2; have := H23.out; omega))
      have HSR := Lib.hid (HSM.out.kept hkp.out (fun g hg h => by have := (hF _ h).2; omega))
      have HP2 := Lib.hid (rmparse_any HR.out (by omega) (HS.out wr KR.out))
      obtain ⟨w5, hw5⟩ : ∃ w5, w5 = wr := ⟨_, rfl⟩
      rw [← hw5] at KR HMR HSR HP2 ⊢
      clear hown hkp hF hw5 hww1
      go_wp2_with fail
      refine HP2.out.mono ?_
      rintro e w6 hin
      obtain ⟨vi, vb, rfl, hsm, k6⟩ := HIN.out _ _ _ hin
      obtain ⟨a8, c8, rfl, _⟩ := hsm.i.form
      obtain ⟨a9, c9, rfl, _⟩ := hsm.b.form
      have ka : Kp (fun _ => False) w6 (w6.alloc (.cells #[.int .i64 M.k, .int .i64 M.r, .slice a8 M.ids.length c8, .slice a9 M.bl.length c9] 25)) := (Kp.refl _ _).alloc _
      have k57 := k6.trans ka (fun _ _ f => f)
      have hsame := rmsame_any (HSR.out.old k57) (hsm.old ka) HWF.out HWF.out
      rw [(sameM_iff M M).2 rfl] at hsame
      unfold msV at hsame
      have HSA := Lib.hid hsame
      have K7 := Lib.hid (KR.out.trans k57 (fun _ _ f => f))
      obtain ⟨i0, i1, i2, i3, _⟩ := (MsAt.new w6 M.k M.r (.slice a8 M.ids.length c8) (.slice a9 M.bl.length c9)).cells
      obtain ⟨j0, j1, j2, j3, _⟩ := (HMR.out.old k57).cells
      clear hsm k6 ka k57 hsame hin
      unfold msV
      go_wp2_with fail
      refine HSA.out.mono ?_
      rintro e w8 ⟨rfl, k8⟩
      have K8 := Lib.hid (K7.out.trans k8 (fun _ _ f => f))
      clear k8
      go_wp2_with fail
      go_ret
      exact ⟨rfl, K8.out⟩
end Go.Proofs.Ytleapcbkkggecaa
