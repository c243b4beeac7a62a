/-
  The document's Units.
-/
import Derived.Test.YtpadabmbblcklaaEl
namespace Go.Proofs.Ytpadabmbblcklaa
open Go.RowKit

set_option maxRecDepth 100000 in
set_option maxHeartbeats 8000000 in
theorem runits_any {vd : Value} {ds : List Int} {w : World} (hs : SeesZ .u64 w vd ds) (hz : ZOk 0 18446744073709551615 ds) (t k : Int) :
    Calls Try.prog 11 #[.int .i64 t, .int .i64 k, vd] w fun e w' => ∃ v', e = .returned (.tuple #[v', .int .i64 (unitsU t k ds).2]) ∧ SeesZ .i64 w' v' (unitsU t k ds).1 ∧
      (∀ g, v'.ownBlock = some g → w.heap.size ≤ g) ∧ Kp (fun _ => False) w w' := by
  obtain ⟨u, ue, hU⟩ : ∃ u ue, unitsU t k ds = (u, ue) := ⟨_, _, rfl⟩
  rw [hU]
  have HS := Lib.hid hs
  have HR := Lib.hid (fun j => getD_rng hz (by omega) (by omega) j)
  obtain ⟨ad, cd, rfl, hlcd, hmaxd, _⟩ := hs.form
  clear hs hz
  have hbad : (t < 0 ∨ 4611686018427387903 < t ∨ k < 0 ∨ 64 < k) → u = [] ∧ ue = 1 := fun h => by
    unfold unitsU at hU; rw [if_pos h] at hU; cases hU; exact ⟨rfl, rfl⟩
  have HS0 := Lib.hid (show SeesZ .i64 w (.slice none 0 0) ([] : List Int) ∧ (∀ g, (Value.slice none 0 0).ownBlock = some g → w.heap.size ≤ g) ∧ Kp (fun _ => False) w w from ⟨SeesZ.nil _ _, (fun g h => by cases h), Kp.refl _ _⟩)
  by_cases h1 : t < 0
  · obtain ⟨rfl, rfl⟩ := hbad (.inl h1)
    clear hU hbad
    go_enter Try.func11, Try.ntmps11
    go_wp2
    go_ret2
    exact ⟨_, rfl, HS0.out⟩
  by_cases h2 : 4611686018427387903 < t
  · obtain ⟨rfl, rfl⟩ := hbad (.inr (.inl h2))
    clear hU hbad
    go_enter Try.func11, Try.ntmps11
    go_wp2
    go_ret2
    exact ⟨_, rfl, HS0.out⟩
  by_cases h3 : k < 0
  · obtain ⟨rfl, rfl⟩ := hbad (.inr (.inr (.inl h3)))
    clear hU hbad
    go_enter Try.func11, Try.ntmps11
    go_wp2
    go_ret2
    exact ⟨_, rfl, HS0.out⟩
  by_cases h4 : 64 < k
  · obtain ⟨rfl, rfl⟩ := hbad (.inr (.inr (.inr h4)))
    clear hU hbad
    go_enter Try.func11, Try.ntmps11
    go_wp2
    go_ret2
    exact ⟨_, rfl, HS0.out⟩
  by_cases h5 : t < k
  · obtain ⟨rfl, rfl⟩ := (show u = [] ∧ ue = 60 by unfold unitsU at hU; rw [if_neg (by omega), if_pos h5] at hU; cases hU; exact ⟨rfl, rfl⟩)
    clear hU hbad
    go_enter Try.func11, Try.ntmps11
    go_wp2
    go_ret2
    exact ⟨_, rfl, HS0.out⟩
  obtain ⟨hu, rfl⟩ : u = unitsL t (numA t ds) k.toNat ∧ ue = 0 := by unfold unitsU at hU; rw [if_neg (by omega), if_neg h5] at hU; cases hU; exact ⟨rfl, rfl⟩
  clear hU hbad HS0
  obtain ⟨n, rfl⟩ : ∃ n : Nat, k = n := ⟨k.toNat, by omega⟩
  rw [Int.toNat_natCast] at hu
  have HU := Lib.hid hu
  have HN := Lib.hid (numA_ok (t := t) (ds := ds) (k := n) (by omega))
  have HDR := Lib.hid (drawn_ok HN.out)
  obtain ⟨f, hf⟩ : ∃ f, f = numA t ds := ⟨_, rfl⟩
  have HF := Lib.hid (show ∀ j, f j = (ds[j]?.getD 0) % (t - j) from fun j => by rw [hf]; rfl)
  rw [← hf] at HU HN HDR
  clear hu hf
  have hn64 : n ≤ 64 := by omega
  go_enter Try.func11, Try.ntmps11
  go_wp2
  go_loopw [8, 9] (fun ov jv wr => ∃ (j : Nat), j ≤ n ∧ jv = .int .i64 j ∧ Hid (OwnG 2 1 wr w.heap.size ov j (encZ .i64 (unitsL t f j))) ∧ Hid (Kp (fun _ => False) w wr)) (fun _ jv _ => n - (intOf jv).toNat)
  case atStart => exact ⟨0, by omega, rfl, Lib.hid (OwnG.nil _ _ _ _), Lib.hid (Kp.refl _ w)⟩
  case round =>
    obtain ⟨j, hj, rfl, hown, hkp⟩ := hrel
    have hdo := HDR.out j hj
    by_cases hlt : j < n
    · have hnu := HN.out j hlt
      have hb1 := hnu.1
      have hb2 := hnu.2
      have hnth := hdo.nth
      have HUS := Lib.hid (unitsL_succ t f j)
      have hfj := HF.out j
      have hrg := HR.out j
      obtain ⟨fj, hfj2⟩ : ∃ fj, fj = f j := ⟨_, rfl⟩
      obtain ⟨pj, hpj⟩ : ∃ pj, pj = pick (riseL t f j) (f j) := ⟨_, rfl⟩
      rw [← hpj] at hnth HUS
      rw [← hfj2] at hfj hb1 hb2 hnth
      obtain ⟨a, c, rfl⟩ := hown.out.form
      have HLF := Lib.hid (left_any (w := wr) (v := .slice a j c) (l := unitsL t f j) (show OwnG 2 1 wr w.heap.size (.slice a j c) (unitsL t f j).length (encZ .i64 (unitsL t f j)) by rw [hdo.len]; exact hown.out).seesZ hdo.nodup fj pj hb1 (by rw [hdo.len]; omega) (by omega) hnth)
      have HOW := Lib.hid hown.out
      have HKP := Lib.hid hkp.out
      have HSZ := Lib.hid (show w.heap.size ≤ wr.heap.size from hkp.out.size)
      have hnz : ¬ (t - j = 0) := by omega
      by_cases hlt2 : j < ds.length
      · obtain ⟨dd, hdx⟩ : ∃ dd, ds[j]? = some dd := ⟨ds[j], by simp⟩
        obtain ⟨g, off, rfl, hcd⟩ := (HS.out.kept HKP.out).at hdx
        rw [hdx, Option.getD_some] at hfj hrg
        have hrm : dd.tmod (t - j) = fj := by rw [Int.tmod_eq_emod_of_nonneg hrg.1, hfj]
        obtain ⟨hr0, hr1⟩ := hrg
        clear hdx hfj hfj2 hpj hnth hnu hdo hown hkp
        go_wp2_with fail
        refine HLF.out.mono ?_
        rintro e w3 ⟨rfl, k3⟩
        have k4 : Kp (fun _ => False) wr (w3.alloc (.cells #[.int .i64 pj] 2)) := k3.alloc _
        obtain ⟨v', w5, hap, o5, k5, b5⟩ := app_own Try.underlying24 infoI64 rfl (by have := HSZ.out; have := k4.size; omega) (HOW.out.kept k4 (fun _ _ f => f)) (src_one (new_blk w3 (.cells #[.int .i64 pj] 2))) (Nat.le_refl _) (by omega) (by omega)
        have HO5 := Lib.hid (show OwnG 2 1 w5 w.heap.size v' (j + 1) (encZ .i64 (unitsL t f (j + 1))) by rw [HUS.out, encZ_append]; exact o5)
        have HK5 := Lib.hid (show Kp (fun _ => False) w w5 from (HKP.out.trans k4 (fun _ _ f => f)).trans k5 (fun x hx h => by have := (HOW.out.lt x h).1; omega))
        clear k3 k4 o5 k5 b5
        go_wp2_with (at_builtin; refine Lib.wpList_append_run _ rfl _ _ _ _ rfl _ _ rfl rfl _ _ (hap _) ?_)
        go_roundw
        case rel => exact ⟨j + 1, by omega, by go_num, HO5, HK5⟩
        case measure => simp [intOf]; omega
      · rw [List.getElem?_eq_none (by omega), Option.getD_none] at hfj
        obtain rfl : fj = 0 := by rw [hfj]; simp
        clear hfj hfj2 hpj hnth hnu hdo hown hkp hrg
        go_wp2_with fail
        refine HLF.out.mono ?_
        rintro e w3 ⟨rfl, k3⟩
        have k4 : Kp (fun _ => False) wr (w3.alloc (.cells #[.int .i64 pj] 2)) := k3.alloc _
        obtain ⟨v', w5, hap, o5, k5, b5⟩ := app_own Try.underlying24 infoI64 rfl (by have := HSZ.out; have := k4.size; omega) (HOW.out.kept k4 (fun _ _ f => f)) (src_one (new_blk w3 (.cells #[.int .i64 pj] 2))) (Nat.le_refl _) (by omega) (by omega)
        have HO5 := Lib.hid (show OwnG 2 1 w5 w.heap.size v' (j + 1) (encZ .i64 (unitsL t f (j + 1))) by rw [HUS.out, encZ_append]; exact o5)
        have HK5 := Lib.hid (show Kp (fun _ => False) w w5 from (HKP.out.trans k4 (fun _ _ f => f)).trans k5 (fun x hx h => by have := (HOW.out.lt x h).1; omega))
        clear k3 k4 o5 k5 b5
        go_wp2_with (at_builtin; refine Lib.wpList_append_run _ rfl _ _ _ _ rfl _ _ rfl rfl _ _ (hap _) ?_)
        go_roundw
        case rel => exact ⟨j + 1, by omega, by go_num, HO5, HK5⟩
        case measure => simp [intOf]; omega
    · obtain rfl : j = n := by omega
      obtain ⟨a, c, rfl⟩ := hown.out.form
      have HSE := Lib.hid (show SeesZ .i64 wr (.slice a j c) u ∧ (∀ g, (Value.slice a j c).ownBlock = some g → w.heap.size ≤ g) ∧ Kp (fun _ => False) w wr from
        ⟨by rw [HU.out]; exact (show OwnG 2 1 wr w.heap.size (.slice a j c) (unitsL t f j).length (encZ .i64 (unitsL t f j)) by rw [hdo.len]; exact hown.out).seesZ, fun g hg => (hown.out.lt g hg).1, hkp.out⟩)
      clear hdo hown hkp
      go_wp2
      go_ret2
      exact ⟨_, rfl, HSE.out⟩
end Go.Proofs.Ytpadabmbblcklaa
