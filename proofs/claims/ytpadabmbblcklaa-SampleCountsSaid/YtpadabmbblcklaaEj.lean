/-
  take; Units.
-/
import Derived.Test.YtpadabmbblcklaaEi
namespace Go.Proofs.Ytpadabmbblcklaa
open Go.RowKit

set_option maxRecDepth 100000 in
set_option maxHeartbeats 4000000 in
theorem take_any {v : Value} {l : List Int} {B : Nat} {w : World} (ho : OwnG 2 1 w B v l.length (encZ .i64 l)) (hB : B ≤ w.heap.size) (hl : l.length ≤ 100) (n : Int) (h0 : 0 ≤ n) (hn : n ≤ 4611686018427387903) :
    Calls Try.prog 29 #[v, .int .i64 n] w fun e w' => ∃ v', e = .returned (.tuple #[.int .i64 (pick l n), v']) ∧ OwnG 2 1 w' B v' (l.length + 1) (encZ .i64 (ins l n)) ∧
      Kp (fun k => v.ownBlock = some k) w w' ∧ (v'.ownBlock = v.ownBlock ∨ ∀ g, v'.ownBlock = some g → w.heap.size ≤ g) := by
  have hs := ho.seesZ
  obtain ⟨a, c, rfl, hlc, hmax, hnil⟩ := hs.form
  have HS := Lib.hid hs
  have HI := Lib.hid (fun (k : Nat) (x : Int) (hk : k ≤ l.length) => insert_any (w := w.alloc (.cells #[.int .i64 x] 2)) (ho.kept ((Kp.refl _ w).alloc _) (fun g _ f => f)) (by rw [World.size_alloc]; omega) (by omega) k hk x w.heap.size (new_blk _ _) (fun g hg => by have := (ho.lt g hg).2; omega))
  have HSZ := Lib.hid (show ∀ o : Obj, w.heap.size ≤ (w.alloc o).heap.size from fun o => by rw [World.size_alloc]; omega)
  have HK := Lib.hid (show ∀ (F : Nat → Prop) (o : Obj), Kp F w (w.alloc o) from fun F o => (Kp.refl _ w).alloc o)
  obtain ⟨p, hp⟩ : ∃ p, p = pick l n := ⟨_, rfl⟩
  obtain ⟨I, hI⟩ : ∃ I, I = ins l n := ⟨_, rfl⟩
  rw [← hp, ← hI]
  have HPP := Lib.hid hp
  have HII := Lib.hid hI
  clear ho hB hs hp hI
  go_enter Try.func29, Try.ntmps29
  go_wp2
  go_loopw [6, 7] (fun uv iv wr => ∃ (k : Nat), k ≤ l.length ∧ iv = .int .i64 k ∧ uv = .int .i64 (n + k) ∧ wr = w ∧ Hid (∀ j y, j < k → l[j]? = some y → y ≤ n + j)) (fun _ iv _ => l.length - (intOf iv).toNat)
  case atStart => exact ⟨0, by omega, rfl, by simp, rfl, Lib.hid (fun j y h => by omega)⟩
  case round =>
    obtain ⟨k, hk, rfl, rfl, rfl, hq⟩ := hrel
    by_cases hgo : ∃ y, l[k]? = some y ∧ y ≤ n + k
    · obtain ⟨y, hy, hyn⟩ := hgo
      obtain ⟨g, off, rfl, hc⟩ := HS.out.at hy
      have hlt : k < l.length := (List.getElem?_eq_some_iff.1 hy).1
      have HQ := Lib.hid (show ∀ (j : Nat) (z : Int), j < k + 1 → l[j]? = some z → z ≤ n + j from fun j z hj hz => by
        rcases Nat.lt_or_ge j k with h | h
        · exact hq.out j z h hz
        · obtain rfl : j = k := by omega
          rw [hy] at hz; cases hz; exact hyn)
      clear hy
      go_wp2
      go_roundw
      case rel => exact ⟨k + 1, by omega, by go_num, by go_num, by first | rfl | trivial, HQ⟩
      case measure => simp [intOf]; omega
    · have hpl : place l n = k := place_of (fun j y hj hy => hq.out j y hj hy) hk (fun y hy => by
        rcases Int.lt_or_le (n + k) y with h | h
        · exact h
        · exact absurd ⟨y, hy, h⟩ hgo)
      have hpk : pick l n = n + k := by rw [pick_place, hpl]
      have HI2 := HI.out k (n + k) hk
      have hins : l.take k ++ (n + k) :: l.drop k = I := by rw [HII.out]; unfold ins; rw [hpl, hpk]
      rw [hins] at HI2
      have HII := Lib.hid HI2
      have HP := Lib.hid (show p = n + k by rw [HPP.out, hpk])
      clear HI2 hins hpl hpk
      have hend : k = l.length ∨ ∃ y, l[k]? = some y ∧ n + k < y := by
        rcases Nat.lt_or_ge k l.length with h | h
        · refine .inr ⟨l[k], List.getElem?_eq_getElem h, ?_⟩
          rcases Int.lt_or_le (n + k) l[k] with h' | h'
          · exact h'
          · exact absurd ⟨l[k], List.getElem?_eq_getElem h, h'⟩ hgo
        · exact .inl (by omega)
      clear hgo
      rcases hend with rfl | ⟨y, hy, hny⟩
      · go_wp2_with (go_at_call 39; refine HII.out.mono ?_; rintro e w3 ⟨v', rfl, o3, k3, b3⟩; have O3 := Lib.hid o3; have K3 := Lib.hid k3; have B3 := Lib.hid b3; clear o3 k3 b3)
        go_ret2
        exact ⟨_, by rw [HP.out]; rfl, O3.out, (HK.out _ _).trans K3.out (fun _ _ f => f), B3.out.imp id (fun h g hg => Nat.le_trans (HSZ.out _) (h g hg))⟩
      · obtain ⟨g, off, rfl, hc⟩ := HS.out.at hy
        have hlt : k < l.length := (List.getElem?_eq_some_iff.1 hy).1
        clear hy
        go_wp2_with (go_at_call 39; refine HII.out.mono ?_; rintro e w3 ⟨v', rfl, o3, k3, b3⟩; have O3 := Lib.hid o3; have K3 := Lib.hid k3; have B3 := Lib.hid b3; clear o3 k3 b3)
        go_ret2
        exact ⟨_, by rw [HP.out]; rfl, O3.out, (HK.out _ _).trans K3.out (fun _ _ f => f), B3.out.imp id (fun h g hg => Nat.le_trans (HSZ.out _) (h g hg))⟩

theorem getD_rng {ds : List Int} {lo hi : Int} (h : ZOk lo hi ds) (h0 : lo ≤ 0) (h1 : 0 ≤ hi) (j : Nat) : lo ≤ ds[j]?.getD 0 ∧ ds[j]?.getD 0 ≤ hi := by
  cases hx : ds[j]? with
  | none => exact ⟨h0, h1⟩
  | some x => exact h x (List.mem_of_getElem? hx)

set_option maxRecDepth 100000 in
set_option maxHeartbeats 8000000 in
theorem units_any {vd : Value} {ds : List Int} {w : World} (hs : SeesZ .u64 w vd ds) (hz : ZOk 0 18446744073709551615 ds) (t k : Int) :
    Calls Try.prog 10 #[.int .i64 t, .int .i64 k, vd] w fun e w' => ∃ v', e = .returned (.tuple #[v', .int .i64 (unitsU t k ds).2]) ∧ SeesZ .i64 w' v' (unitsU t k ds).1 ∧
      (∀ g, v'.ownBlock = some g → w.heap.size ≤ g) ∧ Kp (fun _ => False) w w' := by
  obtain ⟨u, ue, hU⟩ : ∃ u ue, unitsU t k ds = (u, ue) := ⟨_, _, rfl⟩
  rw [hU]
  have HD := Lib.hid (fun w' (kp : Kp (fun _ => False) w w') => drawAt_any (hs.kept kp))
  have HR := Lib.hid (fun j => getD_rng hz (by omega) (by omega) j)
  obtain ⟨ad, cd, rfl, _⟩ := hs.form
  clear hs hz
  have hbad : (t < 0 ∨ 4611686018427387903 < t ∨ k < 0 ∨ 64 < k) → u = [] ∧ ue = 1 := fun h => by
    unfold unitsU at hU; rw [if_pos h] at hU; cases hU; exact ⟨rfl, rfl⟩
  have HS0 := Lib.hid (show SeesZ .i64 w (.slice none 0 0) ([] : List Int) ∧ (∀ g, (Value.slice none 0 0).ownBlock = some g → w.heap.size ≤ g) ∧ Kp (fun _ => False) w w from ⟨SeesZ.nil _ _, (fun g h => by cases h), Kp.refl _ _⟩)
  by_cases h1 : t < 0
  · obtain ⟨rfl, rfl⟩ := hbad (.inl h1)
    clear hU hbad
    go_enter Try.func10, Try.ntmps10
    go_wp2
    go_ret2
    exact ⟨_, rfl, HS0.out⟩
  by_cases h2 : 4611686018427387903 < t
  · obtain ⟨rfl, rfl⟩ := hbad (.inr (.inl h2))
    clear hU hbad
    go_enter Try.func10, Try.ntmps10
    go_wp2
    go_ret2
    exact ⟨_, rfl, HS0.out⟩
  by_cases h3 : k < 0
  · obtain ⟨rfl, rfl⟩ := hbad (.inr (.inr (.inl h3)))
    clear hU hbad
    go_enter Try.func10, Try.ntmps10
    go_wp2
    go_ret2
    exact ⟨_, rfl, HS0.out⟩
  by_cases h4 : 64 < k
  · obtain ⟨rfl, rfl⟩ := hbad (.inr (.inr (.inr h4)))
    clear hU hbad
    go_enter Try.func10, Try.ntmps10
    go_wp2
    go_ret2
    exact ⟨_, rfl, HS0.out⟩
  by_cases h5 : t < k
  · obtain ⟨rfl, rfl⟩ : u = [] ∧ ue = 60 := by unfold unitsU at hU; rw [if_neg (by omega), if_pos h5] at hU; cases hU; exact ⟨rfl, rfl⟩
    clear hU hbad
    go_enter Try.func10, Try.ntmps10
    go_wp2
    go_ret2
    exact ⟨_, rfl, HS0.out⟩
  obtain ⟨hu, rfl⟩ : u = unitsL t (numA t ds) k.toNat ∧ ue = 0 := by unfold unitsU at hU; rw [if_neg (by omega), if_neg h5] at hU; cases hU; exact ⟨rfl, rfl⟩
  clear hU hbad HS0
  obtain ⟨n, rfl⟩ : ∃ n : Nat, k = n := ⟨k.toNat, by omega⟩
  rw [Int.toNat_natCast] at hu
  have HU := Lib.hid hu
  have HN := Lib.hid (numA_ok (t := t) (ds := ds) (k := n) (by omega))
  have HDR := Lib.hid (drawn_ok HN.out)
  obtain ⟨f, hf⟩ : ∃ f, f = numA t ds := ⟨_, rfl⟩
  have HF := Lib.hid (show ∀ j, f j = (ds[j]?.getD 0) % (t - j) from fun j => by rw [hf]; rfl)
  rw [← hf] at HU HN HDR
  clear hu hf
  have hmk := mkI64 n (by omega) w
  have hn64 : n ≤ 64 := by omega
  go_enter Try.func10, Try.ntmps10
  go_wp2
  go_loopw [9, 34] (fun dv jv wr => ∃ (j : Nat), j ≤ n ∧ jv = .int .i64 j ∧ Hid (OwnG 2 1 wr (w.heap.size + 1) dv j (encZ .i64 (riseL t f j))) ∧ Hid (Kp (fun _ => False) w wr) ∧
    Hid (wr.heap[w.heap.size]? = some (.cells (zrow .i64 n (unitsL t f j)).toArray 2 (0, 0)))) (fun _ jv _ => n - (intOf jv).toNat)
  case atStart => exact ⟨0, by omega, rfl, Lib.hid (OwnG.nil _ _ _ _), Lib.hid ((Kp.refl _ w).alloc _), Lib.hid (new_blk _ _)⟩
  case round =>
    obtain ⟨j, hj, rfl, hown, hkp, hblk⟩ := hrel
    by_cases hlt : j < n
    · have hdo := HDR.out j hj
      have hnu := HN.out j hlt
      have hb1 := hnu.1
      have hb2 := hnu.2
      have hnth := hdo.nth.range (t := t) (by rw [hdo.len]; exact hb2)
      obtain ⟨a, c, rfl⟩ := hown.out.form
      have HTK := Lib.hid (fun w' (k' : Kp (fun _ => False) wr w') => take_any (l := riseL t f j) (n := f j) (by rw [hdo.rlen]; exact hown.out.kept k' (fun _ _ f => f)) (by
        have := lt_of_blk hblk.out; have := k'.size; omega) (by rw [hdo.rlen]; omega) hb1 (by omega))
      obtain ⟨dd, hdd⟩ : ∃ dd, dd = ds[j]?.getD 0 := ⟨_, rfl⟩
      have hDA := HD.out wr hkp.out j
      rw [← hdd] at hDA
      have hrg := HR.out j
      rw [← hdd] at hrg
      have hfj := HF.out j
      rw [← hdd] at hfj
      obtain ⟨fj, hfj2⟩ : ∃ fj, fj = f j := ⟨_, rfl⟩
      rw [← hfj2] at hfj hb1 hb2 HTK hnth
      have hrm : dd.tmod (t - j) = fj := by rw [Int.tmod_eq_emod_of_nonneg hrg.1, hfj]
      have hnz : ¬ (t - j = 0) := by omega
      have HDA := Lib.hid hDA
      obtain ⟨hr0, hr1⟩ := hrg
      obtain ⟨pj, hpj⟩ : ∃ pj, pj = pick (riseL t f j) fj := ⟨_, rfl⟩
      rw [← hpj] at HTK
      have HUS := Lib.hid (show unitsL t f (j + 1) = unitsL t f j ++ [pj] by rw [unitsL_succ, hpj, hfj2])
      have HRS := Lib.hid (show ins (riseL t f j) fj = riseL t f (j + 1) by rw [riseL_succ, hfj2])
      have HUL := Lib.hid hdo.len
      have HRL := Lib.hid hdo.rlen
      have HSZ := Lib.hid (show w.heap.size < wr.heap.size from lt_of_blk hblk.out)
      have HOL := Lib.hid (fun g hg => hown.out.lt g hg)
      have HBK := Lib.hid hblk.out
      have HKP := Lib.hid hkp.out
      clear hdd hfj hnu hdo hnth hDA hfj2 hpj hown hblk hkp
      go_wp2_with fail
      refine HDA.out.mono ?_
      rintro e w3 ⟨rfl, k3⟩
      have K3 := Lib.hid k3
      clear k3
      go_wp2_with fail
      refine (HTK.out _ K3.out).mono ?_
      rintro e w4 ⟨v', rfl, o4, k4, b4⟩
      have hb4 : w4.heap[w.heap.size]? = some (.cells (zrow .i64 n (unitsL t f j)).toArray 2 (0, 0)) := kept_blk (kept_blk HBK.out K3.out (fun f => f)) k4 (fun h => by have := (HOL.out _ h).1; omega)
      have hc4 : w4.cell? ⟨w.heap.size, j, none⟩ = some (.int .i64 0) := by
        rw [cell_blk hb4, List.getElem?_toArray]
        unfold zrow
        rw [List.getElem?_append_right (by rw [encZ_length, HUL.out]; omega), encZ_length, HUL.out, Nat.sub_self, List.getElem?_replicate, if_pos (by omega)]
      have hf4 : w4.frozen? ⟨w.heap.size, j, none⟩ = false := free_blk hb4 j
      have hs5 := set_blk hb4 j (.int .i64 pj)
      have hzp := zrow_put (k := .i64) (n := n) (l := unitsL t f j) pj (by rw [HUL.out]; exact hlt)
      rw [HUL.out] at hzp
      rw [hzp, ← HUS.out] at hs5
      have HB5 := Lib.hid hs5
      rw [HRS.out, HRL.out] at o4
      have HO5 := Lib.hid (o4.kept (show Kp (fun g => g = w.heap.size) w4 (w4.setCell ⟨w.heap.size, j, none⟩ (.int .i64 pj)) from (Kp.refl (fun g => g = w.heap.size) w4).setCell (p := ⟨w.heap.size, j, none⟩) (fun _ => rfl) _) (fun g hg e => by have := (o4.lt g hg).1; omega))
      have HK5 := Lib.hid (show Kp (fun _ => False) w (w4.setCell ⟨w.heap.size, j, none⟩ (.int .i64 pj)) from
        ((HKP.out.trans K3.out (fun _ _ f => f)).trans k4 (fun x hx h => by have := (HOL.out _ h).1; omega)).setCell (fun h => by simp only at h; omega) _)
      clear o4 k4 b4 hb4 hs5 hzp
      go_wp2
      go_roundw
      case rel => exact ⟨j + 1, by omega, by go_num, HO5, HK5, HB5⟩
      case measure => simp [intOf]; omega
    · obtain rfl : j = n := by omega
      have hdo := HDR.out j (Nat.le_refl _)
      have hb := hblk.out
      rw [zrow_full hdo.len] at hb
      have hse := seesZ_blk (cap := j) hb (by rw [hdo.len]; omega) (by unfold maxLen; omega)
      rw [hdo.len, ← HU.out] at hse
      have HSE := Lib.hid hse
      have HKP := Lib.hid hkp.out
      clear hdo hb hse hblk hkp hown
      go_wp2
      go_ret2
      exact ⟨_, rfl, HSE.out, fun g hg => by cases hg; exact Nat.le_refl _, HKP.out⟩
end Go.Proofs.Ytpadabmbblcklaa
