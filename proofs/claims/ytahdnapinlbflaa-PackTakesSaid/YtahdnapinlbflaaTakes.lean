/-
  PackTakes: its walk.
-/
import Derived.Test.YtahdnapinlbflaaTk
import Derived.Test.YtahdnapinlbflaaParts
namespace Go.Proofs.Ytahdnapinlbflaa
open Go.ChangeShapes Go.WideShapes Go.ChangeAt Go.RowKit

theorem itL_rng {l : List Int} (h : Rng l) (e d n : Int) : Rng (itL l e d n) := by
  unfold itL
  repeat' split
  all_goals first | exact takeL_rng h _ _ | exact cntL_rng h _ _ _ | exact h
theorem itL_len (l : List Int) (e d n : Int) : (itL l e d n).length ≤ l.length := by
  unfold itL
  repeat' split
  all_goals first | exact takeL_len _ _ _ | exact cntL_len _ _ _ _ | exact Nat.le_refl _

def TkRel (W : World) (u t : Nat) (wr : World) : Prop := ∃ vu vt l e, Ut wr W.heap.size u t vu vt l e ∧ Rng l ∧ l.length ≤ 20000 ∧ Kp (fun _ => False) W wr

theorem tk_next {W w0 w5 : World} {u t : Nat} {vu6 vt6 : Value} {l5 l6 : List Int} {e5 e6 d n : Int} (hk : Kp (fun _ => False) W w0) (hpre : W.heap.size ≤ u ∧ W.heap.size ≤ t ∧ Rng (itL l5 e5 d n) ∧ (itL l5 e5 d n).length ≤ 20000) (hl : l6 = itL l5 e5 d n)
    (hut : Ut w5 W.heap.size u t vu6 vt6 l6 e6) (hk5 : Kp (fun k => k = u ∨ k = t) w0 w5) : TkRel W u t w5 := by
  refine ⟨vu6, vt6, l6, e6, hut, by rw [hl]; exact hpre.2.2.1, by rw [hl]; exact hpre.2.2.2, hk.trans hk5 (fun x hx hh => ?_)⟩
  have h1 := hpre.1
  have h2 := hpre.2.1
  rcases hh with hh | hh <;> omega

set_option maxHeartbeats 8000000 in
theorem takes_law {W : World} {bv lv : Value} {xs0 : List Int} {its : List Itm} (hb : Sees W bv xs0) (hr0 : Rng xs0) (h : ItemsAt W lv its) :
    Calls Try.prog 4 #[bv, lv] W fun r w' => r = .returned (.bool true) ∧ Kp (fun _ => False) W w' := by
  obtain ⟨la, lc, rfl, hlc, hlm⟩ := h.form
  have HBV := Lib.hid hb
  obtain ⟨ba, bc, rfl⟩ := sees_form hb
  have HL := Lib.hid (fun w => live_any w)
  have HI := Lib.hid h
  have HR0 := Lib.hid hr0
  have hlc63 : lc ≤ 9223372036854775807 := hlm
  clear h hlm hb hr0
  by_cases hsmall : xs0.length ≤ 20000 ∧ its.length ≤ 200
  · obtain ⟨hx2, hi2⟩ := hsmall
    have hx2' : ¬ (20000 : Int) < (xs0.length : Int) := by omega
    have hi2' : ¬ (200 : Int) < (its.length : Int) := by omega
    go_enter Try.func4, Try.ntmps4
    go_wp2_with fail
    refine (HL.out _).mono ?_
    rintro r w1 ⟨rfl, hk1⟩
    have HC := Lib.hid (bclone_any ((HBV.out).kept hk1 (fun _ _ _ f => f)) (by omega))
    have HK1 := Lib.hid hk1
    clear hk1
    go_wp2_with fail
    refine (HC.out).mono ?_
    rintro r w2 ⟨ov, rfl, how, hk⟩
    have hk2 := (HK1.out).trans hk (fun _ _ f => f)
    have HU := Lib.hid (uRead_any (B := W.heap.size) hk2.size how.sees (by omega))
    have HOW := Lib.hid how
    have HK2 := Lib.hid hk2
    obtain ⟨oa, oc, hov⟩ := sees_form how.sees
    subst hov
    clear how hk hk2
    go_wp2_with fail
    refine (HU.out).mono ?_
    rintro r w3 ⟨u, vu, rfl, huk, hu1, hu2, hk⟩
    have hk3 := (HK2.out).trans hk (fun _ _ f => f)
    have HV := Lib.hid (vRead_any (B := W.heap.size) hk3.size ((HBV.out).kept hk3 (fun _ _ _ f => f)) (by omega))
    have HUK := Lib.hid huk
    have HU1 := Lib.hid (And.intro hu1 hu2)
    have HK3 := Lib.hid hk3
    have HKa := Lib.hid hk
    clear huk hu1 hu2 hk hk3
    go_wp2_with fail
    refine (HV.out).mono ?_
    rintro r w4 ⟨t, vt, rfl, hvk, ht1, ht2, hk⟩
    have hut : Ut w4 W.heap.size u t vu vt xs0 0 := by
      have hu := HUK.out
      have hul := lt_of_blk hu.cell
      exact ⟨hu.kept hk (fun f => f) (fun _ _ _ f => f), hvk, by omega, fun hne g hg => by have := hu.sees.lt hne g hg; omega, fun hne g hg => by have := ht2 hne g hg; omega⟩
    have hk4 := (HK3.out).trans hk (fun _ _ f => f)
    have HUT := Lib.hid hut
    have HK4 := Lib.hid hk4
    have HAW : Hid (∀ w5, Kp (fun x => (Value.slice oa xs0.length oc).ownBlock = some x) w4 w5 → Ut w5 W.heap.size u t vu vt xs0 0 ∧ Kp (fun _ => False) W w5) := Lib.hid (fun w5 hk5 => by
      have hol := (HOW.out).lt
      have h2 : w2.heap.size ≤ w3.heap.size := (HKa.out).size
      have h3 : w3.heap.size ≤ w4.heap.size := hk.size
      refine ⟨⟨hut.uk.kept hk5 (fun hh => ?_) (fun hne g hg hh => ?_), hut.vk.kept hk5 (fun hh => ?_) (fun hne g hg hh => ?_), hut.ne, hut.ut, hut.tu⟩, hk4.trans hk5 (fun x hx hh => ?_)⟩
      · have := (hol _ hh).2; have := (HU1.out).1; omega
      · have := (hol _ hh).2; have := (HU1.out).2 hne g hg; omega
      · have := (hol _ hh).2; omega
      · have := (hol _ hh).2; have := ht2 hne g hg; omega
      · have := (hol _ hh).1; have := (HK1.out).size; omega)
    have hxr : Hid (XorRel w4 (.slice oa xs0.length oc) xs0.length w4) := Lib.hid (by
      have := xor_start ((HOW.out).kept ((HKa.out).trans hk (fun _ _ f => f)) (fun _ _ f => f)) 0
      exact this)
    clear hvk ht1 ht2 hk hut hk4
    go_wp2_with fail
    go_loopw [34] (fun i wx => ∃ k : Nat, k ≤ xs0.length ∧ i = .int .i64 k ∧ Hid (XorRel w4 (.slice oa xs0.length oc) xs0.length wx)) (fun i _ => xs0.length - (intOf i).toNat)
    case atStart => exact ⟨0, by omega, rfl, hxr⟩
    case round =>
      obtain ⟨k, hk, rfl, hx⟩ := hrel
      by_cases hlt : k < xs0.length
      · obtain ⟨g, c, z, ha, hc, hf, hnext⟩ := xor_step hx.out hlt
        obtain ⟨rfl, rfl⟩ : oa = some ⟨g, 0, none⟩ ∧ oc = c := by injection ha with h1 _ h2; exact ⟨h1, h2⟩
        have HN := Lib.hid hnext
        clear ha hnext hx
        go_wp2_with fail
        go_roundw
        case rel => exact ⟨k + 1, by omega, by go_num, Lib.hid (HN.out _)⟩
        case measure => simp [intOf]; omega
      · obtain ⟨hut5, hk5⟩ := (HAW.out) wr hx.out.1
        have HS : Hid (TkRel W u t wr) := Lib.hid ⟨vu, vt, xs0, 0, hut5, HR0.out, hx2, hk5⟩
        obtain ⟨wo, rfl⟩ : ∃ wo : World, wo = wr := ⟨_, rfl⟩
        clear hut5 hk5 hx
        go_wp2_with fail
        go_loopw [46] (fun i wr => ∃ k : Nat, k ≤ its.length ∧ i = .int .i64 k ∧ Hid (TkRel W u t wr)) (fun i _ => its.length - (intOf i).toNat)
        case atStart => exact ⟨0, by omega, rfl, HS⟩
        case round =>
          obtain ⟨k, hk, rfl, hrel⟩ := hrel
          by_cases hlt : k < its.length
          · obtain ⟨vu5, vt5, l5, e5, hut5, hrng5, hlen5, hk5⟩ := hrel.out
            obtain ⟨b, off, cap, hlv, hcap, hlc, hcell, g, bp, bcc, hb⟩ := round_item HI.out hlt hk5
            obtain ⟨rfl, rfl⟩ : la = some ⟨b, off, none⟩ ∧ lc = cap := by injection hlv with h1 _ h2; exact ⟨h1, h2⟩
            obtain ⟨e0, e1, e2, e3⟩ := hcell
            obtain ⟨it, hitk⟩ : ∃ it, it = its[k] := ⟨_, rfl⟩
            rw [← hitk] at e0 e1 e2 e3 g hb
            obtain ⟨d, V, n, bv, xs⟩ := it
            simp only at hb e0 e1 e2 e3
            subst hb
            have hka : Kp (fun _ => False) wr (wr.alloc (.cells #[.int .i64 d, .int .u64 V, .slice bp xs.length bcc, .int .i64 n] 32)) := (Kp.refl _ _).alloc _
            have HT := Lib.hid (takes_any d V n g.nr.2 ⟨bp, xs.length, bcc, rfl⟩ ((hut5.fresh hka).drewN 1) hrng5 (by omega))
            have HK5 := Lib.hid (hk5.trans (hka.drewN 1) (fun _ _ f => f))
            have HPre := Lib.hid (And.intro hut5.uk.base (And.intro hut5.vk.base (And.intro (itL_rng hrng5 e5 d n) (Nat.le_trans (itL_len l5 e5 d n) hlen5))))
            clear hut5 hrng5 hlen5 hk5 hka hlv g hitk hrel
            go_wp2
            go_region_with (first
              | (go_at_call 22; refine (HT.out).mono ?_; rintro r w5 ⟨rfl, ⟨vu6, vt6, hut6⟩, hk6⟩; obtain ⟨l6, hl6⟩ : ∃ l6, l6 = itL l5 e5 d n := ⟨_, rfl⟩; obtain ⟨e6, he6⟩ : ∃ e6, e6 = itE l5 e5 d n := ⟨_, rfl⟩; rw [← hl6, ← he6] at hut6; have HRel := Lib.hid (tk_next HK5.out HPre.out hl6 hut6 hk6); obtain ⟨ta, tc, htv⟩ := sees_form hut6.vk.sees; obtain ⟨f0, f1, _⟩ := hut6.vk.cells; rw [htv] at f0; have HRest := Lib.hid (uRest_any hut6.uk); have HErr := Lib.hid (uErr_any hut6.uk); have HEnd := Lib.hid (uEnd_any hut6.uk); have HVEnd := Lib.hid (vEnd_any hut6.vk); obtain ⟨ee, hee⟩ : ∃ ee, ee = endE l6 e6 := ⟨_, rfl⟩; rw [← hee] at HEnd HVEnd; have hb1 : ((l6.length : Int) != (l6.length : Int)) = false := (by simp); have hb2 : (e6 != e6) = false := (by simp); have hb3 : (ee != ee) = false := (by simp); clear hut6 hk6 hl6 he6 htv hee)
              | (go_at_call 23; refine (HRest.out).mono ?_; rintro r w6 ⟨rfl, rfl⟩)
              | (go_at_call 24; refine (HErr.out).mono ?_; rintro r w6 ⟨rfl, rfl⟩)
              | (go_at_call 25; refine (HEnd.out).mono ?_; rintro r w6 ⟨rfl, rfl⟩)
              | (go_at_call 26; refine (HVEnd.out).mono ?_; rintro r w6 ⟨rfl, rfl⟩))
            all_goals
              go_wp2_with fail
              go_roundw
              case rel => exact ⟨k + 1, by omega, by go_num, HRel⟩
              case measure => simp [intOf]; omega
          · obtain ⟨vu5, vt5, l5, e5, hut5, hrng5, hlen5, hk5⟩ := hrel.out
            have HEnd := Lib.hid (uEnd_any hut5.uk)
            have HVEnd := Lib.hid (vEnd_any hut5.vk)
            obtain ⟨ee, hee⟩ : ∃ ee, ee = endE l5 e5 := ⟨_, rfl⟩
            rw [← hee] at HEnd HVEnd
            have hb3 : (ee == ee) = true := by simp
            have HK := Lib.hid hk5
            clear hut5 hrng5 hlen5 hk5 hrel hee
            go_wp2_with fail
            refine (HEnd.out).mono ?_
            rintro r w6 ⟨rfl, rfl⟩
            go_wp2_with fail
            refine (HVEnd.out).mono ?_
            rintro r w6 ⟨rfl, rfl⟩
            go_wp2_with fail
            go_ret
            exact ⟨rfl, HK.out⟩
  · have hbig : (20000 : Int) < (xs0.length : Int) ∨ (¬ (20000 : Int) < (xs0.length : Int) ∧ (200 : Int) < (its.length : Int)) := by omega
    rcases hbig with hbig | ⟨hb1, hbig⟩
    all_goals
      go_enter Try.func4, Try.ntmps4
      go_wp2_with fail
      refine (HL.out _).mono ?_
      rintro r w1 ⟨rfl, hk1⟩
      have HK1 := Lib.hid hk1
      clear hk1
      go_wp2_with fail
      refine (HL.out _).mono ?_
      rintro r w2 ⟨rfl, hk2⟩
      have HK2 := Lib.hid ((HK1.out).trans hk2 (fun _ _ f => f))
      clear hk2
      go_wp2_with fail
      go_ret
      exact ⟨rfl, HK2.out⟩

end Go.Proofs.Ytahdnapinlbflaa
