/-
  PackBack: its walk.
-/
import Derived.Test.YtahdnapinlbflaaBm
import Derived.Test.YtahdnapinlbflaaParts
namespace Go.Proofs.Ytahdnapinlbflaa
open Go.ChangeShapes Go.WideShapes Go.ChangeAt Go.RowKit

theorem bkL_rng {l : List Int} (h : Rng l) (e d n : Int) : Rng (bkL l e d n) := by
  unfold bkL
  repeat' split
  all_goals first | exact takeL_rng h _ _ | exact cntL_rng h _ _ _ | exact h
theorem bkL_len (l : List Int) (e d n : Int) : (bkL l e d n).length ≤ l.length := by
  unfold bkL
  repeat' split
  all_goals first | exact takeL_len _ _ _ | exact cntL_len _ _ _ _ | exact Nat.le_refl _
/-- of fewer bytes: an error, or still fewer than what is to come -/
def Fewer (l : List Int) (e : Int) (all : List Int) : Prop := e = 11 ∨ (e = 0 ∧ ∃ s, s ≠ [] ∧ all = l ++ s)
theorem bk_next {it : Itm} (h : ItmOk it) {x rest all l : List Int} {e : Int} (hp : piece it = some x) (hall : all = x ++ rest) (hf : Fewer l e all) : Fewer (bkL l e it.d it.xs.length) (bkE l e it.d it.xs.length) rest := by
  rcases hf with rfl | ⟨rfl, s, hs, he⟩
  · exact .inl (bk_err (by omega)).2
  · rw [hall] at he
    rcases List.append_eq_append_iff.1 he with ⟨a, h1, h2⟩ | ⟨c, h1, h2⟩
    · -- l = x ++ a, rest = a ++ s
      rw [h1]
      have := bk_app h (rest := a) hp
      rw [this.1, this.2.1]
      exact .inr ⟨rfl, s, hs, h2⟩
    · -- x = l ++ c
      by_cases hc : c = []
      · subst hc
        rw [List.append_nil] at h1
        have := bk_app h (rest := []) hp
        rw [List.append_nil] at this
        rw [← h1, this.1, this.2.1]
        exact .inr ⟨rfl, s, hs, by simpa using h2.symm⟩
      · exact .inl (bk_short h hp hc h1)

def Bk1 (W : World) (p : Nat) (its : List Itm) (k : Nat) (wr : World) : Prop := ∃ v, PK wr W.heap.size p v 8192 (runS 8192 (its.take k) ([], 0)).1 (runS 8192 (its.take k) ([], 0)).2 ∧ Kp (fun _ => False) W wr
def Bk2 (W : World) (u : Nat) (xv : Value) (its : List Itm) (k : Nat) (wr : World) : Prop := ∃ vu, UK wr W.heap.size u vu (cat (its.drop k)) 0 ∧ Sees wr xv (cat its) ∧ Kp (fun _ => False) W wr
def Bk3 (W : World) (u : Nat) (its : List Itm) (k : Nat) (wr : World) : Prop := ∃ vu l e, UK wr W.heap.size u vu l e ∧ Fewer l e (cat (its.drop k)) ∧ Rng l ∧ l.length ≤ 8192 ∧ Kp (fun _ => False) W wr
theorem cat_le (its : List Itm) (k : Nat) : (cat (its.drop k)).length ≤ (cat its).length := by
  have h : cat its = cat (its.take k) ++ cat (its.drop k) := by rw [cat, cat, cat, ← List.flatMap_append, List.take_append_drop]
  rw [h, List.length_append]; omega
theorem cat_mem (its : List Itm) (k : Nat) : ∀ x ∈ cat (its.drop k), x ∈ cat its := by
  have h : cat its = cat (its.take k) ++ cat (its.drop k) := by rw [cat, cat, cat, ← List.flatMap_append, List.take_append_drop]
  intro x hx
  rw [h]; exact List.mem_append_right _ hx

set_option maxHeartbeats 8000000 in
theorem back_law {W : World} {lv : Value} {its : List Itm} (h : ItemsAt W lv its) (c : Nat) (hc : c ≤ 65535) :
    Calls Try.prog 5 #[lv, .int .u16 c] W fun r w' => r = .returned (.bool true) ∧ Kp (fun _ => False) W w' := by
  obtain ⟨la, lc, rfl, hlc, hlm⟩ := h.form
  have HL := Lib.hid (fun w => live_any w)
  have HRI := Lib.hid h.rng
  have HI := Lib.hid h
  have hlc63 : lc ≤ 9223372036854775807 := hlm
  have HN1 := Lib.hid (newP_any 8192 (w := W) (B := W.heap.size) (Nat.le_refl _))
  clear h hlm
  go_enter Try.func5, Try.ntmps5
  go_wp2_with fail
  refine (HN1.out).mono ?_
  rintro r w1 ⟨rfl, hp, hk, hsz⟩
  rw [if_pos (by omega)] at hp
  have HP := Lib.hid hp
  have HK1 := Lib.hid hk
  clear hp hk hsz
  obtain ⟨p1, hp1⟩ : ∃ p1, p1 = W.heap.size := ⟨_, rfl⟩
  have HP1 := Lib.hid hp1
  rw [← hp1]
  clear hp1
  go_wp2_with fail
  refine (HL.out _).mono ?_
  rintro r w2 ⟨rfl, hk⟩
  have HP2 := Lib.hid ((HP.out).kept hk (fun _ _ f => f))
  have hk2 := (HK1.out).trans hk (fun _ _ f => f)
  have HF := Lib.hid (few_any ((HI.out).kept hk2))
  have HK2 := Lib.hid hk2
  clear hk hk2
  go_wp2_with fail
  refine (HF.out).mono ?_
  rintro r w3 ⟨qb, rfl, hq, hk⟩
  have hk3 := (HK2.out).trans hk (fun _ _ f => f)
  have HP3 := Lib.hid ((HP2.out).kept hk (fun _ _ f => f))
  have HK3 := Lib.hid hk3
  have HQ := Lib.hid hq
  clear hk hk3 hq
  cases qb
  · go_wp2_with fail
    refine (HL.out _).mono ?_
    rintro r w4 ⟨rfl, hk4⟩
    have HK4 := Lib.hid ((HK3.out).trans hk4 (fun _ _ f => f))
    clear hk4
    go_wp2_with fail
    go_ret
    exact ⟨rfl, HK4.out⟩
  obtain ⟨hl200, hxs⟩ := HQ.out rfl
  have HX := Lib.hid hxs
  have HS : Hid (Bk1 W p1 its 0 w3) := Lib.hid ⟨_, by rw [HP1.out]; exact HP3.out, HK3.out⟩
  clear hxs
  go_wp2_with fail
  go_loopw [34] (fun i wr => ∃ k : Nat, k ≤ its.length ∧ i = .int .i64 k ∧ Hid (Bk1 W p1 its k wr)) (fun i _ => its.length - (intOf i).toNat)
  case atStart => exact ⟨0, by omega, rfl, HS⟩
  case round =>
    obtain ⟨k, hk, rfl, hrel⟩ := hrel
    by_cases hlt : k < its.length
    · obtain ⟨v, hpk, hkp⟩ := hrel.out
      obtain ⟨b, off, cap, hlv, hcap, hlc, hcell, g, bp, bc, hb⟩ := round_item HI.out hlt hkp
      obtain ⟨rfl, rfl⟩ : la = some ⟨b, off, none⟩ ∧ lc = cap := by injection hlv with h1 _ h2; exact ⟨h1, h2⟩
      obtain ⟨e0, e1, e2, e3⟩ := hcell
      have hxl := HX.out its[k] (List.getElem_mem hlt)
      have hstep1 := run_take 8192 its k hlt ([], 0)
      obtain ⟨it, hitk⟩ : ∃ it, it = its[k] := ⟨_, rfl⟩
      rw [← hitk] at e0 e1 e2 e3 g hxl hb hstep1
      obtain ⟨d, V, n, bv, xs⟩ := it
      simp only at hb e0 e1 e2 e3
      subst hb
      have hka : Kp (fun _ => False) wr (wr.alloc (.cells #[.int .i64 d, .int .u64 V, .slice bp xs.length bc, .int .i64 n] 32)) := (Kp.refl _ _).alloc _
      have hk2 := hkp.trans hka (fun _ _ f => f)
      have hxs : xs.length ≤ 900000 := Nat.le_trans hxl (by omega)
      have hpk1 := hpk.kept hka (fun _ _ f => f)
      have HP := Lib.hid (put_any d V n g.vr.1 g.vr.2 hk2.size hpk1 (g.sees.kept hk2 (fun _ _ _ f => f)) (Tri.away hpk1 g.sees) hxs)
      have HFt := Lib.hid hpk1.foot
      have HK2 := Lib.hid hk2
      have HS1 := Lib.hid hstep1
      clear hpk hkp hka hk2 hpk1 g hstep1 hrel hlv hitk
      go_wp2_with fail
      refine (HP.out).mono ?_
      rintro r w5 ⟨rfl, v5, hp5, hk5, _⟩
      have hnext : Bk1 W p1 its (k + 1) w5 := by
        refine ⟨v5, ?_, (HK2.out).trans hk5 (fun x hx hh => by have := (HFt.out x hh).1; omega)⟩
        rw [HS1.out]
        exact hp5
      have HN := Lib.hid hnext
      clear hp5 hk5 hnext
      go_wp2_with fail
      go_roundw
      case rel => exact ⟨k + 1, by omega, by go_num, HN⟩
      case measure => simp [intOf]; omega
    · obtain rfl : k = its.length := by omega
      obtain ⟨v, hpk, hkp⟩ := hrel.out
      rw [List.take_length] at hpk
      have hre := run_e 8192 its [] (by simp)
      have hrl := run_len 8192 its [] (by simp)
      have hrc := run_cat 8192 its [] (by simp)
      have hra : Rng (runS 8192 its ([], 0)).1 := run_rng 8192 its _ (fun y hy => by cases hy) (HRI.out)
      generalize runS 8192 its ([], 0) = sa at hpk hre hrl hrc hra
      obtain ⟨bb, eb⟩ := sa
      simp only at hpk hre hrl hrc hra
      have HO := Lib.hid (pout_any hpk)
      have HKP := Lib.hid hkp
      have HRE := Lib.hid hre
      have HRL := Lib.hid hrl
      have HRC := Lib.hid hrc
      have HRA := Lib.hid hra
      obtain ⟨wo, rfl⟩ : ∃ wo : World, wo = wr := ⟨_, rfl⟩
      clear hpk hkp hrel hre hrl hrc hra
      go_wp2_with fail
      refine (HO.out).mono ?_
      rintro r w5 ⟨x5, rfl, hx5, hk5⟩
      have HK5 := Lib.hid ((HKP.out).trans hk5 (fun _ _ f => f))
      by_cases heb : eb = 0
      · subst heb
        rw [if_pos rfl] at hx5
        obtain ⟨hpc, hcat⟩ := HRC.out rfl
        rw [List.nil_append] at hcat
        subst hcat
        have hbl : (cat its).length ≤ 8192 := by have := (HRL.out rfl).2; omega
        have HPC := Lib.hid hpc
        have HRD : Hid (∀ k, Rng (cat (its.drop k)) ∧ (cat (its.drop k)).length ≤ 1000000000) := Lib.hid (fun k => ⟨fun y hy => HRA.out y (cat_mem its k y hy), by have := cat_le its k; omega⟩)
        have HS5 := Lib.hid hx5.sees
        have HXO := Lib.hid (fun g hg => (hx5.lt g hg).2)
        have HU := Lib.hid (uRead_any (B := W.heap.size) HK5.out.size hx5.sees (by omega))
        obtain ⟨xa, xc, hxv⟩ := sees_form hx5.sees
        subst hxv
        clear hx5 hk5 hpc
        go_wp2_with fail
        refine (HU.out).mono ?_
        rintro r w6 ⟨u, vu, rfl, huk, hu1, _, hk6⟩
        obtain ⟨xv, hxv⟩ : ∃ xv, xv = Value.slice xa (cat its).length xc := ⟨_, rfl⟩
        have HXV := Lib.hid hxv
        have HXU : Hid (∀ g, xv.ownBlock = some g → g ≠ u) := Lib.hid (by rw [hxv]; exact fun g hg => by have := HXO.out g hg; omega)
        have HB2 : Hid (Bk2 W u xv its 0 w6) := Lib.hid ⟨vu, by rw [List.drop_zero]; exact huk, by rw [hxv]; exact (HS5.out).kept hk6 (fun _ _ _ f => f), (HK5.out).trans hk6 (fun _ _ f => f)⟩
        have hxc63 : (cat its).length ≤ xc ∧ xc ≤ 9223372036854775807 := by
          rcases HS5.out with ⟨h, hl⟩ | ⟨ad, cap, h, h1, h2, _⟩
          · have e1 : xc = 0 := by injection h
            rw [hl, e1]; exact ⟨Nat.le_refl _, by omega⟩
          · have e1 : xc = cap := by injection h
            rw [e1]; exact ⟨h1, h2⟩
        obtain ⟨hxc1, hxc2⟩ := hxc63
        clear huk hk6 hu1 hxv
        go_wp2_with fail
        go_loopw [66] (fun i wr => ∃ k : Nat, k ≤ its.length ∧ i = .int .i64 k ∧ Hid (Bk2 W u xv its k wr)) (fun i _ => its.length - (intOf i).toNat)
        case atStart => exact ⟨0, by omega, rfl, HB2⟩
        case round =>
          obtain ⟨k, hk, rfl, hrel⟩ := hrel
          by_cases hlt : k < its.length
          · obtain ⟨vu, huk, hsx, hkp⟩ := hrel.out
            obtain ⟨b, off, cap, hlv, hcap, hlc, hcell, g, bp, bc, hb⟩ := round_item HI.out hlt hkp
            obtain ⟨rfl, rfl⟩ : la = some ⟨b, off, none⟩ ∧ lc = cap := by injection hlv with h1 _ h2; exact ⟨h1, h2⟩
            obtain ⟨e0, e1, e2, e3⟩ := hcell
            have hxl := HX.out its[k] (List.getElem_mem hlt)
            have hcd := cat_drop its k hlt
            have hrn := HRD.out k
            obtain ⟨x, hx⟩ := Option.ne_none_iff_exists'.1 (HPC.out its[k] (List.getElem_mem hlt))
            rw [hx, Option.getD_some] at hcd
            obtain ⟨it, hitk⟩ : ∃ it, it = its[k] := ⟨_, rfl⟩
            rw [← hitk] at e0 e1 e2 e3 g hxl hb hx
            obtain ⟨d, V, n, bv, xs⟩ := it
            simp only at hb e0 e1 e2 e3
            subst hb
            have hka : Kp (fun _ => False) wr (wr.alloc (.cells #[.int .i64 d, .int .u64 V, .slice bp xs.length bc, .int .i64 n] 32)) := (Kp.refl _ _).alloc _
            have hk2 := hkp.trans hka (fun _ _ f => f)
            have hxs : xs.length ≤ 900000 := Nat.le_trans hxl (by omega)
            have huk1 := huk.kept hka (fun f => f) (fun _ _ _ f => f)
            have hbu : xs ≠ [] → ∀ gb, (Value.slice bp xs.length bc).ownBlock = some gb → gb ≠ u := fun hne gb hgb => by
              have := g.sees.lt hne gb hgb
              have := huk.base
              omega
            have HBk := Lib.hid (back_any d V n g.vr (g.sees.kept hk2 (fun _ _ _ f => f)) g.rng hbu hxs huk1 hrn.1 hrn.2)
            have HUB := Lib.hid huk.base
            have HK2 := Lib.hid hk2
            have hbk := bk_app (it := ⟨d, V, n, .slice bp xs.length bc, xs⟩) ⟨g.vr.1, g.vr.2, g.rng, hxl⟩ (rest := cat (its.drop (k + 1))) hx
            simp only at hbk
            rw [← hcd] at hbk
            rw [hbk.1, hbk.2.1, hbk.2.2] at HBk
            have HSX := Lib.hid (hsx.kept hka (fun _ _ _ f => f))
            clear huk hkp hka hk2 huk1 g hcd hx hbk hrel hlv hitk hbu hrn hsx
            go_wp2_with fail
            refine (HBk.out).mono ?_
            rintro r w5 ⟨rfl, ⟨vu5, hu5⟩, hk5⟩
            have HN : Hid (Bk2 W u xv its (k + 1) w5) := Lib.hid ⟨vu5, hu5, (HSX.out).kept hk5 (fun _ g hg hh => HXU.out g hg hh), (HK2.out).trans hk5 (fun x hx hh => by have := HUB.out; omega)⟩
            clear hu5 hk5
            go_wp2_with fail
            go_roundw
            case rel => exact ⟨k + 1, by omega, by go_num, HN⟩
            case measure => simp [intOf]; omega
          · obtain rfl : k = its.length := by omega
            obtain ⟨vu7, huk7, hsx7, hkp7⟩ := hrel.out
            rw [List.drop_length] at huk7
            have HE7 := Lib.hid (show Calls Try.prog 25 #[.pointer (some ⟨u, 0, none⟩)] wr fun r w' => r = .returned (.int .i64 0) ∧ wr = w' from uEnd_any huk7)
            have HR7 := Lib.hid (show Calls Try.prog 23 #[.pointer (some ⟨u, 0, none⟩)] wr fun r w' => r = .returned (.int .i64 0) ∧ wr = w' from uRest_any huk7)
            have HSX7 := Lib.hid (show Sees wr (.slice xa (cat its).length xc) (cat its) by rw [← HXV.out]; exact hsx7)
            have HK7 := Lib.hid hkp7
            obtain ⟨wo, rfl⟩ : ∃ wo : World, wo = wr := ⟨_, rfl⟩
            clear huk7 hsx7 hkp7 hrel
            by_cases hb0 : (cat its).length = 0
            · have hz : (((cat its).length : Int) == 0) = true := by rw [hb0]; rfl
              clear hb0
              go_wp2_with fail
              refine (HE7.out).mono ?_
              rintro r w8 ⟨rfl, rfl⟩
              go_wp2_with fail
              refine (HR7.out).mono ?_
              rintro r w8 ⟨rfl, rfl⟩
              go_wp2_with fail
              go_ret
              exact ⟨rfl, HK7.out⟩
            · have hz : (((cat its).length : Int) == 0) = false := beq_eq_false_iff_ne.2 (by omega)
              obtain ⟨m, hm⟩ : ∃ m, m = c % (cat its).length := ⟨_, rfl⟩
              have hmod : (c : Int) % ((cat its).length : Int) = (m : Int) := by rw [hm]; rfl
              have hml : m < (cat its).length := by rw [hm]; exact Nat.mod_lt _ (by omega)
              have hne : cat its ≠ [] := fun h => hb0 (by rw [h]; rfl)
              obtain ⟨bx, ox, cx, hvx, _, _⟩ := (HSX7.out).lit hne
              obtain ⟨rfl, rfl⟩ : xa = some ⟨bx, ox, none⟩ ∧ xc = cx := by injection hvx with h1 _ h2; exact ⟨h1, h2⟩
              have HU2 := Lib.hid (uRead_any (B := W.heap.size) HK7.out.size (sees_take HSX7.out m (by omega)) (by rw [List.length_take]; omega))
              have HDR := Lib.hid (show Fewer ((cat its).take m) 0 (cat (its.drop 0)) from .inr ⟨rfl, (cat its).drop m, fun h => by have := congrArg List.length h; rw [List.length_drop] at this; simp at this; omega, by rw [List.drop_zero, List.take_append_drop]⟩)
              clear hb0 hm hne hvx
              go_wp2_with fail
              refine (HE7.out).mono ?_
              rintro r w8 ⟨rfl, rfl⟩
              go_wp2_with fail
              refine (HR7.out).mono ?_
              rintro r w8 ⟨rfl, rfl⟩
              go_wp2_with fail
              refine (HU2.out).mono ?_
              rintro r w9 ⟨u2, vu2, rfl, huk2, _, _, hk9⟩
              have HB3 : Hid (Bk3 W u2 its 0 w9) := Lib.hid ⟨vu2, _, 0, huk2, HDR.out, fun y hy => HRA.out y (List.mem_of_mem_take hy), by rw [List.length_take]; omega, (HK7.out).trans hk9 (fun _ _ f => f)⟩
              clear huk2 hk9
              go_wp2_with fail
              go_loopw [98] (fun i wr => ∃ k : Nat, k ≤ its.length ∧ i = .int .i64 k ∧ Hid (Bk3 W u2 its k wr)) (fun i _ => its.length - (intOf i).toNat)
              case atStart => exact ⟨0, by omega, rfl, HB3⟩
              case round =>
                obtain ⟨k, hk, rfl, hrel⟩ := hrel
                by_cases hlt : k < its.length
                · obtain ⟨vu, l3, ee, huk, hst, hrn, hln, hkp⟩ := hrel.out
                  obtain ⟨b, off, cap, hlv, hcap, hlc, hcell, g, bp, bc, hb⟩ := round_item HI.out hlt hkp
                  obtain ⟨rfl, rfl⟩ : la = some ⟨b, off, none⟩ ∧ lc = cap := by injection hlv with h1 _ h2; exact ⟨h1, h2⟩
                  obtain ⟨e0, e1, e2, e3⟩ := hcell
                  have hxl := HX.out its[k] (List.getElem_mem hlt)
                  have hcd := cat_drop its k hlt
                  obtain ⟨x, hx⟩ := Option.ne_none_iff_exists'.1 (HPC.out its[k] (List.getElem_mem hlt))
                  rw [hx, Option.getD_some] at hcd
                  obtain ⟨it, hitk⟩ : ∃ it, it = its[k] := ⟨_, rfl⟩
                  rw [← hitk] at e0 e1 e2 e3 g hxl hb hx
                  obtain ⟨d, V, n, bv, xs⟩ := it
                  simp only at hb e0 e1 e2 e3
                  subst hb
                  have hka : Kp (fun _ => False) wr (wr.alloc (.cells #[.int .i64 d, .int .u64 V, .slice bp xs.length bc, .int .i64 n] 32)) := (Kp.refl _ _).alloc _
                  have hk2 := hkp.trans hka (fun _ _ f => f)
                  have hxs : xs.length ≤ 900000 := Nat.le_trans hxl (by omega)
                  have huk1 := huk.kept hka (fun f => f) (fun _ _ _ f => f)
                  have hbu : xs ≠ [] → ∀ gb, (Value.slice bp xs.length bc).ownBlock = some gb → gb ≠ u2 := fun hne gb hgb => by
                    have := g.sees.lt hne gb hgb
                    have := huk.base
                    omega
                  have HBk := Lib.hid (back_any d V n g.vr (g.sees.kept hk2 (fun _ _ _ f => f)) g.rng hbu hxs huk1 hrn (by omega))
                  have HUB := Lib.hid huk.base
                  have HK2 := Lib.hid hk2
                  have hnx := bk_next (it := ⟨d, V, n, .slice bp xs.length bc, xs⟩) ⟨g.vr.1, g.vr.2, g.rng, hxl⟩ hx hcd hst
                  have HNX := Lib.hid (And.intro hnx (And.intro (bkL_rng hrn ee d xs.length) (Nat.le_trans (bkL_len l3 ee d xs.length) hln)))
                  obtain ⟨q, hq⟩ : ∃ q, q = bkQ l3 ee d V xs := ⟨_, rfl⟩
                  rw [← hq] at HBk
                  clear huk hkp hka hk2 huk1 g hcd hx hnx hrel hlv hitk hbu hrn hst hln hq
                  go_wp2_with fail
                  refine (HBk.out).mono ?_
                  rintro r w5 ⟨rfl, ⟨vu5, hu5⟩, hk5⟩
                  have HN : Hid (Bk3 W u2 its (k + 1) w5) := Lib.hid ⟨vu5, _, _, hu5, HNX.out.1, HNX.out.2.1, HNX.out.2.2, (HK2.out).trans hk5 (fun x hx hh => by have := HUB.out; omega)⟩
                  clear hu5 hk5
                  go_wp2_with fail
                  go_roundw
                  case rel => exact ⟨k + 1, by omega, by go_num, HN⟩
                  case measure => simp [intOf]; omega
                · obtain rfl : k = its.length := by omega
                  obtain ⟨vu8, l8, e8, huk8, hst8, _, _, hkp8⟩ := hrel.out
                  have he8 : e8 = 11 := by
                    rcases hst8 with h | ⟨_, s, hs, h⟩
                    · exact h
                    · rw [List.drop_length] at h
                      have h' : ([] : List Int) = l8 ++ s := h
                      exact absurd (List.append_eq_nil_iff.1 h'.symm).2 hs
                  subst he8
                  have HER := Lib.hid (uErr_any huk8)
                  have HK8 := Lib.hid hkp8
                  clear huk8 hst8 hkp8 hrel
                  go_wp2_with fail
                  refine (HER.out).mono ?_
                  rintro r w10 ⟨rfl, rfl⟩
                  go_wp2_with fail
                  go_ret
                  exact ⟨rfl, HK8.out⟩
      · rw [if_neg heb] at hx5
        obtain ⟨xa, xc, hxv⟩ := sees_form hx5.sees
        subst hxv
        have h310 : eb = 3 ∨ eb = 10 := by rcases HRE.out with h | h | h; exact absurd h heb; exact .inl h; exact .inr h
        clear hx5 hk5 heb
        rcases h310 with rfl | rfl
        all_goals
          go_wp2_with fail
          go_ret
          exact ⟨rfl, HK5.out⟩

theorem back_law2 {W : World} {lv : Value} {its : List Itm} (h : ItemsAt W lv its) (a : Int) (ha : (Lit.int .u16 a).wf = true) :
    Calls Try.prog 5 #[lv, .int .u16 a] W fun r w' => r = .returned (.bool true) ∧ Kp (fun _ => False) W w' := by
  have hb : 0 ≤ a ∧ a ≤ 65535 := by simpa [Lit.wf, IntKind.min, IntKind.max, IntKind.signed, IntKind.bits] using ha
  obtain ⟨c, rfl⟩ := Int.eq_ofNat_of_zero_le hb.1
  exact back_law h c (by omega)

end Go.Proofs.Ytahdnapinlbflaa
