/-
  Contracts of the document's unpacker: what stands behind a count, the end, a new one.
-/
import Derived.Test.YtahdnapinlbflaaRv
namespace Go.Proofs.Ytahdnapinlbflaa
open Go.ChangeShapes Go.WideShapes Go.ChangeAt Go.RowKit

def CntV (w : World) (B u : Nat) (v : Value) (l : List Int) (e : Int) (hd : Nat) (most : Int) (r : Ending) (w' : World) : Prop :=
  ∃ rv, r = .returned rv ∧ Sees w' rv (cntR l e hd most) ∧ (cntR l e hd most ≠ [] → rv.ownBlock = v.ownBlock) ∧ VPost w B u v (cntL l e hd most) (cntE l e hd most) w'

/-- what was left is put back -/
theorem VK.restore {w w2 : World} {B u : Nat} {v v2 : Value} {l l2 : List Int} {e e2 : Int} (h : VK w B u v l e) (k : Kp (fun k => k = u) w w2) (h2 : VK w2 B u v2 l2 e2) : VPost w B u v l e2 (w2.setCell ⟨u, 0, none⟩ v) := by
  have hs : Sees w2 v l := h.sees.kept k h.away
  have k2 : Kp (fun k => k = u) w2 (w2.setCell ⟨u, 0, none⟩ v) := Kp.setCell (F := fun k => k = u) (Kp.refl _ w2) (p := ⟨u, 0, none⟩) (fun _ => rfl) _
  exact ⟨⟨v, ⟨by rw [set_blk h2.cell]; rfl, hs.kept k2 h.away, h.away, h.base⟩, fun _ => rfl⟩, k.trans k2 (fun _ _ h => h)⟩
theorem take_err {l : List Int} {e n : Int} (he : e ≠ 0) : takeE l e n = e ∧ takeR l e n = [] ∧ takeL l e n = l := by
  have h := takeE_self l e n he
  refine ⟨h, ?_, ?_⟩
  · unfold takeR; rw [h, if_neg he]
  · unfold takeL; rw [h, if_neg he]

set_option maxHeartbeats 2000000 in
/-- an error from the beginning, or of most -/
theorem vcounted_bad (hd : Nat) (most : Int) (h1 : 1 ≤ hd) (h4 : hd ≤ 4) {w : World} {B u : Nat} {v : Value} {l : List Int} {e : Int} (h : VK w B u v l e) (hr : Rng l) (hbad : e ≠ 0 ∨ most < 0) :
    Calls Try.prog 61 #[.pointer (some ⟨u, 0, none⟩), .int .i64 hd, .int .i64 most] w (CntV w B u v l e hd most) := by
  obtain ⟨a, cap, hv⟩ := sees_form h.sees
  obtain ⟨c0, c1, cf⟩ := h.cells
  have cf1 := cf 1
  have hfin : ∀ w2 v2 l2, Kp (fun k => k = u) w w2 → VK w2 B u v2 l2 (cntE l e hd most) → CntV w B u v l e hd most (.returned (.slice none 0 0)) (w2.setCell ⟨u, 0, none⟩ v) := by
    intro w2 v2 l2 hk h2
    have hne : cntE l e hd most ≠ 0 := by
      unfold cntE countE
      split
      · assumption
      · rcases hbad with hb | hb
        · rename_i he; exact absurd hb he
        · rw [if_pos hb]; omega
    unfold CntV cntR cntL
    rw [if_neg hne, if_neg hne]
    exact ⟨_, rfl, .inl ⟨rfl, rfl⟩, fun h => absurd rfl h, h.restore hk h2⟩
  have HF := Lib.hid hfin
  by_cases he : e = 0
  · subst he
    have hm : most < 0 := by rcases hbad with hb | hb; exact absurd rfl hb; exact hb
    have hE : cntE l 0 hd most = 1 := by unfold cntE countE; rw [if_neg (by simp), if_pos hm]
    rw [hE] at HF
    obtain ⟨v1, hx1, _⟩ := (h.setErr 1).ex
    have hk1 := (h.setErr 1).kp
    have HN := Lib.hid (vNum_any hd (by omega) hx1 hr)
    have HK1 := Lib.hid hk1
    have HV := Lib.hid hv
    clear h hr hbad cf hfin hE hx1 hk1 hv
    go_enter Try.func61, Try.ntmps61
    go_wp2_with fail
    refine (HN.out).mono ?_
    rintro r w1 ⟨rfl, hp⟩
    rw [(take_err (show (1 : Int) ≠ 0 by omega)).1, (take_err (show (1 : Int) ≠ 0 by omega)).2.2] at hp
    obtain ⟨v2, h2, _⟩ := hp.ex
    obtain ⟨d0, d1, df⟩ := h2.cells
    have hk2 := (HK1.out).trans hp.kp (fun _ _ h => h)
    have HR0 : Hid (val (takeR l 1 hd) = 0) := Lib.hid (by rw [(take_err (show (1 : Int) ≠ 0 by omega)).2.1]; rfl)
    have HT := Lib.hid (vtake_any 0 h2)
    have HK2 := Lib.hid hk2
    rw [HR0.out]
    clear hp h2 df hk2
    go_wp2_with fail
    refine (HT.out).mono ?_
    rintro r w2 ⟨rv, rfl, _, _, hp⟩
    rw [(take_err (show (1 : Int) ≠ 0 by omega)).1, (take_err (show (1 : Int) ≠ 0 by omega)).2.2] at hp
    obtain ⟨v3, h3, _⟩ := hp.ex
    obtain ⟨g0, g1, gf⟩ := h3.cells
    have gf0 := gf 0
    have HX := Lib.hid (HF.out w2 v3 l ((HK2.out).trans hp.kp (fun _ _ h => h)) h3)
    clear hp h3 gf
    have hv := HV.out
    subst hv
    go_wp2_with fail
    go_ret
    exact HX.out
  · have hE : cntE l e hd most = e := by unfold cntE; rw [if_pos he]
    rw [hE] at HF
    have HN := Lib.hid (vNum_any hd (by omega) h hr)
    have HV := Lib.hid hv
    have HE := Lib.hid he
    have hb : (e == 0) = false := by simpa using he
    have hb2 : (e != 0) = true := by simpa using he
    clear h hr hbad cf hfin hE hv he
    go_enter Try.func61, Try.ntmps61
    go_wp2_with fail
    refine (HN.out).mono ?_
    rintro r w1 ⟨rfl, hp⟩
    rw [(take_err HE.out).1, (take_err HE.out).2.2] at hp
    obtain ⟨v2, h2, _⟩ := hp.ex
    obtain ⟨d0, d1, df⟩ := h2.cells
    have HR0 : Hid (val (takeR l e hd) = 0) := Lib.hid (by rw [(take_err HE.out).2.1]; rfl)
    have HT := Lib.hid (vtake_any 0 h2)
    have HK2 := Lib.hid hp.kp
    rw [HR0.out]
    clear hp h2 df
    go_wp2_with fail
    refine (HT.out).mono ?_
    rintro r w2 ⟨rv, rfl, _, _, hp⟩
    rw [(take_err HE.out).1, (take_err HE.out).2.2] at hp
    obtain ⟨v3, h3, _⟩ := hp.ex
    obtain ⟨g0, g1, gf⟩ := h3.cells
    have gf0 := gf 0
    have HX := Lib.hid (HF.out w2 v3 l ((HK2.out).trans hp.kp (fun _ _ h => h)) h3)
    clear hp h3 gf
    have hv := HV.out
    subst hv
    go_wp2_with fail
    go_ret
    exact HX.out

set_option maxHeartbeats 4000000 in
theorem vcounted_any (hd : Nat) (most : Int) (h1 : 1 ≤ hd) (h4 : hd ≤ 4) (hm : most ≤ 9223372036854775807) {w : World} {B u : Nat} {v : Value} {l : List Int} {e : Int} (h : VK w B u v l e) (hr : Rng l) :
    Calls Try.prog 61 #[.pointer (some ⟨u, 0, none⟩), .int .i64 hd, .int .i64 most] w (CntV w B u v l e hd most) := by
  by_cases hbad : e ≠ 0 ∨ most < 0
  · exact vcounted_bad hd most h1 h4 h hr hbad
  have he : e = 0 := by
    rcases Int.lt_trichotomy e 0 with h | h | h
    · exact absurd (.inl (by omega)) hbad
    · exact h
    · exact absurd (.inl (by omega)) hbad
  subst he
  have hm0 : ¬ most < 0 := fun h => hbad (.inr h)
  obtain ⟨a, cap, hv⟩ := sees_form h.sees
  obtain ⟨c0, c1, cf⟩ := h.cells
  have hE : cntE l 0 hd most = countE l hd most := by unfold cntE; rw [if_neg (by simp)]
  have hfin : countE l hd most ≠ 0 → ∀ w2 v2 l2, Kp (fun k => k = u) w w2 → VK w2 B u v2 l2 (countE l hd most) → CntV w B u v l 0 hd most (.returned (.slice none 0 0)) (w2.setCell ⟨u, 0, none⟩ v) := by
    intro hne w2 v2 l2 hk h2
    unfold CntV cntR cntL
    rw [hE, if_neg hne, if_neg hne]
    exact ⟨_, rfl, .inl ⟨rfl, rfl⟩, fun h => absurd rfl h, h.restore hk h2⟩
  have HF := Lib.hid hfin
  have HN := Lib.hid (vNum_any hd (by omega) h hr)
  have HV := Lib.hid hv
  by_cases hlen : l.length < hd
  · have hC : countE l hd most = 11 := by unfold countE; rw [if_neg hm0, if_pos hlen]
    have eE : takeE l 0 hd = 11 := by unfold takeE; rw [if_neg (by simp), if_neg (by omega), if_pos (by omega)]
    have eR : takeR l 0 hd = [] := by unfold takeR; rw [eE, if_neg (by omega)]
    have eL : takeL l 0 hd = l := by unfold takeL; rw [eE, if_neg (by omega)]
    rw [hC] at HF
    have HRR := Lib.hid (And.intro eE (And.intro eR eL))
    clear h hr hbad cf hfin hE hv hlen hC eE eR eL
    go_enter Try.func61, Try.ntmps61
    go_wp2_with fail
    refine (HN.out).mono ?_
    rintro r w1 ⟨rfl, hp⟩
    rw [HRR.out.1, HRR.out.2.2] at hp
    obtain ⟨v2, h2, _⟩ := hp.ex
    obtain ⟨d0, d1, df⟩ := h2.cells
    have HR0 : Hid (val (takeR l 0 hd) = 0) := Lib.hid (by rw [HRR.out.2.1]; rfl)
    have HT := Lib.hid (vtake_any 0 h2)
    have HK2 := Lib.hid hp.kp
    rw [HR0.out]
    clear hp h2 df
    go_wp2_with fail
    refine (HT.out).mono ?_
    rintro r w2 ⟨rv, rfl, _, _, hp⟩
    rw [(take_err (show (11 : Int) ≠ 0 by omega)).1, (take_err (show (11 : Int) ≠ 0 by omega)).2.2] at hp
    obtain ⟨v3, h3, _⟩ := hp.ex
    obtain ⟨g0, g1, gf⟩ := h3.cells
    have gf0 := gf 0
    have HX := Lib.hid (HF.out (by omega) w2 v3 l ((HK2.out).trans hp.kp (fun _ _ h => h)) h3)
    clear hp h3 gf
    have hv := HV.out
    subst hv
    go_wp2_with fail
    go_ret
    exact HX.out
  · have eE : takeE l 0 hd = 0 := by unfold takeE; rw [if_neg (by simp), if_neg (by omega), if_neg (by omega)]
    have eR : takeR l 0 hd = l.take hd := by unfold takeR; rw [if_pos eE, Int.toNat_natCast]
    have eL : takeL l 0 hd = l.drop hd := by unfold takeL; rw [if_pos eE, Int.toNat_natCast]
    have hbd := hd_bd l hr hd h4
    have hld : (l.drop hd).length = l.length - hd := List.length_drop
    have hCz : countE l hd most = if most < val (l.take hd) then 3 else if (l.length : Int) - hd < val (l.take hd) then 11 else 0 := by unfold countE; rw [if_neg hm0, if_neg hlen]
    have hR0 : cntR l 0 hd most = if countE l hd most = 0 then (l.drop hd).take (val (l.take hd)).toNat else [] := by unfold cntR; rw [hE]
    have hL0 : cntL l 0 hd most = if countE l hd most = 0 then (l.drop hd).drop (val (l.take hd)).toNat else l := by unfold cntL; rw [hE]
    obtain ⟨z, hze⟩ : ∃ z, z = val (l.take hd) := ⟨_, rfl⟩
    rw [← hze] at hbd hCz hR0 hL0
    obtain ⟨z0, z1⟩ := hbd
    have HRR := Lib.hid (And.intro eE (And.intro eR eL))
    have HZ : Hid (val (takeR l 0 hd) = z) := Lib.hid (by rw [eR, hze])
    have HLD := Lib.hid hld
    have hmm : max most 0 = most := by omega
    rcases Int.lt_or_le most z with hz | hz
    · rw [if_pos hz] at hCz
      rw [hCz] at HF
      clear h hr hbad cf hfin hE hv hlen eE eR eL hld hze hCz hR0 hL0
      go_enter Try.func61, Try.ntmps61
      go_wp2_with fail
      refine (HN.out).mono ?_
      rintro r w1 ⟨rfl, hp⟩
      rw [HRR.out.1, HRR.out.2.2] at hp
      obtain ⟨v2, h2, _⟩ := hp.ex
      obtain ⟨d0, d1, df⟩ := h2.cells
      have df1 := df 1
      obtain ⟨v2', h2e, _⟩ := (h2.setErr 3).ex
      have HT := Lib.hid (vtake_any z h2e)
      have HK2 := Lib.hid (hp.kp.trans (h2.setErr 3).kp (fun _ _ h => h))
      rw [HZ.out]
      clear hp h2 df h2e
      go_wp2_with fail
      refine (HT.out).mono ?_
      rintro r w2 ⟨rv, rfl, _, _, hp⟩
      rw [(take_err (show (3 : Int) ≠ 0 by omega)).1, (take_err (show (3 : Int) ≠ 0 by omega)).2.2] at hp
      obtain ⟨v3, h3, _⟩ := hp.ex
      obtain ⟨g0, g1, gf⟩ := h3.cells
      have gf0 := gf 0
      have HX := Lib.hid (HF.out (by omega) w2 v3 _ ((HK2.out).trans hp.kp (fun _ _ h => h)) h3)
      clear hp h3 gf
      have hv := HV.out
      subst hv
      go_wp2_with fail
      go_ret
      exact HX.out
    · rw [if_neg (by omega)] at hCz
      rcases Int.lt_or_le ((l.length : Int) - hd) z with hz2 | hz2
      · rw [if_pos hz2] at hCz
        rw [hCz] at HF
        have HTE : Hid (takeE (l.drop hd) 0 z = 11 ∧ takeL (l.drop hd) 0 z = l.drop hd) := Lib.hid (by
          have h := show takeE (l.drop hd) 0 z = 11 by unfold takeE; rw [if_neg (by simp), if_neg (by omega), if_pos (by omega)]
          exact ⟨h, by unfold takeL; rw [h, if_neg (by omega)]⟩)
        clear h hr hbad cf hfin hE hv hlen eE eR eL hld hze hCz hR0 hL0
        go_enter Try.func61, Try.ntmps61
        go_wp2_with fail
        refine (HN.out).mono ?_
        rintro r w1 ⟨rfl, hp⟩
        rw [HRR.out.1, HRR.out.2.2] at hp
        obtain ⟨v2, h2, _⟩ := hp.ex
        obtain ⟨d0, d1, df⟩ := h2.cells
        have HT := Lib.hid (vtake_any z h2)
        have HK2 := Lib.hid hp.kp
        rw [HZ.out]
        clear hp h2 df
        go_wp2_with fail
        refine (HT.out).mono ?_
        rintro r w2 ⟨rv, rfl, _, _, hp⟩
        rw [HTE.out.1, HTE.out.2] at hp
        obtain ⟨v3, h3, _⟩ := hp.ex
        obtain ⟨g0, g1, gf⟩ := h3.cells
        have gf0 := gf 0
        have HX := Lib.hid (HF.out (by omega) w2 v3 _ ((HK2.out).trans hp.kp (fun _ _ h => h)) h3)
        clear hp h3 gf
        have hv := HV.out
        subst hv
        go_wp2_with fail
        go_ret
        exact HX.out
      · rw [if_neg (by omega)] at hCz
        rw [hCz, if_pos rfl] at hR0 hL0
        have HCR := Lib.hid (And.intro hR0 (And.intro hL0 (hE.trans hCz)))
        have HTE : Hid (takeE (l.drop hd) 0 z = 0 ∧ takeR (l.drop hd) 0 z = (l.drop hd).take z.toNat ∧ takeL (l.drop hd) 0 z = (l.drop hd).drop z.toNat) := Lib.hid (by
          have h := show takeE (l.drop hd) 0 z = 0 by unfold takeE; rw [if_neg (by simp), if_neg (by omega), if_neg (by omega)]
          exact ⟨h, by unfold takeR; rw [h, if_pos rfl], by unfold takeL; rw [h, if_pos rfl]⟩)
        clear h hr hbad cf hfin hE hv hlen eE eR eL hld hze hCz hR0 hL0
        go_enter Try.func61, Try.ntmps61
        go_wp2_with fail
        refine (HN.out).mono ?_
        rintro r w1 ⟨rfl, hp⟩
        rw [HRR.out.1, HRR.out.2.2] at hp
        obtain ⟨v2, h2, hv2⟩ := hp.ex
        obtain ⟨d0, d1, df⟩ := h2.cells
        have HT := Lib.hid (vtake_any z h2)
        have HK2 := Lib.hid (And.intro hp.kp hv2)
        rw [HZ.out]
        clear hp h2 df hv2
        go_wp2_with fail
        refine (HT.out).mono ?_
        rintro r w2 ⟨rv, rfl, hs, ho, hp⟩
        rw [HTE.out.1, HTE.out.2.2] at hp
        rw [HTE.out.2.1] at hs ho
        obtain ⟨v3, h3, hv3⟩ := hp.ex
        obtain ⟨g0, g1, gf⟩ := h3.cells
        have hfin : CntV w B u v l 0 hd most (.returned rv) w2 := by
          unfold CntV
          rw [HCR.out.1, HCR.out.2.1, HCR.out.2.2]
          exact ⟨rv, rfl, hs, fun hne => (ho hne).trans (HK2.out.2 (fun hll => hne (by rw [hll]; simp))), ⟨v3, h3, fun hne => (hv3 hne).trans (HK2.out.2 (fun hll => hne (by rw [hll]; simp)))⟩, (HK2.out.1).trans hp.kp (fun _ _ h => h)⟩
        have HX := Lib.hid hfin
        clear hp h3 gf hs ho hfin hv3
        go_wp2_with fail
        go_ret
        exact HX.out

set_option maxHeartbeats 400000 in
theorem vBytes_any (most : Int) (hm : most ≤ 9223372036854775807) {w : World} {B u : Nat} {v : Value} {l : List Int} {e : Int} (h : VK w B u v l e) (hr : Rng l) :
    Calls Try.prog 51 #[.pointer (some ⟨u, 0, none⟩), .int .i64 most] w (CntV w B u v l e 4 most) := by
  have HT := Lib.hid (vcounted_any 4 most (by omega) (by omega) hm h hr)
  clear h hr
  go_enter Try.func51, Try.ntmps51
  go_wp2_with fail
  refine (HT.out).mono ?_
  rintro r w1 ⟨rv, rfl, hs, ho, hp⟩
  have HP := Lib.hid (And.intro hs (And.intro ho hp))
  clear hs ho hp
  go_wp2_with fail
  go_ret
  exact ⟨rv, rfl, HP.out.1, HP.out.2.1, HP.out.2.2⟩
set_option maxHeartbeats 400000 in
theorem vText_any (most : Int) (hm : most ≤ 9223372036854775807) {w : World} {B u : Nat} {v : Value} {l : List Int} {e : Int} (h : VK w B u v l e) (hr : Rng l) :
    Calls Try.prog 52 #[.pointer (some ⟨u, 0, none⟩), .int .i64 most] w fun r w' => r = .returned (.string (strOfNums (cntR l e 2 most))) ∧ VPost w B u v (cntL l e 2 most) (cntE l e 2 most) w' := by
  have HT := Lib.hid (vcounted_any 2 most (by omega) (by omega) hm h hr)
  clear h hr
  go_enter Try.func52, Try.ntmps52
  go_wp2_with fail
  refine (HT.out).mono ?_
  rintro r w1 ⟨rv, rfl, hs, _, hp⟩
  have hst := run_string_of hs
  obtain ⟨a, c, hv⟩ := sees_form hs
  subst hv
  have HP := Lib.hid hp
  clear hs hp
  go_wp2_with fail
  go_ret
  exact ⟨rfl, HP.out⟩

set_option maxHeartbeats 400000 in
theorem vEnd_any {w : World} {B u : Nat} {v : Value} {l : List Int} {e : Int} (h : VK w B u v l e) :
    Calls Try.prog 26 #[.pointer (some ⟨u, 0, none⟩)] w fun r w' => r = .returned (.int .i64 (endE l e)) ∧ w = w' := by
  obtain ⟨c0, c1, cf⟩ := h.cells
  obtain ⟨a, cap, rfl⟩ := sees_form h.sees
  clear h cf
  by_cases he : e = 0
  · subst he
    by_cases hl : 0 < l.length
    · have e1 : endE l 0 = 12 := by unfold endE; rw [if_neg (by simp), if_pos hl]
      rw [e1]
      have hl' : (0 : Int) < (l.length : Int) := by omega
      clear e1 hl
      go_enter Try.func26, Try.ntmps26
      go_wp2
      go_ret
      exact ⟨rfl, rfl⟩
    · have e1 : endE l 0 = 0 := by unfold endE; rw [if_neg (by simp), if_neg hl]
      rw [e1]
      obtain rfl : l = [] := List.eq_nil_of_length_eq_zero (by omega)
      simp only [List.length_nil] at c0 ⊢
      clear e1 hl
      go_enter Try.func26, Try.ntmps26
      go_wp2
      go_ret
      exact ⟨rfl, rfl⟩
  · have e1 : endE l e = e := by unfold endE; rw [if_pos he]
    rw [e1]
    have hb : (e == 0) = false := by simpa using he
    clear e1
    go_enter Try.func26, Try.ntmps26
    go_wp2
    go_ret
    exact ⟨rfl, rfl⟩

def ReadV (w : World) (B : Nat) (l : List Int) (r : Ending) (w' : World) : Prop :=
  ∃ u v, r = .returned (.pointer (some ⟨u, 0, none⟩)) ∧ VK w' B u v l 0 ∧ w.heap.size ≤ u ∧ (l ≠ [] → ∀ g, v.ownBlock = some g → w.heap.size ≤ g) ∧ Kp (fun _ => False) w w'
set_option maxHeartbeats 400000 in
theorem vRead_any {w : World} {B : Nat} {b : Value} {l : List Int} (hB : B ≤ w.heap.size) (hs : Sees w b l) (hl : l.length ≤ 1000000000) :
    Calls Try.prog 21 #[b] w (ReadV w B l) := by
  obtain ⟨v2, w1, hap, ho, hk, _⟩ := run_append_by (w := w) (B := w.heap.size) (v := .slice none 0 0) (l := []) (Nat.le_refl _) (.inl ⟨rfl, rfl⟩) hs (by simpa using hl)
  rw [List.nil_append] at ho
  have hk1 : Kp (fun _ => False) w w1 := hk.mono (fun _ _ h => by cases h)
  have hk2 : Kp (fun _ => False) w1 (w1.alloc (.cells #[v2, .int .i64 0] 50)) := (Kp.refl _ _).alloc _
  have hfin : ReadV w B l (.returned (.pointer (some ⟨w1.heap.size, 0, none⟩))) (w1.alloc (.cells #[v2, .int .i64 0] 50)) :=
    ⟨_, v2, rfl, ⟨new_blk w1 _, ho.sees.kept hk2 (fun _ _ _ f => f), fun _ g hg => by have := (ho.lt g hg).2; omega, Nat.le_trans hB hk1.size⟩, hk1.size, fun _ g hg => (ho.lt g hg).1, hk1.trans hk2 (fun _ _ f => f)⟩
  have HF := Lib.hid hfin
  have HA := Lib.hid hap
  obtain ⟨a, cap, hbv⟩ := sees_form hs
  subst hbv
  obtain ⟨a2, cap2, hv⟩ := sees_form ho.sees
  subst hv
  clear hs hap ho hk hk1 hk2 hfin
  go_enter Try.func21, Try.ntmps21
  go_wp2_with (at_builtin; refine Lib.wpList_append_run _ rfl _ _ _ _ rfl _ _ rfl rfl _ _ (HA.out _) ?_)
  go_ret
  exact HF.out

end Go.Proofs.Ytahdnapinlbflaa
