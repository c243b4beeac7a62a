/-
  Contracts of package pack's unpacker: what stands behind a count; how many bytes are left, the first error, the end.
-/
import Derived.Test.YtleapcbkkggecaaUn
namespace Go.Proofs.Ytleapcbkkggecaa
open Go.ChangeShapes Go.WideShapes Go.ChangeAt Go.RowKit

/-- the error of what stands behind a count -/
def countE (l : List Int) (hd : Nat) (most : Int) : Int :=
  if most < 0 then 1 else if l.length < hd then 11 else if most < val (l.take hd) then 3 else if (l.length : Int) - hd < val (l.take hd) then 11 else 0
def cntE (l : List Int) (e : Int) (hd : Nat) (most : Int) : Int := if e ≠ 0 then e else countE l hd most
def cntR (l : List Int) (e : Int) (hd : Nat) (most : Int) : List Int := if cntE l e hd most = 0 then (l.drop hd).take (val (l.take hd)).toNat else []
def cntL (l : List Int) (e : Int) (hd : Nat) (most : Int) : List Int := if cntE l e hd most = 0 then (l.drop hd).drop (val (l.take hd)).toNat else l

theorem Sees.lit {w : World} {v : Value} {l : List Int} (h : Sees w v l) (hne : l ≠ []) : ∃ b off cap, v = .slice (some ⟨b, off, none⟩) l.length cap ∧ l.length ≤ cap ∧ cap ≤ maxLen := by
  rcases h with ⟨_, h⟩ | ⟨ad, cap, rfl, h1, h2, hc⟩
  · exact absurd h hne
  · obtain ⟨x, r, rfl⟩ := List.exists_cons_of_ne_nil hne
    have hsp := spot_of_cell (hc 0 x rfl)
    obtain ⟨b, off, s⟩ := ad
    have hs' : s = none := by simpa [Addr.add] using hsp
    subst hs'
    exact ⟨b, off, cap, rfl, h1, h2⟩

theorem hd_bd (l : List Int) (hr : Rng l) (hd : Nat) (h4 : hd ≤ 4) : 0 ≤ val (l.take hd) ∧ val (l.take hd) < 4294967296 := by
  have h := val_bd (l.take hd) (fun y hy => hr y (List.mem_of_mem_take hy))
  have hp := pow_le_le (l.take hd).length 4 (by rw [List.length_take]; omega)
  have e7 : (256 : Int) ^ 4 = 4294967296 := by decide
  omega

set_option maxHeartbeats 1000000 in
theorem countError_any (hd : Nat) (most : Int) (h1 : 1 ≤ hd) (h4 : hd ≤ 4) (hm : most ≤ 9223372036854775807) {w : World} {v : Value} {l : List Int} (hs : Sees w v l) (hr : Rng l) (hl : l.length ≤ 1000000000) :
    Calls Try.prog 59 #[v, .int .i64 hd, .int .i64 most] w fun r w' => r = .returned (.int .i64 (countE l hd most)) ∧ w = w' := by
  by_cases c1 : most < 0
  · have e1 : countE l hd most = 1 := by unfold countE; rw [if_pos c1]
    obtain ⟨a, cap, rfl⟩ := sees_form hs
    rw [e1]
    clear hs hr e1
    go_enter Try.func59, Try.ntmps59
    go_wp2_with fail
    go_ret
    exact ⟨rfl, rfl⟩
  · by_cases c2 : l.length < hd
    · have e1 : countE l hd most = 11 := by unfold countE; rw [if_neg c1, if_pos c2]
      obtain ⟨a, cap, rfl⟩ := sees_form hs
      rw [e1]
      have c2' : (l.length : Int) < (hd : Int) := by omega
      clear hs hr e1
      go_enter Try.func59, Try.ntmps59
      go_wp2_with fail
      go_ret
      exact ⟨rfl, rfl⟩
    · have hne : l ≠ [] := by intro h; subst h; simp at c2; omega
      obtain ⟨b, off, cap, rfl, hlc, hlm⟩ := hs.lit hne
      have hbd := hd_bd l hr hd h4
      have ht := sees_take hs hd (by omega)
      have HN := Lib.hid (number_any ht (fun y hy => hr y (List.mem_of_mem_take hy)) (by rw [List.length_take]; omega))
      have hE : countE l hd most = if most < val (l.take hd) then 3 else if (l.length : Int) - hd < val (l.take hd) then 11 else 0 := by unfold countE; rw [if_neg c1, if_neg c2]
      rw [hE]
      obtain ⟨z, hz⟩ : ∃ z, z = val (l.take hd) := ⟨_, rfl⟩
      rw [← hz] at HN hbd ⊢
      obtain ⟨z0, z1⟩ := hbd
      have hcap63 : cap ≤ 9223372036854775807 := hlm
      have hhd : hd ≤ cap := by omega
      have c2' : ¬ (l.length : Int) < (hd : Int) := by omega
      clear hs hr hE hz ht hne
      by_cases c3 : most < z
      · rw [if_pos c3]
        go_enter Try.func59, Try.ntmps59
        go_wp2_with fail
        refine (HN.out).mono ?_
        rintro r w1 ⟨rfl, rfl⟩
        go_wp2_with fail
        go_ret
        exact ⟨rfl, rfl⟩
      · rw [if_neg c3]
        by_cases c4 : (l.length : Int) - hd < z
        · rw [if_pos c4]
          go_enter Try.func59, Try.ntmps59
          go_wp2_with fail
          refine (HN.out).mono ?_
          rintro r w1 ⟨rfl, rfl⟩
          go_wp2_with fail
          go_ret
          exact ⟨rfl, rfl⟩
        · rw [if_neg c4]
          go_enter Try.func59, Try.ntmps59
          go_wp2_with fail
          refine (HN.out).mono ?_
          rintro r w1 ⟨rfl, rfl⟩
          go_wp2_with fail
          go_ret
          exact ⟨rfl, rfl⟩

def CntP (w : World) (B u : Nat) (v : Value) (l : List Int) (e : Int) (hd : Nat) (most : Int) (r : Ending) (w' : World) : Prop :=
  ∃ rv, r = .returned rv ∧ Sees w' rv (cntR l e hd most) ∧ UPost w B u v (cntL l e hd most) (cntE l e hd most) w'
/-- what is told lies in new memory -/
def CntU (w : World) (B u : Nat) (v : Value) (l : List Int) (e : Int) (hd : Nat) (most : Int) (r : Ending) (w' : World) : Prop :=
  ∃ rv, r = .returned rv ∧ Sees w' rv (cntR l e hd most) ∧ (∀ g, rv.ownBlock = some g → w.heap.size ≤ g) ∧ UPost w B u v (cntL l e hd most) (cntE l e hd most) w'

theorem UPost.chain {w w1 w2 : World} {B u : Nat} {v v1 : Value} {l1 l2 : List Int} {e1 e2 : Int} (hk : Kp (fun k => k = u) w w1) (hv : l1 ≠ [] → v1.ownBlock = v.ownBlock) (hl : l2 ≠ [] → l1 ≠ []) (h2 : UPost w1 B u v1 l2 e2 w2) (_h1 : UK w1 B u v1 l1 e1) : UPost w B u v l2 e2 w2 := by
  obtain ⟨⟨v2, h3, h4⟩, hk2⟩ := h2
  exact ⟨⟨v2, h3, fun hne => (h4 hne).trans (hv (hl hne))⟩, hk.trans hk2 (fun _ _ h => h)⟩

set_option maxHeartbeats 2000000 in
theorem ucounted_any (hd : Nat) (most : Int) (h1 : 1 ≤ hd) (h4 : hd ≤ 4) (hm : most ≤ 9223372036854775807) {w : World} {B u : Nat} {v : Value} {l : List Int} {e : Int} (h : UK w B u v l e) (hr : Rng l) (hl : l.length ≤ 1000000000) :
    Calls Try.prog 57 #[.pointer (some ⟨u, 0, none⟩), .int .i64 hd, .int .i64 most] w (CntP w B u v l e hd most) := by
  obtain ⟨c0, c1, c2, cf⟩ := h.cells
  have cf2 := cf 2
  by_cases he : e = 0
  · subst he
    have hE : cntE l 0 hd most = countE l hd most := by unfold cntE; rw [if_neg (by simp)]
    have HC := Lib.hid (countError_any hd most h1 h4 hm h.sees hr hl)
    obtain ⟨v1, h11, hv1⟩ := (h.setErr (countE l hd most)).ex
    have hk1 := (h.setErr (countE l hd most)).kp
    by_cases hc : countE l hd most = 0
    · have hlen : hd ≤ l.length := by
        rcases Nat.lt_or_ge l.length hd with hh | hh
        · exfalso; unfold countE at hc; rw [if_pos hh] at hc; split at hc <;> omega
        · exact hh
      have hz : val (l.take hd) ≤ (l.length : Int) - hd := by
        rcases Int.lt_or_le ((l.length : Int) - hd) (val (l.take hd)) with hh | hh
        · exfalso; unfold countE at hc; rw [if_neg (by omega), if_pos hh] at hc; split at hc
          · omega
          · split at hc <;> omega
        · exact hh
      have hbd := hd_bd l hr hd h4
      rw [hc] at h11 HC hk1
      have hT1 := Lib.hid (utake_any hd h11)
      have eE : takeE l 0 hd = 0 := by unfold takeE; rw [if_neg (by simp), if_neg (by omega), if_neg (by omega)]
      have eR : takeR l 0 hd = l.take hd := by unfold takeR; rw [if_pos eE, Int.toNat_natCast]
      have eL : takeL l 0 hd = l.drop hd := by unfold takeL; rw [if_pos eE, Int.toNat_natCast]
      have hR : cntR l 0 hd most = (l.drop hd).take (val (l.take hd)).toNat := by unfold cntR; rw [hE, if_pos hc]
      have hL : cntL l 0 hd most = (l.drop hd).drop (val (l.take hd)).toNat := by unfold cntL; rw [hE, if_pos hc]
      obtain ⟨z, hze⟩ : ∃ z, z = val (l.take hd) := ⟨_, rfl⟩
      rw [← hze] at hz hbd hR hL
      obtain ⟨z0, z1⟩ := hbd
      have HRng := Lib.hid (show Rng (l.take hd) from fun y hy => hr y (List.mem_of_mem_take hy))
      have HLen := Lib.hid (show (l.take hd).length ≤ 8 by rw [List.length_take]; omega)
      have HRE := Lib.hid (And.intro hR (And.intro hL (hE.trans hc)))
      have HTR := Lib.hid (And.intro eR (And.intro eL eE))
      have HZ := Lib.hid hze
      have HK1 := Lib.hid hk1
      have HV1 := Lib.hid hv1
      have H11 := Lib.hid h11
      have hzd : (l.drop hd).length = l.length - hd := List.length_drop
      have HZD := Lib.hid hzd
      clear h cf hE hc eR eL eE hR hL hze hk1 hv1 h11 hr hzd
      go_enter Try.func57, Try.ntmps57
      go_wp2_with (first | (go_at_call 59; go_must (refine (HC.out).mono ?_; rintro r w1 ⟨rfl, rfl⟩)) | (go_at_call 49; go_in))
      refine (hT1.out).mono ?_
      rintro r w2 ⟨rv, rfl, hs2, _, hp2⟩
      rw [HTR.out.1] at hs2
      rw [HTR.out.2.1, HTR.out.2.2] at hp2
      have HN := Lib.hid (number_any hs2 HRng.out HLen.out)
      rw [← HZ.out] at HN
      obtain ⟨v2, h2, hv2⟩ := hp2.ex
      have HT2 := Lib.hid (utake_any z h2)
      have HCH := Lib.hid (fun l3 w3 (hl3 : l3 ≠ [] → l.drop hd ≠ []) (h3 : UPost w2 B u v2 l3 0 w3) => UPost.chain (l1 := l) HK1.out HV1.out (fun hne => fun hll => hl3 hne (by rw [hll]; simp)) (UPost.chain hp2.kp hv2 hl3 h3 h2) H11.out)
      clear hs2 hp2 h2 hv2
      go_wp2_with fail
      refine (HN.out).mono ?_
      rintro r w3 ⟨rfl, rfl⟩
      go_wp2_with fail
      refine (HT2.out).mono ?_
      rintro r w3 ⟨rv3, rfl, hs3, _, hp3⟩
      have e3 : takeE (l.drop hd) 0 z = 0 := by unfold takeE; rw [if_neg (by simp), if_neg (by omega), if_neg (by have := HZD.out; omega)]
      have hfin : CntP w B u v l 0 hd most (.returned rv3) w3 := by
        unfold CntP
        rw [HRE.out.1, HRE.out.2.1, HRE.out.2.2]
        unfold takeR at hs3
        unfold takeL at hp3
        rw [e3, if_pos rfl] at hs3 hp3
        exact ⟨rv3, rfl, hs3, HCH.out _ w3 (fun hne hll => hne (by rw [hll]; simp)) hp3⟩
      have HF := Lib.hid hfin
      clear hs3 hp3 e3 hfin
      go_wp2_with fail
      go_ret
      exact HF.out
    · have hfin : CntP w B u v l 0 hd most (.returned (.slice none 0 0)) (w.setCell ⟨u, 2, none⟩ (.int .i64 (countE l hd most))) := by
        unfold CntP cntR cntL
        rw [hE, if_neg hc, if_neg hc]
        exact ⟨_, rfl, .inl ⟨rfl, rfl⟩, h.setErr _⟩
      have HF := Lib.hid hfin
      have hb : (countE l hd most != 0) = true := by simpa using hc
      clear hfin h cf hE hc h11 hk1 hv1
      go_enter Try.func57, Try.ntmps57
      go_wp2_with (first | (go_at_call 59; go_must (refine (HC.out).mono ?_; rintro r w1 ⟨rfl, rfl⟩)) | (go_at_call 49; go_in))
      go_ret
      exact HF.out
  · have hE : cntE l e hd most = e := by unfold cntE; rw [if_pos he]
    have hfin : CntP w B u v l e hd most (.returned (.slice none 0 0)) w := by
      unfold CntP cntR cntL
      rw [hE, if_neg he, if_neg he]
      exact ⟨_, rfl, .inl ⟨rfl, rfl⟩, ⟨v, h, fun _ => rfl⟩, Kp.refl _ _⟩
    have hb : (e != 0) = true := by simpa using he
    have HF := Lib.hid hfin
    clear hfin h cf hE
    go_enter Try.func57, Try.ntmps57
    go_wp2
    go_ret
    exact HF.out

theorem cntR_rng {l : List Int} (h : Rng l) (e : Int) (hd : Nat) (m : Int) : Rng (cntR l e hd m) := by
  unfold cntR
  split
  · exact fun y hy => h y (List.mem_of_mem_drop (List.mem_of_mem_take hy))
  · intro y hy; cases hy
theorem cntL_rng {l : List Int} (h : Rng l) (e : Int) (hd : Nat) (m : Int) : Rng (cntL l e hd m) := by
  unfold cntL
  split
  · exact fun y hy => h y (List.mem_of_mem_drop (List.mem_of_mem_drop hy))
  · exact h
theorem cntR_len (l : List Int) (e : Int) (hd : Nat) (m : Int) : (cntR l e hd m).length ≤ l.length := by
  unfold cntR
  split
  · rw [List.length_take, List.length_drop]; omega
  · exact Nat.zero_le _
theorem cntL_len (l : List Int) (e : Int) (hd : Nat) (m : Int) : (cntL l e hd m).length ≤ l.length := by
  unfold cntL
  split
  · rw [List.length_drop, List.length_drop]; omega
  · exact Nat.le_refl _
theorem takeL_len (l : List Int) (e n : Int) : (takeL l e n).length ≤ l.length := by
  unfold takeL
  split
  · rw [List.length_drop]; omega
  · exact Nat.le_refl _

set_option maxHeartbeats 400000 in
theorem uBytes_any (most : Int) (hm : most ≤ 9223372036854775807) {w : World} {B u : Nat} {v : Value} {l : List Int} {e : Int} (h : UK w B u v l e) (hr : Rng l) (hl : l.length ≤ 1000000000) :
    Calls Try.prog 48 #[.pointer (some ⟨u, 0, none⟩), .int .i64 most] w (CntU w B u v l e 4 most) := by
  have HT := Lib.hid (ucounted_any 4 most (by omega) (by omega) hm h hr hl)
  have HU := Lib.hid (lt_of_blk h.cell)
  have HL := Lib.hid (cntR_len l e 4 most)
  clear h hr
  go_enter Try.func48, Try.ntmps48
  go_wp2_with fail
  refine (HT.out).mono ?_
  rintro r w1 ⟨rv, rfl, hs, hp⟩
  have HC := Lib.hid (slclone_any hs (by have := HL.out; omega))
  have HP := Lib.hid hp
  clear hs hp
  go_wp2_with fail
  refine (HC.out).mono ?_
  rintro r w2 ⟨v2, rfl, ho, hk⟩
  have HF := Lib.hid (And.intro ho.sees (And.intro (fun g hg => Nat.le_trans HP.out.kp.size (ho.lt g hg).1) (UPost.later HP.out HU.out hk)))
  clear ho hk
  go_wp2_with fail
  go_ret
  exact ⟨v2, rfl, HF.out.1, HF.out.2.1, HF.out.2.2⟩

set_option maxHeartbeats 400000 in
theorem uErr_any {w : World} {B u : Nat} {v : Value} {l : List Int} {e : Int} (h : UK w B u v l e) :
    Calls Try.prog 49 #[.pointer (some ⟨u, 0, none⟩)] w fun r w' => r = .returned (.int .i64 e) ∧ w = w' := by
  obtain ⟨c0, c1, c2, cf⟩ := h.cells
  clear h cf
  go_enter Try.func49, Try.ntmps49
  go_wp2
  go_ret
  exact ⟨rfl, rfl⟩
/-- the error at the end -/
def endE (l : List Int) (e : Int) : Int := if e ≠ 0 then e else if 0 < l.length then 12 else 0
set_option maxHeartbeats 400000 in
theorem uEnd_any {w : World} {B u : Nat} {v : Value} {l : List Int} {e : Int} (h : UK w B u v l e) :
    Calls Try.prog 34 #[.pointer (some ⟨u, 0, none⟩)] w fun r w' => r = .returned (.int .i64 (endE l e)) ∧ w = w' := by
  obtain ⟨c0, c1, c2, cf⟩ := h.cells
  obtain ⟨a, cap, rfl⟩ := sees_form h.sees
  clear h cf
  by_cases he : e = 0
  · subst he
    by_cases hl : 0 < l.length
    · have e1 : endE l 0 = 12 := by unfold endE; rw [if_neg (by simp), if_pos hl]
      rw [e1]
      have hl' : (0 : Int) < (l.length : Int) := by omega
      clear e1 hl
      go_enter Try.func34, Try.ntmps34
      go_wp2
      go_ret
      exact ⟨rfl, rfl⟩
    · have e1 : endE l 0 = 0 := by unfold endE; rw [if_neg (by simp), if_neg hl]
      rw [e1]
      obtain rfl : l = [] := List.eq_nil_of_length_eq_zero (by omega)
      simp only [List.length_nil] at c1 ⊢
      clear e1 hl
      go_enter Try.func34, Try.ntmps34
      go_wp2
      go_ret
      exact ⟨rfl, rfl⟩
  · have e1 : endE l e = e := by unfold endE; rw [if_pos he]
    rw [e1]
    have hb : (e != 0) = true := by simpa using he
    clear e1
    go_enter Try.func34, Try.ntmps34
    go_wp2
    go_ret
    exact ⟨rfl, rfl⟩

/-- a new unpacker -/
def ReadP (w : World) (B : Nat) (l : List Int) (r : Ending) (w' : World) : Prop :=
  ∃ u v, r = .returned (.pointer (some ⟨u, 0, none⟩)) ∧ UK w' B u v l 0 ∧ w.heap.size ≤ u ∧ (l ≠ [] → ∀ g, v.ownBlock = some g → w.heap.size ≤ g) ∧ Kp (fun _ => False) w w'
set_option maxHeartbeats 400000 in
theorem uRead_any {w : World} {B : Nat} {b : Value} {l : List Int} (hB : B ≤ w.heap.size) (hs : Sees w b l) (hl : l.length ≤ 1000000000) :
    Calls Try.prog 28 #[b] w (ReadP w B l) := by
  have HC := Lib.hid (slclone_any hs hl)
  obtain ⟨a, cap, rfl⟩ := sees_form hs
  clear hs
  go_enter Try.func28, Try.ntmps28
  go_wp2_with fail
  refine (HC.out).mono ?_
  rintro r w1 ⟨v2, rfl, ho, hk⟩
  have hk2 : Kp (fun _ => False) w1 (w1.alloc (.cells #[.bool true, v2, .int .i64 0] 78)) := (Kp.refl _ _).alloc _
  have hfin : ReadP w B l (.returned (.pointer (some ⟨w1.heap.size, 0, none⟩))) (w1.alloc (.cells #[.bool true, v2, .int .i64 0] 78)) :=
    ⟨_, v2, rfl, ⟨new_blk w1 _, ho.sees.kept hk2 (fun _ _ _ f => f), fun _ g hg => by have := (ho.lt g hg).2; omega, Nat.le_trans hB hk.size⟩, hk.size, fun _ g hg => (ho.lt g hg).1, hk.trans hk2 (fun _ _ f => f)⟩
  have HF := Lib.hid hfin
  obtain ⟨a2, cap2, hv⟩ := sees_form ho.sees
  subst hv
  clear ho hk hk2 hfin
  go_wp2_with fail
  go_ret
  exact HF.out

end Go.Proofs.Ytleapcbkkggecaa
