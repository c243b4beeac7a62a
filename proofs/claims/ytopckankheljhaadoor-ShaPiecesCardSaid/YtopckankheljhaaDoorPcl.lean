/-
  ShaPieces's walk.
-/
import Derived.Test.YtopckankheljhaaDoorPc
namespace Go.Proofs.YtopckankheljhaaDoor
open Go.ChangeShapes Go.WideShapes Go.ChangeAt Go.RowKit

theorem SeesA.len {w : World} {v : Value} {ls : List (List Int)} (h : SeesA w v ls) : ∃ a c, v = .slice a ls.length c := by
  rcases h with ⟨rfl, rfl⟩ | ⟨ad, cap, rfl, _⟩
  · exact ⟨_, _, rfl⟩
  · exact ⟨_, _, rfl⟩
theorem flat_rng {ls : List (List Int)} (h : ∀ l ∈ ls, Rng l) (k : Nat) : Rng (ls.take k).flatten := by
  intro x hx
  obtain ⟨l, hl, hx⟩ := List.mem_flatten.1 hx
  exact h l (List.mem_of_mem_take hl) x hx
set_option maxRecDepth 100000 in
set_option maxHeartbeats 1000000 in
theorem pieces_law (v0 : Value) (ls : List (List Int)) (n : Int) (hn0 : 0 ≤ n) (hn1 : n ≤ 255) (w : World) (hs : SeesA w v0 ls) (hx : ∀ l ∈ ls, Rng l) (hR : Rts w) :
    Calls Tryd.prog 6 #[v0, .int .u8 n] w fun e w' => e = .returned (.bool true) ∧ Kp (fun _ => False) w w' := by
  have HS := Lib.hid hs
  have HX := Lib.hid hx
  obtain ⟨a0, c0, rfl⟩ := hs.len
  have HR := Lib.hid (fun w' (k : Kp (fun _ => False) w w') => hR.kept k (fun _ _ f => f))
  have HN := Lib.hid (new_any w hR)
  clear hs hx hR
  go_enter Tryd.func6, Tryd.ntmps6
  go_wp2_with fail
  refine HN.out.mono ?_
  rintro e w1 ⟨rfl, st1, k1, z1⟩
  have ST1 := Lib.hid st1
  have K1 := Lib.hid k1
  clear st1 k1 z1
  obtain ⟨p, hp⟩ : ∃ p, p = w.heap.size := ⟨_, rfl⟩
  rw [← hp] at ST1 ⊢
  have hp2 : 2 ≤ p := by rw [hp]; exact (HR.out _ (Kp.refl _ _)).size
  have hpw : w.heap.size ≤ p := by omega
  clear hp
  go_wp2_with fail
  refine (begun_any _ (HR.out _ K1.out)).mono ?_
  rintro e w2 ⟨rfl, k2⟩
  have ST2 := Lib.hid (ST1.out.kept k2 (fun f => f))
  have K2 := Lib.hid (K1.out.trans k2 (fun _ _ f => f))
  clear k2
  by_cases h40 : 40 < ls.length
  · have hd : decide ((40 : Int) < ls.length) = true := by simp; omega
    go_wp2_with fail
    refine (begun_any _ (HR.out _ K2.out)).mono ?_
    rintro e w3 ⟨rfl, k3⟩
    have K3 := Lib.hid (K2.out.trans k3 (fun _ _ f => f))
    clear k3
    go_wp2_with fail
    go_ret
    exact ⟨rfl, K3.out⟩
  · have hd : decide ((40 : Int) < ls.length) = false := by simp; omega
    have hstart : PcRel w p ls 0 (.slice none 0 0) w2 := ⟨ST2.out, .inl ⟨rfl, rfl⟩, (fun g hg => by cases hg), K2.out⟩
    have HST := Lib.hid hstart
    clear hstart
    go_wp2_with fail
    go_loopw [6, 7, 8, 9, 30] (fun v _ _ _ i wr => ∃ k : Nat, k ≤ ls.length ∧ i = .int .i64 k ∧ PcRel w p ls k v wr ∧ ∀ l ∈ ls.take k, l.length ≤ 300) (fun _ _ _ _ i _ => ls.length - (intOf i).toNat)
    case atStart => exact ⟨0, by omega, rfl, HST.out, fun l hl => by simp at hl⟩
    case round =>
      obtain ⟨k, hk, rfl, hr, hsm⟩ := hrel
      by_cases hlt : k < ls.length
      · obtain ⟨l, hl⟩ : ∃ l, ls[k]? = some l := ⟨ls[k], by simp [hlt]⟩
        rcases HS.out.far hr.kp hpw with ⟨_, e⟩ | ⟨ad, cap, hv, h1, h2, h3⟩
        · rw [e] at hlt; simp at hlt
        · obtain ⟨hne, u, hc, hsu, hfu⟩ := h3 k l hl
          cases hv
          obtain ⟨au, cu, rfl⟩ := hsu.len
          have hxl := HX.out l (List.mem_of_getElem? hl)
          obtain ⟨av, cv, hv'⟩ := hr.own.sees.len
          obtain ⟨m, hm⟩ : ∃ m, m = (ls.take k).flatten.length := ⟨_, rfl⟩
          rw [← hm] at hv'
          subst hv'
          have hF := flat_small hsm (by omega)
          have hd2 : decide ((k : Int) < ls.length) = true := by simp; omega
          clear h3 h1 h2 hne
          by_cases h300 : 300 < l.length
          · have hd3 : decide ((300 : Int) < l.length) = true := by simp; omega
            have HK := Lib.hid hr.kp
            clear hr hsm hl hF hsu hfu hxl hm
            go_wp2_with fail
            go_ret
            exact ⟨rfl, HK.out⟩
          · have hd3 : decide ((300 : Int) < l.length) = false := by simp; omega
            have hsm' : ∀ x ∈ ls.take (k + 1), x.length ≤ 300 := by
              rw [List.take_add_one, hl]
              intro x hx'
              rcases List.mem_append.1 hx' with h | h
              · exact hsm x h
              · simp at h; subst h; omega
            have hF' := flat_small hsm' (by omega)
            have hfl := take_flat ls k l hl
            have HW := Lib.hid (write_any (ls.take k).flatten [l] (fun x hx' => by simp at hx'; subst hx'; exact hxl) (by simp only [List.flatten_cons, List.flatten_nil, List.append_nil]; omega) (by simp) p _ _ (HR.out _ (hr.kp.alloc (.cells #[.slice au l.length cu] 22))) hp2 (one_piece hsu hfu hr.st.lt) (hr.st.kept ((Kp.refl (fun _ => False) wr).alloc _) (fun f => f)))
            have HNX := Lib.hid (fun w2 hst hk => piece_next (w2 := w2) hr hpw hl (by omega) hsu hfu (.cells #[.slice au l.length cu] 22) hst hk)
            have HSM := Lib.hid hsm'
            have HFL := Lib.hid hfl
            clear hr hsm hsm' hl hfl hsu hfu hm
            go_wp2_with fail
            refine HW.out.mono ?_
            rintro e wA ⟨rfl, stA, kA⟩
            rw [List.flatten_cons, List.flatten_nil, List.append_nil] at stA
            obtain ⟨v', wB, hap, hrB⟩ := HNX.out wA stA kA
            obtain ⟨av', cv', hv''⟩ := hrB.own.sees.len
            obtain ⟨m', hm'⟩ : ∃ m, m = (ls.take (k + 1)).flatten.length := ⟨_, rfl⟩
            rw [← hm'] at hv''
            subst hv''
            have HM' := Lib.hid hm'
            clear hm'
            have HAP := Lib.hid hap
            have HRB := Lib.hid hrB
            clear hap hrB stA kA
            have hFr := flat_rng HX.out (k + 1)
            have stF := HRB.out.st
            have owF := HRB.out.own
            obtain ⟨F, hFe⟩ : ∃ F, F = (ls.take (k + 1)).flatten := ⟨_, rfl⟩
            rw [← hFe] at hF' hFr stF owF HM'
            have hml : ((F.length : Int) != (m' : Int)) = false := by rw [HM'.out]; simp
            have KB := Lib.hid HRB.out.kp
            have QS := Lib.hid (fun w' (kk : Kp (fun _ => False) wB w') => sum_any F (by omega) p w' (HR.out w' (KB.out.trans kk (fun _ _ f => f))) (stF.kept kk (fun f => f)))
            have QA := Lib.hid (fun w' (kk : Kp (fun _ => False) wB w') => sums_any F hFr (by omega) _ w' (HR.out w' (KB.out.trans kk (fun _ _ f => f))) (owF.sees.kept kk (fun _ _ _ f => f)))
            have QL := Lib.hid (fun w' (kk : Kp (fun _ => False) wB w') => len_any F p w' (stF.kept kk (fun f => f)))
            have hne := neq_names (sumOf F) (sumOf F) rfl rfl
            rw [decide_eq_true rfl, Bool.not_true] at hne
            have kB : Kp (fun _ => False) wB wB := Kp.refl _ _
            have STF := Lib.hid stF
            have OWF := Lib.hid owF
            have HFR := Lib.hid hFr
            clear stF owF hFr hFe
            by_cases hat : (k : Int) = n
            · have hb : ((k : Int) == n) = true := beq_iff_eq.2 hat
              clear hat
              go_wp2_with (at_builtin; refine Lib.wpList_append_run _ rfl _ _ _ _ rfl _ _ rfl rfl _ _ (HAP.out _) ?_)
              refine (clone_any F p wB STF.out).mono ?_
              rintro e wC ⟨rfl, stC', kC, zC⟩
              have STC := Lib.hid stC'
              have hqB : wB.heap.size ≤ wB.heap.size := Nat.le_refl _
              obtain ⟨q, hq⟩ : ∃ q, q = wB.heap.size := ⟨_, rfl⟩
              rw [← hq] at STC hqB ⊢
              rw [hq] at hqB
              have hqs : wB.heap.size ≤ q := by omega
              have hq2 : 2 ≤ q := by have := (HR.out wB KB.out).size; omega
              clear hq hqB zC stC'
              have QSc := Lib.hid (fun w' (kk : Kp (fun _ => False) wC w') => sum_any F (by omega) q w' (HR.out w' (KB.out.trans (kC.trans kk (fun _ _ f => f)) (fun _ _ f => f))) (STC.out.kept kk (fun f => f)))
              have jC : Kp (fun _ => False) wC wC := Kp.refl _ _
              have KC := Lib.hid kC
              clear kC
              go_wp2_with fail
              refine (QSc.out _ jC).mono ?_
              rintro e wD ⟨rfl, jD⟩
              replace jD := jC.trans jD (fun _ _ f => f)
              go_wp2_with fail
              refine (QA.out _ (KC.out.trans jD (fun _ _ f => f))).mono ?_
              rintro e wE ⟨rfl, jE⟩
              replace jE := jD.trans jE (fun _ _ f => f)
              have hqE : q < wE.heap.size := Nat.lt_of_lt_of_le STC.out.lt jE.size
              have j7 := ((jE.alloc (.cells #[.int .u8 1] 5)).alloc (.cells #[.int .u8 2, .int .u8 3] 5)).alloc (.cells #[.slice (some ⟨wE.heap.size, 0, none⟩) 1 1, .slice none 0 0, .slice (some ⟨wE.heap.size + 1, 0, none⟩) 2 2] 22)
              have QW := Lib.hid (write_any F [[1], [], [2, 3]] (by intro x hx'; simp at hx'; rcases hx' with rfl | rfl | rfl <;> intro y hy <;> simp at hy <;> omega) (by simp only [List.flatten_cons, List.flatten_nil, List.length_append, List.length_cons, List.length_nil]; omega) (by simp) q _ _
                (HR.out _ (KB.out.trans (KC.out.trans j7 (fun _ _ f => f)) (fun _ _ f => f))) hq2 (three_pieces hqE) (STC.out.kept j7 (fun f => f)))
              have J7 := Lib.hid j7
              clear j7 jC jD
              go_wp2_with fail
              refine QW.out.mono ?_
              rintro e wG ⟨rfl, stG, kG⟩
              have kG' := kp_new (KC.out.trans J7.out (fun _ _ f => f)) kG hqs
              have stG2 : IsSt wG q (F ++ [1, 2, 3]) := stG
              have KG := Lib.hid kG'
              have QSg := Lib.hid (fun w' (kk : Kp (fun _ => False) wG w') => sum_any (F ++ [1, 2, 3]) (by simp only [List.length_append, List.length_cons, List.length_nil]; omega) q w' (HR.out w' (KB.out.trans (KG.out.trans kk (fun _ _ f => f)) (fun _ _ f => f))) (stG2.kept kk (fun f => f)))
              clear stG stG2 kG kG'
              go_wp2_with fail
              refine (QSg.out _ (Kp.refl _ _)).mono ?_
              rintro e wH ⟨rfl, kH⟩
              replace kH := KG.out.trans kH (fun _ _ f => f)
              go_wp2_with fail
              refine (bclone_any (OWF.out.sees.kept kH (fun _ _ _ f => f)) (by omega)).mono ?_
              intro e wI hnb
              obtain ⟨a9, c9, rfl, own9, k9⟩ := hnb.here
              replace k9 := kH.trans k9 (fun _ _ f => f)
              have h9 : wH.heap.size ≤ (wI.alloc (.cells (U8s [1, 2, 3]).toArray 5)).heap.size := by
                have := own9.lt
                have hz := hnb
                obtain ⟨_, _, _, hk9⟩ := hz
                have := hk9.size
                rw [World.size_alloc]; omega
              obtain ⟨v10, wJ, hap10, own10, k10, _⟩ := run_append_by h9 (own9.kept ((Kp.refl (fun _ => False) wI).alloc (.cells (U8s [1, 2, 3]).toArray 5)) (fun _ _ f => f)) (lit_piece wI [1, 2, 3] (by decide)) (by simp only [List.length_cons, List.length_nil]; omega)
              have kJ : Kp (fun _ => False) wB wJ := (k9.alloc (.cells (U8s [1, 2, 3]).toArray 5)).trans k10 (fun y hy e => by
                have := (own9.lt y e).1
                have := kH.size
                omega)
              obtain ⟨a10, c10, hv10⟩ := own10.sees.len
              obtain ⟨m10, hm10⟩ : ∃ m, m = (F ++ [1, 2, 3]).length := ⟨_, rfl⟩
              rw [← hm10] at hv10
              subst hv10
              clear hm10
              have QA10 := Lib.hid (sums_any (F ++ [1, 2, 3]) (HFR.out.append (by intro y hy; simp at hy; omega)) (by simp only [List.length_append, List.length_cons, List.length_nil]; omega) _ wJ (HR.out wJ (KB.out.trans kJ (fun _ _ f => f))) own10.sees)
              have HAP10 := Lib.hid hap10
              have KJ := Lib.hid kJ
              have hne10 := neq_names (sumOf (F ++ [1, 2, 3])) (sumOf (F ++ [1, 2, 3])) rfl rfl
              rw [decide_eq_true rfl, Bool.not_true] at hne10
              clear hap10 kJ own10 k10 own9 k9 h9 kH hnb
              go_wp2_with (at_builtin; refine wpList_append_want _ rfl _ _ _ _ rfl _ _ rfl rfl _ _ (HAP10.out _) ?_)
              refine QA10.out.mono ?_
              rintro e wK ⟨rfl, kK⟩
              replace kK := KJ.out.trans kK (fun _ _ f => f)
              go_wp2_with fail
              refine (QS.out _ kK).mono ?_
              rintro e wL ⟨rfl, kL⟩
              replace kL := kK.trans kL (fun _ _ f => f)
              go_wp2_with fail
              refine (QA.out _ kL).mono ?_
              rintro e wM ⟨rfl, kM⟩
              replace kM := kL.trans kM (fun _ _ f => f)
              go_wp2_with fail
              refine (QL.out _ kM).mono ?_
              rintro e wN ⟨rfl, rfl⟩
              go_wp2_with fail
              go_roundw
              case rel => exact ⟨k + 1, by omega, by go_num, HRB.out.kept kM, HSM.out⟩
              case measure => simp [intOf]; omega
            · have hb : ((k : Int) == n) = false := beq_eq_false_iff_ne.2 hat
              clear hat
              go_wp2_with (at_builtin; refine Lib.wpList_append_run _ rfl _ _ _ _ rfl _ _ rfl rfl _ _ (HAP.out _) ?_)
              refine (QS.out _ kB).mono ?_
              rintro e wC ⟨rfl, kC⟩
              replace kC := kB.trans kC (fun _ _ f => f)
              go_wp2_with fail
              refine (QA.out _ kC).mono ?_
              rintro e wD ⟨rfl, kD⟩
              replace kD := kC.trans kD (fun _ _ f => f)
              go_wp2_with fail
              refine (QL.out _ kD).mono ?_
              rintro e wE ⟨rfl, rfl⟩
              go_wp2_with fail
              go_roundw
              case rel => exact ⟨k + 1, by omega, by go_num, HRB.out.kept kD, HSM.out⟩
              case measure => simp [intOf]; omega
      · obtain rfl : k = ls.length := by omega
        obtain ⟨av, cv, hv'⟩ := hr.own.sees.len
        have hF := flat_small hsm (by omega)
        have hFr := flat_rng HX.out ls.length
        have stF := hr.st
        have owF := hr.own
        have KR := Lib.hid hr.kp
        rw [List.take_length] at hv' hF hFr stF owF
        obtain ⟨F, hFe⟩ : ∃ F, F = ls.flatten := ⟨_, rfl⟩
        obtain ⟨m, hm⟩ : ∃ m, m = F.length := ⟨_, rfl⟩
        rw [← hFe] at hv' hF hFr stF owF
        rw [← hm] at hv'
        subst hv'
        obtain ⟨t, ht⟩ : ∃ t, t = wr.heap.size := ⟨_, rfl⟩
        have hpt : p < t := by rw [ht]; exact stF.lt
        have htw : w.heap.size ≤ t := by rw [ht]; exact KR.out.size
        have HNW := new_any wr (HR.out _ KR.out)
        rw [← ht] at HNW
        have htr : wr.heap.size ≤ t := by omega
        have HNEW := Lib.hid HNW
        have STF := Lib.hid stF
        have OWF := Lib.hid owF
        have HFE := Lib.hid hFe
        have HFR := Lib.hid hFr
        have hee := eql_names (sumOf F) (sumOf F) rfl rfl
        rw [decide_eq_true rfl] at hee
        clear hr hsm stF owF hFe hFr hm ht HNW
        rw [show ((ls.length : Nat) : Int) = (ls.length : Int) from rfl]
        go_wp2_with fail
        refine HNEW.out.mono ?_
        rintro e wA ⟨rfl, stA, kA, _⟩
        have KA := Lib.hid (KR.out.trans kA (fun _ _ f => f))
        have QW := Lib.hid (write_any [] ls HX.out (by rw [← HFE.out]; simp only [List.length_nil]; omega) (by omega) t _ wA (HR.out _ KA.out) (by omega) (HS.out.far KA.out htw) stA)
        have STA := Lib.hid (STF.out.kept kA (fun f => f))
        have KA' := Lib.hid kA
        clear stA kA
        go_wp2_with fail
        refine QW.out.mono ?_
        rintro e wB ⟨rfl, stB, kB⟩
        rw [List.nil_append, ← HFE.out] at stB
        have KB := Lib.hid (kp_new KA'.out kB htr)
        have STB := Lib.hid stB
        have STP := Lib.hid (STA.out.kept kB (by omega))
        have QT := Lib.hid (fun w' (kk : Kp (fun _ => False) wB w') => sum_any F (by omega) t w' (HR.out w' (KR.out.trans (KB.out.trans kk (fun _ _ f => f)) (fun _ _ f => f))) (STB.out.kept kk (fun f => f)))
        have QS := Lib.hid (fun w' (kk : Kp (fun _ => False) wB w') => sum_any F (by omega) p w' (HR.out w' (KR.out.trans (KB.out.trans kk (fun _ _ f => f)) (fun _ _ f => f))) (STP.out.kept kk (fun f => f)))
        have QA := Lib.hid (fun w' (kk : Kp (fun _ => False) wB w') => sums_any F HFR.out (by omega) _ w' (HR.out w' (KR.out.trans (KB.out.trans kk (fun _ _ f => f)) (fun _ _ f => f))) (OWF.out.sees.kept (KB.out.trans kk (fun _ _ f => f)) (fun _ _ _ f => f)))
        have j0 : Kp (fun _ => False) wB wB := Kp.refl _ _
        clear stB kB
        go_wp2_with fail
        refine (QT.out _ j0).mono ?_
        rintro e wC ⟨rfl, j1⟩
        go_wp2_with fail
        refine (QS.out _ j1).mono ?_
        rintro e wD ⟨rfl, j2⟩
        replace j2 := j1.trans j2 (fun _ _ f => f)
        go_wp2_with fail
        refine (QS.out _ j2).mono ?_
        rintro e wE ⟨rfl, j3⟩
        replace j3 := j2.trans j3 (fun _ _ f => f)
        go_wp2_with fail
        refine (QA.out _ j3).mono ?_
        rintro e wF ⟨rfl, j4⟩
        replace j4 := j3.trans j4 (fun _ _ f => f)
        go_wp2_with fail
        go_ret
        exact ⟨rfl, KR.out.trans (KB.out.trans j4 (fun _ _ f => f)) (fun _ _ f => f)⟩
end Go.Proofs.YtopckankheljhaaDoor
