/-
  VdrUnits: the law's walk.
-/
import Derived.Test.YtphbckjadebdmaaDz
namespace Go.Proofs.Ytphbckjadebdmaa
open Go.RowKit

theorem atGo_hit {l : List Vd} : ∀ {i k : Nat} {x : Vd} {u : Int}, (∀ y ∈ l, 1 ≤ y.wt) → l[k]? = some x → sumV (l.take k) ≤ u → u < sumV (l.take k) + x.wt → atGo i l u = ((i + k : Nat) : Int) := by
  induction l with
  | nil => intro i k x u _ h; cases h
  | cons y r ih =>
    intro i k x u hp hk h1 h2
    unfold atGo
    cases k with
    | zero =>
      cases hk
      simp [sumV] at h1 h2
      rw [decide_eq_true h2]
      rfl
    | succ k =>
      have hk' : r[k]? = some x := hk
      rw [List.take_succ_cons] at h1 h2
      have h1' : y.wt + sumV (r.take k) ≤ u := h1
      have h2' : u < y.wt + sumV (r.take k) + x.wt := h2
      have hn := sumV_nonneg (l := r.take k) (fun z hz => hp z (List.mem_cons_of_mem _ (List.mem_of_mem_take hz)))
      rw [decide_eq_false (by omega), show i + (k + 1) = (i + 1) + k by omega]
      exact ih (fun z hz => hp z (List.mem_cons_of_mem _ hz)) hk' (by omega) (by omega)
theorem atGo_past {l : List Vd} : ∀ {i : Nat} {u : Int}, (∀ y ∈ l, 1 ≤ y.wt) → sumV l ≤ u → atGo i l u = -1 := by
  induction l with
  | nil => intro i u _ _; rfl
  | cons y r ih =>
    intro i u hp h
    have h' : y.wt + sumV r ≤ u := h
    have hn := sumV_nonneg (l := r) (fun z hz => hp z (List.mem_cons_of_mem _ hz))
    unfold atGo
    rw [decide_eq_false (by omega)]
    exact ih (fun z hz => hp z (List.mem_cons_of_mem _ hz)) (by omega)
theorem unit_of {l : List Vd} : ∀ {u : Int}, 0 ≤ u → u < sumV l → ∃ k x, l[k]? = some x ∧ sumV (l.take k) ≤ u ∧ u < sumV (l.take k) + x.wt := by
  induction l with
  | nil => intro u h1 h2; simp [sumV] at h2; omega
  | cons y r ih =>
    intro u h1 h2
    by_cases h : u < y.wt
    · exact ⟨0, y, rfl, by simpa [sumV] using h1, by simpa [sumV] using h⟩
    · have h2' : u < y.wt + sumV r := h2
      obtain ⟨k, x, hk, h3, h4⟩ := ih (u := u - y.wt) (by omega) (by omega)
      refine ⟨k + 1, x, hk, ?_, ?_⟩
      · rw [List.take_succ_cons]
        show y.wt + sumV (r.take k) ≤ u
        omega
      · rw [List.take_succ_cons]
        show u < y.wt + sumV (r.take k) + x.wt
        omega
theorem GoodV.at_first {l : List Vd} (h : GoodV l) {k : Nat} {x : Vd} (hk : l[k]? = some x) {u : Int} (h1 : sumV (l.take k) ≤ u) (h2 : u < sumV (l.take k) + x.wt) : atV l u = k := by
  have h3 := (h.pre k).1
  unfold atV
  rw [decide_eq_true (checkE_ok.2 h), decide_eq_true (by omega)]
  have := atGo_hit (i := 0) (weightsOk_pos h.wt) hk h1 h2
  rw [Nat.zero_add] at this
  exact this
theorem GoodV.at_past {l : List Vd} (h : GoodV l) {u : Int} (h1 : u < 0 ∨ sumV l ≤ u) : atV l u = -1 := by
  unfold atV
  by_cases h2 : u < 0
  · rw [decide_eq_false (by omega : ¬ 0 ≤ u), Bool.and_false]; rfl
  · rw [decide_eq_true (checkE_ok.2 h), decide_eq_true (by omega)]
    exact atGo_past (weightsOk_pos h.wt) (by omega)

set_option maxRecDepth 100000 in
set_option maxHeartbeats 4000000 in
theorem units_law {v : Value} {l : List Vd} {w : World} (hs : SeesV w v l) (hw : WOk l) (u : Int) (hu0 : -9223372036854775808 ≤ u) (hu1 : u ≤ 9223372036854775807) : Calls Try.prog 7 #[v, .int .i64 u] w fun e w' => e = .returned (.bool true) ∧ Kp (fun _ => False) w w' := by
  have HB := Lib.hid (fun w => vlive_any w)
  have HF := Lib.hid (fun w' (k : Kp (fun _ => False) w w') => few_any (hs.kept k))
  have HC := Lib.hid (fun w' (k : Kp (fun _ => False) w w') (hv : VOk l) => check_any (hs.kept k) hv)
  have HT := Lib.hid (fun w' (k : Kp (fun _ => False) w w') (hv : VOk l) => total_any (hs.kept k) hv)
  have HU := Lib.hid (fun w' (k : Kp (fun _ => False) w w') (hv : VOk l) (i : Int) (hi : i ≤ 9223372036854775807) => units_any (hs.kept k) hv i hi)
  have HA := Lib.hid (fun w' (k : Kp (fun _ => False) w w') (hv : VOk l) (i : Int) (hi : i ≤ 9223372036854775807) => at_any (hs.kept k) hv i hi)
  obtain ⟨a, c, rfl, hlc, hmax⟩ := hs.form
  have HS := Lib.hid hs
  have hz := zeroVd
  have HI := Lib.hid infoVd
  have HW := Lib.hid (fun h => fewV_ok (l := l) h hw)
  obtain ⟨f, hf⟩ : ∃ f, f = fewV l := ⟨_, rfl⟩
  rw [← hf] at HF HW
  clear hs hw hf
  go_enter Try.func7, Try.ntmps7
  go_wp2_with fail
  refine (HB.out _).mono ?_
  rintro e w1 ⟨rfl, k1⟩
  have K1 := Lib.hid k1
  clear k1
  go_wp2_with fail
  refine (HF.out _ K1.out).mono ?_
  rintro e w2 ⟨rfl, k2⟩
  have K2 := Lib.hid (K1.out.trans k2 (fun _ _ f => f))
  clear k2
  cases f
  · go_wp2_with fail
    refine (HB.out _).mono ?_
    rintro e w3 ⟨rfl, k3⟩
    have K3 := Lib.hid (K2.out.trans k3 (fun _ _ f => f))
    clear k3
    go_wp2_with fail
    go_ret
    exact ⟨rfl, K3.out⟩
  obtain ⟨h50, hv⟩ := HW.out rfl
  have HV := Lib.hid hv
  clear hv
  go_wp2_with fail
  refine (HC.out _ K2.out HV.out).mono ?_
  rintro e w3 ⟨rfl, k3⟩
  have K3 := Lib.hid (K2.out.trans k3 (fun _ _ f => f))
  clear k3
  obtain ⟨ce, hce⟩ : ∃ ce, ce = checkE l := ⟨_, rfl⟩
  rw [← hce]
  by_cases h0 : ce = 0
  · have HG := Lib.hid (checkE_ok.1 (hce.symm.trans h0))
    have HTE := Lib.hid (show totalV l = sumV l by unfold totalV; rw [decide_eq_true (hce.symm.trans h0)]; rfl)
    have HCE := Lib.hid (hce.symm.trans h0)
    have h0' : (ce != 0) = false := by simp [h0]
    clear hce
    go_wp2_with fail
    refine (HT.out _ K3.out HV.out).mono ?_
    rintro e w4 ⟨rfl, k4⟩
    have K4 := Lib.hid (K3.out.trans k4 (fun _ _ f => f))
    rw [HTE.out]
    obtain ⟨tot, htot⟩ : ∃ t, t = sumV l := ⟨_, rfl⟩
    rw [← htot]
    have HTO := Lib.hid htot
    have ht1 : tot ≤ 4611686018427387903 := by rw [htot]; exact HG.out.sum
    clear k4 htot
    go_wp2
    go_loopw [6, 31] (fun f i wr => ∃ (k : Nat) (s : Int), k ≤ l.length ∧ i = .int .i64 k ∧ f = .int .i64 s ∧ (0 ≤ s ∧ s ≤ 4611686018427387903) ∧ Kp (fun _ => False) w wr ∧ Hid (s = sumV (l.take k))) (fun _ i _ => l.length - (intOf i).toNat)
    case atStart => exact ⟨0, 0, by omega, rfl, rfl, by omega, K4.out, Lib.hid (by simp [sumV])⟩
    case round =>
      obtain ⟨k, s, hk, rfl, rfl, ⟨hs0, hs1⟩, hkp, hsm⟩ := hrel
      by_cases hlt : k < l.length
      · obtain ⟨x, hx⟩ : ∃ x, l[k]? = some x := ⟨l[k], by simp⟩
        obtain ⟨g, off, rfl, hr, _⟩ := (HS.out.kept hkp).at hx
        have HR := Lib.hid hr
        have HK := Lib.hid hkp
        obtain ⟨hp1, hp2, hp3⟩ : 1 ≤ x.wt ∧ 0 ≤ s + x.wt ∧ s + x.wt ≤ 4611686018427387903 := by
          have h1 := HG.out.pos hx
          have h2 := HG.out.pre (k + 1)
          have h3 := HG.out.sum
          rw [sumV_take hx, ← hsm.out] at h2
          omega
        have HE := Lib.hid (show unitsV l k = (s, x.wt) by rw [unitsV_at HCE.out hx, hsm.out])
        have HA1 := Lib.hid (show atV l s = k from HG.out.at_first hx (by rw [← hsm.out]; omega) (by rw [← hsm.out]; omega))
        have HA2 := Lib.hid (show atV l (s + x.wt - 1) = k from HG.out.at_first hx (by rw [← hsm.out]; omega) (by rw [← hsm.out]; omega))
        have HX := Lib.hid hx
        clear hx hr hkp
        go_wp2_with (first
          | ((with_reducible refine at_dst 35 ?_); refine wpList_load_mid rfl 34 _ rfl g (off + k * 2) rfl (vdC x) _ HR.out Try.underlying34 rfl HI.out ?_)
          | ((with_reducible refine at_store 8 35 ?_); refine st_fresh rfl 34 _ _ rfl (vdC x).toArray rfl rfl 34 _ HI.out rfl (vdC_one x) ?_; intro w5 k5 m5 s5; have M5 := Lib.hid m5; have K5 := Lib.hid (HK.out.trans k5 (fun _ _ f => f)); clear m5 s5 k5)
          | fail)
        refine (HU.out _ K5.out HV.out _ (by omega)).mono ?_
        rw [HE.out]
        rintro e w6 ⟨rfl, k6⟩
        have m6 := kept_blk M5.out k6 (fun f => f)
        have c6 : w6.cell? ⟨wr.heap.size, 1, none⟩ = some (.int .i64 x.wt) := cell_blk m6 1
        have K6 := Lib.hid (K5.out.trans k6 (fun _ _ f => f))
        clear k6 m6
        go_wp2_with fail
        refine (HA.out _ K6.out HV.out _ (by omega)).mono ?_
        rw [HA1.out]
        rintro e w7 ⟨rfl, k7⟩
        have K7 := Lib.hid (K6.out.trans k7 (fun _ _ f => f))
        clear k7
        go_wp2_with fail
        refine (HA.out _ K7.out HV.out _ (by omega)).mono ?_
        rw [HA2.out]
        rintro e w8 ⟨rfl, k8⟩
        have K8 := Lib.hid (K7.out.trans k8 (fun _ _ f => f))
        clear k8
        go_wp2_with fail
        go_roundw
        case rel => exact ⟨k + 1, _, by omega, by go_num, rfl, by omega, K8.out, Lib.hid (by rw [sumV_take HX.out, ← hsm.out])⟩
        case measure => simp [intOf]; omega
      · obtain rfl : k = l.length := by omega
        have HSE := Lib.hid (show s = tot by rw [hsm.out, List.take_length, HTO.out])
        have HK := Lib.hid hkp
        clear hkp
        obtain rfl := HSE.out
        by_cases hin : 0 ≤ u ∧ u < s
        · obtain ⟨q, x, hq, hu2, hu3⟩ := unit_of hin.1 (by rw [← HTO.out]; exact hin.2)
          have HQ := Lib.hid (HG.out.at_first hq hu2 hu3)
          have HE := Lib.hid (unitsV_at HCE.out hq)
          obtain ⟨p0, hp0⟩ : ∃ p, p = sumV (l.take q) := ⟨_, rfl⟩
          rw [← hp0] at hu2 hu3 HE
          have hp1 : 0 ≤ p0 := by rw [hp0]; exact (HG.out.pre q).1
          have hql := (List.getElem?_eq_some_iff.1 hq).1
          obtain ⟨hin1, hin2⟩ := hin
          have hin1' : ¬ u < 0 := by omega
          clear hq hp0
          go_wp2_with fail
          refine (HA.out _ HK.out HV.out _ hu1).mono ?_
          rw [HQ.out]
          rintro e w5 ⟨rfl, k5⟩
          have K5 := Lib.hid (HK.out.trans k5 (fun _ _ f => f))
          clear k5
          go_wp2_with fail
          refine (HU.out _ K5.out HV.out _ (by omega)).mono ?_
          rw [HE.out]
          rintro e w6 ⟨rfl, k6⟩
          have K6 := Lib.hid (K5.out.trans k6 (fun _ _ f => f))
          clear k6
          have hlast : u - p0 < x.wt := by omega
          go_wp2_with fail
          go_ret
          exact ⟨by first | rfl | simp, K6.out⟩
        · have HQ := Lib.hid (HG.out.at_past (u := u) (by rw [← HTO.out]; omega))
          by_cases hneg : u < 0
          · clear hin
            go_wp2_with fail
            refine (HA.out _ HK.out HV.out _ hu1).mono ?_
            rw [HQ.out]
            rintro e w5 ⟨rfl, k5⟩
            have K5 := Lib.hid (HK.out.trans k5 (fun _ _ f => f))
            clear k5
            go_wp2_with fail
            go_ret
            exact ⟨by first | rfl | simp, K5.out⟩
          · have hge : s ≤ u := by omega
            clear hin
            go_wp2_with fail
            refine (HA.out _ HK.out HV.out _ hu1).mono ?_
            rw [HQ.out]
            rintro e w5 ⟨rfl, k5⟩
            have K5 := Lib.hid (HK.out.trans k5 (fun _ _ f => f))
            clear k5
            go_wp2_with fail
            go_ret
            exact ⟨by first | rfl | simp, K5.out⟩
  · have h0' : (ce != 0) = true := by simp [h0]
    go_wp2_with fail
    refine (HB.out _).mono ?_
    rintro e w4 ⟨rfl, k4⟩
    have K4 := Lib.hid (K3.out.trans k4 (fun _ _ f => f))
    clear k4
    go_wp2_with fail
    go_ret
    exact ⟨rfl, K4.out⟩
end Go.Proofs.Ytphbckjadebdmaa
