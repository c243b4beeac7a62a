/-
  BagMost: the law's walk.
-/
import Derived.Test.YtoeinolekpmbbaaFz
import Derived.Test.YtoeinolekpmbbaaFg
namespace Go.Proofs.Ytoeinolekpmbbaa
open Go.ChangeShapes Go.WideShapes Go.ChangeAt Go.RowKit

theorem atl_sum {l : List Vt} (h : ∀ x ∈ l, 1 ≤ x.n) (k : Int) : k * (atlV l k).length ≤ sumT l ∧ 0 ≤ sumT l := by
  induction l with
  | nil => simp [atlV, sumT]
  | cons x r ih =>
    obtain ⟨i1, i2⟩ := ih (fun y hy => h y (List.mem_cons_of_mem _ hy))
    have hx := h x (List.mem_cons_self ..)
    rw [sumT_cons]
    refine ⟨?_, by omega⟩
    by_cases hk : k ≤ x.n
    · have : atlV (x :: r) k = x.id :: atlV r k := by simp [atlV, List.filter, hk]
      rw [this, List.length_cons, Int.natCast_add, Int.mul_add]
      simp
      omega
    · have : atlV (x :: r) k = atlV r k := by simp [atlV, List.filter, hk]
      rw [this]; omega
theorem mode_cnt {l : List Vt} (hg : good l = true) : cntV l (modeV l).id = (modeV l).n := by
  have hb : bagged l = l := by unfold bagged; rw [hg]; rfl
  unfold modeV
  rw [hb]
  rcases bestV_mem l vt0 with h | h
  · rw [h]
    cases l with
    | nil => rfl
    | cons x r =>
      have h1 := (bestV_ge (x :: r) vt0).2 x (List.mem_cons_self ..)
      rw [h] at h1
      have := ((good_sum hg).2.2 x (List.mem_cons_self ..)).1
      have h0 : vt0.n = 0 := rfl
      omega
  · exact cntV_mem (good_rise hg).uniq h
theorem mode_ge {l : List Vt} (hg : good l = true) {x : Vt} (hx : x ∈ l) : x.n ≤ (modeV l).n := by
  have hb : bagged l = l := by unfold bagged; rw [hg]; rfl
  unfold modeV
  rw [hb]
  exact (bestV_ge l vt0).2 x hx
theorem mode_nm {l : List Vt} (hv : TOk l) : (modeV l).wf := bestV_wf (bagged_ok hv) vt0_wf
theorem bagged_good {l : List Vt} (hg : good l = true) : bagged l = l := by unfold bagged; rw [hg]; rfl

set_option maxRecDepth 100000 in
set_option maxHeartbeats 8000000 in
theorem most_law {v : Value} {l : List Vt} {w : World} (hs : SeesT w v l) (hv : TOk l) (n : Int) (hn0 : 0 ≤ n) (hn1 : n ≤ 65535) :
    Calls Try.prog 7 #[v, .int .u16 n] w fun e w' => e = .returned (.bool true) ∧ Kp (fun _ => False) w w' := by
  have HLV := Lib.hid (fun w => liveT_any w)
  have HS := Lib.hid (fun w' (k : Kp (fun _ => False) w w') => hs.kept k)
  have HV := Lib.hid hv
  obtain ⟨a, c, rfl, hlc, hmax⟩ := hs.form
  have HF := Lib.hid (fun w => few1 a l.length c w)
  by_cases hl : l.length ≤ 60
  · cases hg : good l with
    | false =>
      have HC := Lib.hid (fun w' (k : Kp (fun _ => False) w w') => bcheck_any (hs.kept k) hv)
      rw [show chkT l = 70 by unfold chkT; rw [hg]; rfl] at HC
      rw [decide_eq_true hl] at HF
      clear hs hv hl hg
      go_enter Try.func7, Try.ntmps7
      go_wp2_with fail
      refine (HLV.out w).mono ?_
      rintro e w1 ⟨rfl, k1⟩
      have K1 := Lib.hid k1
      clear k1
      go_wp2_with ((with_reducible refine at_dst 17 ?_); refine wpList_slice_run rfl 43 1 _ rfl _ rfl _ _ (mkF1 a l.length c _) ?_)
      refine (HF.out w1).mono ?_
      rintro e w2 ⟨rfl, k2⟩
      have K2 := Lib.hid (K1.out.trans k2 (fun _ _ f => f))
      clear k2
      go_wp2_with fail
      refine (HC.out w2 K2.out).mono ?_
      rintro e w3 ⟨rfl, k3⟩
      have K3 := Lib.hid (K2.out.trans k3 (fun _ _ f => f))
      clear k3
      go_wp2_with fail
      refine (HLV.out w3).mono ?_
      rintro e w4 ⟨rfl, k4⟩
      have K4 := Lib.hid (K3.out.trans k4 (fun _ _ f => f))
      clear k4
      go_wp2_with fail
      go_ret
      exact ⟨rfl, K4.out⟩
    | true =>
      have HC := Lib.hid (fun w' (k : Kp (fun _ => False) w w') => bcheck_any (hs.kept k) hv)
      rw [show chkT l = 0 by unfold chkT; rw [hg]; rfl] at HC
      have HMD := Lib.hid (fun w' (k : Kp (fun _ => False) w w') => bmode_any (hs.kept k) hv)
      have HTO := Lib.hid (fun w' (k : Kp (fun _ => False) w w') => btotal_any (hs.kept k) hv)
      rw [show totT l = sumT l by unfold totT; rw [hg]; rfl] at HTO
      have HCT := Lib.hid (fun (id : List Int) (hid : Nm id) w' (k : Kp (fun _ => False) w w') => bcount_any (hs.kept k) hv hid (by omega))
      rw [hg] at HCT
      have HAL := Lib.hid (fun (q : Int) w' (k : Kp (fun _ => False) w w') => atLeast_any q (hs.kept k) hv (by omega))
      rw [bagged_good hg] at HAL
      have HGD := Lib.hid hg
      have HGS := Lib.hid (good_sum hg)
      have HUQ := Lib.hid (good_rise hg).uniq
      have HMG := Lib.hid (fun x (hx : x ∈ l) => mode_ge hg hx)
      have HMC := Lib.hid (mode_cnt hg)
      have HMW := Lib.hid (mode_nm hv)
      have HLL := Lib.hid hl
      have hz := zeroIdF
      have hzv := zeroVt
      have HI := Lib.hid (fun (x : Vt) (h : x.id.length = 32) => infoVt h)
      have HI2 := Lib.hid (fun (x : Vt) (h : x.id.length = 32) => infoVt' h)
      obtain ⟨m, hm⟩ : ∃ m, m = modeV l := ⟨_, rfl⟩
      rw [← hm] at HMD HMG HMC HMW
      have HZI := Lib.hid (show (U8s (List.replicate 32 0)).toArray.size = (U8s m.id).toArray.size by simp [U8s_length, HMW.out.nm.len])
      rw [decide_eq_true hl] at HF
      clear hs hv hl hg hm
      go_enter Try.func7, Try.ntmps7
      go_wp2_with fail
      refine (HLV.out w).mono ?_
      rintro e w1 ⟨rfl, k1⟩
      have K1 := Lib.hid k1
      clear k1
      go_wp2_with ((with_reducible refine at_dst 17 ?_); refine wpList_slice_run rfl 43 1 _ rfl _ rfl _ _ (mkF1 a l.length c _) ?_)
      refine (HF.out w1).mono ?_
      rintro e w2 ⟨rfl, k2⟩
      have K2 := Lib.hid (K1.out.trans k2 (fun _ _ f => f))
      clear k2
      go_wp2_with fail
      refine (HC.out w2 K2.out).mono ?_
      rintro e w3 ⟨rfl, k3⟩
      have K3 := Lib.hid (K2.out.trans k3 (fun _ _ f => f))
      clear k3
      go_wp2_with fail
      refine (HMD.out w3 K3.out).mono ?_
      rintro e w4 ⟨rfl, k4⟩
      have K4 := Lib.hid (K3.out.trans k4 (fun _ _ f => f))
      clear k4
      go_wp2_with ((with_reducible refine at_store 6 30 ?_); refine st_fresh rfl 27 _ _ rfl (U8s m.id).toArray rfl rfl 27 _ (info32 m.id HMW.out.nm.len) HZI.out (all_oneCell_toArray (U8s_one _)) ?_; intro w5 k5 m5 s5; have K5 := Lib.hid (K4.out.trans k5 (fun _ _ f => f)); have M5 := Lib.hid m5; clear k5 m5 s5)
      obtain ⟨gi, hgi⟩ : ∃ g, g = w4.heap.size := ⟨_, rfl⟩
      rw [← hgi] at M5 ⊢
      clear hgi
      go_loopw [5, 34] (fun s i wr => ∃ (k : Nat) (t : Int), k ≤ l.length ∧ i = .int .i64 k ∧ s = .int .i64 t ∧ (0 ≤ t ∧ t ≤ 1048576) ∧ Hid (t = sumT (l.take k)) ∧ Hid (wr.heap[gi]? = some (.cells (U8s m.id).toArray 27 (0, 0))) ∧ Hid (Kp (fun _ => False) w wr)) (fun _ i _ => l.length - (intOf i).toNat)
      case atStart => exact ⟨0, 0, Nat.zero_le _, rfl, rfl, by omega, Lib.hid rfl, M5, K5⟩
      case round =>
        obtain ⟨k, t, hk, rfl, rfl, ⟨ht0, ht1⟩, hsm, HMI, HK⟩ := hrel
        by_cases hlt : k < l.length
        · obtain ⟨x, hx⟩ : ∃ x, l[k]? = some x := ⟨l[k], List.getElem?_eq_getElem hlt⟩
          obtain ⟨g, off, rfl, hr⟩ := (HS.out _ HK.out).at hx
          have HN := Lib.hid (tok_at HV.out hx).nm
          have HR := Lib.hid hr
          have hxm := List.mem_of_getElem? hx
          have hge := HMG.out x hxm
          have HCX := Lib.hid (cntV_mem HUQ.out hxm)
          have HT := Lib.hid (show sumT (l.take (k + 1)) = t + x.n by rw [take_snoc hx, sumT_append, hsm.out, sumT_cons, sumT_nil]; omega)
          have hts := good_sum_take HGD.out (k + 1)
          rw [HT.out] at hts
          have hxn := HGS.out.2.2 x hxm
          have hge' : ¬ m.n < x.n := by omega
          obtain ⟨hts0, hts1⟩ := hts
          obtain ⟨hxn0, hxn1⟩ := hxn
          clear hr hx hxm
          go_wp2_with (first
            | ((with_reducible refine at_dst 37 ?_); refine wpList_load_mid rfl 33 _ rfl g (off + k * 33) rfl (vtC x) _ HR.out Try.underlying33 rfl (HI.out x HN.out.len) ?_)
            | ((with_reducible refine at_store 9 37 ?_); refine st_fresh rfl 33 _ _ rfl (vtC x).toArray rfl rfl 33 _ (HI2.out x HN.out.len) (vt_same (by decide) HN.out.len) (vtC_all x) ?_; intro u2 k2 m2 s2; have M2 := Lib.hid m2; have KK2 := Lib.hid k2; have KU := Lib.hid (HK.out.trans k2 (fun _ _ f => f)); have RU := Lib.hid (range_pre (range_blk m2) : u2.rangeAt wr.heap.size 0 (U8s x.id)); have HM2 := Lib.hid (kept_blk HMI.out k2 (fun f => f)); clear k2 m2 s2)
            | ((with_reducible refine at_dst 40 ?_); refine wpList_load_mid rfl 27 _ rfl wr.heap.size 0 rfl (U8s x.id) _ RU.out Try.underlying27 rfl (infoIdL HN.out.len) ?_))
          refine (HCT.out x.id HN.out _ KU.out).mono ?_
          rintro e u3 ⟨rfl, k3⟩
          rw [HCX.out]
          have KU3 := Lib.hid (KU.out.trans k3 (fun _ _ f => f))
          have HM3 := Lib.hid (kept_blk HM2.out k3 (fun f => f))
          have c32 : u3.cell? ⟨wr.heap.size, 32, none⟩ = some (.int .i64 x.n) := (cell_blk (kept_blk M2.out k3 (fun f => f)) 32).trans (by rw [List.getElem?_toArray]; exact vt_n HN.out.len)
          clear k3
          go_wp2_with fail
          go_roundw
          case rel => exact ⟨k + 1, t + x.n, by omega, by go_num, by go_num, by omega, Lib.hid HT.out.symm, HM3, KU3⟩
          case measure => simp [intOf]; omega
        · obtain rfl : k = l.length := by omega
          rw [List.take_length] at hsm
          have HE := Lib.hid hsm.out
          rw [← HE.out] at HTO
          have HL100 := Lib.hid (show l.length ≤ 100 by have := HLL.out; omega)
          have HSM := Lib.hid (fun q => (by have := (atl_sum (fun x hx => (HGS.out.2.2 x hx).1) q).1; rwa [← HE.out] at this : q * (atlV l q).length ≤ t))
          clear hsm
          go_wp2_with fail
          refine (HAL.out (n + 1) _ HK.out).mono ?_
          rintro e w7 ⟨B0, B1, v7, rfl, c0, c1, s7, k7⟩
          have HT1 := toldT_any c0 c1 s7 HV.out HL100.out 1048576
          rw [show ((1048576 : Nat) : Int) = 1048576 from rfl] at HT1
          have HT1 := Lib.hid HT1
          have K7 := Lib.hid (HK.out.trans k7 (fun _ _ f => f))
          have M7 := Lib.hid (kept_blk HMI.out k7 (fun f => f))
          clear c0 c1 s7 k7
          go_wp2_with fail
          refine HT1.out.mono ?_
          rintro e w8 ⟨v8, rfl, s8, k8⟩
          obtain ⟨a8, c8, rfl, _⟩ := s8.form
          have h8 : (n + 1) * (((atlV l (n + 1)).take 1048576).length : Int) ≤ t := by
            have h1 := HSM.out (n + 1)
            have h2 : (((atlV l (n + 1)).take 1048576).length : Int) ≤ (atlV l (n + 1)).length := by rw [List.length_take]; omega
            have h3 := Int.mul_le_mul_of_nonneg_left h2 (show 0 ≤ n + 1 by omega)
            omega
          obtain ⟨L8, hL8⟩ : ∃ L8 : Nat, L8 = ((atlV l (n + 1)).take 1048576).length := ⟨_, rfl⟩
          rw [← hL8] at h8 ⊢
          have H8 := Lib.hid h8
          have K8 := Lib.hid (K7.out.trans k8 (fun _ _ f => f))
          have M8 := Lib.hid (kept_blk M7.out k8 (fun f => f))
          clear s8 k8 hL8 h8
          go_wp2_with fail
          refine (HTO.out _ K8.out).mono ?_
          rintro e w9 ⟨rfl, k9⟩
          have K9 := Lib.hid (K8.out.trans k9 (fun _ _ f => f))
          have M9 := Lib.hid (kept_blk M8.out k9 (fun f => f))
          clear k9
          go_wp2_with ((with_reducible refine at_dst 68 ?_); refine wpList_load_want rfl 27 _ rfl gi rfl 27 _ (0, 0) _ M9.out Try.underlying27 rfl (info32 m.id HMW.out.nm.len) ?_)
          refine (HCT.out m.id HMW.out.nm _ K9.out).mono ?_
          rintro e w10 ⟨rfl, k10⟩
          rw [show cond true (cntV l m.id) 0 = m.n from HMC.out]
          have K10 := Lib.hid (K9.out.trans k10 (fun _ _ f => f))
          clear k10
          have hn2 : n + 1 ≠ 0 := by omega
          have hq1 : (L8 : Int) ≤ t / (n + 1) := Int.le_ediv_of_mul_le (by omega) (by rw [Int.mul_comm]; exact H8.out)
          have hq2 : (L8 : Int) ≤ t.tdiv (n + 1) := by rw [Int.tdiv_eq_ediv_of_nonneg ht0]; exact hq1
          go_wp2_with fail
          refine (HAL.out (t / 2 + 1) _ K10.out).mono ?_
          rintro e w11 ⟨B2, B3, v11, rfl, c0, c1, s7, k7⟩
          have HT2 := toldT_any c0 c1 s7 HV.out HL100.out 1048576
          rw [show ((1048576 : Nat) : Int) = 1048576 from rfl] at HT2
          have HT2 := Lib.hid HT2
          have K11 := Lib.hid (K10.out.trans k7 (fun _ _ f => f))
          clear c0 c1 s7 k7
          go_wp2_with fail
          refine HT2.out.mono ?_
          rintro e w12 ⟨v12, rfl, s8, k8⟩
          obtain ⟨a12, c12, rfl, _⟩ := s8.form
          have h12 : (((atlV l (t / 2 + 1)).take 1048576).length : Int) ≤ 1 := by
            have h1 := HSM.out (t / 2 + 1)
            have h2 : (((atlV l (t / 2 + 1)).take 1048576).length : Int) ≤ (atlV l (t / 2 + 1)).length := by rw [List.length_take]; omega
            rcases Int.lt_or_le 1 ((atlV l (t / 2 + 1)).length : Int) with h | h
            · have h3 := Int.mul_le_mul_of_nonneg_left (show (2 : Int) ≤ ((atlV l (t / 2 + 1)).length : Int) by omega) (show 0 ≤ t / 2 + 1 by omega)
              omega
            · omega
          obtain ⟨L12, hL12⟩ : ∃ L : Nat, L = ((atlV l (t / 2 + 1)).take 1048576).length := ⟨_, rfl⟩
          rw [← hL12] at h12 ⊢
          have K12 := Lib.hid (K11.out.trans k8 (fun _ _ f => f))
          clear s8 k8 hL12
          go_wp2_with fail
          go_ret
          exact ⟨rfl, K12.out⟩
  · rw [decide_eq_false hl] at HF
    clear hs hv hl
    go_enter Try.func7, Try.ntmps7
    go_wp2_with fail
    refine (HLV.out w).mono ?_
    rintro e w1 ⟨rfl, k1⟩
    have K1 := Lib.hid k1
    clear k1
    go_wp2_with ((with_reducible refine at_dst 17 ?_); refine wpList_slice_run rfl 43 1 _ rfl _ rfl _ _ (mkF1 a l.length c _) ?_)
    refine (HF.out w1).mono ?_
    rintro e w2 ⟨rfl, k2⟩
    have K2 := Lib.hid (K1.out.trans k2 (fun _ _ f => f))
    clear k2
    go_wp2_with fail
    refine (HLV.out w2).mono ?_
    rintro e w3 ⟨rfl, k3⟩
    have K3 := Lib.hid (K2.out.trans k3 (fun _ _ f => f))
    clear k3
    go_wp2_with fail
    go_ret
    exact ⟨rfl, K3.out⟩
end Go.Proofs.Ytoeinolekpmbbaa
