/-
  The document's Total, Count, Mode and AtLeast of bags.
-/
import Derived.Test.YtoeinolekpmbbaaFt
import Derived.Test.YtoeinolekpmbbaaFj
import Derived.Test.YtoeinolekpmbbaaFl
namespace Go.Proofs.Ytoeinolekpmbbaa
open Go.ChangeShapes Go.WideShapes Go.ChangeAt Go.RowKit

theorem bad_pos {l : List Vt} (h : good l = false) : 0 < l.length := by
  cases l with
  | nil => cases h
  | cons x r => simp
theorem bagged_bad {l : List Vt} (h : good l = false) : bagged l = [] := by unfold bagged; rw [h]; rfl
theorem bagged_of {l : List Vt} (h : good l = true) : bagged l = l := by unfold bagged; rw [h]; rfl

set_option maxRecDepth 100000 in
set_option maxHeartbeats 1600000 in
theorem rtotal_any {v : Value} {l : List Vt} {w : World} (hs : SeesT w v l) (hv : TOk l) :
    Calls Try.prog 32 #[v] w fun e w' => e = .returned (.int .i64 (totT l)) ∧ Kp (fun _ => False) w w' := by
  have HQ := fun w' (k : Kp (fun _ => False) w w') => rcheck_any (hs.kept k) hv
  have HS := Lib.hid (fun w' (k : Kp (fun _ => False) w w') => hs.kept k)
  have HV := Lib.hid hv
  obtain ⟨a, c, rfl, hlc, hmax⟩ := hs.form
  cases hg : good l with
  | false =>
    rw [show chkT l = 70 by unfold chkT; rw [hg]; rfl] at HQ
    rw [show totT l = 0 by unfold totT; rw [hg]; rfl]
    have hp : (0 : Int) < l.length := by have := bad_pos hg; omega
    have hd := decide_eq_true hp
    have HC := Lib.hid HQ
    clear hs hv hg HQ
    go_enter Try.func32, Try.ntmps32
    go_wp2_with fail
    go_loopw [3, 4] (fun s i wr => i = .int .i64 0 ∧ s = .int .i64 0 ∧ Hid (Kp (fun _ => False) w wr)) (fun _ _ _ => 0)
    case atStart => exact ⟨rfl, rfl, Lib.hid (Kp.refl _ _)⟩
    case round =>
      obtain ⟨rfl, rfl, HK⟩ := hrel
      go_wp2_with fail
      refine (HC.out _ HK.out).mono ?_
      rintro e w1 ⟨rfl, k1⟩
      have K1 := Lib.hid (HK.out.trans k1 (fun _ _ f => f))
      clear k1
      go_wp2_with fail
      go_ret
      exact ⟨rfl, K1.out⟩
  | true =>
    rw [show chkT l = 0 by unfold chkT; rw [hg]; rfl] at HQ
    rw [show totT l = sumT l by unfold totT; rw [hg]; rfl]
    have HC := Lib.hid HQ
    have HST := Lib.hid (good_sum_take hg)
    clear hs hv hg HQ
    go_enter Try.func32, Try.ntmps32
    go_wp2_with fail
    go_loopw [3, 4] (fun s i wr => ∃ (k : Nat) (t : Int), k ≤ l.length ∧ i = .int .i64 k ∧ s = .int .i64 t ∧ Hid (t = sumT (l.take k)) ∧ Hid (Kp (fun _ => False) w wr)) (fun _ i _ => l.length - (intOf i).toNat)
    case atStart => exact ⟨0, 0, Nat.zero_le _, rfl, rfl, Lib.hid rfl, Lib.hid (Kp.refl _ _)⟩
    case round =>
      obtain ⟨k, t, hk, rfl, rfl, HSM, HK⟩ := hrel
      by_cases hlt : k < l.length
      · obtain ⟨x, hx⟩ : ∃ x, l[k]? = some x := ⟨l[k], List.getElem?_eq_getElem hlt⟩
        obtain ⟨g, off, rfl, hr⟩ := (HS.out _ HK.out).at hx
        have HN := Lib.hid (tok_at HV.out hx).nm
        have HR := Lib.hid hr
        have HT := Lib.hid (show sumT (l.take (k + 1)) = t + x.n by rw [take_snoc hx, sumT_append, HSM.out, sumT_cons, sumT_nil]; omega)
        have hb1 := HST.out (k + 1)
        rw [HT.out] at hb1
        obtain ⟨hb2, hb3⟩ := hb1
        have hd : decide ((k : Int) < l.length) = true := decide_eq_true (by omega)
        clear hr hx
        go_wp2_with fail
        refine (HC.out _ HK.out).mono ?_
        rintro e w1 ⟨rfl, k1⟩
        have c32 : w1.cell? ⟨g, off + k * 33 + 32, none⟩ = some (.int .i64 x.n) := range_kp HR.out k1 (fun f => f) 32 _ (vt_n HN.out.len)
        have K1 := Lib.hid (HK.out.trans k1 (fun _ _ f => f))
        clear k1
        go_wp2_with fail
        go_roundw
        case rel => exact ⟨k + 1, t + x.n, by omega, by go_num, by go_num, Lib.hid HT.out.symm, K1⟩
        case measure => simp [intOf]; omega
      · obtain rfl : k = l.length := by omega
        rw [List.take_length] at HSM
        go_wp2_with ((with_reducible refine at_dst 11 ?_); refine wpListIn_skip rfl (by rfl) ?_)
        go_ret
        exact ⟨by rw [← HSM.out]; rfl, HK.out⟩

set_option maxRecDepth 100000 in
set_option maxHeartbeats 1600000 in
theorem rcount_any {v : Value} {l : List Vt} {k0 : List Int} {w : World} (hs : SeesT w v l) (hv : TOk l) (hk : Nm k0) :
    Calls Try.prog 30 #[v, .agg (U8s k0).toArray] w fun e w' => e = .returned (.int .i64 (cond (good l) (cntV l k0) 0)) ∧ Kp (fun _ => False) w w' := by
  have HQ := fun w' (k : Kp (fun _ => False) w w') => rcheck_any (hs.kept k) hv
  have HS := Lib.hid (fun w' (k : Kp (fun _ => False) w w') => hs.kept k)
  have HV := Lib.hid hv
  have HIK := Lib.hid (info32 k0 hk.len)
  have HIL := Lib.hid (fun (x : List Int) (h : x.length = 32) => infoIdL h)
  have HEQ := Lib.hid (fun (x : List Int) (h : x.length = 32) => eql_names x k0 h hk.len)
  have MB := Lib.hid (new_blk w (.cells (U8s k0).toArray 27))
  have K0 := Lib.hid ((Kp.refl (fun _ => False) w).alloc (.cells (U8s k0).toArray 27))
  obtain ⟨a, c, rfl, hlc, hmax⟩ := hs.form
  cases hg : good l with
  | false =>
    rw [show chkT l = 70 by unfold chkT; rw [hg]; rfl] at HQ
    have hp : (0 : Int) < l.length := by have := bad_pos hg; omega
    have hd := decide_eq_true hp
    have HC := Lib.hid HQ
    clear hs hv hg HQ hk
    go_enter Try.func30, Try.ntmps30
    go_wp2_with fail
    go_loopw [5] (fun i wr => i = .int .i64 0 ∧ Hid (Kp (fun _ => False) w wr)) (fun _ _ => 0)
    case atStart => exact ⟨rfl, K0⟩
    case round =>
      obtain ⟨rfl, HK⟩ := hrel
      go_wp2_with fail
      refine (HC.out _ HK.out).mono ?_
      rintro e w1 ⟨rfl, k1⟩
      have K1 := Lib.hid (HK.out.trans k1 (fun _ _ f => f))
      clear k1
      go_wp2_with fail
      go_ret
      exact ⟨rfl, K1.out⟩
  | true =>
    rw [show chkT l = 0 by unfold chkT; rw [hg]; rfl] at HQ
    have HC := Lib.hid HQ
    have HUQ := Lib.hid (good_rise hg).uniq
    clear hs hv hg HQ hk
    go_enter Try.func30, Try.ntmps30
    go_wp2_with fail
    go_loopw [5] (fun i wr => ∃ k : Nat, k ≤ l.length ∧ i = .int .i64 k ∧ Hid (∀ j x, j < k → l[j]? = some x → x.id ≠ k0) ∧ Hid (Kp (fun _ => False) (w.alloc (.cells (U8s k0).toArray 27)) wr)) (fun i _ => l.length - (intOf i).toNat)
    case atStart => exact ⟨0, Nat.zero_le _, rfl, Lib.hid (fun j x h => by omega), Lib.hid (Kp.refl _ _)⟩
    case round =>
      obtain ⟨k, hk, rfl, HSM, HK⟩ := hrel
      by_cases hlt : k < l.length
      · obtain ⟨x, hx⟩ : ∃ x, l[k]? = some x := ⟨l[k], List.getElem?_eq_getElem hlt⟩
        obtain ⟨g, off, rfl, hr⟩ := (HS.out _ (K0.out.trans HK.out (fun _ _ f => f))).at hx
        have HN := Lib.hid (tok_at HV.out hx).nm
        have HR := Lib.hid hr
        have HX := Lib.hid hx
        have hd : decide ((k : Int) < l.length) = true := decide_eq_true (by omega)
        clear hr hx
        go_wp2_with fail
        refine (HC.out _ (K0.out.trans HK.out (fun _ _ f => f))).mono ?_
        rintro e w1 ⟨rfl, k1⟩
        have HR1 := range_kp HR.out k1 (fun f => f)
        have m1 := kept_blk (kept_blk MB.out HK.out (fun f => f)) k1 (fun f => f)
        have RX := Lib.hid (fun (w' : World) (k' : Kp (fun _ => False) w1 w') => (range_pre (range_kp HR1 k' (fun f => f)) : w'.rangeAt g (off + k * 33) (U8s x.id)))
        have MX := Lib.hid (fun (w' : World) (k' : Kp (fun _ => False) w1 w') => (kept_blk m1 k' (fun f => f) : w'.heap[w.heap.size]? = some (.cells (U8s k0).toArray 27)))
        have HC32 := Lib.hid (fun (w' : World) (k' : Kp (fun _ => False) w1 w') => (range_kp HR1 k' (fun f => f) 32 _ (vt_n HN.out.len) : w'.cell? ⟨g, off + k * 33 + 32, none⟩ = some (.int .i64 x.n)))
        have K1 := Lib.hid (HK.out.trans k1 (fun _ _ f => f))
        have hee := HEQ.out x.id HN.out.len
        clear k1 HR1 m1
        go_upto_region 4 with fail
        refine wp_kept (W := w1) (by kernel_rfl) (by kernel_rfl) (Kp.refl _ _) ?_
        repeat (first
          | go_big_quiet_skip
          | (go_big_quiet_want; refine quiet_ld 27 _ rfl g (off + k * 33) rfl (U8s x.id) _ RX.out Try.underlying27 rfl (HIL.out _ HN.out.len) ?_; (simp only [Act.put, List.setIfInBounds_toArray, List.set_cons_zero, List.set_cons_succ]); go_big_quiet_on)
          | (go_big_quiet_want; refine quiet_load_row 27 _ rfl w.heap.size rfl 27 _ (0, 0) _ MX.out Try.underlying27 rfl HIK.out ?_; (simp only [Act.put, List.setIfInBounds_toArray, List.set_cons_zero, List.set_cons_succ]); go_big_quiet_on)
          | (go_big_quiet_want; go_big_quiet_op; first | go_big_quiet_on | go_big_quiet_call ((intro hk; with_reducible rfl))))
        refine wpQuiet_nil ?_
        intro w3 k3
        have c32 := HC32.out _ k3
        have K3 := Lib.hid (K1.out.trans k3 (fun _ _ f => f))
        clear k3
        by_cases hxy : x.id = k0
        · have HM := Lib.hid (show cntV l k0 = x.n by rw [← hxy]; exact cntV_mem HUQ.out (List.mem_of_getElem? HX.out))
          rw [decide_eq_true hxy]
          clear hxy
          go_wp2_with fail
          go_ret
          exact ⟨by rw [HM.out]; rfl, K0.out.trans K3.out (fun _ _ f => f)⟩
        · have HNE := Lib.hid hxy
          rw [decide_eq_false hxy]
          clear hxy
          go_wp2_with fail
          go_roundw
          case rel => exact ⟨k + 1, by omega, by go_num, Lib.hid (fun j y hj hy => by
            rcases Nat.lt_or_ge j k with h | h
            · exact HSM.out j y h hy
            · obtain rfl : j = k := by omega
              rw [HX.out] at hy
              cases hy
              exact HNE.out), K3⟩
          case measure => simp [intOf]; omega
      · obtain rfl : k = l.length := by omega
        have HM := Lib.hid (show cntV l k0 = 0 from cntV_none (fun y hy => by
          obtain ⟨j, hj⟩ := List.getElem?_of_mem hy
          exact HSM.out j y (List.getElem?_eq_some_iff.1 hj).1 hj))
        go_wp2_with ((with_reducible refine at_dst 12 ?_); refine wpListIn_skip rfl (by rfl) ?_)
        go_ret
        exact ⟨by rw [HM.out]; rfl, K0.out.trans HK.out (fun _ _ f => f)⟩

set_option maxRecDepth 100000 in
set_option maxHeartbeats 3200000 in
theorem rmodeT_any {v : Value} {l : List Vt} {w : World} (hs : SeesT w v l) (hv : TOk l) :
    Calls Try.prog 27 #[v] w fun e w' => e = .returned (.tuple #[.agg (U8s (modeV l).id).toArray, .int .i64 (modeV l).n]) ∧ Kp (fun _ => False) w w' := by
  have HQ := Lib.hid (fun w' (k : Kp (fun _ => False) w w') => rcheck_any (hs.kept k) hv)
  have hz := zeroVt
  have hzi : ∀ w, (zeroValue 27).run Try.prog w = .ok (.agg (U8s (List.replicate 32 0)).toArray) w := fun w => by kernel_rfl
  have HI := Lib.hid (fun (x : Vt) (h : x.id.length = 32) => infoVt h)
  have HI2 := Lib.hid (fun (x : Vt) (h : x.id.length = 32) => infoVt' h)
  have HS := Lib.hid (fun w' (k : Kp (fun _ => False) w w') => hs.kept k)
  have HV := Lib.hid hv
  have KK := Lib.hid (((Kp.refl (fun _ => False) w).alloc (.cells (U8s (List.replicate 32 0)).toArray 27)).alloc (.cells (vtC vt0).toArray 33))
  have MR := Lib.hid (old_blk (new_blk w (.cells (U8s (List.replicate 32 0)).toArray 27)) (.cells (vtC vt0).toArray 33))
  have hmb := new_blk (w.alloc (.cells (U8s (List.replicate 32 0)).toArray 27)) (.cells (vtC vt0).toArray 33)
  rw [World.size_alloc] at hmb
  have MB := Lib.hid hmb
  obtain ⟨a, c, rfl, hlc, hmax⟩ := hs.form
  obtain ⟨bv, hbv⟩ : ∃ b, b = modeV l := ⟨_, rfl⟩
  rw [← hbv]
  have HBV := Lib.hid hbv
  have HBN := Lib.hid (show Nm bv.id by rw [hbv]; exact (bestV_wf (bagged_ok hv) vt0_wf).nm)
  clear hs hv hbv hmb
  go_enter Try.func27, Try.ntmps27
  go_wp2_with fail
  go_loopw [5] (fun i wr => ∃ k : Nat, k ≤ l.length ∧ i = .int .i64 k ∧ Hid (wr.heap[w.heap.size + 1]? = some (.cells (vtC (bestV vt0 ((bagged l).take k))).toArray 33 (0, 0))) ∧ Hid (wr.heap[w.heap.size]? = some (.cells (U8s (List.replicate 32 0)).toArray 27 (0, 0))) ∧ Hid (Kp (fun _ => False) w wr)) (fun i _ => l.length - (intOf i).toNat)
  case atStart => exact ⟨0, Nat.zero_le _, rfl, MB, MR, KK⟩
  case round =>
    obtain ⟨k, hk, rfl, HM, HRES, HK⟩ := hrel
    by_cases hlt : k < l.length
    · have hd : decide ((k : Int) < l.length) = true := decide_eq_true (by omega)
      cases hg : good l with
      | false =>
        rw [bagged_bad hg, List.take_nil, show bestV vt0 [] = bv by rw [HBV.out]; unfold modeV; rw [bagged_bad hg]] at HM
        have hc : chkT l = 70 := by unfold chkT; rw [hg]; rfl
        rw [hc] at HQ
        clear hg hc
        go_wp2_with fail
        refine (HQ.out _ HK.out).mono ?_
        rintro e w1 ⟨rfl, k1⟩
        replace HM := Lib.hid (kept_blk HM.out k1 (fun f => f))
        replace HRES := Lib.hid (kept_blk HRES.out k1 (fun f => f))
        replace HK := Lib.hid (HK.out.trans k1 (fun _ _ f => f))
        clear k1
        go_upto_region 7 with fail
        refine wp_region_any (by kernel_rfl) ?_
        try (change wpAny _ _ _ _ _ _ _ (World.drew _))
        refine wpAny_take (i := 0) (v := ?_) rfl (by kernel_rfl) (by kernel_rfl) (by kernel_rfl) (fun _ _ _ h => h) (Or.inl ⟨by rfl, ?_⟩) ?_
        rotate_left
        · intro w; go_simp; try with_reducible rfl
        try simp only [Act.put, List.getElem_toArray, List.getElem_cons_zero, List.setIfInBounds_toArray, List.set_cons_zero, List.set_cons_succ]
        refine wpAny_take (i := 2) (v := ?_) rfl (by kernel_rfl) (by kernel_rfl) (by kernel_rfl) (fun _ _ _ h => h) (Or.inl ⟨by rfl, ?_⟩) ?_
        rotate_left
        · intro w; go_simp; try with_reducible rfl
        try simp only [Act.put, List.getElem_toArray, List.getElem_cons_succ, List.getElem_cons_zero, List.setIfInBounds_toArray, List.set_cons_zero, List.set_cons_succ]
        have RBX := Lib.hid (range_pre (range_blk (show w1.drew.heap[(w.heap.size + 1)]? = _ from HM.out)) : World.rangeAt w1.drew (w.heap.size + 1) 0 (U8s bv.id))
        have HR3 := Lib.hid (show w1.drew.heap[w.heap.size]? = _ from HRES.out)
        have c32 : w1.drew.cell? ⟨(w.heap.size + 1), 32, none⟩ = some (.int .i64 bv.n) := (cell_blk (show w1.drew.heap[(w.heap.size + 1)]? = _ from HM.out) 32).trans (by rw [List.getElem?_toArray]; exact vt_n HBN.out.len)
        refine wpAny_ready (rs := [1, 3]) (by kernel_rfl) (by simp) ?_
        refine BigFrame.allReady_want rfl (by kernel_rfl) (fun K hK => ?_) (BigFrame.allReady_want rfl (by kernel_rfl) (fun K hK => ?_) AllReady.nil)
        · refine wp_load_mid 27 _ rfl (w.heap.size + 1) 0 rfl (U8s bv.id) _ RBX.out Try.underlying27 rfl (infoIdL HBN.out.len) ?_
          refine hK _ _ ?_; clear hK K
          try simp only [Act.put, List.getElem_toArray, List.getElem_cons_succ, List.getElem_cons_zero, List.setIfInBounds_toArray, List.set_cons_zero, List.set_cons_succ]
          refine wpAny_ready (rs := [3, 4]) (by kernel_rfl) (by simp) ?_
          refine BigFrame.allReady_want rfl (by kernel_rfl) (fun K hK => ?_) (BigFrame.allReady_want rfl (by kernel_rfl) (fun K hK => ?_) AllReady.nil)
          · go_simp
            refine hK _ _ ?_; clear hK K
            try simp only [Act.put, List.getElem_toArray, List.getElem_cons_succ, List.getElem_cons_zero, List.setIfInBounds_toArray, List.set_cons_zero, List.set_cons_succ]
            refine wpAny_ready (rs := [4]) (by kernel_rfl) (by simp) ?_
            refine BigFrame.allReady_want rfl (by kernel_rfl) (fun K hK => ?_) AllReady.nil
            refine wp_store_row 27 _ _ rfl w.heap.size (U8s bv.id).toArray rfl rfl 27 _ HR3.out (info32 bv.id HBN.out.len) (by simp [U8s_length, HBN.out.len]) (all_oneCell_toArray (U8s_one _)) ?_
            refine hK _ _ ?_; clear hK K
            try simp only [Act.put]
            refine wpAny_take (i := 5) (v := ?_) rfl (by kernel_rfl) (by kernel_rfl) (by kernel_rfl) (fun _ _ _ h => h) (Or.inl ⟨by rfl, ?_⟩) ?_
            rotate_left
            · intro w; go_simp; try with_reducible rfl
            try simp only [Act.put, List.getElem_toArray, List.getElem_cons_succ, List.getElem_cons_zero, List.setIfInBounds_toArray, List.set_cons_zero, List.set_cons_succ]
            refine wpAny_done (by kernel_rfl) ?_ _
            go_wp2_with fail
            exact bodyPost_ret (v := .tuple #[.agg (U8s bv.id).toArray, .int .i64 bv.n]) (results_box_tmp Try.results27 _ _ w.heap.size 27 _ (0, 0) _ _ rfl rfl (st_row_blk HR3.out) Try.underlying27 rfl (info32 bv.id HBN.out.len)) rfl ⟨rfl, st_row_kp HK.out.drew (fun hlt => by omega) _⟩
          · refine wp_store_row 27 _ _ rfl w.heap.size (U8s bv.id).toArray rfl rfl 27 _ HR3.out (info32 bv.id HBN.out.len) (by simp [U8s_length, HBN.out.len]) (all_oneCell_toArray (U8s_one _)) ?_
            refine hK _ _ ?_; clear hK K
            try simp only [Act.put]
            have c33 : (w1.drew.setRow w.heap.size (U8s bv.id).toArray).cell? ⟨(w.heap.size + 1), 32, none⟩ = some (.int .i64 bv.n) := (cell_blk (kept_blk (show w1.drew.heap[(w.heap.size + 1)]? = _ from HM.out) (st_row_kp (F := fun y => y = w.heap.size) (Kp.refl _ _) (fun _ => rfl) _) (fun e => by omega)) 32).trans (by rw [List.getElem?_toArray]; exact vt_n HBN.out.len)
            refine wpAny_ready (rs := [3]) (by kernel_rfl) (by simp) ?_
            refine BigFrame.allReady_want rfl (by kernel_rfl) (fun K hK => ?_) AllReady.nil
            go_simp
            refine hK _ _ ?_; clear hK K
            try simp only [Act.put, List.getElem_toArray, List.getElem_cons_succ, List.getElem_cons_zero, List.setIfInBounds_toArray, List.set_cons_zero, List.set_cons_succ]
            refine wpAny_take (i := 5) (v := ?_) rfl (by kernel_rfl) (by kernel_rfl) (by kernel_rfl) (fun _ _ _ h => h) (Or.inl ⟨by rfl, ?_⟩) ?_
            rotate_left
            · intro w; go_simp; try with_reducible rfl
            try simp only [Act.put, List.getElem_toArray, List.getElem_cons_succ, List.getElem_cons_zero, List.setIfInBounds_toArray, List.set_cons_zero, List.set_cons_succ]
            refine wpAny_done (by kernel_rfl) ?_ _
            go_wp2_with fail
            exact bodyPost_ret (v := .tuple #[.agg (U8s bv.id).toArray, .int .i64 bv.n]) (results_box_tmp Try.results27 _ _ w.heap.size 27 _ (0, 0) _ _ rfl rfl (st_row_blk HR3.out) Try.underlying27 rfl (info32 bv.id HBN.out.len)) rfl ⟨rfl, st_row_kp HK.out.drew (fun hlt => by omega) _⟩
        · go_simp
          refine hK _ _ ?_; clear hK K
          try simp only [Act.put, List.getElem_toArray, List.getElem_cons_succ, List.getElem_cons_zero, List.setIfInBounds_toArray, List.set_cons_zero, List.set_cons_succ]
          refine wpAny_ready (rs := [1]) (by kernel_rfl) (by simp) ?_
          refine BigFrame.allReady_want rfl (by kernel_rfl) (fun K hK => ?_) AllReady.nil
          refine wp_load_mid 27 _ rfl (w.heap.size + 1) 0 rfl (U8s bv.id) _ RBX.out Try.underlying27 rfl (infoIdL HBN.out.len) ?_
          refine hK _ _ ?_; clear hK K
          try simp only [Act.put, List.getElem_toArray, List.getElem_cons_succ, List.getElem_cons_zero, List.setIfInBounds_toArray, List.set_cons_zero, List.set_cons_succ]
          refine wpAny_ready (rs := [4]) (by kernel_rfl) (by simp) ?_
          refine BigFrame.allReady_want rfl (by kernel_rfl) (fun K hK => ?_) AllReady.nil
          refine wp_store_row 27 _ _ rfl w.heap.size (U8s bv.id).toArray rfl rfl 27 _ HR3.out (info32 bv.id HBN.out.len) (by simp [U8s_length, HBN.out.len]) (all_oneCell_toArray (U8s_one _)) ?_
          refine hK _ _ ?_; clear hK K
          try simp only [Act.put]
          refine wpAny_take (i := 5) (v := ?_) rfl (by kernel_rfl) (by kernel_rfl) (by kernel_rfl) (fun _ _ _ h => h) (Or.inl ⟨by rfl, ?_⟩) ?_
          rotate_left
          · intro w; go_simp; try with_reducible rfl
          try simp only [Act.put, List.getElem_toArray, List.getElem_cons_succ, List.getElem_cons_zero, List.setIfInBounds_toArray, List.set_cons_zero, List.set_cons_succ]
          refine wpAny_done (by kernel_rfl) ?_ _
          go_wp2_with fail
          exact bodyPost_ret (v := .tuple #[.agg (U8s bv.id).toArray, .int .i64 bv.n]) (results_box_tmp Try.results27 _ _ w.heap.size 27 _ (0, 0) _ _ rfl rfl (st_row_blk HR3.out) Try.underlying27 rfl (info32 bv.id HBN.out.len)) rfl ⟨rfl, st_row_kp HK.out.drew (fun hlt => by omega) _⟩
      | true =>
        have hc : chkT l = 0 := by unfold chkT; rw [hg]; rfl
        rw [hc] at HQ
        rw [bagged_of hg] at HM
        have HBG := Lib.hid (bagged_of hg)
        obtain ⟨x, hx⟩ : ∃ x, l[k]? = some x := ⟨l[k], List.getElem?_eq_getElem hlt⟩
        obtain ⟨g, off, rfl, hr⟩ := (HS.out _ HK.out).at hx
        have HN := Lib.hid (tok_at HV.out hx).nm
        have HR := Lib.hid hr
        have HT := Lib.hid (bestV_take hx vt0)
        obtain ⟨best, hbe⟩ : ∃ b, b = bestV vt0 (l.take k) := ⟨_, rfl⟩
        have HBN := Lib.hid (show Nm best.id by rw [hbe]; exact (bestV_wf (fun y hy => HV.out y (List.mem_of_mem_take hy)) vt0_wf).nm)
        rw [← hbe] at HM HT
        clear hr hx hbe hg hc
        go_wp2_with fail
        refine (HQ.out _ HK.out).mono ?_
        rintro e w1 ⟨rfl, k1⟩
        have HR1 := range_kp HR.out k1 (fun f => f)
        have m1 := kept_blk HM.out k1 (fun f => f)
        have HC32 := Lib.hid (fun (w' : World) (k' : Kp (fun _ => False) w1 w') => (range_kp HR1 k' (fun f => f) 32 _ (vt_n HN.out.len) : w'.cell? ⟨g, off + k * 33 + 32, none⟩ = some (.int .i64 x.n)))
        have HB32 := Lib.hid (fun (w' : World) (k' : Kp (fun _ => False) w1 w') => ((cell_blk (kept_blk m1 k' (fun f => f)) 32).trans (by rw [List.getElem?_toArray]; exact vt_n HBN.out.len) : w'.cell? ⟨w.heap.size + 1, 32, none⟩ = some (.int .i64 best.n)))
        have HRK := Lib.hid (fun (w' : World) (k' : Kp (fun _ => False) w1 w') => range_kp HR1 k' (fun f => f))
        have HMK := Lib.hid (fun (w' : World) (k' : Kp (fun _ => False) w1 w') => kept_blk m1 k' (fun f => f))
        have m2 := kept_blk HRES.out k1 (fun f => f)
        have HSK := Lib.hid (fun (w' : World) (k' : Kp (fun _ => False) w1 w') => kept_blk m2 k' (fun f => f))
        have K1 := Lib.hid (HK.out.trans k1 (fun _ _ f => f))
        clear k1 HR1 m1 m2
        by_cases hlt2 : best.n < x.n
        · have HT2 := Lib.hid (show bestV vt0 ((bagged l).take (k + 1)) = x by rw [HBG.out, HT.out, if_pos hlt2])
          have d2 := decide_eq_true hlt2
          go_upto_region 5 with fail
          refine wp_kept (W := w1) (by kernel_rfl) (by kernel_rfl) (Kp.refl _ _) ?_
          repeat (first
            | go_big_quiet_skip
            | (go_big_quiet_want; refine quiet_cl 3 _ rfl ⟨g, off + k * 33 + 32, none⟩ rfl (.int .i64 x.n) _ HC32.out Try.underlying3 rfl ?_; (simp only [Act.put, List.setIfInBounds_toArray, List.set_cons_zero, List.set_cons_succ]); go_big_quiet_on)
            | (go_big_quiet_want; refine quiet_cl 3 _ rfl ⟨w.heap.size + 1, 32, none⟩ rfl (.int .i64 best.n) _ HB32.out Try.underlying3 rfl ?_; (simp only [Act.put, List.setIfInBounds_toArray, List.set_cons_zero, List.set_cons_succ]); go_big_quiet_on)
            | (go_big_quiet_want; go_big_quiet_op; first | go_big_quiet_on | go_big_quiet_call ((intro hk; with_reducible rfl))))
          refine wpQuiet_nil ?_
          intro w3 k3
          have HR3 := Lib.hid (HRK.out _ k3)
          have HM3 := Lib.hid (HMK.out _ k3)
          have HS3 := Lib.hid (HSK.out _ k3)
          have K3 := Lib.hid (K1.out.trans k3 (fun _ _ f => f))
          clear k3
          go_wp2_with (first
            | ((with_reducible refine at_dst 28 ?_); refine wpList_load_mid rfl 33 _ rfl g (off + k * 33) rfl (vtC x) _ HR3.out Try.underlying33 rfl (HI.out x HN.out.len) ?_)
            | ((with_reducible refine at_store 4 28 ?_); refine wpList_store_row rfl 33 _ _ rfl (w.heap.size + 1) (vtC x).toArray rfl rfl 33 _ HM3.out (HI2.out x HN.out.len) (vt_same HBN.out.len HN.out.len) (vtC_all x) ?_))
          go_roundw
          case rel => exact ⟨k + 1, by omega, by go_num, Lib.hid (by rw [HT2.out]; exact st_row_blk HM3.out), Lib.hid (by
            refine kept_blk HS3.out (st_row_kp (F := fun y => y = w.heap.size + 1) (Kp.refl _ _) (fun _ => rfl) _) (fun e => ?_)
            omega), Lib.hid (st_row_kp K3.out (fun hlt => by omega) _)⟩
          case measure => simp [intOf]; omega
        · have HT2 := Lib.hid (show bestV vt0 ((bagged l).take (k + 1)) = best by rw [HBG.out, HT.out, if_neg hlt2])
          have d2 := decide_eq_false hlt2
          go_upto_region 5 with fail
          refine wp_kept (W := w1) (by kernel_rfl) (by kernel_rfl) (Kp.refl _ _) ?_
          repeat (first
            | go_big_quiet_skip
            | (go_big_quiet_want; refine quiet_cl 3 _ rfl ⟨g, off + k * 33 + 32, none⟩ rfl (.int .i64 x.n) _ HC32.out Try.underlying3 rfl ?_; (simp only [Act.put, List.setIfInBounds_toArray, List.set_cons_zero, List.set_cons_succ]); go_big_quiet_on)
            | (go_big_quiet_want; refine quiet_cl 3 _ rfl ⟨w.heap.size + 1, 32, none⟩ rfl (.int .i64 best.n) _ HB32.out Try.underlying3 rfl ?_; (simp only [Act.put, List.setIfInBounds_toArray, List.set_cons_zero, List.set_cons_succ]); go_big_quiet_on)
            | (go_big_quiet_want; go_big_quiet_op; first | go_big_quiet_on | go_big_quiet_call ((intro hk; with_reducible rfl))))
          refine wpQuiet_nil ?_
          intro w3 k3
          have HM3 := Lib.hid (HMK.out _ k3)
          have HS3 := Lib.hid (HSK.out _ k3)
          have K3 := Lib.hid (K1.out.trans k3 (fun _ _ f => f))
          clear k3
          go_wp2_with fail
          go_roundw
          case rel => exact ⟨k + 1, by omega, by go_num, Lib.hid (by rw [HT2.out]; exact HM3.out), HS3, K3⟩
          case measure => simp [intOf]; omega
    · obtain rfl : k = l.length := by omega
      rw [show (bagged l).take l.length = bagged l from List.take_of_length_le (by
        cases hg : good l with
        | false => rw [bagged_bad hg]; exact Nat.zero_le _
        | true => rw [bagged_of hg]; exact Nat.le_refl _), show bestV vt0 (bagged l) = bv from HBV.out.symm] at HM
      go_upto_region 7 with ((with_reducible refine at_dst 12 ?_); refine wpListIn_skip rfl (by rfl) ?_)
      refine wp_region_any (by kernel_rfl) ?_
      try (change wpAny _ _ _ _ _ _ _ (World.drew _))
      refine wpAny_take (i := 0) (v := ?_) rfl (by kernel_rfl) (by kernel_rfl) (by kernel_rfl) (fun _ _ _ h => h) (Or.inl ⟨by rfl, ?_⟩) ?_
      rotate_left
      · intro w; go_simp; try with_reducible rfl
      try simp only [Act.put, List.getElem_toArray, List.getElem_cons_zero, List.setIfInBounds_toArray, List.set_cons_zero, List.set_cons_succ]
      refine wpAny_take (i := 2) (v := ?_) rfl (by kernel_rfl) (by kernel_rfl) (by kernel_rfl) (fun _ _ _ h => h) (Or.inl ⟨by rfl, ?_⟩) ?_
      rotate_left
      · intro w; go_simp; try with_reducible rfl
      try simp only [Act.put, List.getElem_toArray, List.getElem_cons_succ, List.getElem_cons_zero, List.setIfInBounds_toArray, List.set_cons_zero, List.set_cons_succ]
      have RBX := Lib.hid (range_pre (range_blk (show wr.drew.heap[(w.heap.size + 1)]? = _ from HM.out)) : World.rangeAt wr.drew (w.heap.size + 1) 0 (U8s bv.id))
      have HR3 := Lib.hid (show wr.drew.heap[w.heap.size]? = _ from HRES.out)
      have c32 : wr.drew.cell? ⟨(w.heap.size + 1), 32, none⟩ = some (.int .i64 bv.n) := (cell_blk (show wr.drew.heap[(w.heap.size + 1)]? = _ from HM.out) 32).trans (by rw [List.getElem?_toArray]; exact vt_n HBN.out.len)
      refine wpAny_ready (rs := [1, 3]) (by kernel_rfl) (by simp) ?_
      refine BigFrame.allReady_want rfl (by kernel_rfl) (fun K hK => ?_) (BigFrame.allReady_want rfl (by kernel_rfl) (fun K hK => ?_) AllReady.nil)
      · refine wp_load_mid 27 _ rfl (w.heap.size + 1) 0 rfl (U8s bv.id) _ RBX.out Try.underlying27 rfl (infoIdL HBN.out.len) ?_
        refine hK _ _ ?_; clear hK K
        try simp only [Act.put, List.getElem_toArray, List.getElem_cons_succ, List.getElem_cons_zero, List.setIfInBounds_toArray, List.set_cons_zero, List.set_cons_succ]
        refine wpAny_ready (rs := [3, 4]) (by kernel_rfl) (by simp) ?_
        refine BigFrame.allReady_want rfl (by kernel_rfl) (fun K hK => ?_) (BigFrame.allReady_want rfl (by kernel_rfl) (fun K hK => ?_) AllReady.nil)
        · go_simp
          refine hK _ _ ?_; clear hK K
          try simp only [Act.put, List.getElem_toArray, List.getElem_cons_succ, List.getElem_cons_zero, List.setIfInBounds_toArray, List.set_cons_zero, List.set_cons_succ]
          refine wpAny_ready (rs := [4]) (by kernel_rfl) (by simp) ?_
          refine BigFrame.allReady_want rfl (by kernel_rfl) (fun K hK => ?_) AllReady.nil
          refine wp_store_row 27 _ _ rfl w.heap.size (U8s bv.id).toArray rfl rfl 27 _ HR3.out (info32 bv.id HBN.out.len) (by simp [U8s_length, HBN.out.len]) (all_oneCell_toArray (U8s_one _)) ?_
          refine hK _ _ ?_; clear hK K
          try simp only [Act.put]
          refine wpAny_take (i := 5) (v := ?_) rfl (by kernel_rfl) (by kernel_rfl) (by kernel_rfl) (fun _ _ _ h => h) (Or.inl ⟨by rfl, ?_⟩) ?_
          rotate_left
          · intro w; go_simp; try with_reducible rfl
          try simp only [Act.put, List.getElem_toArray, List.getElem_cons_succ, List.getElem_cons_zero, List.setIfInBounds_toArray, List.set_cons_zero, List.set_cons_succ]
          refine wpAny_done (by kernel_rfl) ?_ _
          go_wp2_with fail
          exact bodyPost_ret (v := .tuple #[.agg (U8s bv.id).toArray, .int .i64 bv.n]) (results_box_tmp Try.results27 _ _ w.heap.size 27 _ (0, 0) _ _ rfl rfl (st_row_blk HR3.out) Try.underlying27 rfl (info32 bv.id HBN.out.len)) rfl ⟨rfl, st_row_kp HK.out.drew (fun hlt => by omega) _⟩
        · refine wp_store_row 27 _ _ rfl w.heap.size (U8s bv.id).toArray rfl rfl 27 _ HR3.out (info32 bv.id HBN.out.len) (by simp [U8s_length, HBN.out.len]) (all_oneCell_toArray (U8s_one _)) ?_
          refine hK _ _ ?_; clear hK K
          try simp only [Act.put]
          have c33 : (wr.drew.setRow w.heap.size (U8s bv.id).toArray).cell? ⟨(w.heap.size + 1), 32, none⟩ = some (.int .i64 bv.n) := (cell_blk (kept_blk (show wr.drew.heap[(w.heap.size + 1)]? = _ from HM.out) (st_row_kp (F := fun y => y = w.heap.size) (Kp.refl _ _) (fun _ => rfl) _) (fun e => by omega)) 32).trans (by rw [List.getElem?_toArray]; exact vt_n HBN.out.len)
          refine wpAny_ready (rs := [3]) (by kernel_rfl) (by simp) ?_
          refine BigFrame.allReady_want rfl (by kernel_rfl) (fun K hK => ?_) AllReady.nil
          go_simp
          refine hK _ _ ?_; clear hK K
          try simp only [Act.put, List.getElem_toArray, List.getElem_cons_succ, List.getElem_cons_zero, List.setIfInBounds_toArray, List.set_cons_zero, List.set_cons_succ]
          refine wpAny_take (i := 5) (v := ?_) rfl (by kernel_rfl) (by kernel_rfl) (by kernel_rfl) (fun _ _ _ h => h) (Or.inl ⟨by rfl, ?_⟩) ?_
          rotate_left
          · intro w; go_simp; try with_reducible rfl
          try simp only [Act.put, List.getElem_toArray, List.getElem_cons_succ, List.getElem_cons_zero, List.setIfInBounds_toArray, List.set_cons_zero, List.set_cons_succ]
          refine wpAny_done (by kernel_rfl) ?_ _
          go_wp2_with fail
          exact bodyPost_ret (v := .tuple #[.agg (U8s bv.id).toArray, .int .i64 bv.n]) (results_box_tmp Try.results27 _ _ w.heap.size 27 _ (0, 0) _ _ rfl rfl (st_row_blk HR3.out) Try.underlying27 rfl (info32 bv.id HBN.out.len)) rfl ⟨rfl, st_row_kp HK.out.drew (fun hlt => by omega) _⟩
      · go_simp
        refine hK _ _ ?_; clear hK K
        try simp only [Act.put, List.getElem_toArray, List.getElem_cons_succ, List.getElem_cons_zero, List.setIfInBounds_toArray, List.set_cons_zero, List.set_cons_succ]
        refine wpAny_ready (rs := [1]) (by kernel_rfl) (by simp) ?_
        refine BigFrame.allReady_want rfl (by kernel_rfl) (fun K hK => ?_) AllReady.nil
        refine wp_load_mid 27 _ rfl (w.heap.size + 1) 0 rfl (U8s bv.id) _ RBX.out Try.underlying27 rfl (infoIdL HBN.out.len) ?_
        refine hK _ _ ?_; clear hK K
        try simp only [Act.put, List.getElem_toArray, List.getElem_cons_succ, List.getElem_cons_zero, List.setIfInBounds_toArray, List.set_cons_zero, List.set_cons_succ]
        refine wpAny_ready (rs := [4]) (by kernel_rfl) (by simp) ?_
        refine BigFrame.allReady_want rfl (by kernel_rfl) (fun K hK => ?_) AllReady.nil
        refine wp_store_row 27 _ _ rfl w.heap.size (U8s bv.id).toArray rfl rfl 27 _ HR3.out (info32 bv.id HBN.out.len) (by simp [U8s_length, HBN.out.len]) (all_oneCell_toArray (U8s_one _)) ?_
        refine hK _ _ ?_; clear hK K
        try simp only [Act.put]
        refine wpAny_take (i := 5) (v := ?_) rfl (by kernel_rfl) (by kernel_rfl) (by kernel_rfl) (fun _ _ _ h => h) (Or.inl ⟨by rfl, ?_⟩) ?_
        rotate_left
        · intro w; go_simp; try with_reducible rfl
        try simp only [Act.put, List.getElem_toArray, List.getElem_cons_succ, List.getElem_cons_zero, List.setIfInBounds_toArray, List.set_cons_zero, List.set_cons_succ]
        refine wpAny_done (by kernel_rfl) ?_ _
        go_wp2_with fail
        exact bodyPost_ret (v := .tuple #[.agg (U8s bv.id).toArray, .int .i64 bv.n]) (results_box_tmp Try.results27 _ _ w.heap.size 27 _ (0, 0) _ _ rfl rfl (st_row_blk HR3.out) Try.underlying27 rfl (info32 bv.id HBN.out.len)) rfl ⟨rfl, st_row_kp HK.out.drew (fun hlt => by omega) _⟩

set_option maxRecDepth 100000 in
set_option maxHeartbeats 1600000 in
theorem ratl_any {v : Value} {l : List Vt} (n : Int) {w : World} (hs : SeesT w v l) (hv : TOk l) (hl : l.length ≤ 1000) :
    Calls Try.prog 28 #[v, .int .i64 n] w fun e w' => ∃ v', e = .returned v' ∧ SeesI (fun _ => True) w' v' (atlV (bagged l) n) ∧ Kp (fun _ => False) w w' := by
  have HQ := fun w' (k : Kp (fun _ => False) w w') => rcheck_any (hs.kept k) hv
  have HS := Lib.hid (fun w' (k : Kp (fun _ => False) w w') => hs.kept k)
  have HV := Lib.hid hv
  obtain ⟨a, c, rfl, hlc, hmax⟩ := hs.form
  cases hg : good l with
  | false =>
    rw [show chkT l = 70 by unfold chkT; rw [hg]; rfl] at HQ
    have hp : (0 : Int) < l.length := by have := bad_pos hg; omega
    have hd := decide_eq_true hp
    have HC := Lib.hid HQ
    rw [bagged_bad hg]
    clear hs hv hg HQ
    go_enter Try.func28, Try.ntmps28
    go_wp2_with fail
    go_loopw [5, 6] (fun s i wr => i = .int .i64 0 ∧ s = .slice none 0 0 ∧ Hid (Kp (fun _ => False) w wr)) (fun _ _ _ => 0)
    case atStart => exact ⟨rfl, rfl, Lib.hid (Kp.refl _ _)⟩
    case round =>
      obtain ⟨rfl, rfl, HK⟩ := hrel
      go_wp2_with fail
      refine (HC.out _ HK.out).mono ?_
      rintro e w1 ⟨rfl, k1⟩
      have K1 := Lib.hid (HK.out.trans k1 (fun _ _ f => f))
      clear k1
      go_wp2_with fail
      go_ret
      exact ⟨_, rfl, .inl ⟨rfl, rfl⟩, K1.out⟩
  | true =>
    rw [show chkT l = 0 by unfold chkT; rw [hg]; rfl] at HQ
    have HC := Lib.hid HQ
    have HIL := Lib.hid (fun (x : List Int) (h : x.length = 32) => infoIdL h)
    rw [bagged_of hg]
    have HLL := Lib.hid hl
    clear hs hv hg HQ hl
    go_enter Try.func28, Try.ntmps28
    go_wp2_with fail
    go_loopw [5, 6] (fun s i wr => ∃ k : Nat, k ≤ l.length ∧ i = .int .i64 k ∧ (∃ sa sc, s = .slice sa (atlV (l.take k) n).length sc) ∧ Hid (OwnG 27 32 wr w.heap.size s (atlV (l.take k) n).length (U8s (atlV (l.take k) n).flatten)) ∧ Hid (Kp (fun _ => False) w wr)) (fun _ i _ => l.length - (intOf i).toNat)
    case atStart => exact ⟨0, Nat.zero_le _, rfl, ⟨none, 0, rfl⟩, Lib.hid (OwnG.nil _ _ _ _), Lib.hid (Kp.refl _ _)⟩
    case round =>
      obtain ⟨k, hk, rfl, ⟨sa, sc, rfl⟩, HO, HK⟩ := hrel
      by_cases hlt : k < l.length
      · obtain ⟨x, hx⟩ : ∃ x, l[k]? = some x := ⟨l[k], List.getElem?_eq_getElem hlt⟩
        obtain ⟨g, off, rfl, hr⟩ := (HS.out _ HK.out).at hx
        have HN := Lib.hid (tok_at HV.out hx).nm
        have HR := Lib.hid hr
        have HT := atlV_take hx n
        have HOL := Lib.hid (show (atlV (l.take k) n).length ≤ l.length by
          unfold atlV
          rw [List.length_map]
          exact Nat.le_trans (List.length_filter_le _ _) (by rw [List.length_take]; omega))
        obtain ⟨on, hon⟩ : ∃ o, o = atlV (l.take k) n := ⟨_, rfl⟩
        rw [← hon] at HO HT HOL
        rw [← hon]
        have hd : decide ((k : Int) < l.length) = true := decide_eq_true (by omega)
        clear hr hon hx
        go_wp2_with fail
        refine (HC.out _ HK.out).mono ?_
        rintro e w1 ⟨rfl, k1⟩
        have c32 : w1.cell? ⟨g, off + k * 33 + 32, none⟩ = some (.int .i64 x.n) := range_kp HR.out k1 (fun f => f) 32 _ (vt_n HN.out.len)
        have RU := Lib.hid (range_pre (range_kp HR.out k1 (fun f => f)) : w1.rangeAt g (off + k * 33) (U8s x.id))
        have HO1 := Lib.hid (HO.out.kept k1 (fun _ _ f => f))
        have K1 := Lib.hid (HK.out.trans k1 (fun _ _ f => f))
        clear k1
        by_cases hq : n ≤ x.n
        · rw [decide_eq_true hq] at HT
          have d2 := decide_eq_true hq
          have HT := Lib.hid HT
          obtain ⟨v', u4, hap, ho4, hk4, _⟩ := app_own Try.underlying23 infoIdG zId_size (w := w1.alloc (.cells (U8s x.id).toArray 27)) (B := w.heap.size) (n := on.length) (k := 1) (by rw [World.size_alloc]; have := K1.out.size; omega) (HO1.out.kept (k := (Kp.refl (fun _ => False) _).alloc _) (fun _ _ f => f)) (src_id x.id HN.out.len (new_blk w1 _)) (by omega) (by have := HLL.out; have := HOL.out; omega) (by omega)
          have HO4 := Lib.hid ho4
          have HK4 := Lib.hid hk4
          clear ho4 hk4
          go_wp2_with (first
            | ((with_reducible refine at_dst 30 ?_); refine wpList_load_mid rfl 27 _ rfl g (off + k * 33) rfl (U8s x.id) _ RU.out Try.underlying27 rfl (HIL.out x.id HN.out.len) ?_)
            | ((with_reducible refine at_dst 31 ?_); refine wpList_slice_run rfl 23 1 _ rfl _ rfl _ _ (mkI1 x.id HN.out.len _) ?_)
            | (at_builtin; refine Lib.wpList_append_run _ rfl _ _ _ _ rfl _ _ rfl rfl _ _ (hap _) ?_))
          go_roundw
          case rel =>
            obtain ⟨a4, c4, rfl⟩ := HO4.out.form
            exact ⟨k + 1, by omega, by go_num, ⟨a4, c4, by rw [HT.out, List.length_append]; rfl⟩, Lib.hid (by rw [HT.out, List.flatten_append, U8s_append, List.length_append, show U8s (cond true [x.id] [] : List (List Int)).flatten = U8s x.id by simp]; exact HO4.out), Lib.hid ((K1.out.alloc _).trans HK4.out (fun y hy e => by
              have := (HO1.out.lt _ e).1
              omega))⟩
          case measure => simp [intOf]; omega
        · rw [decide_eq_false hq] at HT
          have d2 := decide_eq_false hq
          have HT := Lib.hid HT
          go_wp2_with fail
          go_roundw
          case rel => exact ⟨k + 1, by omega, by go_num, ⟨sa, sc, by rw [HT.out]; simp⟩, Lib.hid (by rw [HT.out]; simpa using HO1.out), K1⟩
          case measure => simp [intOf]; omega
      · obtain rfl : k = l.length := by omega
        rw [List.take_length] at HO
        rw [List.take_length]
        have hnm : ∀ y ∈ atlV l n, Nm y := fun y hy => by
          obtain ⟨z, hz, rfl⟩ := List.mem_map.1 hy
          exact (HV.out z (List.mem_filter.1 hz).1).nm
        have HRS := Lib.hid ((own_seesI (fun y hy => (hnm y hy).len) HO.out).mono (A' := fun _ => True) (fun _ _ _ => trivial) (fun y hy => (hnm y hy).len))
        clear hnm
        obtain ⟨on, hon⟩ : ∃ o, o = atlV l n := ⟨_, rfl⟩
        have HON := Lib.hid hon
        rw [← hon] at HRS
        rw [← hon]
        clear hon
        go_wp2_with ((with_reducible refine at_dst 13 ?_); refine wpListIn_skip rfl (by rfl) ?_)
        go_ret
        exact ⟨_, rfl, by rw [← HON.out]; exact HRS.out, HK.out⟩
end Go.Proofs.Ytoeinolekpmbbaa
