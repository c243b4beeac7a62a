/-
  The document's Less, Check, Total and Count of bags.
-/
import Derived.Test.YtoeinolekpmbbaaFh
namespace Go.Proofs.Ytoeinolekpmbbaa
open Go.ChangeShapes Go.WideShapes Go.ChangeAt Go.RowKit

/-- a single cell loaded, in a region that draws -/
theorem quiet_cl {P : Program} {C : World → Prop} {a : Act} {o : Oper} {K : Act → Prop} (ty : TypeId) (x : Operand) (ho : o.op = .load ty x)
    (p : Addr) (hx : a.eval x = .pointer (some p)) (u : Value) (d : TypeDesc) (hc : ∀ w, C w → w.cell? p = some u)
    (hu : P.underlying ty = some d) (hd : d.isRow = false)
    (h : K (a.put o.dst u)) : o.quiet P a C K :=
  ⟨u, fun w hw => by
    have hagg : (isAgg ty).run P w = .ok false w := by
      unfold isAgg
      rw [Sem.run_bind, run_underlying hu w]
      cases d <;> simp_all
    unfold Oper.quietAt execOp
    simp only [ho, hx, Instr.loadAt, Instr.sureAddr, Sem.run_bind, Sem.run_pure, Result.andThen_ok, loadVar, hagg, Bool.false_eq_true, if_false, run_load, hc w hw]
    exact ⟨rfl, rfl⟩, h⟩

set_option maxRecDepth 100000 in
set_option maxHeartbeats 800000 in
theorem rless_any (a b : List Int) (ha : Nm a) (hb : Nm b) (w : World) :
    Calls Try.prog 12 #[.agg (U8s a).toArray, .agg (U8s b).toArray] w fun e w' => e = .returned (.bool (decide (cmpI a b < 0))) ∧ Kp (fun _ => False) w w' := by
  have h1 := old_blk (new_blk w (.cells (U8s a).toArray 27)) (.cells (U8s b).toArray 27)
  have h2 := new_blk (w.alloc (.cells (U8s a).toArray 27)) (.cells (U8s b).toArray 27)
  rw [World.size_alloc] at h2
  have hstart : ∃ m, (w.alloc (.cells (U8s a).toArray 27)).alloc (.cells (U8s b).toArray 27) = ((w.alloc (.cells (U8s a).toArray 27)).alloc (.cells (U8s b).toArray 27)).drewN m := ⟨0, rfl⟩
  have hkp : ∀ m, Kp (fun _ => False) w (((w.alloc (.cells (U8s a).toArray 27)).alloc (.cells (U8s b).toArray 27)).drewN m) := fun m => (((Kp.refl _ w).alloc _).alloc _).drewN m
  have H1 := Lib.hid h1
  have H2 := Lib.hid h2
  have HA := Lib.hid ha
  have HB := Lib.hid hb
  have HS := Lib.hid hstart
  have HK := Lib.hid hkp
  clear h1 h2 ha hb hstart hkp
  go_enter Try.func12, Try.ntmps12
  go_wp2
  go_loopw [5] (fun i wr => ∃ k : Nat, k ≤ 32 ∧ i = .int .i64 k ∧ Hid (a.take k = b.take k) ∧ ∃ m, wr = ((w.alloc (.cells (U8s a).toArray 27)).alloc (.cells (U8s b).toArray 27)).drewN m) (fun i _ => 32 - (intOf i).toNat)
  case atStart => exact ⟨0, by omega, rfl, Lib.hid rfl, HS.out⟩
  case round =>
    obtain ⟨k, hk, rfl, hab0, m, hwr⟩ := hrel
    have hab := hab0.out
    have hcd := cmpI_drop k a b hab (by rw [HA.out.len]; exact hk) (by rw [HB.out.len]; exact hk)
    have hfin : Kp (fun _ => False) w wr := by rw [hwr]; exact HK.out m
    by_cases hlt : k < 32
    · have ca : wr.cell? ⟨w.heap.size, k, none⟩ = some (.int .u8 (a.getD k 0)) := by
        rw [hwr, World.cell?_drewN, cell_blk H1.out, List.getElem?_toArray]
        exact U8s_get (by simp [HA.out.len, hlt])
      have cb : wr.cell? ⟨w.heap.size + 1, k, none⟩ = some (.int .u8 (b.getD k 0)) := by
        rw [hwr, World.cell?_drewN, cell_blk H2.out, List.getElem?_toArray]
        exact U8s_get (by simp [HB.out.len, hlt])
      rw [drop_getD a k (by rw [HA.out.len]; exact hlt), drop_getD b k (by rw [HB.out.len]; exact hlt)] at hcd
      have hnx : a.getD k 0 = b.getD k 0 → a.take (k + 1) = b.take (k + 1) := fun e => by
        rw [List.take_succ_eq_append_getElem (by rw [HA.out.len]; exact hlt), List.take_succ_eq_append_getElem (by rw [HB.out.len]; exact hlt), hab]
        simp [HA.out.len, HB.out.len, hlt] at e
        rw [e]
      obtain ⟨x, hx⟩ : ∃ x, x = a.getD k 0 := ⟨_, rfl⟩
      obtain ⟨y, hy⟩ : ∃ y, y = b.getD k 0 := ⟨_, rfl⟩
      rw [← hx] at ca hcd hnx
      rw [← hy] at cb hcd hnx
      have hd : decide ((k : Int) < 32) = true := by simp; omega
      have p0 : (0 : Int) ≤ k := by omega
      have p1 : (k : Int) < 32 := by omega
      have HN := Lib.hid hnx
      have HC := Lib.hid hcd
      have HW := Lib.hid hwr
      have HF := Lib.hid hfin
      clear hnx hcd hwr hfin hx hy hab hab0
      by_cases hxy : x = y
      · have e1 : decide (x = y) = true := decide_eq_true hxy
        have e2 : (x == y) = true := by simpa using hxy
        have e3 : (x != y) = false := by simpa using hxy
        have HXY := Lib.hid hxy
        clear hxy
        go_wp2_with fail
        go_quiet (fail)
        try rw [e3]
        go_wp2_with fail
        go_roundw
        case rel => exact ⟨k + 1, by omega, by go_num, Lib.hid (HN.out HXY.out), _, by rw [HW.out]; exact drewN_two _ _ _⟩
        case measure => simp [intOf]; omega
      · have e1 : decide (x = y) = false := decide_eq_false hxy
        have e2 : (x == y) = false := by simpa using hxy
        have e3 : (x != y) = true := by simpa using hxy
        have HE := Lib.hid (show decide (cmpI a b < 0) = decide (x < y) by
          rw [HC.out]
          by_cases h1 : x < y
          · simp [cmpI, h1]
          · have h2 : y < x := by omega
            simp [cmpI, h1, h2])
        clear hxy
        go_wp2_with fail
        go_quiet (fail)
        try rw [e3]
        go_wp2_with fail
        go_quiet (fail)
        go_wp2_with fail
        go_ret
        exact ⟨by rw [HE.out]; rfl, (HF.out.drewN _).drewN _⟩
    · obtain rfl : k = 32 := by omega
      rw [List.drop_eq_nil_of_le (by rw [HA.out.len]; omega), List.drop_eq_nil_of_le (by rw [HB.out.len]; omega)] at hcd
      have HC := Lib.hid hcd
      have HF := Lib.hid hfin
      clear hcd hfin hwr hab hab0
      rw [show ((32 : Nat) : Int) = 32 from rfl]
      go_wp2_with fail
      go_ret
      exact ⟨by rw [HC.out]; rfl, HF.out⟩

set_option maxRecDepth 100000 in
set_option maxHeartbeats 3200000 in
theorem rcheck_any {v : Value} {l : List Vt} {w : World} (hs : SeesT w v l) (hv : TOk l) :
    Calls Try.prog 14 #[v] w fun e w' => e = .returned (.int .i64 (chkT l)) ∧ Kp (fun _ => False) w w' := by
  obtain ⟨a, c, rfl, hlc, hmax⟩ := hs.form
  have HS := Lib.hid hs
  have HV := Lib.hid hv
  have HID := Lib.hid (fun (x : List Int) (h : x.length = 32) => infoIdL h)
  have HLS := Lib.hid (fun (a b : List Int) (ha : Nm a) (hb : Nm b) (w : World) => rless_any a b ha hb w)
  obtain ⟨chk, hchk⟩ : ∃ z, z = chkT l := ⟨_, rfl⟩
  have HBAD := Lib.hid (show good l = false → chk = 70 from fun h => by rw [hchk]; unfold chkT; rw [h]; rfl)
  have HGD := Lib.hid (show good l = true → chk = 0 from fun h => by rw [hchk]; unfold chkT; rw [h]; rfl)
  rw [← hchk]
  clear hs hv hchk
  go_enter Try.func14, Try.ntmps14
  go_wp2
  go_loopw [3, 4] (fun s i wr => ∃ (k : Nat) (t : Int), k ≤ l.length ∧ i = .int .i64 k ∧ s = .int .i64 t ∧ (0 ≤ t ∧ t ≤ 1048576) ∧ Hid (Kp (fun _ => False) w wr) ∧ Hid (t = 1048576 - sumT (l.take k)) ∧ Hid (good (l.take k) = true)) (fun _ i _ => l.length - (intOf i).toNat)
  case atStart => exact ⟨0, 1048576, by omega, rfl, rfl, by omega, Lib.hid (Kp.refl _ _), Lib.hid rfl, Lib.hid rfl⟩
  case round =>
    obtain ⟨k, t, hk, rfl, rfl, ⟨ht0, ht1⟩, HK, hsm, hgd⟩ := hrel
    by_cases hlt : k < l.length
    · obtain ⟨x, hx⟩ : ∃ x, l[k]? = some x := ⟨l[k], by simp [hlt]⟩
      obtain ⟨g, off, rfl, hr⟩ := (HS.out.kept HK.out).at hx
      have hwf := tok_at HV.out hx
      have HN := Lib.hid hwf.nm
      have hn0 := hwf.lo
      have hn1 := hwf.hi
      have HC32 := Lib.hid (fun (w' : World) (k' : Kp (fun _ => False) wr w') => (range_kp hr k' (fun f => f) 32 _ (vt_n hwf.nm.len) : w'.cell? ⟨g, off + k * 33 + 32, none⟩ = some (.int .i64 x.n)))
      have RX := Lib.hid (fun (w' : World) (k' : Kp (fun _ => False) wr w') => (range_pre (range_kp hr k' (fun f => f)) : w'.rangeAt g (off + k * 33) (U8s x.id)))
      have HG := Lib.hid (show good (l.take (k + 1)) = (decide (1 ≤ x.n) && decide (x.n ≤ t) && decide (cmpI (lastI [] (l.take k)) x.id < 0)) by
        rw [good_step hx hgd.out, show 1048576 - sumT (l.take k) = t from hsm.out.symm])
      have HT := Lib.hid (show 1048576 - sumT (l.take (k + 1)) = t - x.n by rw [take_snoc hx, sumT_append, hsm.out, sumT_cons, sumT_nil]; omega)
      clear hx hr hwf hsm hgd
      by_cases h1 : x.n < 1
      · obtain rfl := HBAD.out (bad_take (k + 1) (by rw [HG.out, decide_eq_false (by omega : ¬ 1 ≤ x.n)]; rfl))
        have d1 := decide_eq_true h1
        go_upto_region 5 with fail
        refine wp_kept (W := wr) (by kernel_rfl) (by kernel_rfl) (Kp.refl _ _) ?_
        repeat (first
          | go_big_quiet_skip
          | (go_big_quiet_want; refine quiet_cl 3 _ rfl ⟨g, off + k * 33 + 32, none⟩ rfl (.int .i64 x.n) _ HC32.out Try.underlying3 rfl ?_; (simp only [Act.put, List.setIfInBounds_toArray, List.set_cons_zero, List.set_cons_succ]); go_big_quiet_on)
          | (go_big_quiet_want; go_big_quiet_op; first | go_big_quiet_on | go_big_quiet_call ((intro hk; with_reducible rfl))))
        refine wpQuiet_nil ?_
        intro w3 k3
        have K3 := Lib.hid (HK.out.trans k3 (fun _ _ f => f))
        clear k3
        go_wp2_with fail
        go_ret
        exact ⟨rfl, K3.out⟩
      · have d1 := decide_eq_false h1
        by_cases h2 : t < x.n
        · obtain rfl := HBAD.out (bad_take (k + 1) (by rw [HG.out, decide_eq_true (by omega : 1 ≤ x.n), decide_eq_false (by omega : ¬ x.n ≤ t)]; rfl))
          have d2 := decide_eq_true h2
          go_upto_region 5 with fail
          refine wp_kept (W := wr) (by kernel_rfl) (by kernel_rfl) (Kp.refl _ _) ?_
          repeat (first
            | go_big_quiet_skip
            | (go_big_quiet_want; refine quiet_cl 3 _ rfl ⟨g, off + k * 33 + 32, none⟩ rfl (.int .i64 x.n) _ HC32.out Try.underlying3 rfl ?_; (simp only [Act.put, List.setIfInBounds_toArray, List.set_cons_zero, List.set_cons_succ]); go_big_quiet_on)
            | (go_big_quiet_want; go_big_quiet_op; first | go_big_quiet_on | go_big_quiet_call ((intro hk; with_reducible rfl))))
          refine wpQuiet_nil ?_
          intro w3 k3
          have K3 := Lib.hid (HK.out.trans k3 (fun _ _ f => f))
          clear k3
          go_wp2_with fail
          go_ret
          exact ⟨rfl, K3.out⟩
        · have d2 := decide_eq_false h2
          have HG2 := Lib.hid (show good (l.take (k + 1)) = decide (cmpI (lastI [] (l.take k)) x.id < 0) by rw [HG.out, decide_eq_true (by omega : 1 ≤ x.n), decide_eq_true (by omega : x.n ≤ t)]; rfl)
          cases k with
          | zero =>
            have HG3 := Lib.hid (show good (l.take (0 + 1)) = true by rw [HG2.out]; exact decide_eq_true (nil_lt HN.out.len))
            go_upto_region 5 with fail
            refine wp_kept (W := wr) (by kernel_rfl) (by kernel_rfl) (Kp.refl _ _) ?_
            repeat (first
              | go_big_quiet_skip
              | (go_big_quiet_want; refine quiet_cl 3 _ rfl ⟨g, off + 0 * 33 + 32, none⟩ rfl (.int .i64 x.n) _ HC32.out Try.underlying3 rfl ?_; (simp only [Act.put, List.setIfInBounds_toArray, List.set_cons_zero, List.set_cons_succ]); go_big_quiet_on)
              | (go_big_quiet_want; go_big_quiet_op; first | go_big_quiet_on | go_big_quiet_call ((intro hk; with_reducible rfl))))
            refine wpQuiet_nil ?_
            intro w3 k3
            have K3 := Lib.hid (HK.out.trans k3 (fun _ _ f => f))
            have c32 := HC32.out _ k3
            clear k3
            go_wp2_with fail
            go_roundw
            case rel => exact ⟨1, t - x.n, by omega, by go_num, by go_num, by omega, K3, Lib.hid (by rw [show (1 : Nat) = 0 + 1 from rfl, HT.out]), HG3⟩
            case measure => simp [intOf]; omega
          | succ m =>
            obtain ⟨y, hy⟩ : ∃ y, l[m]? = some y := ⟨l[m]'(by omega), List.getElem?_eq_getElem _⟩
            have HNY := Lib.hid (tok_at HV.out hy).nm
            obtain ⟨g', off', e, hr⟩ := (HS.out.kept HK.out).at hy
            cases e
            have RY := Lib.hid (fun (w' : World) (k' : Kp (fun _ => False) wr w') => (range_pre (range_kp hr k' (fun f => f)) : w'.rangeAt g (off + m * 33) (U8s y.id)))
            have HLY := Lib.hid (last_take hy)
            clear hr hy
            go_upto_region 5 with fail
            refine wp_kept (W := wr) (by kernel_rfl) (by kernel_rfl) (Kp.refl _ _) ?_
            repeat (first
              | go_big_quiet_skip
              | (go_big_quiet_want; refine quiet_cl 3 _ rfl ⟨g, off + (m + 1) * 33 + 32, none⟩ rfl (.int .i64 x.n) _ HC32.out Try.underlying3 rfl ?_; (simp only [Act.put, List.setIfInBounds_toArray, List.set_cons_zero, List.set_cons_succ]); go_big_quiet_on)
              | (go_big_quiet_want; refine quiet_ld 27 _ rfl g (off + m * 33) rfl (U8s y.id) _ RY.out Try.underlying27 rfl (HID.out _ HNY.out.len) ?_; (simp only [Act.put, List.setIfInBounds_toArray, List.set_cons_zero, List.set_cons_succ]); go_big_quiet_on)
              | (go_big_quiet_want; refine quiet_ld 27 _ rfl g (off + (m + 1) * 33) rfl (U8s x.id) _ RX.out Try.underlying27 rfl (HID.out _ HN.out.len) ?_; (simp only [Act.put, List.setIfInBounds_toArray, List.set_cons_zero, List.set_cons_succ]); go_big_quiet_on)
              | (go_big_quiet_want; go_big_quiet_op; first | go_big_quiet_on | go_big_quiet_call ((intro hk; first
                  | with_reducible rfl
                  | (go_at_call 12; exact (HLS.out _ _ HNY.out HN.out _).mono (fun e w' h => ⟨h.1, hk.trans h.2 (fun _ _ f => f)⟩))))))
            refine wpQuiet_nil ?_
            intro w3 k3
            have K3 := Lib.hid (HK.out.trans k3 (fun _ _ f => f))
            have c32 := HC32.out _ k3
            clear k3
            by_cases hc : cmpI y.id x.id < 0
            · have hc' := decide_eq_true hc
              have HG3 := Lib.hid (show good (l.take (m + 1 + 1)) = true by rw [HG2.out, HLY.out]; exact hc')
              rw [hc']
              clear hc hc'
              go_wp2_with fail
              go_roundw
              case rel => exact ⟨m + 1 + 1, t - x.n, by omega, by go_num, by go_num, by omega, K3, Lib.hid HT.out.symm, HG3⟩
              case measure => simp [intOf]; omega
            · have hc' := decide_eq_false hc
              obtain rfl := HBAD.out (bad_take (m + 1 + 1) (by rw [HG2.out, HLY.out]; exact hc'))
              rw [hc']
              clear hc hc'
              go_wp2_with fail
              go_ret
              exact ⟨rfl, K3.out⟩
    · obtain rfl : k = l.length := by omega
      rw [List.take_length] at hgd
      obtain rfl := HGD.out hgd.out
      clear hsm hgd
      go_wp2_with fail
      go_ret
      exact ⟨rfl, HK.out⟩
end Go.Proofs.Ytoeinolekpmbbaa
