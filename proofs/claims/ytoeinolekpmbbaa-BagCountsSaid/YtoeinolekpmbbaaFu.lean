/-
  BagCounts: the law's walk.
-/
import Derived.Test.YtoeinolekpmbbaaFz
import Derived.Test.YtoeinolekpmbbaaFg
import Derived.Test.YtoeinolekpmbbaaFp
import Derived.OrdersHeld
import Derived.Deep.Slices
namespace Go.Proofs.Ytoeinolekpmbbaa
open Go.ChangeShapes Go.WideShapes Go.ChangeAt Go.RowKit

section
variable {P : Program} {ops : Array Oper} {Q : Exit → Act → World → Prop} {md : Region.Mode} {S : World → Prop}
/-- the one that may come up -/
theorem wpAnyH_one {i : Nat} {o : Oper} {fuel : Nat} {listed : Array Bool} {a : Act} {w : World} (hr : Region.ready md ops listed = [i]) (ho : ops[i]? = some o)
    (h : ∀ K' : Act → World → Prop, (∀ a w, S w → wpAnyH P md ops Q S fuel (listed.setIfInBounds i true) a w → K' a w) → if Region.wanted o (yielded ops a.tmps) = true then Oper.wp P o a w K' Q else K' (a.put o.dst undef) w) :
    wpAnyH P md ops Q S (fuel + 1) listed a w :=
  wpAnyH_all hr (by simp) (fun j hj => by
    obtain rfl : j = i := by simpa using hj
    exact wpOp_step ho (fun K' hK => h K' (fun a w hs hw => hK a w ⟨hs, hw⟩)))
end
theorem held_ld {P : Program} {a : Act} {o : Oper} {w : World} (ty : TypeId) (x : Operand) (ho : o.op = .load ty x)
    (g off : Nat) (hx : a.eval x = .pointer (some ⟨g, off, none⟩)) (cs : List Value) (d : TypeDesc) (hc : w.rangeAt g off cs)
    (hu : P.underlying ty = some d) (hd : d.isRow = true) (hi : (P.info? ty).map (·.size) = some cs.length) : (execOp a.eval o).run P w = .ok (.value (.agg cs.toArray)) w := by
  unfold execOp
  simp only [ho, hx, Instr.loadAt, Instr.sureAddr, Sem.run_bind, Sem.run_pure, Result.andThen_ok, run_loadVar_mid w g off ty cs d hc hu hd hi]
theorem slice_uptoN (a : Option Addr) (n c q : Nat) (hq : q ≤ c) (hc : c ≤ 9223372036854775807) (ha : a = none → c = 0) (w : World) :
    (Instr.slice 23 (.slice a n c) none (some (.int .i64 (q : Int))) none).run Try.prog w = .ok (.slice a q c) w := by
  have h0 : (0 : Int) ≤ q := by omega
  cases a with
  | none =>
    obtain rfl : c = 0 := ha rfl
    obtain rfl : q = 0 := by omega
    simp [Instr.slice, Instr.sliceBounds, Instr.sliceBound, asIntOf, run_underlying Try.underlying23, go_sem]
  | some ad =>
    simp [Instr.slice, Instr.sliceBounds, Instr.sliceBound, asIntOf, run_underlying Try.underlying23, go_sem, h0]
    intro h
    exact absurd h (by omega)
theorem SeesI.upto {A : Nat → Prop} {w : World} {a : Option Addr} {n c : Nat} {ids : List (List Int)} (h : SeesI A w (.slice a n c) ids) {q : Nat} (hq : q ≤ ids.length) : SeesI A w (.slice a q c) (ids.take q) := by
  rcases h with ⟨e, rfl⟩ | ⟨ad, cap, e, h1, h2, h3, h4⟩
  · injection e with e1 e2 e3
    subst e1 e3
    obtain rfl : q = 0 := by simpa using hq
    exact .inl ⟨rfl, rfl⟩
  · injection e with e1 e2 e3
    subst e1 e3
    have hl : (ids.take q).length = q := by rw [List.length_take]; omega
    refine .inr ⟨ad, c, by rw [hl], by omega, h2, fun hne => h3 (fun e => hne (by rw [e]; exact List.take_nil)), fun i x hx => h4 i x ?_⟩
    have hi : i < q := by have := (List.getElem?_eq_some_iff.1 hx).1; omega
    rwa [List.getElem?_take_of_lt hi] at hx
theorem SeesI.caps {A : Nat → Prop} {w : World} {a : Option Addr} {n c : Nat} {ids : List (List Int)} (h : SeesI A w (.slice a n c) ids) : ids.length ≤ c ∧ c ≤ 9223372036854775807 ∧ (a = none → c = 0) := by
  rcases h with ⟨e, rfl⟩ | ⟨ad, cap, e, h1, h2, h3, h4⟩
  · injection e with e1 e2 e3
    subst e1 e3
    exact ⟨by simp, by omega, fun _ => rfl⟩
  · injection e with e1 e2 e3
    subst e1 e3
    exact ⟨h1, h2, fun h => by cases h⟩
theorem okWideT_array {P : Program} {w : World} {r : Reach} {base : Nat} {t e : TypeId} {n : Nat} {v : Value} (ht : P.underlying t = some (.array n e)) (h : Value.okWide P w r base t v) : ∃ cs, v = .agg cs ∧ cs.size = P.cellsOf t := by
  simp only [Value.okWide, ht] at h
  obtain ⟨cs, h1, h2, _⟩ := h
  exact ⟨cs, h1, h2⟩
theorem open_idT {H : Type} {enc : TypeId × Value → H} {W : World} {base : Nat} {spare : Nat → Bool} {held : Bool} {v : Value} {d : DataW H} {p : List MemPlace} (hv : Value.okWide Try.prog W .any base 27 v) (h : DataW.Trod enc Try.prog W 0 spare held 27 v d p) :
    ∃ xs, v = .agg (U8s xs).toArray ∧ Nm xs := by
  obtain ⟨cs, rfl, _⟩ := okWideT_array Try.underlying27 hv
  obtain ⟨fuel, hf⟩ := h
  obtain ⟨xs, e, h1, h2⟩ := open_id_cells hf
  have e' : cs.toList = U8s xs := e
  exact ⟨xs, by rw [← e'], h1, h2⟩

set_option maxRecDepth 100000 in
set_option maxHeartbeats 40000000 in
theorem counts_law {v : Value} {l : List Vt} {k0 : List Int} {w : World} (hs : SeesT w v l) (hv : TOk l) (hk : Nm k0) (n : Int) :
    Calls Try.prog 5 #[v, .agg (U8s k0).toArray, .int .i64 n] w fun e w' => e = .returned (.bool true) ∧ Kp (fun _ => False) w w' := by
  have HLV := Lib.hid (fun w => liveT_any w)
  have MB := Lib.hid (new_blk w (.cells (U8s k0).toArray 27))
  have K0 := Lib.hid ((Kp.refl (fun _ => False) w).alloc (.cells (U8s k0).toArray 27))
  have HS0 := hs
  obtain ⟨a, c, rfl, hlc, hmax⟩ := hs.form
  have HF := Lib.hid (fun w => few1 a l.length c w)
  by_cases hl : l.length ≤ 60
  · rw [decide_eq_true hl] at HF
    have hbl : (bagged l).length ≤ 60 := by
      cases hg : good l with
      | false => rw [bagged_bad hg]; exact Nat.zero_le _
      | true => rw [bagged_of hg]; exact hl
    obtain ⟨on, hon⟩ : ∃ o, o = atlV (bagged l) n := ⟨_, rfl⟩
    have hol : on.length ≤ 60 := by
      rw [hon]; unfold atlV; rw [List.length_map]
      exact Nat.le_trans (List.length_filter_le _ _) hbl
    have honl : ∀ y ∈ on, y.length = 32 := fun y hy => by
      rw [hon] at hy
      obtain ⟨z, hz, rfl⟩ := List.mem_map.1 hy
      exact (bagged_ok hv z (List.mem_filter.1 hz).1).nm.len
    obtain ⟨q, hq⟩ : ∃ q : Nat, q = on.length / 2 := ⟨_, rfl⟩
    have hq2 : (on.length : Int).tdiv 2 = (q : Int) := by rw [Int.tdiv_eq_ediv_of_nonneg (by omega)]; omega
    have hqle : q ≤ on.length := by omega
    have hwq : wrap64 (q : Int) = (q : Int) := by unfold wrap64; omega
    obtain ⟨m, hm⟩ : ∃ m, m = modeV l := ⟨_, rfl⟩
    have HMW := Lib.hid (show Nm m.id by rw [hm]; exact (bestV_wf (bagged_ok hv) vt0_wf).nm)
    have hmo := fun w' (k : Kp (fun _ => False) w w') => bmode_any (hs.kept k) hv
    have hrm := fun w' (k : Kp (fun _ => False) w w') => rmodeT_any (hs.kept k) hv
    rw [← hm] at hmo hrm
    have HMO := Lib.hid hmo
    have HRM := Lib.hid hrm
    have hra := fun w' (k : Kp (fun _ => False) w w') => ratl_any n (hs.kept k) hv (by omega)
    rw [← hon] at hra
    have HRA := Lib.hid hra
    have hct := fun w' (k : Kp (fun _ => False) w w') => bcount_any (hs.kept k) hv hk (by omega)
    have hrc := fun w' (k : Kp (fun _ => False) w w') => rcount_any (hs.kept k) hv hk
    obtain ⟨cn, hcn⟩ : ∃ z, z = cond (good l) (cntV l k0) 0 := ⟨_, rfl⟩
    rw [← hcn] at hct hrc
    have HCT := Lib.hid hct
    have HRC := Lib.hid hrc
    have hto := fun w' (k : Kp (fun _ => False) w w') => btotal_any (hs.kept k) hv
    have hrt := fun w' (k : Kp (fun _ => False) w w') => rtotal_any (hs.kept k) hv
    obtain ⟨tt, htt⟩ : ∃ z, z = totT l := ⟨_, rfl⟩
    rw [← htt] at hto hrt
    have HTO := Lib.hid hto
    have HRT := Lib.hid hrt
    have HAL := Lib.hid (fun w' (k : Kp (fun _ => False) w w') => atLeast_any n (hs.kept k) hv (by omega))
    have HT1 := Lib.hid (show ∀ (v : Value) (B0 B1 : Nat) (w' : World), w'.cell? ⟨B0, 0, none⟩ = some (.int .i64 n) → w'.cell? ⟨B1, 0, none⟩ = some v → SeesT w' v (bagged l) →
        Calls Try.prog 34 #[.func (.func 44) #[] #[.pointer (some ⟨B1, 0, none⟩), .pointer (some ⟨B0, 0, none⟩)], .int .i64 1048576] w' fun e w'' => ∃ v', e = .returned v' ∧ SeesI (fun _ => True) w'' v' on ∧ Kp (fun _ => False) w' w'' from fun v B0 B1 w' h0 h1 h2 =>
      (toldT_any h0 h1 h2 (bagged_ok hv) (by omega) 1048576).mono (fun e w'' h => by
        obtain ⟨v', e1, e2, e3⟩ := h
        rw [← hon, List.take_of_length_le (by omega)] at e2
        exact ⟨v', e1, e2.mono (fun _ _ _ => trivial) honl, e3⟩))
    have HT2 := Lib.hid (show ∀ (v : Value) (B0 B1 : Nat) (w' : World), w'.cell? ⟨B0, 0, none⟩ = some (.int .i64 n) → w'.cell? ⟨B1, 0, none⟩ = some v → SeesT w' v (bagged l) →
        Calls Try.prog 34 #[.func (.func 44) #[] #[.pointer (some ⟨B1, 0, none⟩), .pointer (some ⟨B0, 0, none⟩)], .int .i64 q] w' fun e w'' => ∃ v', e = .returned v' ∧ SeesI (fun _ => True) w'' v' (on.take q) ∧ Kp (fun _ => False) w' w'' from fun v B0 B1 w' h0 h1 h2 =>
      (toldT_any h0 h1 h2 (bagged_ok hv) (by omega) q).mono (fun e w'' h => by
        obtain ⟨v', e1, e2, e3⟩ := h
        rw [← hon] at e2
        exact ⟨v', e1, e2.mono (fun _ _ _ => trivial) (fun y hy => honl y (List.mem_of_mem_take hy)), e3⟩))
    have HE := Lib.hid (fun (v1 v2 : Value) (xs : List (List Int)) (w' : World) (h1 : SeesI (fun _ => True) w' v1 xs) (h2 : SeesI (fun _ => True) w' v2 xs) (hx : ∀ y ∈ xs, y.length = 32) => (by
      have h := eqIds_any h1 h2 hx hx
      rw [decide_eq_true (show xs = xs from rfl)] at h
      exact h : Calls Try.prog 33 #[v1, v2] w' fun e w'' => e = .returned (.bool true) ∧ Kp (fun _ => False) w' w''))
    have HNL := Lib.hid honl
    have HNL2 := Lib.hid (show ∀ y ∈ on.take q, y.length = 32 from fun y hy => honl y (List.mem_of_mem_take hy))
    have HIK := Lib.hid (infoIdL hk.len)
    have HIM := Lib.hid (infoIdL HMW.out.len)
    have hz := zeroIdF
    obtain ⟨mi, hmi⟩ : ∃ x, x = m.id := ⟨_, rfl⟩
    obtain ⟨mn, hmn⟩ : ∃ x, x = m.n := ⟨_, rfl⟩
    rw [← hmi] at HMO HRM HMW HIM
    rw [← hmn] at HMO HRM
    have HZI := Lib.hid (show (U8s (List.replicate 32 0)).toArray.size = (U8s mi).toArray.size by simp [U8s_length, HMW.out.len])
    have hee := eql_names mi mi HMW.out.len HMW.out.len
    rw [decide_eq_true (show mi = mi from rfl)] at hee
    have HQL := Lib.hid hqle
    clear hs HS0 hv hk hl hbl hon honl hm hmo hrm hra hct hrc hcn hto hrt htt hq hmi hmn hqle
    go_enter Try.func5, Try.ntmps5
    go_wp2_with fail
    refine (HLV.out _).mono ?_
    rintro e w1 ⟨rfl, k1⟩
    have K1 := Lib.hid (K0.out.trans k1 (fun _ _ f => f))
    have M1 := Lib.hid (kept_blk MB.out k1 (fun f => f))
    clear k1
    go_wp2_with ((with_reducible refine at_dst 17 ?_); refine wpList_slice_run rfl 43 1 _ rfl _ rfl _ _ (mkF1 a l.length c _) ?_)
    refine (HF.out w1).mono ?_
    rintro e w2 ⟨rfl, k2⟩
    have K2 := Lib.hid (K1.out.trans k2 (fun _ _ f => f))
    have M2 := Lib.hid (kept_blk M1.out k2 (fun f => f))
    clear k2
    go_wp2_with fail
    refine (HMO.out w2 K2.out).mono ?_
    rintro e w3 ⟨rfl, k3⟩
    have K3 := Lib.hid (K2.out.trans k3 (fun _ _ f => f))
    have M3 := Lib.hid (kept_blk M2.out k3 (fun f => f))
    clear k3
    go_wp2_with ((with_reducible refine at_store 7 25 ?_); refine st_fresh rfl 27 _ _ rfl (U8s mi).toArray rfl rfl 27 _ (info32 mi HMW.out.len) HZI.out (all_oneCell_toArray (U8s_one _)) ?_; intro u4 k4 m4 s4; have K4 := Lib.hid (K3.out.trans k4 (fun _ _ f => f)); have M4 := Lib.hid (kept_blk M3.out k4 (fun f => f)); have N4 := Lib.hid m4; clear k4 m4 s4)
    obtain ⟨g7, hg7⟩ : ∃ g, g = w3.heap.size := ⟨_, rfl⟩
    rw [← hg7] at N4 ⊢
    clear hg7
    refine (HRM.out u4 K4.out).mono ?_
    rintro e w5 ⟨rfl, k5⟩
    have K5 := Lib.hid (K4.out.trans k5 (fun _ _ f => f))
    have M5 := Lib.hid (kept_blk M4.out k5 (fun f => f))
    have N5 := Lib.hid (kept_blk N4.out k5 (fun f => f))
    clear k5
    go_wp2_with ((with_reducible refine at_store 9 30 ?_); refine st_fresh rfl 27 _ _ rfl (U8s mi).toArray rfl rfl 27 _ (info32 mi HMW.out.len) HZI.out (all_oneCell_toArray (U8s_one _)) ?_; intro u6 k6 m6 s6; have K6 := Lib.hid (K5.out.trans k6 (fun _ _ f => f)); have M6 := Lib.hid (kept_blk M5.out k6 (fun f => f)); have N6 := Lib.hid (kept_blk N5.out k6 (fun f => f)); have O6 := Lib.hid m6; clear k6 m6 s6)
    obtain ⟨g9, hg9⟩ : ∃ g, g = w5.heap.size := ⟨_, rfl⟩
    rw [← hg9] at O6 ⊢
    clear hg9
    refine (HRA.out u6 K6.out).mono ?_
    rintro e w6 ⟨va, rfl, hsa, k7⟩
    have KW := Lib.hid (K6.out.trans k7 (fun _ _ f => f))
    have m7 := kept_blk M6.out k7 (fun f => f)
    have n7 := kept_blk N6.out k7 (fun f => f)
    have o7 := kept_blk O6.out k7 (fun f => f)
    have R0 := Lib.hid (fun (w' : World) (k : Kp (fun _ => False) w6 w') => (range_blk (kept_blk m7 k (fun f => f)) : w'.rangeAt w.heap.size 0 (U8s k0)))
    have R7 := Lib.hid (fun (w' : World) (k : Kp (fun _ => False) w6 w') => (range_blk (kept_blk n7 k (fun f => f)) : w'.rangeAt g7 0 (U8s mi)))
    have R9 := Lib.hid (fun (w' : World) (k : Kp (fun _ => False) w6 w') => (range_blk (kept_blk o7 k (fun f => f)) : w'.rangeAt g9 0 (U8s mi)))
    obtain ⟨a3, c3, rfl, _⟩ := hsa.form
    have hcap := hsa.caps
    have hsl := fun w => slice_uptoN a3 on.length c3 q (by have := HQL.out; omega) hcap.2.1 hcap.2.2 w
    have HW6 := Lib.hid (fun (w' : World) (k : Kp (fun _ => False) w6 w') => hsa.kept k (fun _ _ f => f))
    have HW7 := Lib.hid (fun (w' : World) (k : Kp (fun _ => False) w6 w') => (hsa.kept k (fun _ _ f => f)).upto HQL.out)
    clear k7 m7 n7 o7 hsa hcap
    go_upto_region 7 with (fail)
    have KK := Lib.hid (show Kp (fun _ => False) w6 w6.drew from (Kp.refl _ _).drew)
    refine wp_region_held (S := fun w' => Kp (fun _ => False) w6 w') (by kernel_rfl) ?_
    try (change wpAnyH _ _ _ _ _ _ _ _ (World.drew _))
    refine wpAnyH_take (i := 0) (v := ?_) rfl (by kernel_rfl) (by kernel_rfl) (by kernel_rfl) (fun _ _ _ h => h) (Or.inl ⟨by rfl, ?_⟩) KK.out ?_
    rotate_left
    · intro w _; go_simp; try with_reducible rfl
    try simp only [Act.put, List.getElem_toArray, List.getElem_cons_zero, List.setIfInBounds_toArray, List.set_cons_zero, List.set_cons_succ]
    refine wpAnyH_take (i := 3) (v := ?_) rfl (by kernel_rfl) (by kernel_rfl) (by kernel_rfl) (fun _ _ _ h => h) (Or.inl ⟨by rfl, ?_⟩) KK.out ?_
    rotate_left
    · intro w _; go_simp; try with_reducible rfl
    try simp only [Act.put, List.getElem_toArray, List.getElem_cons_succ, List.getElem_cons_zero, List.setIfInBounds_toArray, List.set_cons_zero, List.set_cons_succ]
    refine wpAnyH_take (i := 1) (v := .agg (U8s k0).toArray) rfl (by kernel_rfl) (by kernel_rfl) (by kernel_rfl) (fun _ _ _ h => h) (Or.inl ⟨by rfl, fun w' hw' => held_ld 27 _ rfl w.heap.size 0 rfl (U8s k0) _ (R0.out _ hw') Try.underlying27 rfl HIK.out⟩) KK.out ?_
    try simp only [Act.put, List.getElem_toArray, List.getElem_cons_succ, List.getElem_cons_zero, List.setIfInBounds_toArray, List.set_cons_zero, List.set_cons_succ]
    refine wpAnyH_take (i := 4) (v := .agg (U8s k0).toArray) rfl (by kernel_rfl) (by kernel_rfl) (by kernel_rfl) (fun _ _ _ h => h) (Or.inl ⟨by rfl, fun w' hw' => held_ld 27 _ rfl w.heap.size 0 rfl (U8s k0) _ (R0.out _ hw') Try.underlying27 rfl HIK.out⟩) KK.out ?_
    try simp only [Act.put, List.getElem_toArray, List.getElem_cons_succ, List.getElem_cons_zero, List.setIfInBounds_toArray, List.set_cons_zero, List.set_cons_succ]
    refine wpAnyH_one (i := 2) (by kernel_rfl) rfl (fun K hK => ?_)
    go_simp
    go_wp2_with (go_at_call 29; refine (HCT.out _ (KW.out.trans KK.out (fun _ _ f => f))).mono ?_; rintro e w' ⟨rfl, k⟩; replace KK := Lib.hid (KK.out.trans k (fun _ _ f => f)); clear k)
    try (refine hK _ _ KK.out ?_; clear hK K)
    try simp only [Act.put, List.getElem_toArray, List.getElem_cons_succ, List.getElem_cons_zero, List.setIfInBounds_toArray, List.set_cons_zero, List.set_cons_succ]
    refine wpAnyH_one (i := 5) (by kernel_rfl) rfl (fun K hK => ?_)
    go_simp
    go_wp2_with (go_at_call 30; refine (HRC.out _ (KW.out.trans KK.out (fun _ _ f => f))).mono ?_; rintro e w' ⟨rfl, k⟩; replace KK := Lib.hid (KK.out.trans k (fun _ _ f => f)); clear k)
    try (refine hK _ _ KK.out ?_; clear hK K)
    try simp only [Act.put, List.getElem_toArray, List.getElem_cons_succ, List.getElem_cons_zero, List.setIfInBounds_toArray, List.set_cons_zero, List.set_cons_succ]
    refine wpAnyH_take (i := 6) (v := ?_) rfl (by kernel_rfl) (by kernel_rfl) (by kernel_rfl) (fun _ _ _ h => h) (Or.inl ⟨by rfl, ?_⟩) KK.out ?_
    rotate_left
    · intro w _; go_simp; try with_reducible rfl
    try simp only [Act.put, List.getElem_toArray, List.getElem_cons_succ, List.getElem_cons_zero, List.setIfInBounds_toArray, List.set_cons_zero, List.set_cons_succ]
    refine wpAnyH_take (i := 7) (v := ?_) rfl (by kernel_rfl) (by kernel_rfl) (by kernel_rfl) (fun _ _ _ h => h) (Or.inl ⟨by rfl, ?_⟩) KK.out ?_
    rotate_left
    · intro w _; go_simp; try with_reducible rfl
    try simp only [Act.put, List.getElem_toArray, List.getElem_cons_succ, List.getElem_cons_zero, List.setIfInBounds_toArray, List.set_cons_zero, List.set_cons_succ]
    refine wpAnyH_take (i := 8) (v := ?_) rfl (by kernel_rfl) (by kernel_rfl) (by kernel_rfl) (fun _ _ _ h => h) (Or.inl ⟨by rfl, ?_⟩) KK.out ?_
    rotate_left
    · intro w _; go_simp; try with_reducible rfl
    try simp only [Act.put, List.getElem_toArray, List.getElem_cons_succ, List.getElem_cons_zero, List.setIfInBounds_toArray, List.set_cons_zero, List.set_cons_succ]
    refine wpAnyH_take (i := 10) (v := ?_) rfl (by kernel_rfl) (by kernel_rfl) (by kernel_rfl) (fun _ _ _ h => h) (Or.inl ⟨by rfl, ?_⟩) KK.out ?_
    rotate_left
    · intro w _; go_simp; try with_reducible rfl
    try simp only [Act.put, List.getElem_toArray, List.getElem_cons_succ, List.getElem_cons_zero, List.setIfInBounds_toArray, List.set_cons_zero, List.set_cons_succ]
    refine wpAnyH_one (i := 9) (by kernel_rfl) rfl (fun K hK => ?_)
    go_simp
    go_wp2_with (go_at_call 31; refine (HTO.out _ (KW.out.trans KK.out (fun _ _ f => f))).mono ?_; rintro e w' ⟨rfl, k⟩; replace KK := Lib.hid (KK.out.trans k (fun _ _ f => f)); clear k)
    try (refine hK _ _ KK.out ?_; clear hK K)
    try simp only [Act.put, List.getElem_toArray, List.getElem_cons_succ, List.getElem_cons_zero, List.setIfInBounds_toArray, List.set_cons_zero, List.set_cons_succ]
    refine wpAnyH_one (i := 11) (by kernel_rfl) rfl (fun K hK => ?_)
    go_simp
    go_wp2_with (go_at_call 32; refine (HRT.out _ (KW.out.trans KK.out (fun _ _ f => f))).mono ?_; rintro e w' ⟨rfl, k⟩; replace KK := Lib.hid (KK.out.trans k (fun _ _ f => f)); clear k)
    try (refine hK _ _ KK.out ?_; clear hK K)
    try simp only [Act.put, List.getElem_toArray, List.getElem_cons_succ, List.getElem_cons_zero, List.setIfInBounds_toArray, List.set_cons_zero, List.set_cons_succ]
    refine wpAnyH_take (i := 12) (v := ?_) rfl (by kernel_rfl) (by kernel_rfl) (by kernel_rfl) (fun _ _ _ h => h) (Or.inl ⟨by rfl, ?_⟩) KK.out ?_
    rotate_left
    · intro w _; go_simp; try with_reducible rfl
    try simp only [Act.put, List.getElem_toArray, List.getElem_cons_succ, List.getElem_cons_zero, List.setIfInBounds_toArray, List.set_cons_zero, List.set_cons_succ]
    refine wpAnyH_take (i := 13) (v := ?_) rfl (by kernel_rfl) (by kernel_rfl) (by kernel_rfl) (fun _ _ _ h => h) (Or.inl ⟨by rfl, ?_⟩) KK.out ?_
    rotate_left
    · intro w _; go_simp; try with_reducible rfl
    try simp only [Act.put, List.getElem_toArray, List.getElem_cons_succ, List.getElem_cons_zero, List.setIfInBounds_toArray, List.set_cons_zero, List.set_cons_succ]
    refine wpAnyH_take (i := 14) (v := ?_) rfl (by kernel_rfl) (by kernel_rfl) (by kernel_rfl) (fun _ _ _ h => h) (Or.inl ⟨by rfl, ?_⟩) KK.out ?_
    rotate_left
    · intro w _; go_simp; try with_reducible rfl
    try simp only [Act.put, List.getElem_toArray, List.getElem_cons_succ, List.getElem_cons_zero, List.setIfInBounds_toArray, List.set_cons_zero, List.set_cons_succ]
    refine wpAnyH_take (i := 15) (v := .agg (U8s mi).toArray) rfl (by kernel_rfl) (by kernel_rfl) (by kernel_rfl) (fun _ _ _ h => h) (Or.inl ⟨by rfl, fun w' hw' => held_ld 27 _ rfl g7 0 rfl (U8s mi) _ (R7.out _ hw') Try.underlying27 rfl HIM.out⟩) KK.out ?_
    try simp only [Act.put, List.getElem_toArray, List.getElem_cons_succ, List.getElem_cons_zero, List.setIfInBounds_toArray, List.set_cons_zero, List.set_cons_succ]
    refine wpAnyH_take (i := 16) (v := .agg (U8s mi).toArray) rfl (by kernel_rfl) (by kernel_rfl) (by kernel_rfl) (fun _ _ _ h => h) (Or.inl ⟨by rfl, fun w' hw' => held_ld 27 _ rfl g9 0 rfl (U8s mi) _ (R9.out _ hw') Try.underlying27 rfl HIM.out⟩) KK.out ?_
    try simp only [Act.put, List.getElem_toArray, List.getElem_cons_succ, List.getElem_cons_zero, List.setIfInBounds_toArray, List.set_cons_zero, List.set_cons_succ]
    refine wpAnyH_take (i := 17) (v := ?_) rfl (by kernel_rfl) (by kernel_rfl) (by kernel_rfl) (fun _ _ _ h => h) (Or.inl ⟨by rfl, ?_⟩) KK.out ?_
    rotate_left
    · intro w _; go_simp; try with_reducible rfl
    try simp only [Act.put, List.getElem_toArray, List.getElem_cons_succ, List.getElem_cons_zero, List.setIfInBounds_toArray, List.set_cons_zero, List.set_cons_succ]
    refine wpAnyH_take (i := 18) (v := ?_) rfl (by kernel_rfl) (by kernel_rfl) (by kernel_rfl) (fun _ _ _ h => h) (Or.inl ⟨by rfl, ?_⟩) KK.out ?_
    rotate_left
    · intro w _; go_simp; try with_reducible rfl
    try simp only [Act.put, List.getElem_toArray, List.getElem_cons_succ, List.getElem_cons_zero, List.setIfInBounds_toArray, List.set_cons_zero, List.set_cons_succ]
    refine wpAnyH_take (i := 19) (v := ?_) rfl (by kernel_rfl) (by kernel_rfl) (by kernel_rfl) (fun _ _ _ h => h) (Or.inl ⟨by rfl, ?_⟩) KK.out ?_
    rotate_left
    · intro w _; go_simp; try with_reducible rfl
    try simp only [Act.put, List.getElem_toArray, List.getElem_cons_succ, List.getElem_cons_zero, List.setIfInBounds_toArray, List.set_cons_zero, List.set_cons_succ]
    refine wpAnyH_take (i := 20) (v := ?_) rfl (by kernel_rfl) (by kernel_rfl) (by kernel_rfl) (fun _ _ _ h => h) (Or.inl ⟨by rfl, ?_⟩) KK.out ?_
    rotate_left
    · intro w _; go_simp; try with_reducible rfl
    try simp only [Act.put, List.getElem_toArray, List.getElem_cons_succ, List.getElem_cons_zero, List.setIfInBounds_toArray, List.set_cons_zero, List.set_cons_succ]
    refine wpAnyH_take (i := 21) (v := ?_) rfl (by kernel_rfl) (by kernel_rfl) (by kernel_rfl) (fun _ _ _ h => h) (Or.inl ⟨by rfl, ?_⟩) KK.out ?_
    rotate_left
    · intro w _; go_simp; try with_reducible rfl
    try simp only [Act.put, List.getElem_toArray, List.getElem_cons_succ, List.getElem_cons_zero, List.setIfInBounds_toArray, List.set_cons_zero, List.set_cons_succ]
    refine wpAnyH_take (i := 22) (v := ?_) rfl (by kernel_rfl) (by kernel_rfl) (by kernel_rfl) (fun _ _ _ h => h) (Or.inl ⟨by rfl, ?_⟩) KK.out ?_
    rotate_left
    · intro w _; go_simp; try with_reducible rfl
    try simp only [Act.put, List.getElem_toArray, List.getElem_cons_succ, List.getElem_cons_zero, List.setIfInBounds_toArray, List.set_cons_zero, List.set_cons_succ]
    refine wpAnyH_take (i := 23) (v := ?_) rfl (by kernel_rfl) (by kernel_rfl) (by kernel_rfl) (fun _ _ _ h => h) (Or.inl ⟨by rfl, ?_⟩) KK.out ?_
    rotate_left
    · intro w _; go_simp; try with_reducible rfl
    try simp only [Act.put, List.getElem_toArray, List.getElem_cons_succ, List.getElem_cons_zero, List.setIfInBounds_toArray, List.set_cons_zero, List.set_cons_succ]
    refine wpAnyH_take (i := 24) (v := ?_) rfl (by kernel_rfl) (by kernel_rfl) (by kernel_rfl) (fun _ _ _ h => h) (Or.inl ⟨by rfl, ?_⟩) KK.out ?_
    rotate_left
    · intro w _; go_simp; try with_reducible rfl
    try simp only [Act.put, List.getElem_toArray, List.getElem_cons_succ, List.getElem_cons_zero, List.setIfInBounds_toArray, List.set_cons_zero, List.set_cons_succ]
    refine wpAnyH_take (i := 25) (v := ?_) rfl (by kernel_rfl) (by kernel_rfl) (by kernel_rfl) (fun _ _ _ h => h) (Or.inl ⟨by rfl, ?_⟩) KK.out ?_
    rotate_left
    · intro w _; go_simp; try with_reducible rfl
    try simp only [Act.put, List.getElem_toArray, List.getElem_cons_succ, List.getElem_cons_zero, List.setIfInBounds_toArray, List.set_cons_zero, List.set_cons_succ]
    refine wpAnyH_take (i := 26) (v := ?_) rfl (by kernel_rfl) (by kernel_rfl) (by kernel_rfl) (fun _ _ _ h => h) (Or.inl ⟨by rfl, ?_⟩) KK.out ?_
    rotate_left
    · intro w _; go_simp; try with_reducible rfl
    try simp only [Act.put, List.getElem_toArray, List.getElem_cons_succ, List.getElem_cons_zero, List.setIfInBounds_toArray, List.set_cons_zero, List.set_cons_succ]
    refine wpAnyH_take (i := 29) (v := ?_) rfl (by kernel_rfl) (by kernel_rfl) (by kernel_rfl) (fun _ _ _ h => h) (Or.inl ⟨by rfl, ?_⟩) KK.out ?_
    rotate_left
    · intro w _; go_simp; try with_reducible rfl
    try simp only [Act.put, List.getElem_toArray, List.getElem_cons_succ, List.getElem_cons_zero, List.setIfInBounds_toArray, List.set_cons_zero, List.set_cons_succ]
    refine wpAnyH_one (i := 27) (by kernel_rfl) rfl (fun K hK => ?_)
    go_simp
    go_wp2_with (go_at_call 35; refine (HAL.out _ (KW.out.trans KK.out (fun _ _ f => f))).mono ?_; rintro e w' ⟨BB0, BB1, vv, rfl, hc0, hc1, hss, k⟩; have HC0 := Lib.hid hc0; have HC1 := Lib.hid hc1; have HSS := Lib.hid hss; clear hc0 hc1 hss; replace KK := Lib.hid (KK.out.trans k (fun _ _ f => f)); clear k)
    try (refine hK _ _ KK.out ?_; clear hK K)
    try simp only [Act.put, List.getElem_toArray, List.getElem_cons_succ, List.getElem_cons_zero, List.setIfInBounds_toArray, List.set_cons_zero, List.set_cons_succ]
    refine wpAnyH_one (i := 28) (by kernel_rfl) rfl (fun K hK => ?_)
    go_simp
    go_wp2_with (go_at_call 34; have hh := HT1.out _ _ _ _ HC0.out HC1.out HSS.out; refine hh.mono ?_; clear HC0 HC1 HSS hh; rintro e w' ⟨vt, rfl, hst, k⟩; obtain ⟨at1, ct1, ee, _⟩ := hst.form; subst ee; have HST1 := Lib.hid hst; clear hst; replace KK := Lib.hid (KK.out.trans k (fun _ _ f => f)); clear k)
    try (refine hK _ _ KK.out ?_; clear hK K)
    try simp only [Act.put, List.getElem_toArray, List.getElem_cons_succ, List.getElem_cons_zero, List.setIfInBounds_toArray, List.set_cons_zero, List.set_cons_succ]
    refine wpAnyH_one (i := 30) (by kernel_rfl) rfl (fun K hK => ?_)
    go_simp
    go_wp2_with (go_at_call 33; have hh := HE.out _ _ _ _ HST1.out (HW6.out _ KK.out) HNL.out; refine hh.mono ?_; clear HST1 hh; rintro e w' ⟨rfl, k⟩; replace KK := Lib.hid (KK.out.trans k (fun _ _ f => f)); clear k)
    try (refine hK _ _ KK.out ?_; clear hK K)
    try simp only [Act.put, List.getElem_toArray, List.getElem_cons_succ, List.getElem_cons_zero, List.setIfInBounds_toArray, List.set_cons_zero, List.set_cons_succ]
    refine wpAnyH_take (i := 31) (v := ?_) rfl (by kernel_rfl) (by kernel_rfl) (by kernel_rfl) (fun _ _ _ h => h) (Or.inl ⟨by rfl, ?_⟩) KK.out ?_
    rotate_left
    · intro w _; go_simp; try with_reducible rfl
    try simp only [Act.put, List.getElem_toArray, List.getElem_cons_succ, List.getElem_cons_zero, List.setIfInBounds_toArray, List.set_cons_zero, List.set_cons_succ]
    refine wpAnyH_take (i := 32) (v := ?_) rfl (by kernel_rfl) (by kernel_rfl) (by kernel_rfl) (fun _ _ _ h => h) (Or.inl ⟨by rfl, ?_⟩) KK.out ?_
    rotate_left
    · intro w _; go_simp; try with_reducible rfl
    try simp only [Act.put, List.getElem_toArray, List.getElem_cons_succ, List.getElem_cons_zero, List.setIfInBounds_toArray, List.set_cons_zero, List.set_cons_succ]
    refine wpAnyH_take (i := 33) (v := ?_) rfl (by kernel_rfl) (by kernel_rfl) (by kernel_rfl) (fun _ _ _ h => h) (Or.inl ⟨by rfl, ?_⟩) KK.out ?_
    rotate_left
    · intro w _; go_simp; try with_reducible rfl
    try simp only [Act.put, List.getElem_toArray, List.getElem_cons_succ, List.getElem_cons_zero, List.setIfInBounds_toArray, List.set_cons_zero, List.set_cons_succ]
    refine wpAnyH_take (i := 34) (v := ?_) rfl (by kernel_rfl) (by kernel_rfl) (by kernel_rfl) (fun _ _ _ h => h) (Or.inl ⟨by rfl, ?_⟩) KK.out ?_
    rotate_left
    · intro w _; go_simp; try with_reducible rfl
    try simp only [Act.put, List.getElem_toArray, List.getElem_cons_succ, List.getElem_cons_zero, List.setIfInBounds_toArray, List.set_cons_zero, List.set_cons_succ]
    refine wpAnyH_take (i := 36) (v := ?_) rfl (by kernel_rfl) (by kernel_rfl) (by kernel_rfl) (fun _ _ _ h => h) (Or.inl ⟨by rfl, ?_⟩) KK.out ?_
    rotate_left
    · intro w _; go_simp; try with_reducible rfl
    try simp only [Act.put, List.getElem_toArray, List.getElem_cons_succ, List.getElem_cons_zero, List.setIfInBounds_toArray, List.set_cons_zero, List.set_cons_succ]
    refine wpAnyH_take (i := 38) (v := ?_) rfl (by kernel_rfl) (by kernel_rfl) (by kernel_rfl) (fun _ _ _ h => h) (Or.inl ⟨by rfl, ?_⟩) KK.out ?_
    rotate_left
    · intro w _; go_simp; try with_reducible rfl
    try simp only [Act.put, List.getElem_toArray, List.getElem_cons_succ, List.getElem_cons_zero, List.setIfInBounds_toArray, List.set_cons_zero, List.set_cons_succ]
    refine wpAnyH_take (i := 39) (v := ?_) rfl (by kernel_rfl) (by kernel_rfl) (by kernel_rfl) (fun _ _ _ h => h) (Or.inl ⟨by rfl, ?_⟩) KK.out ?_
    rotate_left
    · intro w _; go_simp; try with_reducible rfl
    try simp only [Act.put, List.getElem_toArray, List.getElem_cons_succ, List.getElem_cons_zero, List.setIfInBounds_toArray, List.set_cons_zero, List.set_cons_succ]
    refine wpAnyH_take (i := 40) (v := ?_) rfl (by kernel_rfl) (by kernel_rfl) (by kernel_rfl) (fun _ _ _ h => h) (Or.inl ⟨by rfl, ?_⟩) KK.out ?_
    rotate_left
    · intro w _; go_simp; try with_reducible rfl
    try simp only [Act.put, List.getElem_toArray, List.getElem_cons_succ, List.getElem_cons_zero, List.setIfInBounds_toArray, List.set_cons_zero, List.set_cons_succ]
    refine wpAnyH_one (i := 35) (by kernel_rfl) rfl (fun K hK => ?_)
    go_simp
    go_wp2_with (go_at_call 35; refine (HAL.out _ (KW.out.trans KK.out (fun _ _ f => f))).mono ?_; rintro e w' ⟨BB0, BB1, vv, rfl, hc0, hc1, hss, k⟩; have HC0 := Lib.hid hc0; have HC1 := Lib.hid hc1; have HSS := Lib.hid hss; clear hc0 hc1 hss; replace KK := Lib.hid (KK.out.trans k (fun _ _ f => f)); clear k)
    try (refine hK _ _ KK.out ?_; clear hK K)
    try simp only [Act.put, List.getElem_toArray, List.getElem_cons_succ, List.getElem_cons_zero, List.setIfInBounds_toArray, List.set_cons_zero, List.set_cons_succ]
    refine wpAnyH_one (i := 37) (by kernel_rfl) rfl (fun K hK => ?_)
    go_simp
    go_wp2_with (go_at_call 34; have hh := HT2.out _ _ _ _ HC0.out HC1.out HSS.out; refine hh.mono ?_; clear HC0 HC1 HSS hh; rintro e w' ⟨vt, rfl, hst, k⟩; obtain ⟨at2, ct2, ee, _⟩ := hst.form; rw [List.length_take, Nat.min_eq_left HQL.out] at ee; subst ee; have HST2 := Lib.hid hst; clear hst; replace KK := Lib.hid (KK.out.trans k (fun _ _ f => f)); clear k)
    try (refine hK _ _ KK.out ?_; clear hK K)
    try simp only [Act.put, List.getElem_toArray, List.getElem_cons_succ, List.getElem_cons_zero, List.setIfInBounds_toArray, List.set_cons_zero, List.set_cons_succ]
    refine wpAnyH_one (i := 41) (by kernel_rfl) rfl (fun K hK => ?_)
    go_simp
    go_wp2_with (go_at_call 33; have hh := HE.out _ _ _ _ HST2.out (HW7.out _ KK.out) HNL2.out; refine hh.mono ?_; clear HST2 hh; rintro e w' ⟨rfl, k⟩; replace KK := Lib.hid (KK.out.trans k (fun _ _ f => f)); clear k)
    try (refine hK _ _ KK.out ?_; clear hK K)
    try simp only [Act.put, List.getElem_toArray, List.getElem_cons_succ, List.getElem_cons_zero, List.setIfInBounds_toArray, List.set_cons_zero, List.set_cons_succ]
    refine wpAnyH_take (i := 42) (v := ?_) rfl (by kernel_rfl) (by kernel_rfl) (by kernel_rfl) (fun _ _ _ h => h) (Or.inl ⟨by rfl, ?_⟩) KK.out ?_
    rotate_left
    · intro w _; go_simp; try with_reducible rfl
    try simp only [Act.put, List.getElem_toArray, List.getElem_cons_succ, List.getElem_cons_zero, List.setIfInBounds_toArray, List.set_cons_zero, List.set_cons_succ]
    refine wpAnyH_take (i := 43) (v := ?_) rfl (by kernel_rfl) (by kernel_rfl) (by kernel_rfl) (fun _ _ _ h => h) (Or.inl ⟨by rfl, ?_⟩) KK.out ?_
    rotate_left
    · intro w _; go_simp; try with_reducible rfl
    try simp only [Act.put, List.getElem_toArray, List.getElem_cons_succ, List.getElem_cons_zero, List.setIfInBounds_toArray, List.set_cons_zero, List.set_cons_succ]
    refine wpAnyH_done (by kernel_rfl) ?_ _
    go_wp2_with fail
    go_ret
    exact ⟨rfl, KW.out.trans KK.out (fun _ _ f => f)⟩
  · rw [decide_eq_false hl] at HF
    clear hs HS0 hv hl hk
    go_enter Try.func5, Try.ntmps5
    go_wp2_with fail
    refine (HLV.out _).mono ?_
    rintro e w1 ⟨rfl, k1⟩
    have K1 := Lib.hid (K0.out.trans k1 (fun _ _ f => f))
    clear k1
    go_wp2_with ((with_reducible refine at_dst 17 ?_); refine wpList_slice_run rfl 43 1 _ rfl _ rfl _ _ (mkF1 a l.length c _) ?_)
    refine (HF.out w1).mono ?_
    rintro e w2 ⟨rfl, k2⟩
    have K2 := Lib.hid (K1.out.trans k2 (fun _ _ f => f))
    clear k2
    go_wp2_with fail
    refine (HLV.out w2).mono ?_
    rintro e w3 ⟨rfl, k3⟩
    have K3 := Lib.hid (K2.out.trans k3 (fun _ _ f => f))
    clear k3
    go_wp2_with fail
    go_ret
    exact ⟨rfl, K3.out⟩
end Go.Proofs.Ytoeinolekpmbbaa
