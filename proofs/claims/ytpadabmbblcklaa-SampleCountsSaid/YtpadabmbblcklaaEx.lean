/-
  SampleCounts: the law's walk.
-/
import Derived.Test.YtpadabmbblcklaaEye
import Derived.Deep.RegionWith
import Derived.Deep.RegionLaw
namespace Go.Proofs.Ytpadabmbblcklaa
open Go.RowKit

theorem SeesP.takeP {w : World} {a : Option Addr} {n c : Nat} {l : List (Int × Int)} (h : SeesP w (.slice a n c) l) {k : Nat} (hk : k ≤ l.length) : SeesP w (.slice a k c) (l.take k) := h.take hk
theorem slice_uptoP {Tsl T : TypeId} (hu : Try.prog.underlying Tsl = some (.slice T)) (hsz : ∀ w, (Go.sizeOf T).run Try.prog w = .ok 2 w) (a : Option Addr) (n c q : Nat) (hq : q ≤ c) (ha : a = none → c = 0) (w : World) :
    (Instr.slice Tsl (.slice a n c) none (some (.int .i64 (q : Int))) none).run Try.prog w = .ok (.slice a q c) w := by
  have h0 : (0 : Int) ≤ q := by omega
  cases a with
  | none =>
    obtain rfl : c = 0 := ha rfl
    obtain rfl : q = 0 := by omega
    simp [Instr.slice, Instr.sliceBounds, Instr.sliceBound, asIntOf, run_underlying hu, hsz, go_sem]
  | some ad =>
    simp [Instr.slice, Instr.sliceBounds, Instr.sliceBound, asIntOf, run_underlying hu, hsz, go_sem, h0]
    intro h
    exact absurd h (by omega)

set_option maxRecDepth 100000 in
set_option maxHeartbeats 16000000 in
theorem counts_law {v : Value} {l : List Int} {w : World} (m : Int) (hs : SeesZ .i64 w v l) (most : Nat) (hmo : most ≤ 255) :
    Calls Try.prog 5 #[.int .i64 m, v, .int .u8 most] w fun e w' => e = .returned (.bool true) ∧ Kp (fun _ => False) w w' := by
  have HB := Lib.hid (fun w => begun_any w)
  have HC := Lib.hid (fun w' (kp : Kp (fun _ => False) w w') => count_any (hs.kept kp) m)
  have HRC := Lib.hid (fun w' (kp : Kp (fun _ => False) w w') => rcount_any (hs.kept kp) m)
  have HT := Lib.hid (fun w' (kp : Kp (fun _ => False) w w') (k : Nat) => told_any (hs.kept kp) m k)
  obtain ⟨a, c, rfl, hlc, hmax, _⟩ := hs.form
  clear hs
  have hl0 : (0 : Int) ≤ l.length := by omega
  by_cases hbig : 300 < (l.length : Int)
  · go_enter Try.func5, Try.ntmps5
    go_wp2_with fail
    refine (HB.out w).mono ?_
    rintro e w2 ⟨rfl, k2⟩
    have K2 := Lib.hid k2
    clear k2
    go_wp2_with fail
    refine (HB.out w2).mono ?_
    rintro e w3 ⟨rfl, k3⟩
    have K3 := Lib.hid (K2.out.trans k3 (fun _ _ f => f))
    clear k3
    go_wp2_with fail
    go_ret
    exact ⟨rfl, K3.out⟩
  obtain ⟨cs, hcs⟩ : ∃ cs, cs = (countE m l).1 := ⟨_, rfl⟩
  obtain ⟨ce, hce⟩ : ∃ ce, ce = (countE m l).2 := ⟨_, rfl⟩
  have hcl : cs.length ≤ 32 := by
    rw [hcs]
    unfold countE
    split
    · simp
    · cases slotsOk m l
      · simp
      · show (countQ m.toNat l).length ≤ 32
        rw [countQ_length]; omega
  have HBD := Lib.hid (show ∀ (i : Nat) (x : Int), cs[i]? = some x → 0 ≤ x ∧ x ≤ 9223372036854775807 from fun i x hx => by
    have hx' := List.mem_of_getElem? hx
    rw [hcs] at hx'
    unfold countE at hx'
    split at hx'
    · cases hx'
    · cases hb : slotsOk m l <;> rw [hb] at hx'
      · cases hx'
      · have := countQ_bound m.toNat l x hx'; omega)
  rw [← hcs, ← hce] at HC HRC
  rw [← hcs] at HT
  clear hcs hce
  go_enter Try.func5, Try.ntmps5
  go_wp2_with fail
  refine (HB.out w).mono ?_
  rintro e w2 ⟨rfl, k2⟩
  have H2 := Lib.hid (HC.out w2 k2)
  have K2 := Lib.hid k2
  clear k2
  go_wp2_with fail
  refine H2.out.mono ?_
  rintro e w3 ⟨v3, rfl, s3, _, k3⟩
  have K3 := Lib.hid (K2.out.trans k3 (fun _ _ f => f))
  have H3 := Lib.hid (HRC.out w3 K3.out)
  obtain ⟨a3, c3, rfl, _⟩ := s3.form
  have S3 := Lib.hid s3
  clear k3 s3
  go_wp2_with fail
  refine H3.out.mono ?_
  rintro e w4 ⟨v4, rfl, s4, _, k4⟩
  have K4 := Lib.hid (K3.out.trans k4 (fun _ _ f => f))
  have S34 := Lib.hid (S3.out.kept k4)
  obtain ⟨a4, c4, rfl, _⟩ := s4.form
  have S4 := Lib.hid s4
  clear k4 s4
  go_wp2_with fail
  go_loopw [11, 36] (fun ov iv wr => ∃ (i : Nat), i ≤ cs.length ∧ iv = .int .i64 i ∧ Hid (OwnG 46 2 wr w4.heap.size ov (tellF ((idxL cs).take i)).length (pCs (tellF ((idxL cs).take i)))) ∧ Hid (Kp (fun _ => False) w4 wr)) (fun _ iv _ => cs.length - (intOf iv).toNat)
  case atStart => exact ⟨0, by omega, rfl, Lib.hid (OwnG.nil _ _ _ _), Lib.hid (Kp.refl _ _)⟩
  case round =>
    obtain ⟨i, hi, rfl, hown, hkp⟩ := hrel
    obtain ⟨a6, c6, rfl⟩ := hown.out.form
    by_cases hlt : i < cs.length
    · obtain ⟨x, hx⟩ : ∃ x, cs[i]? = some x := ⟨cs[i], by simp⟩
      obtain ⟨g, off, rfl, hc⟩ := (S4.out.kept hkp.out).at hx
      have hit := idxL_take hx
      have HKP := Lib.hid hkp.out
      have HOW := Lib.hid hown.out
      have hle : (tellF ((idxL cs).take i)).length ≤ i := by have := tellF_len ((idxL cs).take i); rw [List.length_take] at this; omega
      clear hx hown hkp
      by_cases hpos : 0 < x
      · have HTK := Lib.hid (show tellF ((idxL cs).take (i + 1)) = tellF ((idxL cs).take i) ++ [((i : Int), x)] by rw [← hit, tellF_yes hpos])
        have kA : Kp (fun _ => False) wr (wr.alloc (.cells (pC ((i : Int), x)).toArray 46)) := (Kp.refl _ _).alloc _
        have hsx : SeesP (wr.alloc (.cells (pC ((i : Int), x)).toArray 46)) (.slice (some ⟨wr.heap.size, 0, none⟩) 1 1) [((i : Int), x)] :=
          OwnG.seesP (B := 0) ⟨by simp [pCs, pC], .inr ⟨wr.heap.size, 1, [], rfl, Nat.zero_le _, by rw [List.append_nil]; exact (new_blk _ _).trans (by simp [pCs]), by simp [pCs, pC], Nat.le_refl _, by unfold maxLen; omega⟩⟩
        obtain ⟨v', w9, hap, o5, k5, b5⟩ := app_own Try.underlying44 infoPr3 rfl (by have := HKP.out.size; have := kA.size; omega) (HOW.out.kept kA (fun _ _ f => f)) hsx.src (Nat.le_refl 1) (show (tellF ((idxL cs).take i)).length + 1 ≤ 1000000 by omega) (by omega)
        have HO5 := Lib.hid (show OwnG 46 2 w9 w4.heap.size v' (tellF ((idxL cs).take (i + 1))).length (pCs (tellF ((idxL cs).take (i + 1)))) by
          rw [HTK.out, pCs_snoc, List.length_append]
          have e1 : pCs [((i : Int), x)] = pC ((i : Int), x) := by simp [pCs]
          rw [e1] at o5
          exact o5)
        have HK5 := Lib.hid (show Kp (fun _ => False) w4 w9 from (HKP.out.trans kA (fun _ _ f => f)).trans k5 (fun y hy h => by have := (HOW.out.lt y h).1; omega))
        clear o5 k5 b5 kA hsx hit
        go_wp2_with (at_builtin; refine Lib.wpList_append_run _ rfl _ _ _ _ rfl _ _ rfl rfl _ _ (hap _) ?_)
        go_roundw
        case rel => exact ⟨i + 1, by omega, by go_num, HO5, HK5⟩
        case measure => simp [intOf]; omega
      · have HTK := Lib.hid (show tellF ((idxL cs).take (i + 1)) = tellF ((idxL cs).take i) by rw [← hit, tellF_no (by simpa using hpos)])
        have HO5 := Lib.hid (show OwnG 46 2 wr w4.heap.size (.slice a6 (tellF ((idxL cs).take i)).length c6) (tellF ((idxL cs).take (i + 1))).length (pCs (tellF ((idxL cs).take (i + 1)))) by rw [HTK.out]; exact HOW.out)
        clear hit
        go_wp2_with fail
        go_roundw
        case rel => exact ⟨i + 1, by omega, by go_num, HO5, HKP⟩
        case measure => simp [intOf]; omega
    · obtain rfl : i = cs.length := by omega
      have ho := hown.out
      rw [List.take_of_length_le (by rw [idxL_length]; omega)] at ho ⊢
      obtain ⟨wl, hwl⟩ : ∃ wl, wl = tellL cs := ⟨_, rfl⟩
      rw [show tellF (idxL cs) = wl from hwl.symm] at ho ⊢
      rw [← hwl] at HT
      have hwll : wl.length ≤ 32 := by rw [hwl]; have := tellL_len cs; omega
      have SW := Lib.hid ho.seesP
      have hwc := ho.seesP.form
      obtain ⟨a', c', e', hwc, hwm⟩ := hwc
      injection e' with e1 e2 e3
      subst e1 e3
      have hnil : a6 = none → c6 = 0 := by
        intro e
        obtain ⟨_, ⟨e2, _⟩ | ⟨g, cap, rest, e2, _⟩⟩ := ho
        · injection e2
        · subst e; injection e2 with e3 _ _; cases e3
      have HKP := Lib.hid (K4.out.trans hkp.out (fun _ _ f => f))
      have S37 := Lib.hid (S34.out.kept hkp.out)
      have S47 := Lib.hid (S4.out.kept hkp.out)
      obtain ⟨q, hql, HQT, hmn⟩ : ∃ q : Nat, q ≤ wl.length ∧ Hid (wl.take most = wl.take q) ∧ ((¬ most < wl.length ∧ q = wl.length) ∨ (most < wl.length ∧ q = most)) := by
        rcases Nat.lt_or_ge most wl.length with h | h
        · exact ⟨most, by omega, Lib.hid rfl, .inr ⟨by omega, rfl⟩⟩
        · exact ⟨wl.length, by omega, Lib.hid (by rw [List.take_of_length_le h, List.take_of_length_le (Nat.le_refl _)]), .inl ⟨by omega, rfl⟩⟩
      have hsl := fun w => slice_uptoP Try.underlying44 (fun w => by kernel_rfl) a6 wl.length c6 q (by omega) hnil w
      have hwr : IntKind.i64.wrap (most : Int) = most := IntWalk.i64_in _ (by omega)
      have KK := Lib.hid ((Kp.refl (fun _ => False) wr).drew)
      have HE1 := Lib.hid (fun w' (k : Kp (fun _ => False) wr w') => by
        have := equalI_any (S37.out.kept k) (S47.out.kept k)
        rw [decide_eq_true rfl] at this
        exact this)
      have HT1 := Lib.hid (fun w' (k : Kp (fun _ => False) wr w') => by
        have := HT.out w' (HKP.out.trans k (fun _ _ f => f)) 1048576
        rw [List.take_of_length_le (by omega), show ((1048576 : Nat) : Int) = 1048576 from rfl] at this
        exact this)
      obtain ⟨tl, htl⟩ : ∃ tl, tl = wl.take most := ⟨_, rfl⟩
      have HTL := Lib.hid (show tl = wl.take q by rw [htl, HQT.out])
      have HT2 := Lib.hid (fun w' (k : Kp (fun _ => False) wr w') => by
        have := HT.out w' (HKP.out.trans k (fun _ _ f => f)) most
        rw [← htl] at this
        exact this)
      clear htl
      have HE2 := Lib.hid (fun (v1 : Value) w' (k : Kp (fun _ => False) wr w') (h1 : SeesP w' v1 wl) => by
        have := equalP_any h1 (SW.out.kept k)
        rw [decide_eq_true rfl] at this
        exact this)
      have HE3 := Lib.hid (fun (v1 : Value) w' (k : Kp (fun _ => False) wr w') (h1 : SeesP w' v1 tl) => by
        have := equalP_any h1 ((SW.out.kept k).take hql)
        rw [decide_eq_true HTL.out] at this
        exact this)
      have ece : (ce == ce) = true := by simp
      have ewr : wr = wr := rfl
      clear hown hkp ho hwl HT hnil HB HC HRC H2 H3 K2 K3 S3 S34 S4 S37 S47 SW K4 HBD hbig ewr
      rcases hmn with ⟨hmn, rfl⟩ | ⟨hmn, rfl⟩
      · skip
        go_upto_region 12 with (fail)
        refine wp_region_any (by kernel_rfl) ?_
        try (change wpAny _ _ _ _ _ _ _ (World.drew _))
        refine wpAny_take (i := 0) (v := ?_) rfl (by kernel_rfl) (by kernel_rfl) (by kernel_rfl) (fun _ _ _ h => h) (Or.inl ⟨by rfl, ?_⟩) ?_
        rotate_left
        · intro w; go_simp; try with_reducible rfl
        try simp only [Act.put, List.getElem_toArray, List.getElem_cons_zero, List.setIfInBounds_toArray, List.set_cons_zero, List.set_cons_succ]
        refine wpAny_take (i := 1) (v := ?_) rfl (by kernel_rfl) (by kernel_rfl) (by kernel_rfl) (fun _ _ _ h => h) (Or.inl ⟨by rfl, ?_⟩) ?_
        rotate_left
        · intro w; go_simp; try with_reducible rfl
        try simp only [Act.put, List.getElem_toArray, List.getElem_cons_succ, List.getElem_cons_zero, List.setIfInBounds_toArray, List.set_cons_zero, List.set_cons_succ]
        refine wpAny_ready (rs := [2]) (by kernel_rfl) (by simp) ?_
        refine AllReady.cons rfl (fun K hK => ?_) AllReady.nil
        go_simp
        go_wp2_with (go_at_call 20; refine (HE1.out _ KK.out).mono ?_; rintro e w' ⟨rfl, k⟩; replace KK := Lib.hid (KK.out.trans k (fun _ _ f => f)); clear k)
        try (refine hK _ _ ?_; clear hK K)
        refine wpAny_take (i := 3) (v := ?_) rfl (by kernel_rfl) (by kernel_rfl) (by kernel_rfl) (fun _ _ _ h => h) (Or.inl ⟨by rfl, ?_⟩) ?_
        rotate_left
        · intro w; go_simp; try with_reducible rfl
        try simp only [Act.put, List.getElem_toArray, List.getElem_cons_succ, List.getElem_cons_zero, List.setIfInBounds_toArray, List.set_cons_zero, List.set_cons_succ]
        refine wpAny_take (i := 4) (v := ?_) rfl (by kernel_rfl) (by kernel_rfl) (by kernel_rfl) (fun _ _ _ h => h) (Or.inl ⟨by rfl, ?_⟩) ?_
        rotate_left
        · intro w; go_simp; try with_reducible rfl
        try simp only [Act.put, List.getElem_toArray, List.getElem_cons_succ, List.getElem_cons_zero, List.setIfInBounds_toArray, List.set_cons_zero, List.set_cons_succ]
        refine wpAny_take (i := 5) (v := ?_) rfl (by kernel_rfl) (by kernel_rfl) (by kernel_rfl) (fun _ _ _ h => h) (Or.inl ⟨by rfl, ?_⟩) ?_
        rotate_left
        · intro w; go_simp; try with_reducible rfl
        try simp only [Act.put, List.getElem_toArray, List.getElem_cons_succ, List.getElem_cons_zero, List.setIfInBounds_toArray, List.set_cons_zero, List.set_cons_succ]
        refine wpAny_take (i := 6) (v := ?_) rfl (by kernel_rfl) (by kernel_rfl) (by kernel_rfl) (fun _ _ _ h => h) (Or.inl ⟨by rfl, ?_⟩) ?_
        rotate_left
        · intro w; go_simp; try with_reducible rfl
        try simp only [Act.put, List.getElem_toArray, List.getElem_cons_succ, List.getElem_cons_zero, List.setIfInBounds_toArray, List.set_cons_zero, List.set_cons_succ]
        refine wpAny_take (i := 7) (v := ?_) rfl (by kernel_rfl) (by kernel_rfl) (by kernel_rfl) (fun _ _ _ h => h) (Or.inl ⟨by rfl, ?_⟩) ?_
        rotate_left
        · intro w; go_simp; try with_reducible rfl
        try simp only [Act.put, List.getElem_toArray, List.getElem_cons_succ, List.getElem_cons_zero, List.setIfInBounds_toArray, List.set_cons_zero, List.set_cons_succ]
        refine wpAny_take (i := 8) (v := ?_) rfl (by kernel_rfl) (by kernel_rfl) (by kernel_rfl) (fun _ _ _ h => h) (Or.inl ⟨by rfl, ?_⟩) ?_
        rotate_left
        · intro w; go_simp; try with_reducible rfl
        try simp only [Act.put, List.getElem_toArray, List.getElem_cons_succ, List.getElem_cons_zero, List.setIfInBounds_toArray, List.set_cons_zero, List.set_cons_succ]
        refine wpAny_take (i := 9) (v := ?_) rfl (by kernel_rfl) (by kernel_rfl) (by kernel_rfl) (fun _ _ _ h => h) (Or.inl ⟨by rfl, ?_⟩) ?_
        rotate_left
        · intro w; go_simp; try with_reducible rfl
        try simp only [Act.put, List.getElem_toArray, List.getElem_cons_succ, List.getElem_cons_zero, List.setIfInBounds_toArray, List.set_cons_zero, List.set_cons_succ]
        refine wpAny_take (i := 10) (v := ?_) rfl (by kernel_rfl) (by kernel_rfl) (by kernel_rfl) (fun _ _ _ h => h) (Or.inl ⟨by rfl, ?_⟩) ?_
        rotate_left
        · intro w; go_simp; try with_reducible rfl
        try simp only [Act.put, List.getElem_toArray, List.getElem_cons_succ, List.getElem_cons_zero, List.setIfInBounds_toArray, List.set_cons_zero, List.set_cons_succ]
        refine wpAny_take (i := 12) (v := ?_) rfl (by kernel_rfl) (by kernel_rfl) (by kernel_rfl) (fun _ _ _ h => h) (Or.inl ⟨by rfl, ?_⟩) ?_
        rotate_left
        · intro w; go_simp; try with_reducible rfl
        try simp only [Act.put, List.getElem_toArray, List.getElem_cons_succ, List.getElem_cons_zero, List.setIfInBounds_toArray, List.set_cons_zero, List.set_cons_succ]
        refine wpAny_ready (rs := [11]) (by kernel_rfl) (by simp) ?_
        refine AllReady.cons rfl (fun K hK => ?_) AllReady.nil
        go_simp
        go_wp2_with (go_at_call 24; refine (HT1.out _ KK.out).mono ?_; rintro e w' ⟨vt, rfl, hst, k⟩; obtain ⟨at1, ct1, rfl, _, _⟩ := hst.form; have HST := Lib.hid hst; replace KK := Lib.hid (KK.out.trans k (fun _ _ f => f)); clear k hst)
        try (refine hK _ _ ?_; clear hK K)
        refine wpAny_ready (rs := [13]) (by kernel_rfl) (by simp) ?_
        refine AllReady.cons rfl (fun K hK => ?_) AllReady.nil
        go_simp
        go_wp2_with (go_at_call 23; refine (HE2.out _ _ KK.out HST.out).mono ?_; clear HST; rintro e w' ⟨rfl, k⟩; replace KK := Lib.hid (KK.out.trans k (fun _ _ f => f)); clear k)
        try (refine hK _ _ ?_; clear hK K)
        refine wpAny_take (i := 14) (v := ?_) rfl (by kernel_rfl) (by kernel_rfl) (by kernel_rfl) (fun _ _ _ h => h) (Or.inl ⟨by rfl, ?_⟩) ?_
        rotate_left
        · intro w; go_simp; try with_reducible rfl
        try simp only [Act.put, List.getElem_toArray, List.getElem_cons_succ, List.getElem_cons_zero, List.setIfInBounds_toArray, List.set_cons_zero, List.set_cons_succ]
        refine wpAny_take (i := 15) (v := ?_) rfl (by kernel_rfl) (by kernel_rfl) (by kernel_rfl) (fun _ _ _ h => h) (Or.inl ⟨by rfl, ?_⟩) ?_
        rotate_left
        · intro w; go_simp; try with_reducible rfl
        try simp only [Act.put, List.getElem_toArray, List.getElem_cons_succ, List.getElem_cons_zero, List.setIfInBounds_toArray, List.set_cons_zero, List.set_cons_succ]
        refine wpAny_take (i := 16) (v := ?_) rfl (by kernel_rfl) (by kernel_rfl) (by kernel_rfl) (fun _ _ _ h => h) (Or.inl ⟨by rfl, ?_⟩) ?_
        rotate_left
        · intro w; go_simp; try with_reducible rfl
        try simp only [Act.put, List.getElem_toArray, List.getElem_cons_succ, List.getElem_cons_zero, List.setIfInBounds_toArray, List.set_cons_zero, List.set_cons_succ]
        refine wpAny_take (i := 17) (v := ?_) rfl (by kernel_rfl) (by kernel_rfl) (by kernel_rfl) (fun _ _ _ h => h) (Or.inl ⟨by rfl, ?_⟩) ?_
        rotate_left
        · intro w; go_simp; try with_reducible rfl
        try simp only [Act.put, List.getElem_toArray, List.getElem_cons_succ, List.getElem_cons_zero, List.setIfInBounds_toArray, List.set_cons_zero, List.set_cons_succ]
        refine wpAny_take (i := 18) (v := ?_) rfl (by kernel_rfl) (by kernel_rfl) (by kernel_rfl) (fun _ _ _ h => h) (Or.inl ⟨by rfl, ?_⟩) ?_
        rotate_left
        · intro w; go_simp; try with_reducible rfl
        try simp only [Act.put, List.getElem_toArray, List.getElem_cons_succ, List.getElem_cons_zero, List.setIfInBounds_toArray, List.set_cons_zero, List.set_cons_succ]
        refine wpAny_take (i := 19) (v := ?_) rfl (by kernel_rfl) (by kernel_rfl) (by kernel_rfl) (fun _ _ _ h => h) (Or.inl ⟨by rfl, ?_⟩) ?_
        rotate_left
        · intro w; go_simp; try with_reducible rfl
        try simp only [Act.put, List.getElem_toArray, List.getElem_cons_succ, List.getElem_cons_zero, List.setIfInBounds_toArray, List.set_cons_zero, List.set_cons_succ]
        refine wpAny_take (i := 21) (v := ?_) rfl (by kernel_rfl) (by kernel_rfl) (by kernel_rfl) (fun _ _ _ h => h) (Or.inl ⟨by rfl, ?_⟩) ?_
        rotate_left
        · intro w; go_simp; try with_reducible rfl
        try simp only [Act.put, List.getElem_toArray, List.getElem_cons_succ, List.getElem_cons_zero, List.setIfInBounds_toArray, List.set_cons_zero, List.set_cons_succ]
        refine wpAny_take (i := 22) (v := ?_) rfl (by kernel_rfl) (by kernel_rfl) (by kernel_rfl) (fun _ _ _ h => h) (Or.inl ⟨by rfl, ?_⟩) ?_
        rotate_left
        · intro w; go_simp; try with_reducible rfl
        try simp only [Act.put, List.getElem_toArray, List.getElem_cons_succ, List.getElem_cons_zero, List.setIfInBounds_toArray, List.set_cons_zero, List.set_cons_succ]
        refine wpAny_take (i := 23) (v := ?_) rfl (by kernel_rfl) (by kernel_rfl) (by kernel_rfl) (fun _ _ _ h => h) (Or.inl ⟨by rfl, ?_⟩) ?_
        rotate_left
        · intro w; go_simp; try with_reducible rfl
        try simp only [Act.put, List.getElem_toArray, List.getElem_cons_succ, List.getElem_cons_zero, List.setIfInBounds_toArray, List.set_cons_zero, List.set_cons_succ]
        refine wpAny_take (i := 24) (v := ?_) rfl (by kernel_rfl) (by kernel_rfl) (by kernel_rfl) (fun _ _ _ h => h) (Or.inl ⟨by rfl, ?_⟩) ?_
        rotate_left
        · intro w; go_simp; try with_reducible rfl
        try simp only [Act.put, List.getElem_toArray, List.getElem_cons_succ, List.getElem_cons_zero, List.setIfInBounds_toArray, List.set_cons_zero, List.set_cons_succ]
        refine wpAny_take (i := 25) (v := ?_) rfl (by kernel_rfl) (by kernel_rfl) (by kernel_rfl) (fun _ _ _ h => h) (Or.inl ⟨by rfl, ?_⟩) ?_
        rotate_left
        · intro w; go_simp; try with_reducible rfl
        try simp only [Act.put, List.getElem_toArray, List.getElem_cons_succ, List.getElem_cons_zero, List.setIfInBounds_toArray, List.set_cons_zero, List.set_cons_succ]
        refine wpAny_take (i := 26) (v := ?_) rfl (by kernel_rfl) (by kernel_rfl) (by kernel_rfl) (fun _ _ _ h => h) (Or.inl ⟨by rfl, ?_⟩) ?_
        rotate_left
        · intro w; go_simp; try with_reducible rfl
        try simp only [Act.put, List.getElem_toArray, List.getElem_cons_succ, List.getElem_cons_zero, List.setIfInBounds_toArray, List.set_cons_zero, List.set_cons_succ]
        refine wpAny_take (i := 27) (v := ?_) rfl (by kernel_rfl) (by kernel_rfl) (by kernel_rfl) (fun _ _ _ h => h) (Or.inl ⟨by rfl, ?_⟩) ?_
        rotate_left
        · intro w; go_simp; try with_reducible rfl
        try simp only [Act.put, List.getElem_toArray, List.getElem_cons_succ, List.getElem_cons_zero, List.setIfInBounds_toArray, List.set_cons_zero, List.set_cons_succ]
        refine wpAny_ready (rs := [20]) (by kernel_rfl) (by simp) ?_
        refine AllReady.cons rfl (fun K hK => ?_) AllReady.nil
        go_simp
        go_wp2_with (go_at_call 24; refine (HT2.out _ KK.out).mono ?_; rintro e w' ⟨vt, rfl, hst, k⟩; obtain ⟨at2, ct2, rfl, _, _⟩ := hst.form; have HSU := Lib.hid hst; replace KK := Lib.hid (KK.out.trans k (fun _ _ f => f)); clear k hst)
        try (refine hK _ _ ?_; clear hK K)
        refine wpAny_ready (rs := [28]) (by kernel_rfl) (by simp) ?_
        refine AllReady.cons rfl (fun K hK => ?_) AllReady.nil
        go_simp
        go_wp2_with (go_at_call 23; refine (HE3.out _ _ KK.out HSU.out).mono ?_; clear HSU; rintro e w' ⟨rfl, k⟩; replace KK := Lib.hid (KK.out.trans k (fun _ _ f => f)); clear k)
        try (refine hK _ _ ?_; clear hK K)
        refine wpAny_take (i := 29) (v := ?_) rfl (by kernel_rfl) (by kernel_rfl) (by kernel_rfl) (fun _ _ _ h => h) (Or.inl ⟨by rfl, ?_⟩) ?_
        rotate_left
        · intro w; go_simp; try with_reducible rfl
        try simp only [Act.put, List.getElem_toArray, List.getElem_cons_succ, List.getElem_cons_zero, List.setIfInBounds_toArray, List.set_cons_zero, List.set_cons_succ]
        refine wpAny_take (i := 30) (v := ?_) rfl (by kernel_rfl) (by kernel_rfl) (by kernel_rfl) (fun _ _ _ h => h) (Or.inl ⟨by rfl, ?_⟩) ?_
        rotate_left
        · intro w; go_simp; try with_reducible rfl
        try simp only [Act.put, List.getElem_toArray, List.getElem_cons_succ, List.getElem_cons_zero, List.setIfInBounds_toArray, List.set_cons_zero, List.set_cons_succ]
        refine wpAny_done (by kernel_rfl) ?_ _
        go_wp2_with fail
        go_ret
        exact ⟨rfl, HKP.out.trans KK.out (fun _ _ f => f)⟩
      · skip
        go_upto_region 12 with (fail)
        refine wp_region_any (by kernel_rfl) ?_
        try (change wpAny _ _ _ _ _ _ _ (World.drew _))
        refine wpAny_take (i := 0) (v := ?_) rfl (by kernel_rfl) (by kernel_rfl) (by kernel_rfl) (fun _ _ _ h => h) (Or.inl ⟨by rfl, ?_⟩) ?_
        rotate_left
        · intro w; go_simp; try with_reducible rfl
        try simp only [Act.put, List.getElem_toArray, List.getElem_cons_zero, List.setIfInBounds_toArray, List.set_cons_zero, List.set_cons_succ]
        refine wpAny_take (i := 1) (v := ?_) rfl (by kernel_rfl) (by kernel_rfl) (by kernel_rfl) (fun _ _ _ h => h) (Or.inl ⟨by rfl, ?_⟩) ?_
        rotate_left
        · intro w; go_simp; try with_reducible rfl
        try simp only [Act.put, List.getElem_toArray, List.getElem_cons_succ, List.getElem_cons_zero, List.setIfInBounds_toArray, List.set_cons_zero, List.set_cons_succ]
        refine wpAny_ready (rs := [2]) (by kernel_rfl) (by simp) ?_
        refine AllReady.cons rfl (fun K hK => ?_) AllReady.nil
        go_simp
        go_wp2_with (go_at_call 20; refine (HE1.out _ KK.out).mono ?_; rintro e w' ⟨rfl, k⟩; replace KK := Lib.hid (KK.out.trans k (fun _ _ f => f)); clear k)
        try (refine hK _ _ ?_; clear hK K)
        refine wpAny_take (i := 3) (v := ?_) rfl (by kernel_rfl) (by kernel_rfl) (by kernel_rfl) (fun _ _ _ h => h) (Or.inl ⟨by rfl, ?_⟩) ?_
        rotate_left
        · intro w; go_simp; try with_reducible rfl
        try simp only [Act.put, List.getElem_toArray, List.getElem_cons_succ, List.getElem_cons_zero, List.setIfInBounds_toArray, List.set_cons_zero, List.set_cons_succ]
        refine wpAny_take (i := 4) (v := ?_) rfl (by kernel_rfl) (by kernel_rfl) (by kernel_rfl) (fun _ _ _ h => h) (Or.inl ⟨by rfl, ?_⟩) ?_
        rotate_left
        · intro w; go_simp; try with_reducible rfl
        try simp only [Act.put, List.getElem_toArray, List.getElem_cons_succ, List.getElem_cons_zero, List.setIfInBounds_toArray, List.set_cons_zero, List.set_cons_succ]
        refine wpAny_take (i := 5) (v := ?_) rfl (by kernel_rfl) (by kernel_rfl) (by kernel_rfl) (fun _ _ _ h => h) (Or.inl ⟨by rfl, ?_⟩) ?_
        rotate_left
        · intro w; go_simp; try with_reducible rfl
        try simp only [Act.put, List.getElem_toArray, List.getElem_cons_succ, List.getElem_cons_zero, List.setIfInBounds_toArray, List.set_cons_zero, List.set_cons_succ]
        refine wpAny_take (i := 6) (v := ?_) rfl (by kernel_rfl) (by kernel_rfl) (by kernel_rfl) (fun _ _ _ h => h) (Or.inl ⟨by rfl, ?_⟩) ?_
        rotate_left
        · intro w; go_simp; try with_reducible rfl
        try simp only [Act.put, List.getElem_toArray, List.getElem_cons_succ, List.getElem_cons_zero, List.setIfInBounds_toArray, List.set_cons_zero, List.set_cons_succ]
        refine wpAny_take (i := 7) (v := ?_) rfl (by kernel_rfl) (by kernel_rfl) (by kernel_rfl) (fun _ _ _ h => h) (Or.inl ⟨by rfl, ?_⟩) ?_
        rotate_left
        · intro w; go_simp; try with_reducible rfl
        try simp only [Act.put, List.getElem_toArray, List.getElem_cons_succ, List.getElem_cons_zero, List.setIfInBounds_toArray, List.set_cons_zero, List.set_cons_succ]
        refine wpAny_take (i := 8) (v := ?_) rfl (by kernel_rfl) (by kernel_rfl) (by kernel_rfl) (fun _ _ _ h => h) (Or.inl ⟨by rfl, ?_⟩) ?_
        rotate_left
        · intro w; go_simp; try with_reducible rfl
        try simp only [Act.put, List.getElem_toArray, List.getElem_cons_succ, List.getElem_cons_zero, List.setIfInBounds_toArray, List.set_cons_zero, List.set_cons_succ]
        refine wpAny_take (i := 9) (v := ?_) rfl (by kernel_rfl) (by kernel_rfl) (by kernel_rfl) (fun _ _ _ h => h) (Or.inl ⟨by rfl, ?_⟩) ?_
        rotate_left
        · intro w; go_simp; try with_reducible rfl
        try simp only [Act.put, List.getElem_toArray, List.getElem_cons_succ, List.getElem_cons_zero, List.setIfInBounds_toArray, List.set_cons_zero, List.set_cons_succ]
        refine wpAny_take (i := 10) (v := ?_) rfl (by kernel_rfl) (by kernel_rfl) (by kernel_rfl) (fun _ _ _ h => h) (Or.inl ⟨by rfl, ?_⟩) ?_
        rotate_left
        · intro w; go_simp; try with_reducible rfl
        try simp only [Act.put, List.getElem_toArray, List.getElem_cons_succ, List.getElem_cons_zero, List.setIfInBounds_toArray, List.set_cons_zero, List.set_cons_succ]
        refine wpAny_take (i := 12) (v := ?_) rfl (by kernel_rfl) (by kernel_rfl) (by kernel_rfl) (fun _ _ _ h => h) (Or.inl ⟨by rfl, ?_⟩) ?_
        rotate_left
        · intro w; go_simp; try with_reducible rfl
        try simp only [Act.put, List.getElem_toArray, List.getElem_cons_succ, List.getElem_cons_zero, List.setIfInBounds_toArray, List.set_cons_zero, List.set_cons_succ]
        refine wpAny_ready (rs := [11]) (by kernel_rfl) (by simp) ?_
        refine AllReady.cons rfl (fun K hK => ?_) AllReady.nil
        go_simp
        go_wp2_with (go_at_call 24; refine (HT1.out _ KK.out).mono ?_; rintro e w' ⟨vt, rfl, hst, k⟩; obtain ⟨at1, ct1, rfl, _, _⟩ := hst.form; have HST := Lib.hid hst; replace KK := Lib.hid (KK.out.trans k (fun _ _ f => f)); clear k hst)
        try (refine hK _ _ ?_; clear hK K)
        refine wpAny_ready (rs := [13]) (by kernel_rfl) (by simp) ?_
        refine AllReady.cons rfl (fun K hK => ?_) AllReady.nil
        go_simp
        go_wp2_with (go_at_call 23; refine (HE2.out _ _ KK.out HST.out).mono ?_; clear HST; rintro e w' ⟨rfl, k⟩; replace KK := Lib.hid (KK.out.trans k (fun _ _ f => f)); clear k)
        try (refine hK _ _ ?_; clear hK K)
        refine wpAny_take (i := 14) (v := ?_) rfl (by kernel_rfl) (by kernel_rfl) (by kernel_rfl) (fun _ _ _ h => h) (Or.inl ⟨by rfl, ?_⟩) ?_
        rotate_left
        · intro w; go_simp; try with_reducible rfl
        try simp only [Act.put, List.getElem_toArray, List.getElem_cons_succ, List.getElem_cons_zero, List.setIfInBounds_toArray, List.set_cons_zero, List.set_cons_succ]
        refine wpAny_take (i := 15) (v := ?_) rfl (by kernel_rfl) (by kernel_rfl) (by kernel_rfl) (fun _ _ _ h => h) (Or.inl ⟨by rfl, ?_⟩) ?_
        rotate_left
        · intro w; go_simp; try with_reducible rfl
        try simp only [Act.put, List.getElem_toArray, List.getElem_cons_succ, List.getElem_cons_zero, List.setIfInBounds_toArray, List.set_cons_zero, List.set_cons_succ]
        refine wpAny_take (i := 16) (v := ?_) rfl (by kernel_rfl) (by kernel_rfl) (by kernel_rfl) (fun _ _ _ h => h) (Or.inl ⟨by rfl, ?_⟩) ?_
        rotate_left
        · intro w; go_simp; try with_reducible rfl
        try simp only [Act.put, List.getElem_toArray, List.getElem_cons_succ, List.getElem_cons_zero, List.setIfInBounds_toArray, List.set_cons_zero, List.set_cons_succ]
        refine wpAny_take (i := 17) (v := ?_) rfl (by kernel_rfl) (by kernel_rfl) (by kernel_rfl) (fun _ _ _ h => h) (Or.inl ⟨by rfl, ?_⟩) ?_
        rotate_left
        · intro w; go_simp; try with_reducible rfl
        try simp only [Act.put, List.getElem_toArray, List.getElem_cons_succ, List.getElem_cons_zero, List.setIfInBounds_toArray, List.set_cons_zero, List.set_cons_succ]
        refine wpAny_take (i := 18) (v := ?_) rfl (by kernel_rfl) (by kernel_rfl) (by kernel_rfl) (fun _ _ _ h => h) (Or.inl ⟨by rfl, ?_⟩) ?_
        rotate_left
        · intro w; go_simp; try with_reducible rfl
        try simp only [Act.put, List.getElem_toArray, List.getElem_cons_succ, List.getElem_cons_zero, List.setIfInBounds_toArray, List.set_cons_zero, List.set_cons_succ]
        refine wpAny_take (i := 19) (v := ?_) rfl (by kernel_rfl) (by kernel_rfl) (by kernel_rfl) (fun _ _ _ h => h) (Or.inl ⟨by rfl, ?_⟩) ?_
        rotate_left
        · intro w; go_simp; try with_reducible rfl
        try simp only [Act.put, List.getElem_toArray, List.getElem_cons_succ, List.getElem_cons_zero, List.setIfInBounds_toArray, List.set_cons_zero, List.set_cons_succ]
        refine wpAny_take (i := 21) (v := ?_) rfl (by kernel_rfl) (by kernel_rfl) (by kernel_rfl) (fun _ _ _ h => h) (Or.inl ⟨by rfl, ?_⟩) ?_
        rotate_left
        · intro w; go_simp; try with_reducible rfl
        try simp only [Act.put, List.getElem_toArray, List.getElem_cons_succ, List.getElem_cons_zero, List.setIfInBounds_toArray, List.set_cons_zero, List.set_cons_succ]
        refine wpAny_take (i := 22) (v := ?_) rfl (by kernel_rfl) (by kernel_rfl) (by kernel_rfl) (fun _ _ _ h => h) (Or.inl ⟨by rfl, ?_⟩) ?_
        rotate_left
        · intro w; go_simp; try with_reducible rfl
        try simp only [Act.put, List.getElem_toArray, List.getElem_cons_succ, List.getElem_cons_zero, List.setIfInBounds_toArray, List.set_cons_zero, List.set_cons_succ]
        refine wpAny_take (i := 23) (v := ?_) rfl (by kernel_rfl) (by kernel_rfl) (by kernel_rfl) (fun _ _ _ h => h) (Or.inl ⟨by rfl, ?_⟩) ?_
        rotate_left
        · intro w; go_simp; try with_reducible rfl
        try simp only [Act.put, List.getElem_toArray, List.getElem_cons_succ, List.getElem_cons_zero, List.setIfInBounds_toArray, List.set_cons_zero, List.set_cons_succ]
        refine wpAny_take (i := 24) (v := ?_) rfl (by kernel_rfl) (by kernel_rfl) (by kernel_rfl) (fun _ _ _ h => h) (Or.inl ⟨by rfl, ?_⟩) ?_
        rotate_left
        · intro w; go_simp; try with_reducible rfl
        try simp only [Act.put, List.getElem_toArray, List.getElem_cons_succ, List.getElem_cons_zero, List.setIfInBounds_toArray, List.set_cons_zero, List.set_cons_succ]
        refine wpAny_take (i := 25) (v := ?_) rfl (by kernel_rfl) (by kernel_rfl) (by kernel_rfl) (fun _ _ _ h => h) (Or.inl ⟨by rfl, ?_⟩) ?_
        rotate_left
        · intro w; go_simp; try with_reducible rfl
        try simp only [Act.put, List.getElem_toArray, List.getElem_cons_succ, List.getElem_cons_zero, List.setIfInBounds_toArray, List.set_cons_zero, List.set_cons_succ]
        refine wpAny_take (i := 26) (v := ?_) rfl (by kernel_rfl) (by kernel_rfl) (by kernel_rfl) (fun _ _ _ h => h) (Or.inl ⟨by rfl, ?_⟩) ?_
        rotate_left
        · intro w; go_simp; try with_reducible rfl
        try simp only [Act.put, List.getElem_toArray, List.getElem_cons_succ, List.getElem_cons_zero, List.setIfInBounds_toArray, List.set_cons_zero, List.set_cons_succ]
        refine wpAny_take (i := 27) (v := ?_) rfl (by kernel_rfl) (by kernel_rfl) (by kernel_rfl) (fun _ _ _ h => h) (Or.inl ⟨by rfl, ?_⟩) ?_
        rotate_left
        · intro w; go_simp; try with_reducible rfl
        try simp only [Act.put, List.getElem_toArray, List.getElem_cons_succ, List.getElem_cons_zero, List.setIfInBounds_toArray, List.set_cons_zero, List.set_cons_succ]
        refine wpAny_ready (rs := [20]) (by kernel_rfl) (by simp) ?_
        refine AllReady.cons rfl (fun K hK => ?_) AllReady.nil
        go_simp
        go_wp2_with (go_at_call 24; refine (HT2.out _ KK.out).mono ?_; rintro e w' ⟨vt, rfl, hst, k⟩; obtain ⟨at2, ct2, rfl, _, _⟩ := hst.form; have HSU := Lib.hid hst; replace KK := Lib.hid (KK.out.trans k (fun _ _ f => f)); clear k hst)
        try (refine hK _ _ ?_; clear hK K)
        refine wpAny_ready (rs := [28]) (by kernel_rfl) (by simp) ?_
        refine AllReady.cons rfl (fun K hK => ?_) AllReady.nil
        go_simp
        go_wp2_with (go_at_call 23; refine (HE3.out _ _ KK.out HSU.out).mono ?_; clear HSU; rintro e w' ⟨rfl, k⟩; replace KK := Lib.hid (KK.out.trans k (fun _ _ f => f)); clear k)
        try (refine hK _ _ ?_; clear hK K)
        refine wpAny_take (i := 29) (v := ?_) rfl (by kernel_rfl) (by kernel_rfl) (by kernel_rfl) (fun _ _ _ h => h) (Or.inl ⟨by rfl, ?_⟩) ?_
        rotate_left
        · intro w; go_simp; try with_reducible rfl
        try simp only [Act.put, List.getElem_toArray, List.getElem_cons_succ, List.getElem_cons_zero, List.setIfInBounds_toArray, List.set_cons_zero, List.set_cons_succ]
        refine wpAny_take (i := 30) (v := ?_) rfl (by kernel_rfl) (by kernel_rfl) (by kernel_rfl) (fun _ _ _ h => h) (Or.inl ⟨by rfl, ?_⟩) ?_
        rotate_left
        · intro w; go_simp; try with_reducible rfl
        try simp only [Act.put, List.getElem_toArray, List.getElem_cons_succ, List.getElem_cons_zero, List.setIfInBounds_toArray, List.set_cons_zero, List.set_cons_succ]
        refine wpAny_done (by kernel_rfl) ?_ _
        go_wp2_with fail
        go_ret
        exact ⟨rfl, HKP.out.trans KK.out (fun _ _ f => f)⟩
end Go.Proofs.Ytpadabmbblcklaa
