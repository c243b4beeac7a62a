/-
  Package bag's Only: some names' votes.
-/
import Derived.Test.YtoeinolekpmbbaaFf
import Derived.Test.YtoeinolekpmbbaaFh
namespace Go.Proofs.Ytoeinolekpmbbaa
open Go.ChangeShapes Go.WideShapes Go.ChangeAt Go.RowKit

theorem gathAll_app (l : List Vt) (a b : List (List Int)) : gathAll l (a ++ b) = gathAll (gathAll l a) b := by simp [gathAll]
theorem gathAll_cnt : ∀ (ids : List (List Int)) (l : List Vt) (k : List Int), cntV (gathAll l ids) k = cntV l k + (ids.count k : Nat)
  | [], l, k => by simp [gathAll]
  | x :: r, l, k => by
    rw [show gathAll l (x :: r) = gathAll (gath l x 1) r from rfl, gathAll_cnt r, gath_cnt, List.count_cons]
    by_cases h : k = x
    · subst h; simp; omega
    · have h' : ¬ x = k := fun e => h e.symm
      simp [h, h']
theorem gathAll_in (ids : List (List Int)) (k : List Int) : 0 < cntV (gathAll [] ids) k ↔ k ∈ ids := by
  rw [gathAll_cnt]
  simp only [cntV, Int.zero_add]
  rw [show ((0 : Int) < (ids.count k : Nat)) ↔ 0 < ids.count k by omega]
  exact List.count_pos_iff
/-- some names' votes -/
def onlyV (l : List Vt) (ids : List (List Int)) : List Vt := l.filter (fun x => decide (x.id ∈ ids))
theorem onlyV_take {l : List Vt} {k : Nat} {x : Vt} (hx : l[k]? = some x) (ids : List (List Int)) : onlyV (l.take (k + 1)) ids = onlyV (l.take k) ids ++ cond (decide (x.id ∈ ids)) [x] [] := by
  unfold onlyV
  rw [take_snoc hx, List.filter_append]
  cases h : decide (x.id ∈ ids) <;> simp [List.filter, h]
theorem onlyV_len (l : List Vt) (ids : List (List Int)) : (onlyV l ids).length ≤ l.length := List.length_filter_le _ _
theorem onlyV_ok {l : List Vt} (h : TOk l) (ids : List (List Int)) : TOk (onlyV l ids) := fun x hx => h x (List.mem_filter.1 hx).1
theorem OwnG.up {T sz : Nat} {w : World} {B B' n : Nat} {v : Value} {cs : List Value} (h : OwnG T sz w B v n cs) (hB : B' ≤ B) : OwnG T sz w B' v n cs := by
  obtain ⟨h0, h | ⟨g, cap, rest, e, h1, h2⟩⟩ := h
  · exact ⟨h0, .inl h⟩
  · exact ⟨h0, .inr ⟨g, cap, rest, e, by omega, h2⟩⟩

set_option maxRecDepth 100000 in
set_option maxHeartbeats 6400000 in
theorem bonly_any {v u : Value} {l : List Vt} {ids : List (List Int)} {w : World} (hs : SeesT w v l) (hv : TOk l) (hll : l.length ≤ 1000) (hi : SeesI (fun _ => True) w u ids) (hl : ∀ x ∈ ids, Nm x) (hn : ids.length ≤ 1000) :
    Calls Try.prog 22 #[v, u] w fun e w' => ∃ v', e = .returned v' ∧ OwnG 33 33 w' w.heap.size v' (onlyV (bagged l) ids).length (flatT (onlyV (bagged l) ids)) ∧ Kp (fun _ => False) w w' := by
  have HC := Lib.hid (bcheck_any hs hv)
  obtain ⟨a, c, rfl, hlc, hmax⟩ := hs.form
  obtain ⟨b, d, rfl, hmi⟩ := hi.form
  cases hg : good l with
  | false =>
    have hb : bagged l = [] := by unfold bagged; rw [hg]; rfl
    rw [show chkT l = 70 by unfold chkT; rw [hg]; rfl] at HC
    rw [hb]
    clear hs hv hi hl hg hb
    go_enter Try.func22, Try.ntmps22
    go_wp2_with fail
    refine HC.out.mono ?_
    rintro e w1 ⟨rfl, k1⟩
    have K1 := Lib.hid k1
    clear k1
    go_wp2_with fail
    go_ret
    exact ⟨_, rfl, OwnG.nil _ _ _ _, K1.out⟩
  | true =>
    have hb : bagged l = l := by unfold bagged; rw [hg]; rfl
    rw [show chkT l = 0 by unfold chkT; rw [hg]; rfl] at HC
    rw [hb]
    have HST := Lib.hid (fun w' (k : Kp (fun _ => False) w w') => hs.kept k)
    have HVT := Lib.hid hv
    have HS := Lib.hid (fun w' (k : Kp (fun _ => False) w w') => hi.kept k (fun _ _ f => f))
    have HL := Lib.hid hl
    have HL2 := Lib.hid (show ∀ x ∈ ids, x.length = 32 from fun x hx => (hl x hx).len)
    have hz := zeroIdF
    have hzv := zeroVt
    have hmm := @run_makeMap Try.prog
    have HNI := Lib.hid hn
    have HLLL := Lib.hid hll
    have HIV := Lib.hid (fun (x : Vt) (h : x.id.length = 32) => infoVt h)
    have HIV2 := Lib.hid (fun (x : Vt) (h : x.id.length = 32) => infoVt' h)
    obtain ⟨fin, hfin⟩ : ∃ f, f = onlyV l ids := ⟨_, rfl⟩
    rw [← hfin]
    have HFIN := Lib.hid hfin
    clear hs hv hi hl hg hb hll hfin
    go_enter Try.func22, Try.ntmps22
    go_wp2_with fail
    refine HC.out.mono ?_
    rintro e w1 ⟨rfl, k1⟩
    have K1 := Lib.hid k1
    clear k1
    go_wp2_with fail
    obtain ⟨mb, hmb⟩ : ∃ b, b = w1.heap.size := ⟨_, rfl⟩
    have HMB := Lib.hid (show w.heap.size ≤ mb by rw [hmb]; exact K1.out.size)
    have HM0 := Lib.hid (show MapI (w1.alloc (.map #[] 0)) mb [] by rw [hmb]; exact MapI.made w1)
    rw [← hmb]
    clear hmb
    go_loopw [17] (fun i wr => ∃ k : Nat, k ≤ ids.length ∧ i = .int .i64 k ∧ Hid (Kp (fun _ => False) w wr) ∧ Hid (MapI wr mb (gathAll [] (ids.take k))) ∧ Hid (Gathd (gathAll [] (ids.take k)) k)) (fun i _ => ids.length - (intOf i).toNat)
    case atStart => exact ⟨0, Nat.zero_le _, rfl, Lib.hid (K1.out.alloc _), HM0, Lib.hid Gathd.nil⟩
    case round =>
      obtain ⟨k, hk, rfl, hkp, hmi, hga⟩ := hrel
      by_cases hlt : k < ids.length
      · have hx := List.getElem?_eq_getElem hlt
        obtain ⟨g, off, rfl, hr, hlc2, hmax2, _⟩ := (HS.out _ hkp.out).at HL2.out hlt
        have hc' : d ≤ 9223372036854775807 := hmax2
        have HNX := Lib.hid (HL.out _ (List.getElem_mem hlt))
        obtain ⟨x, hxe⟩ : ∃ x, x = ids[k] := ⟨_, rfl⟩
        rw [← hxe] at hr hx HNX
        have HR := Lib.hid hr
        have HX := Lib.hid hx
        obtain ⟨lg, hle⟩ : ∃ l, l = gathAll [] (ids.take k) := ⟨_, rfl⟩
        rw [← hle] at hmi hga
        have HLE := Lib.hid hle
        obtain ⟨hc0, hc1⟩ := hga.out.cnt x
        obtain ⟨cn, hcn⟩ : ∃ cn, cn = cntV lg x := ⟨_, rfl⟩
        rw [← hcn] at hc0 hc1
        have HCN := Lib.hid hcn
        have hn1 := HNI.out
        have hw1 : wrap64 (cn + 1) = cn + 1 := by unfold wrap64; omega
        have hw2 : IntKind.i64.wrap (cn + 1) = cn + 1 := by simp [IntKind.wrap, IntKind.bits, IntKind.signed]; omega
        have HI := Lib.hid (infoIdL HNX.out.len)
        have HMI := hmi
        clear hr hx hxe hle hcn
        go_upto_region 7 with (first
          | ((with_reducible refine at_dst 20 ?_); refine wpList_load_mid rfl 27 _ rfl g (off + k * 32) rfl (U8s x) _ HR.out Try.underlying27 rfl HI.out ?_)
          | ((with_reducible refine at_store 7 20 ?_); refine st_fresh rfl 27 _ _ rfl (U8s x).toArray rfl rfl 27 _ (info32 x HNX.out.len) (by simp [U8s_length, HNX.out.len]) (all_oneCell_toArray (U8s_one _)) ?_; intro w2 k2 m2 s2; have M2 := Lib.hid m2; have K2 := Lib.hid k2; clear m2 s2 k2))
        refine wp_region_any (by kernel_rfl) ?_
        try (change wpAny _ _ _ _ _ _ _ (World.drew _))
        refine wpAny_take (i := 0) (v := ?_) rfl (by kernel_rfl) (by kernel_rfl) (by kernel_rfl) (fun _ _ _ h => h) (Or.inl ⟨by rfl, ?_⟩) ?_
        rotate_left
        · intro w; go_simp; try with_reducible rfl
        try simp only [Act.put, List.getElem_toArray, List.getElem_cons_zero, List.setIfInBounds_toArray, List.set_cons_zero, List.set_cons_succ]
        obtain ⟨w3, hw3⟩ : ∃ w3, w3 = w2.drew := ⟨_, rfl⟩
        have hmw : MapI w3 mb lg := by rw [hw3]; exact (HMI.out.kept K2.out (fun f => f)).kept (F := fun _ => False) ((Kp.refl _ _).drew) (fun f => f)
        have M3 := Lib.hid (show w3.heap[wr.heap.size]? = some (.cells (U8s x).toArray 27 (0, 0)) by rw [hw3]; exact M2.out)
        have K3 := Lib.hid (show Kp (fun _ => False) wr w3 by rw [hw3]; exact K2.out.drew)
        rw [← hw3]
        clear hw3
        have e1 := look_run hmw HNX.out.len
        obtain ⟨w4, e2, hm4, k4, s4⟩ := entry_run hmw HNX.out.len
        have e3 := look_run hm4 HNX.out.len
        rw [gath_cnt, if_pos rfl, Int.add_zero] at e3
        obtain ⟨w5, e4, hm5, k5, s5⟩ := put_run HNX.out.len hmw.uq hmw.len hm4 1
        rw [← HCN.out] at e1 e2 e3 e4
        simp only [keyV] at e1 e2 e3 e4
        have HM5 := Lib.hid hm5
        have K5 := Lib.hid (((K3.out.mono (G := fun _ => False) (F := fun y => y = mb) (fun _ _ f => f.elim)).trans k4 (fun _ _ h => h)).trans k5 (fun _ _ h => h))
        clear hm4 hm5 k4 k5 s4 s5 hmw
        obtain ⟨ps, hps⟩ : ∃ ps, ps = posE lg x := ⟨_, rfl⟩
        rw [← hps] at e2 e4
        clear hps
        refine wpAny_ready (rs := [1]) (by kernel_rfl) (by simp) ?_
        refine BigFrame.allReady_want rfl (by kernel_rfl) (fun K hK => ?_) AllReady.nil
        refine wp_load_row 27 _ rfl wr.heap.size rfl 27 _ (0, 0) _ M3.out Try.underlying27 rfl (info32 x HNX.out.len) ?_
        refine hK _ _ ?_; clear hK K
        try simp only [Act.put, List.getElem_toArray, List.getElem_cons_succ, List.getElem_cons_zero, List.setIfInBounds_toArray, List.set_cons_zero, List.set_cons_succ]
        refine wpAny_ready (rs := [2, 4]) (by kernel_rfl) (by simp) ?_
        refine BigFrame.allReady_want rfl (by kernel_rfl) (fun K hK => ?_) (BigFrame.allReady_want rfl (by kernel_rfl) (fun K hK => ?_) AllReady.nil)
        · go_simp
          refine hK _ _ ?_; clear hK K
          try simp only [Act.put, List.getElem_toArray, List.getElem_cons_succ, List.getElem_cons_zero, List.setIfInBounds_toArray, List.set_cons_zero, List.set_cons_succ]
          refine wpAny_take (i := 3) (v := ?_) rfl (by kernel_rfl) (by kernel_rfl) (by kernel_rfl) (fun _ _ _ h => h) (Or.inl ⟨by rfl, ?_⟩) ?_
          rotate_left
          · intro w; go_simp; try with_reducible rfl
          try simp only [Act.put, List.getElem_toArray, List.getElem_cons_succ, List.getElem_cons_zero, List.setIfInBounds_toArray, List.set_cons_zero, List.set_cons_succ]
          refine wpAny_ready (rs := [4]) (by kernel_rfl) (by simp) ?_
          refine BigFrame.allReady_want rfl (by kernel_rfl) (fun K hK => ?_) AllReady.nil
          go_simp
          refine hK _ _ ?_; clear hK K
          try simp only [Act.put, List.getElem_toArray, List.getElem_cons_succ, List.getElem_cons_zero, List.setIfInBounds_toArray, List.set_cons_zero, List.set_cons_succ]
          refine wpAny_take (i := 5) (v := ?_) rfl (by kernel_rfl) (by kernel_rfl) (by kernel_rfl) (fun _ _ _ h => h) (Or.inl ⟨by rfl, ?_⟩) ?_
          rotate_left
          · intro w; go_simp; try with_reducible rfl
          try simp only [Act.put, List.getElem_toArray, List.getElem_cons_succ, List.getElem_cons_zero, List.setIfInBounds_toArray, List.set_cons_zero, List.set_cons_succ]
          refine wpAny_ready (rs := [6]) (by kernel_rfl) (by simp) ?_
          refine BigFrame.allReady_want rfl (by kernel_rfl) (fun K hK => ?_) AllReady.nil
          go_simp
          refine hK _ _ ?_; clear hK K
          try simp only [Act.put, List.getElem_toArray, List.getElem_cons_succ, List.getElem_cons_zero, List.setIfInBounds_toArray, List.set_cons_zero, List.set_cons_succ]
          refine wpAny_done (by kernel_rfl) ?_ _
          go_wp2_with fail
          go_roundw
          case rel => exact ⟨k + 1, by omega, by go_num, Lib.hid (hkp.out.trans K5.out (fun y hy e => by have := HMB.out; omega)), Lib.hid (by rw [gathAll_snoc HX.out, ← HLE.out]; exact HM5.out), Lib.hid (by rw [gathAll_snoc HX.out, ← HLE.out]; have := hga.out.step HNX.out (n := 1) (by omega); simpa using this)⟩
          case measure => simp [intOf]; omega
        · go_simp
          refine hK _ _ ?_; clear hK K
          try simp only [Act.put, List.getElem_toArray, List.getElem_cons_succ, List.getElem_cons_zero, List.setIfInBounds_toArray, List.set_cons_zero, List.set_cons_succ]
          refine wpAny_take (i := 5) (v := ?_) rfl (by kernel_rfl) (by kernel_rfl) (by kernel_rfl) (fun _ _ _ h => h) (Or.inl ⟨by rfl, ?_⟩) ?_
          rotate_left
          · intro w; go_simp; try with_reducible rfl
          try simp only [Act.put, List.getElem_toArray, List.getElem_cons_succ, List.getElem_cons_zero, List.setIfInBounds_toArray, List.set_cons_zero, List.set_cons_succ]
          refine wpAny_ready (rs := [2]) (by kernel_rfl) (by simp) ?_
          refine BigFrame.allReady_want rfl (by kernel_rfl) (fun K hK => ?_) AllReady.nil
          go_simp
          refine hK _ _ ?_; clear hK K
          try simp only [Act.put, List.getElem_toArray, List.getElem_cons_succ, List.getElem_cons_zero, List.setIfInBounds_toArray, List.set_cons_zero, List.set_cons_succ]
          refine wpAny_take (i := 3) (v := ?_) rfl (by kernel_rfl) (by kernel_rfl) (by kernel_rfl) (fun _ _ _ h => h) (Or.inl ⟨by rfl, ?_⟩) ?_
          rotate_left
          · intro w; go_simp; try with_reducible rfl
          try simp only [Act.put, List.getElem_toArray, List.getElem_cons_succ, List.getElem_cons_zero, List.setIfInBounds_toArray, List.set_cons_zero, List.set_cons_succ]
          refine wpAny_ready (rs := [6]) (by kernel_rfl) (by simp) ?_
          refine BigFrame.allReady_want rfl (by kernel_rfl) (fun K hK => ?_) AllReady.nil
          go_simp
          refine hK _ _ ?_; clear hK K
          try simp only [Act.put, List.getElem_toArray, List.getElem_cons_succ, List.getElem_cons_zero, List.setIfInBounds_toArray, List.set_cons_zero, List.set_cons_succ]
          refine wpAny_done (by kernel_rfl) ?_ _
          go_wp2_with fail
          go_roundw
          case rel => exact ⟨k + 1, by omega, by go_num, Lib.hid (hkp.out.trans K5.out (fun y hy e => by have := HMB.out; omega)), Lib.hid (by rw [gathAll_snoc HX.out, ← HLE.out]; exact HM5.out), Lib.hid (by rw [gathAll_snoc HX.out, ← HLE.out]; have := hga.out.step HNX.out (n := 1) (by omega); simpa using this)⟩
          case measure => simp [intOf]; omega
      · obtain rfl : k = ids.length := by omega
        rw [List.take_length] at hmi hga
        obtain ⟨lg, hle⟩ : ∃ l, l = gathAll [] ids := ⟨_, rfl⟩
        rw [← hle] at hmi hga
        have HIN := Lib.hid (fun k => (by rw [hle]; exact gathAll_in ids k : 0 < cntV lg k ↔ k ∈ ids))
        clear hle
        go_wp2_with fail
        go_loopw [8, 30] (fun s i wr => ∃ k : Nat, k ≤ l.length ∧ i = .int .i64 k ∧ (∃ sa sc, s = .slice sa (onlyV (l.take k) ids).length sc) ∧ Hid (OwnG 33 33 wr w.heap.size s (onlyV (l.take k) ids).length (flatT (onlyV (l.take k) ids))) ∧ Hid (s.ownBlock ≠ some mb) ∧ Hid (MapI wr mb lg) ∧ Hid (Kp (fun _ => False) w wr)) (fun _ i _ => l.length - (intOf i).toNat)
        case atStart => exact ⟨0, Nat.zero_le _, rfl, ⟨none, 0, rfl⟩, Lib.hid (OwnG.nil _ _ _ _), Lib.hid (fun e => by cases e), hmi, hkp⟩
        case round =>
          obtain ⟨k, hk, rfl, ⟨sa, sc, rfl⟩, HO, HNE, HMI, HK⟩ := hrel
          by_cases hlt : k < l.length
          · obtain ⟨x, hx⟩ : ∃ x, l[k]? = some x := ⟨l[k], List.getElem?_eq_getElem hlt⟩
            obtain ⟨g, off, rfl, hr⟩ := (HST.out _ HK.out).at hx
            have HN := Lib.hid (tok_at HVT.out hx).nm
            have HR := Lib.hid hr
            have HT := Lib.hid (onlyV_take hx ids)
            have HOL := Lib.hid (onlyV_len (l.take k) ids)
            obtain ⟨on, hon⟩ : ∃ o, o = onlyV (l.take k) ids := ⟨_, rfl⟩
            rw [← hon] at HO HT HOL HNE
            rw [← hon]
            clear hr hon
            obtain ⟨cx, hcx⟩ : ∃ c, c = cntV lg x.id := ⟨_, rfl⟩
            have HCX := Lib.hid hcx
            by_cases hin : 0 < cx
            · have hin' : x.id ∈ ids := (HIN.out x.id).1 (by rw [← hcx]; exact hin)
              rw [decide_eq_true hin'] at HT
              clear hx hcx hin'
              go_wp2_with (first
                | ((with_reducible refine at_dst 33 ?_); refine wpList_load_mid rfl 33 _ rfl g (off + k * 33) rfl (vtC x) _ HR.out Try.underlying33 rfl (HIV.out x HN.out.len) ?_)
                | ((with_reducible refine at_store 10 33 ?_); refine st_fresh rfl 33 _ _ rfl (vtC x).toArray rfl rfl 33 _ (HIV2.out x HN.out.len) (vt_same (by decide) HN.out.len) (vtC_all x) ?_; intro u2 k2 m2 s2; have M2 := Lib.hid m2; have K2 := Lib.hid k2; have RU := Lib.hid (range_pre (range_blk m2) : u2.rangeAt wr.heap.size 0 (U8s x.id)); have MI2 := Lib.hid (HMI.out.kept k2 (fun f => f)); have e1 := look_run MI2.out HN.out.len; rw [← HCX.out] at e1; simp only [keyV] at e1; obtain ⟨v', u3, hap, ho3, hk3, hloc⟩ := app_own Try.underlying22 infoVt3 zVt_size (w := u2.alloc (.cells (vtC x).toArray 33)) (B := w.heap.size) (n := on.length) (k := 1) (by rw [World.size_alloc]; have := HK.out.size; have := k2.size; omega) ((HO.out.kept k2 (fun _ _ f => f)).kept (k := (Kp.refl (fun _ => False) _).alloc _) (fun _ _ f => f)) (src_one x HN.out.len (new_blk u2 (.cells (vtC x).toArray 33))) (by omega) (by have := HLLL.out; have := HOL.out; rw [List.length_take] at this; omega) (by omega); have HO3 := Lib.hid ho3; have HK3 := Lib.hid hk3; have HL3 := Lib.hid hloc; have HS2 := Lib.hid s2; clear ho3 hk3 hloc k2 m2 s2)
                | ((with_reducible refine at_dst 36 ?_); refine wpList_load_mid rfl 27 _ rfl wr.heap.size 0 rfl (U8s x.id) _ RU.out Try.underlying27 rfl (infoIdL HN.out.len) ?_)
                | ((with_reducible refine at_dst 40 ?_); refine wpList_load_row rfl 33 _ rfl wr.heap.size rfl 33 _ (0, 0) _ M2.out Try.underlying33 rfl (HIV2.out x HN.out.len) ?_)
                | ((with_reducible refine at_dst 41 ?_); refine wpList_slice_run rfl 22 1 _ rfl _ rfl _ _ (mkV1 x HN.out.len _) ?_)
                | (at_builtin; refine Lib.wpList_append_run _ rfl _ _ _ _ rfl _ _ rfl rfl _ _ (hap _) ?_))
              go_roundw
              case rel =>
                obtain ⟨a3, c3, rfl⟩ := HO3.out.form
                refine ⟨k + 1, by omega, by go_num, ⟨a3, c3, by rw [HT.out, List.length_append]; rfl⟩, Lib.hid (by rw [HT.out, flatT_append, List.length_append, show flatT (cond true [x] []) = vtC x by simp [flatT]]; exact HO3.out), Lib.hid (fun e => ?_), Lib.hid ?_, Lib.hid ?_⟩
                · rcases HL3.out with h | h
                  · exact HNE.out (h ▸ e)
                  · have h1 := h _ e
                    rw [World.size_alloc] at h1
                    have h2 := lt_of_blk HMI.out.blk
                    have h3 := HS2.out
                    omega
                · exact (MI2.out.kept ((Kp.refl (fun _ => False) _).alloc _) (fun f => f)).kept HK3.out (fun e => HNE.out e)
                · exact ((HK.out.trans K2.out (fun _ _ f => f)).alloc _).trans HK3.out (fun y hy e => by
                    have := (HO.out.lt _ e).1
                    omega)
              case measure => simp [intOf]; omega
            · have hin' : ¬ x.id ∈ ids := fun h => hin (by rw [hcx]; exact (HIN.out x.id).2 h)
              rw [decide_eq_false hin'] at HT
              clear hx hcx hin'
              go_wp2_with (first
                | ((with_reducible refine at_dst 33 ?_); refine wpList_load_mid rfl 33 _ rfl g (off + k * 33) rfl (vtC x) _ HR.out Try.underlying33 rfl (HIV.out x HN.out.len) ?_)
                | ((with_reducible refine at_store 10 33 ?_); refine st_fresh rfl 33 _ _ rfl (vtC x).toArray rfl rfl 33 _ (HIV2.out x HN.out.len) (vt_same (by decide) HN.out.len) (vtC_all x) ?_; intro u2 k2 m2 s2; have K2 := Lib.hid k2; have RU := Lib.hid (range_pre (range_blk m2) : u2.rangeAt wr.heap.size 0 (U8s x.id)); have MI2 := Lib.hid (HMI.out.kept k2 (fun f => f)); have e1 := look_run MI2.out HN.out.len; rw [← HCX.out] at e1; simp only [keyV] at e1; clear k2 m2 s2)
                | ((with_reducible refine at_dst 36 ?_); refine wpList_load_mid rfl 27 _ rfl wr.heap.size 0 rfl (U8s x.id) _ RU.out Try.underlying27 rfl (infoIdL HN.out.len) ?_))
              go_roundw
              case rel =>
                exact ⟨k + 1, by omega, by go_num, ⟨sa, sc, by rw [HT.out]; simp⟩, Lib.hid (by rw [HT.out]; simpa using HO.out.kept K2.out (fun _ _ f => f)), HNE, MI2, Lib.hid (HK.out.trans K2.out (fun _ _ f => f))⟩
              case measure => simp [intOf]; omega
          · obtain rfl : k = l.length := by omega
            rw [List.take_length, ← HFIN.out] at HO
            rw [List.take_length, ← HFIN.out]
            have HF := Lib.hid (show OwnG 33 33 wr w.heap.size (.slice sa fin.length sc) fin.length (flatT fin) ∧ Kp (fun _ => False) w wr from ⟨HO.out, HK.out⟩)
            go_wp2_with fail
            go_ret
            exact ⟨_, rfl, HF.out⟩
end Go.Proofs.Ytoeinolekpmbbaa
