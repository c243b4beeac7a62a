/-
  BagParts: slices.Contains at names, and the law's walk.
-/
import Derived.Test.YtoeinolekpmbbaaFz
import Derived.Test.YtoeinolekpmbbaaFj
import Derived.Test.YtoeinolekpmbbaaFn
import Derived.Test.YtoeinolekpmbbaaFo
import Derived.Test.YtoeinolekpmbbaaFq
namespace Go.Proofs.Ytoeinolekpmbbaa
open Go.ChangeShapes Go.WideShapes Go.ChangeAt Go.RowKit

set_option maxRecDepth 100000 in
set_option maxHeartbeats 1600000 in
theorem indexI_any {v : Value} {ids : List (List Int)} {k0 : List Int} {w : World} (hs : SeesI (fun _ => True) w v ids) (hl : ∀ x ∈ ids, x.length = 32) (hk : k0.length = 32) :
    Calls Try.prog 45 #[v, .agg (U8s k0).toArray] w fun e w' => ∃ i : Int, e = .returned (.int .i64 i) ∧ (0 ≤ i ↔ k0 ∈ ids) ∧ Kp (fun _ => False) w w' := by
  obtain ⟨a, c, rfl, hm⟩ := hs.form
  have MB := Lib.hid (new_blk w (.cells (U8s k0).toArray 27))
  have K0 := Lib.hid ((Kp.refl (fun _ => False) w).alloc (.cells (U8s k0).toArray 27))
  have HIK := Lib.hid (info32 k0 hk)
  have HIL := Lib.hid (fun (x : List Int) (h : x.length = 32) => infoIdL h)
  have HEQ := Lib.hid (fun (x : List Int) (h : x.length = 32) => eql_names k0 x hk h)
  have HS := Lib.hid (fun w' (k : Kp (fun _ => False) w w') => hs.kept k (fun _ _ f => f))
  have HL := Lib.hid hl
  clear hs hl hk
  go_enter Try.func45, Try.ntmps45
  go_wp2_with fail
  go_loopw [8] (fun i wr => ∃ k : Nat, k ≤ ids.length ∧ i = .int .i64 k ∧ Hid (Kp (fun _ => False) (w.alloc (.cells (U8s k0).toArray 27)) wr) ∧ Hid (∀ (j : Nat) (x : List Int), j < k → ids[j]? = some x → x ≠ k0)) (fun i _ => ids.length - (intOf i).toNat)
  case atStart => exact ⟨0, Nat.zero_le _, rfl, Lib.hid (Kp.refl _ _), Lib.hid (fun j x h => by omega)⟩
  case round =>
    obtain ⟨k, hk, rfl, HK, HSM⟩ := hrel
    by_cases hlt : k < ids.length
    · obtain ⟨g, off, rfl, hr, hlc, hmax, _⟩ := (HS.out _ (K0.out.trans HK.out (fun _ _ f => f))).at HL.out hlt
      have hmx : c ≤ 9223372036854775807 := hmax
      have hx := List.getElem?_eq_getElem hlt
      have HXL := Lib.hid (HL.out _ (List.getElem_mem hlt))
      obtain ⟨x, hxe⟩ : ∃ x, x = ids[k] := ⟨_, rfl⟩
      rw [← hxe] at hr hx HXL
      have RX := Lib.hid (fun (w' : World) (h : ∃ n, w' = wr.drewN n) => (by obtain ⟨n, rfl⟩ := h; exact range_kp hr ((Kp.refl (fun _ => False) _).drewN n) (fun f => f) : w'.rangeAt g (off + k * 32) (U8s x)))
      have m0 := kept_blk MB.out HK.out (fun f => f)
      have MX := Lib.hid (fun (w' : World) (h : ∃ n, w' = wr.drewN n) => (by obtain ⟨n, rfl⟩ := h; exact kept_blk m0 ((Kp.refl (fun _ => False) _).drewN n) (fun f => f) : w'.heap[w.heap.size]? = some (.cells (U8s k0).toArray 27)))
      have HX := Lib.hid hx
      have hee := HEQ.out x HXL.out
      clear hr hx hxe m0
      go_upto_region 4 with fail
      refine wp_region_quiet_lit (by kernel_rfl) (by kernel_rfl) ?_
      repeat (first
        | go_big_quiet_skip
        | (go_big_quiet_want; refine quiet_ld 27 _ rfl g (off + k * 32) rfl (U8s x) _ RX.out Try.underlying27 rfl (HIL.out _ HXL.out) ?_; (simp only [Act.put, List.setIfInBounds_toArray, List.set_cons_zero, List.set_cons_succ]); go_big_quiet_on)
        | (go_big_quiet_want; refine quiet_load_row 27 _ rfl w.heap.size rfl 27 _ (0, 0) _ MX.out Try.underlying27 rfl HIK.out ?_; (simp only [Act.put, List.setIfInBounds_toArray, List.set_cons_zero, List.set_cons_succ]); go_big_quiet_on)
        | (go_big_quiet_want; go_big_quiet_op; go_big_quiet_on))
      refine wpQuiet_nil ?_
      rintro _ ⟨nq, rfl⟩
      have HK2 := Lib.hid (HK.out.drewN nq)
      by_cases hxy : k0 = x
      · have HM := Lib.hid (show k0 ∈ ids by rw [hxy]; exact List.mem_of_getElem? HX.out)
        rw [decide_eq_true hxy]
        clear hxy
        go_wp2_with fail
        go_ret
        exact ⟨k, rfl, ⟨fun _ => HM.out, fun _ => by omega⟩, K0.out.trans HK2.out (fun _ _ f => f)⟩
      · have HN := Lib.hid hxy
        rw [decide_eq_false hxy]
        clear hxy
        go_wp2_with fail
        go_roundw
        case rel => exact ⟨k + 1, by omega, by go_num, HK2, Lib.hid (fun j y hj hy => by
          rcases Nat.lt_or_ge j k with h | h
          · exact HSM.out j y h hy
          · obtain rfl : j = k := by omega
            rw [HX.out] at hy
            cases hy
            exact fun e => HN.out e.symm)⟩
        case measure => simp [intOf]; omega
    · obtain rfl : k = ids.length := by omega
      have HM := Lib.hid (show ¬ k0 ∈ ids from fun h => by
        obtain ⟨j, hj⟩ := List.getElem?_of_mem h
        exact HSM.out j k0 (List.getElem?_eq_some_iff.1 hj).1 hj rfl)
      go_wp2_with fail
      go_ret
      exact ⟨-1, rfl, ⟨fun h => by omega, fun h => absurd h HM.out⟩, K0.out.trans HK.out (fun _ _ f => f)⟩
set_option maxRecDepth 100000 in
theorem contains_any {v : Value} {ids : List (List Int)} {k0 : List Int} {w : World} (hs : SeesI (fun _ => True) w v ids) (hl : ∀ x ∈ ids, x.length = 32) (hk : k0.length = 32) :
    Calls Try.prog 37 #[v, .agg (U8s k0).toArray] w fun e w' => e = .returned (.bool (decide (k0 ∈ ids))) ∧ Kp (fun _ => False) w w' := by
  have MB := Lib.hid (new_blk w (.cells (U8s k0).toArray 27))
  have K0 := Lib.hid ((Kp.refl (fun _ => False) w).alloc (.cells (U8s k0).toArray 27))
  have HIK := Lib.hid (info32 k0 hk)
  have HQ := Lib.hid (indexI_any (hs.kept K0.out (fun _ _ f => f)) hl hk)
  obtain ⟨a, c, rfl, hm⟩ := hs.form
  clear hs hl hk
  go_enter Try.func37, Try.ntmps37
  go_wp2_with ((with_reducible refine at_dst 6 ?_); refine wpList_load_row rfl 27 _ rfl w.heap.size rfl 27 _ (0, 0) _ MB.out Try.underlying27 rfl HIK.out ?_)
  refine HQ.out.mono ?_
  rintro e w1 ⟨i, rfl, hi, hk⟩
  have HI := Lib.hid hi
  have HK := Lib.hid (K0.out.trans hk (fun _ _ f => f))
  clear hi hk
  by_cases h0 : 0 ≤ i
  · have HD := Lib.hid (decide_eq_true (HI.out.1 h0))
    go_wp2_with fail
    go_ret
    exact ⟨by rw [HD.out]; rfl, HK.out⟩
  · have HD := Lib.hid (decide_eq_false (fun h => h0 (HI.out.2 h)))
    have h1 := decide_eq_false h0
    go_wp2_with fail
    go_ret
    exact ⟨by rw [HD.out]; rfl, HK.out⟩

/-! the two parts of a bag -/
def restV (l : List Vt) (ids : List (List Int)) : List (List Int) := (l.filter (fun x => !decide (x.id ∈ ids))).map (·.id)
theorem restV_take {l : List Vt} {k : Nat} {x : Vt} (hx : l[k]? = some x) (ids : List (List Int)) : restV (l.take (k + 1)) ids = restV (l.take k) ids ++ cond (decide (x.id ∈ ids)) [] [x.id] := by
  unfold restV
  rw [take_snoc hx, List.filter_append, List.map_append]
  cases h : decide (x.id ∈ ids) <;> simp [List.filter, h]
theorem restV_len (l : List Vt) (ids : List (List Int)) : (restV l ids).length ≤ l.length := by
  unfold restV; rw [List.length_map]; exact List.length_filter_le _ _
theorem only_rest (l : List Vt) (ids : List (List Int)) : onlyV l (restV l ids) = l.filter (fun x => !decide (x.id ∈ ids)) := by
  unfold onlyV
  refine List.filter_congr (fun x hx => ?_)
  by_cases h : x.id ∈ ids
  · have : ¬ x.id ∈ restV l ids := fun h2 => by
      obtain ⟨y, hy, e⟩ := List.mem_map.1 h2
      have := (List.mem_filter.1 hy).2
      have e' : y.id = x.id := e
      rw [e'] at this
      simp [h] at this
    simp [h, this]
  · have : x.id ∈ restV l ids := List.mem_map.2 ⟨x, List.mem_filter.2 ⟨hx, by simp [h]⟩, rfl⟩
    simp [h, this]
theorem cnt_filter (q : List Int → Bool) (k : List Int) : ∀ (l : List Vt), cntV (l.filter (fun x => q x.id)) k = cond (q k) (cntV l k) 0
  | [] => by cases q k <;> rfl
  | x :: r => by
    have ih := cnt_filter q k r
    by_cases h : q x.id = true
    · rw [List.filter_cons_of_pos (by simpa using h)]
      simp only [cntV]
      by_cases e : x.id = k
      · rw [if_pos e, if_pos e, ← e, h]; rfl
      · rw [if_neg e, if_neg e, ih]
    · rw [List.filter_cons_of_neg (by simpa using h), ih]
      simp only [cntV]
      by_cases e : x.id = k
      · have hk : q k = false := by rw [← e]; simpa using h
        rw [hk]; rfl
      · rw [if_neg e]
theorem sum_filter (p : Vt → Bool) : ∀ (l : List Vt), sumT (l.filter p) + sumT (l.filter (fun x => !p x)) = sumT l
  | [] => by simp [sumT]
  | x :: r => by
    have ih := sum_filter p r
    cases h : p x <;> simp [List.filter, h, sumT_cons] <;> omega
theorem good_filter {l : List Vt} (hv : TOk l) (hg : good l = true) (p : Vt → Bool) : good (l.filter p) = true := by
  have hs := good_sum hg
  refine rise_good (fun x hx => hv x (List.mem_filter.1 hx).1) ((good_rise hg).filter _) (fun x hx => (hs.2.2 x (List.mem_filter.1 hx).1).1) ?_
  have h1 := sum_filter p l
  have h2 := (le_sumT (l := l.filter (fun x => !p x)) (fun x hx => (hs.2.2 x (List.mem_filter.1 hx).1).1)).1
  omega
theorem parts_merge {l : List Vt} (hv : TOk l) (hg : good l = true) (p : List Int → Bool) {L : List Vt}
    (hs : Sorts (gathV (gathV [] (l.filter (fun x => p x.id))) (l.filter (fun x => !p x.id))) L) (hga : Gathd (gathV (gathV [] (l.filter (fun x => p x.id))) (l.filter (fun x => !p x.id))) (sumT (l.filter (fun x => p x.id)) + sumT (l.filter (fun x => !p x.id)))) : L = l := by
  have hrL := hs.rise hga.uq (fun x hx => (hga.nm x hx).len)
  refine rise_cnt hrL (good_rise hg) (fun x hx => ?_) (fun x hx => ?_) (fun k => ?_)
  · have := hga.pos x (hs.1.mem_iff.1 hx); omega
  · have := ((good_sum hg).2.2 x hx).1; omega
  · rw [perm_cnt hs.1 hrL.uniq, gathV_cnt _ _ _ (good_rise (good_filter hv hg _)).uniq, gathV_cnt _ _ _ (good_rise (good_filter hv hg _)).uniq, cnt_filter p, cnt_filter (fun x => !p x)]
    cases p k <;> simp [cntV]

set_option maxRecDepth 100000 in
set_option maxHeartbeats 8000000 in
theorem parts_law {v u : Value} {l : List Vt} {ids : List (List Int)} {w : World} (hs : SeesT w v l) (hv : TOk l) (hi : SeesI (fun _ => True) w u ids) (hin : ∀ y ∈ ids, y.length = 32 ∧ Rng y) :
    Calls Try.prog 8 #[v, u] w fun e w' => e = .returned (.bool true) ∧ Kp (fun _ => False) w w' := by
  have HLV := Lib.hid (fun w => liveT_any w)
  have HS := Lib.hid (fun w' (k : Kp (fun _ => False) w w') => hs.kept k)
  have HSI := Lib.hid (fun w' (k : Kp (fun _ => False) w w') => hi.kept k (fun _ _ f => f))
  have HV := Lib.hid hv
  have HNM := Lib.hid (show ∀ y ∈ ids, Nm y from fun y hy => ⟨(hin y hy).1, (hin y hy).2⟩)
  have HC0 := fun w' (k : Kp (fun _ => False) w w') => bcheck_any (hs.kept k) hv
  obtain ⟨a, c, rfl, hlc, hmax⟩ := hs.form
  obtain ⟨b, d, rfl, hmi⟩ := hi.form
  have HF := Lib.hid (fun w => few1 a l.length c w)
  by_cases hl : l.length ≤ 60
  · rw [decide_eq_true hl] at HF
    by_cases hil : ids.length ≤ 60
    · have hil' : ¬ (60 : Int) < ids.length := by omega
      cases hg : good l with
      | false =>
        rw [show chkT l = 70 by unfold chkT; rw [hg]; rfl] at HC0
        have HC := Lib.hid HC0
        clear hs hv hl hg HC0 hi hin
        go_enter Try.func8, Try.ntmps8
        go_wp2_with fail
        refine (HLV.out w).mono ?_
        rintro e w1 ⟨rfl, k1⟩
        have K1 := Lib.hid k1
        clear k1
        go_wp2_with ((with_reducible refine at_dst 16 ?_); refine wpList_slice_run rfl 43 1 _ rfl _ rfl _ _ (mkF1 a l.length c _) ?_)
        refine (HF.out w1).mono ?_
        rintro e w2 ⟨rfl, k2⟩
        have K2 := Lib.hid (K1.out.trans k2 (fun _ _ f => f))
        clear k2
        go_wp2_with fail
        refine (HC.out w2 K2.out).mono ?_
        rintro e w3 ⟨rfl, k3⟩
        have K3 := Lib.hid (K2.out.trans k3 (fun _ _ f => f))
        clear k3
        go_wp2_with fail
        refine (HLV.out w3).mono ?_
        rintro e w4 ⟨rfl, k4⟩
        have K4 := Lib.hid (K3.out.trans k4 (fun _ _ f => f))
        clear k4
        go_wp2_with fail
        go_ret
        exact ⟨rfl, K4.out⟩
      | true =>
        rw [show chkT l = 0 by unfold chkT; rw [hg]; rfl] at HC0
        have HC := Lib.hid HC0
        have HTO := Lib.hid (fun w' (k : Kp (fun _ => False) w w') => btotal_any (hs.kept k) hv)
        rw [show totT l = sumT l by unfold totT; rw [hg]; rfl] at HTO
        have HGD := Lib.hid hg
        have HGS := Lib.hid (good_sum hg)
        have HLL := Lib.hid hl
        have HIL := Lib.hid hil
        have hzv := zeroVt
        have HIV := Lib.hid (fun (x : Vt) (h : x.id.length = 32) => infoVt h)
        have HIV2 := Lib.hid (fun (x : Vt) (h : x.id.length = 32) => infoVt' h)
        clear hs hv hl hg HC0 hi hin hil
        go_enter Try.func8, Try.ntmps8
        go_wp2_with fail
        refine (HLV.out w).mono ?_
        rintro e w1 ⟨rfl, k1⟩
        have K1 := Lib.hid k1
        clear k1
        go_wp2_with ((with_reducible refine at_dst 16 ?_); refine wpList_slice_run rfl 43 1 _ rfl _ rfl _ _ (mkF1 a l.length c _) ?_)
        refine (HF.out w1).mono ?_
        rintro e w2 ⟨rfl, k2⟩
        have K2 := Lib.hid (K1.out.trans k2 (fun _ _ f => f))
        clear k2
        go_wp2_with fail
        refine (HC.out w2 K2.out).mono ?_
        rintro e w3 ⟨rfl, k3⟩
        have K3 := Lib.hid (K2.out.trans k3 (fun _ _ f => f))
        clear k3
        have hd0 : decide ((60 : Int) < ids.length) = false := decide_eq_false (by have := HIL.out; omega)
        go_wp2_with fail
        go_loopw [5, 33] (fun s i wr => ∃ k : Nat, k ≤ l.length ∧ i = .int .i64 k ∧ (∃ sa sc, s = .slice sa (restV (l.take k) ids).length sc) ∧ Hid (OwnG 27 32 wr w.heap.size s (restV (l.take k) ids).length (U8s (restV (l.take k) ids).flatten)) ∧ Hid (Kp (fun _ => False) w wr)) (fun _ i _ => l.length - (intOf i).toNat)
        case atStart => exact ⟨0, Nat.zero_le _, rfl, ⟨none, 0, rfl⟩, Lib.hid (OwnG.nil _ _ _ _), K3⟩
        case round =>
          obtain ⟨k, hk, rfl, ⟨sa, sc, rfl⟩, HO, HK⟩ := hrel
          by_cases hlt : k < l.length
          · obtain ⟨x, hx⟩ : ∃ x, l[k]? = some x := ⟨l[k], List.getElem?_eq_getElem hlt⟩
            obtain ⟨g, off, rfl, hr⟩ := (HS.out _ HK.out).at hx
            have HN := Lib.hid (tok_at HV.out hx).nm
            have HR := Lib.hid hr
            have HT := Lib.hid (restV_take hx ids)
            have HOL := Lib.hid (restV_len (l.take k) ids)
            obtain ⟨on, hon⟩ : ∃ o, o = restV (l.take k) ids := ⟨_, rfl⟩
            rw [← hon] at HO HT HOL
            rw [← hon]
            clear hr hon hx
            go_wp2_with (first
              | ((with_reducible refine at_dst 36 ?_); refine wpList_load_mid rfl 33 _ rfl g (off + k * 33) rfl (vtC x) _ HR.out Try.underlying33 rfl (HIV.out x HN.out.len) ?_)
              | ((with_reducible refine at_store 7 36 ?_); refine st_fresh rfl 33 _ _ rfl (vtC x).toArray rfl rfl 33 _ (HIV2.out x HN.out.len) (vt_same (by decide) HN.out.len) (vtC_all x) ?_; intro u2 k2 m2 s2; have M2 := Lib.hid m2; have K2 := Lib.hid k2; have RU := Lib.hid (range_pre (range_blk m2) : u2.rangeAt wr.heap.size 0 (U8s x.id)); clear k2 m2 s2)
              | ((with_reducible refine at_dst 39 ?_); refine wpList_load_mid rfl 27 _ rfl wr.heap.size 0 rfl (U8s x.id) _ RU.out Try.underlying27 rfl (infoIdL HN.out.len) ?_))
            refine (contains_any (HSI.out _ (HK.out.trans K2.out (fun _ _ f => f))) (fun y hy => (HNM.out y hy).len) HN.out.len).mono ?_
            rintro e u3 ⟨rfl, k3⟩
            have K3 := Lib.hid (K2.out.trans k3 (fun _ _ f => f))
            have RU3 := Lib.hid (range_kp RU.out k3 (fun f => f))
            clear k3
            by_cases hin : x.id ∈ ids
            · rw [decide_eq_true hin] at HT
              rw [decide_eq_true hin]
              clear hin
              go_wp2_with fail
              go_roundw
              case rel => exact ⟨k + 1, by omega, by go_num, ⟨sa, sc, by rw [HT.out]; simp⟩, Lib.hid (by rw [HT.out]; simpa using HO.out.kept K3.out (fun _ _ f => f)), Lib.hid (HK.out.trans K3.out (fun _ _ f => f))⟩
              case measure => simp [intOf]; omega
            · rw [decide_eq_false hin] at HT
              rw [decide_eq_false hin]
              clear hin
              obtain ⟨v', u4, hap, ho4, hk4, _⟩ := app_own Try.underlying23 infoIdG zId_size (w := u3.alloc (.cells (U8s x.id).toArray 27)) (B := w.heap.size) (n := on.length) (k := 1) (by rw [World.size_alloc]; have := HK.out.size; have := K3.out.size; omega) ((HO.out.kept K3.out (fun _ _ f => f)).kept (k := (Kp.refl (fun _ => False) _).alloc _) (fun _ _ f => f)) (src_id x.id HN.out.len (new_blk u3 _)) (by omega) (by have := HLL.out; have := HOL.out; rw [List.length_take] at this; omega) (by omega)
              have HO4 := Lib.hid ho4
              have HK4 := Lib.hid hk4
              clear ho4 hk4
              go_wp2_with (first
                | ((with_reducible refine at_dst 44 ?_); refine wpList_load_mid rfl 27 _ rfl wr.heap.size 0 rfl (U8s x.id) _ RU3.out Try.underlying27 rfl (infoIdL HN.out.len) ?_)
                | ((with_reducible refine at_dst 45 ?_); refine wpList_slice_run rfl 23 1 _ rfl _ rfl _ _ (mkI1 x.id HN.out.len _) ?_)
                | (at_builtin; refine Lib.wpList_append_run _ rfl _ _ _ _ rfl _ _ rfl rfl _ _ (hap _) ?_))
              go_roundw
              case rel =>
                obtain ⟨a4, c4, rfl⟩ := HO4.out.form
                exact ⟨k + 1, by omega, by go_num, ⟨a4, c4, by rw [HT.out, List.length_append]; rfl⟩, Lib.hid (by rw [HT.out, List.flatten_append, U8s_append, List.length_append, show U8s (cond false [] [x.id] : List (List Int)).flatten = U8s x.id by simp]; exact HO4.out), Lib.hid (((HK.out.trans K3.out (fun _ _ f => f)).alloc _).trans HK4.out (fun y hy e => by
                  have := (HO.out.lt _ e).1
                  omega))⟩
              case measure => simp [intOf]; omega
          · obtain rfl : k = l.length := by omega
            rw [List.take_length] at HO
            rw [List.take_length]
            have hrnm : ∀ y ∈ restV l ids, Nm y := fun y hy => by
              obtain ⟨z, hz, rfl⟩ := List.mem_map.1 hy
              exact (HV.out z (List.mem_filter.1 hz).1).nm
            have HRS := Lib.hid (fun w' (k : Kp (fun _ => False) wr w') => ((own_seesI (fun y hy => (hrnm y hy).len) HO.out).mono (A' := fun _ => True) (fun _ _ _ => trivial) (fun y hy => (hrnm y hy).len)).kept k (fun _ _ f => f))
            have HRN := Lib.hid hrnm
            have HRL := Lib.hid (restV_len l ids)
            have HOR := Lib.hid (only_rest l ids)
            obtain ⟨rs, hrs⟩ : ∃ r, r = restV l ids := ⟨_, rfl⟩
            rw [← hrs] at HRS HRN HRL HOR
            rw [← hrs]
            clear hrnm hrs
            go_wp2_with fail
            refine (bonly_any (HS.out _ HK.out) HV.out (by have := HLL.out; omega) (HSI.out _ HK.out) HNM.out (by have := HIL.out; omega)).mono ?_
            rintro e w5 ⟨v5, rfl, ho5, k5⟩
            have K5 := Lib.hid (HK.out.trans k5 (fun _ _ f => f))
            have HO5 := Lib.hid ho5
            have HRS5 := Lib.hid (HRS.out _ k5)
            obtain ⟨a5, c5, rfl⟩ := ho5.form
            clear ho5 k5
            go_wp2_with fail
            refine (bonly_any (HS.out _ K5.out) HV.out (by have := HLL.out; omega) HRS5.out HRN.out (by have := HLL.out; have := HRL.out; omega)).mono ?_
            rintro e w6 ⟨v6, rfl, ho6, k6⟩
            have K6 := Lib.hid (K5.out.trans k6 (fun _ _ f => f))
            rw [bagged_good HGD.out, HOR.out] at ho6
            have ho5' := HO5.out.kept k6 (fun _ _ f => f)
            rw [bagged_good HGD.out, show onlyV l ids = l.filter (fun x => decide (x.id ∈ ids)) from rfl] at ho5'
            have HA := Lib.hid (fun w' (k : Kp (fun _ => False) w6 w') => (ho5'.seesT (fun y hy => (HV.out y (List.mem_filter.1 hy).1).nm.len)).kept k)
            have HB := Lib.hid (fun w' (k : Kp (fun _ => False) w6 w') => (ho6.seesT (fun y hy => (HV.out y (List.mem_filter.1 hy).1).nm.len)).kept k)
            rw [bagged_good HGD.out, show onlyV l ids = l.filter (fun x => decide (x.id ∈ ids)) from rfl]
            have HLA := Lib.hid (show (l.filter (fun x => decide (x.id ∈ ids))).length ≤ 400 from Nat.le_trans (List.length_filter_le _ _) (by have := HLL.out; omega))
            have HLB := Lib.hid (show (l.filter (fun x => !decide (x.id ∈ ids))).length ≤ 400 from Nat.le_trans (List.length_filter_le _ _) (by have := HLL.out; omega))
            have HPM := Lib.hid (fun (L : List Vt) h1 h2 => parts_merge HV.out HGD.out (fun y => decide (y ∈ ids)) (L := L) h1 h2)
            have HSF := Lib.hid (sum_filter (fun x => decide (x.id ∈ ids)) l)
            have HGA := Lib.hid (good_filter HV.out HGD.out (fun x => decide (x.id ∈ ids)))
            have HGB := Lib.hid (good_filter HV.out HGD.out (fun x => !decide (x.id ∈ ids)))
            have HVA := Lib.hid (show TOk (l.filter (fun x => decide (x.id ∈ ids))) from fun y hy => HV.out y (List.mem_filter.1 hy).1)
            have HVB := Lib.hid (show TOk (l.filter (fun x => !decide (x.id ∈ ids))) from fun y hy => HV.out y (List.mem_filter.1 hy).1)
            obtain ⟨PA, hPA⟩ : ∃ p, p = l.filter (fun x => decide (x.id ∈ ids)) := ⟨_, rfl⟩
            obtain ⟨PB, hPB⟩ : ∃ p, p = l.filter (fun x => !decide (x.id ∈ ids)) := ⟨_, rfl⟩
            rw [← hPA] at HA HLA HPM HSF HGA HVA
            rw [← hPB] at HB HLB HPM HSF HGB HVB
            rw [← hPA]
            rw [← hPB] at ho6
            obtain ⟨a6, c6, rfl⟩ := ho6.form
            have HSA := Lib.hid (good_sum HGA.out)
            have HSB := Lib.hid (good_sum HGB.out)
            clear ho5' ho6 k6 hPA hPB
            go_wp2_with fail
            have hms := bmerge_any (HA.out _ (Kp.refl _ _)) (HB.out _ (Kp.refl _ _)) HVA.out HVB.out HLA.out HLB.out
            rw [show mrgE PA PB = 0 by unfold mrgE; rw [HGA.out, HGB.out, decide_eq_true (by have := HSF.out; have := HGS.out.2.1; omega)]; rfl] at hms
            refine hms.mono ?_
            rintro e w7 ⟨v7, L, rfl, h1, _, h3, k7⟩
            obtain rfl := (HPM.out L (h1 rfl).1 (h1 rfl).2).symm
            have K7 := Lib.hid (K6.out.trans k7 (fun _ _ f => f))
            have HL7 := Lib.hid h3.1
            have HA7 := Lib.hid (HA.out _ k7)
            have HB7 := Lib.hid (HB.out _ k7)
            obtain ⟨a7, c7, rfl, _⟩ := h3.1.form
            clear h1 h3 k7 hms
            go_wp2_with fail
            have hsm := bsame_any HL7.out (HS.out _ K7.out) (fun y hy => (HV.out y hy).nm.len) (fun y hy => (HV.out y hy).nm.len)
            rw [decide_eq_true (show l = l from rfl)] at hsm
            refine hsm.mono ?_
            rintro e w8 ⟨rfl, k8⟩
            have K8 := Lib.hid (K7.out.trans k8 (fun _ _ f => f))
            have HA8 := Lib.hid (HA7.out.kept k8)
            have HB8 := Lib.hid (HB7.out.kept k8)
            clear k8 hsm
            go_wp2_with fail
            have hta := btotal_any HA8.out HVA.out
            rw [show totT PA = sumT PA by unfold totT; rw [HGA.out]; rfl] at hta
            refine hta.mono ?_
            rintro e w9 ⟨rfl, k9⟩
            have K9 := Lib.hid (K8.out.trans k9 (fun _ _ f => f))
            have HB9 := Lib.hid (HB8.out.kept k9)
            clear k9 hta
            go_wp2_with fail
            have htb := btotal_any HB9.out HVB.out
            rw [show totT PB = sumT PB by unfold totT; rw [HGB.out]; rfl] at htb
            refine htb.mono ?_
            rintro e w10 ⟨rfl, k10⟩
            have K10 := Lib.hid (K9.out.trans k10 (fun _ _ f => f))
            clear k10 htb
            go_wp2_with fail
            refine (HTO.out _ K10.out).mono ?_
            rintro e w11 ⟨rfl, k11⟩
            have K11 := Lib.hid (K10.out.trans k11 (fun _ _ f => f))
            clear k11
            have s1 := HSA.out.1
            have s2 := HSA.out.2.1
            have s3 := HSB.out.1
            have s4 := HSB.out.2.1
            have s5 : sumT PA + sumT PB = sumT l := HSF.out
            generalize sumT PA = ta at s1 s2 s5 ⊢
            generalize sumT PB = tb at s3 s4 s5 ⊢
            generalize sumT l = tl at s5 ⊢
            subst s5
            go_wp2_with fail
            go_ret
            exact ⟨by (have hw : wrap64 (ta + tb) = ta + tb := by unfold wrap64; omega); rw [hw, show (ta + tb == ta + tb) = true from by simp]; rfl, K11.out⟩
    · have hil' : (60 : Int) < ids.length := by omega
      clear hs hv hl HC0 hi hin
      go_enter Try.func8, Try.ntmps8
      go_wp2_with fail
      refine (HLV.out w).mono ?_
      rintro e w1 ⟨rfl, k1⟩
      have K1 := Lib.hid k1
      clear k1
      go_wp2_with ((with_reducible refine at_dst 16 ?_); refine wpList_slice_run rfl 43 1 _ rfl _ rfl _ _ (mkF1 a l.length c _) ?_)
      refine (HF.out w1).mono ?_
      rintro e w2 ⟨rfl, k2⟩
      have K2 := Lib.hid (K1.out.trans k2 (fun _ _ f => f))
      clear k2
      go_wp2_with fail
      refine (HLV.out w2).mono ?_
      rintro e w3 ⟨rfl, k3⟩
      have K3 := Lib.hid (K2.out.trans k3 (fun _ _ f => f))
      clear k3
      go_wp2_with fail
      go_ret
      exact ⟨rfl, K3.out⟩
  · rw [decide_eq_false hl] at HF
    clear hs hv hl HC0 hi hin
    go_enter Try.func8, Try.ntmps8
    go_wp2_with fail
    refine (HLV.out w).mono ?_
    rintro e w1 ⟨rfl, k1⟩
    have K1 := Lib.hid k1
    clear k1
    go_wp2_with ((with_reducible refine at_dst 16 ?_); refine wpList_slice_run rfl 43 1 _ rfl _ rfl _ _ (mkF1 a l.length c _) ?_)
    refine (HF.out w1).mono ?_
    rintro e w2 ⟨rfl, k2⟩
    have K2 := Lib.hid (K1.out.trans k2 (fun _ _ f => f))
    clear k2
    go_wp2_with fail
    refine (HLV.out w2).mono ?_
    rintro e w3 ⟨rfl, k3⟩
    have K3 := Lib.hid (K2.out.trans k3 (fun _ _ f => f))
    clear k3
    go_wp2_with fail
    go_ret
    exact ⟨rfl, K3.out⟩
end Go.Proofs.Ytoeinolekpmbbaa
