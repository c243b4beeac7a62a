/-
  Package bag's Mode.
-/
import Derived.Test.YtoeinolekpmbbaaFh
import Derived.BigRegion
import Derived.Deep.DeepCutAuto
namespace Go.Proofs.Ytoeinolekpmbbaa
open Go.ChangeShapes Go.WideShapes Go.ChangeAt Go.RowKit

/-- the one with the most, of several the first -/
def bestV (b : Vt) : List Vt → Vt
  | [] => b
  | x :: r => bestV (if b.n < x.n then x else b) r
def modeV (l : List Vt) : Vt := bestV vt0 (bagged l)
theorem bestV_append (a c : List Vt) : ∀ b, bestV b (a ++ c) = bestV (bestV b a) c := by
  induction a with
  | nil => intro b; rfl
  | cons x r ih => intro b; exact ih _
theorem bestV_take {l : List Vt} {k : Nat} {x : Vt} (hx : l[k]? = some x) (b : Vt) : bestV b (l.take (k + 1)) = if (bestV b (l.take k)).n < x.n then x else bestV b (l.take k) := by
  rw [take_snoc hx, bestV_append]; rfl
theorem bestV_mem : ∀ (l : List Vt) (b : Vt), bestV b l = b ∨ bestV b l ∈ l
  | [], b => .inl rfl
  | x :: r, b => by
    rcases bestV_mem r (if b.n < x.n then x else b) with h | h
    · rw [bestV, h]
      by_cases hb : b.n < x.n
      · right; rw [if_pos hb]; exact List.mem_cons_self ..
      · left; rw [if_neg hb]
    · right; exact List.mem_cons_of_mem _ h
theorem bestV_wf {l : List Vt} (h : TOk l) {b : Vt} (hb : b.wf) : (bestV b l).wf := by
  rcases bestV_mem l b with e | e
  · rw [e]; exact hb
  · exact h _ e
theorem bestV_ge : ∀ (l : List Vt) (b : Vt), b.n ≤ (bestV b l).n ∧ ∀ x ∈ l, x.n ≤ (bestV b l).n
  | [], b => ⟨Int.le_refl _, fun x h => by cases h⟩
  | y :: r, b => by
    obtain ⟨h1, h2⟩ := bestV_ge r (if b.n < y.n then y else b)
    have hb : b.n ≤ (if b.n < y.n then y else b).n ∧ y.n ≤ (if b.n < y.n then y else b).n := by
      by_cases h : b.n < y.n
      · rw [if_pos h]; omega
      · rw [if_neg h]; omega
    refine ⟨Int.le_trans hb.1 h1, fun x hx => ?_⟩
    rcases List.mem_cons.1 hx with e | hx
    · rw [e]; exact Int.le_trans hb.2 h1
    · exact h2 x hx
/-- results: an array that lies in a block, and a slot -/
theorem results_box_tmp {P : Program} {fn : Func} {p q : Tmp} {ty : TypeId} (h : fn.results = #[.cell p ty, .tmp q]) (tmps : Array Value) (w : World) (g : Nat) (t : TypeId) (cs : Array Value) (fr : Nat × Nat) (d : TypeDesc) (e : Value)
    (hp : tmps.getD p undef = .pointer (some ⟨g, 0, none⟩)) (hq : tmps.getD q undef = e) (hg : w.heap[g]? = some (.cells cs t fr))
    (hu : P.underlying ty = some d) (hd : (match d with | .struct _ | .array _ _ => true | _ => false) = true) (hi : (P.info? ty).map (·.size) = some cs.size) :
    (results fn tmps).run P w = .ok (.tuple #[.agg cs, e]) w := by
  have hp' : tmps[p]?.getD undef = .pointer (some ⟨g, 0, none⟩) := by simpa using hp
  have hq' : tmps[q]?.getD undef = e := by simpa using hq
  simp [results, h, hp', hq', asAddr, run_loadVar_row w g t ty cs fr d hg hu hd hi]
theorem bagged_ok {l : List Vt} (h : TOk l) : TOk (bagged l) := fun x hx => h x (bagged_sub hx)
theorem vt0_nm : Nm vt0.id := vt0_wf.nm

set_option maxRecDepth 100000 in
set_option maxHeartbeats 3200000 in
theorem bmode_any {v : Value} {l : List Vt} {w : World} (hs : SeesT w v l) (hv : TOk l) :
    Calls Try.prog 26 #[v] w fun e w' => e = .returned (.tuple #[.agg (U8s (modeV l).id).toArray, .int .i64 (modeV l).n]) ∧ Kp (fun _ => False) w w' := by
  have HQ := Lib.hid (fun w' (k : Kp (fun _ => False) w w') => bcheck_any (hs.kept k) hv)
  have hz := zeroVt
  have hzi : ∀ w, (zeroValue 27).run Try.prog w = .ok (.agg (U8s (List.replicate 32 0)).toArray) w := fun w => by kernel_rfl
  have HI := Lib.hid (fun (x : Vt) (h : x.id.length = 32) => infoVt h)
  have HI2 := Lib.hid (fun (x : Vt) (h : x.id.length = 32) => infoVt' h)
  have HIDL := Lib.hid (fun (x : List Int) (h : x.length = 32) => infoIdL h)
  have K1 := Lib.hid ((Kp.refl (fun _ => False) w).alloc (.cells (U8s (List.replicate 32 0)).toArray 27))
  have MR := Lib.hid (new_blk w (.cells (U8s (List.replicate 32 0)).toArray 27))
  cases hg : good l with
  | false =>
    have hc : chkT l = 70 := by unfold chkT; rw [hg]; rfl
    have hm : modeV l = vt0 := by unfold modeV bagged; rw [hg]; rfl
    obtain ⟨a, c, rfl, _⟩ := hs.form
    rw [hc] at HQ
    rw [hm]
    clear hs hv hg hc hm
    go_enter Try.func26, Try.ntmps26
    go_wp2_with fail
    refine (HQ.out _ K1.out).mono ?_
    rintro e w1 ⟨rfl, k1⟩
    have MR1 := Lib.hid (kept_blk MR.out k1 (fun f => f))
    have KK := Lib.hid (K1.out.trans k1 (fun _ _ f => f))
    clear k1
    go_wp2_with ((with_reducible refine at_store 2 10 ?_); refine wpList_store_row rfl 27 _ _ rfl w.heap.size (U8s (List.replicate 32 0)).toArray rfl rfl 27 _ MR1.out (info32 (List.replicate 32 0) (by simp)) rfl (all_oneCell_toArray (U8s_one _)) ?_)
    exact bodyPost_ret (v := .tuple #[.agg (U8s vt0.id).toArray, .int .i64 vt0.n]) (results_box_tmp Try.results26 _ _ w.heap.size 27 _ (0, 0) _ _ rfl rfl (st_row_blk MR1.out) Try.underlying27 rfl (info32 (List.replicate 32 0) (by simp))) rfl ⟨rfl, st_row_kp KK.out (fun hlt => by omega) _⟩
  | true =>
    have hc : chkT l = 0 := by unfold chkT; rw [hg]; rfl
    have hm : modeV l = bestV vt0 l := by unfold modeV bagged; rw [hg]; rfl
    have HS := Lib.hid (fun w' (k : Kp (fun _ => False) w w') => hs.kept k)
    have HV := Lib.hid hv
    obtain ⟨a, c, rfl, hlc, hmax⟩ := hs.form
    rw [hc] at HQ
    rw [hm]
    obtain ⟨bv, hbv⟩ : ∃ b, b = bestV vt0 l := ⟨_, rfl⟩
    rw [← hbv]
    have HBV := Lib.hid hbv
    have HBN := Lib.hid (show Nm bv.id by rw [hbv]; exact (bestV_wf hv vt0_wf).nm)
    clear hs hv hg hc hm hbv
    go_enter Try.func26, Try.ntmps26
    go_wp2_with fail
    refine (HQ.out _ K1.out).mono ?_
    rintro e w1 ⟨rfl, k1⟩
    have MR1 := Lib.hid (kept_blk (kept_blk MR.out k1 (fun f => f)) ((Kp.refl (fun _ => False) w1).alloc (.cells (vtC vt0).toArray 33)) (fun f => f))
    have KK := Lib.hid ((K1.out.trans k1 (fun _ _ f => f)).alloc (.cells (vtC vt0).toArray 33))
    have MB := Lib.hid (new_blk w1 (.cells (vtC vt0).toArray 33))
    have hbw := (K1.out.trans k1 (fun _ _ f => f)).size
    have hbw1 : w.heap.size < w1.heap.size := lt_of_blk (kept_blk MR.out k1 (fun f => f))
    have HBW := Lib.hid hbw1
    clear k1 hbw hbw1
    go_wp2_with fail
    go_loopw [13] (fun i wr => ∃ k : Nat, k ≤ l.length ∧ i = .int .i64 k ∧ Hid (wr.heap[w1.heap.size]? = some (.cells (vtC (bestV vt0 (l.take k))).toArray 33 (0, 0))) ∧ Hid (wr.heap[w.heap.size]? = some (.cells (U8s (List.replicate 32 0)).toArray 27 (0, 0))) ∧ Hid (Kp (fun _ => False) w wr)) (fun i _ => l.length - (intOf i).toNat)
    case atStart => exact ⟨0, Nat.zero_le _, rfl, MB, MR1, KK⟩
    case round =>
      obtain ⟨k, hk, rfl, HM, HRES, HK⟩ := hrel
      obtain ⟨bm, hbm⟩ : ∃ b, b = w1.heap.size := ⟨_, rfl⟩
      rw [← hbm] at HM HBW ⊢
      clear hbm
      by_cases hlt : k < l.length
      · obtain ⟨x, hx⟩ : ∃ x, l[k]? = some x := ⟨l[k], List.getElem?_eq_getElem hlt⟩
        obtain ⟨g, off, rfl, hr⟩ := (HS.out _ HK.out).at hx
        have HN := Lib.hid (tok_at HV.out hx).nm
        have HR := Lib.hid hr
        have HT := Lib.hid (bestV_take hx vt0)
        obtain ⟨best, hbe⟩ : ∃ b, b = bestV vt0 (l.take k) := ⟨_, rfl⟩
        have HBN := Lib.hid (show Nm best.id by rw [hbe]; exact (bestV_wf (fun y hy => HV.out y (List.mem_of_mem_take hy)) vt0_wf).nm)
        rw [← hbe] at HM HT
        clear hr hx hbe
        by_cases hlt2 : best.n < x.n
        · have HT2 := Lib.hid (show bestV vt0 (l.take (k + 1)) = x by rw [HT.out, if_pos hlt2])
          go_wp2_with (first
            | ((with_reducible refine at_dst 16 ?_); refine wpList_load_mid rfl 33 _ rfl g (off + k * 33) rfl (vtC x) _ HR.out Try.underlying33 rfl (HI.out x HN.out.len) ?_)
            | ((with_reducible refine at_store 6 16 ?_); refine st_fresh rfl 33 _ _ rfl (vtC x).toArray rfl rfl 33 _ (HI2.out x HN.out.len) (vt_same (by decide) HN.out.len) (vtC_all x) ?_; intro w2 k2 m2 s2; have c32 : w2.cell? ⟨wr.heap.size, 32, none⟩ = some (.int .i64 x.n) := (cell_blk m2 32).trans (by rw [List.getElem?_toArray]; exact vt_n HN.out.len); have b32 : w2.cell? ⟨bm, 32, none⟩ = some (.int .i64 best.n) := (cell_blk (kept_blk HM.out k2 (fun f => f)) 32).trans (by rw [List.getElem?_toArray]; exact vt_n HBN.out.len); have M2 := Lib.hid m2; have MB2 := Lib.hid (kept_blk HM.out k2 (fun f => f)); have MR2 := Lib.hid (kept_blk HRES.out k2 (fun f => f)); have K2 := Lib.hid (HK.out.trans k2 (fun _ _ f => f)); clear m2 s2 k2)
            | ((with_reducible refine at_dst 22 ?_); refine wpList_load_row rfl 33 _ rfl wr.heap.size rfl 33 _ (0, 0) _ M2.out Try.underlying33 rfl (HI2.out x HN.out.len) ?_)
            | ((with_reducible refine at_store 4 22 ?_); refine wpList_store_row rfl 33 _ _ rfl bm (vtC x).toArray rfl rfl 33 _ MB2.out (HI2.out x HN.out.len) (vt_same HBN.out.len HN.out.len) (vtC_all x) ?_))
          go_roundw
          case rel => exact ⟨k + 1, by omega, by go_num, Lib.hid (by rw [HT2.out]; exact st_row_blk MB2.out), Lib.hid (by
            refine kept_blk MR2.out (st_row_kp (F := fun y => y = bm) (Kp.refl _ _) (fun _ => rfl) _) (fun e => ?_)
            have := HBW.out
            omega), Lib.hid (st_row_kp K2.out (fun hlt => by have := HBW.out; omega) _)⟩
          case measure => simp [intOf]; omega
        · have HT2 := Lib.hid (show bestV vt0 (l.take (k + 1)) = best by rw [HT.out, if_neg hlt2])
          go_wp2_with (first
            | ((with_reducible refine at_dst 16 ?_); refine wpList_load_mid rfl 33 _ rfl g (off + k * 33) rfl (vtC x) _ HR.out Try.underlying33 rfl (HI.out x HN.out.len) ?_)
            | ((with_reducible refine at_store 6 16 ?_); refine st_fresh rfl 33 _ _ rfl (vtC x).toArray rfl rfl 33 _ (HI2.out x HN.out.len) (vt_same (by decide) HN.out.len) (vtC_all x) ?_; intro w2 k2 m2 s2; have c32 : w2.cell? ⟨wr.heap.size, 32, none⟩ = some (.int .i64 x.n) := (cell_blk m2 32).trans (by rw [List.getElem?_toArray]; exact vt_n HN.out.len); have b32 : w2.cell? ⟨bm, 32, none⟩ = some (.int .i64 best.n) := (cell_blk (kept_blk HM.out k2 (fun f => f)) 32).trans (by rw [List.getElem?_toArray]; exact vt_n HBN.out.len); have M2 := Lib.hid m2; have MB2 := Lib.hid (kept_blk HM.out k2 (fun f => f)); have MR2 := Lib.hid (kept_blk HRES.out k2 (fun f => f)); have K2 := Lib.hid (HK.out.trans k2 (fun _ _ f => f)); clear m2 s2 k2))
          go_roundw
          case rel => exact ⟨k + 1, by omega, by go_num, Lib.hid (by rw [HT2.out]; exact MB2.out), MR2, K2⟩
          case measure => simp [intOf]; omega
      · obtain rfl : k = l.length := by omega
        rw [List.take_length] at HM
        rw [← HBV.out] at HM
        go_upto_region 10 with fail
        refine wp_region_any (by kernel_rfl) ?_
        try (change wpAny _ _ _ _ _ _ _ (World.drew _))
        refine wpAny_take (i := 0) (v := ?_) rfl (by kernel_rfl) (by kernel_rfl) (by kernel_rfl) (fun _ _ _ h => h) (Or.inl ⟨by rfl, ?_⟩) ?_
        rotate_left
        · intro w; go_simp; try with_reducible rfl
        try simp only [Act.put, List.getElem_toArray, List.getElem_cons_zero, List.setIfInBounds_toArray, List.set_cons_zero, List.set_cons_succ]
        refine wpAny_take (i := 2) (v := ?_) rfl (by kernel_rfl) (by kernel_rfl) (by kernel_rfl) (fun _ _ _ h => h) (Or.inl ⟨by rfl, ?_⟩) ?_
        rotate_left
        · intro w; go_simp; try with_reducible rfl
        try simp only [Act.put, List.getElem_toArray, List.getElem_cons_succ, List.getElem_cons_zero, List.setIfInBounds_toArray, List.set_cons_zero, List.set_cons_succ]
        have RB := Lib.hid (range_pre (range_blk (show wr.drew.heap[bm]? = _ from HM.out)) : World.rangeAt wr.drew bm 0 (U8s bv.id))
        have HR3 := Lib.hid (show wr.drew.heap[w.heap.size]? = _ from HRES.out)
        have c32 : wr.drew.cell? ⟨bm, 32, none⟩ = some (.int .i64 bv.n) := (cell_blk (show wr.drew.heap[bm]? = _ from HM.out) 32).trans (by rw [List.getElem?_toArray]; exact vt_n HBN.out.len)
        refine wpAny_ready (rs := [1, 3]) (by kernel_rfl) (by simp) ?_
        refine BigFrame.allReady_want rfl (by kernel_rfl) (fun K hK => ?_) (BigFrame.allReady_want rfl (by kernel_rfl) (fun K hK => ?_) AllReady.nil)
        · refine wp_load_mid 27 _ rfl bm 0 rfl (U8s bv.id) _ RB.out Try.underlying27 rfl (infoIdL HBN.out.len) ?_
          refine hK _ _ ?_; clear hK K
          try simp only [Act.put, List.getElem_toArray, List.getElem_cons_succ, List.getElem_cons_zero, List.setIfInBounds_toArray, List.set_cons_zero, List.set_cons_succ]
          refine wpAny_ready (rs := [3, 4]) (by kernel_rfl) (by simp) ?_
          refine BigFrame.allReady_want rfl (by kernel_rfl) (fun K hK => ?_) (BigFrame.allReady_want rfl (by kernel_rfl) (fun K hK => ?_) AllReady.nil)
          · go_simp
            refine hK _ _ ?_; clear hK K
            try simp only [Act.put, List.getElem_toArray, List.getElem_cons_succ, List.getElem_cons_zero, List.setIfInBounds_toArray, List.set_cons_zero, List.set_cons_succ]
            refine wpAny_ready (rs := [4]) (by kernel_rfl) (by simp) ?_
            refine BigFrame.allReady_want rfl (by kernel_rfl) (fun K hK => ?_) AllReady.nil
            refine wp_store_row 27 _ _ rfl w.heap.size (U8s bv.id).toArray rfl rfl 27 _ HR3.out (info32 bv.id HBN.out.len) (by simp [U8s_length, HBN.out.len]) (all_oneCell_toArray (U8s_one _)) ?_
            refine hK _ _ ?_; clear hK K
            try simp only [Act.put]
            refine wpAny_take (i := 5) (v := ?_) rfl (by kernel_rfl) (by kernel_rfl) (by kernel_rfl) (fun _ _ _ h => h) (Or.inl ⟨by rfl, ?_⟩) ?_
            rotate_left
            · intro w; go_simp; try with_reducible rfl
            try simp only [Act.put, List.getElem_toArray, List.getElem_cons_succ, List.getElem_cons_zero, List.setIfInBounds_toArray, List.set_cons_zero, List.set_cons_succ]
            refine wpAny_done (by kernel_rfl) ?_ _
            go_wp2_with fail
            exact bodyPost_ret (v := .tuple #[.agg (U8s bv.id).toArray, .int .i64 bv.n]) (results_box_tmp Try.results26 _ _ w.heap.size 27 _ (0, 0) _ _ rfl rfl (st_row_blk HR3.out) Try.underlying27 rfl (info32 bv.id HBN.out.len)) rfl ⟨rfl, st_row_kp HK.out.drew (fun hlt => by omega) _⟩
          · refine wp_store_row 27 _ _ rfl w.heap.size (U8s bv.id).toArray rfl rfl 27 _ HR3.out (info32 bv.id HBN.out.len) (by simp [U8s_length, HBN.out.len]) (all_oneCell_toArray (U8s_one _)) ?_
            refine hK _ _ ?_; clear hK K
            try simp only [Act.put]
            have c33 : (wr.drew.setRow w.heap.size (U8s bv.id).toArray).cell? ⟨bm, 32, none⟩ = some (.int .i64 bv.n) := (cell_blk (kept_blk (show wr.drew.heap[bm]? = _ from HM.out) (st_row_kp (F := fun y => y = w.heap.size) (Kp.refl _ _) (fun _ => rfl) _) (fun e => by have := HBW.out; omega)) 32).trans (by rw [List.getElem?_toArray]; exact vt_n HBN.out.len)
            refine wpAny_ready (rs := [3]) (by kernel_rfl) (by simp) ?_
            refine BigFrame.allReady_want rfl (by kernel_rfl) (fun K hK => ?_) AllReady.nil
            go_simp
            refine hK _ _ ?_; clear hK K
            try simp only [Act.put, List.getElem_toArray, List.getElem_cons_succ, List.getElem_cons_zero, List.setIfInBounds_toArray, List.set_cons_zero, List.set_cons_succ]
            refine wpAny_take (i := 5) (v := ?_) rfl (by kernel_rfl) (by kernel_rfl) (by kernel_rfl) (fun _ _ _ h => h) (Or.inl ⟨by rfl, ?_⟩) ?_
            rotate_left
            · intro w; go_simp; try with_reducible rfl
            try simp only [Act.put, List.getElem_toArray, List.getElem_cons_succ, List.getElem_cons_zero, List.setIfInBounds_toArray, List.set_cons_zero, List.set_cons_succ]
            refine wpAny_done (by kernel_rfl) ?_ _
            go_wp2_with fail
            exact bodyPost_ret (v := .tuple #[.agg (U8s bv.id).toArray, .int .i64 bv.n]) (results_box_tmp Try.results26 _ _ w.heap.size 27 _ (0, 0) _ _ rfl rfl (st_row_blk HR3.out) Try.underlying27 rfl (info32 bv.id HBN.out.len)) rfl ⟨rfl, st_row_kp HK.out.drew (fun hlt => by omega) _⟩
        · go_simp
          refine hK _ _ ?_; clear hK K
          try simp only [Act.put, List.getElem_toArray, List.getElem_cons_succ, List.getElem_cons_zero, List.setIfInBounds_toArray, List.set_cons_zero, List.set_cons_succ]
          refine wpAny_ready (rs := [1]) (by kernel_rfl) (by simp) ?_
          refine BigFrame.allReady_want rfl (by kernel_rfl) (fun K hK => ?_) AllReady.nil
          refine wp_load_mid 27 _ rfl bm 0 rfl (U8s bv.id) _ RB.out Try.underlying27 rfl (infoIdL HBN.out.len) ?_
          refine hK _ _ ?_; clear hK K
          try simp only [Act.put, List.getElem_toArray, List.getElem_cons_succ, List.getElem_cons_zero, List.setIfInBounds_toArray, List.set_cons_zero, List.set_cons_succ]
          refine wpAny_ready (rs := [4]) (by kernel_rfl) (by simp) ?_
          refine BigFrame.allReady_want rfl (by kernel_rfl) (fun K hK => ?_) AllReady.nil
          refine wp_store_row 27 _ _ rfl w.heap.size (U8s bv.id).toArray rfl rfl 27 _ HR3.out (info32 bv.id HBN.out.len) (by simp [U8s_length, HBN.out.len]) (all_oneCell_toArray (U8s_one _)) ?_
          refine hK _ _ ?_; clear hK K
          try simp only [Act.put]
          refine wpAny_take (i := 5) (v := ?_) rfl (by kernel_rfl) (by kernel_rfl) (by kernel_rfl) (fun _ _ _ h => h) (Or.inl ⟨by rfl, ?_⟩) ?_
          rotate_left
          · intro w; go_simp; try with_reducible rfl
          try simp only [Act.put, List.getElem_toArray, List.getElem_cons_succ, List.getElem_cons_zero, List.setIfInBounds_toArray, List.set_cons_zero, List.set_cons_succ]
          refine wpAny_done (by kernel_rfl) ?_ _
          go_wp2_with fail
          exact bodyPost_ret (v := .tuple #[.agg (U8s bv.id).toArray, .int .i64 bv.n]) (results_box_tmp Try.results26 _ _ w.heap.size 27 _ (0, 0) _ _ rfl rfl (st_row_blk HR3.out) Try.underlying27 rfl (info32 bv.id HBN.out.len)) rfl ⟨rfl, st_row_kp HK.out.drew (fun hlt => by omega) _⟩
end Go.Proofs.Ytoeinolekpmbbaa
