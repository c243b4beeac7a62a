/-
  Votes in memory: slices that show them; package bag's compare, Less, sum, Check, Total.
-/
import Derived.Test.YtoeinolekpmbbaaFa
import Derived.Test.YtoeinolekpmbbaaBaa
import Derived.Deep.DeepCutAuto
namespace Go.Proofs.Ytoeinolekpmbbaa
open Go.ChangeShapes Go.WideShapes Go.ChangeAt Go.RowKit

/-- a part of a row loaded, in a drawn region -/
theorem quiet_ld {P : Program} {C : World → Prop} {a : Act} {o : Oper} {K : Act → Prop} (ty : TypeId) (x : Operand) (ho : o.op = .load ty x)
    (g off : Nat) (hx : a.eval x = .pointer (some ⟨g, off, none⟩)) (cs : List Value) (d : TypeDesc) (hc : ∀ w, C w → w.rangeAt g off cs)
    (hu : P.underlying ty = some d) (hd : d.isRow = true) (hi : (P.info? ty).map (·.size) = some cs.length)
    (h : K (a.put o.dst (.agg cs.toArray))) : o.quiet P a C K :=
  ⟨.agg cs.toArray, fun w hw => by
    unfold Oper.quietAt execOp
    simp only [ho, hx, Instr.loadAt, Instr.sureAddr, Sem.run_bind, Sem.run_pure, Result.andThen_ok, run_loadVar_mid w g off ty cs d (hc w hw) hu hd hi]
    exact ⟨rfl, rfl⟩, h⟩

/-- a slice that shows these votes -/
def SeesT (w : World) (v : Value) (l : List Vt) : Prop :=
  ∃ a cap, v = .slice a l.length cap ∧ l.length ≤ cap ∧ cap ≤ maxLen ∧ (a = none → cap = 0) ∧ ∀ i x, l[i]? = some x → ∃ g off, a = some ⟨g, off, none⟩ ∧ w.rangeAt g (off + i * 33) (vtC x)
theorem vt_range_lt {w : World} {g off : Nat} {x : Vt} (h : w.rangeAt g off (vtC x)) : g < w.heap.size := by
  unfold vtC at h
  cases hi : x.id with
  | nil => rw [hi] at h; exact lt_of_cell (h 0 _ rfl)
  | cons y r => rw [hi] at h; exact lt_of_cell (h 0 _ rfl)
theorem range_kp {G : Nat → Prop} {w w' : World} {g off : Nat} {cs : List Value} (h : w.rangeAt g off cs) (k : Kp G w w') (hG : ¬ G g) : w'.rangeAt g off cs := fun j u hj => by
  have hc := h j u hj
  rw [k.cell (lt_of_cell hc) hG]; exact hc
theorem range_pre {w : World} {g off : Nat} {a b : List Value} (h : w.rangeAt g off (a ++ b)) : w.rangeAt g off a := fun j u hj =>
  h j u (by rw [List.getElem?_append_left (List.getElem?_eq_some_iff.1 hj).1]; exact hj)
theorem range_blk {w : World} {g t : Nat} {fr : Nat × Nat} {cs : List Value} (h : w.heap[g]? = some (.cells cs.toArray t fr)) : w.rangeAt g 0 cs := fun j u hj => by
  rw [Nat.zero_add, cell_blk h, List.getElem?_toArray]; exact hj
/-- these votes lie outside G -/
def ApartT (G : Nat → Prop) (v : Value) (l : List Vt) : Prop := l ≠ [] → ∀ g, v.ownBlock = some g → ¬ G g
theorem SeesT.keptG {G : Nat → Prop} {w w' : World} {v : Value} {l : List Vt} (h : SeesT w v l) (k : Kp G w w') (hG : ApartT G v l) : SeesT w' v l := by
  obtain ⟨a, cap, rfl, h1, h2, h3, h4⟩ := h
  exact ⟨a, cap, rfl, h1, h2, h3, fun i x hi => by
    obtain ⟨g, off, e, hr⟩ := h4 i x hi
    refine ⟨g, off, e, range_kp hr k (hG (by intro e; subst e; cases hi) g ?_)⟩
    subst e; rfl⟩
theorem SeesT.kept {w w' : World} {v : Value} {l : List Vt} (h : SeesT w v l) (k : Kp (fun _ => False) w w') : SeesT w' v l := h.keptG k (fun _ _ _ f => f)
theorem SeesT.form {w : World} {v : Value} {l : List Vt} (h : SeesT w v l) : ∃ a c, v = .slice a l.length c ∧ l.length ≤ c ∧ c ≤ 9223372036854775807 := by
  obtain ⟨a, cap, rfl, h1, h2, _⟩ := h
  exact ⟨_, _, rfl, h1, h2⟩
theorem SeesT.at {w : World} {a : Option Addr} {n c : Nat} {l : List Vt} (h : SeesT w (.slice a n c) l) {k : Nat} {x : Vt} (hk : l[k]? = some x) :
    ∃ g off, a = some ⟨g, off, none⟩ ∧ w.rangeAt g (off + k * 33) (vtC x) := by
  obtain ⟨a', cap, e, _, _, _, h4⟩ := h
  obtain ⟨g, off, e2, hr⟩ := h4 k x hk
  injection e with e1 _ _
  exact ⟨g, off, by rw [e1, e2], hr⟩
theorem SeesT.nil (w : World) : SeesT w (.slice none 0 0) [] := ⟨none, 0, rfl, Nat.le_refl _, Nat.zero_le _, fun _ => rfl, fun i x h => by cases h⟩
theorem SeesT.lt {w : World} {v : Value} {l : List Vt} (h : SeesT w v l) (hne : l ≠ []) : ∀ g, v.ownBlock = some g → g < w.heap.size := by
  obtain ⟨a, cap, rfl, h1, h2, h3, h4⟩ := h
  intro g hg
  obtain ⟨x, r, rfl⟩ := List.exists_cons_of_ne_nil hne
  obtain ⟨g', off, e, hr⟩ := h4 0 x rfl
  subst e
  cases hg
  exact vt_range_lt hr
theorem vt_n {x : Vt} (h : x.id.length = 32) : (vtC x)[32]? = some (.int .i64 x.n) := by
  unfold vtC
  rw [List.getElem?_append_right (by rw [U8s_length, h]; omega), U8s_length, h]; rfl
theorem infoVt {x : Vt} (h : x.id.length = 32) : (Try.prog.info? 33).map (·.size) = some (vtC x).length := by rw [vtC_length h]; kernel_rfl
theorem infoVt' {x : Vt} (h : x.id.length = 32) : (Try.prog.info? 33).map (·.size) = some (vtC x).toArray.size := by rw [List.size_toArray]; exact infoVt h
theorem infoIdL {x : List Int} (h : x.length = 32) : (Try.prog.info? 27).map (·.size) = some (U8s x).length := by rw [U8s_length, h]; kernel_rfl
/-- no votes for no name -/
def vt0 : Vt := ⟨List.replicate 32 0, 0⟩
theorem zeroVt (w : World) : (zeroValue 33).run Try.prog w = .ok (.agg (vtC vt0).toArray) w := by kernel_rfl
theorem vtC_all (x : Vt) : (vtC x).toArray.all (·.oneCell') = true := all_oneCell_toArray (vtC_one x)
theorem vt_same {x y : Vt} (hx : x.id.length = 32) (hy : y.id.length = 32) : (vtC x).toArray.size = (vtC y).toArray.size := by rw [List.size_toArray, List.size_toArray, vtC_length hx, vtC_length hy]

set_option maxHeartbeats 400000 in
theorem bcmp_any (a b : List Int) (ha : Nm a) (hb : Nm b) (w : World) :
    Calls Try.prog 38 #[.agg (U8s a).toArray, .agg (U8s b).toArray] w fun e w' => e = .returned (.int .i64 (cmpI a b)) ∧ ∃ n, w' = ((w.alloc (.cells (U8s a).toArray 27)).alloc (.cells (U8s b).toArray 27)).drewN n := by
  have s1 : ∀ o n, Sees (((w.alloc (.cells (U8s a).toArray 27)).alloc o).drewN n) (.slice (some ⟨w.heap.size, 0, none⟩) 32 32) a := fun o n => by
    have := array_sees (w := ((w.alloc (.cells (U8s a).toArray 27)).alloc o).drewN n) (g := w.heap.size) (old_blk (new_blk w _) o) (by rw [ha.len]; omega)
    rw [ha.len] at this; exact this
  have s2 : ∀ n, Sees (((w.alloc (.cells (U8s a).toArray 27)).alloc (.cells (U8s b).toArray 27)).drewN n) (.slice (some ⟨w.heap.size + 1, 0, none⟩) 32 32) b := fun n => by
    have h := new_blk (w.alloc (.cells (U8s a).toArray 27)) (.cells (U8s b).toArray 27)
    rw [World.size_alloc] at h
    have := array_sees (w := ((w.alloc (.cells (U8s a).toArray 27)).alloc (.cells (U8s b).toArray 27)).drewN n) (g := w.heap.size + 1) h (by rw [hb.len]; omega)
    rw [hb.len] at this; exact this
  have hq := fun n => (compare_any (s1 _ n) (s2 n) ha.rng hb.rng)
  have HQ := Lib.hid hq
  clear s1 s2 hq ha hb
  go_enter Try.func38, Try.ntmps38
  go_wp2
  go_quiet ((go_at_call 46; exact Calls.quiet_of_same ((HQ.out _).mono fun _ _ h => ⟨h.1, h.2.symm⟩)))
  go_wp2
  go_ret
  exact ⟨rfl, _, rfl⟩
theorem bcmp_kp (a b : List Int) (ha : Nm a) (hb : Nm b) (w : World) :
    Calls Try.prog 38 #[.agg (U8s a).toArray, .agg (U8s b).toArray] w fun e w' => e = .returned (.int .i64 (cmpI a b)) ∧ Kp (fun _ => False) w w' :=
  (bcmp_any a b ha hb w).mono (fun e w' h => ⟨h.1, by obtain ⟨n, rfl⟩ := h.2; exact (((Kp.refl _ w).alloc _).alloc _).drewN _⟩)
set_option maxRecDepth 100000 in
set_option maxHeartbeats 400000 in
theorem bless_any (a b : List Int) (ha : Nm a) (hb : Nm b) (w : World) :
    Calls Try.prog 11 #[.agg (U8s a).toArray, .agg (U8s b).toArray] w fun e w' => e = .returned (.bool (decide (cmpI a b < 0))) ∧ Kp (fun _ => False) w w' := by
  have i1 := info32 a ha.len
  have i2 := info32 b hb.len
  have h1 := old_blk (new_blk w (.cells (U8s a).toArray 27)) (.cells (U8s b).toArray 27)
  have h2 := new_blk (w.alloc (.cells (U8s a).toArray 27)) (.cells (U8s b).toArray 27)
  rw [World.size_alloc] at h2
  have H1 := Lib.hid h1
  have H2 := Lib.hid h2
  have I1 := Lib.hid i1
  have I2 := Lib.hid i2
  have HQ := Lib.hid (bcmp_kp a b ha hb)
  clear h1 h2 i1 i2 ha hb
  go_enter Try.func11, Try.ntmps11
  go_wp2_with (first
    | (refine wpList_load_row (o := ⟨some 5, _, _, _, _, _⟩) rfl 27 _ rfl w.heap.size rfl 27 _ (0, 0) _ H1.out Try.underlying27 rfl I1.out ?_)
    | (refine wpList_load_row (o := ⟨some 6, _, _, _, _, _⟩) rfl 27 _ rfl (w.heap.size + 1) rfl 27 _ (0, 0) _ H2.out Try.underlying27 rfl I2.out ?_))
  refine (HQ.out _).mono ?_
  rintro e w1 ⟨rfl, hk⟩
  go_wp2
  go_ret
  exact ⟨rfl, (((Kp.refl _ w).alloc _).alloc _).trans hk (fun _ _ f => f)⟩

set_option maxRecDepth 100000 in
set_option maxHeartbeats 3200000 in
theorem bsum_any {v : Value} {l : List Vt} {w : World} (hs : SeesT w v l) (hv : TOk l) :
    Calls Try.prog 39 #[v] w fun e w' => e = .returned (.tuple #[.int .i64 (totT l), .int .i64 (chkT l)]) ∧ Kp (fun _ => False) w w' := by
  obtain ⟨a, c, rfl, hlc, hmax⟩ := hs.form
  have HS := Lib.hid hs
  have HV := Lib.hid hv
  have hz := zeroVt
  have HI := Lib.hid (fun (x : Vt) (h : x.id.length = 32) => infoVt h)
  have HI2 := Lib.hid (fun (x : Vt) (h : x.id.length = 32) => infoVt' h)
  have HID := Lib.hid (fun (x : List Int) (h : x.length = 32) => infoIdL h)
  have HLS := Lib.hid (fun (a b : List Int) (ha : Nm a) (hb : Nm b) (w : World) => bless_any a b ha hb w)
  obtain ⟨tot, htot⟩ : ∃ z, z = totT l := ⟨_, rfl⟩
  obtain ⟨chk, hchk⟩ : ∃ z, z = chkT l := ⟨_, rfl⟩
  have HBAD := Lib.hid (show good l = false → tot = 0 ∧ chk = 70 from fun h => by rw [htot, hchk]; unfold totT chkT; rw [h]; exact ⟨rfl, rfl⟩)
  have HGD := Lib.hid (show good l = true → tot = sumT l ∧ chk = 0 from fun h => by rw [htot, hchk]; unfold totT chkT; rw [h]; exact ⟨rfl, rfl⟩)
  rw [← htot, ← hchk]
  clear hs hv htot hchk
  go_enter Try.func39, Try.ntmps39
  go_wp2
  go_loopw [4, 9] (fun s i wr => ∃ (k : Nat) (t : Int), k ≤ l.length ∧ i = .int .i64 k ∧ s = .int .i64 t ∧ (0 ≤ t ∧ t ≤ 1048576) ∧ Kp (fun _ => False) w wr ∧ Hid (t = sumT (l.take k)) ∧ Hid (good (l.take k) = true)) (fun _ i _ => l.length - (intOf i).toNat)
  case atStart => exact ⟨0, 0, by omega, rfl, rfl, by omega, Kp.refl _ _, Lib.hid rfl, Lib.hid rfl⟩
  case round =>
    obtain ⟨k, t, hk, rfl, rfl, ⟨ht0, ht1⟩, hkp, hsm, hgd⟩ := hrel
    by_cases hlt : k < l.length
    · obtain ⟨x, hx⟩ : ∃ x, l[k]? = some x := ⟨l[k], by simp [hlt]⟩
      obtain ⟨g, off, rfl, hr⟩ := (HS.out.kept hkp).at hx
      have hwf := tok_at HV.out hx
      have HN := Lib.hid hwf.nm
      have hn0 := hwf.lo
      have hn1 := hwf.hi
      have HR := Lib.hid hr
      have HX := Lib.hid hx
      have HK := Lib.hid hkp
      have HG := Lib.hid (show good (l.take (k + 1)) = (decide (1 ≤ x.n) && decide (x.n ≤ 1048576 - t) && decide (cmpI (lastI [] (l.take k)) x.id < 0)) by rw [hsm.out]; exact good_step hx hgd.out)
      have HT := Lib.hid (show sumT (l.take (k + 1)) = t + x.n by rw [take_snoc hx, sumT_append, hsm.out, sumT_cons, sumT_nil]; omega)
      clear hx hr hkp hwf hsm hgd
      by_cases h1 : x.n < 1
      · obtain ⟨rfl, rfl⟩ := HBAD.out (bad_take (k + 1) (by rw [HG.out, decide_eq_false (by omega : ¬ 1 ≤ x.n)]; rfl))
        go_wp2_with (first
          | ((with_reducible refine at_dst 13 ?_); refine wpList_load_mid rfl 33 _ rfl g (off + k * 33) rfl (vtC x) _ HR.out Try.underlying33 rfl (HI.out x HN.out.len) ?_)
          | ((with_reducible refine at_store 6 13 ?_); refine st_fresh rfl 33 _ _ rfl (vtC x).toArray rfl rfl 33 _ (HI2.out x HN.out.len) (vt_same (by decide) HN.out.len) (vtC_all x) ?_; intro w2 k2 m2 s2; have c32 : w2.cell? ⟨wr.heap.size, 32, none⟩ = some (.int .i64 x.n) := (cell_blk m2 32).trans (by rw [List.getElem?_toArray]; exact vt_n HN.out.len); have M2 := Lib.hid m2; have K2 := Lib.hid (HK.out.trans k2 (fun _ _ f => f)); clear m2 s2 k2))
        go_ret2
        exact ⟨rfl, K2.out⟩
      · by_cases h2 : 1048576 - t < x.n
        · obtain ⟨rfl, rfl⟩ := HBAD.out (bad_take (k + 1) (by rw [HG.out, decide_eq_true (by omega : 1 ≤ x.n), decide_eq_false (by omega : ¬ x.n ≤ 1048576 - t)]; rfl))
          go_wp2_with (first
            | ((with_reducible refine at_dst 13 ?_); refine wpList_load_mid rfl 33 _ rfl g (off + k * 33) rfl (vtC x) _ HR.out Try.underlying33 rfl (HI.out x HN.out.len) ?_)
            | ((with_reducible refine at_store 6 13 ?_); refine st_fresh rfl 33 _ _ rfl (vtC x).toArray rfl rfl 33 _ (HI2.out x HN.out.len) (vt_same (by decide) HN.out.len) (vtC_all x) ?_; intro w2 k2 m2 s2; have c32 : w2.cell? ⟨wr.heap.size, 32, none⟩ = some (.int .i64 x.n) := (cell_blk m2 32).trans (by rw [List.getElem?_toArray]; exact vt_n HN.out.len); have M2 := Lib.hid m2; have K2 := Lib.hid (HK.out.trans k2 (fun _ _ f => f)); clear m2 s2 k2))
          go_ret2
          exact ⟨rfl, K2.out⟩
        · have HG2 := Lib.hid (show good (l.take (k + 1)) = decide (cmpI (lastI [] (l.take k)) x.id < 0) by rw [HG.out, decide_eq_true (by omega : 1 ≤ x.n), decide_eq_true (by omega : x.n ≤ 1048576 - t)]; rfl)
          cases k with
          | zero =>
            have HG3 := Lib.hid (show good (l.take (0 + 1)) = true by rw [HG2.out]; exact decide_eq_true (nil_lt HN.out.len))
            go_upto_region 7 with (first
              | ((with_reducible refine at_dst 13 ?_); refine wpList_load_mid rfl 33 _ rfl g (off + 0 * 33) rfl (vtC x) _ HR.out Try.underlying33 rfl (HI.out x HN.out.len) ?_)
              | ((with_reducible refine at_store 6 13 ?_); refine st_fresh rfl 33 _ _ rfl (vtC x).toArray rfl rfl 33 _ (HI2.out x HN.out.len) (vt_same (by decide) HN.out.len) (vtC_all x) ?_; intro w2 k2 m2 s2; have c32 : w2.cell? ⟨wr.heap.size, 32, none⟩ = some (.int .i64 x.n) := (cell_blk m2 32).trans (by rw [List.getElem?_toArray]; exact vt_n HN.out.len); have M2 := Lib.hid m2; have K2 := Lib.hid (HK.out.trans k2 (fun _ _ f => f)); clear m2 s2 k2))
            refine wp_kept (W := w2) (by kernel_rfl) (by kernel_rfl) (Kp.refl _ _) ?_
            repeat (first
              | go_big_quiet_skip
              | (go_big_quiet_want; go_big_quiet_op; first | go_big_quiet_on | go_big_quiet_call ((intro hk; with_reducible rfl))))
            refine wpQuiet_nil ?_
            intro w3 k3
            have K3 := Lib.hid (K2.out.trans k3 (fun _ _ f => f))
            have c32' : w3.cell? ⟨wr.heap.size, 32, none⟩ = some (.int .i64 x.n) := (cell_blk (kept_blk M2.out k3 (fun f => f)) 32).trans (by rw [List.getElem?_toArray]; exact vt_n HN.out.len)
            clear k3 c32
            go_wp2_with fail
            go_roundw
            case rel => exact ⟨1, _, by omega, by go_num, rfl, by omega, K3.out, Lib.hid (by rw [show (1 : Nat) = 0 + 1 from rfl, HT.out]), Lib.hid HG3.out⟩
            case measure => simp [intOf]; omega
          | succ m =>
            obtain ⟨y, hy⟩ : ∃ y, l[m]? = some y := ⟨l[m]'(by omega), List.getElem?_eq_getElem _⟩
            have HNY := Lib.hid (tok_at HV.out hy).nm
            obtain ⟨g', off', e, hr⟩ := (HS.out.kept HK.out).at hy
            cases e
            have HRY := Lib.hid hr
            have HLY := Lib.hid (last_take hy)
            clear hr hy
            go_upto_region 7 with (first
              | ((with_reducible refine at_dst 13 ?_); refine wpList_load_mid rfl 33 _ rfl g (off + (m + 1) * 33) rfl (vtC x) _ HR.out Try.underlying33 rfl (HI.out x HN.out.len) ?_)
              | ((with_reducible refine at_store 6 13 ?_); refine st_fresh rfl 33 _ _ rfl (vtC x).toArray rfl rfl 33 _ (HI2.out x HN.out.len) (vt_same (by decide) HN.out.len) (vtC_all x) ?_; intro w2 k2 m2 s2; have c32 : w2.cell? ⟨wr.heap.size, 32, none⟩ = some (.int .i64 x.n) := (cell_blk m2 32).trans (by rw [List.getElem?_toArray]; exact vt_n HN.out.len); have M2 := Lib.hid m2; have K2 := Lib.hid (HK.out.trans k2 (fun _ _ f => f)); have KQ := Lib.hid k2; clear m2 s2 k2))
            obtain ⟨gx, hgx⟩ : ∃ g, g = wr.heap.size := ⟨_, rfl⟩
            rw [← hgx] at M2 ⊢
            clear hgx
            have RY := Lib.hid (fun (w' : World) (k : Kp (fun _ => False) w2 w') => (range_pre (range_kp (range_kp HRY.out (KQ.out) (fun f => f)) k (fun f => f)) : w'.rangeAt g (off + m * 33) (U8s y.id)))
            have RX := Lib.hid (fun (w' : World) (k : Kp (fun _ => False) w2 w') => (range_pre (range_kp (range_blk M2.out) k (fun f => f)) : w'.rangeAt gx 0 (U8s x.id)))
            refine wp_kept (W := w2) (by kernel_rfl) (by kernel_rfl) (Kp.refl _ _) ?_
            repeat (first
              | go_big_quiet_skip
              | (go_big_quiet_want; refine quiet_ld 27 _ rfl g (off + m * 33) rfl (U8s y.id) _ RY.out Try.underlying27 rfl (HID.out _ HNY.out.len) ?_; (simp only [Act.put, List.setIfInBounds_toArray, List.set_cons_zero, List.set_cons_succ]); go_big_quiet_on)
              | (go_big_quiet_want; refine quiet_ld 27 _ rfl gx 0 rfl (U8s x.id) _ RX.out Try.underlying27 rfl (HID.out _ HN.out.len) ?_; (simp only [Act.put, List.setIfInBounds_toArray, List.set_cons_zero, List.set_cons_succ]); go_big_quiet_on)
              | (go_big_quiet_want; go_big_quiet_op; first | go_big_quiet_on | go_big_quiet_call ((intro hk; first
                  | with_reducible rfl
                  | (go_at_call 11; exact (HLS.out _ _ HNY.out HN.out _).mono (fun e w' h => ⟨h.1, hk.trans h.2 (fun _ _ f => f)⟩))))))
            refine wpQuiet_nil ?_
            intro w3 k3
            have K3 := Lib.hid (K2.out.trans k3 (fun _ _ f => f))
            have c32' : w3.cell? ⟨gx, 32, none⟩ = some (.int .i64 x.n) := (cell_blk (kept_blk M2.out k3 (fun f => f)) 32).trans (by rw [List.getElem?_toArray]; exact vt_n HN.out.len)
            clear k3 c32
            by_cases hc : cmpI y.id x.id < 0
            · have hc' := decide_eq_true hc
              have HG3 := Lib.hid (show good (l.take (m + 1 + 1)) = true by rw [HG2.out, HLY.out]; exact hc')
              rw [hc']
              clear hc hc'
              go_wp2_with fail
              go_roundw
              case rel => exact ⟨m + 1 + 1, _, by omega, by go_num, rfl, by omega, K3.out, Lib.hid HT.out.symm, Lib.hid HG3.out⟩
              case measure => simp [intOf]; omega
            · have hc' := decide_eq_false hc
              obtain ⟨rfl, rfl⟩ := HBAD.out (bad_take (m + 1 + 1) (by rw [HG2.out, HLY.out]; exact hc'))
              rw [hc']
              clear hc hc'
              go_wp2_with fail
              go_ret2
              exact ⟨rfl, K3.out⟩
    · obtain rfl : k = l.length := by omega
      rw [List.take_length] at hsm hgd
      obtain ⟨hT, rfl⟩ := HGD.out hgd.out
      have HE := Lib.hid (hT.trans hsm.out.symm)
      have HK := Lib.hid hkp
      clear hkp hsm hgd hT
      go_wp2
      go_ret2
      exact ⟨by rw [HE.out]; rfl, HK.out⟩

set_option maxRecDepth 100000 in
theorem bcheck_any {v : Value} {l : List Vt} {w : World} (hs : SeesT w v l) (hv : TOk l) :
    Calls Try.prog 13 #[v] w fun e w' => e = .returned (.int .i64 (chkT l)) ∧ Kp (fun _ => False) w w' := by
  have HQ := Lib.hid (bsum_any hs hv)
  obtain ⟨a, c, rfl, _⟩ := hs.form
  clear hs hv
  generalize totT l = tt at HQ ⊢
  generalize chkT l = ct at HQ ⊢
  go_enter Try.func13, Try.ntmps13
  go_wp2_with fail
  refine HQ.out.mono ?_
  rintro e w1 ⟨rfl, hk⟩
  have HK := Lib.hid hk
  clear hk
  go_wp2_with fail
  go_ret
  exact ⟨rfl, HK.out⟩
set_option maxRecDepth 100000 in
theorem btotal_any {v : Value} {l : List Vt} {w : World} (hs : SeesT w v l) (hv : TOk l) :
    Calls Try.prog 31 #[v] w fun e w' => e = .returned (.int .i64 (totT l)) ∧ Kp (fun _ => False) w w' := by
  have HQ := Lib.hid (bsum_any hs hv)
  obtain ⟨a, c, rfl, _⟩ := hs.form
  clear hs hv
  generalize totT l = tt at HQ ⊢
  generalize chkT l = ct at HQ ⊢
  go_enter Try.func31, Try.ntmps31
  go_wp2_with fail
  refine HQ.out.mono ?_
  rintro e w1 ⟨rfl, hk⟩
  have HK := Lib.hid hk
  clear hk
  go_wp2_with fail
  go_ret
  exact ⟨rfl, HK.out⟩
end Go.Proofs.Ytoeinolekpmbbaa
