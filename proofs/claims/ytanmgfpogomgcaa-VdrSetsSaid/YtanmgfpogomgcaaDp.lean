/-
  The law's own told: the validators that an iterator tells, at most so many.
-/
import Derived.Test.YtanmgfpogomgcaaDk
namespace Go.Proofs.Ytanmgfpogomgcaa
open Go.RowKit Go.Shelf

attribute [local go_sem] Oper.semAt_some

/-- an append whose run is known, within a fence -/
theorem in_append_run {F : Fence} {n : Nat} {P : Program} {w : World} {ops : Array Oper} {rest : List Oper} {o : Oper} {a : Act} {Q : Exit → Act → World → Prop}
    (hg : o.guard = none) (s x : Operand) (t t' : TypeId) (hop : o.op = Op.call { callee := Callee.builtin Builtin.append, args := #[s, x], argTypes := #[t, t'] })
    (vs vx v' : Value) (hs : a.eval s = vs) (hx : a.eval x = vx) (w' : World) (hrun : ∀ ty, (Builtin.append_ #[t, t'] ty #[vs, vx]).run P w = .ok v' w')
    (h : wpListIn F n P ops Q rest (a.put o.dst v') w') : wpListIn F n P ops Q (o :: rest) a w := by
  refine wpListIn_plain hg fun K hK' => ?_
  unfold Oper.wpIn
  refine ⟨?_, ?_⟩
  · simp [Oper.about, hop, resolve, Target.leads, Sem.run_pure]
  · rw [Oper.semAt_plain F _ _ (by rw [hop]; intro c hc'; cases hc')]
    simp [execOp, hop, resolve, invoke, builtin, hs, hx, hrun, Result.andThen]
    exact hK' _ _ h

theorem OwnG.grown {T sz : Nat} {w w' : World} {B n : Nat} {v : Value} {cs : List Value} {row : Option Nat} (h : OwnG T sz w B v n cs) (hg : w.grownBy w' row) (hr : ∀ r, row = some r → ∃ o : Obj, w.heap[r]? = some o ∧ o.isCells = false) : OwnG T sz w' B v n cs := by
  obtain ⟨h0, h | ⟨g, cap, rest, rfl, h1, h2, h3⟩⟩ := h
  · exact ⟨h0, .inl h⟩
  · refine ⟨h0, .inr ⟨g, cap, rest, rfl, h1, ?_, h3⟩⟩
    rw [hg.block g (lt_of_blk h2) (fun e => by
      obtain ⟨o, ho, hc⟩ := hr g e.symm
      rw [h2] at ho; cases ho; cases hc)]
    exact h2
theorem blk_grown {w w' : World} {g t : Nat} {cs : Array Value} {fr : Nat × Nat} {row : Option Nat} (h : w.heap[g]? = some (.cells cs t fr)) (hg : w.grownBy w' row) (hr : ∀ r, row = some r → ∃ o : Obj, w.heap[r]? = some o ∧ o.isCells = false) : w'.heap[g]? = some (.cells cs t fr) := by
  rw [hg.block g (lt_of_blk h) (fun e => by
    obtain ⟨o, ho, hc⟩ := hr g e.symm
    rw [h] at ho; cases ho; cases hc)]
  exact h
theorem vdCs_snoc (l : List Vd) (x : Vd) : vdCs (l ++ [x]) = vdCs l ++ vdC x := by simp [vdCs]
theorem keeps_of_kp {W W' : World} {F : Nat → Prop} (k : Kp F W W') (hF : ∀ g o, F g → W.heap[g]? = some o → o.isCells = true) : KeepsOthers W W' :=
  ⟨k.size, fun g o ho hc => by
    rw [k.block g (lt_of_blk ho) (fun f => by rw [hF g o f ho] at hc; cases hc)]
    exact ho⟩

theorem fn_not_nil (B : Nat) (w : World) : (binOp BinOp.eql 34 (Value.func (Fn.func 25) #[] #[Value.pointer (some { block := B, off := 0 })]) Value.nilFunc).run Try.prog w = .ok (.bool false) w := by
  kernel_rfl

set_option maxRecDepth 100000 in
set_option maxHeartbeats 4000000 in
theorem told_any {v : Value} {l : List Vd} {B : Nat} {w : World} (hc : w.cell? ⟨B, 0, none⟩ = some v) (hs : SeesV w v l) (hl : l.length ≤ 50) (most : Nat) :
    Calls Try.prog 13 #[.func (.func 25) #[] #[.pointer (some ⟨B, 0, none⟩)], .int .i64 most] w fun e w' => ∃ v', e = .returned v' ∧ SeesV w' v' (l.take most) ∧ Kp (fun _ => False) w w' := by
  have k0 : Kp (fun _ => False) w ((w.alloc (.cells #[.int .i64 most] 3)).alloc (.cells #[.slice none 0 0] 22)) := ((Kp.refl _ w).alloc _).alloc _
  have hbm := old_blk (new_blk w (.cells #[.int .i64 most] 3)) (.cells #[.slice none 0 0] 22)
  have hbl := new_blk (w.alloc (.cells #[.int .i64 most] 3)) (.cells #[.slice none 0 0] 22)
  rw [World.size_alloc] at hbl
  have hsz : ((w.alloc (.cells #[.int .i64 most] 3)).alloc (.cells #[.slice none 0 0] 22)).heap.size = w.heap.size + 2 := by simp
  have hc0 := (k0.cell (p := ⟨B, 0, none⟩) (lt_of_cell hc) (fun f => f)).trans hc
  have hs0 := hs.kept k0
  have HAP : ApartV (fun k => w.heap.size ≤ k) v l := fun hne g hg => by have := hs.lt hne g hg; omega
  have hb0 : Below w.heap.size w ((w.alloc (.cells #[.int .i64 most] 3)).alloc (.cells #[.slice none 0 0] 22)) := k0.below (Nat.le_refl _) (fun _ f => f.elim)
  obtain ⟨w0, hw0⟩ : ∃ w0, w0 = (w.alloc (.cells #[.int .i64 most] 3)).alloc (.cells #[.slice none 0 0] 22) := ⟨_, rfl⟩
  rw [← hw0] at k0 hbm hbl hsz hc0 hs0 hb0
  have HW0 := Lib.hid hw0
  have HC0 := Lib.hid hc0
  have HS0 := Lib.hid hs0
  have HAP := Lib.hid HAP
  have HBM := Lib.hid hbm
  have HBL := Lib.hid hbl
  have HB0 := Lib.hid hb0
  clear hc hs k0 hbm hbl hc0 hs0 hb0 hw0
  refine (callsIn_wide (n := 6)).1 ?_
  refine callsIn_of_wp_marks Try.func13 rfl trivial ?_ rfl
  simp only [Try.ntmps13, List.size_toArray, List.length_cons, List.length_nil, Nat.reduceAdd, Nat.reduceSub, Array.replicate_succ, Array.replicate_zero, List.push_toArray, List.append_toArray, List.nil_append, List.cons_append]
  have hnn := fn_not_nil B
  gi_wp2
  show Code.wpIn _ _ _ _ _ _ ((w.alloc (.cells #[.int .i64 most] 3)).alloc (.cells #[.slice none 0 0] 22))
  rw [← HW0.out]
  obtain ⟨bm, hbm⟩ : ∃ b, b = w.heap.size := ⟨_, rfl⟩
  have HBMe := Lib.hid hbm
  rw [← hbm] at HBM HBL hsz HAP ⊢
  clear hbm
  have hwb := HB0.out.size
  refine wpIn_rangeFunc_ownF rfl (by omega) (gf := 25) (lb := #[.pointer (some ⟨B, 0, none⟩)]) rfl trivial (enters_of Try.func25 (by kernel_rfl) rfl)
    (all1_stops Fence.wide _ trivial rfl (by omega) (fun k => bm ≤ k) B v l w0 HC0.out HS0.out HAP.out) (fun h k => h.trans k (fun _ _ f => f))
    (fun W q o o' hq ho _ _ => (Kp.of_grownBy (grownBy_putObj' W q o')).mono (fun x _ e => by cases e; show bm ≤ q; omega)) (Below.refl _ _) (fun _ => rfl)
    (fun pre W => (∃ v', W.heap[bm + 1]? = some (.cells #[v'] 22 (0, 0)) ∧ OwnG 31 2 W (bm + 2) v' pre.length (vdCs pre) ∧ W.heap[bm]? = some (.cells #[.int .i64 most] 3 (0, 0)) ∧ pre.length ≤ most) ∧ Below w.heap.size w W)
    (fun c q W => (c = .exit 0 ∧ ∃ pre x v', q = pre ++ [x] ∧ pre.length = most ∧ W.heap[bm + 1]? = some (.cells #[v'] 22 (0, 0)) ∧ OwnG 31 2 W (bm + 2) v' pre.length (vdCs pre)) ∧ Below w.heap.size w W)
    (OwnFrom.and (Own.from (fun s A B row hs hg hr => by
      obtain ⟨v', h1, h2, h3, h4⟩ := hs
      exact ⟨v', blk_grown h1 hg hr, h2.grown hg hr, blk_grown h3 hg hr, h4⟩) _) (ownFrom_below (Nat.le_refl _) (by omega)))
    (fun c => OwnFrom.and (Own.from (fun s A B row hs hg hr => by
      obtain ⟨e, pre, x, v', e2, e3, h1, h2⟩ := hs
      exact ⟨e, pre, x, v', e2, e3, blk_grown h1 hg hr, h2.grown hg hr⟩) _) (ownFrom_below (Nat.le_refl _) (by omega)))
    ⟨⟨_, HBL.out, OwnG.nil _ _ _ _, HBM.out, Nat.zero_le _⟩, HB0.out⟩
    (fun x => { tmps := #[.func (.func 25) #[] #[.pointer (some ⟨B, 0, none⟩)], .int .i64 most, undef, .pointer (some ⟨bm, 0, none⟩), .slice none 0 0, .pointer (some ⟨bm + 1, 0, none⟩), .string x.name, .int .i64 x.wt, .func (.func 25) #[] #[.pointer (some ⟨B, 0, none⟩)], .bool false, .func (.func 25) #[] #[.pointer (some ⟨B, 0, none⟩)], .string x.name, .int .i64 x.wt, undef, undef, undef, undef, undef, undef, undef, undef, undef, undef, undef], defers := [] }) ?assign ?body ?done ?stop
  case assign =>
    intro l x W K hK
    gi_wp2
    exact hK
  case body =>
    rintro q pre x W ⟨⟨v1, hv1, ho1, hbm1, hle⟩, hB⟩ hlen
    obtain ⟨a1, c1, rfl⟩ := ho1.form
    have cm : W.cell? ⟨bm, 0, none⟩ = some (.int .i64 most) := cell_blk hbm1 0
    have cl : W.cell? ⟨bm + 1, 0, none⟩ = some (.slice a1 pre.length c1) := cell_blk hv1 0
    by_cases hfull : most ≤ pre.length
    · have hfull' : (most : Int) ≤ pre.length := by omega
      have HR := Lib.hid (show (∃ (pre' : List Vd) (x' : Vd) (v' : Value), pre ++ [x] = pre' ++ [x'] ∧ pre'.length = most ∧ W.heap[bm + 1]? = some (.cells #[v'] 22 (0, 0)) ∧ OwnG 31 2 W (bm + 2) v' pre'.length (vdCs pre')) from ⟨pre, x, _, rfl, by omega, hv1, ho1⟩)
      clear ho1 hv1
      gi_wp2
      exact ⟨KeepsOthers.refl _, ⟨rfl, HR.out⟩, hB⟩
    · have hfull' : ¬ (most : Int) ≤ pre.length := by omega
      have kA : Kp (fun _ => False) W (W.alloc (.cells (vdC x).toArray 31)) := (Kp.refl _ _).alloc _
      have hsx : SeesV (W.alloc (.cells (vdC x).toArray 31)) (.slice (some ⟨W.heap.size, 0, none⟩) 1 1) [x] :=
        OwnG.seesV (B := 0) ⟨by simp [vdCs, vdC], .inr ⟨W.heap.size, 1, [], rfl, Nat.zero_le _, by rw [List.append_nil]; exact (new_blk _ _).trans (by simp [vdCs]), by simp [vdCs, vdC], Nat.le_refl _, by unfold maxLen; omega⟩⟩
      have hWs := hB.size
      have hWs2 : bm + 2 ≤ W.heap.size := by have := lt_of_blk hv1; omega
      obtain ⟨v2, w2, hap, ho2, k2, _⟩ := app_own Try.underlying22 infoVd3 rfl (Nat.le_trans hWs2 kA.size) (ho1.kept kA (fun _ _ f => f)) hsx.src (Nat.le_refl 1) (show pre.length + 1 ≤ 1000000 by omega) (by omega)
      obtain ⟨a2, c2, rfl⟩ := ho2.form
      have hnb : ¬ (Value.slice a1 pre.length c1).ownBlock = some (bm + 1) := fun e => by have := (ho1.lt _ e).1; omega
      have hnm : ¬ (Value.slice a1 pre.length c1).ownBlock = some bm := fun e => by have := (ho1.lt _ e).1; omega
      have hv2 := kept_blk (kept_blk hv1 kA (fun f => f)) k2 hnb
      have cl2 : w2.cell? ⟨bm + 1, 0, none⟩ = some (.slice a1 pre.length c1) := cell_blk hv2 0
      have fl2 : w2.frozen? ⟨bm + 1, 0, none⟩ = false := free_blk hv2 0
      have kAll : Kp (fun k => (Value.slice a1 pre.length c1).ownBlock = some k ∨ k = bm + 1) W (w2.setCell ⟨bm + 1, 0, none⟩ (.slice a2 (pre.length + 1) c2)) :=
        ((kA.mono (fun _ _ f => f.elim)).trans k2 (fun _ _ e => .inl e)).setCell (fun _ => .inr rfl) _
      have hKO : KeepsOthers W (w2.setCell ⟨bm + 1, 0, none⟩ (.slice a2 (pre.length + 1) c2)) := keeps_of_kp kAll (fun g o hg ho => by
        rcases hg with hg | rfl
        · obtain ⟨_, ⟨e, _⟩ | ⟨g', cap, rest, e, _, h2, _⟩⟩ := ho1
          · rw [e] at hg; cases hg
          · rw [e] at hg
            have := own_some hg
            subst this
            rw [h2] at ho; cases ho; rfl
        · rw [hv1] at ho; cases ho; rfl)
      have hv3 := set_blk hv2 0 (.slice a2 (pre.length + 1) c2)
      have hbm3 := kept_blk hbm1 kAll (by rintro (h | h); exact hnm h; omega)
      have ho3 : OwnG 31 2 (w2.setCell ⟨bm + 1, 0, none⟩ (.slice a2 (pre.length + 1) c2)) (bm + 2) (.slice a2 (pre.length + 1) c2) (pre.length + 1) (vdCs pre ++ vdCs [x]) :=
        ho2.kept ((Kp.refl (fun k => k = bm + 1) w2).setCell (p := ⟨bm + 1, 0, none⟩) (fun _ => rfl) _) (fun g hg e => by have := (ho2.lt g hg).1; omega)
      have HF := Lib.hid (show KeepsOthers W (w2.setCell ⟨bm + 1, 0, none⟩ (.slice a2 (pre.length + 1) c2)) ∧ Kp (fun k => bm ≤ k) W (w2.setCell ⟨bm + 1, 0, none⟩ (.slice a2 (pre.length + 1) c2)) ∧
          (∃ v', (w2.setCell ⟨bm + 1, 0, none⟩ (.slice a2 (pre.length + 1) c2)).heap[bm + 1]? = some (.cells #[v'] 22 (0, 0)) ∧ OwnG 31 2 (w2.setCell ⟨bm + 1, 0, none⟩ (.slice a2 (pre.length + 1) c2)) (bm + 2) v' (pre ++ [x]).length (vdCs (pre ++ [x])) ∧
            (w2.setCell ⟨bm + 1, 0, none⟩ (.slice a2 (pre.length + 1) c2)).heap[bm]? = some (.cells #[.int .i64 most] 3 (0, 0)) ∧ (pre ++ [x]).length ≤ most) ∧ Below w.heap.size w (w2.setCell ⟨bm + 1, 0, none⟩ (.slice a2 (pre.length + 1) c2)) from by
        have hge : ∀ k, ((Value.slice a1 pre.length c1).ownBlock = some k ∨ k = bm + 1) → bm ≤ k := by
          rintro k (h | h)
          · have := (ho1.lt _ h).1; omega
          · omega
        refine ⟨hKO, kAll.mono (fun k _ h => hge k h), ⟨_, hv3, ?_, hbm3, by simp; omega⟩, hB.trans (kAll.below hWs (fun k h => by have := hge k h; have := HBMe.out; omega))⟩
        rw [vdCs_snoc, List.length_append]
        have e1 : vdCs [x] = vdC x := by simp [vdCs]
        rw [e1] at ho3
        exact ho3)
      have HAPP := Lib.hid hap
      clear hap ho3 hv3 hbm3 hKO kAll ho2 hv2 ho1 hv1 k2 kA hsx hnb hnm hbm1
      gi_wp2_with ((with_reducible refine in_dst 22 ?_); refine in_append_run rfl _ _ _ _ rfl _ _ _ rfl rfl _ (HAPP.out) ?_)
      exact ⟨HF.out.1, HF.out.2.1, HF.out.2.2.1, HF.out.2.2.2⟩
  case done =>
    intro D ys W hD hys hI hK
    obtain ⟨⟨v1, hv1, ho1, _, hle⟩, hB⟩ := hI
    rw [hys] at ho1 hle
    obtain ⟨a1, c1, rfl⟩ := ho1.form
    have cl : W.cell? ⟨bm + 1, 0, none⟩ = some (.slice a1 l.length c1) := cell_blk hv1 0
    have HB := Lib.hid (hB.trans (belowK_b (w := w) (Nat.le_refl _) W D _ (.deferred none) (Nat.le_trans HB0.out.size hD) hK rfl rfl))
    have HS := Lib.hid (show SeesV (W.putObj D (.deferred none)) (.slice a1 l.length c1) (l.take most) by
      rw [List.take_of_length_le hle]
      exact (ho1.grown (grownBy_putObj' W D _) (fun r e => by cases e; exact ⟨_, hK, rfl⟩)).seesV)
    clear hys hB ho1 hv1
    gi_wp2
    refine ⟨by simp, .inl ⟨_, _, rfl, run_takeDeferred hK, ?_⟩⟩
    exact ⟨_, results_tmp rfl _ _ _, .slice a1 l.length c1, rfl, HS.out, (Kp.of_below HB.out).mono (fun x hx h => by omega)⟩
  case stop =>
    intro D c q W hD hpre hI hK
    obtain ⟨⟨rfl, pre, x, v1, rfl, hlen, hv1, ho1⟩, hB⟩ := hI
    obtain ⟨a1, c1, rfl⟩ := ho1.form
    have cl : W.cell? ⟨bm + 1, 0, none⟩ = some (.slice a1 pre.length c1) := cell_blk hv1 0
    have HB := Lib.hid (hB.trans (belowK_b (w := w) (Nat.le_refl _) W D _ (.deferred none) (Nat.le_trans HB0.out.size hD) hK rfl rfl))
    have HS := Lib.hid (show SeesV (W.putObj D (.deferred none)) (.slice a1 pre.length c1) (l.take most) by
      have e : l.take most = pre := by
        obtain ⟨r, hr⟩ := hpre
        rw [← hr, ← hlen, List.append_assoc, List.take_left']
        rfl
      rw [e]
      exact (ho1.grown (grownBy_putObj' W D _) (fun r e => by cases e; exact ⟨_, hK, rfl⟩)).seesV)
    clear hB ho1 hv1 hpre hlen
    gi_wp2
    refine ⟨by simp, .inl ⟨_, _, rfl, run_takeDeferred hK, ?_⟩⟩
    exact ⟨_, results_tmp rfl _ _ _, .slice a1 pre.length c1, rfl, HS.out, (Kp.of_below HB.out).mono (fun x hx h => by omega)⟩
end Go.Proofs.Ytanmgfpogomgcaa
