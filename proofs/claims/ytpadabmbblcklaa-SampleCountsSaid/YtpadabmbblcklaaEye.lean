/-
  All; the law's own told: those that an iterator tells, at most so many.
-/
import Derived.Test.YtpadabmbblcklaaEyc
import Derived.Test.YtpadabmbblcklaaEyd
namespace Go.Proofs.Ytpadabmbblcklaa
open Go.RowKit Go.Shelf

attribute [local go_sem] Oper.semAt_some

set_option maxRecDepth 100000 in
set_option maxHeartbeats 1600000 in
theorem All_any {v : Value} {l : List Int} {w : World} (hs : SeesZ .i64 w v l) (m : Int) : Calls Try.prog 35 #[.int .i64 m, v] w fun e w' =>
    ∃ B v', e = .returned (.func (.func 41) #[] #[.pointer (some ⟨B, 0, none⟩)]) ∧ w.heap.size ≤ B ∧ w'.cell? ⟨B, 0, none⟩ = some v' ∧ SeesZ .i64 w' v' (countE m l).1 ∧ (∀ g, v'.ownBlock = some g → w.heap.size ≤ g) ∧ Kp (fun _ => False) w w' := by
  have HC := Lib.hid (count_any hs m)
  obtain ⟨a, c, rfl, hlc, hmax, _⟩ := hs.form
  obtain ⟨q1, h1⟩ : ∃ q, q = (countE m l).1 := ⟨_, rfl⟩
  obtain ⟨q2, h2⟩ : ∃ q, q = (countE m l).2 := ⟨_, rfl⟩
  rw [← h1, ← h2] at HC
  rw [← h1]
  clear hs h1 h2
  go_enter Try.func35, Try.ntmps35
  go_wp2_with fail
  refine HC.out.mono ?_
  rintro e w2 ⟨v2, rfl, s2, g2, k2⟩
  obtain ⟨a2, c2, rfl, _, _⟩ := s2.form
  have k3 : Kp (fun _ => False) w2 (w2.alloc (.cells #[.slice a2 q1.length c2] 37)) := (Kp.refl _ w2).alloc _
  have HF := Lib.hid (show w.heap.size ≤ w2.heap.size ∧ (w2.alloc (.cells #[.slice a2 q1.length c2] 37)).cell? ⟨w2.heap.size, 0, none⟩ = some (.slice a2 q1.length c2) ∧
      SeesZ .i64 (w2.alloc (.cells #[.slice a2 q1.length c2] 37)) (.slice a2 q1.length c2) q1 ∧ (∀ g, (Value.slice a2 q1.length c2).ownBlock = some g → w.heap.size ≤ g) ∧
      Kp (fun _ => False) w (w2.alloc (.cells #[.slice a2 q1.length c2] 37)) from
    ⟨k2.size, cell_blk (new_blk w2 _) 0, s2.kept k3, g2, k2.trans k3 (fun _ _ f => f)⟩)
  clear s2 k2 k3 g2
  go_wp2_with fail
  go_ret
  exact ⟨_, _, rfl, HF.out⟩

/-- an append whose run is known, within a fence -/
theorem in_append_runP {F : Fence} {n : Nat} {P : Program} {w : World} {ops : Array Oper} {rest : List Oper} {o : Oper} {a : Act} {Q : Exit → Act → World → Prop}
    (hg : o.guard = none) (s x : Operand) (t t' : TypeId) (hop : o.op = Op.call { callee := Callee.builtin Builtin.append, args := #[s, x], argTypes := #[t, t'] })
    (vs vx v' : Value) (hs : a.eval s = vs) (hx : a.eval x = vx) (w' : World) (hrun : ∀ ty, (Builtin.append_ #[t, t'] ty #[vs, vx]).run P w = .ok v' w')
    (h : wpListIn F n P ops Q rest (a.put o.dst v') w') : wpListIn F n P ops Q (o :: rest) a w := by
  refine wpListIn_plain hg fun K hK' => ?_
  unfold Oper.wpIn
  refine ⟨?_, ?_⟩
  · simp [Oper.about, hop, resolve, Target.leads, Sem.run_pure]
  · rw [Oper.semAt_plain F _ _ (by rw [hop]; intro c hc'; cases hc')]
    simp [execOp, hop, resolve, invoke, builtin, hs, hx, hrun, Result.andThen]
    exact hK' _ _ h
theorem in_dstP {F : Fence} {n : Nat} (s : Nat) {P : Program} {ops : Array Oper} {Q : Exit → Act → World → Prop} {rest : List Oper} {op : Op} {ty : TypeId} {pos : String} {af : Array Edge} {g : Option (Nat × Bool)} {a : Act} {w : World}
    (h : wpListIn F n P ops Q (⟨some s, op, ty, pos, af, g⟩ :: rest) a w) : wpListIn F n P ops Q (⟨some s, op, ty, pos, af, g⟩ :: rest) a w := h
theorem OwnG.grown {T sz : Nat} {w w' : World} {B n : Nat} {v : Value} {cs : List Value} {row : Option Nat} (h : OwnG T sz w B v n cs) (hg : w.grownBy w' row) (hr : ∀ r, row = some r → ∃ o : Obj, w.heap[r]? = some o ∧ o.isCells = false) : OwnG T sz w' B v n cs := by
  obtain ⟨h0, h | ⟨g, cap, rest, rfl, h1, h2, h3⟩⟩ := h
  · exact ⟨h0, .inl h⟩
  · exact ⟨h0, .inr ⟨g, cap, rest, rfl, h1, blk_grownZ h2 hg hr, h3⟩⟩
theorem pCs_snoc (l : List (Int × Int)) (x : Int × Int) : pCs (l ++ [x]) = pCs l ++ pC x := by simp [pCs]
theorem keeps_of_kpP {W W' : World} {F : Nat → Prop} (k : Kp F W W') (hF : ∀ g o, F g → W.heap[g]? = some o → o.isCells = true) : KeepsOthers W W' :=
  ⟨k.size, fun g o ho hc => by
    rw [k.block g (lt_of_blk ho) (fun f => by rw [hF g o f ho] at hc; cases hc)]
    exact ho⟩
theorem fn_not_nilP (B : Nat) (w : World) : (binOp BinOp.eql 68 (Value.func (Fn.func 41) #[] #[Value.pointer (some { block := B, off := 0 })]) Value.nilFunc).run Try.prog w = .ok (.bool false) w := by
  kernel_rfl
theorem tellL_len (l : List Int) : (tellL l).length ≤ l.length := by
  have := List.length_filter_le (fun x : Int × Int => decide (0 < x.2)) (idxL l)
  rw [idxL_length] at this
  exact this

set_option maxRecDepth 100000 in
set_option maxHeartbeats 8000000 in
theorem told_any {v : Value} {l : List Int} {w : World} (hs : SeesZ .i64 w v l) (m : Int) (most : Nat) :
    Calls Try.prog 24 #[.int .i64 m, v, .int .i64 most] w fun e w' => ∃ v', e = .returned v' ∧ SeesP w' v' ((tellL (countE m l).1).take most) ∧ Kp (fun _ => False) w w' := by
  obtain ⟨cs, hcs⟩ : ∃ cs, cs = (countE m l).1 := ⟨_, rfl⟩
  rw [← hcs]
  have hcl : cs.length ≤ 32 := by
    rw [hcs]
    unfold countE
    split
    · simp
    · cases slotsOk m l
      · simp
      · show (countQ m.toNat l).length ≤ 32
        rw [countQ_length]; omega
  obtain ⟨bm, hbm⟩ : ∃ b, b = w.heap.size := ⟨_, rfl⟩
  obtain ⟨w0, hw0⟩ : ∃ w0, w0 = (w.alloc (.cells #[.int .i64 most] 3)).alloc (.cells #[.slice none 0 0] 44) := ⟨_, rfl⟩
  have k0 : Kp (fun _ => False) w w0 := by rw [hw0]; exact ((Kp.refl _ w).alloc _).alloc _
  have HA := Lib.hid (All_any (hs.kept k0) m)
  rw [← hcs] at HA
  obtain ⟨a, c, rfl, hlc, hmax, _⟩ := hs.form
  have hsz : w0.heap.size = bm + 2 := by rw [hw0, hbm]; simp
  have HBM := Lib.hid (show w0.heap[bm]? = some (.cells #[.int .i64 most] 3 (0, 0)) by rw [hw0, hbm]; exact old_blk (new_blk w _) _)
  have HBL := Lib.hid (show w0.heap[bm + 1]? = some (.cells #[.slice none 0 0] 44 (0, 0)) by
    have := new_blk (w.alloc (.cells #[.int .i64 most] 3)) (.cells #[.slice none 0 0] 44)
    rw [World.size_alloc] at this
    rw [hw0, hbm]; exact this)
  have HK0 := Lib.hid k0
  have HW0 := Lib.hid hw0
  have HBE := Lib.hid hbm
  clear hs k0 hcs hw0 hbm
  refine (callsIn_wide (n := 6)).1 ?_
  refine callsIn_of_wp_marks Try.func24 rfl trivial ?_ rfl
  simp only [Try.ntmps24, List.size_toArray, List.length_cons, List.length_nil, Nat.reduceAdd, Nat.reduceSub, Array.replicate_succ, Array.replicate_zero, List.push_toArray, List.append_toArray, List.nil_append, List.cons_append]
  have hnn := fn_not_nilP
  gi_wp2_with (refine ⟨trivial, ?_⟩; gi_at_call 35; rw [show (w.alloc (.cells #[.int .i64 most] 3)).alloc (.cells #[.slice none 0 0] 44) = w0 from HW0.out.symm]; refine (callsIn_wide.2 HA.out).mono ?_; rintro e w3 ⟨B, v3, rfl, hB, hc, hs3, hg3, k3⟩; have G3 := Lib.hid hg3; have K3 := Lib.hid k3; have C3 := Lib.hid hc; have S3 := Lib.hid hs3; have HB := Lib.hid hB; clear k3 hc hs3 hB hg3)
  rw [← HBE.out]
  have hw3 : bm + 2 ≤ w3.heap.size := by have := K3.out.size; omega
  have HL3 := Lib.hid (fun (hne : cs ≠ []) => S3.out.lt hne)
  have HBL3 := Lib.hid (lt_of_cell C3.out)
  rw [hsz] at HB G3
  have HB0 := Lib.hid (show Below w.heap.size w w3 from (HK0.out.trans K3.out (fun _ _ f => f)).below (Nat.le_refl _) (fun _ f => f.elim))
  have HBM3 := Lib.hid (kept_blk HBM.out K3.out (fun f => f))
  have HBL4 := Lib.hid (kept_blk HBL.out K3.out (fun f => f))
  have hwb := HB0.out.size
  refine rangeFunc_tells rfl (by omega) (gf := 41) (lb := #[.pointer (some ⟨B, 0, none⟩)]) rfl trivial (enters_of Try.func41 (by kernel_rfl) rfl)
    (all1_tells _ (by omega) B v3 cs w3 C3.out S3.out) (fun h k => h.trans k) (fun Wx q o o' hq ho hoc => RowR.grown (grownBy_putObj' Wx q o') (fun r er => by cases er; exact ⟨_, ho, hoc⟩)) (Below.refl _ _) (fun _ => rfl)
    (fun T pre W => (∃ v', W.heap[bm + 1]? = some (.cells #[v'] 44 (0, 0)) ∧ OwnG 46 2 W T v' pre.length (pCs pre) ∧ W.heap[bm]? = some (.cells #[.int .i64 most] 3 (0, 0)) ∧ pre.length ≤ most) ∧ Below w.heap.size w W)
    (fun T k q W => (k = .exit 0 ∧ ∃ pre x v', q = pre ++ [x] ∧ pre.length = most ∧ W.heap[bm + 1]? = some (.cells #[v'] 44 (0, 0)) ∧ OwnG 46 2 W T v' pre.length (pCs pre)) ∧ Below w.heap.size w W)
    (fun T => OwnFrom.and (Own.from (fun s X Y row hs hg hr => by
      obtain ⟨v', h1, h2, h3, h4⟩ := hs
      exact ⟨v', blk_grownZ h1 hg hr, h2.grown hg hr, blk_grownZ h3 hg hr, h4⟩) _) (ownFrom_below (Nat.le_refl _) (by omega)))
    (fun T k => OwnFrom.and (Own.from (fun s X Y row hs hg hr => by
      obtain ⟨e, pre, x, v', e2, e3, h1, h2⟩ := hs
      exact ⟨e, pre, x, v', e2, e3, blk_grownZ h1 hg hr, h2.grown hg hr⟩) _) (ownFrom_below (Nat.le_refl _) (by omega)))
    (fun T => ⟨⟨_, HBL4.out, OwnG.nil _ _ _ _, HBM3.out, Nat.zero_le _⟩, HB0.out⟩)
    (fun x => { tmps := #[.int .i64 m, .slice a l.length c, .int .i64 most, undef, undef, .pointer (some ⟨bm, 0, none⟩), .slice none 0 0, .pointer (some ⟨bm + 1, 0, none⟩), .func (.func 41) #[] #[.pointer (some ⟨B, 0, none⟩)], .int .i64 x.1, .int .i64 x.2, .int .i64 m, .slice a l.length c, .func (.func 41) #[] #[.pointer (some ⟨B, 0, none⟩)], .func (.func 41) #[] #[.pointer (some ⟨B, 0, none⟩)], .bool false, .func (.func 41) #[] #[.pointer (some ⟨B, 0, none⟩)], .int .i64 x.1, .int .i64 x.2, undef, undef, undef, undef, undef, undef, undef, undef, undef, undef, undef], defers := [] }) ?assign ?body ?done ?stop
  case assign =>
    intro l x W K hK
    gi_wp2
    exact hK
  case body =>
    rintro q T pre x W ⟨⟨v1, hv1, ho1, hbm1, hle⟩, hB⟩ hT1 hT2 hlen
    obtain ⟨a1, c1, rfl⟩ := ho1.form
    have cm : W.cell? ⟨bm, 0, none⟩ = some (.int .i64 most) := cell_blk hbm1 0
    have cl : W.cell? ⟨bm + 1, 0, none⟩ = some (.slice a1 pre.length c1) := cell_blk hv1 0
    by_cases hfull : most ≤ pre.length
    · have hfull' : (most : Int) ≤ pre.length := by omega
      have HR := Lib.hid (show (∃ (pre' : List (Int × Int)) (x' : Int × Int) (v' : Value), pre ++ [x] = pre' ++ [x'] ∧ pre'.length = most ∧ W.heap[bm + 1]? = some (.cells #[v'] 44 (0, 0)) ∧ OwnG 46 2 W T v' pre'.length (pCs pre')) from ⟨pre, x, _, rfl, by omega, hv1, ho1⟩)
      clear ho1 hv1
      gi_wp2
      obtain ⟨p, x', v', e1, e2, e3, e4⟩ := HR.out
      exact ⟨KeepsOthers.refl _, fun _ _ _ => rfl, ⟨rfl, by first | exact ⟨p, x', v', e1, e2, e3, e4⟩ | exact ⟨p, ⟨x'.1, x'.2, e1⟩, e2, v', e3, e4⟩⟩, hB⟩
    · have hfull' : ¬ (most : Int) ≤ pre.length := by omega
      have kA : Kp (fun _ => False) W (W.alloc (.cells (pC x).toArray 46)) := (Kp.refl _ _).alloc _
      have hsx : SeesP (W.alloc (.cells (pC x).toArray 46)) (.slice (some ⟨W.heap.size, 0, none⟩) 1 1) [x] :=
        OwnG.seesP (B := 0) ⟨by simp [pCs, pC], .inr ⟨W.heap.size, 1, [], rfl, Nat.zero_le _, by rw [List.append_nil]; exact (new_blk _ _).trans (by simp [pCs]), by simp [pCs, pC], Nat.le_refl _, by unfold maxLen; omega⟩⟩
      have hWs := hB.size
      obtain ⟨v2, w2, hap, ho2, k2, _⟩ := app_own Try.underlying44 infoPr3 rfl (Nat.le_trans hT2 kA.size) (ho1.kept kA (fun _ _ f => f)) hsx.src (Nat.le_refl 1) (show pre.length + 1 ≤ 1000000 by omega) (by omega)
      obtain ⟨a2, c2, rfl⟩ := ho2.form
      have hnb : ¬ (Value.slice a1 pre.length c1).ownBlock = some (bm + 1) := fun e => by have := (ho1.lt _ e).1; omega
      have hnm : ¬ (Value.slice a1 pre.length c1).ownBlock = some bm := fun e => by have := (ho1.lt _ e).1; omega
      have hv2 := kept_blk (kept_blk hv1 kA (fun f => f)) k2 hnb
      have cl2 : w2.cell? ⟨bm + 1, 0, none⟩ = some (.slice a1 pre.length c1) := cell_blk hv2 0
      have fl2 : w2.frozen? ⟨bm + 1, 0, none⟩ = false := free_blk hv2 0
      have kAll : Kp (fun k => (Value.slice a1 pre.length c1).ownBlock = some k ∨ k = bm + 1) W (w2.setCell ⟨bm + 1, 0, none⟩ (.slice a2 (pre.length + 1) c2)) :=
        ((kA.mono (fun _ _ f => f.elim)).trans k2 (fun _ _ e => .inl e)).setCell (fun _ => .inr rfl) _
      have hKO : KeepsOthers W (w2.setCell ⟨bm + 1, 0, none⟩ (.slice a2 (pre.length + 1) c2)) := keeps_of_kpP kAll (fun g o hg ho => by
        rcases hg with hg | rfl
        · obtain ⟨_, ⟨e, _⟩ | ⟨g', cap, rest, e, _, h2, _⟩⟩ := ho1
          · rw [e] at hg; cases hg
          · rw [e] at hg
            have := own_some hg
            subst this
            rw [h2] at ho; cases ho; rfl
        · rw [hv1] at ho; cases ho; rfl)
      have hv3 := set_blk hv2 0 (.slice a2 (pre.length + 1) c2)
      have hbm3 := kept_blk hbm1 kAll (by rintro (h | h); exact hnm h; omega)
      have ho3 : OwnG 46 2 (w2.setCell ⟨bm + 1, 0, none⟩ (.slice a2 (pre.length + 1) c2)) T (.slice a2 (pre.length + 1) c2) (pre.length + 1) (pCs pre ++ pCs [x]) :=
        ho2.kept ((Kp.refl (fun k => k = bm + 1) w2).setCell (p := ⟨bm + 1, 0, none⟩) (fun _ => rfl) _) (fun g hg e => by have := (ho2.lt g hg).1; omega)
      have hRR : RowR B v3 cs W (w2.setCell ⟨bm + 1, 0, none⟩ (.slice a2 (pre.length + 1) c2)) :=
        ⟨fun e => by
          rw [kAll.cell (lt_of_cell e) (by
            have h1 := HB.out
            have h2 := HBL3.out
            simp only at h2 ⊢
            rintro (h | h)
            · have := (ho1.lt _ h).1; omega
            · omega)]
          exact e, fun e => e.keptG kAll (fun hne g hg => by
            have h1 := G3.out g hg
            have h2 := HL3.out hne g hg
            rintro (h | h)
            · have := (ho1.lt _ h).1; omega
            · omega)⟩
      have hband : ∀ k, w3.heap.size + 2 ≤ k → k < T → (w2.setCell ⟨bm + 1, 0, none⟩ (.slice a2 (pre.length + 1) c2)).heap[k]? = W.heap[k]? := fun k hk1 hk2 =>
        kAll.block k (by omega) (by
          rintro (h | h)
          · have := (ho1.lt _ h).1; omega
          · omega)
      have HF := Lib.hid (show KeepsOthers W (w2.setCell ⟨bm + 1, 0, none⟩ (.slice a2 (pre.length + 1) c2)) ∧ (∀ k, w3.heap.size + 2 ≤ k → k < T → (w2.setCell ⟨bm + 1, 0, none⟩ (.slice a2 (pre.length + 1) c2)).heap[k]? = W.heap[k]?) ∧ RowR B v3 cs W (w2.setCell ⟨bm + 1, 0, none⟩ (.slice a2 (pre.length + 1) c2)) ∧
          (∃ v', (w2.setCell ⟨bm + 1, 0, none⟩ (.slice a2 (pre.length + 1) c2)).heap[bm + 1]? = some (.cells #[v'] 44 (0, 0)) ∧ OwnG 46 2 (w2.setCell ⟨bm + 1, 0, none⟩ (.slice a2 (pre.length + 1) c2)) T v' (pre ++ [x]).length (pCs (pre ++ [x])) ∧
            (w2.setCell ⟨bm + 1, 0, none⟩ (.slice a2 (pre.length + 1) c2)).heap[bm]? = some (.cells #[.int .i64 most] 3 (0, 0)) ∧ (pre ++ [x]).length ≤ most) ∧ Below w.heap.size w (w2.setCell ⟨bm + 1, 0, none⟩ (.slice a2 (pre.length + 1) c2)) from by
        refine ⟨hKO, hband, hRR, ⟨_, hv3, ?_, hbm3, by simp; omega⟩, hB.trans (kAll.below hWs (fun k h => by
          have := HBE.out
          rcases h with h | h
          · have := (ho1.lt _ h).1; omega
          · omega))⟩
        rw [pCs_snoc, List.length_append]
        have e1 : pCs [x] = pC x := by simp [pCs]
        rw [e1] at ho3
        exact ho3)
      have HAPP := Lib.hid hap
      clear hap ho3 hv3 hbm3 hKO kAll ho2 hv2 ho1 hv1 k2 kA hsx hnb hnm hbm1 hRR hband
      gi_wp2_with ((with_reducible refine in_dstP 28 ?_); refine in_append_runP rfl _ _ _ _ rfl _ _ _ rfl rfl _ (HAPP.out) ?_)
      exact ⟨HF.out.1, HF.out.2.1, HF.out.2.2.1, HF.out.2.2.2.1, HF.out.2.2.2.2⟩
  case done =>
    intro D T ys W hD hys hI hK
    obtain ⟨⟨v1, hv1, ho1, _, hle⟩, hB⟩ := hI
    rw [hys] at ho1 hle
    obtain ⟨a1, c1, rfl⟩ := ho1.form
    have cl : W.cell? ⟨bm + 1, 0, none⟩ = some (.slice a1 (tellL cs).length c1) := cell_blk hv1 0
    have HBB := Lib.hid (hB.trans (belowK_b (w := w) (Nat.le_refl _) W D _ (.deferred none) (Nat.le_trans HB0.out.size hD) hK rfl rfl))
    have HSS := Lib.hid (show SeesP (W.putObj D (.deferred none)) (.slice a1 (tellL cs).length c1) ((tellL cs).take most) by
      rw [List.take_of_length_le hle]
      exact (ho1.grown (grownBy_putObj' W D _) (fun r e => by cases e; exact ⟨_, hK, rfl⟩)).seesP)
    clear hys hB ho1 hv1
    gi_wp2
    refine ⟨by simp, .inl ⟨_, _, rfl, run_takeDeferred hK, ?_⟩⟩
    exact ⟨_, results_tmp rfl _ _ _, .slice a1 (tellL cs).length c1, rfl, HSS.out, (Kp.of_below HBB.out).mono (fun x hx h => by omega)⟩
  case stop =>
    intro D T k q W hD hpre hI hK
    obtain ⟨⟨rfl, pre, x, v1, rfl, hlen, hv1, ho1⟩, hB⟩ := hI
    obtain ⟨a1, c1, rfl⟩ := ho1.form
    have cl : W.cell? ⟨bm + 1, 0, none⟩ = some (.slice a1 pre.length c1) := cell_blk hv1 0
    have HBB := Lib.hid (hB.trans (belowK_b (w := w) (Nat.le_refl _) W D _ (.deferred none) (Nat.le_trans HB0.out.size hD) hK rfl rfl))
    have HSS := Lib.hid (show SeesP (W.putObj D (.deferred none)) (.slice a1 pre.length c1) ((tellL cs).take most) by
      have e : (tellL cs).take most = pre := by
        obtain ⟨r, hr⟩ := hpre
        rw [← hr, ← hlen, List.append_assoc, List.take_left']
        rfl
      rw [e]
      exact (ho1.grown (grownBy_putObj' W D _) (fun r e => by cases e; exact ⟨_, hK, rfl⟩)).seesP)
    clear hB ho1 hv1 hpre hlen
    gi_wp2
    refine ⟨by simp, .inl ⟨_, _, rfl, run_takeDeferred hK, ?_⟩⟩
    exact ⟨_, results_tmp rfl _ _ _, .slice a1 pre.length c1, rfl, HSS.out, (Kp.of_below HBB.out).mono (fun x hx h => by omega)⟩
end Go.Proofs.Ytpadabmbblcklaa
