/-
  The law's own told: the names that an iterator tells, at most so many.
-/
import Derived.Test.YtoeinolekpmbbaaFi
import Derived.Test.YtoeinolekpmbbaaBaa
namespace Go.Proofs.Ytoeinolekpmbbaa
open Go.ChangeShapes Go.WideShapes Go.ChangeAt Go.RowKit Go.Shelf

attribute [local go_sem] Oper.semAt_some

set_option maxRecDepth 100000 in
theorem mkI1 (p : List Int) (hp : p.length = 32) (w : World) :
    (Instr.buildSlice 23 1 #[(0, .agg (U8s p).toArray)]).run Try.prog w = .ok (.slice (some ⟨w.heap.size, 0, none⟩) 1 1) (w.alloc (.cells (U8s p).toArray 27)) := by
  obtain ⟨x0, p0, rfl, xh0⟩ := list_consE hp
  obtain ⟨x1, p1, rfl, xh1⟩ := list_consE xh0
  obtain ⟨x2, p2, rfl, xh2⟩ := list_consE xh1
  obtain ⟨x3, p3, rfl, xh3⟩ := list_consE xh2
  obtain ⟨x4, p4, rfl, xh4⟩ := list_consE xh3
  obtain ⟨x5, p5, rfl, xh5⟩ := list_consE xh4
  obtain ⟨x6, p6, rfl, xh6⟩ := list_consE xh5
  obtain ⟨x7, p7, rfl, xh7⟩ := list_consE xh6
  obtain ⟨x8, p8, rfl, xh8⟩ := list_consE xh7
  obtain ⟨x9, p9, rfl, xh9⟩ := list_consE xh8
  obtain ⟨x10, p10, rfl, xh10⟩ := list_consE xh9
  obtain ⟨x11, p11, rfl, xh11⟩ := list_consE xh10
  obtain ⟨x12, p12, rfl, xh12⟩ := list_consE xh11
  obtain ⟨x13, p13, rfl, xh13⟩ := list_consE xh12
  obtain ⟨x14, p14, rfl, xh14⟩ := list_consE xh13
  obtain ⟨x15, p15, rfl, xh15⟩ := list_consE xh14
  obtain ⟨x16, p16, rfl, xh16⟩ := list_consE xh15
  obtain ⟨x17, p17, rfl, xh17⟩ := list_consE xh16
  obtain ⟨x18, p18, rfl, xh18⟩ := list_consE xh17
  obtain ⟨x19, p19, rfl, xh19⟩ := list_consE xh18
  obtain ⟨x20, p20, rfl, xh20⟩ := list_consE xh19
  obtain ⟨x21, p21, rfl, xh21⟩ := list_consE xh20
  obtain ⟨x22, p22, rfl, xh22⟩ := list_consE xh21
  obtain ⟨x23, p23, rfl, xh23⟩ := list_consE xh22
  obtain ⟨x24, p24, rfl, xh24⟩ := list_consE xh23
  obtain ⟨x25, p25, rfl, xh25⟩ := list_consE xh24
  obtain ⟨x26, p26, rfl, xh26⟩ := list_consE xh25
  obtain ⟨x27, p27, rfl, xh27⟩ := list_consE xh26
  obtain ⟨x28, p28, rfl, xh28⟩ := list_consE xh27
  obtain ⟨x29, p29, rfl, xh29⟩ := list_consE xh28
  obtain ⟨x30, p30, rfl, xh30⟩ := list_consE xh29
  obtain ⟨x31, p31, rfl, xh31⟩ := list_consE xh30
  obtain rfl := List.eq_nil_of_length_eq_zero xh31
  kernel_rfl
theorem zId_size : (Value.agg (U8s (List.replicate 32 0)).toArray).cells.size = 32 := by kernel_rfl
theorem src_id (x : List Int) (hx : x.length = 32) {w : World} {g : Nat} (h : w.heap[g]? = some (.cells (U8s x).toArray 27 (0, 0))) : Src Try.prog 32 23 (.slice (some ⟨g, 0, none⟩) 1 1) 1 (U8s x) w :=
  Src.ofSlice _ Try.underlying23 _ 1 1 (U8s x) (by rw [U8s_length, hx]) (fun j u hj => by rw [Addr.add_lit]; exact range_blk h j u hj) (U8s_one x)
theorem flat_getI : ∀ {ids : List (List Int)}, (∀ x ∈ ids, x.length = 32) → ∀ {i : Nat} {x : List Int}, ids[i]? = some x → ∀ {j : Nat} {u : Int}, x[j]? = some u → ids.flatten[i * 32 + j]? = some u
  | [], _, _, _, h, _, _, _ => by cases h
  | y :: r, hl, i, x, hi, j, u, hj => by
    have hy := hl y (List.mem_cons_self ..)
    rw [List.flatten_cons]
    cases i with
    | zero =>
      cases hi
      rw [Nat.zero_mul, Nat.zero_add, List.getElem?_append_left (List.getElem?_eq_some_iff.1 hj).1]; exact hj
    | succ i =>
      rw [List.getElem?_append_right (by omega), hy, show (i + 1) * 32 + j - 32 = i * 32 + j by omega]
      exact flat_getI (fun z hz => hl z (List.mem_cons_of_mem _ hz)) (by simpa using hi) hj
theorem own_seesI {w : World} {B : Nat} {v : Value} {ids : List (List Int)} (hl : ∀ x ∈ ids, x.length = 32) (h : OwnG 27 32 w B v ids.length (U8s ids.flatten)) : SeesI (fun g => B ≤ g) w v ids := by
  obtain ⟨hcl, ⟨rfl, h0⟩ | ⟨g, cap, rest, rfl, hB, h2, h3, h4, h5⟩⟩ := h
  · obtain rfl : ids = [] := List.eq_nil_of_length_eq_zero h0
    exact .inl ⟨rfl, rfl⟩
  · refine .inr ⟨_, cap, rfl, h4, h5, fun _ => hB, fun i x hi j u hj => ?_⟩
    rw [Addr.add_lit, Nat.zero_add, cell_blk h2, List.getElem?_toArray]
    have hg := flat_getI hl hi hj
    have hg2 := U8s_get hg
    rw [List.getElem?_append_left (List.getElem?_eq_some_iff.1 hg2).1]
    exact hg2
theorem in_slice_run {F : Fence} {n : Nat} {P : Program} {ops : Array Oper} {rest : List Oper} {o : Oper} {a : Act} {w : World} {Q : Exit → Act → World → Prop} (hgd : o.guard = none) (t : TypeId) (len : Nat) (parts : Array (Nat × Operand)) (ho : o.op = .buildSlice t len parts)
    (vs : List (Nat × Value)) (hv : (parts.toList.map fun x => (x.1, a.eval x.2)) = vs) (v : Value) (w' : World) (hr : (Instr.buildSlice t len vs.toArray).run P w = .ok v w')
    (h : wpListIn F n P ops Q rest (a.put o.dst v) w') : wpListIn F n P ops Q (o :: rest) a w := by
  have e : (parts.map fun (i, x) => (i, a.eval x)) = vs.toArray := by rw [← hv]; apply Array.ext'; simp
  refine wpListIn_plain hgd fun K hK => ⟨fun f hf => by simp [Oper.about, ho] at hf, ?_⟩
  rw [Oper.semAt_eq _ _ _ (by simp [ho])]
  unfold execOp
  simp only [ho, e, Sem.run_bind, hr, Result.andThen_ok]
  exact hK _ _ h
theorem in_app_run {F : Fence} {n : Nat} {P : Program} {w : World} {ops : Array Oper} {rest : List Oper} {o : Oper} {a : Act} {Q : Exit → Act → World → Prop}
    (hg : o.guard = none) (s x : Operand) (t t' : TypeId) (hop : o.op = Op.call { callee := Callee.builtin Builtin.append, args := #[s, x], argTypes := #[t, t'] })
    (vs vx v' : Value) (hs : a.eval s = vs) (hx : a.eval x = vx) (w' : World) (hrun : ∀ ty, (Builtin.append_ #[t, t'] ty #[vs, vx]).run P w = .ok v' w')
    (h : wpListIn F n P ops Q rest (a.put o.dst v') w') : wpListIn F n P ops Q (o :: rest) a w := by
  refine wpListIn_plain hg fun K hK' => ?_
  unfold Oper.wpIn
  refine ⟨?_, ?_⟩
  · simp [Oper.about, hop, resolve, Target.leads, Sem.run_pure]
  · rw [Oper.semAt_plain F _ _ (by rw [hop]; intro c hc'; cases hc')]
    simp [execOp, hop, resolve, invoke, builtin, hs, hx, hrun, Result.andThen]
    exact hK' _ _ h
theorem own_grown {T sz : Nat} {w w' : World} {B n : Nat} {v : Value} {cs : List Value} {row : Option Nat} (h : OwnG T sz w B v n cs) (hg : w.grownBy w' row) (hr : ∀ r, row = some r → ∃ o : Obj, w.heap[r]? = some o ∧ o.isCells = false) : OwnG T sz w' B v n cs := by
  obtain ⟨h0, h | ⟨g, cap, rest, rfl, h1, h2, h3⟩⟩ := h
  · exact ⟨h0, .inl h⟩
  · refine ⟨h0, .inr ⟨g, cap, rest, rfl, h1, ?_, h3⟩⟩
    rw [hg.block g (lt_of_blk h2) (fun e => by
      obtain ⟨o, ho, hc⟩ := hr g e.symm
      rw [h2] at ho; cases ho; cases hc)]
    exact h2
theorem blk_grown' {w w' : World} {g t : Nat} {cs : Array Value} {fr : Nat × Nat} {row : Option Nat} (h : w.heap[g]? = some (.cells cs t fr)) (hg : w.grownBy w' row) (hr : ∀ r, row = some r → ∃ o : Obj, w.heap[r]? = some o ∧ o.isCells = false) : w'.heap[g]? = some (.cells cs t fr) := by
  rw [hg.block g (lt_of_blk h) (fun e => by
    obtain ⟨o, ho, hc⟩ := hr g e.symm
    rw [h] at ho; cases ho; cases hc)]
  exact h
theorem others_of_kp {W W' : World} {F : Nat → Prop} (k : Kp F W W') (hF : ∀ g o, F g → W.heap[g]? = some o → o.isCells = true) : KeepsOthers W W' :=
  ⟨k.size, fun g o ho hc => by
    rw [k.block g (lt_of_blk ho) (fun f => by rw [hF g o f ho] at hc; cases hc)]
    exact ho⟩
theorem fnT_not_nil (B0 B1 : Nat) (w : World) : (binOp BinOp.eql 53 (Value.func (Fn.func 44) #[] #[Value.pointer (some { block := B1, off := 0 }), Value.pointer (some { block := B0, off := 0 })]) Value.nilFunc).run Try.prog w = .ok (.bool false) w := by
  kernel_rfl
theorem atlV_nm {l : List Vt} (hv : TOk l) {q : Int} : ∀ x ∈ atlV l q, Nm x := fun x hx => by
  obtain ⟨y, hy, rfl⟩ := List.mem_map.1 hx
  exact (hv y (List.mem_filter.1 hy).1).nm

set_option maxRecDepth 100000 in
set_option maxHeartbeats 4000000 in
theorem toldT_any {v : Value} {l : List Vt} {B0 B1 : Nat} {q : Int} {w : World} (hc0 : w.cell? ⟨B0, 0, none⟩ = some (.int .i64 q)) (hc1 : w.cell? ⟨B1, 0, none⟩ = some v) (hs : SeesT w v l) (hv : TOk l) (hl : l.length ≤ 100) (most : Nat) :
    Calls Try.prog 34 #[.func (.func 44) #[] #[.pointer (some ⟨B1, 0, none⟩), .pointer (some ⟨B0, 0, none⟩)], .int .i64 most] w fun e w' => ∃ v', e = .returned v' ∧ SeesI (fun g => w.heap.size ≤ g) w' v' ((atlV l q).take most) ∧ Kp (fun _ => False) w w' := by
  have k0 : Kp (fun _ => False) w ((w.alloc (.cells #[.int .i64 most] 3)).alloc (.cells #[.slice none 0 0] 23)) := ((Kp.refl _ w).alloc _).alloc _
  have hbm := old_blk (new_blk w (.cells #[.int .i64 most] 3)) (.cells #[.slice none 0 0] 23)
  have hbl := new_blk (w.alloc (.cells #[.int .i64 most] 3)) (.cells #[.slice none 0 0] 23)
  rw [World.size_alloc] at hbl
  have hsz : ((w.alloc (.cells #[.int .i64 most] 3)).alloc (.cells #[.slice none 0 0] 23)).heap.size = w.heap.size + 2 := by simp
  have hc00 := (k0.cell (p := ⟨B0, 0, none⟩) (lt_of_cell hc0) (fun f => f)).trans hc0
  have hc10 := (k0.cell (p := ⟨B1, 0, none⟩) (lt_of_cell hc1) (fun f => f)).trans hc1
  have hs0 := hs.kept k0
  have HAP : ApartT (fun k => w.heap.size ≤ k) v l := fun hne g hg => by have := hs.lt hne g hg; omega
  have hGB0 : ¬ (w.heap.size ≤ B0) := by
    have h := lt_of_cell hc0
    have h' : B0 < w.heap.size := h
    omega
  have hb0 : Below w.heap.size w ((w.alloc (.cells #[.int .i64 most] 3)).alloc (.cells #[.slice none 0 0] 23)) := k0.below (Nat.le_refl _) (fun _ f => f.elim)
  have hALN : (atlV l q).length ≤ 100 := by
    unfold atlV
    rw [List.length_map]
    exact Nat.le_trans (List.length_filter_le _ _) hl
  obtain ⟨w0, hw0⟩ : ∃ w0, w0 = (w.alloc (.cells #[.int .i64 most] 3)).alloc (.cells #[.slice none 0 0] 23) := ⟨_, rfl⟩
  rw [← hw0] at k0 hbm hbl hsz hc00 hc10 hs0 hb0
  have HW0 := Lib.hid hw0
  have HC0 := Lib.hid hc00
  have HC1 := Lib.hid hc10
  have HS0 := Lib.hid hs0
  have HV := Lib.hid hv
  have HAP := Lib.hid HAP
  have HGB0 := Lib.hid hGB0
  have HBM := Lib.hid hbm
  have HBL := Lib.hid hbl
  have HB0 := Lib.hid hb0
  have HALN := Lib.hid hALN
  have HNM := Lib.hid (atlV_nm hv (q := q))
  have hz : ∀ w, (zeroValue 27).run Try.prog w = .ok (.agg (U8s (List.replicate 32 0)).toArray) w := fun w => by kernel_rfl
  have HID := Lib.hid (fun (x : List Int) (h : x.length = 32) => infoIdL h)
  clear hc0 hc1 hs k0 hbm hbl hc00 hc10 hs0 hb0 hw0 hGB0 hALN hv
  refine (callsIn_wide (n := 6)).1 ?_
  refine callsIn_of_wp_marks Try.func34 rfl trivial ?_ rfl
  simp only [Try.ntmps34, List.size_toArray, List.length_cons, List.length_nil, Nat.reduceAdd, Nat.reduceSub, Array.replicate_succ, Array.replicate_zero, List.push_toArray, List.append_toArray, List.nil_append, List.cons_append]
  have hnn := fnT_not_nil B0 B1
  gi_wp2
  show Code.wpIn _ _ _ _ _ _ ((w.alloc (.cells #[.int .i64 most] 3)).alloc (.cells #[.slice none 0 0] 23))
  rw [← HW0.out]
  obtain ⟨bm, hbm⟩ : ∃ b, b = w.heap.size := ⟨_, rfl⟩
  have HBMe := Lib.hid hbm
  rw [← hbm] at HBM HBL hsz HAP HGB0 ⊢
  clear hbm
  have hwb := HB0.out.size
  refine rangeFunc_boxed 27 (fun x => (U8s (norm32 x)).toArray) rfl (by omega) (gf := 44) (lb := #[.pointer (some ⟨B1, 0, none⟩), .pointer (some ⟨B0, 0, none⟩)]) rfl trivial (enters_of Try.func44 (by kernel_rfl) rfl)
    (al1_stops Fence.wide _ trivial rfl (by omega) (fun k => bm ≤ k) B0 B1 v l q w0 HC0.out HC1.out HGB0.out HS0.out HV.out HAP.out) (fun h k => h.trans k (fun _ _ f => f))
    (fun W q o o' hq ho _ => (Kp.of_grownBy (grownBy_putObj' W q o')).mono (fun x _ e => by cases e; show bm ≤ q; omega)) (fun h => h.mono (fun _ _ f => f.elim)) (Below.refl _ _) (fun _ => rfl)
    (fun pre W => (∃ v', W.heap[bm + 1]? = some (.cells #[v'] 23 (0, 0)) ∧ OwnG 27 32 W (bm + 2) v' pre.length (U8s (pre.map norm32).flatten) ∧ W.heap[bm]? = some (.cells #[.int .i64 most] 3 (0, 0)) ∧ pre.length ≤ most) ∧ Below w.heap.size w W)
    (fun c ys W => (c = .exit 0 ∧ ∃ pre x v', ys = pre ++ [x] ∧ pre.length = most ∧ W.heap[bm + 1]? = some (.cells #[v'] 23 (0, 0)) ∧ OwnG 27 32 W (bm + 2) v' pre.length (U8s (pre.map norm32).flatten)) ∧ Below w.heap.size w W)
    (OwnFrom.and (Own.from (fun s A B row hs hg hr => by
      obtain ⟨v', h1, h2, h3, h4⟩ := hs
      exact ⟨v', blk_grown' h1 hg hr, own_grown h2 hg hr, blk_grown' h3 hg hr, h4⟩) _) (ownFrom_below (Nat.le_refl _) (by omega)))
    (fun c => OwnFrom.and (Own.from (fun s A B row hs hg hr => by
      obtain ⟨e, pre, x, v', e2, e3, h1, h2⟩ := hs
      exact ⟨e, pre, x, v', e2, e3, blk_grown' h1 hg hr, own_grown h2 hg hr⟩) _) (ownFrom_below (Nat.le_refl _) (by omega)))
    ⟨⟨_, HBL.out, OwnG.nil _ _ _ _, HBM.out, Nat.zero_le _⟩, HB0.out⟩
    (fun x b => { tmps := #[.func (.func 44) #[] #[.pointer (some ⟨B1, 0, none⟩), .pointer (some ⟨B0, 0, none⟩)], .int .i64 most, undef, .pointer (some ⟨bm, 0, none⟩), .slice none 0 0, .pointer (some ⟨bm + 1, 0, none⟩), .pointer (some ⟨b, 0, none⟩), .func (.func 44) #[] #[.pointer (some ⟨B1, 0, none⟩), .pointer (some ⟨B0, 0, none⟩)], .bool false, .func (.func 44) #[] #[.pointer (some ⟨B1, 0, none⟩), .pointer (some ⟨B0, 0, none⟩)], .agg (U8s (norm32 x)).toArray, undef, undef, undef, undef, undef, undef, undef, undef, undef], defers := [] }) ?assign ?body ?done ?stop
  case assign =>
    intro lp x W K hK
    have HK := Lib.hid hK
    have HX := Lib.hid (info32 (norm32 x) (norm32_len x))
    have HX1 := Lib.hid (show (U8s (List.replicate 32 0)).toArray.size = (U8s (norm32 x)).toArray.size by simp [U8s_length, norm32_len])
    clear hK
    gi_wp2_with ((with_reducible refine ind_store 6 10 ?_); refine in_new rfl 27 _ _ rfl (U8s (norm32 x)).toArray rfl rfl 27 _ HX.out HX1.out (all_oneCell_toArray (U8s_one _)) ?_; intro w2 k2 m2 s2; have HH := Lib.hid (HK.out w2 ⟨k2, m2, s2⟩); clear k2 m2 s2)
    exact HH.out
  case body =>
    rintro lp pre x b W ⟨⟨v1, hv1, ho1, hbm1, hle⟩, hB⟩ hb2 hbx hWb hlen
    obtain ⟨a1, c1, rfl⟩ := ho1.form
    have cm : W.cell? ⟨bm, 0, none⟩ = some (.int .i64 most) := cell_blk hbm1 0
    have cl : W.cell? ⟨bm + 1, 0, none⟩ = some (.slice a1 pre.length c1) := cell_blk hv1 0
    by_cases hfull : most ≤ pre.length
    · have hfull' : (most : Int) ≤ pre.length := by omega
      have HR := Lib.hid (show (∃ (pre' : List (List Int)) (x' : List Int) (v' : Value), pre ++ [x] = pre' ++ [x'] ∧ pre'.length = most ∧ W.heap[bm + 1]? = some (.cells #[v'] 23 (0, 0)) ∧ OwnG 27 32 W (bm + 2) v' pre'.length (U8s (pre'.map norm32).flatten)) from ⟨pre, x, _, rfl, by omega, hv1, ho1⟩)
      clear ho1 hv1 hbx hWb
      gi_wp2
      exact ⟨KeepsOthers.refl _, ⟨rfl, HR.out⟩, hB⟩
    · have hfull' : ¬ (most : Int) ≤ pre.length := by omega
      have hxl := norm32_len x
      have kA : Kp (fun _ => False) W (W.alloc (.cells (U8s (norm32 x)).toArray 27)) := (Kp.refl _ _).alloc _
      have hWs := hB.size
      have hWs2 : bm + 2 ≤ W.heap.size := by have := lt_of_blk hv1; omega
      obtain ⟨v2, w2, hap, ho2, k2, _⟩ := app_own Try.underlying23 infoIdG zId_size (w := W.alloc (.cells (U8s (norm32 x)).toArray 27)) (B := bm + 2) (Nat.le_trans hWs2 kA.size) (ho1.kept kA (fun _ _ f => f)) (src_id (norm32 x) hxl (new_blk W _)) (Nat.le_refl 1) (show pre.length + 1 ≤ 1000000 by have := HALN.out; omega) (by omega)
      obtain ⟨a2, c2, rfl⟩ := ho2.form
      have hnb : ¬ (Value.slice a1 pre.length c1).ownBlock = some (bm + 1) := fun e => by have := (ho1.lt _ e).1; omega
      have hnm : ¬ (Value.slice a1 pre.length c1).ownBlock = some bm := fun e => by have := (ho1.lt _ e).1; omega
      have hv2 := kept_blk (kept_blk hv1 kA (fun f => f)) k2 hnb
      have cl2 : w2.cell? ⟨bm + 1, 0, none⟩ = some (.slice a1 pre.length c1) := cell_blk hv2 0
      have fl2 : w2.frozen? ⟨bm + 1, 0, none⟩ = false := free_blk hv2 0
      have kAll : Kp (fun k => (Value.slice a1 pre.length c1).ownBlock = some k ∨ k = bm + 1) W (w2.setCell ⟨bm + 1, 0, none⟩ (.slice a2 (pre.length + 1) c2)) :=
        ((kA.mono (fun _ _ f => f.elim)).trans k2 (fun _ _ e => .inl e)).setCell (fun _ => .inr rfl) _
      have hKO : KeepsOthers W (w2.setCell ⟨bm + 1, 0, none⟩ (.slice a2 (pre.length + 1) c2)) := others_of_kp kAll (fun g o hg ho => by
        rcases hg with hg | rfl
        · obtain ⟨_, ⟨e, _⟩ | ⟨g', cap, rest, e, _, h2, _⟩⟩ := ho1
          · rw [e] at hg; cases hg
          · rw [e] at hg
            have := own_some hg
            subst this
            rw [h2] at ho; cases ho; rfl
        · rw [hv1] at ho; cases ho; rfl)
      have hv3 := set_blk hv2 0 (.slice a2 (pre.length + 1) c2)
      have hbm3 := kept_blk hbm1 kAll (by rintro (h | h); exact hnm h; omega)
      have ho3 : OwnG 27 32 (w2.setCell ⟨bm + 1, 0, none⟩ (.slice a2 (pre.length + 1) c2)) (bm + 2) (.slice a2 (pre.length + 1) c2) (pre.length + 1) (U8s (pre.map norm32).flatten ++ U8s (norm32 x)) :=
        ho2.kept ((Kp.refl (fun k => k = bm + 1) w2).setCell (p := ⟨bm + 1, 0, none⟩) (fun _ => rfl) _) (fun g hg e => by have := (ho2.lt g hg).1; omega)
      have HF := Lib.hid (show KeepsOthers W (w2.setCell ⟨bm + 1, 0, none⟩ (.slice a2 (pre.length + 1) c2)) ∧ Kp (fun k => bm ≤ k) W (w2.setCell ⟨bm + 1, 0, none⟩ (.slice a2 (pre.length + 1) c2)) ∧
          (∃ v', (w2.setCell ⟨bm + 1, 0, none⟩ (.slice a2 (pre.length + 1) c2)).heap[bm + 1]? = some (.cells #[v'] 23 (0, 0)) ∧ OwnG 27 32 (w2.setCell ⟨bm + 1, 0, none⟩ (.slice a2 (pre.length + 1) c2)) (bm + 2) v' (pre ++ [x]).length (U8s ((pre ++ [x]).map norm32).flatten) ∧
            (w2.setCell ⟨bm + 1, 0, none⟩ (.slice a2 (pre.length + 1) c2)).heap[bm]? = some (.cells #[.int .i64 most] 3 (0, 0)) ∧ (pre ++ [x]).length ≤ most) ∧ Below w.heap.size w (w2.setCell ⟨bm + 1, 0, none⟩ (.slice a2 (pre.length + 1) c2)) from by
        have hge : ∀ k, ((Value.slice a1 pre.length c1).ownBlock = some k ∨ k = bm + 1) → bm ≤ k := by
          rintro k (h | h)
          · have := (ho1.lt _ h).1; omega
          · omega
        refine ⟨hKO, kAll.mono (fun k _ h => hge k h), ⟨_, hv3, ?_, hbm3, by simp; omega⟩, hB.trans (kAll.below hWs (fun k h => by have := hge k h; have := HBMe.out; omega))⟩
        rw [List.length_append, List.map_append, List.flatten_append, U8s_append]
        have e1 : U8s ([x].map norm32).flatten = U8s (norm32 x) := by simp
        rw [e1]
        exact ho3)
      have HAPP := Lib.hid hap
      have HBX := Lib.hid (range_blk hbx)
      have HIX := Lib.hid (HID.out (norm32 x) hxl)
      have HMK := Lib.hid (mkI1 (norm32 x) hxl W)
      clear hap ho3 hv3 hbm3 hKO kAll ho2 hv2 ho1 hv1 k2 kA hnb hnm hbm1 hbx hWb hxl
      gi_wp2_with (first
        | ((with_reducible refine ind_dst 16 ?_); refine in_ld rfl 27 _ rfl b 0 rfl (U8s (norm32 x)) _ HBX.out Try.underlying27 rfl HIX.out ?_)
        | ((with_reducible refine ind_dst 17 ?_); refine in_slice_run rfl 23 1 _ rfl _ rfl _ _ HMK.out ?_)
        | ((with_reducible refine ind_dst 18 ?_); refine in_app_run rfl _ _ _ _ rfl _ _ _ rfl rfl _ (HAPP.out) ?_))
      exact ⟨HF.out.1, HF.out.2.1, HF.out.2.2.1, HF.out.2.2.2⟩
  case done =>
    intro D ys W hD hys hI hK
    obtain ⟨⟨v1, hv1, ho1, _, hle⟩, hB⟩ := hI
    rw [hys] at ho1 hle
    obtain ⟨a1, c1, rfl⟩ := ho1.form
    have cl : W.cell? ⟨bm + 1, 0, none⟩ = some (.slice a1 (atlV l q).length c1) := cell_blk hv1 0
    have HB := Lib.hid (hB.trans (belowK_b (w := w) (Nat.le_refl _) W D _ (.deferred none) (Nat.le_trans HB0.out.size hD) hK rfl rfl))
    have HS := Lib.hid (show SeesI (fun g => w.heap.size ≤ g) (W.putObj D (.deferred none)) (.slice a1 (atlV l q).length c1) ((atlV l q).take most) by
      rw [List.take_of_length_le hle]
      have hlens : ∀ x ∈ atlV l q, x.length = 32 := fun x hx => (HNM.out x hx).len
      rw [norm32_map hlens] at ho1
      exact (own_seesI hlens (own_grown ho1 (grownBy_putObj' W D _) (fun r e => by cases e; exact ⟨_, hK, rfl⟩))).mono (fun g _ hg => by have := HBMe.out; omega) hlens)
    clear hys hB ho1 hv1
    gi_wp2
    refine ⟨by simp, .inl ⟨_, _, rfl, run_takeDeferred hK, ?_⟩⟩
    exact ⟨_, results_tmp rfl _ _ _, .slice a1 (atlV l q).length c1, rfl, HS.out, (Kp.of_below HB.out).mono (fun x hx h => by omega)⟩
  case stop =>
    intro D c ys W hD hpre hI hK
    obtain ⟨⟨rfl, pre, x, v1, rfl, hlen, hv1, ho1⟩, hB⟩ := hI
    obtain ⟨a1, c1, rfl⟩ := ho1.form
    have cl : W.cell? ⟨bm + 1, 0, none⟩ = some (.slice a1 pre.length c1) := cell_blk hv1 0
    have HB := Lib.hid (hB.trans (belowK_b (w := w) (Nat.le_refl _) W D _ (.deferred none) (Nat.le_trans HB0.out.size hD) hK rfl rfl))
    have HS := Lib.hid (show SeesI (fun g => w.heap.size ≤ g) (W.putObj D (.deferred none)) (.slice a1 pre.length c1) ((atlV l q).take most) by
      have e : (atlV l q).take most = pre := by
        obtain ⟨r, hr⟩ := hpre
        rw [← hr, ← hlen, List.append_assoc, List.take_left']
        rfl
      have hlens : ∀ x ∈ pre, x.length = 32 := fun y hy => (HNM.out y (by
        rw [← e] at hy
        exact List.mem_of_mem_take hy)).len
      rw [e]
      rw [norm32_map hlens] at ho1
      exact (own_seesI hlens (own_grown ho1 (grownBy_putObj' W D _) (fun r e => by cases e; exact ⟨_, hK, rfl⟩))).mono (fun g _ hg => by have := HBMe.out; omega) hlens)
    clear hB ho1 hv1 hpre hlen
    gi_wp2
    refine ⟨by simp, .inl ⟨_, _, rfl, run_takeDeferred hK, ?_⟩⟩
    exact ⟨_, results_tmp rfl _ _ _, .slice a1 pre.length c1, rfl, HS.out, (Kp.of_below HB.out).mono (fun x hx h => by omega)⟩
end Go.Proofs.Ytoeinolekpmbbaa
