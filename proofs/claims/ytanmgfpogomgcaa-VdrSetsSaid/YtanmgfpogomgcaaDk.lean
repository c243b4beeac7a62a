/-
  The validators, told one by one: the iterator that All gives; Total.
-/
import Derived.Test.YtanmgfpogomgcaaDj
import Derived.RangeFuncFrom
import Derived.RangeFuncLeaves
import Derived.RangeFuncCalls
import Derived.Shelf.Abstract
import Derived.Shelf.RegionOpen
import Derived.OwnWalkIn
import Derived.TacticsInMore
import Derived.LoopNIn
import Derived.LoopIn
namespace Go.Proofs.Ytanmgfpogomgcaa
open Go.RowKit Go.Shelf

attribute [local go_sem] Oper.semAt_some

theorem in_load_mid {F : Fence} {n : Nat} {P : Program} {ops : Array Oper} {rest : List Oper} {o : Oper} {a : Act} {w : World} {Q : Exit → Act → World → Prop} (hgd : o.guard = none) (ty : TypeId) (x : Operand) (ho : o.op = .load ty x)
    (b off : Nat) (hx : a.eval x = .pointer (some ⟨b, off, none⟩)) (cs : List Value) (d : TypeDesc) (hc : w.rangeAt b off cs)
    (hu : P.underlying ty = some d) (hd : d.isRow = true) (hi : (P.info? ty).map (·.size) = some cs.length)
    (h : wpListIn F n P ops Q rest (a.put o.dst (.agg cs.toArray)) w) : wpListIn F n P ops Q (o :: rest) a w := by
  refine wpListIn_plain hgd fun K hK => ⟨fun f hf => by simp [Oper.about, ho] at hf, ?_⟩
  rw [Oper.semAt_eq _ _ _ (by simp [ho])]
  unfold execOp
  simp only [ho, hx, Instr.loadAt, Instr.sureAddr, Sem.run_bind, Sem.run_pure, Result.andThen_ok, run_loadVar_mid w b off ty cs d hc hu hd hi]
  exact hK _ _ h
theorem in_fresh {F : Fence} {n : Nat} {P : Program} {ops : Array Oper} {rest : List Oper} {o : Oper} {a : Act} {w : World} {Q : Exit → Act → World → Prop} (hgd : o.guard = none) (ty : TypeId) (x y : Operand) (ho : o.op = .store ty x y)
    (cells : Array Value) (hx : a.eval x = .pointer (some ⟨w.heap.size, 0, none⟩)) (hy : a.eval y = .agg cells)
    (t : TypeId) (old : Array Value) (hi : (P.info? ty).map (·.size) = some cells.size)
    (hold : old.size = cells.size) (h1 : cells.all (·.oneCell') = true)
    (h : ∀ w2, Kp (fun _ => False) w w2 → w2.heap[w.heap.size]? = some (.cells cells t (0, 0)) → w2.heap.size = w.heap.size + 1 → wpListIn F n P ops Q rest (a.put o.dst undef) w2) :
    wpListIn F n P ops Q (o :: rest) a (w.alloc (.cells old t)) := by
  refine wpListIn_plain hgd fun K hK => ⟨fun f hf => by simp [Oper.about, ho] at hf, ?_⟩
  rw [Oper.semAt_eq _ _ _ (by simp [ho])]
  unfold execOp
  simp only [ho, hx, hy, Instr.storeAt, Instr.sureAddr, Sem.run_bind, Sem.run_pure, Result.andThen_ok, run_storeVar_row (w.alloc (.cells old t)) w.heap.size t ty old cells (new_blk _ _) hi hold h1]
  exact hK _ _ (h _ (st_row_kp ((Kp.refl _ w).alloc _) (by simp) _) (st_row_blk (new_blk _ _)) (by simp))
theorem in_dst {F : Fence} {n : Nat} (s : Nat) {P : Program} {ops : Array Oper} {Q : Exit → Act → World → Prop} {rest : List Oper} {op : Op} {ty : TypeId} {pos : String} {af : Array Edge} {g : Option (Nat × Bool)} {a : Act} {w : World}
    (h : wpListIn F n P ops Q (⟨some s, op, ty, pos, af, g⟩ :: rest) a w) : wpListIn F n P ops Q (⟨some s, op, ty, pos, af, g⟩ :: rest) a w := h
theorem in_store {F : Fence} {n : Nat} (x y : Nat) {P : Program} {ops : Array Oper} {Q : Exit → Act → World → Prop} {rest : List Oper} {t ty : TypeId} {pos : String} {af : Array Edge} {g : Option (Nat × Bool)} {a : Act} {w : World}
    (h : wpListIn F n P ops Q (⟨none, .store t (.tmp x) (.tmp y), ty, pos, af, g⟩ :: rest) a w) : wpListIn F n P ops Q (⟨none, .store t (.tmp x) (.tmp y), ty, pos, af, g⟩ :: rest) a w := h

theorem grown_of_kp {w w' : World} (k : Kp (fun _ => False) w w') : w.grownBy w' none := ⟨k.os, k.tape, k.output, k.size, fun x hx _ => k.block x hx (fun f => f)⟩

/-- these validators lie outside G -/
def ApartV (G : Nat → Prop) (v : Value) (l : List Vd) : Prop := l ≠ [] → ∀ g, v.ownBlock = some g → ¬ G g
theorem SeesV.keptG {G : Nat → Prop} {w w' : World} {v : Value} {l : List Vd} (h : SeesV w v l) (k : Kp G w w') (hG : ApartV G v l) : SeesV w' v l := by
  obtain ⟨a, cap, rfl, h1, h2, h3, h4⟩ := h
  exact ⟨a, cap, rfl, h1, h2, h3, fun i x hi => by
    obtain ⟨g, off, e, hr⟩ := h4 i x hi
    refine ⟨g, off, e, range_kept hr k (hG (by intro e; subst e; cases hi) g ?_)⟩
    subst e; rfl⟩

set_option maxRecDepth 100000 in
set_option maxHeartbeats 2000000 in
/-- the validators are told, in order, as long as one wants more -/
theorem all1_stops (F : Fence) (n : Nat) (hF : F.fn 25) (hro : F.round = none) (hn : 1 ≤ n) (G : Nat → Prop) (B : Nat) (v : Value) (l : List Vd) (w : World)
    (hc : w.cell? ⟨B, 0, none⟩ = some v) (hs : SeesV w v l) (hvG : ApartV G v l) :
    SeqStopsK F n Try.prog 25 #[.pointer (some ⟨B, 0, none⟩)] (fun x : Vd => #[Value.string x.name, Value.int .i64 x.wt]) (Kp G) (fun ys => ys = l) (fun pre => pre <+: l) l.length w := by
  intro lp J Jx W hW hJ hJx hY h0
  have kW : Kp (fun _ => False) w W := (Kp.of_below hW).mono (fun x hx h => by omega)
  have hcW : W.cell? ⟨B, 0, none⟩ = some v := by rw [kW.cell (lt_of_cell hc) (fun f => f)]; exact hc
  have hsW := hs.kept kW
  obtain ⟨a, c, rfl, hlc, hmax⟩ := hs.form
  have HS := Lib.hid hsW
  have HG := Lib.hid hvG
  have HI := Lib.hid infoVd
  have hz := zeroVd
  have HYH := Lib.hid hY
  have HJ := Lib.hid (fun s W W' (hs : J s W) (hk : Kp (fun _ => False) W W') => hJ s W W' none hs (grown_of_kp hk) (fun r e => by cases e))
  clear hY hJ hJx hs hsW hvG hc hW kW
  refine callsIn_of_wp Try.func25 rfl hF ?_ hro
  simp only [Try.ntmps25, List.size_toArray, List.length_cons, List.length_nil, Nat.reduceAdd, Nat.reduceSub, Array.replicate_succ, Array.replicate_zero, List.push_toArray, List.append_toArray, List.nil_append, List.cons_append]
  gi_wp2
  gi_loopw [7] (fun i wr => ∃ k : Nat, k ≤ l.length ∧ i = .int .i64 k ∧ J (l.take k) wr ∧ Hid (Kp G W wr)) (fun i _ => l.length - (intOf i).toNat)
  case atStart => exact ⟨0, Nat.zero_le _, rfl, h0, Lib.hid (Kp.refl _ _)⟩
  case round =>
    obtain ⟨k, hk, rfl, hJs, hkp⟩ := hrel
    by_cases hlt : k < l.length
    · obtain ⟨x, hx⟩ : ∃ x, l[k]? = some x := ⟨l[k], by simp [hlt]⟩
      obtain ⟨g, off, rfl, hr, _⟩ := (HS.out.keptG hkp.out HG.out).at hx
      have HR := Lib.hid hr
      have HT := Lib.hid (show l.take k ++ [x] = l.take (k + 1) by
        obtain ⟨hk', e⟩ := List.getElem?_eq_some_iff.1 hx
        rw [List.take_succ_eq_append_getElem hk', e])
      have HJS := Lib.hid hJs
      clear hr hx hJs
      gi_wp2_with (first
        | ((with_reducible refine in_dst 10 ?_); refine in_load_mid rfl 31 _ rfl g (off + k * 2) rfl (vdC x) _ HR.out Try.underlying31 rfl HI.out ?_)
        | ((with_reducible refine in_store 4 10 ?_); refine in_fresh rfl 31 _ _ rfl (vdC x).toArray rfl rfl 31 _ HI.out rfl (vdC_one x) ?_; intro w2 k2 m2 s2; have c0 : w2.cell? ⟨wr.heap.size, 0, none⟩ = some (.string x.name) := cell_blk m2 0; have c1 : w2.cell? ⟨wr.heap.size, 1, none⟩ = some (.int .i64 x.wt) := cell_blk m2 1; have J2 := HJ.out _ _ _ HJS.out k2; have K2 := Lib.hid (hkp.out.trans k2 (fun _ _ f => f.elim)); obtain ⟨fn, tmps, assign, body, hy, hR⟩ := HYH.out _ x w2 J2 (by rw [List.length_take]; omega); clear m2 s2 k2))
      refine hR.mono ?_
      rintro e W3 (⟨rfl, hJ3, hk3⟩ | ⟨rfl, hJx3⟩)
      · gi_wp2
        go_roundw
        case rel => exact ⟨k + 1, by omega, by simp, by rw [← HT.out]; exact hJ3, Lib.hid (K2.out.trans hk3 (fun _ _ f => f))⟩
        case measure => simp [intOf]; omega
      · gi_wp2
        refine bodyPost_ret (results_none rfl _ _ _) rfl ?_
        exact ⟨⟨_, rfl⟩, .inr ⟨_, by rw [HT.out]; exact List.take_prefix _ _, hJx3⟩⟩
    · obtain rfl : k = l.length := by omega
      rw [List.take_length] at hJs
      gi_wp2
      go_end0
      exact ⟨⟨_, rfl⟩, .inl ⟨_, rfl, hJs⟩⟩

theorem SeesV.lt {w : World} {v : Value} {l : List Vd} (h : SeesV w v l) (hne : l ≠ []) : ∀ g, v.ownBlock = some g → g < w.heap.size := by
  obtain ⟨a, cap, rfl, h1, h2, h3, h4⟩ := h
  intro g hg
  obtain ⟨x, r, rfl⟩ := List.exists_cons_of_ne_nil hne
  obtain ⟨g', off, e, hr⟩ := h4 0 x rfl
  subst e
  cases hg
  exact range_lt hr

/-- all weights together, as int64 adds them -/
def sumW : List Vd → Int := List.foldl (fun s x => wrap64 (s + x.wt)) 0
theorem sumW_snoc (l : List Vd) (x : Vd) : sumW (l ++ [x]) = wrap64 (sumW l + x.wt) := by simp [sumW]
theorem sumW_eq {l : List Vd} (h : GoodV l) : sumW l = sumV l := by
  have hp : ∀ k, k ≤ l.length → sumW (l.take k) = sumV (l.take k) := by
    intro k
    induction k with
    | zero => intro _; simp [sumW, sumV]
    | succ k ih =>
      intro hk
      obtain ⟨x, hx⟩ : ∃ x, l[k]? = some x := ⟨l[k], by simp⟩
      obtain ⟨hk', e⟩ := List.getElem?_eq_some_iff.1 hx
      have h1 := h.pre (k + 1)
      have h2 := h.sum
      rw [sumV_take hx] at h1 ⊢
      rw [List.take_succ_eq_append_getElem hk', e, sumW_snoc, ih (by omega)]
      unfold wrap64
      omega
  have := hp l.length (Nat.le_refl _)
  rwa [List.take_length] at this

set_option maxRecDepth 100000 in
set_option maxHeartbeats 2000000 in
theorem total_any {v : Value} {l : List Vd} {w : World} (hs : SeesV w v l) (hv : VOk l) : Calls Try.prog 8 #[v] w fun e w' => e = .returned (.int .i64 (totalV l)) ∧ Kp (fun _ => False) w w' := by
  have HC := Lib.hid (check_any hs hv)
  have HA := Lib.hid (fun w' (k : Kp (fun _ => False) w w') (h : l.length ≤ 1000000) => all_any (hs.kept k) h)
  obtain ⟨a, c, rfl, hlc, hmax⟩ := hs.form
  obtain ⟨z, hz'⟩ : ∃ z, z = totalV l := ⟨_, rfl⟩
  rw [← hz']
  obtain ⟨ce, hce⟩ : ∃ ce, ce = checkE l := ⟨_, rfl⟩
  have HZ := Lib.hid (show z = cond (decide (ce = 0)) (sumV l) 0 by rw [hz', hce]; rfl)
  have HG := Lib.hid (fun (h : ce = 0) => checkE_ok.1 (hce.symm.trans h))
  rw [← hce] at HC
  clear hs hv hz' hce
  by_cases h0 : ce = 0
  · subst h0
    have G := HG.out rfl
    have hl32 : l.length ≤ 1000000 := by have := G.most; omega
    have HGD := Lib.hid G
    clear G
    refine (callsIn_wide (n := 6)).1 ?_
    refine callsIn_of_wp_marks Try.func8 rfl trivial ?_ rfl
    simp only [Try.ntmps8, List.size_toArray, List.length_cons, List.length_nil, Nat.reduceAdd, Nat.reduceSub, Array.replicate_succ, Array.replicate_zero, List.push_toArray, List.append_toArray, List.nil_append, List.cons_append]
    gi_wp2_with (first
      | (refine ⟨trivial, ?_⟩; gi_at_call 6; refine (callsIn_wide.2 HC.out).mono ?_; rintro e w2 ⟨rfl, k2⟩; have K2 := Lib.hid k2; clear k2)
      | (refine ⟨trivial, ?_⟩; gi_at_call 14; refine (callsIn_wide.2 (HA.out _ (K2.out.alloc _) hl32)).mono ?_; rintro e w3 ⟨B, v3, rfl, hB, hc, hs3, hg3, k3⟩; have G3 := Lib.hid hg3; have K3 := Lib.hid k3; have C3 := Lib.hid hc; have S3 := Lib.hid hs3; have HB := Lib.hid hB; clear k3 hc hs3 hB hg3))
    have hcell : w3.cell? ⟨w2.heap.size, 0, none⟩ = some (.int .i64 0) := cell_blk (kept_blk (new_blk w2 _) K3.out (fun f => f)) 0
    have hfree : w3.frozen? ⟨w2.heap.size, 0, none⟩ = false := free_blk (kept_blk (new_blk w2 _) K3.out (fun f => f)) 0
    have hw3 : w2.heap.size + 1 ≤ w3.heap.size := by have := K3.out.size; simpa using this
    have hw2 := K2.out.size
    have HGA := Lib.hid (show ApartV (fun k => k = w2.heap.size ∨ w3.heap.size ≤ k) v3 l by
      intro hne g hg h
      have h1 := S3.out.lt hne g hg
      have h2 := G3.out g hg
      rw [World.size_alloc] at h2
      omega)
    have hb0 : Below w.heap.size w w3 := ((K2.out.alloc _).trans K3.out (fun _ _ f => f)).below (Nat.le_refl _) (fun _ f => f.elim)
    refine wpIn_rangeFunc_ownF rfl (by omega) (gf := 25) (lb := #[.pointer (some ⟨B, 0, none⟩)]) rfl trivial (enters_of Try.func25 (by kernel_rfl) rfl)
      (all1_stops Fence.wide _ trivial rfl (by omega) (fun k => k = w2.heap.size ∨ w3.heap.size ≤ k) B v3 l w3 C3.out S3.out HGA.out) (fun h k => h.trans k (fun _ _ f => f))
      (fun W q o o' hq ho _ _ => (Kp.of_grownBy (grownBy_putObj' W q o')).mono (fun x _ e => .inr (by cases e; exact hq))) (Below.refl _ _) (fun _ => rfl)
      (fun pre W => (W.cell? ⟨w2.heap.size, 0, none⟩ = some (.int .i64 (sumW pre)) ∧ W.frozen? ⟨w2.heap.size, 0, none⟩ = false) ∧ Below w.heap.size w W)
      (fun _ _ _ => False)
      (OwnFrom.and (Own.from (fun s A B row hs hg hr => ⟨cell_kept hs.1 hg hr, (frozen_kept hs.1 hg hr).trans hs.2⟩) _) (ownFrom_below (Nat.le_refl _) (by omega)))
      (fun _ _ _ _ _ hs _ _ => hs)
      ⟨⟨hcell, hfree⟩, hb0⟩
      (fun x => { tmps := #[.slice a l.length c, undef, .int .i64 0, .pointer (some ⟨w2.heap.size, 0, none⟩), undef, .int .i64 x.wt, .slice a l.length c, .int .i64 0, .bool false, .slice a l.length c, .func (.func 25) #[] #[.pointer (some ⟨B, 0, none⟩)], .string x.name, .int .i64 x.wt, undef, undef, undef, undef], defers := [] }) ?assign ?body ?done ?stop
    case assign =>
      intro l x W K hK
      gi_wp2
      exact hK
    case body =>
      rintro q pre x W ⟨⟨hc, hf⟩, hB⟩ _
      gi_wp2
      exact ⟨KeepsOthers.setCell _ _ _, (Kp.refl _ W).setCell (p := ⟨w2.heap.size, 0, none⟩) (fun _ => .inl rfl) _, ⟨by rw [sumW_snoc]; exact World.cell?_setCell_same' _ _ _ (by rw [hc]; rfl), by rw [World.frozen?_setCell]; exact hf⟩, hB.setCell (p := ⟨w2.heap.size, 0, none⟩) hw2 _⟩
    case done =>
      intro D ys W hD hys hI hK
      obtain ⟨⟨hc, _⟩, hB⟩ := hI
      rw [hys, sumW_eq HGD.out] at hc
      have HF := Lib.hid (show z = sumV l by rw [HZ.out]; rfl)
      have HB := Lib.hid (hB.trans (belowK_b (w := w) (Nat.le_refl _) W D _ (.deferred none) (by omega) hK rfl rfl))
      clear hys hB
      gi_wp2
      refine ⟨by simp, .inl ⟨_, _, rfl, run_takeDeferred hK, ?_⟩⟩
      exact ⟨_, results_tmp rfl _ _ _, by rw [HF.out]; rfl, (Kp.of_below HB.out).mono (fun x hx h => by omega)⟩
    case stop =>
      rintro D q pre W _ _ h _
      exact h.elim
  · have HF := Lib.hid (show z = 0 by rw [HZ.out, decide_eq_false h0]; rfl)
    have h0' : (ce != 0) = true := by simp [h0]
    refine (callsIn_wide (n := 6)).1 ?_
    refine callsIn_of_wp_marks Try.func8 rfl trivial ?_ rfl
    simp only [Try.ntmps8, List.size_toArray, List.length_cons, List.length_nil, Nat.reduceAdd, Nat.reduceSub, Array.replicate_succ, Array.replicate_zero, List.push_toArray, List.append_toArray, List.nil_append, List.cons_append]
    gi_wp2_with (refine ⟨trivial, ?_⟩; gi_at_call 6; refine (callsIn_wide.2 HC.out).mono ?_; rintro e w2 ⟨rfl, k2⟩; have K2 := Lib.hid k2; clear k2)
    exact ⟨_, results_tmp rfl _ _ _, by rw [HF.out]; rfl, K2.out⟩
end Go.Proofs.Ytanmgfpogomgcaa
