/-
  Rows of votes of one's own and what shows them; slices.Clone at votes; package bag's AtLeast: the names with so many, told one by one.
-/
import Derived.Test.YtoeinolekpmbbaaFe
import Derived.Test.YtoeinolekpmbbaaFr
import Derived.Shelf.Abstract
import Derived.Shelf.RegionOpen
import Derived.OwnWalkIn
import Derived.TacticsInMore
import Derived.LoopNIn
import Derived.LoopIn
import Derived.Lib.SliceRun
namespace Go.Proofs.Ytoeinolekpmbbaa
open Go.ChangeShapes Go.WideShapes Go.ChangeAt Go.RowKit Go.Shelf

attribute [local go_sem] Oper.semAt_some

theorem mkF1 (a : Option Addr) (n c : Nat) (w : World) : (Instr.buildSlice 43 1 #[(0, .slice a n c)]).run Try.prog w = .ok (.slice (some ⟨w.heap.size, 0, none⟩) 1 1) (w.alloc (.cells #[.slice a n c] 22)) := by
  kernel_rfl
theorem mkF2 (a : Option Addr) (n c : Nat) (b : Option Addr) (m d : Nat) (w : World) : (Instr.buildSlice 43 2 #[(0, .slice a n c), (1, .slice b m d)]).run Try.prog w = .ok (.slice (some ⟨w.heap.size, 0, none⟩) 2 2) (w.alloc (.cells #[.slice a n c, .slice b m d] 22)) := by
  kernel_rfl
theorem flatT_inv {l : List Vt} (hl : ∀ x ∈ l, x.id.length = 32) {k : Nat} {u : Value} (h : (flatT l)[k]? = some u) : ∃ i j x, k = i * 33 + j ∧ l[i]? = some x ∧ (vtC x)[j]? = some u := by
  have hk := (List.getElem?_eq_some_iff.1 h).1
  rw [flatT_length hl] at hk
  have hi := List.getElem?_eq_getElem (l := l) (i := k / 33) (by omega)
  have hg := flatT_get hl hi (c := k % 33) (Nat.mod_lt _ (by omega))
  rw [show k / 33 * 33 + k % 33 = k by omega, h] at hg
  exact ⟨k / 33, k % 33, _, by omega, hi, hg.symm⟩
theorem SeesT.src {w : World} {a : Option Addr} {n c : Nat} {l : List Vt} (hl : ∀ x ∈ l, x.id.length = 32) (h : SeesT w (.slice a n c) l) : Src Try.prog 33 22 (.slice a n c) l.length (flatT l) w := by
  obtain ⟨a', cap, e, h1, h2, h3, h4⟩ := h
  injection e with e1 e2 e3
  subst e1 e2 e3
  cases a with
  | none =>
    obtain rfl : l = [] := List.eq_nil_of_length_eq_zero (by have := h3 rfl; omega)
    exact Src.ofNil _ Try.underlying22 c
  | some ad =>
    refine Src.ofSlice _ Try.underlying22 ad l.length c (flatT l) (flatT_length hl) (fun k u hk => ?_) (flatT_one l)
    obtain ⟨i, j, x, rfl, hx, hj⟩ := flatT_inv hl hk
    obtain ⟨g, off, e, hr⟩ := h4 i x hx
    cases e
    rw [Addr.add_lit]
    have := hr j u hj
    rw [← this]
    congr 2
    omega
theorem OwnG.seesT {w : World} {B : Nat} {v : Value} {l : List Vt} (hl : ∀ x ∈ l, x.id.length = 32) (h : OwnG 33 33 w B v l.length (flatT l)) : SeesT w v l := by
  obtain ⟨_, ⟨rfl, h0⟩ | ⟨g, cap, rest, rfl, _, h2, _, h4, h5⟩⟩ := h
  · obtain rfl : l = [] := List.eq_nil_of_length_eq_zero h0
    exact SeesT.nil w
  · refine ⟨_, cap, rfl, h4, h5, (by intro e; cases e), fun i x hi => ⟨g, 0, rfl, fun j u hj => ?_⟩⟩
    have hx := hl x (List.mem_of_getElem? hi)
    have hj33 := (List.getElem?_eq_some_iff.1 hj).1
    rw [vtC_length hx] at hj33
    have hg := flatT_get hl hi hj33
    rw [cell_blk h2, Nat.zero_add, List.getElem?_toArray, List.getElem?_append_left (by rw [hj] at hg; exact (List.getElem?_eq_some_iff.1 hg).1), hg]
    exact hj

set_option maxRecDepth 100000 in
set_option maxHeartbeats 1600000 in
theorem cloneT_any {v : Value} {l : List Vt} {w : World} (hs : SeesT w v l) (hL : ∀ x ∈ l, x.id.length = 32) (hl : l.length ≤ 1000000) : Calls Try.prog 19 #[v] w fun e w' => ∃ v', e = .returned v' ∧ OwnG 33 33 w' w.heap.size v' l.length (flatT l) ∧ Kp (fun _ => False) w w' := by
  obtain ⟨a, c, rfl, hlc, hmax⟩ := hs.form
  cases a with
  | none =>
    obtain ⟨a', cap, e, h1, h2, h3, h4⟩ := hs
    injection e with e1 e2 e3
    subst e1 e3
    obtain rfl : c = 0 := h3 rfl
    obtain rfl : l = [] := List.eq_nil_of_length_eq_zero (by omega)
    have hq := fun (w : World) (a : Option Addr) (n c : Nat) => Lib.run_eql_slice_nil (P := Try.prog) w 22 33 a n c 0 0 Try.underlying22
    go_enter Try.func19, Try.ntmps19
    go_wp2_with fail
    go_ret
    exact ⟨_, rfl, OwnG.nil _ _ _ _, Kp.refl _ _⟩
  | some ad =>
    have hk : Kp (fun _ => False) w (w.alloc (.cells #[] 33)) := (Kp.refl _ _).alloc _
    have hs1 := hs.kept hk
    by_cases hn : 1 ≤ l.length
    · obtain ⟨v', w2, hap, ho, k2⟩ := app_new Try.underlying22 infoVt3 zVt_size (some ⟨w.heap.size, 0, none⟩) (hs1.src hL) hn hl (by omega)
      have HF := Lib.hid (show OwnG 33 33 w2 w.heap.size v' l.length (flatT l) ∧ Kp (fun _ => False) w w2 from by
        refine ⟨?_, hk.trans k2 (fun _ _ h => h)⟩
        obtain ⟨e1, e2 | ⟨g, c', rest, e2, e3, e4⟩⟩ := ho
        · exact ⟨e1, .inl e2⟩
        · exact ⟨e1, .inr ⟨g, c', rest, e2, Nat.le_trans hk.size e3, e4⟩⟩)
      obtain ⟨a3, c3, rfl⟩ := ho.form
      clear ho k2 hs1 hs hk
      have hq := fun (w : World) (a : Option Addr) (n c : Nat) => Lib.run_eql_slice_nil (P := Try.prog) w 22 33 a n c 0 0 Try.underlying22
      go_enter Try.func19, Try.ntmps19
      go_wp2_with (at_builtin; refine Lib.wpList_append_run _ rfl _ _ _ _ rfl _ _ rfl rfl _ _ (hap _) ?_)
      go_ret
      exact ⟨_, rfl, HF.out⟩
    · obtain rfl : l = [] := List.eq_nil_of_length_eq_zero (by omega)
      have hap := app_zero Try.underlying22 infoVt3 (w.alloc (.cells #[] 33)) (some ⟨w.heap.size, 0, none⟩) (some ad) c
      have HK := Lib.hid hk
      have HO := Lib.hid (show OwnG 33 33 (w.alloc (.cells #[] 33)) w.heap.size (.slice (some ⟨w.heap.size, 0, none⟩) 0 0) 0 [] from
        ⟨rfl, .inr ⟨w.heap.size, 0, [], rfl, Nat.le_refl _, new_blk _ _, rfl, Nat.le_refl _, Nat.zero_le _⟩⟩)
      clear hs1 hs hk
      have hq := fun (w : World) (a : Option Addr) (n c : Nat) => Lib.run_eql_slice_nil (P := Try.prog) w 22 33 a n c 0 0 Try.underlying22
      go_enter Try.func19, Try.ntmps19
      go_wp2_with (at_builtin; refine Lib.wpList_append_run _ rfl _ _ _ _ rfl _ _ rfl rfl _ _ (hap _) ?_)
      go_ret
      exact ⟨_, rfl, HO.out, HK.out⟩

/-- what a bag is where it may be, and none where not -/
def bagged (l : List Vt) : List Vt := cond (good l) l []
theorem bagged_sub {l : List Vt} {x : Vt} (h : x ∈ bagged l) : x ∈ l := by
  unfold bagged at h
  cases hg : good l with
  | true => rw [hg] at h; exact h
  | false => rw [hg] at h; cases h
theorem bagged_length (l : List Vt) : (bagged l).length ≤ l.length := by
  unfold bagged
  cases good l with
  | true => exact Nat.le_refl _
  | false => exact Nat.zero_le _

set_option maxRecDepth 100000 in
set_option maxHeartbeats 1600000 in
theorem atLeast_any {v : Value} {l : List Vt} (n : Int) {w : World} (hs : SeesT w v l) (hv : TOk l) (hl : l.length ≤ 1000000) : Calls Try.prog 35 #[v, .int .i64 n] w fun e w' =>
    ∃ B0 B1 v', e = .returned (.func (.func 44) #[] #[.pointer (some ⟨B1, 0, none⟩), .pointer (some ⟨B0, 0, none⟩)]) ∧ w'.cell? ⟨B0, 0, none⟩ = some (.int .i64 n) ∧ w'.cell? ⟨B1, 0, none⟩ = some v' ∧ SeesT w' v' (bagged l) ∧ Kp (fun _ => False) w w' := by
  have k0 : Kp (fun _ => False) w ((w.alloc (.cells #[.int .i64 n] 3)).alloc (.cells #[.slice none 0 0] 22)) := ((Kp.refl _ w).alloc _).alloc _
  have hb0 := old_blk (new_blk w (.cells #[.int .i64 n] 3)) (.cells #[.slice none 0 0] 22)
  have hb1 := new_blk (w.alloc (.cells #[.int .i64 n] 3)) (.cells #[.slice none 0 0] 22)
  rw [World.size_alloc] at hb1
  have hsz : ((w.alloc (.cells #[.int .i64 n] 3)).alloc (.cells #[.slice none 0 0] 22)).heap.size = w.heap.size + 2 := by simp
  have HQ := Lib.hid (bcheck_any (hs.kept k0) hv)
  have K0 := Lib.hid k0
  have HB0 := Lib.hid hb0
  have HB1 := Lib.hid hb1
  have HSZ := Lib.hid hsz
  have HL := Lib.hid (show ∀ x ∈ l, x.id.length = 32 from fun x hx => (hv x hx).nm.len)
  cases hg : good l with
  | false =>
    have hc : chkT l = 70 := by unfold chkT; rw [hg]; rfl
    have hbg : bagged l = [] := by unfold bagged; rw [hg]; rfl
    obtain ⟨a, c, rfl, _⟩ := hs.form
    rw [hc] at HQ
    rw [hbg]
    clear hs hv hg hc hbg k0 hb0 hb1 hsz
    go_enter Try.func35, Try.ntmps35
    go_wp2_with fail
    refine HQ.out.mono ?_
    rintro e w1 ⟨rfl, k1⟩
    have HF := Lib.hid (show w1.cell? ⟨w.heap.size, 0, none⟩ = some (.int .i64 n) ∧ w1.cell? ⟨w.heap.size + 1, 0, none⟩ = some (.slice none 0 0) ∧ SeesT w1 (.slice none 0 0) [] ∧ Kp (fun _ => False) w w1 from
      ⟨cell_blk (kept_blk HB0.out k1 (fun f => f)) 0, cell_blk (kept_blk HB1.out k1 (fun f => f)) 0, SeesT.nil _, K0.out.trans k1 (fun _ _ f => f)⟩)
    clear k1
    go_wp2_with fail
    go_ret
    exact ⟨_, _, _, rfl, HF.out⟩
  | true =>
    have hc : chkT l = 0 := by unfold chkT; rw [hg]; rfl
    have hbg : bagged l = l := by unfold bagged; rw [hg]; rfl
    have HS := Lib.hid (fun w' (k : Kp (fun _ => False) w w') => hs.kept k)
    obtain ⟨a, c, rfl, _⟩ := hs.form
    rw [hc] at HQ
    rw [hbg]
    have HLL := Lib.hid hl
    clear hs hv hg hc hbg k0 hb0 hb1 hsz
    go_enter Try.func35, Try.ntmps35
    go_wp2_with fail
    refine HQ.out.mono ?_
    rintro e w1 ⟨rfl, k1⟩
    have K1 := Lib.hid (K0.out.trans k1 (fun _ _ f => f))
    have KK1 := Lib.hid k1
    have HC := Lib.hid (cloneT_any (HS.out _ K1.out) HL.out HLL.out)
    clear k1
    go_wp2_with fail
    refine HC.out.mono ?_
    rintro e w2 ⟨v2, rfl, ho, k2⟩
    have hb1 := kept_blk (kept_blk HB1.out KK1.out (fun f => f)) k2 (fun f => f)
    have c1 : w2.cell? ⟨w.heap.size + 1, 0, none⟩ = some (.slice none 0 0) := cell_blk hb1 0
    have f1 : w2.frozen? ⟨w.heap.size + 1, 0, none⟩ = false := free_blk hb1 0
    have HF := Lib.hid (show (w2.setCell ⟨w.heap.size + 1, 0, none⟩ v2).cell? ⟨w.heap.size, 0, none⟩ = some (.int .i64 n) ∧ (w2.setCell ⟨w.heap.size + 1, 0, none⟩ v2).cell? ⟨w.heap.size + 1, 0, none⟩ = some v2 ∧ SeesT (w2.setCell ⟨w.heap.size + 1, 0, none⟩ v2) v2 l ∧ Kp (fun _ => False) w (w2.setCell ⟨w.heap.size + 1, 0, none⟩ v2) from by
      have ks : Kp (fun k => k = w.heap.size + 1) w2 (w2.setCell ⟨w.heap.size + 1, 0, none⟩ v2) := (Kp.refl (fun k => k = w.heap.size + 1) w2).setCell (p := ⟨w.heap.size + 1, 0, none⟩) (fun _ => rfl) _
      refine ⟨cell_blk (kept_blk (kept_blk (kept_blk HB0.out KK1.out (fun f => f)) k2 (fun f => f)) ks (fun e => by omega)) 0, cell_blk (set_blk hb1 0 v2) 0, ?_, ?_⟩
      · refine (ho.kept ks (fun g hg e => ?_)).seesT HL.out
        have := (ho.lt g hg).1
        have h1 := K0.out.size
        have h2 := KK1.out.size
        have := HSZ.out
        omega
      · exact (K1.out.trans k2 (fun _ _ f => f)).setCell (fun h => by simp at h; omega) _)
    obtain ⟨a2, c2, rfl⟩ := ho.form
    clear ho k2 hb1
    go_wp2_with fail
    go_ret
    exact ⟨_, _, _, rfl, HF.out⟩

/-- the names with so many -/
def atlV (l : List Vt) (n : Int) : List (List Int) := (l.filter (fun x => decide (n ≤ x.n))).map (·.id)
theorem atlV_snoc (l : List Vt) (x : Vt) (n : Int) : atlV (l ++ [x]) n = atlV l n ++ cond (decide (n ≤ x.n)) [x.id] [] := by
  unfold atlV
  rw [List.filter_append, List.map_append]
  congr 1
  cases h : decide (n ≤ x.n) <;> simp [List.filter, h]
theorem atlV_take {l : List Vt} {k : Nat} {x : Vt} (hx : l[k]? = some x) (n : Int) : atlV (l.take (k + 1)) n = atlV (l.take k) n ++ cond (decide (n ≤ x.n)) [x.id] [] := by rw [take_snoc hx, atlV_snoc]
theorem atlV_pre (l : List Vt) (n : Int) (k : Nat) : atlV (l.take k) n <+: atlV l n := by
  refine ⟨atlV (l.drop k) n, ?_⟩
  unfold atlV
  rw [← List.map_append, ← List.filter_append, List.take_append_drop]
theorem atlV_len {l : List Vt} {k : Nat} {x : Vt} (hx : l[k]? = some x) {n : Int} (h : n ≤ x.n) : (atlV (l.take k) n).length < (atlV l n).length := by
  have h1 := (atlV_pre l n (k + 1)).length_le
  rw [atlV_take hx, decide_eq_true h] at h1
  simp at h1
  omega
theorem in_ld {F : Fence} {n : Nat} {P : Program} {ops : Array Oper} {rest : List Oper} {o : Oper} {a : Act} {w : World} {Q : Exit → Act → World → Prop} (hgd : Region.wanted o (yielded ops a.tmps) = true) (ty : TypeId) (x : Operand) (ho : o.op = .load ty x)
    (b off : Nat) (hx : a.eval x = .pointer (some ⟨b, off, none⟩)) (cs : List Value) (d : TypeDesc) (hc : w.rangeAt b off cs)
    (hu : P.underlying ty = some d) (hd : d.isRow = true) (hi : (P.info? ty).map (·.size) = some cs.length)
    (h : wpListIn F n P ops Q rest (a.put o.dst (.agg cs.toArray)) w) : wpListIn F n P ops Q (o :: rest) a w := by
  refine wpListIn_step fun K hK => ?_
  rw [if_pos hgd]
  refine ⟨fun f hf => by simp [Oper.about, ho] at hf, ?_⟩
  rw [Oper.semAt_eq _ _ _ (by simp [ho])]
  unfold execOp
  simp only [ho, hx, Instr.loadAt, Instr.sureAddr, Sem.run_bind, Sem.run_pure, Result.andThen_ok, run_loadVar_mid w b off ty cs d hc hu hd hi]
  exact hK _ _ h
theorem in_new {F : Fence} {n : Nat} {P : Program} {ops : Array Oper} {rest : List Oper} {o : Oper} {a : Act} {w : World} {Q : Exit → Act → World → Prop} (hgd : o.guard = none) (ty : TypeId) (x y : Operand) (ho : o.op = .store ty x y)
    (cells : Array Value) (hx : a.eval x = .pointer (some ⟨w.heap.size, 0, none⟩)) (hy : a.eval y = .agg cells)
    (t : TypeId) (old : Array Value) (hi : (P.info? ty).map (·.size) = some cells.size)
    (hold : old.size = cells.size) (h1 : cells.all (·.oneCell') = true)
    (h : ∀ w2, Kp (fun _ => False) w w2 → w2.heap[w.heap.size]? = some (.cells cells t (0, 0)) → w2.heap.size = w.heap.size + 1 → wpListIn F n P ops Q rest (a.put o.dst undef) w2) :
    wpListIn F n P ops Q (o :: rest) a (w.alloc (.cells old t)) := by
  refine wpListIn_plain hgd fun K hK => ⟨fun f hf => by simp [Oper.about, ho] at hf, ?_⟩
  rw [Oper.semAt_eq _ _ _ (by simp [ho])]
  unfold execOp
  simp only [ho, hx, hy, Instr.storeAt, Instr.sureAddr, Sem.run_bind, Sem.run_pure, Result.andThen_ok, run_storeVar_row (w.alloc (.cells old t)) w.heap.size t ty old cells (new_blk _ _) hi hold h1]
  exact hK _ _ (h _ (st_row_kp ((Kp.refl _ w).alloc _) (by simp) _) (st_row_blk (new_blk _ _)) (by simp))
theorem ind_dst {F : Fence} {n : Nat} (s : Nat) {P : Program} {ops : Array Oper} {Q : Exit → Act → World → Prop} {rest : List Oper} {op : Op} {ty : TypeId} {pos : String} {af : Array Edge} {g : Option (Nat × Bool)} {a : Act} {w : World}
    (h : wpListIn F n P ops Q (⟨some s, op, ty, pos, af, g⟩ :: rest) a w) : wpListIn F n P ops Q (⟨some s, op, ty, pos, af, g⟩ :: rest) a w := h
theorem ind_store {F : Fence} {n : Nat} (x y : Nat) {P : Program} {ops : Array Oper} {Q : Exit → Act → World → Prop} {rest : List Oper} {t ty : TypeId} {pos : String} {af : Array Edge} {g : Option (Nat × Bool)} {a : Act} {w : World}
    (h : wpListIn F n P ops Q (⟨none, .store t (.tmp x) (.tmp y), ty, pos, af, g⟩ :: rest) a w) : wpListIn F n P ops Q (⟨none, .store t (.tmp x) (.tmp y), ty, pos, af, g⟩ :: rest) a w := h
end Go.Proofs.Ytoeinolekpmbbaa
