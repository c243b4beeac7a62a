/-
  slices.Insert of one number into a row of one's own.
-/
import Derived.Test.YtpadabmbblcklaaEd
import Derived.Lib.Overlaps
import Derived.Lib.AppendZerosOnto
import Derived.Lib.SliceRun
import Derived.Laws.IdiomCopy
import Derived.Deep.RegionLaw
namespace Go.Proofs.Ytpadabmbblcklaa
open Go.RowKit

/-- a copy whose run is known -/
theorem wpList_copyZ {P : Program} (w : World) {ops : Array Oper} {rest : List Oper} {o : Oper} {a : Act} {Q : Exit → Act → World → Prop} (hgd : o.guard = none) (d s : Operand) (t t' : TypeId)
    (ho : o.op = .call { callee := .builtin .copy, args := #[d, s], argTypes := #[t, t'] }) (v u : Value) (hd : a.eval d = v) (hs : a.eval s = u) {v' : Value} {w' : World}
    (hr : (Builtin.copy_ #[t, t'] o.type #[v, u]).run P w = .ok v' w') (h : wpList P ops Q rest (a.put o.dst v') w') : wpList P ops Q (o :: rest) a w :=
  wpList_plain hgd fun K hK => by
    unfold Oper.wp execOp
    simp only [ho, resolve, invoke, builtin, Sem.run_bind, Sem.run_pure, Result.andThen_ok, List.map_toArray, List.map_cons, List.map_nil, hd, hs, hr]
    exact hK _ _ h
/-- .. in a region that draws -/
theorem step_copyZ {P : Program} {ops : Array Oper} {o : Oper} {a : Act} {w : World} {K : Act → World → Prop} {Q : Exit → Act → World → Prop} {E : Prop}
    (hg : o.guard = none) (d x : Operand) (dT sT : TypeId) (hop : o.op = Op.call { callee := Callee.builtin Builtin.copy, args := #[d, x], argTypes := #[dT, sT] })
    (v u : Value) (hd : a.eval d = v) (hx : a.eval x = u) {v' : Value} {w' : World} (hr : (Builtin.copy_ #[dT, sT] o.type #[v, u]).run P w = .ok v' w') (hK : K (a.put o.dst v') w') :
    if Region.wanted o (yielded ops a.tmps) = true then Oper.wp P o a w K Q else E := by
  have hw : Region.wanted o (yielded ops a.tmps) = true := by simp [Region.wanted, hg]
  rw [if_pos hw]
  unfold Oper.wp
  simp [execOp, hop, resolve, invoke, builtin, hd, hx, hr, Result.andThen]
  exact hK

theorem shape_blk {w : World} {g T : Nat} {cs : Array Value} {fr : Nat × Nat} (h : w.heap[g]? = some (.cells cs T fr)) : w.shape? g = some (T, cs.size) := by
  unfold World.shape?
  rw [h]
theorem sizeI64 : (Try.prog.info? 2).map (·.size) = some 1 := by kernel_rfl
/-- a source that lies in a block from its beginning on, n of its numbers -/
theorem src_one {w : World} {g T : Nat} {x : Int} (h : w.heap[g]? = some (.cells #[.int .i64 x] T (0, 0))) : Src Try.prog 1 24 (.slice (some ⟨g, 0, none⟩) 1 1) 1 (encZ .i64 [x]) w :=
  Src.ofSlice w Try.underlying24 ⟨g, 0, none⟩ 1 1 (encZ .i64 [x]) rfl (fun j u hj => by rw [Addr.add_lit, cell_blk h, Nat.zero_add, List.getElem?_toArray]; exact hj) (encZ_one _ _)
/-- copy within one block, or from one to another -/
theorem copy_blk {w : World} {g T : Nat} {a b c : List Value} {l : List Int} (ad : Addr) (dl dc sl sc : Nat) (h : w.heap[g]? = some (.cells (a ++ b ++ c).toArray T (0, 0))) (hb : b.length = l.length) (hn : l.length = Nat.min sl dl)
    (hs : ∀ j x, l[j]? = some x → w.cell? (ad.add j) = some (.int .i64 x)) :
    ∀ ty, (Builtin.copy_ #[24, 24] ty #[.slice (some ⟨g, a.length, none⟩) dl dc, .slice (some ad) sl sc]).run Try.prog w = .ok (goInt l.length) (w.setCells g a.length (encZ .i64 l)) := fun ty => by
  have := run_copy_cells (P := Try.prog) w 24 24 ty 2 g a.length dl dc ad sl sc (encZ .i64 l) Try.underlying24 sizeI64 (by rw [encZ_length]; exact hn)
    (fun j v hj => by
      obtain ⟨x, hx, rfl⟩ : ∃ x, l[j]? = some x ∧ .int .i64 x = v := by simpa [encZ] using hj
      exact hs j x hx)
    (fun j hj => by
      rw [encZ_length] at hj
      rw [cell_blk h, List.getElem?_toArray, List.getElem?_eq_getElem (by simp; omega)]; rfl)
    (fun j _ => free_blk h _) (encZ_one _ _)
  rwa [encZ_length] at this

set_option maxRecDepth 100000 in
set_option maxHeartbeats 4000000 in
theorem insert_any {v : Value} {l : List Int} {B : Nat} {w : World} (ho : OwnG 2 1 w B v l.length (encZ .i64 l)) (hB : B ≤ w.heap.size) (hl : l.length ≤ 1000) (i : Nat) (hi : i ≤ l.length) (x : Int) (gb : Nat)
    (hx : w.heap[gb]? = some (.cells #[.int .i64 x] 2 (0, 0))) (hgb : ∀ g, v.ownBlock = some g → g ≠ gb) :
    Calls Try.prog 39 #[v, .int .i64 i, .slice (some ⟨gb, 0, none⟩) 1 1] w fun e w' => ∃ v', e = .returned v' ∧ OwnG 2 1 w' B v' (l.length + 1) (encZ .i64 (l.take i ++ x :: l.drop i)) ∧
      Kp (fun k => v.ownBlock = some k) w w' ∧ (v'.ownBlock = v.ownBlock ∨ ∀ g, v'.ownBlock = some g → w.heap.size ≤ g) := by
  rcases Nat.lt_or_ge i l.length with hlt | hge
  · obtain ⟨hcl, ⟨rfl, h0⟩ | ⟨g, cap, rest, rfl, h1, h2, h3, h4, h5⟩⟩ := ho
    · omega
    · have hne : g ≠ gb := hgb g rfl
      have hrl : l.length + rest.length = cap := by rw [List.length_append, encZ_length, Nat.mul_one] at h3; exact h3
      have hmax : cap ≤ 9223372036854775807 := by unfold maxLen at h5; omega
      have hz2 : ¬ ((i : Int) = (l.length : Int)) := by omega
      have hw1 : IntKind.i64.wrap ((i : Int) + 1) = (i : Int) + 1 := by rw [IntKind.wrap_i64]; omega
      have hb1 : (0 : Int) ≤ (i : Int) + 1 := by omega
      have htn : ((i : Int) + 1).toNat = i + 1 := by omega
      have hb3 : (i : Int) ≤ (l.length : Int) + 1 := by omega
      have hb4 : ¬ (cap = i) := by omega
      have hdl : (l.drop i).length = l.length - i := List.length_drop
      obtain ⟨y, hy⟩ : ∃ y, l[i]? = some y := ⟨l[i], by simp⟩
      have hlD : l.drop i = y :: l.drop (i + 1) := by
        obtain ⟨hk, e⟩ := List.getElem?_eq_some_iff.1 hy
        rw [List.drop_eq_getElem_cons hk, e]
      have hlA : l = l.take i ++ l.drop i := (List.take_append_drop i l).symm
      have hAl : (encZ .i64 (l.take i)).length = i := by rw [encZ_length, List.length_take]; omega
      have hAl2 : (encZ .i64 (l.take i ++ [y])).length = i + 1 := by rw [encZ_length, List.length_append, List.length_take]; simp; omega
      have hcell : ∀ (w' : World), w'.heap[g]? = some (.cells (encZ .i64 l ++ rest).toArray 2 (0, 0)) → ∀ j z, (l.drop i)[j]? = some z → w'.cell? ((⟨g, i, none⟩ : Addr).add j) = some (.int .i64 z) := fun w' h j z hz => by
        rw [List.getElem?_drop] at hz
        rw [Addr.add_lit, cell_blk h, List.getElem?_toArray, List.getElem?_append_left (by rw [encZ_length]; exact (List.getElem?_eq_some_iff.1 hz).1)]
        exact encZ_get hz
      by_cases hroom : l.length + 1 ≤ cap
      · obtain ⟨r0, rest', rfl⟩ : ∃ r0 rest', rest = r0 :: rest' := List.exists_cons_of_ne_nil (by intro e; subst e; simp at hrl; omega)
        have hb2 : ¬ (cap = i + 1) := by omega
        have hov : ∀ lb cb, (callFunc 54 #[.slice (some ⟨gb, 0, none⟩) 1 1, .slice (some ⟨g, i + 1, none⟩) lb cb]).run Try.prog w = .ok (.value (.bool false)) w := fun lb cb => by
          rw [run_callFunc_extern Try.func54 (by kernel_rfl) (by kernel_rfl) (by kernel_rfl) (e := Extern.SlicesOverlaps.overlaps #[24, 24] #[4]) (by kernel_rfl),
            Lib.run_overlaps_apart w 24 4 2 Try.underlying24 1 (fun w => by kernel_rfl) ⟨gb, 0, none⟩ ⟨g, i + 1, none⟩ 1 1 lb cb (Ne.symm hne) 2 2 1 (encZ .i64 l ++ r0 :: rest').toArray.size (shape_blk hx) (shape_blk h2) (by simp) (free_blk hx _) (free_blk hx _)]
          rfl
        have e1 : encZ .i64 l ++ r0 :: rest' = encZ .i64 (l.take i ++ [y]) ++ (encZ .i64 (l.drop (i + 1)) ++ [r0]) ++ rest' := by
          conv => lhs; rw [hlA, hlD]
          simp [encZ]
        have hb : (encZ .i64 (l.drop (i + 1)) ++ [r0]).length = (l.drop i).length := by rw [hlD]; simp [encZ]
        have h2' : w.drew.heap[g]? = some (.cells (encZ .i64 (l.take i ++ [y]) ++ (encZ .i64 (l.drop (i + 1)) ++ [r0]) ++ rest').toArray 2 (0, 0)) := by rw [← e1]; exact h2
        have hcp1 := fun dc sc => copy_blk (w := w.drew) ⟨g, i, none⟩ (l.length - i) dc (l.length + 1 - i) sc h2' hb (by rw [hdl]; simp only [Nat.min_def]; split <;> omega) (hcell w.drew h2)
        obtain ⟨s1, s2, s3⟩ := setCells_blk g 2 (encZ .i64 (l.drop i)) (encZ .i64 (l.take i ++ [y])) (encZ .i64 (l.drop (i + 1)) ++ [r0]) rest' w.drew h2' (by rw [hb, encZ_length])
        rw [hAl2] at hcp1 s1 s2 s3
        obtain ⟨W1, hW1⟩ : ∃ W1, W1 = w.drew.setCells g (i + 1) (encZ .i64 (l.drop i)) := ⟨_, rfl⟩
        rw [← hW1] at hcp1 s1 s2 s3
        have e2 : encZ .i64 (l.take i ++ [y]) ++ encZ .i64 (l.drop i) ++ rest' = encZ .i64 (l.take i) ++ [.int .i64 y] ++ (encZ .i64 (l.drop i) ++ rest') := by simp [encZ]
        rw [e2] at s1
        have hx1 : W1.heap[gb]? = some (.cells #[.int .i64 x] 2 (0, 0)) := kept_blk (w := w.drew) hx s2 (fun e => hne e.symm)
        have hcp2 := fun dc => copy_blk (w := W1) (l := [x]) ⟨gb, 0, none⟩ (l.length + 1 - i) dc 1 1 s1 rfl (by simp only [Nat.min_def]; split <;> simp <;> omega) (fun j z hz => by
          rw [Addr.add_lit, cell_blk hx1, Nat.zero_add, List.getElem?_toArray]
          match j, hz with
          | 0, hz => cases hz; rfl)
        obtain ⟨u1, u2, u3⟩ := setCells_blk g 2 (encZ .i64 [x]) (encZ .i64 (l.take i)) [.int .i64 y] (encZ .i64 (l.drop i) ++ rest') W1 s1 rfl
        rw [hAl] at hcp2 u1 u2 u3
        obtain ⟨W2, hW2⟩ : ∃ W2, W2 = W1.setCells g i (encZ .i64 [x]) := ⟨_, rfl⟩
        rw [← hW2] at hcp2 u1 u2 u3
        have e3 : encZ .i64 (l.take i) ++ encZ .i64 [x] ++ (encZ .i64 (l.drop i) ++ rest') = encZ .i64 (l.take i ++ x :: l.drop i) ++ rest' := by simp [encZ]
        rw [e3] at u1
        have hll : (l.take i ++ x :: l.drop i).length = l.length + 1 := by rw [List.length_append, List.length_take, List.length_cons, List.length_drop]; omega
        have HF := Lib.hid (show OwnG 2 1 W2 B (.slice (some ⟨g, 0, none⟩) (l.length + 1) cap) (l.length + 1) (encZ .i64 (l.take i ++ x :: l.drop i)) ∧ Kp (fun k => (Value.slice (some ⟨g, 0, none⟩) l.length cap).ownBlock = some k) w W2 from
          ⟨⟨by rw [encZ_length, hll, Nat.mul_one], .inr ⟨g, cap, rest', rfl, h1, u1, by rw [List.length_append, encZ_length, hll]; simp at hrl; omega, hroom, h5⟩⟩,
            (((Kp.refl _ w).drew.trans s2 (fun z _ e => by cases e; rfl)).trans u2 (fun z _ e => by cases e; rfl))⟩)
        clear hcell h2' hb e1 e2 e3 s1 s2 s3 u1 u2 u3 h2 h3 hx hx1 hcl hlA hlD hAl hAl2 hy hgb hll hW1 hW2
        go_enter Try.func39, Try.ntmps39
        go_wp2_with (simp only [hov])
        go_region_law (refine step_copyZ rfl _ _ 24 24 rfl _ _ (by simp [Act.eval, Act.put]) (by simp [Act.eval, Act.put]) (hcp1 _ _ _) ?_)
        go_wp2_with (at_builtin; refine wpList_copyZ _ rfl _ _ 24 24 rfl _ _ rfl rfl (hcp2 _ _) ?_)
        go_ret
        exact ⟨_, rfl, HF.out.1, HF.out.2, .inl rfl⟩
      · obtain ⟨i0, hi0, hz0, hzs, hzb⟩ := info_parts infoI64
        obtain ⟨G, hG⟩ : ∃ G, G = grownCap w (l.length + 1) cap 2 := ⟨_, rfl⟩
        have hGn : l.length + 1 ≤ G := by rw [hG]; exact grownCap_ge w _ _ _
        have hGm : G ≤ maxLen := by rw [hG]; exact grownCap_le_maxLen w _ _ _ (by unfold maxLen; omega)
        have hG63 : G ≤ 9223372036854775807 := by unfold maxLen at hGm; omega
        have hGi : ¬ (G = i) := by omega
        have hGim : ¬ (G = i + 1) := by omega
        have hgw : g < w.heap.size := lt_of_blk h2
        have hgbw : gb < w.heap.size := lt_of_blk hx
        have hkk : (l.length : Int) + 1 - (i : Int) = ((l.length + 1 - i : Nat) : Int) := by omega
        have hik : i + (l.length + 1 - i) = l.length + 1 := by omega
        have hold : (Builtin.firstCells i0.size i (.slice (some ⟨g, 0, none⟩) i cap)).run Try.prog w.drew = .ok (encZ .i64 (l.take i)).toArray w.drew := by
          rw [hzs]
          exact run_firstCells_some w.drew 1 i ⟨g, 0, none⟩ i cap (encZ .i64 (l.take i)) (by rw [hAl]; omega) (fun j v hj => by
            obtain ⟨z, hz, rfl⟩ := encZ_inv hj
            have hjl := (List.getElem?_eq_some_iff.1 hz).1
            rw [List.length_take] at hjl
            rw [List.getElem?_take_of_lt (by omega)] at hz
            rw [Addr.add_lit, World.cell?_drew, cell_blk h2, Nat.zero_add, List.getElem?_toArray, List.getElem?_append_left (by rw [encZ_length]; omega)]
            exact encZ_get hz)
        obtain ⟨Z1, hZ1⟩ : ∃ Z1 : List Value, Z1 = (Builtin.zeroCells (Value.int .i64 0).cells (l.length + 1 - i)).toList := ⟨_, rfl⟩
        obtain ⟨Z2, hZ2⟩ : ∃ Z2 : List Value, Z2 = (Builtin.zeroCells (Value.int .i64 0).cells (G - (l.length + 1))).toList := ⟨_, rfl⟩
        have hZ1l : Z1.length = l.length + 1 - i := by rw [hZ1, Array.length_toList, size_zeroCells]; show _ * 1 = _; omega
        have hZ2l : Z2.length = G - (l.length + 1) := by rw [hZ2, Array.length_toList, size_zeroCells]; show _ * 1 = _; omega
        obtain ⟨z0, Z1', rfl⟩ : ∃ z0 Z1', Z1 = z0 :: Z1' := List.exists_cons_of_ne_nil (by intro e; subst e; simp at hZ1l; omega)
        have hZ1l' : Z1'.length = l.length - i := by simp at hZ1l; omega
        obtain ⟨W1, hW1⟩ : ∃ W1, W1 = w.drew.alloc (.cells (encZ .i64 (l.take i) ++ [z0] ++ (Z1' ++ Z2)).toArray 2) := ⟨_, rfl⟩
        have hrz : ∀ ty, (Builtin.append_ #[24, 3] ty #[.slice (some ⟨g, 0, none⟩) i cap, .int .i64 ((l.length : Int) + 1 - (i : Int))]).run Try.prog w = .ok (.slice (some ⟨w.heap.size, 0, none⟩) (l.length + 1) G) W1 := fun ty => by
          have h := Lib.run_append_grow_zeros w 24 3 ty 2 i0 _ .i64 .i64 Try.underlying24 Try.underlying3 hi0 hz0 (some ⟨g, 0, none⟩) i cap (encZ .i64 (l.take i)) hold (l.length + 1 - i) (by omega) (by omega) (by omega) (by omega) (by rw [hzb]; omega) (by rw [hzb, hik]; exact growslice_fits (by omega) (by omega))
          rw [hik, ← hG] at h
          rw [hkk, h, hW1]
          congr 2
          congr 1
          apply Array.ext'
          rw [Array.toList_append, Array.toList_append, ← hZ1, ← hZ2]
          simp
        have hN : W1.heap[w.heap.size]? = some (.cells (encZ .i64 (l.take i) ++ [z0] ++ (Z1' ++ Z2)).toArray 2 (0, 0)) := by rw [hW1]; exact new_blk w.drew _
        have k1 : Kp (fun _ => False) w W1 := by rw [hW1]; exact (Kp.refl _ w).drew.alloc _
        have hx1 : W1.heap[gb]? = some (.cells #[.int .i64 x] 2 (0, 0)) := kept_blk hx k1 (fun f => f)
        have hcpA := fun dc => copy_blk (w := W1) (l := [x]) ⟨gb, 0, none⟩ (l.length + 1 - i) dc 1 1 hN rfl (by simp only [Nat.min_def]; split <;> simp <;> omega) (fun j z hz => by
          rw [Addr.add_lit, cell_blk hx1, Nat.zero_add, List.getElem?_toArray]
          match j, hz with
          | 0, hz => cases hz; rfl)
        obtain ⟨s1, s2, s3⟩ := setCells_blk w.heap.size 2 (encZ .i64 [x]) (encZ .i64 (l.take i)) [z0] (Z1' ++ Z2) W1 hN rfl
        rw [hAl] at hcpA s1 s2 s3
        obtain ⟨W2, hW2⟩ : ∃ W2, W2 = W1.setCells w.heap.size i (encZ .i64 [x]) := ⟨_, rfl⟩
        rw [← hW2] at hcpA s1 s2 s3
        have e2 : encZ .i64 (l.take i) ++ encZ .i64 [x] ++ (Z1' ++ Z2) = encZ .i64 (l.take i ++ [x]) ++ Z1' ++ Z2 := by simp [encZ]
        rw [e2] at s1
        have hg2 : W2.drew.heap[g]? = some (.cells (encZ .i64 l ++ rest).toArray 2 (0, 0)) := kept_blk (kept_blk h2 k1 (fun f => f)) s2.drew (fun e => by omega)
        have hAl3 : (encZ .i64 (l.take i ++ [x])).length = i + 1 := by rw [encZ_length, List.length_append, List.length_take]; simp; omega
        have s1' : W2.drew.heap[w.heap.size]? = some (.cells (encZ .i64 (l.take i ++ [x]) ++ Z1' ++ Z2).toArray 2 (0, 0)) := s1
        have hcpB := fun dc sc => copy_blk (w := W2.drew) ⟨g, i, none⟩ (l.length - i) dc (l.length - i) sc s1' (by rw [hZ1l', hdl]) (by rw [hdl]; simp only [Nat.min_def]; split <;> omega) (hcell W2.drew hg2)
        obtain ⟨u1, u2, u3⟩ := setCells_blk w.heap.size 2 (encZ .i64 (l.drop i)) (encZ .i64 (l.take i ++ [x])) Z1' Z2 W2.drew s1' (by rw [hZ1l', encZ_length, hdl])
        rw [hAl3] at hcpB u1 u2 u3
        obtain ⟨W3, hW3⟩ : ∃ W3, W3 = W2.drew.setCells w.heap.size (i + 1) (encZ .i64 (l.drop i)) := ⟨_, rfl⟩
        rw [← hW3] at hcpB u1 u2 u3
        have e3 : encZ .i64 (l.take i ++ [x]) ++ encZ .i64 (l.drop i) ++ Z2 = encZ .i64 (l.take i ++ x :: l.drop i) ++ Z2 := by simp [encZ]
        rw [e3] at u1
        have hll : (l.take i ++ x :: l.drop i).length = l.length + 1 := by rw [List.length_append, List.length_take, List.length_cons, List.length_drop]; omega
        have HF := Lib.hid (show OwnG 2 1 W3 B (.slice (some ⟨w.heap.size, 0, none⟩) (l.length + 1) G) (l.length + 1) (encZ .i64 (l.take i ++ x :: l.drop i)) ∧ Kp (fun k => (Value.slice (some ⟨g, 0, none⟩) l.length cap).ownBlock = some k) w W3 from
          ⟨⟨by rw [encZ_length, hll, Nat.mul_one], .inr ⟨w.heap.size, G, Z2, rfl, hB, u1, by rw [List.length_append, encZ_length, hll, hZ2l]; omega, hGn, hGm⟩⟩,
            ((k1.trans s2 (fun z hz e => by omega)).drew.trans u2 (fun z hz e => by omega)).mono (fun z _ f => f.elim)⟩)
        have hroom' : (cap : Int) < (l.length : Int) + 1 := by omega
        clear hcell e2 e3 s1 s2 s3 u1 u2 u3 h2 h3 hx hx1 hcl hlA hlD hAl hAl2 hAl3 hy hgb hll hW1 hW2 hW3 k1 hN hg2 s1' hZ1 hZ2 hZ1l hZ2l hZ1l' hold hG hi0 hz0 hzs hzb hkk hik
        go_enter Try.func39, Try.ntmps39
        go_wp2_with (first
          | ((with_reducible refine at_dst 40 ?_); refine Lib.wpList_append_run _ rfl _ _ _ _ rfl _ _ rfl rfl _ _ (hrz _) ?_)
          | ((with_reducible refine at_dst 45 ?_); refine wpList_copyZ _ rfl _ _ 24 24 rfl _ _ rfl rfl (hcpA _ _) ?_))
        go_region_law (refine step_copyZ rfl _ _ 24 24 rfl _ _ (by simp [Act.eval, Act.put]) (by simp [Act.eval, Act.put]) (hcpB _ _ _) ?_)
        go_wp2
        go_ret
        exact ⟨_, rfl, HF.out.1, HF.out.2, .inr (fun z hz => by cases hz; exact Nat.le_refl _)⟩
  · obtain rfl : i = l.length := by omega
    obtain ⟨v', w2, hap, ho2, k2, hw2⟩ := app_own Try.underlying24 infoI64 rfl hB ho (src_one hx) (Nat.le_refl _) (by omega) (by omega)
    rw [← encZ_append] at ho2
    have HF := Lib.hid (show OwnG 2 1 w2 B v' (l.length + 1) (encZ .i64 (l.take l.length ++ x :: l.drop l.length)) ∧ Kp (fun k => v.ownBlock = some k) w w2 ∧ (v'.ownBlock = v.ownBlock ∨ ∀ g, v'.ownBlock = some g → w.heap.size ≤ g) from
      ⟨by rw [List.take_length, List.drop_length]; exact ho2, k2, hw2⟩)
    obtain ⟨a3, c3, rfl⟩ := ho2.form
    obtain ⟨a, c, hlc, hmax, hnil, rfl⟩ : ∃ a c, l.length ≤ c ∧ c ≤ 9223372036854775807 ∧ (a = none → l.length = 0) ∧ v = .slice a l.length c := by
      obtain ⟨a, c, e, h1, h2, h3⟩ := ho.seesZ.form
      exact ⟨a, c, h1, h2, fun h => by have := h3 h; omega, e⟩
    have h00 : (0 : Int) ≤ l.length := by omega
    clear ho ho2 k2 hw2 hx hgb
    by_cases hcc : c = l.length
    · subst hcc
      go_enter Try.func39, Try.ntmps39
      go_wp2_with (at_builtin; refine Lib.wpList_append_run _ rfl _ _ _ _ rfl _ _ rfl rfl _ _ (hap _) ?_)
      go_ret
      exact ⟨_, rfl, HF.out⟩
    · go_enter Try.func39, Try.ntmps39
      go_wp2_with (at_builtin; refine Lib.wpList_append_run _ rfl _ _ _ _ rfl _ _ rfl rfl _ _ (hap _) ?_)
      go_ret
      exact ⟨_, rfl, HF.out⟩
end Go.Proofs.Ytpadabmbblcklaa
