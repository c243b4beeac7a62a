/-
  Slices of blocks: one block put ahead of others; parts of a slice.
-/
import Derived.Test.YtoognhbdgdfkoaaDoorBw
namespace Go.Proofs.YtoognhbdgdfkoaaDoor
open Go.ChangeShapes Go.WideShapes Go.ChangeAt Go.RowKit

theorem blkInfo : (Tryd.prog.info? 26).map (fun i => (i.zero, i.size, i.bytes)) = some (some (.agg (blkC blk0 (.slice none 0 0)).toArray), 34, 64) := by kernel_rfl
theorem blkSize : (Tryd.prog.info? 26).map (·.size) = some 34 := by kernel_rfl
theorem rowC_length : ∀ (bs : List (Blk × Value)), (∀ x ∈ bs, x.1.p.length = 32) → (rowC bs).length = bs.length * 34
  | [], _ => rfl
  | y :: r, hb => by
    have ih := rowC_length r (fun z hz => hb z (List.mem_cons_of_mem _ hz))
    have hl := blkC_length (hb y (List.mem_cons_self ..)) y.2
    rw [rowC, List.flatMap_cons, List.length_append, hl, List.length_cons]
    have : (List.flatMap (fun x => blkC x.1 x.2) r).length = r.length * 34 := ih
    omega
theorem rowC_cell {w : World} {g off cap : Nat} {bs : List (Blk × Value)} (hb : ∀ x ∈ bs, x.1.p.length = 32) (hs : SeesBs w (.slice (some ⟨g, off, none⟩) bs.length cap) bs) :
    ∀ j u, (rowC bs)[j]? = some u → w.cell? ⟨g, off + j, none⟩ = some u := fun j u hj => by
  have hlen := rowC_length bs hb
  have hjl := (List.getElem?_eq_some_iff.1 hj).1
  have hi : j / 34 < bs.length := by omega
  obtain ⟨x, hx⟩ : ∃ x, bs[j / 34]? = some x := ⟨bs[j / 34], by simp [hi]⟩
  have hxl := blkC_length (hb x (List.mem_of_getElem? hx)) x.2
  obtain ⟨y, hy⟩ : ∃ y, (blkC x.1 x.2)[j % 34]? = some y := ⟨(blkC x.1 x.2)[j % 34]'(by omega), by simp [show j % 34 < (blkC x.1 x.2).length by omega]⟩
  have h1 := rowC_at bs hb (j / 34) x hx (j % 34) y hy
  rw [show j / 34 * 34 + j % 34 = j by omega, hj] at h1
  cases h1
  rcases hs with ⟨h, _⟩ | ⟨g', off', cap', e, _, _, h3⟩
  · cases h
  · injection e with e1 _ _
    injection e1 with e1
    injection e1 with e1 e2
    subst e1 e2
    have := h3 (j / 34) x hx (j % 34) u hy
    rw [show off + j = off + j / 34 * 34 + j % 34 by omega]
    exact this
/-- the slices of data are slices -/
def Sls (bs : List (Blk × Value)) : Prop := ∀ x ∈ bs, x.1.p.length = 32 ∧ ∃ a n c, x.2 = .slice a n c
theorem BsOk.sls {w : World} {bs : List (Blk × Value)} (h : BsOk w bs) : Sls bs := fun x hx => ⟨(h x hx).1.nm.len, by obtain ⟨a, c, e⟩ := sees_form (h x hx).2; exact ⟨a, _, c, e⟩⟩
theorem rowC_one : ∀ (bs : List (Blk × Value)), Sls bs → ∀ u ∈ rowC bs, u.oneCell' = true := fun bs hb u hu => by
  obtain ⟨x, hx, hu⟩ := List.mem_flatMap.1 hu
  obtain ⟨_, a, n, c, e⟩ := hb x hx
  rw [e] at hu
  simp only [blkC, U8s, List.mem_cons, List.mem_append, List.mem_map, List.not_mem_nil, or_false] at hu
  rcases hu with ⟨_, _, rfl⟩ | rfl | rfl <;> rfl

theorem run_prepend {w : World} {b : Blk} {a : Option Addr} {n c : Nat} {l : Value} {bs : List (Blk × Value)} (hb : b.p.length = 32) (hs : SeesBs w l bs) (hsl : Sls bs) (h1 : 1 ≤ bs.length) (hl : bs.length ≤ 1000) :
    ∃ cap w', (∀ ty, (Builtin.append_ #[46, 46] ty #[.slice (some ⟨w.heap.size, 0, none⟩) 1 1, l]).run Tryd.prog (w.alloc (.cells (blkC b (.slice a n c)).toArray 26)) = .ok (.slice (some ⟨w.heap.size + 1, 0, none⟩) (bs.length + 1) cap) w') ∧
      SeesBs w' (.slice (some ⟨w.heap.size + 1, 0, none⟩) (bs.length + 1) cap) ((b, .slice a n c) :: bs) ∧ Kp (fun _ => False) w w' := by
  obtain ⟨i0, hi0, hz0, hs0, hb0⟩ := info_parts blkInfo
  have k1 : Kp (fun _ => False) w (w.alloc (.cells (blkC b (.slice a n c)).toArray 26)) := (Kp.refl _ _).alloc _
  have hs1 := hs.kept k1 (fun _ _ _ f => f)
  have hbl : ∀ x ∈ bs, x.1.p.length = 32 := fun x hx => (hsl x hx).1
  obtain ⟨g, off, cap0, rfl⟩ : ∃ g off cap, l = .slice (some ⟨g, off, none⟩) bs.length cap := by
    rcases hs with ⟨_, e⟩ | ⟨g, off, cap, e, _⟩
    · rw [e] at h1; cases h1
    · exact ⟨g, off, cap, e⟩
  have hC : (blkC b (.slice a n c)).length = 34 := blkC_length hb _
  have hold : (Builtin.firstCells i0.size 1 (.slice (some ⟨w.heap.size, 0, none⟩) 1 1)).run Tryd.prog (w.alloc (.cells (blkC b (.slice a n c)).toArray 26)).drew = .ok (blkC b (.slice a n c)).toArray (w.alloc (.cells (blkC b (.slice a n c)).toArray 26)).drew :=
    run_firstCells_some _ i0.size 1 ⟨w.heap.size, 0, none⟩ 1 1 (blkC b (.slice a n c)) (by rw [hs0, hC]) (fun j v hj => by
      rw [Addr.add_lit, World.cell?_drew, cell_blk (new_blk w _), Nat.zero_add, List.getElem?_toArray]; exact hj)
  have src : Src Tryd.prog i0.size 46 (.slice (some ⟨g, off, none⟩) bs.length cap0) bs.length (rowC bs) (w.alloc (.cells (blkC b (.slice a n c)).toArray 26)) :=
    Src.ofSlice _ Tryd.underlying46 ⟨g, off, none⟩ bs.length cap0 (rowC bs) (by rw [hs0, rowC_length bs hbl]) (fun j u hj => by rw [Addr.add_lit]; exact rowC_cell hbl hs1 j u hj) (rowC_one bs hsl)
  have hrun := fun ty => run_append_grow_src (P := Tryd.prog) (w.alloc (.cells (blkC b (.slice a n c)).toArray 26)) 46 46 ty 26 i0 (.agg (blkC blk0 (.slice none 0 0)).toArray) Tryd.underlying46 hi0 hz0 (some ⟨w.heap.size, 0, none⟩) 1 1 (blkC b (.slice a n c)) hold _ bs.length (rowC bs) src (by omega) (by omega) (growslice_fits (by omega) (by rw [hb0]; omega))
  rw [World.size_alloc, show 1 + bs.length = bs.length + 1 by omega] at hrun
  refine ⟨_, _, hrun, ?_, (k1.drew).alloc _⟩
  have hge := grownCap_ge (w.alloc (.cells (blkC b (.slice a n c)).toArray 26)) (bs.length + 1) 1 26
  have hle := grownCap_le_maxLen (w.alloc (.cells (blkC b (.slice a n c)).toArray 26)) (bs.length + 1) 1 26 (by unfold maxLen; omega)
  have hnb := new_blk (w.alloc (.cells (blkC b (.slice a n c)).toArray 26)).drew (.cells ((blkC b (.slice a n c) ++ rowC bs).toArray ++ Builtin.zeroCells (Value.agg (blkC blk0 (.slice none 0 0)).toArray).cells (grownCap (w.alloc (.cells (blkC b (.slice a n c)).toArray 26)) (bs.length + 1) 1 26 - (bs.length + 1))) 26)
  have hsz : (w.alloc (.cells (blkC b (.slice a n c)).toArray 26)).drew.heap.size = w.heap.size + 1 := World.size_alloc _ _
  rw [hsz] at hnb
  refine sees_row (bs := (b, .slice a n c) :: bs) (t := 26) (fr := (0, 0)) (rest := (Builtin.zeroCells (Value.agg (blkC blk0 (.slice none 0 0)).toArray).cells (grownCap (w.alloc (.cells (blkC b (.slice a n c)).toArray 26)) (bs.length + 1) 1 26 - (bs.length + 1))).toList) ?_ ?_ hge hle
  · refine hnb.trans ?_
    congr 2
    apply Array.ext'
    simp [rowC]
  · intro x hx
    rcases List.mem_cons.1 hx with rfl | hx
    · exact hb
    · exact hbl x hx

theorem blk_to {w : World} {v : Value} {bs : List (Blk × Value)} (h : SeesBs w v bs) (n : Nat) (hn : n ≤ bs.length) :
    ∃ v', (∀ w', (Instr.sliceAt 46 v none (some (.int .i64 n)) none).run Tryd.prog w' = .ok v' w') ∧ SeesBs w v' (bs.take n) := by
  obtain ⟨i, hi, hs⟩ := Option.map_eq_some_iff.1 blkSize
  rcases h with ⟨rfl, rfl⟩ | ⟨g, off, cap, rfl, h1, h2, h3⟩
  · obtain rfl : n = 0 := by simpa using hn
    refine ⟨.slice none 0 0, fun w' => ?_, .inl ⟨rfl, rfl⟩⟩
    simp [Instr.sliceAt, run_underlying Tryd.underlying46, Instr.slice, Instr.sliceBounds, run_sliceBound, sizeOf, typeInfo, hi]
  · refine ⟨.slice (some ⟨g, off, none⟩) n cap, fun w' => ?_, .inr ⟨g, off, cap, by rw [List.length_take, Nat.min_eq_left hn], by rw [List.length_take]; omega, h2, fun i x hi => ?_⟩⟩
    · have g0 : (0 : Int) ≤ n := by omega
      have g1 : n ≤ cap := by omega
      simp [Instr.sliceAt, run_underlying Tryd.underlying46, Instr.slice, Instr.sliceBounds, run_sliceBound, sizeOf, typeInfo, hi, g0, g1]
      intro _
      exact Addr.add_lit ..
    · have hlt : i < n := by have := (List.getElem?_eq_some_iff.1 hi).1; rw [List.length_take] at this; omega
      rw [List.getElem?_take_of_lt hlt] at hi
      exact h3 i x hi
theorem blk_from {w : World} {v : Value} {bs : List (Blk × Value)} (h : SeesBs w v bs) (n : Nat) (hn : n ≤ bs.length) :
    ∃ v', (∀ w', (Instr.sliceAt 46 v (some (.int .i64 n)) none none).run Tryd.prog w' = .ok v' w') ∧ SeesBs w v' (bs.drop n) := by
  obtain ⟨i, hi, hs⟩ := Option.map_eq_some_iff.1 blkSize
  rcases h with ⟨rfl, rfl⟩ | ⟨g, off, cap, rfl, h1, h2, h3⟩
  · obtain rfl : n = 0 := by simpa using hn
    refine ⟨.slice none 0 0, fun w' => ?_, .inl ⟨rfl, rfl⟩⟩
    simp [Instr.sliceAt, run_underlying Tryd.underlying46, Instr.slice, Instr.sliceBounds, run_sliceBound, sizeOf, typeInfo, hi]
  · by_cases hcn : cap = n
    · refine ⟨.slice (some ⟨g, off, none⟩) (bs.length - n) (cap - n), fun w' => ?_, .inr ⟨g, off, cap - n, by rw [List.length_drop], by rw [List.length_drop]; omega, by unfold maxLen at *; omega, fun i x hx => ?_⟩⟩
      · have g0 : (0 : Int) ≤ n := by omega
        simp [Instr.sliceAt, run_underlying Tryd.underlying46, Instr.slice, Instr.sliceBounds, run_sliceBound, sizeOf, typeInfo, hi, hs, g0, hn, hcn]
      · have := (List.getElem?_eq_some_iff.1 hx).1
        rw [List.length_drop] at this
        omega
    · refine ⟨.slice (some ⟨g, off + n * 34, none⟩) (bs.length - n) (cap - n), fun w' => ?_, .inr ⟨g, off + n * 34, cap - n, by rw [List.length_drop], by rw [List.length_drop]; omega, by unfold maxLen at *; omega, fun i x hx => ?_⟩⟩
      · have g0 : (0 : Int) ≤ n := by omega
        simp [Instr.sliceAt, run_underlying Tryd.underlying46, Instr.slice, Instr.sliceBounds, run_sliceBound, sizeOf, typeInfo, hi, hs, g0, hn, hcn]
        exact Addr.add_lit ..
      · rw [List.getElem?_drop] at hx
        have := h3 _ x hx
        rw [show off + n * 34 + i * 34 = off + (n + i) * 34 by omega]
        exact this
end Go.Proofs.YtoognhbdgdfkoaaDoor
