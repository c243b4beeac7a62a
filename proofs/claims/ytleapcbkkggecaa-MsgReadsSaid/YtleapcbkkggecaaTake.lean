/-
  Contract of package sha's take: a state behind more bytes.
-/
import Derived.Test.YtleapcbkkggecaaMix
import Derived.Laws.CopyOwn
import Derived.DataElems
namespace Go.Proofs.Ytleapcbkkggecaa
open Go.ChangeShapes Go.WideShapes Go.ChangeAt Go.RowKit

theorem StOf.ok {bs part : List Int} {H : St} (h : StOf bs H part) : H.ok := by
  rw [h.words]
  cases bs.length / 64 with
  | zero => exact h0_ok
  | succ n => rw [many_succ]; exact comp_ok _ _
theorem many_ok (n : Nat) (bs : List Int) : (many n h0 bs).ok := by
  cases n with
  | zero => exact h0_ok
  | succ n => rw [many_succ]; exact comp_ok _ _
theorem sumOf_rng (bs : List Int) : Rng (sumOf bs) := by
  intro y hy
  obtain ⟨x, hx, hy⟩ := List.mem_flatMap.1 hy
  exact w4_rng ((many_ok _ _).ws x hx) y hy
theorem u8size : (Try.prog.info? 5).map (·.size) = some 1 := by kernel_rfl
/-- what stands in a slice of bytes from n on -/
theorem sees_from {w : World} {v : Value} {xs : List Int} (h : Sees w v xs) (n : Nat) (hn : n ≤ xs.length) :
    ∃ v', (∀ w', (Instr.sliceAt 29 v (some (.int .i64 n)) none none).run Try.prog w' = .ok v' w') ∧ Sees w v' (xs.drop n) ∧ v'.ownBlock = v.ownBlock := by
  obtain ⟨i, hi, hs⟩ := Option.map_eq_some_iff.1 u8size
  rcases h with ⟨rfl, rfl⟩ | ⟨ad, cap, rfl, h1, h2, h3⟩
  · obtain rfl : n = 0 := by simpa using hn
    refine ⟨.slice none 0 0, fun w' => ?_, .inl ⟨rfl, rfl⟩, rfl⟩
    simp [Instr.sliceAt, run_underlying Try.underlying29, Instr.slice, Instr.sliceBounds, run_sliceBound, sizeOf, typeInfo, hi]
  · refine ⟨.slice (some (if cap = n then ad else ad.add n)) (xs.length - n) (cap - n), fun w' => ?_, .inr ⟨_, cap - n, by rw [List.length_drop], by rw [List.length_drop]; omega, by unfold maxLen at *; omega, fun i x hx => ?_⟩, ?_⟩
    · have g0 : (0 : Int) ≤ n := by omega
      simp [Instr.sliceAt, run_underlying Try.underlying29, Instr.slice, Instr.sliceBounds, run_sliceBound, sizeOf, typeInfo, hi, hs, g0, hn]
      split <;> rfl
    · rw [List.getElem?_drop] at hx
      have hlt : n + i < xs.length := (List.getElem?_eq_some_iff.1 hx).1
      rw [if_neg (by omega), Addr.add_add]
      exact h3 _ _ hx
    · show some _ = some _
      split
      · rfl
      · rw [add_block]
theorem Sees.len {w : World} {v : Value} {xs : List Int} (h : Sees w v xs) : ∃ a c, v = .slice a xs.length c := by
  rcases h with ⟨rfl, rfl⟩ | ⟨ad, cap, rfl, _⟩
  · exact ⟨_, _, rfl⟩
  · exact ⟨_, _, rfl⟩
def lenOf : Value → Nat
  | .slice _ n _ => n
  | _ => 0

/-- bytes copied into the part -/
theorem copied {H : St} {part ys : List Int} {came : Int} {q : Nat} (hp : part.length = 64) (hq : q + ys.length ≤ 64) :
    (((stC H part came).toArray.toList.take (9 + q) ++ (U8s ys ++ (stC H part came).toArray.toList.drop (9 + q + (U8s ys).length))).toArray) = (stC H (part.take q ++ ys ++ part.drop (q + ys.length)) came).toArray := by
  have e : stC H part came = (.bool true :: U32s H.list) ++ (U8s part ++ [.int .i64 came]) := by simp [stC, stL]
  have e2 : stC H (part.take q ++ ys ++ part.drop (q + ys.length)) came = (.bool true :: U32s H.list) ++ (U8s (part.take q ++ ys ++ part.drop (q + ys.length)) ++ [.int .i64 came]) := by simp [stC, stL]
  have h9 : (Value.bool true :: U32s H.list).length = 9 := rfl
  rw [e, e2]
  congr 1
  generalize Value.bool true :: U32s H.list = A at h9
  rw [List.toList_toArray, List.take_append, List.take_of_length_le (by omega), List.drop_append, List.drop_eq_nil_of_le (by omega), h9, Nat.add_sub_cancel_left, U8s_length, show 9 + q + ys.length - 9 = q + ys.length by omega,
    List.take_append_of_le_length (by rw [U8s_length]; omega), List.drop_append_of_le_length (by rw [U8s_length]; omega)]
  simp [U8s]
theorem came_cell {w : World} {p t : Nat} {H : St} {part : List Int} {came : Int} (hp : part.length = 64) (hg : w.heap[p]? = some (.cells (stC H part came).toArray t (0, 0))) : w.cell? ⟨p, 73, none⟩ = some (.int .i64 came) := by
  have e : stC H part came = (.bool true :: U32s H.list) ++ (U8s part ++ [.int .i64 came]) := by simp [stC, stL]
  rw [cell_blk hg, List.getElem?_toArray, e, List.getElem?_append_right (by simp [U32s, St.list]), List.getElem?_append_right (by rw [U8s_length, hp]; simp [U32s, St.list])]
  simp [U32s, St.list, U8s, hp]
theorem came_set {H : St} {part : List Int} {came : Int} (hp : part.length = 64) (x : Int) : (stC H part came).toArray.setIfInBounds 73 (.int .i64 x) = (stC H part x).toArray := by
  apply Array.ext'
  have e : ∀ y, stC H part y = (.bool true :: U32s H.list) ++ (U8s part ++ [.int .i64 y]) := fun y => by simp [stC, stL]
  simp only [e, Array.toList_setIfInBounds]
  rw [List.set_append_right _ _ (by simp [U32s, St.list]), List.set_append_right _ _ (by rw [U8s_length, hp]; simp [U32s, St.list])]
  simp [U32s, St.list, U8s, hp]

end Go.Proofs.Ytleapcbkkggecaa
