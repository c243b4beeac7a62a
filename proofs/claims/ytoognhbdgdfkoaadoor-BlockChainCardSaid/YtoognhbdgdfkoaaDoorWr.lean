/-
  Contracts of package sha's New, Len, Clone, Write and Sum of bytes; and of a state that no call made.
-/
import Derived.Test.YtoognhbdgdfkoaaDoorSum
namespace Go.Proofs.YtoognhbdgdfkoaaDoor
open Go.ChangeShapes Go.WideShapes Go.ChangeAt Go.RowKit

theorem builtSt : (Tryd.prog.built 85 [(0, .bool true), (1, .agg (U32s h0.list).toArray)]).isSome = true ∧
    (Tryd.prog.built 85 [(0, .bool true), (1, .agg (U32s h0.list).toArray)]).getD #[] = (stC h0 (List.replicate 64 0) 0).toArray := ⟨by kernel_rfl, by kernel_rfl⟩
theorem wpList_newSt {ops : Array Oper} {rest : List Oper} {o : Oper} {a : Act} {w : World} {Q : Exit → Act → World → Prop} (x : Nat) (hx : a.eval (.tmp x) = .agg (U32s h0.list).toArray) (hg : o.guard = none) (ho : o.op = .build 85 #[(0, .const (.bool true)), (1, .tmp x)])
    (h : wpList Tryd.prog ops Q rest (a.put o.dst (.agg (stC h0 (List.replicate 64 0) 0).toArray)) w) : wpList Tryd.prog ops Q (o :: rest) a w := by
  have e0 : (#[((0 : Nat), Operand.const (.bool true)), (1, Operand.tmp x)].map fun (i, x) => (i, a.eval x)).toList = [(0, .bool true), (1, .agg (U32s h0.list).toArray)] := by simp [Act.eval] at hx ⊢; exact hx
  refine wpList_build hg _ _ ho (by rw [e0]; exact builtSt.1) ?_
  rw [e0, builtSt.2]
  exact h

set_option maxHeartbeats 400000 in
theorem new_any (w : World) (hR : Rts w) :
    Calls Tryd.prog 52 #[] w fun e w' => e = .returned (.pointer (some ⟨w.heap.size, 0, none⟩)) ∧ IsSt w' w.heap.size [] ∧ Kp (fun _ => False) w w' ∧ w'.heap.size = w.heap.size + 1 := by
  obtain ⟨t, fr, hsq⟩ := hR.sq
  have HS := Lib.hid hsq
  clear hsq
  go_enter Tryd.func52, Tryd.ntmps52
  go_wp2_with (first
    | (refine wpList_load_row rfl 76 _ rfl 0 rfl t _ fr _ HS.out Tryd.underlying76 rfl (info8 _ rfl) ?_)
    | (refine wpList_newSt 1 rfl rfl rfl ?_))
  go_ret
  exact ⟨rfl, ⟨h0, List.replicate 64 0, StOf.start, new_blk _ _⟩, (Kp.refl _ w).alloc _, World.size_alloc _ _⟩

/-- a slice of slices that shows these bytes; nothing of it lies in block p -/
def SeesL (p : Nat) (w : World) (v : Value) (ls : List (List Int)) : Prop :=
  (v = .slice none 0 0 ∧ ls = []) ∨
  ∃ ad cap, v = .slice (some ad) ls.length cap ∧ ls.length ≤ cap ∧ cap ≤ maxLen ∧ ∀ i l, ls[i]? = some l → ad.block ≠ p ∧ ∃ u, w.cell? (ad.add i) = some u ∧ Sees w u l ∧ (l ≠ [] → ∀ g, u.ownBlock = some g → g ≠ p)
theorem SeesL.kept {p : Nat} {w w' : World} {v : Value} {ls : List (List Int)} (h : SeesL p w v ls) (k : Kp (fun y => y = p) w w') : SeesL p w' v ls := by
  rcases h with h | ⟨ad, cap, rfl, h1, h2, h3⟩
  · exact .inl h
  · refine .inr ⟨ad, cap, rfl, h1, h2, fun i l hi => ?_⟩
    obtain ⟨hne, u, hc, hs, hf⟩ := h3 i l hi
    exact ⟨hne, u, by rw [k.cell (lt_of_cell hc) (by rw [add_block]; exact hne)]; exact hc, hs.kept k hf, hf⟩
theorem SeesL.len {p : Nat} {w : World} {v : Value} {ls : List (List Int)} (h : SeesL p w v ls) : ∃ a c, v = .slice a ls.length c := by
  rcases h with ⟨rfl, rfl⟩ | ⟨ad, cap, rfl, _⟩
  · exact ⟨_, _, rfl⟩
  · exact ⟨_, _, rfl⟩
theorem flatten_take_le (ls : List (List Int)) (k : Nat) : (ls.take k).flatten.length ≤ ls.flatten.length := by
  have := congrArg List.length (congrArg List.flatten (List.take_append_drop k ls))
  rw [List.flatten_append, List.length_append] at this
  omega
theorem take_flat (ls : List (List Int)) (k : Nat) (l : List Int) (h : ls[k]? = some l) : (ls.take (k + 1)).flatten = (ls.take k).flatten ++ l := by
  rw [List.take_add_one, h]; simp

set_option maxHeartbeats 400000 in
theorem sums_any (xs : List Int) (hx : Rng xs) (hlen : xs.length ≤ 100000) (v : Value) (w : World) (hR : Rts w) (hs : Sees w v xs) :
    Calls Tryd.prog 40 #[v] w fun e w' => e = .returned (.agg (U8s (sumOf xs)).toArray) ∧ Kp (fun _ => False) w w' := by
  have HS := Lib.hid hs
  have hz2 := zerosId
  have HR := Lib.hid hR
  have h2 := hR.size
  clear hs hR
  go_enter Tryd.func40, Tryd.ntmps40
  have hnew := new_any (w.alloc (.cells (U8s id0).toArray 23)) (HR.out.kept ((Kp.refl (fun _ => False) w).alloc _) (fun _ _ f => f))
  rw [World.size_alloc] at hnew
  have HN := Lib.hid hnew
  clear hnew
  go_wp2_with fail
  refine HN.out.mono ?_
  rintro e w1 ⟨rfl, hst1, hk1, hz1⟩
  have hk01 : Kp (fun _ => False) w w1 := ((Kp.refl _ w).alloc _).trans hk1 (fun _ _ f => f)
  have hg0 := kept_blk (new_blk w (.cells (U8s id0).toArray 23)) hk1 (fun f => f)
  have HT := Lib.hid (take_any [] xs hx (by simpa using (by omega : xs.length ≤ 1000000)) (w.heap.size + 1) v w1 (HR.out.kept hk01 (fun _ _ f => f)) (by omega) (HS.out.kept hk01 (fun _ _ _ f => f)) (fun hne g hg e => by have := HS.out.lt hne g hg; omega) hst1)
  have HK := Lib.hid hk01
  have HG := Lib.hid hg0
  clear hk1 hk01 hg0 hst1 hz1
  go_wp2_with fail
  refine HT.out.mono ?_
  rintro e w2 ⟨rfl, hst2, hk2⟩
  rw [List.nil_append] at hst2
  have hk02 : Kp (fun _ => False) w w2 := HK.out.trans hk2 (fun x hx e => by omega)
  have hg2 := kept_blk HG.out hk2 (by show ¬ w.heap.size = _; omega)
  have HM := Lib.hid (sum_any xs hlen (w.heap.size + 1) w2 (HR.out.kept hk02 (fun _ _ f => f)) hst2)
  have HK2 := Lib.hid hk02
  have HG2 := Lib.hid hg2
  clear hk2 hk02 hg2 hst2
  go_wp2_with fail
  refine HM.out.mono ?_
  rintro e w3 ⟨rfl, hk3⟩
  have hg3 := kept_blk HG2.out hk3 (fun f => f)
  have hk03 : Kp (fun _ => False) w w3 := HK2.out.trans hk3 (fun _ _ f => f)
  have HG3 := Lib.hid hg3
  have HK3 := Lib.hid hk03
  clear hk3 hk03 hg3
  go_wp2_with (refine wpList_store_row rfl 23 _ _ rfl w.heap.size _ rfl rfl 23 _ HG3.out (info32 _ (sumOf_length _)) (by rw [List.size_toArray, List.size_toArray, U8s_length, U8s_length, sumOf_length]; rfl) (all_oneCell_toArray (U8s_one _)) ?_)
  refine bodyPost_ret (v := .agg (U8s (sumOf xs)).toArray) (results_cell_row Tryd.results40 _ _ w.heap.size 23 _ (0, 0) _ rfl (setRow_blk HG3.out) Tryd.underlying23 rfl (info32 _ (sumOf_length _))) rfl ⟨rfl, ?_⟩
  exact HK3.out.setRow (by simp) _
end Go.Proofs.YtoognhbdgdfkoaaDoor
