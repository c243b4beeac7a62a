/-
  Contracts of package sha's New, Len, Clone, Write and Sum of bytes; and of a state that no call made.
-/
import Derived.Test.YtopckankheljhaaDoorSum
namespace Go.Proofs.YtopckankheljhaaDoor
open Go.ChangeShapes Go.WideShapes Go.ChangeAt Go.RowKit

theorem builtSt : (Tryd.prog.built 48 [(0, .bool true), (1, .agg (U32s h0.list).toArray)]).isSome = true ∧
    (Tryd.prog.built 48 [(0, .bool true), (1, .agg (U32s h0.list).toArray)]).getD #[] = (stC h0 (List.replicate 64 0) 0).toArray := ⟨by kernel_rfl, by kernel_rfl⟩
theorem wpList_newSt {ops : Array Oper} {rest : List Oper} {o : Oper} {a : Act} {w : World} {Q : Exit → Act → World → Prop} (x : Nat) (hx : a.eval (.tmp x) = .agg (U32s h0.list).toArray) (hg : o.guard = none) (ho : o.op = .build 48 #[(0, .const (.bool true)), (1, .tmp x)])
    (h : wpList Tryd.prog ops Q rest (a.put o.dst (.agg (stC h0 (List.replicate 64 0) 0).toArray)) w) : wpList Tryd.prog ops Q (o :: rest) a w := by
  have e0 : (#[((0 : Nat), Operand.const (.bool true)), (1, Operand.tmp x)].map fun (i, x) => (i, a.eval x)).toList = [(0, .bool true), (1, .agg (U32s h0.list).toArray)] := by simp [Act.eval] at hx ⊢; exact hx
  refine wpList_build hg _ _ ho (by rw [e0]; exact builtSt.1) ?_
  rw [e0, builtSt.2]
  exact h

set_option maxHeartbeats 400000 in
theorem new_any (w : World) (hR : Rts w) :
    Calls Tryd.prog 13 #[] w fun e w' => e = .returned (.pointer (some ⟨w.heap.size, 0, none⟩)) ∧ IsSt w' w.heap.size [] ∧ Kp (fun _ => False) w w' ∧ w'.heap.size = w.heap.size + 1 := by
  obtain ⟨t, fr, hsq⟩ := hR.sq
  have HS := Lib.hid hsq
  clear hsq
  go_enter Tryd.func13, Tryd.ntmps13
  go_wp2_with (first
    | (refine wpList_load_row rfl 45 _ rfl 0 rfl t _ fr _ HS.out Tryd.underlying45 rfl (info8 _ rfl) ?_)
    | (refine wpList_newSt 1 rfl rfl rfl ?_))
  go_ret
  exact ⟨rfl, ⟨h0, List.replicate 64 0, StOf.start, new_blk _ _⟩, (Kp.refl _ w).alloc _, World.size_alloc _ _⟩

set_option maxHeartbeats 400000 in
theorem len_any (bs : List Int) (p : Nat) (w : World) (hst : IsSt w p bs) :
    Calls Tryd.prog 17 #[.pointer (some ⟨p, 0, none⟩)] w fun e w' => e = .returned (.int .i64 bs.length) ∧ w = w' := by
  obtain ⟨H, part, hso, hg⟩ := hst
  have c73 := came_cell hso.len hg
  clear hg
  go_enter Tryd.func17, Tryd.ntmps17
  go_wp2
  go_ret
  exact ⟨rfl, rfl⟩

set_option maxHeartbeats 400000 in
theorem clone_any (bs : List Int) (p : Nat) (w : World) (hst : IsSt w p bs) :
    Calls Tryd.prog 25 #[.pointer (some ⟨p, 0, none⟩)] w fun e w' => e = .returned (.pointer (some ⟨w.heap.size, 0, none⟩)) ∧ IsSt w' w.heap.size bs ∧ Kp (fun _ => False) w w' ∧ w'.heap.size = w.heap.size + 1 := by
  obtain ⟨H, part, hso, hg⟩ := hst
  have c0 : w.cell? ⟨p, 0, none⟩ = some (.bool true) := by rw [cell_blk hg]; rfl
  have hz1 := zerosSt
  have hpl := hso.len
  have HG := Lib.hid hg
  clear hg
  go_enter Tryd.func25, Tryd.ntmps25
  go_wp2_with (first
    | (refine wpList_load_row rfl 48 _ rfl p rfl 48 _ (0, 0) _ HG.out Tryd.underlying48 rfl (infoSt hpl _) ?_)
    | (refine wpList_store_fresh rfl 48 _ _ rfl _ rfl rfl 48 _ (infoSt hpl _) (by rw [List.size_toArray, List.size_toArray, show (stC H part bs.length).length = 74 by simp [stC, stL, U32s_length, U8s_length, hpl, St.list]]; rfl) (stC_one _ _ _) ?_; intro w2 hk2 hm hs2; have HM := Lib.hid hm; have HS2 := Lib.hid hs2; clear hm hs2))
  go_ret
  exact ⟨rfl, ⟨H, part, hso, HM.out⟩, hk2, HS2.out⟩

/-- a slice of slices that shows these bytes; nothing of it lies in block p -/
def SeesL (p : Nat) (w : World) (v : Value) (ls : List (List Int)) : Prop :=
  (v = .slice none 0 0 ∧ ls = []) ∨
  ∃ ad cap, v = .slice (some ad) ls.length cap ∧ ls.length ≤ cap ∧ cap ≤ maxLen ∧ ∀ i l, ls[i]? = some l → ad.block ≠ p ∧ ∃ u, w.cell? (ad.add i) = some u ∧ Sees w u l ∧ (l ≠ [] → ∀ g, u.ownBlock = some g → g ≠ p)
theorem SeesL.kept {p : Nat} {w w' : World} {v : Value} {ls : List (List Int)} (h : SeesL p w v ls) (k : Kp (fun y => y = p) w w') : SeesL p w' v ls := by
  rcases h with h | ⟨ad, cap, rfl, h1, h2, h3⟩
  · exact .inl h
  · refine .inr ⟨ad, cap, rfl, h1, h2, fun i l hi => ?_⟩
    obtain ⟨hne, u, hc, hs, hf⟩ := h3 i l hi
    exact ⟨hne, u, by rw [k.cell (lt_of_cell hc) (by rw [add_block]; exact hne)]; exact hc, hs.kept k hf, hf⟩
theorem SeesL.len {p : Nat} {w : World} {v : Value} {ls : List (List Int)} (h : SeesL p w v ls) : ∃ a c, v = .slice a ls.length c := by
  rcases h with ⟨rfl, rfl⟩ | ⟨ad, cap, rfl, _⟩
  · exact ⟨_, _, rfl⟩
  · exact ⟨_, _, rfl⟩
theorem flatten_take_le (ls : List (List Int)) (k : Nat) : (ls.take k).flatten.length ≤ ls.flatten.length := by
  have := congrArg List.length (congrArg List.flatten (List.take_append_drop k ls))
  rw [List.flatten_append, List.length_append] at this
  omega
theorem take_flat (ls : List (List Int)) (k : Nat) (l : List Int) (h : ls[k]? = some l) : (ls.take (k + 1)).flatten = (ls.take k).flatten ++ l := by
  rw [List.take_add_one, h]; simp

set_option maxHeartbeats 800000 in
theorem write_any (bs : List Int) (ls : List (List Int)) (hx : ∀ l ∈ ls, Rng l) (hlen : bs.length + ls.flatten.length ≤ 100000) (hll : ls.length ≤ 100000) (p : Nat) (v : Value) (w : World) (hR : Rts w) (hp2 : 2 ≤ p) (hs : SeesL p w v ls) (hst : IsSt w p bs) :
    Calls Tryd.prog 14 #[.pointer (some ⟨p, 0, none⟩), v] w fun e w' => e = .returned (.int .i64 0) ∧ IsSt w' p (bs ++ ls.flatten) ∧ Kp (fun y => y = p) w w' := by
  have c0 : w.cell? ⟨p, 0, none⟩ = some (.bool true) := by
    obtain ⟨H, part, hso, hg⟩ := hst
    rw [cell_blk hg]; rfl
  have hR' : ∀ w', Kp (fun y => y = p) w w' → Rts w' := fun w' k => hR.kept k (fun g hg e => by omega)
  have HR := Lib.hid hR'
  have HS := Lib.hid hs
  have HST := Lib.hid hst
  obtain ⟨a, c, rfl⟩ := hs.len
  clear hR hR' hs hst
  go_enter Tryd.func14, Tryd.ntmps14
  go_wp2
  go_loopw [6, 18] (fun _ i wr => ∃ k : Nat, k ≤ ls.length ∧ i = .int .i64 k ∧ Kp (fun y => y = p) w wr ∧ IsSt wr p (bs ++ (ls.take k).flatten)) (fun _ i _ => ls.length - (intOf i).toNat)
  case atStart => exact ⟨0, by omega, rfl, Kp.refl _ _, by simpa using HST.out⟩
  case round =>
    obtain ⟨k, hk, rfl, hkp, hsk⟩ := hrel
    by_cases hlt : k < ls.length
    · have hsl := HS.out.kept hkp
      obtain ⟨l, hl⟩ : ∃ l, ls[k]? = some l := ⟨ls[k], by simp [hlt]⟩
      rcases hsl with ⟨_, e⟩ | ⟨ad, cap, hv, h1, h2, h3⟩
      · rw [e] at hlt; simp at hlt
      · obtain ⟨hne, u, hc, hsu, hfu⟩ := h3 k l hl
        cases hv
        have hfl := take_flat ls k l hl
        have hle := flatten_take_le ls (k + 1)
        rw [hfl, List.length_append] at hle
        have hd : decide ((k : Int) < ls.length) = true := by simp; omega
        have HT := Lib.hid (take_any (bs ++ (ls.take k).flatten) l (hx l (List.mem_of_getElem? hl)) (by rw [List.length_append]; omega) p u wr (HR.out _ hkp) hp2 hsu hfu hsk)
        have HFL := Lib.hid hfl
        have HKP := Lib.hid hkp
        clear h3 hl hfl hkp hsk hsu
        go_wp2_with fail
        refine HT.out.mono ?_
        rintro e wz ⟨rfl, hs3, hk3⟩
        have hnext : Kp (fun y => y = p) w wz ∧ IsSt wz p (bs ++ (ls.take (k + 1)).flatten) := ⟨HKP.out.trans hk3 (fun _ _ h => h), by rw [HFL.out, ← List.append_assoc]; exact hs3⟩
        have HN := Lib.hid hnext
        clear hnext hs3 hk3
        go_wp2_with fail
        go_roundw
        case rel => exact ⟨k + 1, by omega, by go_num, HN.out⟩
        case measure => simp [intOf]; omega
    · obtain rfl : k = ls.length := by omega
      rw [List.take_length] at hsk
      have HK := Lib.hid hkp
      have HSK := Lib.hid hsk
      clear hkp hsk
      go_wp2_with fail
      go_ret
      exact ⟨rfl, HSK.out, HK.out⟩

set_option maxHeartbeats 400000 in
theorem sums_any (xs : List Int) (hx : Rng xs) (hlen : xs.length ≤ 100000) (v : Value) (w : World) (hR : Rts w) (hs : Sees w v xs) :
    Calls Tryd.prog 15 #[v] w fun e w' => e = .returned (.agg (U8s (sumOf xs)).toArray) ∧ Kp (fun _ => False) w w' := by
  have HS := Lib.hid hs
  have hz2 := zerosId
  have HR := Lib.hid hR
  have h2 := hR.size
  clear hs hR
  go_enter Tryd.func15, Tryd.ntmps15
  have hnew := new_any (w.alloc (.cells (U8s id0).toArray 26)) (HR.out.kept ((Kp.refl (fun _ => False) w).alloc _) (fun _ _ f => f))
  rw [World.size_alloc] at hnew
  have HN := Lib.hid hnew
  clear hnew
  go_wp2_with fail
  refine HN.out.mono ?_
  rintro e w1 ⟨rfl, hst1, hk1, hz1⟩
  have hk01 : Kp (fun _ => False) w w1 := ((Kp.refl _ w).alloc _).trans hk1 (fun _ _ f => f)
  have hg0 := kept_blk (new_blk w (.cells (U8s id0).toArray 26)) hk1 (fun f => f)
  have HT := Lib.hid (take_any [] xs hx (by simpa using (by omega : xs.length ≤ 1000000)) (w.heap.size + 1) v w1 (HR.out.kept hk01 (fun _ _ f => f)) (by omega) (HS.out.kept hk01 (fun _ _ _ f => f)) (fun hne g hg e => by have := HS.out.lt hne g hg; omega) hst1)
  have HK := Lib.hid hk01
  have HG := Lib.hid hg0
  clear hk1 hk01 hg0 hst1 hz1
  go_wp2_with fail
  refine HT.out.mono ?_
  rintro e w2 ⟨rfl, hst2, hk2⟩
  rw [List.nil_append] at hst2
  have hk02 : Kp (fun _ => False) w w2 := HK.out.trans hk2 (fun x hx e => by omega)
  have hg2 := kept_blk HG.out hk2 (by show ¬ w.heap.size = _; omega)
  have HM := Lib.hid (sum_any xs hlen (w.heap.size + 1) w2 (HR.out.kept hk02 (fun _ _ f => f)) hst2)
  have HK2 := Lib.hid hk02
  have HG2 := Lib.hid hg2
  clear hk2 hk02 hg2 hst2
  go_wp2_with fail
  refine HM.out.mono ?_
  rintro e w3 ⟨rfl, hk3⟩
  have hg3 := kept_blk HG2.out hk3 (fun f => f)
  have hk03 : Kp (fun _ => False) w w3 := HK2.out.trans hk3 (fun _ _ f => f)
  have HG3 := Lib.hid hg3
  have HK3 := Lib.hid hk03
  clear hk3 hk03 hg3
  go_wp2_with (refine wpList_store_row rfl 26 _ _ rfl w.heap.size _ rfl rfl 26 _ HG3.out (info32 _ (sumOf_length _)) (by rw [List.size_toArray, List.size_toArray, U8s_length, U8s_length, sumOf_length]; rfl) (all_oneCell_toArray (U8s_one _)) ?_)
  refine bodyPost_ret (v := .agg (U8s (sumOf xs)).toArray) (results_cell_row Tryd.results15 _ _ w.heap.size 26 _ (0, 0) _ rfl (setRow_blk HG3.out) Tryd.underlying26 rfl (info32 _ (sumOf_length _))) rfl ⟨rfl, ?_⟩
  exact HK3.out.setRow (by simp) _
end Go.Proofs.YtopckankheljhaaDoor
