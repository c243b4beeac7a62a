/-
  Contract of package sha's take: a state behind more bytes.
-/
import Derived.Test.YtoognhbdgdfkoaaDoorMix
import Derived.Laws.CopyOwn
import Derived.DataElems
namespace Go.Proofs.YtoognhbdgdfkoaaDoor
open Go.ChangeShapes Go.WideShapes Go.ChangeAt Go.RowKit

/-- a state to which these bytes came -/
def IsSt (w : World) (p : Nat) (bs : List Int) : Prop := ∃ H part, StOf bs H part ∧ w.heap[p]? = some (.cells (stC H part bs.length).toArray 85 (0, 0))
theorem StOf.ok {bs part : List Int} {H : St} (h : StOf bs H part) : H.ok := by
  rw [h.words]
  cases bs.length / 64 with
  | zero => exact h0_ok
  | succ n => rw [many_succ]; exact comp_ok _ _
theorem many_ok (n : Nat) (bs : List Int) : (many n h0 bs).ok := by
  cases n with
  | zero => exact h0_ok
  | succ n => rw [many_succ]; exact comp_ok _ _
theorem sumOf_rng (bs : List Int) : Rng (sumOf bs) := by
  intro y hy
  obtain ⟨x, hx, hy⟩ := List.mem_flatMap.1 hy
  exact w4_rng ((many_ok _ _).ws x hx) y hy
theorem IsSt.kept {F : Nat → Prop} {w w' : World} {p : Nat} {bs : List Int} (h : IsSt w p bs) (k : Kp F w w') (hF : ¬ F p) : IsSt w' p bs := by
  obtain ⟨H, part, h1, h2⟩ := h
  exact ⟨H, part, h1, kept_blk h2 k hF⟩
theorem IsSt.lt {w : World} {p : Nat} {bs : List Int} (h : IsSt w p bs) : p < w.heap.size := by
  obtain ⟨H, part, h1, h2⟩ := h
  exact lt_of_blk h2

theorem u8size : (Tryd.prog.info? 5).map (·.size) = some 1 := by kernel_rfl
/-- what stands in a slice of bytes from n on -/
theorem sees_from {w : World} {v : Value} {xs : List Int} (h : Sees w v xs) (n : Nat) (hn : n ≤ xs.length) :
    ∃ v', (∀ w', (Instr.sliceAt 24 v (some (.int .i64 n)) none none).run Tryd.prog w' = .ok v' w') ∧ Sees w v' (xs.drop n) ∧ v'.ownBlock = v.ownBlock := by
  obtain ⟨i, hi, hs⟩ := Option.map_eq_some_iff.1 u8size
  rcases h with ⟨rfl, rfl⟩ | ⟨ad, cap, rfl, h1, h2, h3⟩
  · obtain rfl : n = 0 := by simpa using hn
    refine ⟨.slice none 0 0, fun w' => ?_, .inl ⟨rfl, rfl⟩, rfl⟩
    simp [Instr.sliceAt, run_underlying Tryd.underlying24, Instr.slice, Instr.sliceBounds, run_sliceBound, sizeOf, typeInfo, hi]
  · refine ⟨.slice (some (if cap = n then ad else ad.add n)) (xs.length - n) (cap - n), fun w' => ?_, .inr ⟨_, cap - n, by rw [List.length_drop], by rw [List.length_drop]; omega, by unfold maxLen at *; omega, fun i x hx => ?_⟩, ?_⟩
    · have g0 : (0 : Int) ≤ n := by omega
      simp [Instr.sliceAt, run_underlying Tryd.underlying24, Instr.slice, Instr.sliceBounds, run_sliceBound, sizeOf, typeInfo, hi, hs, g0, hn]
      split <;> rfl
    · rw [List.getElem?_drop] at hx
      have hlt : n + i < xs.length := (List.getElem?_eq_some_iff.1 hx).1
      rw [if_neg (by omega), Addr.add_add]
      exact h3 _ _ hx
    · show some _ = some _
      split
      · rfl
      · rw [add_block]
theorem Sees.len {w : World} {v : Value} {xs : List Int} (h : Sees w v xs) : ∃ a c, v = .slice a xs.length c := by
  rcases h with ⟨rfl, rfl⟩ | ⟨ad, cap, rfl, _⟩
  · exact ⟨_, _, rfl⟩
  · exact ⟨_, _, rfl⟩
def lenOf : Value → Nat
  | .slice _ n _ => n
  | _ => 0

/-- some of the bytes came -/
structure TkRel (w : World) (p : Nat) (bs xs : List Int) (r : List Int) (v : Value) (wr : World) : Prop where
  st : ∃ d, xs = d ++ r ∧ IsSt wr p (bs ++ d)
  sees : Sees wr v r
  far : r ≠ [] → ∀ g, v.ownBlock = some g → g ≠ p
  kp : Kp (fun y => y = p) w wr
/-- bytes copied into the part -/
theorem copied {H : St} {part ys : List Int} {came : Int} {q : Nat} (hp : part.length = 64) (hq : q + ys.length ≤ 64) :
    (((stC H part came).toArray.toList.take (9 + q) ++ (U8s ys ++ (stC H part came).toArray.toList.drop (9 + q + (U8s ys).length))).toArray) = (stC H (part.take q ++ ys ++ part.drop (q + ys.length)) came).toArray := by
  have e : stC H part came = (.bool true :: U32s H.list) ++ (U8s part ++ [.int .i64 came]) := by simp [stC, stL]
  have e2 : stC H (part.take q ++ ys ++ part.drop (q + ys.length)) came = (.bool true :: U32s H.list) ++ (U8s (part.take q ++ ys ++ part.drop (q + ys.length)) ++ [.int .i64 came]) := by simp [stC, stL]
  have h9 : (Value.bool true :: U32s H.list).length = 9 := rfl
  rw [e, e2]
  congr 1
  generalize Value.bool true :: U32s H.list = A at h9
  rw [List.toList_toArray, List.take_append, List.take_of_length_le (by omega), List.drop_append, List.drop_eq_nil_of_le (by omega), h9, Nat.add_sub_cancel_left, U8s_length, show 9 + q + ys.length - 9 = q + ys.length by omega,
    List.take_append_of_le_length (by rw [U8s_length]; omega), List.drop_append_of_le_length (by rw [U8s_length]; omega)]
  simp [U8s]
theorem came_cell {w : World} {p t : Nat} {H : St} {part : List Int} {came : Int} (hp : part.length = 64) (hg : w.heap[p]? = some (.cells (stC H part came).toArray t (0, 0))) : w.cell? ⟨p, 73, none⟩ = some (.int .i64 came) := by
  have e : stC H part came = (.bool true :: U32s H.list) ++ (U8s part ++ [.int .i64 came]) := by simp [stC, stL]
  rw [cell_blk hg, List.getElem?_toArray, e, List.getElem?_append_right (by simp [U32s, St.list]), List.getElem?_append_right (by rw [U8s_length, hp]; simp [U32s, St.list])]
  simp [U32s, St.list, U8s, hp]
theorem came_set {H : St} {part : List Int} {came : Int} (hp : part.length = 64) (x : Int) : (stC H part came).toArray.setIfInBounds 73 (.int .i64 x) = (stC H part x).toArray := by
  apply Array.ext'
  have e : ∀ y, stC H part y = (.bool true :: U32s H.list) ++ (U8s part ++ [.int .i64 y]) := fun y => by simp [stC, stL]
  simp only [e, Array.toList_setIfInBounds]
  rw [List.set_append_right _ _ (by simp [U32s, St.list]), List.set_append_right _ _ (by rw [U8s_length, hp]; simp [U32s, St.list])]
  simp [U32s, St.list, U8s, hp]

set_option maxRecDepth 100000 in
set_option maxHeartbeats 800000 in
theorem take_any (bs xs : List Int) (hx : Rng xs) (hlen : bs.length + xs.length ≤ 1000000) (p : Nat) (v : Value) (w : World) (hR : Rts w) (hp2 : 2 ≤ p) (hs : Sees w v xs) (hf : xs ≠ [] → ∀ g, v.ownBlock = some g → g ≠ p) (hst : IsSt w p bs) :
    Calls Tryd.prog 53 #[.pointer (some ⟨p, 0, none⟩), v] w fun e w' => e = .returned (.tuple #[]) ∧ IsSt w' p (bs ++ xs) ∧ Kp (fun y => y = p) w w' := by
  have hrel0 : TkRel w p bs xs xs v w := ⟨⟨[], rfl, by rw [List.append_nil]; exact hst⟩, hs, hf, Kp.refl _ _⟩
  have hR' : ∀ w', Kp (fun y => y = p) w w' → Rts w' := fun w' k => hR.kept k (fun g hg e => by omega)
  have HR := Lib.hid hR'
  clear hs hf hst hR hR'
  go_enter Tryd.func53, Tryd.ntmps53
  go_wp2
  go_loopw [1, 4] (fun v _ wr => ∃ r, TkRel w p bs xs r v wr) (fun v _ _ => lenOf v)
  case atStart => exact ⟨xs, hrel0⟩
  case round =>
    clear hrel0
    obtain ⟨r, ⟨d, rfl, H, part, hso, hg⟩, hsee, hfar, hk⟩ := hrel
    obtain ⟨B, hB⟩ : ∃ B, B = (bs ++ d).length := ⟨_, rfl⟩
    rw [← hB] at hg
    have hBl : B + r.length ≤ 1000000 := by rw [hB]; simp only [List.length_append] at hlen ⊢; omega
    obtain ⟨q, hq⟩ : ∃ q, q = B % 64 := ⟨_, rfl⟩
    have hq64 : q < 64 := by omega
    have hc73 := came_cell hso.len hg
    have hf73 := free_blk hg 73
    by_cases hr : 0 < r.length
    · obtain ⟨y, hy⟩ : ∃ y, y = r.take (64 - q) := ⟨_, rfl⟩
      have hyl : y.length = Nat.min r.length (64 - q) := by rw [hy, List.length_take]; exact Nat.min_comm _ _
      have hyl1 : y.length ≤ r.length := by rw [hyl]; exact Nat.min_le_left _ _
      have hyl2 : q + y.length ≤ 64 := by have := Nat.min_le_right r.length (64 - q); rw [hyl]; unfold Nat.min at *; omega
      have hy1 : 1 ≤ y.length := by
        by_cases hc : 64 - q ≤ r.length
        · rw [hyl, show Nat.min r.length (64 - q) = 64 - q from Nat.min_eq_right hc]; omega
        · rw [hyl, show Nat.min r.length (64 - q) = r.length from Nat.min_eq_left (by omega)]; omega
      have hyd : r = y ++ r.drop y.length := by
        rw [hy, List.length_take]
        by_cases hc : 64 - q ≤ r.length
        · rw [Nat.min_eq_left hc, List.take_append_drop]
        · rw [Nat.min_eq_right (by omega), List.take_of_length_le (by omega), List.drop_length, List.append_nil]
      have hfull : q + y.length = 64 ∨ (q + y.length < 64 ∧ r.drop y.length = []) := by
        by_cases hc : 64 - q ≤ r.length
        · left; rw [hyl, show Nat.min r.length (64 - q) = 64 - q from Nat.min_eq_right hc]; omega
        · right
          have : y.length = r.length := by rw [hyl]; exact Nat.min_eq_left (by omega)
          exact ⟨by omega, by rw [this, List.drop_length]⟩
      have hry : Rng y := fun x h => hx x (List.mem_append_right _ (by rw [hyd]; exact List.mem_append_left _ h))
      have hsl := slice_from (t := 83) Tryd.underlying83 u8size p 9 q ((B : Int) % 64) (by omega) hq64
      have e1 : ((B : Int).tmod 64) = (B : Int) % 64 := Int.tmod_eq_emod_of_nonneg (by omega)
      obtain ⟨v', hv', hs', ho'⟩ := sees_from hsee y.length hyl1
      have hpl := hso.len
      have hok := hso.ok
      have hcp := copied (H := H) (came := B) hpl hyl2
      have hst1 := hso.some hry
      have hst2 := hso.full hry
      rw [← hB, ← hq] at hst1 hst2
      obtain ⟨part', hpart⟩ : ∃ part', part' = part.take q ++ y ++ part.drop (q + y.length) := ⟨_, rfl⟩
      rw [← hpart] at hcp hst1 hst2
      have hpr : Rng part' := by
        rcases hfull with h | h
        · exact (hst2 h).rng
        · exact (hst1 h.1).rng
      have hp'l : part'.length = 64 := by
        rcases hfull with h | h
        · exact (hst2 h).len
        · exact (hst1 h.1).len
      obtain ⟨ad, c, rfl, hrc, hcm, hcells⟩ : ∃ ad c, u1 = .slice (some ad) r.length c ∧ r.length ≤ c ∧ c ≤ maxLen ∧ ∀ i x, r[i]? = some x → wr.cell? (ad.add i) = some (.int .u8 x) := by
        rcases hsee with ⟨_, rfl⟩ | h
        · simp at hr
        · exact h
      have hsrc : ∀ j u, (U8s y)[j]? = some u → wr.drew.cell? (ad.add j) = some u := fun j u hj => by
        obtain ⟨x, hx1, rfl⟩ := U8s_inv hj
        exact hcells j x (by rw [hyd, List.getElem?_append_left (List.getElem?_eq_some_iff.1 hx1).1]; exact hx1)
      have hyc : (U8s y).length = Nat.min r.length (64 - q) := by rw [U8s_length]; exact hyl
      have hfit : 9 + q + (U8s y).length ≤ (stC H part B).toArray.size := by
        rw [U8s_length, List.size_toArray]
        have : (stC H part B).length = 74 := by simp [stC, stL, U32s_length, U8s_length, hpl, St.list]
        omega
      have HQ := Lib.hid hq
      have HB := Lib.hid hB
      have HG := Lib.hid hg
      have HF := Lib.hid hfull
      have HC := Lib.hid hcp
      have HSR := Lib.hid hsrc
      have HYC := Lib.hid hyc
      have HYD := Lib.hid hyd
      have HS1 := Lib.hid hst1
      have HS2 := Lib.hid hst2
      have HS' := Lib.hid hs'
      have HO' := Lib.hid ho'
      have HPL := Lib.hid hp'l
      have HFA := Lib.hid hfar
      have HK := Lib.hid hk
      clear hq hB hg hfull hcp hsrc hyc hyd hyl hy hst1 hst2 hs' ho' hpl hp'l hfar hk hcells hpart hsee
      go_wp2_with fail
      refine wp_tail 10 (by kernel_rfl) (by kernel_rfl) ?_
      simp only [List.take_succ_cons, List.take_zero, List.drop_succ_cons, List.drop_zero]
      repeat still_step
      refine wpStill_nil ?_
      clear e1 hsl hc73 hf73
      refine wpList_copy_own rfl _ _ 24 24 rfl 5 Tryd.underlying24 u8size p (9 + q) (64 - q) (64 - q) ad r.length c rfl rfl (stC H part B).toArray 85 HG.out (U8s y) HYC.out HSR.out hfit (U8s_one y) ?_
      rw [HC.out, U8s_length, show goInt y.length = .int .i64 (y.length : Int) from rfl]
      obtain ⟨w3, hw3⟩ : ∃ w3, w3 = wr.drew.setRow p (stC H part' B).toArray := ⟨_, rfl⟩
      have hg3 : w3.heap[p]? = some (.cells (stC H part' B).toArray 85 (0, 0)) := by rw [hw3]; exact setRow_blk HG.out
      have hk3 : Kp (fun y => y = p) wr w3 := by rw [hw3]; exact Kp.setRow (F := fun y => y = p) (Kp.refl _ wr).drew (fun _ => rfl) _
      rw [← hw3]
      have c73 := came_cell HPL.out hg3
      have f73 := free_blk hg3 73
      have hg4 : (w3.setCell ⟨p, 73, none⟩ (.int .i64 ((B : Int) + y.length))).heap[p]? = some (.cells (stC H part' ((B : Int) + y.length)).toArray 85 (0, 0)) := by
        rw [set_blk hg3, came_set HPL.out]
      have HG4 := Lib.hid hg4
      have HK3 := Lib.hid hk3
      clear hw3 hg3 hg4 hk3
      have hk34 : Kp (fun y => y = p) w3 (w3.setCell ⟨p, 73, none⟩ (.int .i64 ((B : Int) + y.length))) := Kp.setCell (F := fun y => y = p) (Kp.refl _ _) (fun _ => rfl) _
      have hlB : (bs ++ (d ++ y)).length = B + y.length := by rw [← List.append_assoc, List.length_append, ← HB.out]
      have hxs : d ++ r = (d ++ y) ++ r.drop y.length := by rw [List.append_assoc, ← HYD.out]
      have hdl : (r.drop y.length).length < r.length := by
        rw [List.length_drop]
        rcases HF.out with h | h
        · omega
        · have h2 := congrArg List.length h.2
          rw [List.length_drop] at h2
          simp only [List.length_nil] at h2
          omega
      have hlv : lenOf v' < r.length := by
        obtain ⟨a', c', e'⟩ := HS'.out.len
        rw [e']; exact hdl
      have hnext : ∀ w4, Kp (fun y => y = p) w3 w4 → IsSt w4 p (bs ++ (d ++ y)) → TkRel w p bs (d ++ r) (r.drop y.length) v' w4 := fun w4 k4 st4 =>
        ⟨⟨d ++ y, hxs, st4⟩, HS'.out.kept (HK3.out.trans k4 (fun _ _ h => h)) (fun hne g hg e => by
            rw [HO'.out] at hg
            exact HFA.out (by intro e0; rw [e0] at hr; simp at hr) g hg e), fun hne g hg => by
            rw [HO'.out] at hg
            exact HFA.out (by intro e0; rw [e0] at hr; simp at hr) g hg, HK.out.trans (HK3.out.trans k4 (fun _ _ h => h)) (fun _ _ h => h)⟩
      have HN := Lib.hid hnext
      have HLB := Lib.hid hlB
      have HLV := Lib.hid hlv
      clear hnext hlB hxs hdl hlv
      rcases HF.out with hfl | ⟨hfl, hnil⟩
      · have ht : (((B : Int) + y.length) % 64 == 0) = true := by have := HQ.out; simp; omega
        have hst2 := HS2.out hfl
        have hRw : Rts (w3.setCell ⟨p, 73, none⟩ (.int .i64 ((B : Int) + y.length))) := HR.out _ ((HK.out.trans HK3.out (fun _ _ h => h)).trans hk34 (fun _ _ h => h))
        have hmix := mix_any H hok part' HPL.out hpr ((B : Int) + y.length) p _ hRw HG4.out
        have HM := Lib.hid hmix
        have HST := Lib.hid hst2
        clear hmix hst2 hRw hfl
        go_wp2_with fail
        refine HM.out.mono ?_
        rintro e w5 ⟨rfl, hg5, hk5⟩
        have HG5 := Lib.hid hg5
        have HK5 := Lib.hid hk5
        clear hg5 hk5
        go_wp2_with fail
        refine ⟨⟨r.drop y.length, HN.out _ (hk34.trans HK5.out (fun _ _ h => h)) ⟨_, _, by rw [← List.append_assoc]; exact HST.out, by rw [HLB.out]; exact HG5.out⟩⟩, HLV.out⟩
      · have ht : (((B : Int) + y.length) % 64 == 0) = false := by have := HQ.out; simp; omega
        have hst1 := HS1.out hfl
        have HST := Lib.hid hst1
        clear hst1 hfl hnil
        go_wp2_with fail
        refine ⟨⟨r.drop y.length, HN.out _ hk34 ⟨_, _, by rw [← List.append_assoc]; exact HST.out, by rw [HLB.out]; exact HG4.out⟩⟩, HLV.out⟩
    · obtain rfl : r = [] := List.eq_nil_of_length_eq_zero (by omega)
      obtain ⟨a, c, rfl⟩ := hsee.len
      rw [List.append_nil] at hx hlen ⊢
      have HG := Lib.hid hg
      have HB := Lib.hid hB
      clear hg hB hc73 hf73 hq
      go_wp2_with fail
      go_end0
      refine ⟨rfl, ?_, hk⟩
      rw [List.append_nil]
      exact ⟨H, part, hso, by rw [← HB.out]; exact HG.out⟩
end Go.Proofs.YtoognhbdgdfkoaaDoor
