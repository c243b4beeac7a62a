/-
  Slices of blocks: what shows them, literals of one and of two; contract of the laws' own short.
-/
import Derived.Test.YtoognhbdgdfkoaaDoorBv
namespace Go.Proofs.YtoognhbdgdfkoaaDoor
open Go.ChangeShapes Go.WideShapes Go.ChangeAt Go.RowKit

/-- a slice that shows these blocks, each with the slice of its data -/
def SeesBs (w : World) (v : Value) (bs : List (Blk × Value)) : Prop :=
  (v = .slice none 0 0 ∧ bs = []) ∨
  ∃ g off cap, v = .slice (some ⟨g, off, none⟩) bs.length cap ∧ bs.length ≤ cap ∧ cap ≤ maxLen ∧ ∀ i x, bs[i]? = some x → w.rangeAt g (off + i * 34) (blkC x.1 x.2)
/-- what a slice of blocks shows is well formed -/
def BsOk (w : World) (bs : List (Blk × Value)) : Prop := ∀ x ∈ bs, x.1.wf ∧ Sees w x.2 x.1.d
theorem blk_ne (b : Blk) (v : Value) : (blkC b v)[0]? ≠ none := by
  unfold blkC
  cases h : b.p with
  | nil => simp [U8s]
  | cons x r => simp [U8s]
theorem SeesBs.kept {F : Nat → Prop} {w w' : World} {v : Value} {bs : List (Blk × Value)} (h : SeesBs w v bs) (k : Kp F w w') (hF : bs ≠ [] → ∀ g, v.ownBlock = some g → ¬ F g) : SeesBs w' v bs := by
  rcases h with h | ⟨g, off, cap, rfl, h1, h2, h3⟩
  · exact .inl h
  · refine .inr ⟨g, off, cap, rfl, h1, h2, fun i x hi => fun j u hj => ?_⟩
    have hc := h3 i x hi j u hj
    have hne : bs ≠ [] := by rintro rfl; cases hi
    rw [k.cell (lt_of_cell hc) (hF hne g rfl)]
    exact hc
theorem BsOk.kept {w w' : World} {bs : List (Blk × Value)} (h : BsOk w bs) (k : Kp (fun _ => False) w w') : BsOk w' bs := fun x hx => ⟨(h x hx).1, (h x hx).2.kept k (fun _ _ _ f => f)⟩
theorem SeesBs.form {w : World} {v : Value} {bs : List (Blk × Value)} (h : SeesBs w v bs) : ∃ a c, v = .slice a bs.length c := by
  rcases h with ⟨rfl, rfl⟩ | ⟨g, off, cap, rfl, _⟩
  · exact ⟨none, 0, rfl⟩
  · exact ⟨_, _, rfl⟩

/-- are blocks short enough for the laws -/
def shortB (bs : List (Blk × Value)) : Bool := bs.all (fun x : Blk × Value => decide (x.1.d.length ≤ 3000)) && decide (bs.length ≤ 60)

set_option maxRecDepth 100000 in
set_option maxHeartbeats 800000 in
theorem short_any {v : Value} {bs : List (Blk × Value)} {w : World} (hs : SeesBs w v bs) (hb : BsOk w bs) :
    Calls Tryd.prog 9 #[v] w fun e w' => e = .returned (.bool (shortB bs)) ∧ Kp (fun _ => False) w w' := by
  obtain ⟨a, c, rfl⟩ := hs.form
  have hmax : bs.length ≤ 9223372036854775807 := by
    rcases hs with ⟨_, e⟩ | ⟨_, _, cap, _, h1, h2, _⟩
    · rw [e]; exact Nat.zero_le _
    · unfold maxLen at h2; omega
  have HS := Lib.hid hs
  have HB := Lib.hid hb
  have hz := zeroBlk
  have SH0 := fun (i : Nat) (x : Blk × Value) (hi : bs[i]? = some x) (h : 3000 < x.1.d.length) => (show shortB bs = false by
    unfold shortB
    rw [Bool.and_eq_false_iff]
    left
    rw [← Bool.not_eq_true, List.all_eq_true]
    intro h2
    have := h2 x (List.mem_of_getElem? hi)
    simp at this
    omega)
  have SH1 := fun (h : ∀ (i : Nat) (x : Blk × Value), bs[i]? = some x → x.1.d.length ≤ 3000) => (show shortB bs = decide ((bs.length : Int) ≤ 60) by
    unfold shortB
    rw [List.all_eq_true.2 (fun (x : Blk × Value) hx => by obtain ⟨i, hi⟩ := List.getElem?_of_mem hx; simpa using h i x hi)]
    show decide (bs.length ≤ 60) = _
    rw [Bool.eq_iff_iff]; simp; omega)
  obtain ⟨z, hzz⟩ : ∃ z, z = shortB bs := ⟨_, rfl⟩
  rw [← hzz] at SH0 SH1 ⊢
  have S0 := Lib.hid SH0
  have S1 := Lib.hid SH1
  clear hs hb hzz SH0 SH1
  go_enter Tryd.func9, Tryd.ntmps9
  go_wp2
  go_loopw [7] (fun i wr => ∃ k : Nat, k ≤ bs.length ∧ i = .int .i64 k ∧ Kp (fun _ => False) w wr ∧ Hid (∀ (j : Nat) (x : Blk × Value), j < k → bs[j]? = some x → x.1.d.length ≤ 3000)) (fun i _ => bs.length - (intOf i).toNat)
  case atStart => exact ⟨0, by omega, rfl, Kp.refl _ _, Lib.hid (fun j x h => by omega)⟩
  case round =>
    obtain ⟨k, hk, rfl, hkp, hsm⟩ := hrel
    by_cases hlt : k < bs.length
    · obtain ⟨x, hx⟩ : ∃ x, bs[k]? = some x := ⟨bs[k], by simp [hlt]⟩
      obtain ⟨hwf, hsx⟩ := HB.out x (List.mem_of_getElem? hx)
      obtain ⟨g, off, cap, hv, h3⟩ : ∃ g off cap, (Value.slice a bs.length c = .slice (some ⟨g, off, none⟩) bs.length cap) ∧ wr.rangeAt g (off + k * 34) (blkC x.1 x.2) := by
        rcases HS.out.kept hkp (fun _ _ _ f => f) with ⟨_, e⟩ | ⟨g, off, cap, e, _, _, h3⟩
        · rw [e] at hlt; cases hlt
        · exact ⟨g, off, cap, e, h3 k x hx⟩
      injection hv with hv1 hv2 hv3
      subst hv1 hv3
      obtain ⟨ax, cx, hxv⟩ := sees_form hsx
      have HR := Lib.hid h3
      have HW := Lib.hid hwf
      have HI := Lib.hid (fun v => (by have := infoBlk hwf.nm.len v; rw [List.size_toArray] at this; exact this : (Tryd.prog.info? 26).map (·.size) = some (blkC x.1 v).length))
      have HX := Lib.hid hx
      have HK := Lib.hid hkp
      have HXV := Lib.hid hxv
      clear h3 hsx hwf hx hkp hxv
      by_cases h3k : 3000 < x.1.d.length
      · have h3k' : (3000 : Int) < x.1.d.length := by omega
        obtain rfl := S0.out k x HX.out h3k
        go_wp2_with (first
          | ((with_reducible refine at_dst 10 ?_); refine wpList_load_mid rfl 26 _ rfl g (off + k * 34) rfl (blkC x.1 x.2) _ HR.out Tryd.underlying26 rfl (HI.out _) ?_)
          | ((with_reducible refine at_store 4 10 ?_); refine wpList_store_fresh rfl 26 _ _ rfl (blkC x.1 x.2).toArray rfl rfl 26 _ (by rw [List.size_toArray]; exact HI.out _) (by rw [List.size_toArray, List.size_toArray, blkC_length HW.out.nm.len]; rfl) (by rw [HXV.out]; exact blkC_one) ?_; intro w2 k2 m2 s2; have c33 := (BlkAt.mk m2 HW.out.nm.len).dat; rw [HXV.out] at c33; have K2 := Lib.hid (HK.out.trans k2 (fun _ _ f => f)); clear m2 s2 k2))
        go_ret
        exact ⟨rfl, K2.out⟩
      · have h3k' : ¬ (3000 : Int) < x.1.d.length := by omega
        go_wp2_with (first
          | ((with_reducible refine at_dst 10 ?_); refine wpList_load_mid rfl 26 _ rfl g (off + k * 34) rfl (blkC x.1 x.2) _ HR.out Tryd.underlying26 rfl (HI.out _) ?_)
          | ((with_reducible refine at_store 4 10 ?_); refine wpList_store_fresh rfl 26 _ _ rfl (blkC x.1 x.2).toArray rfl rfl 26 _ (by rw [List.size_toArray]; exact HI.out _) (by rw [List.size_toArray, List.size_toArray, blkC_length HW.out.nm.len]; rfl) (by rw [HXV.out]; exact blkC_one) ?_; intro w2 k2 m2 s2; have c33 := (BlkAt.mk m2 HW.out.nm.len).dat; rw [HXV.out] at c33; have K2 := Lib.hid (HK.out.trans k2 (fun _ _ f => f)); clear m2 s2 k2))
        go_roundw
        case rel => exact ⟨k + 1, by omega, by go_num, K2.out, Lib.hid (fun j y hj hy => by
          rcases Nat.lt_or_ge j k with h | h
          · exact hsm.out j y h hy
          · obtain rfl : j = k := by omega
            rw [HX.out] at hy
            cases hy
            omega)⟩
        case measure => simp [intOf]; omega
    · obtain rfl : k = bs.length := by omega
      have HZ := Lib.hid (S1.out (fun i x hi => hsm.out i x ((List.getElem?_eq_some_iff.1 hi).1) hi))
      have HK := Lib.hid hkp
      clear hkp hsm
      go_wp2
      go_ret
      exact ⟨by rw [HZ.out]; rfl, HK.out⟩

theorem mkb1 (p : List Int) (hp : p.length = 32) (h : Int) (d : List Int) (v : Value) (w : World) :
    (Instr.buildSlice 46 1 #[(0, .agg (blkC ⟨p, h, d⟩ v).toArray)]).run Tryd.prog w = .ok (.slice (some ⟨w.heap.size, 0, none⟩) 1 1) (w.alloc (.cells (blkC ⟨p, h, d⟩ v).toArray 26)) := by
  obtain ⟨x0, xp0, rfl, xh0⟩ := list_cons hp
  obtain ⟨x1, xp1, rfl, xh1⟩ := list_cons xh0
  obtain ⟨x2, xp2, rfl, xh2⟩ := list_cons xh1
  obtain ⟨x3, xp3, rfl, xh3⟩ := list_cons xh2
  obtain ⟨x4, xp4, rfl, xh4⟩ := list_cons xh3
  obtain ⟨x5, xp5, rfl, xh5⟩ := list_cons xh4
  obtain ⟨x6, xp6, rfl, xh6⟩ := list_cons xh5
  obtain ⟨x7, xp7, rfl, xh7⟩ := list_cons xh6
  obtain ⟨x8, xp8, rfl, xh8⟩ := list_cons xh7
  obtain ⟨x9, xp9, rfl, xh9⟩ := list_cons xh8
  obtain ⟨x10, xp10, rfl, xh10⟩ := list_cons xh9
  obtain ⟨x11, xp11, rfl, xh11⟩ := list_cons xh10
  obtain ⟨x12, xp12, rfl, xh12⟩ := list_cons xh11
  obtain ⟨x13, xp13, rfl, xh13⟩ := list_cons xh12
  obtain ⟨x14, xp14, rfl, xh14⟩ := list_cons xh13
  obtain ⟨x15, xp15, rfl, xh15⟩ := list_cons xh14
  obtain ⟨x16, xp16, rfl, xh16⟩ := list_cons xh15
  obtain ⟨x17, xp17, rfl, xh17⟩ := list_cons xh16
  obtain ⟨x18, xp18, rfl, xh18⟩ := list_cons xh17
  obtain ⟨x19, xp19, rfl, xh19⟩ := list_cons xh18
  obtain ⟨x20, xp20, rfl, xh20⟩ := list_cons xh19
  obtain ⟨x21, xp21, rfl, xh21⟩ := list_cons xh20
  obtain ⟨x22, xp22, rfl, xh22⟩ := list_cons xh21
  obtain ⟨x23, xp23, rfl, xh23⟩ := list_cons xh22
  obtain ⟨x24, xp24, rfl, xh24⟩ := list_cons xh23
  obtain ⟨x25, xp25, rfl, xh25⟩ := list_cons xh24
  obtain ⟨x26, xp26, rfl, xh26⟩ := list_cons xh25
  obtain ⟨x27, xp27, rfl, xh27⟩ := list_cons xh26
  obtain ⟨x28, xp28, rfl, xh28⟩ := list_cons xh27
  obtain ⟨x29, xp29, rfl, xh29⟩ := list_cons xh28
  obtain ⟨x30, xp30, rfl, xh30⟩ := list_cons xh29
  obtain ⟨x31, xp31, rfl, xh31⟩ := list_cons xh30
  obtain rfl := List.eq_nil_of_length_eq_zero xh31
  kernel_rfl
theorem mkb2 (p : List Int) (hp : p.length = 32) (h : Int) (d : List Int) (v : Value) (q : List Int) (hq : q.length = 32) (h' : Int) (d' : List Int) (v' : Value) (w : World) :
    (Instr.buildSlice 46 2 #[(0, .agg (blkC ⟨p, h, d⟩ v).toArray), (1, .agg (blkC ⟨q, h', d'⟩ v').toArray)]).run Tryd.prog w = .ok (.slice (some ⟨w.heap.size, 0, none⟩) 2 2) (w.alloc (.cells (blkC ⟨p, h, d⟩ v ++ blkC ⟨q, h', d'⟩ v').toArray 26)) := by
  obtain ⟨x0, xp0, rfl, xh0⟩ := list_cons hp
  obtain ⟨x1, xp1, rfl, xh1⟩ := list_cons xh0
  obtain ⟨x2, xp2, rfl, xh2⟩ := list_cons xh1
  obtain ⟨x3, xp3, rfl, xh3⟩ := list_cons xh2
  obtain ⟨x4, xp4, rfl, xh4⟩ := list_cons xh3
  obtain ⟨x5, xp5, rfl, xh5⟩ := list_cons xh4
  obtain ⟨x6, xp6, rfl, xh6⟩ := list_cons xh5
  obtain ⟨x7, xp7, rfl, xh7⟩ := list_cons xh6
  obtain ⟨x8, xp8, rfl, xh8⟩ := list_cons xh7
  obtain ⟨x9, xp9, rfl, xh9⟩ := list_cons xh8
  obtain ⟨x10, xp10, rfl, xh10⟩ := list_cons xh9
  obtain ⟨x11, xp11, rfl, xh11⟩ := list_cons xh10
  obtain ⟨x12, xp12, rfl, xh12⟩ := list_cons xh11
  obtain ⟨x13, xp13, rfl, xh13⟩ := list_cons xh12
  obtain ⟨x14, xp14, rfl, xh14⟩ := list_cons xh13
  obtain ⟨x15, xp15, rfl, xh15⟩ := list_cons xh14
  obtain ⟨x16, xp16, rfl, xh16⟩ := list_cons xh15
  obtain ⟨x17, xp17, rfl, xh17⟩ := list_cons xh16
  obtain ⟨x18, xp18, rfl, xh18⟩ := list_cons xh17
  obtain ⟨x19, xp19, rfl, xh19⟩ := list_cons xh18
  obtain ⟨x20, xp20, rfl, xh20⟩ := list_cons xh19
  obtain ⟨x21, xp21, rfl, xh21⟩ := list_cons xh20
  obtain ⟨x22, xp22, rfl, xh22⟩ := list_cons xh21
  obtain ⟨x23, xp23, rfl, xh23⟩ := list_cons xh22
  obtain ⟨x24, xp24, rfl, xh24⟩ := list_cons xh23
  obtain ⟨x25, xp25, rfl, xh25⟩ := list_cons xh24
  obtain ⟨x26, xp26, rfl, xh26⟩ := list_cons xh25
  obtain ⟨x27, xp27, rfl, xh27⟩ := list_cons xh26
  obtain ⟨x28, xp28, rfl, xh28⟩ := list_cons xh27
  obtain ⟨x29, xp29, rfl, xh29⟩ := list_cons xh28
  obtain ⟨x30, xp30, rfl, xh30⟩ := list_cons xh29
  obtain ⟨x31, xp31, rfl, xh31⟩ := list_cons xh30
  obtain rfl := List.eq_nil_of_length_eq_zero xh31
  obtain ⟨y0, yp0, rfl, yh0⟩ := list_cons hq
  obtain ⟨y1, yp1, rfl, yh1⟩ := list_cons yh0
  obtain ⟨y2, yp2, rfl, yh2⟩ := list_cons yh1
  obtain ⟨y3, yp3, rfl, yh3⟩ := list_cons yh2
  obtain ⟨y4, yp4, rfl, yh4⟩ := list_cons yh3
  obtain ⟨y5, yp5, rfl, yh5⟩ := list_cons yh4
  obtain ⟨y6, yp6, rfl, yh6⟩ := list_cons yh5
  obtain ⟨y7, yp7, rfl, yh7⟩ := list_cons yh6
  obtain ⟨y8, yp8, rfl, yh8⟩ := list_cons yh7
  obtain ⟨y9, yp9, rfl, yh9⟩ := list_cons yh8
  obtain ⟨y10, yp10, rfl, yh10⟩ := list_cons yh9
  obtain ⟨y11, yp11, rfl, yh11⟩ := list_cons yh10
  obtain ⟨y12, yp12, rfl, yh12⟩ := list_cons yh11
  obtain ⟨y13, yp13, rfl, yh13⟩ := list_cons yh12
  obtain ⟨y14, yp14, rfl, yh14⟩ := list_cons yh13
  obtain ⟨y15, yp15, rfl, yh15⟩ := list_cons yh14
  obtain ⟨y16, yp16, rfl, yh16⟩ := list_cons yh15
  obtain ⟨y17, yp17, rfl, yh17⟩ := list_cons yh16
  obtain ⟨y18, yp18, rfl, yh18⟩ := list_cons yh17
  obtain ⟨y19, yp19, rfl, yh19⟩ := list_cons yh18
  obtain ⟨y20, yp20, rfl, yh20⟩ := list_cons yh19
  obtain ⟨y21, yp21, rfl, yh21⟩ := list_cons yh20
  obtain ⟨y22, yp22, rfl, yh22⟩ := list_cons yh21
  obtain ⟨y23, yp23, rfl, yh23⟩ := list_cons yh22
  obtain ⟨y24, yp24, rfl, yh24⟩ := list_cons yh23
  obtain ⟨y25, yp25, rfl, yh25⟩ := list_cons yh24
  obtain ⟨y26, yp26, rfl, yh26⟩ := list_cons yh25
  obtain ⟨y27, yp27, rfl, yh27⟩ := list_cons yh26
  obtain ⟨y28, yp28, rfl, yh28⟩ := list_cons yh27
  obtain ⟨y29, yp29, rfl, yh29⟩ := list_cons yh28
  obtain ⟨y30, yp30, rfl, yh30⟩ := list_cons yh29
  obtain ⟨y31, yp31, rfl, yh31⟩ := list_cons yh30
  obtain rfl := List.eq_nil_of_length_eq_zero yh31
  kernel_rfl
theorem mks1 {a : Blk} (ha : a.p.length = 32) (v : Value) (w : World) :
    (Instr.buildSlice 46 1 #[(0, .agg (blkC a v).toArray)]).run Tryd.prog w = .ok (.slice (some ⟨w.heap.size, 0, none⟩) 1 1) (w.alloc (.cells (blkC a v).toArray 26)) := by
  cases a; exact mkb1 _ ha _ _ _ _
theorem mks2 {a b : Blk} (ha : a.p.length = 32) (hb : b.p.length = 32) (v v' : Value) (w : World) :
    (Instr.buildSlice 46 2 #[(0, .agg (blkC a v).toArray), (1, .agg (blkC b v').toArray)]).run Tryd.prog w = .ok (.slice (some ⟨w.heap.size, 0, none⟩) 2 2) (w.alloc (.cells (blkC a v ++ blkC b v').toArray 26)) := by
  cases a; cases b; exact mkb2 _ ha _ _ _ _ hb _ _ _ _
/-- the cells of blocks, one behind the other -/
def rowC (bs : List (Blk × Value)) : List Value := bs.flatMap fun x => blkC x.1 x.2
theorem rowC_at : ∀ (bs : List (Blk × Value)), (∀ x ∈ bs, x.1.p.length = 32) → ∀ (i : Nat) (x : Blk × Value), bs[i]? = some x → ∀ j u, (blkC x.1 x.2)[j]? = some u → (rowC bs)[i * 34 + j]? = some u
  | [], _, i, x, hi, _, _, _ => by cases hi
  | y :: r, hb, 0, x, hi, j, u, hj => by
    cases hi
    rw [Nat.zero_mul, Nat.zero_add, rowC, List.flatMap_cons, List.getElem?_append_left (List.getElem?_eq_some_iff.1 hj).1]
    exact hj
  | y :: r, hb, i + 1, x, hi, j, u, hj => by
    have ih := rowC_at r (fun z hz => hb z (List.mem_cons_of_mem _ hz)) i x hi j u hj
    have hl := blkC_length (hb y (List.mem_cons_self ..)) y.2
    rw [rowC, List.flatMap_cons, List.getElem?_append_right (by omega), hl, show (i + 1) * 34 + j - 34 = i * 34 + j by omega]
    exact ih
theorem sees_row {w : World} {g t : Nat} {bs : List (Blk × Value)} {fr : Nat × Nat} {rest : List Value} {cap : Nat} (h : w.heap[g]? = some (.cells (rowC bs ++ rest).toArray t fr)) (hb : ∀ x ∈ bs, x.1.p.length = 32) (hl : bs.length ≤ cap) (hm : cap ≤ maxLen) : SeesBs w (.slice (some ⟨g, 0, none⟩) bs.length cap) bs := by
  refine .inr ⟨g, 0, cap, rfl, hl, hm, fun i x hi j u hj => ?_⟩
  have hr := rowC_at bs hb i x hi j u hj
  rw [Nat.zero_add, cell_blk h, List.getElem?_toArray, List.getElem?_append_left (List.getElem?_eq_some_iff.1 hr).1]
  exact hr
/-- a literal of two blocks -/
theorem two_row (w : World) {a b : Blk} (va vb : Value) (ha : a.p.length = 32) (hb : b.p.length = 32) :
    SeesBs (w.alloc (.cells (blkC a va ++ blkC b vb).toArray 26)) (.slice (some ⟨w.heap.size, 0, none⟩) 2 2) [(a, va), (b, vb)] :=
  sees_row (bs := [(a, va), (b, vb)]) (rest := []) (t := 26) (fr := (0, 0)) (by rw [new_blk]; simp [rowC]) (by simp [ha, hb]) (Nat.le_refl _) (by unfold maxLen; omega)
theorem one_row (w : World) {a : Blk} (va : Value) (ha : a.p.length = 32) :
    SeesBs (w.alloc (.cells (blkC a va).toArray 26)) (.slice (some ⟨w.heap.size, 0, none⟩) 1 1) [(a, va)] :=
  sees_row (bs := [(a, va)]) (rest := []) (t := 26) (fr := (0, 0)) (by rw [new_blk]; simp [rowC]) (by simp [ha]) (Nat.le_refl _) (by unfold maxLen; omega)
end Go.Proofs.YtoognhbdgdfkoaaDoor
