/-
  Blocks as values: a parent's bytes, a height, a slice of data. Contracts of block.Check and of the document's own Check.
-/
import Derived.Test.YtoognhbdgdfkoaaDoorEq
import Derived.Test.YtoognhbdgdfkoaaDoorLw
import Derived.Test.YtoognhbdgdfkoaaDoorSel
import Derived.Deep.MidRow
import Derived.Deep.DeepCutAuto
namespace Go.Proofs.YtoognhbdgdfkoaaDoor
open Go.ChangeShapes Go.WideShapes Go.ChangeAt Go.RowKit

/-- a block -/
structure Blk where
  p : List Int
  h : Int
  d : List Int
  deriving DecidableEq
/-- a block's cells, v being the slice that shows its data -/
def blkC (b : Blk) (v : Value) : List Value := U8s b.p ++ [.int .i64 b.h, v]
def blkV (b : Blk) (v : Value) : Value := .agg (blkC b v).toArray
structure Blk.wf (b : Blk) : Prop where
  nm : Nm b.p
  lo : -9223372036854775808 ≤ b.h
  hi : b.h ≤ 9223372036854775807
  rng : Rng b.d
/-- the zero block -/
def blk0 : Blk := ⟨id0, 0, []⟩
/-- Check's answer -/
def bchk (b : Blk) : Int := if b.h < 0 ∨ 200 < b.d.length ∨ (b.h = 0 ∧ b.p ≠ id0) then 30 else 0

theorem blkC_length {b : Blk} (h : b.p.length = 32) (v : Value) : (blkC b v).length = 34 := by simp [blkC, U8s_length, h]
theorem infoBlk {b : Blk} (h : b.p.length = 32) (v : Value) : (Tryd.prog.info? 26).map (·.size) = some (blkC b v).toArray.size := by
  rw [List.size_toArray, blkC_length h]; kernel_rfl
theorem blkC_one {b : Blk} {a : Option Addr} {n c : Nat} : (blkC b (.slice a n c)).toArray.all (·.oneCell') = true :=
  all_oneCell_toArray (fun v hv => by
    simp only [blkC, U8s, List.mem_cons, List.mem_append, List.mem_map, List.not_mem_nil, or_false] at hv
    rcases hv with ⟨_, _, rfl⟩ | rfl | rfl <;> rfl)
theorem blkC_32 {b : Blk} (h : b.p.length = 32) (v : Value) : (blkC b v).toArray[32]? = some (.int .i64 b.h) := by
  rw [List.getElem?_toArray, blkC, List.getElem?_append_right (by rw [U8s_length]; omega), U8s_length, h]; rfl
theorem blkC_33 {b : Blk} (h : b.p.length = 32) (v : Value) : (blkC b v).toArray[33]? = some v := by
  rw [List.getElem?_toArray, blkC, List.getElem?_append_right (by rw [U8s_length]; omega), U8s_length, h]; rfl

/-- a block in memory -/
structure BlkAt (w : World) (g : Nat) (b : Blk) (v : Value) : Prop where
  row : w.heap[g]? = some (.cells (blkC b v).toArray 26 (0, 0))
  len : b.p.length = 32
theorem BlkAt.kept {F : Nat → Prop} {w w' : World} {g : Nat} {b : Blk} {v : Value} (h : BlkAt w g b v) (k : Kp F w w') (hF : ¬ F g) : BlkAt w' g b v := ⟨kept_blk h.row k hF, h.len⟩
theorem BlkAt.ht {w : World} {g : Nat} {b : Blk} {v : Value} (h : BlkAt w g b v) : w.cell? ⟨g, 32, none⟩ = some (.int .i64 b.h) := by rw [cell_blk h.row, blkC_32 h.len]
theorem BlkAt.dat {w : World} {g : Nat} {b : Blk} {v : Value} (h : BlkAt w g b v) : w.cell? ⟨g, 33, none⟩ = some v := by rw [cell_blk h.row, blkC_33 h.len]
theorem BlkAt.par {w : World} {g : Nat} {b : Blk} {v : Value} (h : BlkAt w g b v) : w.rangeAt g 0 (U8s b.p) := fun j u hj => by
  rw [Nat.zero_add, cell_blk h.row, List.getElem?_toArray, blkC, List.getElem?_append_left (List.getElem?_eq_some_iff.1 hj).1]; exact hj
theorem BlkAt.new (w : World) {b : Blk} (h : b.p.length = 32) (v : Value) : BlkAt (w.alloc (.cells (blkC b v).toArray 26)) w.heap.size b v := ⟨new_blk _ _, h⟩
theorem BlkAt.lt {w : World} {g : Nat} {b : Blk} {v : Value} (h : BlkAt w g b v) : g < w.heap.size := lt_of_blk h.row

theorem wpList_load_mid_want {P : Program} {ops : Array Oper} {rest : List Oper} {o : Oper} {a : Act} {w : World} {Q : Exit → Act → World → Prop} (hw : Region.wanted o (yielded ops a.tmps) = true) (ty : TypeId) (x : Operand) (ho : o.op = .load ty x)
    (g off : Nat) (hx : a.eval x = .pointer (some ⟨g, off, none⟩)) (cs : List Value) (d : TypeDesc) (hc : w.rangeAt g off cs)
    (hu : P.underlying ty = some d) (hd : d.isRow = true) (hi : (P.info? ty).map (·.size) = some cs.length)
    (h : wpList P ops Q rest (a.put o.dst (.agg cs.toArray)) w) : wpList P ops Q (o :: rest) a w :=
  BigFrame.wpList_want hw fun _ hK => wp_load_mid ty x ho g off hx cs d hc hu hd hi (hK _ _ h)
theorem infoPar {b : Blk} (h : b.p.length = 32) : (Tryd.prog.info? 23).map (·.size) = some (U8s b.p).length := by
  rw [U8s_length, h]; kernel_rfl
theorem builtId : (Tryd.prog.built 23 []).isSome = true ∧ (Tryd.prog.built 23 []).getD #[] = (U8s id0).toArray := ⟨by kernel_rfl, by kernel_rfl⟩

theorem eqz_names (a : List Int) (ha : a.length = 32) (w : World) : (Op.equalIn 10000 23 (.agg (U8s a).toArray) (.agg #[.int .u8 0, .int .u8 0, .int .u8 0, .int .u8 0, .int .u8 0, .int .u8 0, .int .u8 0, .int .u8 0, .int .u8 0, .int .u8 0, .int .u8 0, .int .u8 0, .int .u8 0, .int .u8 0, .int .u8 0, .int .u8 0, .int .u8 0, .int .u8 0, .int .u8 0, .int .u8 0, .int .u8 0, .int .u8 0, .int .u8 0, .int .u8 0, .int .u8 0, .int .u8 0, .int .u8 0, .int .u8 0, .int .u8 0, .int .u8 0, .int .u8 0, .int .u8 0])).run Tryd.prog w = .ok (decide (a = id0)) w :=
  equal_names 9998 a id0 ha rfl w

set_option maxRecDepth 100000 in
set_option maxHeartbeats 400000 in
theorem check_any {b : Blk} {v : Value} (hb : b.wf) {w : World} (hs : Sees w v b.d) :
    Calls Tryd.prog 14 #[blkV b v] w fun e w' => e = .returned (.int .i64 (bchk b)) ∧ Kp (fun _ => False) w w' := by
  obtain ⟨a0, c0, rfl⟩ := sees_form hs
  have hat := BlkAt.new w hb.nm.len (.slice a0 b.d.length c0)
  have c32 := hat.ht
  have c33 := hat.dat
  have k1 : Kp (fun _ => False) w (w.alloc (.cells (blkC b (.slice a0 b.d.length c0)).toArray 26)) := (Kp.refl _ _).alloc _
  have hn := fun w => eqz_names b.p hb.nm.len w
  have HI := Lib.hid (infoPar hb.nm.len)
  have HP := Lib.hid hat.par
  have h64 := hb.hi
  clear hs hat
  have F : ∀ x : Int, x = bchk b → Hid (x = bchk b) := fun _ h => Lib.hid h
  by_cases h1 : b.h < 0
  · have HF := F 30 (by unfold bchk; rw [if_pos (.inl h1)])
    clear F
    go_enter Tryd.func14, Tryd.ntmps14
    unfold blkV
    go_wp2
    go_ret
    exact ⟨by rw [← HF.out]; rfl, k1⟩
  · by_cases h2 : 200 < b.d.length
    · have HF := F 30 (by unfold bchk; rw [if_pos (.inr (.inl h2))])
      have h2' : (200 : Int) < b.d.length := by omega
      clear F
      go_enter Tryd.func14, Tryd.ntmps14
      unfold blkV
      go_wp2
      go_ret
      exact ⟨by rw [← HF.out]; rfl, k1⟩
    · have h2' : ¬ (200 : Int) < b.d.length := by omega
      by_cases h3 : b.h = 0
      · have e0 : (b.h == 0) = true := by simpa using h3
        by_cases h4 : b.p = id0
        · have HF := F 0 (by unfold bchk; rw [if_neg (by rintro (h | h | h); exact h1 h; exact h2 h; exact h.2 h4)])
          rw [decide_eq_true h4] at hn
          clear F h3 h4
          go_enter Tryd.func14, Tryd.ntmps14
          unfold blkV
          go_wp2_with (refine wpList_load_mid_want rfl 23 _ rfl w.heap.size 0 rfl (U8s b.p) _ HP.out Tryd.underlying23 rfl HI.out ?_)
          go_ret
          exact ⟨by rw [← HF.out]; rfl, k1⟩
        · have HF := F 30 (by unfold bchk; rw [if_pos (.inr (.inr ⟨h3, h4⟩))])
          rw [decide_eq_false h4] at hn
          clear F h3 h4
          go_enter Tryd.func14, Tryd.ntmps14
          unfold blkV
          go_wp2_with (refine wpList_load_mid_want rfl 23 _ rfl w.heap.size 0 rfl (U8s b.p) _ HP.out Tryd.underlying23 rfl HI.out ?_)
          go_ret
          exact ⟨by rw [← HF.out]; rfl, k1⟩
      · have e0 : (b.h == 0) = false := by simpa using h3
        have HF := F 0 (by unfold bchk; rw [if_neg (by rintro (h | h | h); exact h1 h; exact h2 h; exact h3 h.1)])
        clear F
        go_enter Tryd.func14, Tryd.ntmps14
        unfold blkV
        go_wp2
        go_ret
        exact ⟨by rw [← HF.out]; rfl, k1⟩

set_option maxRecDepth 100000 in
set_option maxHeartbeats 400000 in
theorem rcheck_any {b : Blk} {v : Value} (hb : b.wf) {w : World} (hs : Sees w v b.d) :
    Calls Tryd.prog 15 #[blkV b v] w fun e w' => e = .returned (.int .i64 (bchk b)) ∧ Kp (fun _ => False) w w' := by
  obtain ⟨a0, c0, rfl⟩ := sees_form hs
  have hat := BlkAt.new w hb.nm.len (.slice a0 b.d.length c0)
  have c32 := hat.ht
  have c33 := hat.dat
  have k1 : Kp (fun _ => False) w (w.alloc (.cells (blkC b (.slice a0 b.d.length c0)).toArray 26)) := (Kp.refl _ _).alloc _
  have hn := fun w => eqz_names b.p hb.nm.len w
  have HI := Lib.hid (infoPar hb.nm.len)
  have HP := Lib.hid hat.par
  have h64 := hb.hi
  clear hs hat
  have F : ∀ x : Int, x = bchk b → Hid (x = bchk b) := fun _ h => Lib.hid h
  by_cases h1 : b.h < 0
  · have HF := F 30 (by unfold bchk; rw [if_pos (.inl h1)])
    clear F
    go_enter Tryd.func15, Tryd.ntmps15
    unfold blkV
    go_wp2
    go_ret
    exact ⟨by rw [← HF.out]; rfl, k1⟩
  · by_cases h2 : 200 < b.d.length
    · have HF := F 30 (by unfold bchk; rw [if_pos (.inr (.inl h2))])
      have h2' : (200 : Int) < b.d.length := by omega
      clear F
      go_enter Tryd.func15, Tryd.ntmps15
      unfold blkV
      go_wp2
      go_ret
      exact ⟨by rw [← HF.out]; rfl, k1⟩
    · have h2' : ¬ (200 : Int) < b.d.length := by omega
      by_cases h3 : b.h = 0
      · have e0 : (b.h == 0) = true := by simpa using h3
        by_cases h4 : b.p = id0
        · have HF := F 0 (by unfold bchk; rw [if_neg (by rintro (h | h | h); exact h1 h; exact h2 h; exact h.2 h4)])
          rw [decide_eq_true h4] at hn
          clear F h3 h4
          go_enter Tryd.func15, Tryd.ntmps15
          unfold blkV
          go_wp2_with (refine wpList_load_mid_want rfl 23 _ rfl w.heap.size 0 rfl (U8s b.p) _ HP.out Tryd.underlying23 rfl HI.out ?_)
          go_ret
          exact ⟨by rw [← HF.out]; rfl, k1⟩
        · have HF := F 30 (by unfold bchk; rw [if_pos (.inr (.inr ⟨h3, h4⟩))])
          rw [decide_eq_false h4] at hn
          clear F h3 h4
          go_enter Tryd.func15, Tryd.ntmps15
          unfold blkV
          go_wp2_with (refine wpList_load_mid_want rfl 23 _ rfl w.heap.size 0 rfl (U8s b.p) _ HP.out Tryd.underlying23 rfl HI.out ?_)
          go_ret
          exact ⟨by rw [← HF.out]; rfl, k1⟩
      · have e0 : (b.h == 0) = false := by simpa using h3
        have HF := F 0 (by unfold bchk; rw [if_neg (by rintro (h | h | h); exact h1 h; exact h2 h; exact h3 h.1)])
        clear F
        go_enter Tryd.func15, Tryd.ntmps15
        unfold blkV
        go_wp2
        go_ret
        exact ⟨by rw [← HF.out]; rfl, k1⟩

theorem eqn_names (a b : List Int) (ha : a.length = 32) (hb : b.length = 32) (w : World) : (Op.equalIn 10000 23 (.agg (U8s a).toArray) (.agg (U8s b).toArray)).run Tryd.prog w = .ok (decide (a = b)) w :=
  equal_names 9998 a b ha hb w
/-- two blocks, one boxed behind the other -/
theorem two_at (w : World) {a b : Blk} (ha : a.p.length = 32) (hb : b.p.length = 32) (va vb : Value) :
    BlkAt ((w.alloc (.cells (blkC a va).toArray 26)).alloc (.cells (blkC b vb).toArray 26)) w.heap.size a va ∧
    BlkAt ((w.alloc (.cells (blkC a va).toArray 26)).alloc (.cells (blkC b vb).toArray 26)) (w.heap.size + 1) b vb := by
  refine ⟨⟨old_blk (new_blk _ _) _, ha⟩, ⟨?_, hb⟩⟩
  have h := new_blk (w.alloc (.cells (blkC a va).toArray 26)) (.cells (blkC b vb).toArray 26)
  rw [World.size_alloc] at h
  exact h
theorem Blk.ext {a b : Blk} (h1 : a.p = b.p) (h2 : a.h = b.h) (h3 : a.d = b.d) : a = b := by cases a; cases b; simp_all

set_option maxRecDepth 100000 in
set_option maxHeartbeats 400000 in
theorem same_any {a b : Blk} {va vb : Value} (ha : a.wf) (hb : b.wf) {w : World} (sa : Sees w va a.d) (sb : Sees w vb b.d) :
    Calls Tryd.prog 16 #[blkV a va, blkV b vb] w fun e w' => e = .returned (.bool (decide (a = b))) ∧ Kp (fun _ => False) w w' := by
  obtain ⟨a1, c1, rfl⟩ := sees_form sa
  obtain ⟨a2, c2, rfl⟩ := sees_form sb
  obtain ⟨hA, hB⟩ := two_at w ha.nm.len hb.nm.len (.slice a1 a.d.length c1) (.slice a2 b.d.length c2)
  have ca32 := hA.ht
  have ca33 := hA.dat
  have cb32 := hB.ht
  have cb33 := hB.dat
  have k1 : Kp (fun _ => False) w ((w.alloc (.cells (blkC a (.slice a1 a.d.length c1)).toArray 26)).alloc (.cells (blkC b (.slice a2 b.d.length c2)).toArray 26)) := ((Kp.refl _ _).alloc _).alloc _
  have hq := equal_any (sa.kept k1 (fun _ _ _ f => f)) (sb.kept k1 (fun _ _ _ f => f)) ha.rng hb.rng
  have hn := fun w => eqn_names a.p b.p ha.nm.len hb.nm.len w
  have HA := Lib.hid (infoPar ha.nm.len)
  have HB := Lib.hid (infoPar hb.nm.len)
  have HPA := Lib.hid hA.par
  have HPB := Lib.hid hB.par
  have HQ := Lib.hid hq
  clear sa sb hA hB hq
  have F : ∀ x : Bool, x = decide (a = b) → Hid (x = decide (a = b)) := fun _ h => Lib.hid h
  by_cases h1 : a.p = b.p
  · rw [decide_eq_true h1] at hn
    by_cases h2 : a.h = b.h
    · have e0 : (a.h == b.h) = true := by simpa using h2
      have HF := F (decide (a.d = b.d)) (by rw [Bool.eq_iff_iff]; simp only [decide_eq_true_eq]; exact ⟨fun h => Blk.ext h1 h2 h, fun h => by rw [h]⟩)
      clear F h1 h2
      go_enter Tryd.func16, Tryd.ntmps16
      unfold blkV
      go_wp2_with (first
        | ((with_reducible refine at_dst 6 ?_); refine wpList_load_mid rfl 23 _ rfl w.heap.size 0 rfl (U8s a.p) _ HPA.out Tryd.underlying23 rfl HA.out ?_)
        | ((with_reducible refine at_dst 8 ?_); refine wpList_load_mid rfl 23 _ rfl (w.heap.size + 1) 0 rfl (U8s b.p) _ HPB.out Tryd.underlying23 rfl HB.out ?_)
        | (go_at_call 25; refine (HQ.out).mono ?_; rintro r w1 ⟨rfl, rfl⟩))
      go_ret
      exact ⟨by rw [← HF.out]; rfl, k1⟩
    · have e0 : (a.h == b.h) = false := by simpa using h2
      have HF := F false (by rw [eq_comm, decide_eq_false_iff_not]; intro h; exact h2 (by rw [h]))
      clear F h1 h2
      go_enter Tryd.func16, Tryd.ntmps16
      unfold blkV
      go_wp2_with (first
        | ((with_reducible refine at_dst 6 ?_); refine wpList_load_mid rfl 23 _ rfl w.heap.size 0 rfl (U8s a.p) _ HPA.out Tryd.underlying23 rfl HA.out ?_)
        | ((with_reducible refine at_dst 8 ?_); refine wpList_load_mid rfl 23 _ rfl (w.heap.size + 1) 0 rfl (U8s b.p) _ HPB.out Tryd.underlying23 rfl HB.out ?_))
      go_ret
      exact ⟨by rw [← HF.out]; rfl, k1⟩
  · rw [decide_eq_false h1] at hn
    have HF := F false (by rw [eq_comm, decide_eq_false_iff_not]; intro h; exact h1 (by rw [h]))
    clear F h1
    go_enter Tryd.func16, Tryd.ntmps16
    unfold blkV
    go_wp2_with (first
      | ((with_reducible refine at_dst 6 ?_); refine wpList_load_mid rfl 23 _ rfl w.heap.size 0 rfl (U8s a.p) _ HPA.out Tryd.underlying23 rfl HA.out ?_)
      | ((with_reducible refine at_dst 8 ?_); refine wpList_load_mid rfl 23 _ rfl (w.heap.size + 1) 0 rfl (U8s b.p) _ HPB.out Tryd.underlying23 rfl HB.out ?_))
    go_ret
    exact ⟨by rw [← HF.out]; rfl, k1⟩

set_option maxRecDepth 100000 in
set_option maxHeartbeats 400000 in
theorem rsame_any {a b : Blk} {va vb : Value} (ha : a.wf) (hb : b.wf) {w : World} (sa : Sees w va a.d) (sb : Sees w vb b.d) :
    Calls Tryd.prog 17 #[blkV a va, blkV b vb] w fun e w' => e = .returned (.bool (decide (a = b))) ∧ Kp (fun _ => False) w w' := by
  obtain ⟨a1, c1, rfl⟩ := sees_form sa
  obtain ⟨a2, c2, rfl⟩ := sees_form sb
  obtain ⟨hA, hB⟩ := two_at w ha.nm.len hb.nm.len (.slice a1 a.d.length c1) (.slice a2 b.d.length c2)
  have ca32 := hA.ht
  have ca33 := hA.dat
  have cb32 := hB.ht
  have cb33 := hB.dat
  have k1 : Kp (fun _ => False) w ((w.alloc (.cells (blkC a (.slice a1 a.d.length c1)).toArray 26)).alloc (.cells (blkC b (.slice a2 b.d.length c2)).toArray 26)) := ((Kp.refl _ _).alloc _).alloc _
  have hs1 := run_string_of (sa.kept k1 (fun _ _ _ f => f))
  have hs2 := run_string_of (sb.kept k1 (fun _ _ _ f => f))
  have HQ := Lib.hid (strOf_inj ha.rng hb.rng)
  have hn := fun w => eqn_names a.p b.p ha.nm.len hb.nm.len w
  have HA := Lib.hid (infoPar ha.nm.len)
  have HB := Lib.hid (infoPar hb.nm.len)
  have HPA := Lib.hid hA.par
  have HPB := Lib.hid hB.par
  clear sa sb hA hB
  have F : ∀ x : Bool, x = decide (a = b) → Hid (x = decide (a = b)) := fun _ h => Lib.hid h
  by_cases h1 : a.p = b.p
  · rw [decide_eq_true h1] at hn
    by_cases h2 : a.h = b.h
    · have e0 : (a.h == b.h) = true := by simpa using h2
      have HF := F (decide (a.d = b.d)) (by rw [Bool.eq_iff_iff]; simp only [decide_eq_true_eq]; exact ⟨fun h => Blk.ext h1 h2 h, fun h => by rw [h]⟩)
      clear F h1 h2
      go_enter Tryd.func17, Tryd.ntmps17
      unfold blkV
      go_wp2_with (first
        | ((with_reducible refine at_dst 6 ?_); refine wpList_load_mid rfl 23 _ rfl w.heap.size 0 rfl (U8s a.p) _ HPA.out Tryd.underlying23 rfl HA.out ?_)
        | ((with_reducible refine at_dst 8 ?_); refine wpList_load_mid rfl 23 _ rfl (w.heap.size + 1) 0 rfl (U8s b.p) _ HPB.out Tryd.underlying23 rfl HB.out ?_))
      go_ret
      exact ⟨by rw [← HF.out, ← HQ.out]; rfl, k1⟩
    · have e0 : (a.h == b.h) = false := by simpa using h2
      have HF := F false (by rw [eq_comm, decide_eq_false_iff_not]; intro h; exact h2 (by rw [h]))
      clear F h1 h2
      go_enter Tryd.func17, Tryd.ntmps17
      unfold blkV
      go_wp2_with (first
        | ((with_reducible refine at_dst 6 ?_); refine wpList_load_mid rfl 23 _ rfl w.heap.size 0 rfl (U8s a.p) _ HPA.out Tryd.underlying23 rfl HA.out ?_)
        | ((with_reducible refine at_dst 8 ?_); refine wpList_load_mid rfl 23 _ rfl (w.heap.size + 1) 0 rfl (U8s b.p) _ HPB.out Tryd.underlying23 rfl HB.out ?_))
      go_ret
      exact ⟨by rw [← HF.out]; rfl, k1⟩
  · rw [decide_eq_false h1] at hn
    have HF := F false (by rw [eq_comm, decide_eq_false_iff_not]; intro h; exact h1 (by rw [h]))
    clear F h1
    go_enter Tryd.func17, Tryd.ntmps17
    unfold blkV
    go_wp2_with (first
      | ((with_reducible refine at_dst 6 ?_); refine wpList_load_mid rfl 23 _ rfl w.heap.size 0 rfl (U8s a.p) _ HPA.out Tryd.underlying23 rfl HA.out ?_)
      | ((with_reducible refine at_dst 8 ?_); refine wpList_load_mid rfl 23 _ rfl (w.heap.size + 1) 0 rfl (U8s b.p) _ HPB.out Tryd.underlying23 rfl HB.out ?_))
    go_ret
    exact ⟨by rw [← HF.out]; rfl, k1⟩
end Go.Proofs.YtoognhbdgdfkoaaDoor
