/-
  Contracts of package block's Clone, made, First, and of the document's own Clone and First.
-/
import Derived.Test.YtoognhbdgdfkoaaDoorBl
import Derived.Test.YtoognhbdgdfkoaaDoorSc
namespace Go.Proofs.YtoognhbdgdfkoaaDoor
open Go.ChangeShapes Go.WideShapes Go.ChangeAt Go.RowKit

/-- a block in memory of its own -/
def NewBlk (w : World) (b : Blk) (e : Ending) (w' : World) : Prop := ∃ v', e = .returned (blkV b v') ∧ OwnB w' w.heap.size v' b.d ∧ Kp (fun _ => False) w w'
theorem zeroBlk (w : World) : (zeroValue 26).run Tryd.prog w = .ok (.agg (blkC blk0 (.slice none 0 0)).toArray) w := by kernel_rfl
theorem BlkAt.setDat {w : World} {g : Nat} {b : Blk} {v : Value} (h : BlkAt w g b v) (v' : Value) : BlkAt (w.setCell ⟨g, 33, none⟩ v') g b v' := by
  refine ⟨?_, h.len⟩
  rw [set_blk h.row]
  congr 2
  apply Array.ext'
  simp only [Array.toList_setIfInBounds, blkC]
  rw [List.set_append_right _ _ (by rw [U8s_length, h.len]; omega), U8s_length, h.len]
  rfl
theorem BlkAt.other {w : World} {g : Nat} {b : Blk} {v : Value} (h : BlkAt w g b v) {p : Addr} (hp : g ≠ p.block) (u : Value) : BlkAt (w.setCell p u) g b v := ⟨other_blk h.row hp u, h.len⟩
theorem NewB.form {w w1 : World} {l : List Int} {e : Ending} (h : NewB w l e w1) : ∃ a c, e = .returned (.slice a l.length c) ∧ OwnB w1 w.heap.size (.slice a l.length c) l ∧ Kp (fun _ => False) w w1 := by
  obtain ⟨v, rfl, ho, hk⟩ := h
  obtain ⟨a, c, rfl⟩ := sees_form ho.sees
  exact ⟨a, c, rfl, ho, hk⟩
theorem OwnB.up {w : World} {B B' : Nat} {v : Value} {l : List Int} (h : OwnB w B v l) (hB : B' ≤ B) : OwnB w B' v l := by
  rcases h with h | ⟨g, cap, rest, e, h1, h2⟩
  · exact .inl h
  · exact .inr ⟨g, cap, rest, e, by omega, h2⟩

/-- bytes of one's own stand while the two blocks made ahead of them are written -/
theorem own_later {w w1 : World} {B : Nat} {v : Value} {l : List Int} {u : Value} {cs : Array Value} (h : OwnB w1 B v l) (hB : w.heap.size + 2 ≤ B) :
    OwnB ((w1.setCell ⟨w.heap.size, 33, none⟩ u).setRow (w.heap.size + 1) cs) w.heap.size v l := by
  have kx : Kp (fun y => y = w.heap.size ∨ y = w.heap.size + 1) w1 ((w1.setCell ⟨w.heap.size, 33, none⟩ u).setRow (w.heap.size + 1) cs) := ((Kp.refl _ w1).setCell (fun _ => .inl rfl) _).setRow (fun _ => .inr rfl) _
  exact (h.kept kx (fun g hg => by have := (h.lt g hg).1; rintro (h | h) <;> omega)).up (by omega)
/-- results: a struct that lies in a cell's block, and a slot -/
theorem results_cell_tmp {P : Program} {fn : Func} {p q : Tmp} {ty : TypeId} (h : fn.results = #[.cell p ty, .tmp q]) (tmps : Array Value) (w : World) (g : Nat) (t : TypeId) (cs : Array Value) (fr : Nat × Nat) (d : TypeDesc) (e : Value)
    (hp : tmps.getD p undef = .pointer (some ⟨g, 0, none⟩)) (hq : tmps.getD q undef = e) (hg : w.heap[g]? = some (.cells cs t fr))
    (hu : P.underlying ty = some d) (hd : (match d with | .struct _ | .array _ _ => true | _ => false) = true) (hi : (P.info? ty).map (·.size) = some cs.size) :
    (results fn tmps).run P w = .ok (.tuple #[.agg cs, e]) w := by
  have hp' : tmps[p]?.getD undef = .pointer (some ⟨g, 0, none⟩) := by simpa using hp
  have hq' : tmps[q]?.getD undef = e := by simpa using hq
  simp [results, h, hp', hq', asAddr, run_loadVar_row w g t ty cs fr d hg hu hd hi]

set_option maxRecDepth 100000 in
set_option maxHeartbeats 400000 in
theorem blclone_any {b : Blk} {v : Value} (hb : b.wf) {w : World} (hs : Sees w v b.d) (hl : b.d.length ≤ 1000000) :
    Calls Tryd.prog 11 #[blkV b v] w (NewBlk w b) := by
  obtain ⟨a0, c0, rfl⟩ := sees_form hs
  obtain ⟨hA, hB⟩ := two_at w (b := blk0) hb.nm.len rfl (.slice a0 b.d.length c0) (.slice none 0 0)
  have c33 := hA.dat
  have k1 : Kp (fun _ => False) w ((w.alloc (.cells (blkC b (.slice a0 b.d.length c0)).toArray 26)).alloc (.cells (blkC blk0 (.slice none 0 0)).toArray 26)) := ((Kp.refl _ _).alloc _).alloc _
  have HC := Lib.hid (slclone_any (hs.kept k1 (fun _ _ _ f => f)) (by omega))
  have HA := Lib.hid hA
  have HB := Lib.hid hB
  have HW := Lib.hid hb
  have HI := Lib.hid (fun v => infoBlk hb.nm.len v)
  have hz := zeroBlk
  clear hs hA hB hb
  go_enter Tryd.func11, Tryd.ntmps11
  unfold blkV
  go_wp2_with fail
  refine HC.out.mono ?_
  intro e w1 hnb
  obtain ⟨a1, c1, rfl, own, k⟩ := hnb.form
  have h1 := HA.out.kept k (fun f => f)
  have h2 := HB.out.kept k (fun f => f)
  have hsz := k.size
  simp only [World.size_alloc] at hsz
  have d33 := h1.dat
  have f33 := free_blk h1.row 33
  have HA1 := Lib.hid (h1.setDat (.slice a1 b.d.length c1))
  have HB1 := Lib.hid (h2.other (p := ⟨w.heap.size, 33, none⟩) (by show w.heap.size + 1 ≠ w.heap.size; omega) (.slice a1 b.d.length c1))
  have k2 : Kp (fun _ => False) w (w1.setCell ⟨w.heap.size, 33, none⟩ (.slice a1 b.d.length c1)) := (k1.trans k (fun _ _ f => f)).setCell (p := ⟨w.heap.size, 33, none⟩) (fun hlt => absurd hlt (by show ¬ w.heap.size < _; omega)) _
  have OW := Lib.hid own
  have K2 := Lib.hid k2
  clear hnb own k h1 h2 c33 k2
  go_wp2_with (first
    | ((with_reducible refine at_dst 7 ?_); refine wpList_load_row rfl 26 _ rfl w.heap.size rfl 26 _ (0, 0) _ HA1.out.row Tryd.underlying26 rfl (HI.out _) ?_)
    | ((with_reducible refine at_store 2 7 ?_); refine wpList_store_row rfl 26 _ _ rfl (w.heap.size + 1) _ rfl rfl 26 _ HB1.out.row (HI.out _) (by rw [List.size_toArray, List.size_toArray, blkC_length HB1.out.len, blkC_length HW.out.nm.len]) blkC_one ?_))
  refine bodyPost_ret (v := blkV b (.slice a1 b.d.length c1)) (results_cell_row Tryd.results11 _ _ (w.heap.size + 1) 26 _ (0, 0) _ rfl (setRow_blk HB1.out.row) Tryd.underlying26 rfl (HI.out _)) rfl ⟨_, rfl, ?_, ?_⟩
  · exact own_later OW.out (by simp only [World.size_alloc]; omega)
  · exact K2.out.setRow (fun hlt => by omega) _

set_option maxRecDepth 100000 in
set_option maxHeartbeats 400000 in
theorem rblclone_any {b : Blk} {v : Value} (hb : b.wf) {w : World} (hs : Sees w v b.d) (hl : b.d.length ≤ 1000000) :
    Calls Tryd.prog 10 #[blkV b v] w (NewBlk w b) := by
  obtain ⟨a0, c0, rfl⟩ := sees_form hs
  obtain ⟨hA, hB⟩ := two_at w (b := blk0) hb.nm.len rfl (.slice a0 b.d.length c0) (.slice none 0 0)
  have c33 := hA.dat
  have k1 : Kp (fun _ => False) w ((w.alloc (.cells (blkC b (.slice a0 b.d.length c0)).toArray 26)).alloc (.cells (blkC blk0 (.slice none 0 0)).toArray 26)) := ((Kp.refl _ _).alloc _).alloc _
  obtain ⟨v1, w1, hap, own, k, _⟩ := run_append_by (B := _) (Nat.le_refl _) (.inl ⟨rfl, rfl⟩ : OwnB ((w.alloc (.cells (blkC b (.slice a0 b.d.length c0)).toArray 26)).alloc (.cells (blkC blk0 (.slice none 0 0)).toArray 26)) _ (.slice none 0 0) []) (hs.kept k1 (fun _ _ _ f => f)) (by rw [List.length_nil]; omega)
  rw [List.nil_append] at own
  obtain ⟨a1, c1, rfl⟩ := sees_form own.sees
  replace k : Kp (fun _ => False) _ w1 := k.mono (fun _ _ h => by cases h)
  have HA := Lib.hid hA
  have HB := Lib.hid hB
  have HW := Lib.hid hb
  have HI := Lib.hid (fun v => infoBlk hb.nm.len v)
  have hz := zeroBlk
  clear hs hA hB hb
  have h1 := HA.out.kept k (fun f => f)
  have h2 := HB.out.kept k (fun f => f)
  have hsz := k.size
  simp only [World.size_alloc] at hsz
  have d33 := h1.dat
  have f33 := free_blk h1.row 33
  have HA1 := Lib.hid (h1.setDat (.slice a1 b.d.length c1))
  have HB1 := Lib.hid (h2.other (p := ⟨w.heap.size, 33, none⟩) (by show w.heap.size + 1 ≠ w.heap.size; omega) (.slice a1 b.d.length c1))
  have k2 : Kp (fun _ => False) w (w1.setCell ⟨w.heap.size, 33, none⟩ (.slice a1 b.d.length c1)) := (k1.trans k (fun _ _ f => f)).setCell (p := ⟨w.heap.size, 33, none⟩) (fun hlt => absurd hlt (by show ¬ w.heap.size < _; omega)) _
  have OW := Lib.hid own
  have K2 := Lib.hid k2
  have HAP := Lib.hid hap
  clear own k h1 h2 k2 hap
  go_enter Tryd.func10, Tryd.ntmps10
  unfold blkV
  go_wp2_with (first
    | (at_builtin; refine Lib.wpList_append_run _ rfl _ _ _ _ rfl _ _ rfl rfl _ _ (HAP.out _) ?_)
    | ((with_reducible refine at_dst 9 ?_); refine wpList_load_row rfl 26 _ rfl w.heap.size rfl 26 _ (0, 0) _ HA1.out.row Tryd.underlying26 rfl (HI.out _) ?_)
    | ((with_reducible refine at_store 2 9 ?_); refine wpList_store_row rfl 26 _ _ rfl (w.heap.size + 1) _ rfl rfl 26 _ HB1.out.row (HI.out _) (by rw [List.size_toArray, List.size_toArray, blkC_length HB1.out.len, blkC_length HW.out.nm.len]) blkC_one ?_))
  refine bodyPost_ret (v := blkV b (.slice a1 b.d.length c1)) (results_cell_row Tryd.results10 _ _ (w.heap.size + 1) 26 _ (0, 0) _ rfl (setRow_blk HB1.out.row) Tryd.underlying26 rfl (HI.out _)) rfl ⟨_, rfl, ?_, ?_⟩
  · exact own_later OW.out (by simp only [World.size_alloc]; omega)
  · exact K2.out.setRow (fun hlt => by omega) _

/-- a block in memory of its own, and an error -/
def NewBlkE (w : World) (b : Blk) (x : Int) (e : Ending) (w' : World) : Prop := ∃ v', e = .returned (.tuple #[blkV b v', .int .i64 x]) ∧ OwnB w' w.heap.size v' b.d ∧ Kp (fun _ => False) w w'
/-- of an error the zero block -/
def orBlk (b : Blk) (x : Int) : Blk := if x = 0 then b else blk0
theorem bchk_cases (b : Blk) : bchk b = 0 ∨ bchk b = 30 := by unfold bchk; split <;> simp
theorem bchk_len {b : Blk} (h : bchk b = 0) : b.d.length ≤ 200 := by
  unfold bchk at h
  split at h
  · cases h
  · rename_i h1
    by_cases h2 : 200 < b.d.length
    · exact absurd (.inr (.inl h2)) h1
    · omega
theorem builtBlk : (Tryd.prog.built 26 []).isSome = true ∧ (Tryd.prog.built 26 []).getD #[] = (blkC blk0 (.slice none 0 0)).toArray := ⟨by kernel_rfl, by kernel_rfl⟩

set_option maxRecDepth 100000 in
set_option maxHeartbeats 400000 in
theorem made_any {b : Blk} {v : Value} (hb : b.wf) {w : World} (hs : Sees w v b.d) :
    Calls Tryd.prog 32 #[blkV b v] w (NewBlkE w (orBlk b (bchk b)) (bchk b)) := by
  obtain ⟨a0, c0, rfl⟩ := sees_form hs
  obtain ⟨hA, hB⟩ := two_at w (b := blk0) hb.nm.len rfl (.slice a0 b.d.length c0) (.slice none 0 0)
  have k1 : Kp (fun _ => False) w ((w.alloc (.cells (blkC b (.slice a0 b.d.length c0)).toArray 26)).alloc (.cells (blkC blk0 (.slice none 0 0)).toArray 26)) := ((Kp.refl _ _).alloc _).alloc _
  have HC := Lib.hid (check_any hb (hs.kept k1 (fun _ _ _ f => f)))
  have HS := Lib.hid hs
  have HA := Lib.hid hA
  have HB := Lib.hid hB
  have HW := Lib.hid hb
  have K1 := Lib.hid k1
  have HI := Lib.hid (fun v => infoBlk hb.nm.len v)
  have HI0 := Lib.hid (fun v => infoBlk (b := blk0) rfl v)
  have hz := zeroBlk
  have hcs := bchk_cases b
  have hcl := bchk_len (b := b)
  obtain ⟨x, hx⟩ : ∃ x, x = bchk b := ⟨_, rfl⟩
  rw [← hx] at HC hcs hcl ⊢
  clear hs hA hB hb hx k1
  rcases hcs with rfl | rfl
  · have HL := Lib.hid (hcl rfl)
    clear hcl
    go_enter Tryd.func32, Tryd.ntmps32
    unfold blkV
    go_wp2_with ((with_reducible refine at_dst 5 ?_); refine wpList_load_row rfl 26 _ rfl w.heap.size rfl 26 _ (0, 0) _ HA.out.row Tryd.underlying26 rfl (HI.out _) ?_)
    refine HC.out.mono ?_
    rintro e w1 ⟨rfl, k⟩
    have h1 := Lib.hid (HA.out.kept k (fun f => f))
    have h2 := Lib.hid (HB.out.kept k (fun f => f))
    have K2 := Lib.hid (K1.out.trans k (fun _ _ f => f))
    have hsz := k.size
    simp only [World.size_alloc] at hsz
    clear k
    go_wp2_with ((with_reducible refine at_dst 11 ?_); refine wpList_load_row rfl 26 _ rfl w.heap.size rfl 26 _ (0, 0) _ h1.out.row Tryd.underlying26 rfl (HI.out _) ?_)
    refine (blclone_any HW.out (HS.out.kept K2.out (fun _ _ _ f => f)) (by have := HL.out; omega)).mono ?_
    rintro e w2 ⟨v2, rfl, own, k⟩
    obtain ⟨a2, c2, rfl⟩ := sees_form own.sees
    have H3 := Lib.hid (h2.out.kept k (fun f => f))
    have K3 := Lib.hid (K2.out.trans k (fun _ _ f => f))
    have OW := Lib.hid own
    clear k own
    unfold blkV
    go_wp2_with ((with_reducible refine at_store 2 12 ?_); refine wpList_store_row rfl 26 _ _ rfl (w.heap.size + 1) _ rfl rfl 26 _ H3.out.row (HI.out _) (by rw [List.size_toArray, List.size_toArray, blkC_length H3.out.len, blkC_length HW.out.nm.len]) blkC_one ?_)
    refine bodyPost_ret (v := .tuple #[blkV b (.slice a2 b.d.length c2), .int .i64 0]) (results_cell_tmp Tryd.results32 _ _ (w.heap.size + 1) 26 _ (0, 0) _ _ rfl rfl (setRow_blk H3.out.row) Tryd.underlying26 rfl (HI.out _)) rfl ⟨_, rfl, ?_, K3.out.setRow (fun hlt => by omega) _⟩
    exact (OW.out.kept ((Kp.refl (fun y => y = w.heap.size + 1) w2).setRow (fun _ => rfl) _) (fun g hg e => by have := (OW.out.lt g hg).1; omega)).up (by omega)
  · clear hcl
    go_enter Tryd.func32, Tryd.ntmps32
    unfold blkV
    go_wp2_with ((with_reducible refine at_dst 5 ?_); refine wpList_load_row rfl 26 _ rfl w.heap.size rfl 26 _ (0, 0) _ HA.out.row Tryd.underlying26 rfl (HI.out _) ?_)
    refine HC.out.mono ?_
    rintro e w1 ⟨rfl, k⟩
    have h2 := Lib.hid (HB.out.kept k (fun f => f))
    have K2 := Lib.hid (K1.out.trans k (fun _ _ f => f))
    clear k
    go_wp2_with ((with_reducible refine at_store 2 9 ?_); refine wpList_store_row rfl 26 _ _ rfl (w.heap.size + 1) (blkC blk0 (.slice none 0 0)).toArray rfl rfl 26 _ h2.out.row (HI0.out _) rfl blkC_one ?_)
    refine bodyPost_ret (v := .tuple #[blkV blk0 (.slice none 0 0), .int .i64 30]) (results_cell_tmp Tryd.results32 _ _ (w.heap.size + 1) 26 _ (0, 0) _ _ rfl rfl (setRow_blk h2.out.row) Tryd.underlying26 rfl (HI0.out _)) rfl ⟨_, rfl, .inl ⟨rfl, rfl⟩, K2.out.setRow (fun hlt => by omega) _⟩

/-- a first block -/
def blk1 (d : List Int) : Blk := ⟨id0, 0, d⟩
theorem id0_nm : Nm id0 := ⟨rfl, fun x hx => by obtain ⟨_, rfl⟩ := List.mem_replicate.1 hx; omega⟩
theorem blk1_wf {d : List Int} (h : Rng d) : (blk1 d).wf := ⟨id0_nm, by show (-9223372036854775808 : Int) ≤ 0; omega, by show (0 : Int) ≤ 9223372036854775807; omega, h⟩
theorem orBlk_wf {b : Blk} (h : b.wf) (x : Int) : (orBlk b x).wf := by
  unfold orBlk; split
  · exact h
  · exact blk1_wf (d := []) (fun _ h => by cases h)

set_option maxRecDepth 100000 in
set_option maxHeartbeats 400000 in
theorem first_any {d : List Int} {v : Value} (hd : Rng d) {w : World} (hs : Sees w v d) :
    Calls Tryd.prog 12 #[v] w (NewBlkE w (orBlk (blk1 d) (bchk (blk1 d))) (bchk (blk1 d))) := by
  obtain ⟨a0, c0, rfl⟩ := sees_form hs
  have hz := zeroBlk
  have HW := Lib.hid (blk1_wf hd)
  obtain ⟨x, hx⟩ : ∃ x, x = bchk (blk1 d) := ⟨_, rfl⟩
  have k1 : Kp (fun _ => False) w (w.alloc (.cells (blkC blk0 (.slice none 0 0)).toArray 26)) := (Kp.refl _ _).alloc _
  have hm := made_any (blk1_wf hd) (hs.kept k1 (fun _ _ _ f => f))
  have HB := Lib.hid (BlkAt.new w (b := blk0) rfl (.slice none 0 0))
  have HO := Lib.hid (orBlk_wf (blk1_wf hd) x)
  rw [← hx] at hm ⊢
  obtain ⟨y, hy⟩ : ∃ y, y = orBlk (blk1 d) x := ⟨_, rfl⟩
  rw [← hy] at hm HO ⊢
  have HM := Lib.hid hm
  have HI := Lib.hid (fun v => infoBlk HO.out.nm.len v)
  have K1 := Lib.hid k1
  clear hs hx hm hd hy k1
  go_enter Tryd.func12, Tryd.ntmps12
  go_wp2_with fail
  refine HM.out.mono ?_
  rintro e w1 ⟨v1, rfl, own, k⟩
  obtain ⟨a1, c1, rfl⟩ := sees_form own.sees
  have h2 := Lib.hid (HB.out.kept k (fun f => f))
  have K2 := Lib.hid (K1.out.trans k (fun _ _ f => f))
  have OW := Lib.hid own
  clear k own
  unfold blkV
  go_wp2_with ((with_reducible refine at_store 2 7 ?_); refine wpList_store_row rfl 26 _ _ rfl w.heap.size _ rfl rfl 26 _ h2.out.row (HI.out _) (by rw [List.size_toArray, List.size_toArray, blkC_length h2.out.len, blkC_length HO.out.nm.len]) blkC_one ?_)
  refine bodyPost_ret (v := .tuple #[blkV y (.slice a1 y.d.length c1), .int .i64 x]) (results_cell_tmp Tryd.results12 _ _ w.heap.size 26 _ (0, 0) _ _ rfl rfl (setRow_blk h2.out.row) Tryd.underlying26 rfl (HI.out _)) rfl ⟨_, rfl, ?_, K2.out.setRow (fun hlt => by omega) _⟩
  exact (OW.out.kept ((Kp.refl (fun y => y = w.heap.size) w1).setRow (fun _ => rfl) _) (fun g hg e => by have := (OW.out.lt g hg).1; rw [World.size_alloc] at this; omega)).up (by rw [World.size_alloc]; omega)

set_option maxRecDepth 100000 in
set_option maxHeartbeats 400000 in
theorem rfirst_any {d : List Int} {v : Value} (hd : Rng d) {w : World} (hs : Sees w v d) :
    Calls Tryd.prog 13 #[v] w (NewBlkE w (orBlk (blk1 d) (bchk (blk1 d))) (bchk (blk1 d))) := by
  obtain ⟨a0, c0, rfl⟩ := sees_form hs
  have hz := zeroBlk
  have HW := Lib.hid (blk1_wf hd)
  have HB0 := Lib.hid (BlkAt.new w (b := blk0) rfl (.slice none 0 0))
  have K1 := Lib.hid (show Kp (fun _ => False) w (w.alloc (.cells (blkC blk0 (.slice none 0 0)).toArray 26)) from (Kp.refl _ _).alloc _)
  have HI := Lib.hid (fun v => infoBlk (b := blk1 d) rfl v)
  have HI0 := Lib.hid (fun v => infoBlk (b := blk0) rfl v)
  have HS := Lib.hid (show Sees w (.slice a0 (blk1 d).d.length c0) (blk1 d).d from hs)
  have hcs := bchk_cases (blk1 d)
  have hcl := bchk_len (b := blk1 d)
  have HC := Lib.hid (fun w hs => rcheck_any (w := w) (v := .slice a0 d.length c0) (blk1_wf hd) hs)
  obtain ⟨x, hx⟩ : ∃ x, x = bchk (blk1 d) := ⟨_, rfl⟩
  rw [← hx] at HC hcs hcl ⊢
  have HCL := Lib.hid hcl
  clear hs hd hx hcl
  rcases hcs with rfl | rfl
  · have HL := Lib.hid (HCL.out rfl)
    clear HCL
    go_enter Tryd.func13, Tryd.ntmps13
    go_wp2_with (first
      | ((with_reducible refine at_store 4 7 ?_); refine wpList_store_fresh_at rfl 26 _ _ rfl (blkC (blk1 d) (.slice a0 d.length c0)).toArray (w.heap.size + 1) (World.size_alloc _ _) rfl rfl 26 _ (HI.out _) rfl blkC_one ?_; intro w1 k1 m1 s1; have M1 := Lib.hid (BlkAt.mk m1 rfl); have H1 := Lib.hid (HB0.out.kept k1 (fun f => f)); have K2 := Lib.hid (K1.out.trans k1 (fun _ _ f => f)); clear m1 s1 k1)
      | ((with_reducible refine at_dst 8 ?_); refine wpList_load_row rfl 26 _ rfl (w.heap.size + 1) rfl 26 _ (0, 0) _ M1.out.row Tryd.underlying26 rfl (HI.out _) ?_))
    refine (HC.out _ (HS.out.kept K2.out (fun _ _ _ f => f))).mono ?_
    rintro e w2 ⟨rfl, k⟩
    have M2 := Lib.hid (M1.out.kept k (fun f => f))
    have H2 := Lib.hid (H1.out.kept k (fun f => f))
    have K3 := Lib.hid (K2.out.trans k (fun _ _ f => f))
    clear k
    go_wp2_with ((with_reducible refine at_dst 14 ?_); refine wpList_load_row rfl 26 _ rfl (w.heap.size + 1) rfl 26 _ (0, 0) _ M2.out.row Tryd.underlying26 rfl (HI.out _) ?_)
    refine (rblclone_any HW.out (HS.out.kept K3.out (fun _ _ _ f => f)) (by have := HL.out; omega)).mono ?_
    rintro e w3 ⟨v3, rfl, own, k⟩
    obtain ⟨a3, c3, rfl⟩ := sees_form own.sees
    have H3 := Lib.hid (H2.out.kept k (fun f => f))
    have OW := Lib.hid own
    have hsz := H2.out.lt
    have hsz0 := K3.out.size
    have K4 := Lib.hid (K3.out.trans k (fun _ _ f => f))
    clear k own
    unfold blkV
    go_wp2_with ((with_reducible refine at_store 2 15 ?_); refine wpList_store_row rfl 26 _ _ rfl w.heap.size (blkC (blk1 d) (.slice a3 (blk1 d).d.length c3)).toArray rfl rfl 26 _ H3.out.row (HI.out _) rfl blkC_one ?_)
    refine bodyPost_ret (v := .tuple #[blkV (blk1 d) (.slice a3 (blk1 d).d.length c3), .int .i64 0]) (results_cell_tmp Tryd.results13 _ _ w.heap.size 26 _ (0, 0) _ _ rfl rfl (setRow_blk H3.out.row) Tryd.underlying26 rfl (HI.out _)) rfl ⟨_, rfl, ?_, K4.out.setRow (fun hlt => by omega) _⟩
    exact (OW.out.kept ((Kp.refl (fun y => y = w.heap.size) w3).setRow (fun _ => rfl) _) (fun g hg e => by have := (OW.out.lt g hg).1; omega)).up (by omega)
  · clear HCL
    go_enter Tryd.func13, Tryd.ntmps13
    go_wp2_with (first
      | ((with_reducible refine at_store 4 7 ?_); refine wpList_store_fresh_at rfl 26 _ _ rfl (blkC (blk1 d) (.slice a0 d.length c0)).toArray (w.heap.size + 1) (World.size_alloc _ _) rfl rfl 26 _ (HI.out _) rfl blkC_one ?_; intro w1 k1 m1 s1; have M1 := Lib.hid (BlkAt.mk m1 rfl); have H1 := Lib.hid (HB0.out.kept k1 (fun f => f)); have K2 := Lib.hid (K1.out.trans k1 (fun _ _ f => f)); clear m1 s1 k1)
      | ((with_reducible refine at_dst 8 ?_); refine wpList_load_row rfl 26 _ rfl (w.heap.size + 1) rfl 26 _ (0, 0) _ M1.out.row Tryd.underlying26 rfl (HI.out _) ?_))
    refine (HC.out _ (HS.out.kept K2.out (fun _ _ _ f => f))).mono ?_
    rintro e w2 ⟨rfl, k⟩
    have H2 := Lib.hid (H1.out.kept k (fun f => f))
    have K3 := Lib.hid (K2.out.trans k (fun _ _ f => f))
    clear k
    go_wp2_with ((with_reducible refine at_store 2 12 ?_); refine wpList_store_row rfl 26 _ _ rfl w.heap.size (blkC blk0 (.slice none 0 0)).toArray rfl rfl 26 _ H2.out.row (HI0.out _) rfl blkC_one ?_)
    refine bodyPost_ret (v := .tuple #[blkV blk0 (.slice none 0 0), .int .i64 30]) (results_cell_tmp Tryd.results13 _ _ w.heap.size 26 _ (0, 0) _ _ rfl rfl (setRow_blk H2.out.row) Tryd.underlying26 rfl (HI0.out _)) rfl ⟨_, rfl, .inl ⟨rfl, rfl⟩, K3.out.setRow (fun hlt => by omega) _⟩
end Go.Proofs.YtoognhbdgdfkoaaDoor
