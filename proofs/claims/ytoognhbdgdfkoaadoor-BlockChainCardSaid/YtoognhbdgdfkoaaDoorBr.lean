/-
  Contracts of package block's Child and Linked, and of the document's own.
-/
import Derived.Test.YtoognhbdgdfkoaaDoorBi
namespace Go.Proofs.YtoognhbdgdfkoaaDoor
open Go.ChangeShapes Go.WideShapes Go.ChangeAt Go.RowKit

theorem list_cons {l : List Int} {n : Nat} (h : l.length = n + 1) : ∃ x r, l = x :: r ∧ r.length = n := by
  cases l with
  | nil => cases h
  | cons x r => exact ⟨x, r, rfl, by simpa using h⟩
theorem built3 (p : List Int) (hp : p.length = 32) (h : Int) (a : Option Addr) (n c : Nat) :
    (Tryd.prog.built 26 [(0, .agg (U8s p).toArray), (1, .int .i64 h), (2, .slice a n c)]).isSome = true ∧
    (Tryd.prog.built 26 [(0, .agg (U8s p).toArray), (1, .int .i64 h), (2, .slice a n c)]).getD #[] = (blkC ⟨p, h, []⟩ (.slice a n c)).toArray := by
  obtain ⟨x0, p0, rfl, h0⟩ := list_cons hp
  obtain ⟨x1, p1, rfl, h1⟩ := list_cons h0
  obtain ⟨x2, p2, rfl, h2⟩ := list_cons h1
  obtain ⟨x3, p3, rfl, h3⟩ := list_cons h2
  obtain ⟨x4, p4, rfl, h4⟩ := list_cons h3
  obtain ⟨x5, p5, rfl, h5⟩ := list_cons h4
  obtain ⟨x6, p6, rfl, h6⟩ := list_cons h5
  obtain ⟨x7, p7, rfl, h7⟩ := list_cons h6
  obtain ⟨x8, p8, rfl, h8⟩ := list_cons h7
  obtain ⟨x9, p9, rfl, h9⟩ := list_cons h8
  obtain ⟨x10, p10, rfl, h10⟩ := list_cons h9
  obtain ⟨x11, p11, rfl, h11⟩ := list_cons h10
  obtain ⟨x12, p12, rfl, h12⟩ := list_cons h11
  obtain ⟨x13, p13, rfl, h13⟩ := list_cons h12
  obtain ⟨x14, p14, rfl, h14⟩ := list_cons h13
  obtain ⟨x15, p15, rfl, h15⟩ := list_cons h14
  obtain ⟨x16, p16, rfl, h16⟩ := list_cons h15
  obtain ⟨x17, p17, rfl, h17⟩ := list_cons h16
  obtain ⟨x18, p18, rfl, h18⟩ := list_cons h17
  obtain ⟨x19, p19, rfl, h19⟩ := list_cons h18
  obtain ⟨x20, p20, rfl, h20⟩ := list_cons h19
  obtain ⟨x21, p21, rfl, h21⟩ := list_cons h20
  obtain ⟨x22, p22, rfl, h22⟩ := list_cons h21
  obtain ⟨x23, p23, rfl, h23⟩ := list_cons h22
  obtain ⟨x24, p24, rfl, h24⟩ := list_cons h23
  obtain ⟨x25, p25, rfl, h25⟩ := list_cons h24
  obtain ⟨x26, p26, rfl, h26⟩ := list_cons h25
  obtain ⟨x27, p27, rfl, h27⟩ := list_cons h26
  obtain ⟨x28, p28, rfl, h28⟩ := list_cons h27
  obtain ⟨x29, p29, rfl, h29⟩ := list_cons h28
  obtain ⟨x30, p30, rfl, h30⟩ := list_cons h29
  obtain ⟨x31, p31, rfl, h31⟩ := list_cons h30
  obtain rfl := List.eq_nil_of_length_eq_zero h31
  exact ⟨by kernel_rfl, by kernel_rfl⟩
theorem wpList_blk {ops : Array Oper} {rest : List Oper} {o : Oper} {a : Act} {w : World} {Q : Exit → Act → World → Prop} (x y z : Nat) (b : Blk) (s : Option Addr) (n c : Nat) (hl : b.p.length = 32)
    (hx : a.eval (.tmp x) = .agg (U8s b.p).toArray) (hy : a.eval (.tmp y) = .int .i64 b.h) (hz : a.eval (.tmp z) = .slice s n c) (hg : o.guard = none) (ho : o.op = .build 26 #[(0, .tmp x), (1, .tmp y), (2, .tmp z)])
    (h : wpList Tryd.prog ops Q rest (a.put o.dst (.agg (blkC b (.slice s n c)).toArray)) w) : wpList Tryd.prog ops Q (o :: rest) a w := by
  have e0 : (#[((0 : Nat), Operand.tmp x), (1, Operand.tmp y), (2, Operand.tmp z)].map fun (i, x) => (i, a.eval x)).toList = [(0, .agg (U8s b.p).toArray), (1, .int .i64 b.h), (2, .slice s n c)] := by simp [hx, hy, hz]
  refine wpList_build hg _ _ ho (by rw [e0]; exact (built3 b.p hl b.h s n c).1) ?_
  rw [e0, (built3 b.p hl b.h s n c).2]
  exact h

/-- a child's error, and the child -/
def chdE (b : Blk) (d : List Int) : Int := if bchk b ≠ 0 ∨ b.h = 9223372036854775807 ∨ 200 < d.length then 30 else 0
def chd (b : Blk) (d : List Int) : Blk := ⟨bid b, b.h + 1, d⟩
theorem chd_wf {b : Blk} {d : List Int} (hb : b.wf) (h : b.h ≠ 9223372036854775807) (hd : Rng d) : (chd b d).wf :=
  ⟨bid_nm b, by have := hb.lo; show -9223372036854775808 ≤ b.h + 1; omega, by have := hb.hi; show b.h + 1 ≤ 9223372036854775807; omega, hd⟩
theorem chd_chk {b : Blk} {d : List Int} (h0 : bchk b = 0) (h : b.h ≠ 9223372036854775807) : bchk (chd b d) = chdE b d := by
  have hp := bchk_pos h0
  unfold chdE
  by_cases hd : 200 < d.length
  · rw [if_pos (.inr (.inr hd))]; unfold bchk; rw [if_pos (.inr (.inl hd))]
  · rw [if_neg (by rintro (h1 | h1 | h1) <;> contradiction)]
    unfold bchk
    rw [if_neg]
    show ¬ (b.h + 1 < 0 ∨ 200 < d.length ∨ (b.h + 1 = 0 ∧ _))
    omega
theorem chdE_bad {b : Blk} {d : List Int} (h : bchk b ≠ 0 ∨ b.h = 9223372036854775807) : chdE b d = 30 := by
  unfold chdE
  rw [if_pos (by rcases h with h | h; exact .inl h; exact .inr (.inl h))]

set_option maxRecDepth 100000 in
set_option maxHeartbeats 800000 in
theorem child_any {b : Blk} {v vd : Value} {d : List Int} (hb : b.wf) (hd : Rng d) {w : World} (hs : Sees w v b.d) (hsd : Sees w vd d) (hR : Rts w) :
    Calls Tryd.prog 26 #[blkV b v, vd] w (NewBlkE w (orBlk (chd b d) (chdE b d)) (chdE b d)) := by
  obtain ⟨a0, c0, rfl⟩ := sees_form hs
  obtain ⟨a9, c9, rfl⟩ := sees_form hsd
  obtain ⟨hA, hB⟩ := two_at w (b := blk0) hb.nm.len rfl (.slice a0 b.d.length c0) (.slice none 0 0)
  have k1 : Kp (fun _ => False) w ((w.alloc (.cells (blkC b (.slice a0 b.d.length c0)).toArray 26)).alloc (.cells (blkC blk0 (.slice none 0 0)).toArray 26)) := ((Kp.refl _ _).alloc _).alloc _
  have HR := hR.kept k1 (fun _ _ f => f)
  have HC := Lib.hid (blid_any hb (hs.kept k1 (fun _ _ _ f => f)) HR)
  have HSD := Lib.hid hsd
  have HA := Lib.hid hA
  have HB := Lib.hid hB
  have HW := Lib.hid hb
  have HD := Lib.hid hd
  have K1 := Lib.hid k1
  have HI := Lib.hid (fun v => infoBlk hb.nm.len v)
  have HI0 := Lib.hid (fun v => infoBlk (b := blk0) rfl v)
  have hz := zeroBlk
  have hz2 := zerosId
  have hcs := bchk_cases b
  unfold IdP at HC
  have hcc := fun h0 h1 => chd_chk (b := b) (d := d) h0 h1
  have hcb := fun h0 => chdE_bad (b := b) (d := d) h0
  obtain ⟨y, hy⟩ : ∃ y, y = chdE b d := ⟨_, rfl⟩
  rw [← hy] at hcc hcb ⊢
  obtain ⟨x, hx⟩ : ∃ x, x = bchk b := ⟨_, rfl⟩
  rw [← hx] at HC hcs hcc hcb
  clear hs hsd hA hB hb hd hx hy k1 HR hR
  have HI32 := Lib.hid (info32 (orId b x) (orId_nm b x).len)
  rcases hcs with rfl | rfl
  · by_cases hm : b.h = 9223372036854775807
    · obtain rfl := hcb (.inr hm)
      have e0 : (b.h == 9223372036854775807) = true := by simpa using hm
      clear hcc hcb hm
      go_enter Tryd.func26, Tryd.ntmps26
      unfold blkV
      go_wp2_with ((with_reducible refine at_dst 9 ?_); refine wpList_load_row rfl 26 _ rfl w.heap.size rfl 26 _ (0, 0) _ HA.out.row Tryd.underlying26 rfl (HI.out _) ?_)
      refine HC.out.mono ?_
      rintro e w1 ⟨rfl, k⟩
      have H1 := Lib.hid (HA.out.kept k (fun f => f))
      have H2 := Lib.hid (HB.out.kept k (fun f => f))
      have K2 := Lib.hid (K1.out.trans k (fun _ _ f => f))
      clear k
      go_wp2_with (first
        | ((with_reducible refine at_store 6 11 ?_); refine wpList_store_fresh rfl 23 _ _ rfl (U8s (orId b 0)).toArray rfl rfl 23 _ HI32.out (by rw [List.size_toArray, List.size_toArray, U8s_length, U8s_length, (orId_nm b 0).len]; rfl) (all_oneCell_toArray (U8s_one _)) ?_; intro w2 k2 m2 s2; have H3 := Lib.hid (H2.out.kept k2 (fun f => f)); have c32 := (H1.out.kept k2 (fun f => f)).ht; have K3 := Lib.hid (K2.out.trans k2 (fun _ _ f => f)); have M3 := Lib.hid m2; clear m2 s2 k2)
        | ((with_reducible refine at_store 4 20 ?_); refine wpList_store_row rfl 26 _ _ rfl (w.heap.size + 1) (blkC blk0 (.slice none 0 0)).toArray rfl rfl 26 _ H3.out.row (HI0.out _) rfl blkC_one ?_))
      refine bodyPost_ret (v := .tuple #[blkV blk0 (.slice none 0 0), .int .i64 30]) (results_cell_tmp Tryd.results26 _ _ (w.heap.size + 1) 26 _ (0, 0) _ _ rfl rfl (setRow_blk H3.out.row) Tryd.underlying26 rfl (HI0.out _)) rfl ⟨_, rfl, .inl ⟨rfl, rfl⟩, K3.out.setRow (fun hlt => by omega) _⟩
    · have HCC := Lib.hid (hcc rfl hm)
      have HWX := Lib.hid (chd_wf (d := d) HW.out hm HD.out)
      have e0 : (b.h == 9223372036854775807) = false := by simpa using hm
      have hh2 := HW.out.hi
      have hh1 := HW.out.lo
      have hm' : b.h < 9223372036854775807 := by omega
      clear hcc hcb hm
      go_enter Tryd.func26, Tryd.ntmps26
      unfold blkV
      go_wp2_with ((with_reducible refine at_dst 9 ?_); refine wpList_load_row rfl 26 _ rfl w.heap.size rfl 26 _ (0, 0) _ HA.out.row Tryd.underlying26 rfl (HI.out _) ?_)
      refine HC.out.mono ?_
      rintro e w1 ⟨rfl, k⟩
      have H1 := Lib.hid (HA.out.kept k (fun f => f))
      have H2 := Lib.hid (HB.out.kept k (fun f => f))
      have K2 := Lib.hid (K1.out.trans k (fun _ _ f => f))
      clear k
      go_wp2_with (first
        | ((with_reducible refine at_store 6 11 ?_); refine wpList_store_fresh rfl 23 _ _ rfl (U8s (orId b 0)).toArray rfl rfl 23 _ HI32.out (by rw [List.size_toArray, List.size_toArray, U8s_length, U8s_length, (orId_nm b 0).len]; rfl) (all_oneCell_toArray (U8s_one _)) ?_; intro w2 k2 m2 s2; have H3 := Lib.hid (H2.out.kept k2 (fun f => f)); have c32 := (H1.out.kept k2 (fun f => f)).ht; have K3 := Lib.hid (K2.out.trans k2 (fun _ _ f => f)); have M3 := Lib.hid m2; clear m2 s2 k2)
        | ((with_reducible refine at_dst 21 ?_); refine wpList_load_row rfl 23 _ rfl w1.heap.size rfl 23 _ (0, 0) _ M3.out Tryd.underlying23 rfl HI32.out ?_)
        | ((with_reducible refine at_dst 26 ?_); refine wpList_blk 21 24 25 (chd b d) a9 d.length c9 (bid_nm b).len rfl rfl rfl rfl rfl ?_))
      have Q := Lib.hid (made_any (w := w2) HWX.out (HSD.out.kept K3.out (fun _ _ _ f => f)))
      rw [HCC.out] at Q
      refine Q.out.mono ?_
      rintro e w3 ⟨v3, rfl, own, k⟩
      obtain ⟨a3, c3, rfl⟩ := sees_form own.sees
      have HY := Lib.hid (orBlk_wf HWX.out y)
      obtain ⟨z, hz'⟩ : ∃ z, z = orBlk (chd b d) y := ⟨_, rfl⟩
      rw [← hz'] at own HY ⊢
      have HIz := Lib.hid (fun v => infoBlk HY.out.nm.len v)
      have H4 := Lib.hid (H3.out.kept k (fun f => f))
      have K4 := Lib.hid (K3.out.trans k (fun _ _ f => f))
      have OW := Lib.hid own
      have hlt := H3.out.lt
      have HZ := Lib.hid hz'
      clear k own hz' Q
      unfold blkV
      go_wp2_with ((with_reducible refine at_store 4 28 ?_); refine wpList_store_row rfl 26 _ _ rfl (w.heap.size + 1) (blkC z (.slice a3 z.d.length c3)).toArray rfl rfl 26 _ H4.out.row (HIz.out _) (by rw [List.size_toArray, List.size_toArray, blkC_length H4.out.len, blkC_length HY.out.nm.len]) blkC_one ?_)
      refine bodyPost_ret (v := .tuple #[blkV z (.slice a3 z.d.length c3), .int .i64 y]) (results_cell_tmp Tryd.results26 _ _ (w.heap.size + 1) 26 _ (0, 0) _ _ rfl rfl (setRow_blk H4.out.row) Tryd.underlying26 rfl (HIz.out _)) rfl ⟨.slice a3 z.d.length c3, by rw [← HZ.out], ?_, K4.out.setRow (fun hlt => by omega) _⟩
      rw [← HZ.out]
      exact (OW.out.kept ((Kp.refl (fun y => y = w.heap.size + 1) w3).setRow (fun _ => rfl) _) (fun g hg e => by have := (OW.out.lt g hg).1; omega)).up (by omega)
  · obtain rfl := hcb (.inl (by omega))
    clear hcc hcb
    go_enter Tryd.func26, Tryd.ntmps26
    unfold blkV
    go_wp2_with ((with_reducible refine at_dst 9 ?_); refine wpList_load_row rfl 26 _ rfl w.heap.size rfl 26 _ (0, 0) _ HA.out.row Tryd.underlying26 rfl (HI.out _) ?_)
    refine HC.out.mono ?_
    rintro e w1 ⟨rfl, k⟩
    have H1 := Lib.hid (HA.out.kept k (fun f => f))
    have H2 := Lib.hid (HB.out.kept k (fun f => f))
    have K2 := Lib.hid (K1.out.trans k (fun _ _ f => f))
    clear k
    go_wp2_with (first
      | ((with_reducible refine at_store 6 11 ?_); refine wpList_store_fresh rfl 23 _ _ rfl (U8s (orId b 30)).toArray rfl rfl 23 _ HI32.out (by rw [List.size_toArray, List.size_toArray, U8s_length, U8s_length, (orId_nm b 30).len]; rfl) (all_oneCell_toArray (U8s_one _)) ?_; intro w2 k2 m2 s2; have H3 := Lib.hid (H2.out.kept k2 (fun f => f)); have K3 := Lib.hid (K2.out.trans k2 (fun _ _ f => f)); have M3 := Lib.hid m2; clear m2 s2 k2)
      | ((with_reducible refine at_store 4 15 ?_); refine wpList_store_row rfl 26 _ _ rfl (w.heap.size + 1) (blkC blk0 (.slice none 0 0)).toArray rfl rfl 26 _ H3.out.row (HI0.out _) rfl blkC_one ?_))
    refine bodyPost_ret (v := .tuple #[blkV blk0 (.slice none 0 0), .int .i64 30]) (results_cell_tmp Tryd.results26 _ _ (w.heap.size + 1) 26 _ (0, 0) _ _ rfl rfl (setRow_blk H3.out.row) Tryd.underlying26 rfl (HI0.out _)) rfl ⟨_, rfl, .inl ⟨rfl, rfl⟩, K3.out.setRow (fun hlt => by omega) _⟩
theorem chdE_good {b : Blk} {d : List Int} (h0 : bchk b = 0) (h1 : b.h ≠ 9223372036854775807) : (200 < d.length → chdE b d = 30) ∧ (¬ 200 < d.length → chdE b d = 0) := by
  unfold chdE
  exact ⟨fun h => by rw [if_pos (.inr (.inr h))], fun h => by rw [if_neg (by rintro (h2 | h2 | h2) <;> contradiction)]⟩

set_option maxRecDepth 100000 in
set_option maxHeartbeats 800000 in
theorem rchild_any {b : Blk} {v vd : Value} {d : List Int} (hb : b.wf) (hd : Rng d) {w : World} (hs : Sees w v b.d) (hsd : Sees w vd d) :
    Calls Tryd.prog 27 #[blkV b v, vd] w (NewBlkE w (orBlk (chd b d) (chdE b d)) (chdE b d)) := by
  obtain ⟨a0, c0, rfl⟩ := sees_form hs
  obtain ⟨a9, c9, rfl⟩ := sees_form hsd
  obtain ⟨hA, hB⟩ := two_at w (b := blk0) hb.nm.len rfl (.slice a0 b.d.length c0) (.slice none 0 0)
  have k1 : Kp (fun _ => False) w ((w.alloc (.cells (blkC b (.slice a0 b.d.length c0)).toArray 26)).alloc (.cells (blkC blk0 (.slice none 0 0)).toArray 26)) := ((Kp.refl _ _).alloc _).alloc _
  have HC := Lib.hid (rblid_any hb (hs.kept k1 (fun _ _ _ f => f)))
  have HSD := Lib.hid hsd
  have HA := Lib.hid hA
  have HB := Lib.hid hB
  have HW := Lib.hid hb
  have HD := Lib.hid hd
  have K1 := Lib.hid k1
  have HI := Lib.hid (fun v => infoBlk hb.nm.len v)
  have HI0 := Lib.hid (fun v => infoBlk (b := blk0) rfl v)
  have hz := zeroBlk
  have hz2 := zerosId
  have hcs := bchk_cases b
  unfold IdP at HC
  have hcb := fun h0 => chdE_bad (b := b) (d := d) h0
  obtain ⟨y, hy⟩ : ∃ y, y = chdE b d := ⟨_, rfl⟩
  rw [← hy] at hcb ⊢
  obtain ⟨x, hx⟩ : ∃ x, x = bchk b := ⟨_, rfl⟩
  rw [← hx] at HC hcs hcb
  have HY0 := Lib.hid hy
  have HX0 := Lib.hid hx
  clear hs hsd hA hB hb hd hx hy k1
  have HI32 := Lib.hid (info32 (orId b x) (orId_nm b x).len)
  rcases hcs with rfl | rfl
  · have HB0 := Lib.hid HX0.out.symm
    by_cases hm : b.h = 9223372036854775807
    · obtain rfl := hcb (.inr hm)
      have e0 : (b.h == 9223372036854775807) = true := by simpa using hm
      clear hcb hm
      go_enter Tryd.func27, Tryd.ntmps27
      unfold blkV
      go_wp2_with ((with_reducible refine at_dst 9 ?_); refine wpList_load_row rfl 26 _ rfl w.heap.size rfl 26 _ (0, 0) _ HA.out.row Tryd.underlying26 rfl (HI.out _) ?_)
      refine HC.out.mono ?_
      rintro e w1 ⟨rfl, k⟩
      have H1 := Lib.hid (HA.out.kept k (fun f => f))
      have H2 := Lib.hid (HB.out.kept k (fun f => f))
      have K2 := Lib.hid (K1.out.trans k (fun _ _ f => f))
      clear k
      go_wp2_with (first
        | ((with_reducible refine at_store 6 11 ?_); refine wpList_store_fresh rfl 23 _ _ rfl (U8s (orId b 0)).toArray rfl rfl 23 _ HI32.out (by rw [List.size_toArray, List.size_toArray, U8s_length, U8s_length, (orId_nm b 0).len]; rfl) (all_oneCell_toArray (U8s_one _)) ?_; intro w2 k2 m2 s2; have H3 := Lib.hid (H2.out.kept k2 (fun f => f)); have c32 := (H1.out.kept k2 (fun f => f)).ht; have K3 := Lib.hid (K2.out.trans k2 (fun _ _ f => f)); have M3 := Lib.hid m2; clear m2 s2 k2)
        | ((with_reducible refine at_store 4 25 ?_); refine wpList_store_row rfl 26 _ _ rfl (w.heap.size + 1) (blkC blk0 (.slice none 0 0)).toArray rfl rfl 26 _ H3.out.row (HI0.out _) rfl blkC_one ?_))
      refine bodyPost_ret (v := .tuple #[blkV blk0 (.slice none 0 0), .int .i64 30]) (results_cell_tmp Tryd.results27 _ _ (w.heap.size + 1) 26 _ (0, 0) _ _ rfl rfl (setRow_blk H3.out.row) Tryd.underlying26 rfl (HI0.out _)) rfl ⟨_, rfl, .inl ⟨rfl, rfl⟩, K3.out.setRow (fun hlt => by omega) _⟩
    · have hsp := chdE_good (d := d) HB0.out hm
      rw [← HY0.out] at hsp
      have HWX := Lib.hid (chd_wf (d := d) HW.out hm HD.out)
      have e0 : (b.h == 9223372036854775807) = false := by simpa using hm
      have hh2 := HW.out.hi
      have hh1 := HW.out.lo
      have hm' : b.h < 9223372036854775807 := by omega
      clear hcb hm
      by_cases hdl : 200 < d.length
      · obtain rfl := hsp.1 hdl
        have hdl' : (200 : Int) < d.length := by omega
        clear hsp
        go_enter Tryd.func27, Tryd.ntmps27
        unfold blkV
        go_wp2_with ((with_reducible refine at_dst 9 ?_); refine wpList_load_row rfl 26 _ rfl w.heap.size rfl 26 _ (0, 0) _ HA.out.row Tryd.underlying26 rfl (HI.out _) ?_)
        refine HC.out.mono ?_
        rintro e w1 ⟨rfl, k⟩
        have H1 := Lib.hid (HA.out.kept k (fun f => f))
        have H2 := Lib.hid (HB.out.kept k (fun f => f))
        have K2 := Lib.hid (K1.out.trans k (fun _ _ f => f))
        clear k
        go_wp2_with (first
          | ((with_reducible refine at_store 6 11 ?_); refine wpList_store_fresh rfl 23 _ _ rfl (U8s (orId b 0)).toArray rfl rfl 23 _ HI32.out (by rw [List.size_toArray, List.size_toArray, U8s_length, U8s_length, (orId_nm b 0).len]; rfl) (all_oneCell_toArray (U8s_one _)) ?_; intro w2 k2 m2 s2; have H3 := Lib.hid (H2.out.kept k2 (fun f => f)); have c32 := (H1.out.kept k2 (fun f => f)).ht; have K3 := Lib.hid (K2.out.trans k2 (fun _ _ f => f)); have M3 := Lib.hid m2; clear m2 s2 k2)
          | ((with_reducible refine at_store 4 25 ?_); refine wpList_store_row rfl 26 _ _ rfl (w.heap.size + 1) (blkC blk0 (.slice none 0 0)).toArray rfl rfl 26 _ H3.out.row (HI0.out _) rfl blkC_one ?_))
        refine bodyPost_ret (v := .tuple #[blkV blk0 (.slice none 0 0), .int .i64 30]) (results_cell_tmp Tryd.results27 _ _ (w.heap.size + 1) 26 _ (0, 0) _ _ rfl rfl (setRow_blk H3.out.row) Tryd.underlying26 rfl (HI0.out _)) rfl ⟨_, rfl, .inl ⟨rfl, rfl⟩, K3.out.setRow (fun hlt => by omega) _⟩
      · obtain rfl := hsp.2 hdl
        have hdl' : ¬ (200 : Int) < d.length := by omega
        clear hsp
        go_enter Tryd.func27, Tryd.ntmps27
        unfold blkV
        go_wp2_with ((with_reducible refine at_dst 9 ?_); refine wpList_load_row rfl 26 _ rfl w.heap.size rfl 26 _ (0, 0) _ HA.out.row Tryd.underlying26 rfl (HI.out _) ?_)
        refine HC.out.mono ?_
        rintro e w1 ⟨rfl, k⟩
        have H1 := Lib.hid (HA.out.kept k (fun f => f))
        have H2 := Lib.hid (HB.out.kept k (fun f => f))
        have K2 := Lib.hid (K1.out.trans k (fun _ _ f => f))
        clear k
        go_wp2_with (first
          | ((with_reducible refine at_store 6 11 ?_); refine wpList_store_fresh rfl 23 _ _ rfl (U8s (orId b 0)).toArray rfl rfl 23 _ HI32.out (by rw [List.size_toArray, List.size_toArray, U8s_length, U8s_length, (orId_nm b 0).len]; rfl) (all_oneCell_toArray (U8s_one _)) ?_; intro w2 k2 m2 s2; have H3 := Lib.hid (H2.out.kept k2 (fun f => f)); have c32 := (H1.out.kept k2 (fun f => f)).ht; have K3 := Lib.hid (K2.out.trans k2 (fun _ _ f => f)); have M3 := Lib.hid m2; clear m2 s2 k2)
          | ((with_reducible refine at_dst 26 ?_); refine wpList_load_row rfl 23 _ rfl w1.heap.size rfl 23 _ (0, 0) _ M3.out Tryd.underlying23 rfl HI32.out ?_)
          | ((with_reducible refine at_dst 31 ?_); refine wpList_blk 26 29 30 (chd b d) a9 d.length c9 (bid_nm b).len rfl rfl rfl rfl rfl ?_))
        refine (rblclone_any (w := w2) HWX.out (HSD.out.kept K3.out (fun _ _ _ f => f)) (by show d.length ≤ 1000000; omega)).mono ?_
        rintro e w3 ⟨v3, rfl, own, k⟩
        obtain ⟨a3, c3, rfl⟩ := sees_form own.sees
        have HIz := Lib.hid (fun v => infoBlk HWX.out.nm.len v)
        have H4 := Lib.hid (H3.out.kept k (fun f => f))
        have K4 := Lib.hid (K3.out.trans k (fun _ _ f => f))
        have OW := Lib.hid own
        have hlt := H3.out.lt
        clear k own
        unfold blkV
        go_wp2_with ((with_reducible refine at_store 4 32 ?_); refine wpList_store_row rfl 26 _ _ rfl (w.heap.size + 1) (blkC (chd b d) (.slice a3 (chd b d).d.length c3)).toArray rfl rfl 26 _ H4.out.row (HIz.out _) (by rw [List.size_toArray, List.size_toArray, blkC_length H4.out.len, blkC_length HWX.out.nm.len]) blkC_one ?_)
        refine bodyPost_ret (v := .tuple #[blkV (chd b d) (.slice a3 (chd b d).d.length c3), .int .i64 0]) (results_cell_tmp Tryd.results27 _ _ (w.heap.size + 1) 26 _ (0, 0) _ _ rfl rfl (setRow_blk H4.out.row) Tryd.underlying26 rfl (HIz.out _)) rfl ⟨_, rfl, ?_, K4.out.setRow (fun hlt => by omega) _⟩
        exact (OW.out.kept ((Kp.refl (fun y => y = w.heap.size + 1) w3).setRow (fun _ => rfl) _) (fun g hg e => by have := (OW.out.lt g hg).1; omega)).up (by omega)
  · obtain rfl := hcb (.inl (by omega))
    clear hcb
    go_enter Tryd.func27, Tryd.ntmps27
    unfold blkV
    go_wp2_with ((with_reducible refine at_dst 9 ?_); refine wpList_load_row rfl 26 _ rfl w.heap.size rfl 26 _ (0, 0) _ HA.out.row Tryd.underlying26 rfl (HI.out _) ?_)
    refine HC.out.mono ?_
    rintro e w1 ⟨rfl, k⟩
    have H1 := Lib.hid (HA.out.kept k (fun f => f))
    have H2 := Lib.hid (HB.out.kept k (fun f => f))
    have K2 := Lib.hid (K1.out.trans k (fun _ _ f => f))
    clear k
    go_wp2_with (first
      | ((with_reducible refine at_store 6 11 ?_); refine wpList_store_fresh rfl 23 _ _ rfl (U8s (orId b 30)).toArray rfl rfl 23 _ HI32.out (by rw [List.size_toArray, List.size_toArray, U8s_length, U8s_length, (orId_nm b 30).len]; rfl) (all_oneCell_toArray (U8s_one _)) ?_; intro w2 k2 m2 s2; have H3 := Lib.hid (H2.out.kept k2 (fun f => f)); have K3 := Lib.hid (K2.out.trans k2 (fun _ _ f => f)); have M3 := Lib.hid m2; clear m2 s2 k2)
      | ((with_reducible refine at_store 4 25 ?_); refine wpList_store_row rfl 26 _ _ rfl (w.heap.size + 1) (blkC blk0 (.slice none 0 0)).toArray rfl rfl 26 _ H3.out.row (HI0.out _) rfl blkC_one ?_))
    refine bodyPost_ret (v := .tuple #[blkV blk0 (.slice none 0 0), .int .i64 30]) (results_cell_tmp Tryd.results27 _ _ (w.heap.size + 1) 26 _ (0, 0) _ _ rfl rfl (setRow_blk H3.out.row) Tryd.underlying26 rfl (HI0.out _)) rfl ⟨_, rfl, .inl ⟨rfl, rfl⟩, K3.out.setRow (fun hlt => by omega) _⟩
end Go.Proofs.YtoognhbdgdfkoaaDoor
