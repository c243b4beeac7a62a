/-
  Contracts of package block's Linked, and of the document's own.
-/
import Derived.Test.YtoognhbdgdfkoaaDoorBr
namespace Go.Proofs.YtoognhbdgdfkoaaDoor
open Go.ChangeShapes Go.WideShapes Go.ChangeAt Go.RowKit

/-- is c a child of p -/
def lnkE (c p : Blk) : Int := if bchk c ≠ 0 ∨ bchk p ≠ 0 then 30 else if c.p ≠ bid p ∨ c.h - 1 ≠ p.h then 31 else 0
theorem lnkE_bad {c p : Blk} (h : bchk c ≠ 0 ∨ bchk p ≠ 0) : lnkE c p = 30 := by unfold lnkE; rw [if_pos h]
theorem lnkE_not {c p : Blk} (h : bchk c = 0) (h2 : bchk p = 0) (h3 : c.p ≠ bid p ∨ c.h - 1 ≠ p.h) : lnkE c p = 31 := by unfold lnkE; rw [if_neg (by rintro (h' | h') <;> contradiction), if_pos h3]
theorem lnkE_yes {c p : Blk} (h : bchk c = 0) (h2 : bchk p = 0) (h3 : c.p = bid p) (h4 : c.h - 1 = p.h) : lnkE c p = 0 := by unfold lnkE; rw [if_neg (by rintro (h' | h') <;> contradiction), if_neg (by rintro (h' | h') <;> contradiction)]

set_option maxRecDepth 100000 in
set_option maxHeartbeats 1600000 in
theorem linked_any {a b : Blk} {va vb : Value} (ha : a.wf) (hb : b.wf) {w : World} (sa : Sees w va a.d) (sb : Sees w vb b.d) (hR : Rts w) :
    Calls Tryd.prog 28 #[blkV a va, blkV b vb] w fun e w' => e = .returned (.int .i64 (lnkE a b)) ∧ Kp (fun _ => False) w w' := by
  obtain ⟨a1, c1, rfl⟩ := sees_form sa
  obtain ⟨a2, c2, rfl⟩ := sees_form sb
  obtain ⟨hA, hB⟩ := two_at w ha.nm.len hb.nm.len (.slice a1 a.d.length c1) (.slice a2 b.d.length c2)
  have k1 : Kp (fun _ => False) w ((w.alloc (.cells (blkC a (.slice a1 a.d.length c1)).toArray 26)).alloc (.cells (blkC b (.slice a2 b.d.length c2)).toArray 26)) := ((Kp.refl _ _).alloc _).alloc _
  have HCA := Lib.hid (check_any ha (sa.kept k1 (fun _ _ _ f => f)))
  have HID := Lib.hid (fun w' (k : Kp (fun _ => False) w w') => blid_any hb (sb.kept k (fun _ _ _ f => f)) (hR.kept k (fun _ _ f => f)))
  have hn := fun w => eqn_names a.p (bid b) ha.nm.len (bid_nm b).len w
  have HA := Lib.hid hA
  have HB := Lib.hid hB
  have IA := Lib.hid (fun v => infoBlk ha.nm.len v)
  have IB := Lib.hid (fun v => infoBlk hb.nm.len v)
  have IP := Lib.hid (infoPar ha.nm.len)
  have WA := Lib.hid ha
  have WB := Lib.hid hb
  have K1 := Lib.hid k1
  have hz2 := zerosId
  have hca := bchk_cases a
  have hcb := bchk_cases b
  have L1 := fun h => lnkE_bad (c := a) (p := b) h
  have L2 := fun h h2 h3 => lnkE_not (c := a) (p := b) h h2 h3
  have L3 := fun h h2 h3 h4 => lnkE_yes (c := a) (p := b) h h2 h3 h4
  have PA := fun h => bchk_pos (b := a) h
  unfold IdP at HID
  obtain ⟨z, hz⟩ : ∃ z, z = lnkE a b := ⟨_, rfl⟩
  rw [← hz] at L1 L2 L3 ⊢
  obtain ⟨x, hx⟩ : ∃ x, x = bchk a := ⟨_, rfl⟩
  rw [← hx] at HCA hca L1 L2 L3 PA
  obtain ⟨y, hy⟩ : ∃ y, y = bchk b := ⟨_, rfl⟩
  rw [← hy] at HID hcb L1 L2 L3
  have II := Lib.hid (info32 (orId b y) (orId_nm b y).len)
  have II0 := Lib.hid (info32 (bid b) (bid_nm b).len)
  clear sa sb hA hB ha hb hx hy hz k1 hR
  rcases hca with rfl | rfl
  · have ha0 := PA rfl
    have ha1 := WA.out.hi
    rcases hcb with rfl | rfl
    · by_cases h1 : a.p = bid b
      · by_cases h2 : a.h - 1 = b.h
        · obtain rfl := L3 rfl rfl h1 h2
          have e0 : (a.h - 1 != b.h) = false := by simpa using h2
          rw [decide_eq_true h1] at hn
          clear L1 L2 L3 PA h1 h2
          go_enter Tryd.func28, Tryd.ntmps28
          unfold blkV
          go_wp2_with ((with_reducible refine at_dst 8 ?_); refine wpList_load_row rfl 26 _ rfl w.heap.size rfl 26 _ (0, 0) _ HA.out.row Tryd.underlying26 rfl (IA.out _) ?_)
          refine HCA.out.mono ?_
          rintro e w1 ⟨rfl, k⟩
          have A1 := Lib.hid (HA.out.kept k (fun f => f))
          have B1 := Lib.hid (HB.out.kept k (fun f => f))
          have K2 := Lib.hid (K1.out.trans k (fun _ _ f => f))
          clear k
          go_wp2_with ((with_reducible refine at_dst 14 ?_); refine wpList_load_row rfl 26 _ rfl (w.heap.size + 1) rfl 26 _ (0, 0) _ B1.out.row Tryd.underlying26 rfl (IB.out _) ?_)
          refine (HID.out w1 K2.out).mono ?_
          rintro e w2 ⟨rfl, k⟩
          have A2 := Lib.hid (A1.out.kept k (fun f => f))
          have B2 := Lib.hid (B1.out.kept k (fun f => f))
          have K3 := Lib.hid (K2.out.trans k (fun _ _ f => f))
          clear k
          go_wp2_with (first
            | ((with_reducible refine at_store 6 16 ?_); refine wpList_store_fresh rfl 23 _ _ rfl (U8s (orId b 0)).toArray rfl rfl 23 _ II.out (by rw [List.size_toArray, List.size_toArray, U8s_length, U8s_length, (orId_nm b 0).len]; rfl) (all_oneCell_toArray (U8s_one _)) ?_; intro w3 k3 m3 s3; have M3 := Lib.hid (show w3.heap[w2.heap.size]? = some (.cells (U8s (orId b 0)).toArray 23 (0, 0)) from m3); have A3 := Lib.hid (A2.out.kept k3 (fun f => f)).par; have ca := (A2.out.kept k3 (fun f => f)).ht; have cb := (B2.out.kept k3 (fun f => f)).ht; have K4 := Lib.hid (K3.out.trans k3 (fun _ _ f => f)); clear m3 s3 k3)
            | ((with_reducible refine at_dst 22 ?_); refine wpList_load_mid rfl 23 _ rfl w.heap.size 0 rfl (U8s a.p) _ A3.out Tryd.underlying23 rfl IP.out ?_)
            | ((with_reducible refine at_dst 23 ?_); refine wpList_load_row rfl 23 _ rfl w2.heap.size rfl 23 (U8s (bid b)).toArray (0, 0) _ M3.out Tryd.underlying23 rfl II0.out ?_))
          go_ret
          exact ⟨rfl, K4.out⟩
        · obtain rfl := L2 rfl rfl (.inr h2)
          have e0 : (a.h - 1 != b.h) = true := by simpa using h2
          rw [decide_eq_true h1] at hn
          clear L1 L2 L3 PA h1 h2
          go_enter Tryd.func28, Tryd.ntmps28
          unfold blkV
          go_wp2_with ((with_reducible refine at_dst 8 ?_); refine wpList_load_row rfl 26 _ rfl w.heap.size rfl 26 _ (0, 0) _ HA.out.row Tryd.underlying26 rfl (IA.out _) ?_)
          refine HCA.out.mono ?_
          rintro e w1 ⟨rfl, k⟩
          have A1 := Lib.hid (HA.out.kept k (fun f => f))
          have B1 := Lib.hid (HB.out.kept k (fun f => f))
          have K2 := Lib.hid (K1.out.trans k (fun _ _ f => f))
          clear k
          go_wp2_with ((with_reducible refine at_dst 14 ?_); refine wpList_load_row rfl 26 _ rfl (w.heap.size + 1) rfl 26 _ (0, 0) _ B1.out.row Tryd.underlying26 rfl (IB.out _) ?_)
          refine (HID.out w1 K2.out).mono ?_
          rintro e w2 ⟨rfl, k⟩
          have A2 := Lib.hid (A1.out.kept k (fun f => f))
          have B2 := Lib.hid (B1.out.kept k (fun f => f))
          have K3 := Lib.hid (K2.out.trans k (fun _ _ f => f))
          clear k
          go_wp2_with (first
            | ((with_reducible refine at_store 6 16 ?_); refine wpList_store_fresh rfl 23 _ _ rfl (U8s (orId b 0)).toArray rfl rfl 23 _ II.out (by rw [List.size_toArray, List.size_toArray, U8s_length, U8s_length, (orId_nm b 0).len]; rfl) (all_oneCell_toArray (U8s_one _)) ?_; intro w3 k3 m3 s3; have M3 := Lib.hid (show w3.heap[w2.heap.size]? = some (.cells (U8s (orId b 0)).toArray 23 (0, 0)) from m3); have A3 := Lib.hid (A2.out.kept k3 (fun f => f)).par; have ca := (A2.out.kept k3 (fun f => f)).ht; have cb := (B2.out.kept k3 (fun f => f)).ht; have K4 := Lib.hid (K3.out.trans k3 (fun _ _ f => f)); clear m3 s3 k3)
            | ((with_reducible refine at_dst 22 ?_); refine wpList_load_mid rfl 23 _ rfl w.heap.size 0 rfl (U8s a.p) _ A3.out Tryd.underlying23 rfl IP.out ?_)
            | ((with_reducible refine at_dst 23 ?_); refine wpList_load_row rfl 23 _ rfl w2.heap.size rfl 23 (U8s (bid b)).toArray (0, 0) _ M3.out Tryd.underlying23 rfl II0.out ?_))
          go_ret
          exact ⟨rfl, K4.out⟩
      · obtain rfl := L2 rfl rfl (.inl h1)
        rw [decide_eq_false h1] at hn
        clear L1 L2 L3 PA h1
        go_enter Tryd.func28, Tryd.ntmps28
        unfold blkV
        go_wp2_with ((with_reducible refine at_dst 8 ?_); refine wpList_load_row rfl 26 _ rfl w.heap.size rfl 26 _ (0, 0) _ HA.out.row Tryd.underlying26 rfl (IA.out _) ?_)
        refine HCA.out.mono ?_
        rintro e w1 ⟨rfl, k⟩
        have A1 := Lib.hid (HA.out.kept k (fun f => f))
        have B1 := Lib.hid (HB.out.kept k (fun f => f))
        have K2 := Lib.hid (K1.out.trans k (fun _ _ f => f))
        clear k
        go_wp2_with ((with_reducible refine at_dst 14 ?_); refine wpList_load_row rfl 26 _ rfl (w.heap.size + 1) rfl 26 _ (0, 0) _ B1.out.row Tryd.underlying26 rfl (IB.out _) ?_)
        refine (HID.out w1 K2.out).mono ?_
        rintro e w2 ⟨rfl, k⟩
        have A2 := Lib.hid (A1.out.kept k (fun f => f))
        have B2 := Lib.hid (B1.out.kept k (fun f => f))
        have K3 := Lib.hid (K2.out.trans k (fun _ _ f => f))
        clear k
        go_wp2_with (first
          | ((with_reducible refine at_store 6 16 ?_); refine wpList_store_fresh rfl 23 _ _ rfl (U8s (orId b 0)).toArray rfl rfl 23 _ II.out (by rw [List.size_toArray, List.size_toArray, U8s_length, U8s_length, (orId_nm b 0).len]; rfl) (all_oneCell_toArray (U8s_one _)) ?_; intro w3 k3 m3 s3; have M3 := Lib.hid (show w3.heap[w2.heap.size]? = some (.cells (U8s (orId b 0)).toArray 23 (0, 0)) from m3); have A3 := Lib.hid (A2.out.kept k3 (fun f => f)).par; have ca := (A2.out.kept k3 (fun f => f)).ht; have cb := (B2.out.kept k3 (fun f => f)).ht; have K4 := Lib.hid (K3.out.trans k3 (fun _ _ f => f)); clear m3 s3 k3)
          | ((with_reducible refine at_dst 22 ?_); refine wpList_load_mid rfl 23 _ rfl w.heap.size 0 rfl (U8s a.p) _ A3.out Tryd.underlying23 rfl IP.out ?_)
          | ((with_reducible refine at_dst 23 ?_); refine wpList_load_row rfl 23 _ rfl w2.heap.size rfl 23 (U8s (bid b)).toArray (0, 0) _ M3.out Tryd.underlying23 rfl II0.out ?_))
        go_ret
        exact ⟨rfl, K4.out⟩
    · obtain rfl := L1 (.inr (by omega))
      clear L1 L2 L3 PA hn
      go_enter Tryd.func28, Tryd.ntmps28
      unfold blkV
      go_wp2_with ((with_reducible refine at_dst 8 ?_); refine wpList_load_row rfl 26 _ rfl w.heap.size rfl 26 _ (0, 0) _ HA.out.row Tryd.underlying26 rfl (IA.out _) ?_)
      refine HCA.out.mono ?_
      rintro e w1 ⟨rfl, k⟩
      have A1 := Lib.hid (HA.out.kept k (fun f => f))
      have B1 := Lib.hid (HB.out.kept k (fun f => f))
      have K2 := Lib.hid (K1.out.trans k (fun _ _ f => f))
      clear k
      go_wp2_with ((with_reducible refine at_dst 14 ?_); refine wpList_load_row rfl 26 _ rfl (w.heap.size + 1) rfl 26 _ (0, 0) _ B1.out.row Tryd.underlying26 rfl (IB.out _) ?_)
      refine (HID.out w1 K2.out).mono ?_
      rintro e w2 ⟨rfl, k⟩
      have A2 := Lib.hid (A1.out.kept k (fun f => f))
      have B2 := Lib.hid (B1.out.kept k (fun f => f))
      have K3 := Lib.hid (K2.out.trans k (fun _ _ f => f))
      clear k
      go_wp2_with ((with_reducible refine at_store 6 16 ?_); refine wpList_store_fresh rfl 23 _ _ rfl (U8s (orId b 30)).toArray rfl rfl 23 _ II.out (by rw [List.size_toArray, List.size_toArray, U8s_length, U8s_length, (orId_nm b 30).len]; rfl) (all_oneCell_toArray (U8s_one _)) ?_; intro w3 k3 m3 s3; have M3 := Lib.hid (show w3.heap[w2.heap.size]? = some (.cells (U8s (orId b 30)).toArray 23 (0, 0)) from m3); have A3 := Lib.hid (A2.out.kept k3 (fun f => f)).par; have ca := (A2.out.kept k3 (fun f => f)).ht; have cb := (B2.out.kept k3 (fun f => f)).ht; have K4 := Lib.hid (K3.out.trans k3 (fun _ _ f => f)); clear m3 s3 k3)
      go_ret
      exact ⟨rfl, K4.out⟩
  · obtain rfl := L1 (.inl (by omega))
    clear L1 L2 L3 PA hn
    go_enter Tryd.func28, Tryd.ntmps28
    unfold blkV
    go_wp2_with ((with_reducible refine at_dst 8 ?_); refine wpList_load_row rfl 26 _ rfl w.heap.size rfl 26 _ (0, 0) _ HA.out.row Tryd.underlying26 rfl (IA.out _) ?_)
    refine HCA.out.mono ?_
    rintro e w1 ⟨rfl, k⟩
    have A1 := Lib.hid (HA.out.kept k (fun f => f))
    have B1 := Lib.hid (HB.out.kept k (fun f => f))
    have K2 := Lib.hid (K1.out.trans k (fun _ _ f => f))
    clear k
    go_wp2_with fail
    go_ret
    exact ⟨rfl, K2.out⟩

set_option maxRecDepth 100000 in
set_option maxHeartbeats 1600000 in
theorem rlinked_any {a b : Blk} {va vb : Value} (ha : a.wf) (hb : b.wf) {w : World} (sa : Sees w va a.d) (sb : Sees w vb b.d) :
    Calls Tryd.prog 29 #[blkV a va, blkV b vb] w fun e w' => e = .returned (.int .i64 (lnkE a b)) ∧ Kp (fun _ => False) w w' := by
  obtain ⟨a1, c1, rfl⟩ := sees_form sa
  obtain ⟨a2, c2, rfl⟩ := sees_form sb
  obtain ⟨hA, hB⟩ := two_at w ha.nm.len hb.nm.len (.slice a1 a.d.length c1) (.slice a2 b.d.length c2)
  have k1 : Kp (fun _ => False) w ((w.alloc (.cells (blkC a (.slice a1 a.d.length c1)).toArray 26)).alloc (.cells (blkC b (.slice a2 b.d.length c2)).toArray 26)) := ((Kp.refl _ _).alloc _).alloc _
  have HCA := Lib.hid (fun w' (k : Kp (fun _ => False) w w') => rcheck_any ha (sa.kept k (fun _ _ _ f => f)))
  have HID := Lib.hid (fun w' (k : Kp (fun _ => False) w w') => rblid_any hb (sb.kept k (fun _ _ _ f => f)))
  have hn := fun w => eqn_names a.p (bid b) ha.nm.len (bid_nm b).len w
  have HA := Lib.hid hA
  have HB := Lib.hid hB
  have IA := Lib.hid (fun v => infoBlk ha.nm.len v)
  have IB := Lib.hid (fun v => infoBlk hb.nm.len v)
  have IP := Lib.hid (infoPar ha.nm.len)
  have WA := Lib.hid ha
  have WB := Lib.hid hb
  have K1 := Lib.hid k1
  have hz2 := zerosId
  have hca := bchk_cases a
  have hcb := bchk_cases b
  have L1 := fun h => lnkE_bad (c := a) (p := b) h
  have L2 := fun h h2 h3 => lnkE_not (c := a) (p := b) h h2 h3
  have L3 := fun h h2 h3 h4 => lnkE_yes (c := a) (p := b) h h2 h3 h4
  have PA := fun h => bchk_pos (b := a) h
  have PB := fun h => bchk_pos (b := b) h
  unfold IdP at HID
  obtain ⟨z, hz⟩ : ∃ z, z = lnkE a b := ⟨_, rfl⟩
  rw [← hz] at L1 L2 L3 ⊢
  obtain ⟨x, hx⟩ : ∃ x, x = bchk a := ⟨_, rfl⟩
  rw [← hx] at HCA hca L1 L2 L3 PA
  obtain ⟨y, hy⟩ : ∃ y, y = bchk b := ⟨_, rfl⟩
  rw [← hy] at HID hcb L1 L2 L3 PB
  have II := Lib.hid (info32 (orId b y) (orId_nm b y).len)
  have II0 := Lib.hid (info32 (bid b) (bid_nm b).len)
  clear sa sb hA hB ha hb hx hy hz k1
  rcases hcb with rfl | rfl
  · have hb0 := PB rfl
    rcases hca with rfl | rfl
    · have ha0 := PA rfl
      have ha1 := WA.out.hi
      by_cases h5 : a.h < 1
      · obtain rfl := L2 rfl rfl (.inr (by omega))
        clear L1 L2 L3 PA PB hn
        go_enter Tryd.func29, Tryd.ntmps29
        unfold blkV
        go_wp2_with ((with_reducible refine at_dst 8 ?_); refine wpList_load_row rfl 26 _ rfl (w.heap.size + 1) rfl 26 _ (0, 0) _ HB.out.row Tryd.underlying26 rfl (IB.out _) ?_)
        refine (HID.out _ K1.out).mono ?_
        rintro e w2 ⟨rfl, k⟩
        have A2 := Lib.hid (HA.out.kept k (fun f => f))
        have B2 := Lib.hid (HB.out.kept k (fun f => f))
        have K3 := Lib.hid (K1.out.trans k (fun _ _ f => f))
        clear k
        go_wp2_with (first
          | ((with_reducible refine at_store 5 10 ?_); refine wpList_store_fresh rfl 23 _ _ rfl (U8s (orId b 0)).toArray rfl rfl 23 _ II.out (by rw [List.size_toArray, List.size_toArray, U8s_length, U8s_length, (orId_nm b 0).len]; rfl) (all_oneCell_toArray (U8s_one _)) ?_; intro w3 k3 m3 s3; have M3 := Lib.hid (show w3.heap[w2.heap.size]? = some (.cells (U8s (orId b 0)).toArray 23 (0, 0)) from m3); have A3 := Lib.hid (A2.out.kept k3 (fun f => f)); have B3 := Lib.hid (B2.out.kept k3 (fun f => f)); have K4 := Lib.hid (K3.out.trans k3 (fun _ _ f => f)); clear m3 s3 k3)
          | ((with_reducible refine at_dst 15 ?_); refine wpList_load_want rfl 26 _ rfl w.heap.size rfl 26 _ (0, 0) _ A3.out.row Tryd.underlying26 rfl (IA.out _) ?_))
        refine (HCA.out _ K4.out).mono ?_
        rintro e w4 ⟨rfl, k⟩
        have HP := Lib.hid (A3.out.kept k (fun f => f)).par
        have ca := (A3.out.kept k (fun f => f)).ht
        have cb := (B3.out.kept k (fun f => f)).ht
        have M4 := Lib.hid (kept_blk M3.out k (fun f => f))
        have K5 := Lib.hid (K4.out.trans k (fun _ _ f => f))
        clear k
        go_wp2_with (first
          | ((with_reducible refine at_dst 24 ?_); refine wpList_load_mid_want rfl 23 _ rfl w.heap.size 0 rfl (U8s a.p) _ HP.out Tryd.underlying23 rfl IP.out ?_)
          | ((with_reducible refine at_dst 25 ?_); refine wpList_load_want rfl 23 _ rfl w2.heap.size rfl 23 (U8s (bid b)).toArray (0, 0) _ M4.out Tryd.underlying23 rfl II0.out ?_))
        go_ret
        exact ⟨rfl, K5.out⟩
      · have e5 : decide (a.h < 1) = false := by simp; omega
        by_cases h1 : a.p = bid b
        · by_cases h2 : a.h - 1 = b.h
          · obtain rfl := L3 rfl rfl h1 h2
            have e0 : (a.h - 1 != b.h) = false := by simpa using h2
            rw [decide_eq_true h1] at hn
            clear L1 L2 L3 PA PB h1 h2
            go_enter Tryd.func29, Tryd.ntmps29
            unfold blkV
            go_wp2_with ((with_reducible refine at_dst 8 ?_); refine wpList_load_row rfl 26 _ rfl (w.heap.size + 1) rfl 26 _ (0, 0) _ HB.out.row Tryd.underlying26 rfl (IB.out _) ?_)
            refine (HID.out _ K1.out).mono ?_
            rintro e w2 ⟨rfl, k⟩
            have A2 := Lib.hid (HA.out.kept k (fun f => f))
            have B2 := Lib.hid (HB.out.kept k (fun f => f))
            have K3 := Lib.hid (K1.out.trans k (fun _ _ f => f))
            clear k
            go_wp2_with (first
              | ((with_reducible refine at_store 5 10 ?_); refine wpList_store_fresh rfl 23 _ _ rfl (U8s (orId b 0)).toArray rfl rfl 23 _ II.out (by rw [List.size_toArray, List.size_toArray, U8s_length, U8s_length, (orId_nm b 0).len]; rfl) (all_oneCell_toArray (U8s_one _)) ?_; intro w3 k3 m3 s3; have M3 := Lib.hid (show w3.heap[w2.heap.size]? = some (.cells (U8s (orId b 0)).toArray 23 (0, 0)) from m3); have A3 := Lib.hid (A2.out.kept k3 (fun f => f)); have B3 := Lib.hid (B2.out.kept k3 (fun f => f)); have K4 := Lib.hid (K3.out.trans k3 (fun _ _ f => f)); clear m3 s3 k3)
              | ((with_reducible refine at_dst 15 ?_); refine wpList_load_want rfl 26 _ rfl w.heap.size rfl 26 _ (0, 0) _ A3.out.row Tryd.underlying26 rfl (IA.out _) ?_))
            refine (HCA.out _ K4.out).mono ?_
            rintro e w4 ⟨rfl, k⟩
            have HP := Lib.hid (A3.out.kept k (fun f => f)).par
            have ca := (A3.out.kept k (fun f => f)).ht
            have cb := (B3.out.kept k (fun f => f)).ht
            have M4 := Lib.hid (kept_blk M3.out k (fun f => f))
            have K5 := Lib.hid (K4.out.trans k (fun _ _ f => f))
            clear k
            go_wp2_with (first
              | ((with_reducible refine at_dst 24 ?_); refine wpList_load_mid_want rfl 23 _ rfl w.heap.size 0 rfl (U8s a.p) _ HP.out Tryd.underlying23 rfl IP.out ?_)
              | ((with_reducible refine at_dst 25 ?_); refine wpList_load_want rfl 23 _ rfl w2.heap.size rfl 23 (U8s (bid b)).toArray (0, 0) _ M4.out Tryd.underlying23 rfl II0.out ?_))
            go_ret
            exact ⟨rfl, K5.out⟩
          · obtain rfl := L2 rfl rfl (.inr h2)
            have e0 : (a.h - 1 != b.h) = true := by simpa using h2
            rw [decide_eq_true h1] at hn
            clear L1 L2 L3 PA PB h1 h2
            go_enter Tryd.func29, Tryd.ntmps29
            unfold blkV
            go_wp2_with ((with_reducible refine at_dst 8 ?_); refine wpList_load_row rfl 26 _ rfl (w.heap.size + 1) rfl 26 _ (0, 0) _ HB.out.row Tryd.underlying26 rfl (IB.out _) ?_)
            refine (HID.out _ K1.out).mono ?_
            rintro e w2 ⟨rfl, k⟩
            have A2 := Lib.hid (HA.out.kept k (fun f => f))
            have B2 := Lib.hid (HB.out.kept k (fun f => f))
            have K3 := Lib.hid (K1.out.trans k (fun _ _ f => f))
            clear k
            go_wp2_with (first
              | ((with_reducible refine at_store 5 10 ?_); refine wpList_store_fresh rfl 23 _ _ rfl (U8s (orId b 0)).toArray rfl rfl 23 _ II.out (by rw [List.size_toArray, List.size_toArray, U8s_length, U8s_length, (orId_nm b 0).len]; rfl) (all_oneCell_toArray (U8s_one _)) ?_; intro w3 k3 m3 s3; have M3 := Lib.hid (show w3.heap[w2.heap.size]? = some (.cells (U8s (orId b 0)).toArray 23 (0, 0)) from m3); have A3 := Lib.hid (A2.out.kept k3 (fun f => f)); have B3 := Lib.hid (B2.out.kept k3 (fun f => f)); have K4 := Lib.hid (K3.out.trans k3 (fun _ _ f => f)); clear m3 s3 k3)
              | ((with_reducible refine at_dst 15 ?_); refine wpList_load_want rfl 26 _ rfl w.heap.size rfl 26 _ (0, 0) _ A3.out.row Tryd.underlying26 rfl (IA.out _) ?_))
            refine (HCA.out _ K4.out).mono ?_
            rintro e w4 ⟨rfl, k⟩
            have HP := Lib.hid (A3.out.kept k (fun f => f)).par
            have ca := (A3.out.kept k (fun f => f)).ht
            have cb := (B3.out.kept k (fun f => f)).ht
            have M4 := Lib.hid (kept_blk M3.out k (fun f => f))
            have K5 := Lib.hid (K4.out.trans k (fun _ _ f => f))
            clear k
            go_wp2_with (first
              | ((with_reducible refine at_dst 24 ?_); refine wpList_load_mid_want rfl 23 _ rfl w.heap.size 0 rfl (U8s a.p) _ HP.out Tryd.underlying23 rfl IP.out ?_)
              | ((with_reducible refine at_dst 25 ?_); refine wpList_load_want rfl 23 _ rfl w2.heap.size rfl 23 (U8s (bid b)).toArray (0, 0) _ M4.out Tryd.underlying23 rfl II0.out ?_))
            go_ret
            exact ⟨rfl, K5.out⟩
        · obtain rfl := L2 rfl rfl (.inl h1)
          rw [decide_eq_false h1] at hn
          clear L1 L2 L3 PA PB h1
          go_enter Tryd.func29, Tryd.ntmps29
          unfold blkV
          go_wp2_with ((with_reducible refine at_dst 8 ?_); refine wpList_load_row rfl 26 _ rfl (w.heap.size + 1) rfl 26 _ (0, 0) _ HB.out.row Tryd.underlying26 rfl (IB.out _) ?_)
          refine (HID.out _ K1.out).mono ?_
          rintro e w2 ⟨rfl, k⟩
          have A2 := Lib.hid (HA.out.kept k (fun f => f))
          have B2 := Lib.hid (HB.out.kept k (fun f => f))
          have K3 := Lib.hid (K1.out.trans k (fun _ _ f => f))
          clear k
          go_wp2_with (first
            | ((with_reducible refine at_store 5 10 ?_); refine wpList_store_fresh rfl 23 _ _ rfl (U8s (orId b 0)).toArray rfl rfl 23 _ II.out (by rw [List.size_toArray, List.size_toArray, U8s_length, U8s_length, (orId_nm b 0).len]; rfl) (all_oneCell_toArray (U8s_one _)) ?_; intro w3 k3 m3 s3; have M3 := Lib.hid (show w3.heap[w2.heap.size]? = some (.cells (U8s (orId b 0)).toArray 23 (0, 0)) from m3); have A3 := Lib.hid (A2.out.kept k3 (fun f => f)); have B3 := Lib.hid (B2.out.kept k3 (fun f => f)); have K4 := Lib.hid (K3.out.trans k3 (fun _ _ f => f)); clear m3 s3 k3)
            | ((with_reducible refine at_dst 15 ?_); refine wpList_load_want rfl 26 _ rfl w.heap.size rfl 26 _ (0, 0) _ A3.out.row Tryd.underlying26 rfl (IA.out _) ?_))
          refine (HCA.out _ K4.out).mono ?_
          rintro e w4 ⟨rfl, k⟩
          have HP := Lib.hid (A3.out.kept k (fun f => f)).par
          have ca := (A3.out.kept k (fun f => f)).ht
          have cb := (B3.out.kept k (fun f => f)).ht
          have M4 := Lib.hid (kept_blk M3.out k (fun f => f))
          have K5 := Lib.hid (K4.out.trans k (fun _ _ f => f))
          clear k
          go_wp2_with (first
            | ((with_reducible refine at_dst 24 ?_); refine wpList_load_mid_want rfl 23 _ rfl w.heap.size 0 rfl (U8s a.p) _ HP.out Tryd.underlying23 rfl IP.out ?_)
            | ((with_reducible refine at_dst 25 ?_); refine wpList_load_want rfl 23 _ rfl w2.heap.size rfl 23 (U8s (bid b)).toArray (0, 0) _ M4.out Tryd.underlying23 rfl II0.out ?_))
          go_ret
          exact ⟨rfl, K5.out⟩
    · obtain rfl := L1 (.inl (by omega))
      clear L1 L2 L3 PA PB hn
      go_enter Tryd.func29, Tryd.ntmps29
      unfold blkV
      go_wp2_with ((with_reducible refine at_dst 8 ?_); refine wpList_load_row rfl 26 _ rfl (w.heap.size + 1) rfl 26 _ (0, 0) _ HB.out.row Tryd.underlying26 rfl (IB.out _) ?_)
      refine (HID.out _ K1.out).mono ?_
      rintro e w2 ⟨rfl, k⟩
      have A2 := Lib.hid (HA.out.kept k (fun f => f))
      have B2 := Lib.hid (HB.out.kept k (fun f => f))
      have K3 := Lib.hid (K1.out.trans k (fun _ _ f => f))
      clear k
      go_wp2_with (first
        | ((with_reducible refine at_store 5 10 ?_); refine wpList_store_fresh rfl 23 _ _ rfl (U8s (orId b 0)).toArray rfl rfl 23 _ II.out (by rw [List.size_toArray, List.size_toArray, U8s_length, U8s_length, (orId_nm b 0).len]; rfl) (all_oneCell_toArray (U8s_one _)) ?_; intro w3 k3 m3 s3; have M3 := Lib.hid (show w3.heap[w2.heap.size]? = some (.cells (U8s (orId b 0)).toArray 23 (0, 0)) from m3); have A3 := Lib.hid (A2.out.kept k3 (fun f => f)); have B3 := Lib.hid (B2.out.kept k3 (fun f => f)); have K4 := Lib.hid (K3.out.trans k3 (fun _ _ f => f)); clear m3 s3 k3)
        | ((with_reducible refine at_dst 15 ?_); refine wpList_load_want rfl 26 _ rfl w.heap.size rfl 26 _ (0, 0) _ A3.out.row Tryd.underlying26 rfl (IA.out _) ?_))
      refine (HCA.out _ K4.out).mono ?_
      rintro e w4 ⟨rfl, k⟩
      have HP := Lib.hid (A3.out.kept k (fun f => f)).par
      have ca := (A3.out.kept k (fun f => f)).ht
      have cb := (B3.out.kept k (fun f => f)).ht
      have M4 := Lib.hid (kept_blk M3.out k (fun f => f))
      have K5 := Lib.hid (K4.out.trans k (fun _ _ f => f))
      clear k
      go_wp2_with fail
      go_ret
      exact ⟨rfl, K5.out⟩
  · obtain rfl := L1 (.inr (by omega))
    clear L1 L2 L3 PA PB hn
    go_enter Tryd.func29, Tryd.ntmps29
    unfold blkV
    go_wp2_with ((with_reducible refine at_dst 8 ?_); refine wpList_load_row rfl 26 _ rfl (w.heap.size + 1) rfl 26 _ (0, 0) _ HB.out.row Tryd.underlying26 rfl (IB.out _) ?_)
    refine (HID.out _ K1.out).mono ?_
    rintro e w2 ⟨rfl, k⟩
    have A2 := Lib.hid (HA.out.kept k (fun f => f))
    have B2 := Lib.hid (HB.out.kept k (fun f => f))
    have K3 := Lib.hid (K1.out.trans k (fun _ _ f => f))
    clear k
    go_wp2_with ((with_reducible refine at_store 5 10 ?_); refine wpList_store_fresh rfl 23 _ _ rfl (U8s (orId b 30)).toArray rfl rfl 23 _ II.out (by rw [List.size_toArray, List.size_toArray, U8s_length, U8s_length, (orId_nm b 30).len]; rfl) (all_oneCell_toArray (U8s_one _)) ?_; intro w3 k3 m3 s3; have M3 := Lib.hid (show w3.heap[w2.heap.size]? = some (.cells (U8s (orId b 30)).toArray 23 (0, 0)) from m3); have A3 := Lib.hid (A2.out.kept k3 (fun f => f)); have B3 := Lib.hid (B2.out.kept k3 (fun f => f)); have K4 := Lib.hid (K3.out.trans k3 (fun _ _ f => f)); clear m3 s3 k3)
    go_ret
    exact ⟨rfl, K4.out⟩
end Go.Proofs.YtoognhbdgdfkoaaDoor
