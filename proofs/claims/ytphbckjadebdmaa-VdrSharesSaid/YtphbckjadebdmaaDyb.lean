/-
  Shares, the document's: AtLeast and Need.
-/
import Derived.Test.YtphbckjadebdmaaDya
namespace Go.Proofs.Ytphbckjadebdmaa
open Go.RowKit

theorem two_rows (w : World) (T : Nat) (la lb z : List Int) : ((((w.alloc (.cells (wCs z).toArray T)).alloc (.cells (wCs z).toArray T)).setRow w.heap.size (wCs la).toArray).setRow (w.heap.size + 1) (wCs lb).toArray).heap[w.heap.size]? = some (.cells (wCs la).toArray T (0, 0)) ∧
    ((((w.alloc (.cells (wCs z).toArray T)).alloc (.cells (wCs z).toArray T)).setRow w.heap.size (wCs la).toArray).setRow (w.heap.size + 1) (wCs lb).toArray).heap[w.heap.size + 1]? = some (.cells (wCs lb).toArray T (0, 0)) ∧
    Kp (fun _ => False) w ((((w.alloc (.cells (wCs z).toArray T)).alloc (.cells (wCs z).toArray T)).setRow w.heap.size (wCs la).toArray).setRow (w.heap.size + 1) (wCs lb).toArray) := by
  have b9 := old_blk (new_blk w (.cells (wCs z).toArray T)) (.cells (wCs z).toArray T)
  have b10 := new_blk (w.alloc (.cells (wCs z).toArray T)) (.cells (wCs z).toArray T)
  rw [World.size_alloc] at b10
  have c9 := st_row_blk (cs := (wCs la).toArray) b9
  have kA := st_row_kp (F := fun q => q = w.heap.size) (Kp.refl _ ((w.alloc (.cells (wCs z).toArray T)).alloc (.cells (wCs z).toArray T))) (fun _ => rfl) (wCs la).toArray
  have c10 := st_row_blk (cs := (wCs lb).toArray) (kept_blk b10 kA (by omega))
  have kB := st_row_kp (F := fun q => q = w.heap.size + 1) (Kp.refl _ (((w.alloc (.cells (wCs z).toArray T)).alloc (.cells (wCs z).toArray T)).setRow w.heap.size (wCs la).toArray)) (fun _ => rfl) (wCs lb).toArray
  exact ⟨kept_blk c9 kB (by omega), c10, st_row_kp (st_row_kp (((Kp.refl _ w).alloc _).alloc _) (fun h => absurd h (by omega)) _) (fun h => absurd h (by omega)) _⟩
theorem zero6 : Array.replicate 6 (Value.int .i64 0) = (wCs [0, 0, 0, 0, 0, 0]).toArray := rfl

set_option maxRecDepth 100000 in
set_option maxHeartbeats 4000000 in
theorem ratLeast_any (s t n d : Int) (hs : s ≤ 9223372036854775807) (ht : t ≤ 9223372036854775807) (hn : n ≤ 9223372036854775807) (hd : d ≤ 9223372036854775807) (w : World) :
    Calls Try.prog 30 #[.int .i64 s, .int .i64 t, .int .i64 n, .int .i64 d] w fun e w' => e = .returned (.bool (atLeastB s t n d)) ∧ Kp (fun _ => False) w w' := by
  have HN := Lib.hid (fun h => atLeastB_no (s := s) (t := t) (n := n) (d := d) h)
  obtain ⟨z, hz⟩ : ∃ z, z = atLeastB s t n d := ⟨_, rfl⟩
  rw [← hz] at HN ⊢
  have HZ := Lib.hid hz
  clear hz
  by_cases h1 : s < 0
  · have HF := Lib.hid (HN.out (.inl h1))
    go_enter Try.func30, Try.ntmps30
    go_wp2
    go_ret
    exact ⟨by rw [HF.out]; rfl, Kp.refl _ _⟩
  by_cases h2 : t < 0
  · have HF := Lib.hid (HN.out (.inr (.inl h2)))
    go_enter Try.func30, Try.ntmps30
    go_wp2
    go_ret
    exact ⟨by rw [HF.out]; rfl, Kp.refl _ _⟩
  by_cases h3 : n < 0
  · have HF := Lib.hid (HN.out (.inr (.inr (.inl h3))))
    go_enter Try.func30, Try.ntmps30
    go_wp2
    go_ret
    exact ⟨by rw [HF.out]; rfl, Kp.refl _ _⟩
  by_cases h4 : d < 1
  · have HF := Lib.hid (HN.out (.inr (.inr (.inr (by omega)))))
    go_enter Try.func30, Try.ntmps30
    go_wp2
    go_ret
    exact ⟨by rw [HF.out]; rfl, Kp.refl _ _⟩
  have HM1 := Lib.hid (fun w => rtimes_any s d (by omega) hs (by omega) hd w)
  have HM2 := Lib.hid (fun w => rtimes_any t n (by omega) ht (by omega) hn w)
  have HY := Lib.hid (fun (h : t * n ≤ s * d) => (show z = true by rw [HZ.out]; exact decide_eq_true ⟨by omega, by omega, by omega, by omega, h⟩))
  have HX := Lib.hid (fun (h : ¬ t * n ≤ s * d) => (show z = false by rw [HZ.out]; exact decide_eq_false (fun h' => h h'.2.2.2.2)))
  clear HN HZ
  go_enter Try.func30, Try.ntmps30
  go_wp2_with fail
  refine (HM1.out _).mono ?_
  rintro e w2 ⟨la, rfl, hl1, hd1, hv1, k2⟩
  have K2 := Lib.hid k2
  have D1 := Lib.hid hd1
  have V1 := Lib.hid hv1
  clear k2 hd1 hv1
  go_wp2_with fail
  refine (HM2.out _).mono ?_
  rintro e w3 ⟨lb, rfl, hl2, hd2, hv2, k3⟩
  have K3 := Lib.hid (K2.out.trans k3 (fun _ _ f => f))
  have D2 := Lib.hid hd2
  have V2 := Lib.hid hv2
  have I1 := Lib.hid (info6 la hl1)
  have I2 := Lib.hid (info6 lb hl2)
  have b9 := old_blk (new_blk w3 (.cells (wCs [0, 0, 0, 0, 0, 0]).toArray 65)) (.cells (wCs [0, 0, 0, 0, 0, 0]).toArray 65)
  have b10 := new_blk (w3.alloc (.cells (wCs [0, 0, 0, 0, 0, 0]).toArray 65)) (.cells (wCs [0, 0, 0, 0, 0, 0]).toArray 65)
  rw [World.size_alloc] at b10
  have B9 := Lib.hid b9
  have B10 := Lib.hid b10
  have B10' := Lib.hid (show ((((w3.alloc (.cells (wCs [0, 0, 0, 0, 0, 0]).toArray 65)).alloc (.cells (wCs [0, 0, 0, 0, 0, 0]).toArray 65)).setRow w3.heap.size (wCs la).toArray).heap[w3.heap.size + 1]?) = some (.cells (wCs [0, 0, 0, 0, 0, 0]).toArray 65 (0, 0)) by
    rw [(st_row_kp (F := fun q => q = w3.heap.size) (Kp.refl _ _) (fun _ => rfl) (wCs la).toArray).block _ (lt_of_blk b10) (by omega)]; exact b10)
  clear k3 hd2 hv2 b9 b10
  go_wp2_with (first
    | ((with_reducible refine at_store 9 28 ?_); refine wpList_store_row rfl 65 _ _ rfl w3.heap.size (wCs la).toArray rfl rfl 65 _ B9.out I1.out (by rw [List.size_toArray, List.size_toArray, wCs, wCs, List.length_map, List.length_map, hl1]; rfl) (wCs_one _) ?_)
    | ((with_reducible refine at_store 10 31 ?_); refine wpList_store_row rfl 65 _ _ rfl (w3.heap.size + 1) (wCs lb).toArray rfl rfl 65 _ B10'.out I2.out (by rw [List.size_toArray, List.size_toArray, wCs, wCs, List.length_map, List.length_map, hl2]; rfl) (wCs_one _) ?_))
  obtain ⟨r1, r2, r3⟩ := two_rows w3 65 la lb [0, 0, 0, 0, 0, 0]
  show Code.wp _ _ _ _ ((((w3.alloc (.cells (wCs [0, 0, 0, 0, 0, 0]).toArray 65)).alloc (.cells (wCs [0, 0, 0, 0, 0, 0]).toArray 65)).setRow w3.heap.size (wCs la).toArray).setRow (w3.heap.size + 1) (wCs lb).toArray)
  obtain ⟨W, hW⟩ : ∃ W, W = ((((w3.alloc (.cells (wCs [0, 0, 0, 0, 0, 0]).toArray 65)).alloc (.cells (wCs [0, 0, 0, 0, 0, 0]).toArray 65)).setRow w3.heap.size (wCs la).toArray).setRow (w3.heap.size + 1) (wCs lb).toArray) := ⟨_, rfl⟩
  rw [← hW] at r1 r2 r3 ⊢
  have KW := Lib.hid (K3.out.trans r3 (fun _ _ f => f))
  have R1 := Lib.hid r1
  have R2 := Lib.hid r2
  obtain ⟨g0, hg0⟩ : ∃ g, g = w3.heap.size := ⟨_, rfl⟩
  rw [← hg0] at R1 R2 ⊢
  clear hW r1 r2 r3 B9 B10 B10' hg0
  go_loopw [11] (fun i wr => ∃ j : Int, i = .int .i64 j ∧ (-1 ≤ j ∧ j ≤ 5) ∧ Hid (la.drop (j + 1).toNat = lb.drop (j + 1).toNat) ∧ Hid (Kp (fun _ => False) W wr)) (fun i _ => (intOf i + 1).toNat)
  case atStart => exact ⟨5, rfl, by omega, Lib.hid (by rw [show ((5 : Int) + 1).toNat = 6 by omega, List.drop_of_length_le (by omega), List.drop_of_length_le (by omega)]), Lib.hid (Kp.refl _ _)⟩
  case round =>
    obtain ⟨j, rfl, ⟨hj0, hj1⟩, hdr, hkp⟩ := hrel
    have HK := Lib.hid (KW.out.trans hkp.out (fun _ _ f => f))
    by_cases hneg : j < 0
    · have HF := Lib.hid (show z = true by
        have h := hdr.out
        rw [show (j + 1).toNat = 0 by omega, List.drop_zero, List.drop_zero] at h
        refine HY.out ?_
        rw [← V1.out, ← V2.out, h]
        exact Int.le_refl _)
      go_wp2
      go_ret
      exact ⟨by rw [HF.out]; rfl, HK.out⟩
    · obtain ⟨m, rfl⟩ : ∃ m : Nat, j = m := ⟨j.toNat, by omega⟩
      obtain ⟨x, hx⟩ : ∃ x, la[m]? = some x := ⟨la[m]'(by omega), List.getElem?_eq_getElem _⟩
      obtain ⟨y, hy⟩ : ∃ y, lb[m]? = some y := ⟨lb[m]'(by omega), List.getElem?_eq_getElem _⟩
      have c1 : wr.cell? ⟨g0, m, none⟩ = some (.int .i64 x) := by rw [cell_blk (kept_blk R1.out hkp.out (fun f => f)), List.getElem?_toArray]; exact wCs_get hx
      have c2 : wr.cell? ⟨g0 + 1, m, none⟩ = some (.int .i64 y) := by rw [cell_blk (kept_blk R2.out hkp.out (fun f => f)), List.getElem?_toArray]; exact wCs_get hy
      have p1 : (m : Int) < 6 := by omega
      have hdm := hdr.out
      rw [show ((m : Int) + 1).toNat = m + 1 by omega] at hdm
      by_cases hxy : x = y
      · have hxy' : (x != y) = false := by simp [hxy]
        have HD := Lib.hid (show la.drop m = lb.drop m by
          rw [drop_at hx, drop_at hy, hdm, hxy])
        clear hx hy hdm hxy
        go_wp2_with (go_quiet (fail))
        go_roundw
        case rel => exact ⟨(m : Int) - 1, rfl, by omega, Lib.hid (by rw [show ((m : Int) - 1 + 1).toNat = m by omega]; exact HD.out), Lib.hid (hkp.out.drewN _)⟩
        case measure => first | (simp [intOf]; done) | (simp [intOf]; omega)
      · have hxy' : (x != y) = true := by simp [hxy]
        by_cases hgt : y < x
        · have HF := Lib.hid (show z = true by
            have := valL_lex D1.out D2.out hx hy hdm hgt
            rw [V1.out, V2.out] at this
            exact HY.out (by omega))
          clear hx hy hdm hxy
          go_wp2_with (go_quiet (fail))
          go_ret
          exact ⟨by first | (rw [HF.out]; done) | (rw [HF.out]; rfl) | (rw [HF.out]; simp [hgt]), HK.out.drewN _⟩
        · have HF := Lib.hid (show z = false by
            have := valL_lex D2.out D1.out hy hx hdm.symm (by omega)
            rw [V1.out, V2.out] at this
            exact HX.out (by omega))
          clear hx hy hdm
          go_wp2_with (go_quiet (fail))
          go_ret
          exact ⟨by first | (rw [HF.out]; done) | (rw [HF.out]; rfl) | (rw [HF.out]; simp [hgt]), HK.out.drewN _⟩
theorem atLeast_iff {t n d m : Int} (h : ¬ (t < 0 ∨ n < 0 ∨ d < 1 ∨ d < n)) (hm : 0 ≤ m) : atLeastB m t n d = decide (needI t n d ≤ m) := by
  have e : needI t n d = (t * n + d - 1) / d := if_neg h
  rw [e]
  unfold atLeastB
  have hd : 0 < d := by omega
  have ht0 : 0 ≤ t := by omega
  have hn0 : 0 ≤ n := by omega
  have h1 := Int.mul_ediv_add_emod (t * n + d - 1) d
  have h2 := Int.emod_nonneg (t * n + d - 1) (show d ≠ 0 by omega)
  have h3 := Int.emod_lt_of_pos (t * n + d - 1) hd
  clear h e
  rw [Bool.eq_iff_iff, decide_eq_true_eq, decide_eq_true_eq]
  generalize (t * n + d - 1) / d = c at *
  generalize (t * n + d - 1) % d = r at *
  constructor
  · rintro ⟨_, _, _, _, h5⟩
    rcases Int.lt_or_le m c with hlt | hle
    · have h6 := Int.mul_le_mul_of_nonneg_left (show m + 1 ≤ c by omega) (show 0 ≤ d by omega)
      rw [Int.mul_add, Int.mul_one, Int.mul_comm d m] at h6
      omega
    · exact hle
  · intro h5
    refine ⟨hm, ht0, hn0, hd, ?_⟩
    have := Int.mul_le_mul_of_nonneg_left h5 (show 0 ≤ d by omega)
    rw [Int.mul_comm m d]
    omega

theorem needI_rng {t n d : Int} (h : ¬ (t < 0 ∨ n < 0 ∨ d < 1 ∨ d < n)) : 0 ≤ needI t n d ∧ needI t n d ≤ t := by
  obtain ⟨T, rfl⟩ : ∃ T : Nat, t = T := ⟨t.toNat, by omega⟩
  obtain ⟨N, rfl⟩ : ∃ N : Nat, n = N := ⟨n.toNat, by omega⟩
  obtain ⟨D, rfl⟩ : ∃ D : Nat, d = D := ⟨d.toNat, by omega⟩
  obtain ⟨e1, e2, e3⟩ := needI_nat T N D (by omega) (by omega)
  obtain ⟨q, hq⟩ : ∃ q, q = T * N / D := ⟨_, rfl⟩
  rw [← hq] at e1 e2 e3
  rw [e1]
  clear e1 hq
  by_cases h0 : T * N % D = 0
  · rw [if_pos h0]; omega
  · rw [if_neg h0]
    have := e3 h0
    omega

set_option maxRecDepth 100000 in
set_option maxHeartbeats 1600000 in
theorem rneed_any (t n d : Int) (ht : t ≤ 9223372036854775807) (hn : n ≤ 9223372036854775807) (hd : d ≤ 9223372036854775807) (w : World) :
    Calls Try.prog 32 #[.int .i64 t, .int .i64 n, .int .i64 d] w fun e w' => e = .returned (.int .i64 (needI t n d)) ∧ Kp (fun _ => False) w w' := by
  have HN := Lib.hid (fun h => needI_no (t := t) (n := n) (d := d) h)
  by_cases h2 : t < 0
  · rw [HN.out (.inl h2)]
    go_enter Try.func32, Try.ntmps32
    go_wp2
    go_ret
    exact ⟨rfl, Kp.refl _ _⟩
  by_cases h3 : n < 0
  · rw [HN.out (.inr (.inl h3))]
    go_enter Try.func32, Try.ntmps32
    go_wp2
    go_ret
    exact ⟨rfl, Kp.refl _ _⟩
  by_cases h4 : d < 1
  · rw [HN.out (.inr (.inr (.inl h4)))]
    go_enter Try.func32, Try.ntmps32
    go_wp2
    go_ret
    exact ⟨rfl, Kp.refl _ _⟩
  by_cases h5 : d < n
  · rw [HN.out (.inr (.inr (.inr h5)))]
    go_enter Try.func32, Try.ntmps32
    go_wp2
    go_ret
    exact ⟨rfl, Kp.refl _ _⟩
  have hgood : ¬ (t < 0 ∨ n < 0 ∨ d < 1 ∨ d < n) := by omega
  obtain ⟨hc0, hc1⟩ := needI_rng hgood
  have HAL := Lib.hid (fun (m : Int) (h0 : 0 ≤ m) (h1 : m ≤ 9223372036854775807) w => by
    have := ratLeast_any m t n d h1 ht hn hd w
    rw [atLeast_iff hgood h0] at this
    exact this)
  obtain ⟨c, hc⟩ : ∃ c, c = needI t n d := ⟨_, rfl⟩
  rw [← hc] at hc0 hc1 HAL ⊢
  clear HN hc
  go_enter Try.func32, Try.ntmps32
  go_wp2
  go_loopw [7, 8] (fun l h wr => ∃ lo hi : Int, l = .int .i64 lo ∧ h = .int .i64 hi ∧ (0 ≤ lo ∧ lo ≤ c ∧ c ≤ hi ∧ hi ≤ t) ∧ Hid (Kp (fun _ => False) w wr)) (fun l h _ => (intOf h - intOf l).toNat)
  case atStart => exact ⟨0, t, rfl, rfl, by omega, Lib.hid (Kp.refl _ _)⟩
  case round =>
    obtain ⟨lo, hi, rfl, rfl, ⟨i1, i2, i3, i4⟩, hkp⟩ := hrel
    by_cases hlt : lo < hi
    · have et : (hi - lo).tdiv 2 = (hi - lo) / 2 := Int.tdiv_eq_ediv_of_nonneg (by omega)
      obtain ⟨m, hm⟩ : ∃ m, m = lo + (hi - lo) / 2 := ⟨_, rfl⟩
      have hm0 : lo ≤ m := by omega
      have hm1 : m < hi := by omega
      have em : lo + (hi - lo) / 2 = m := hm.symm
      have hq : 0 ≤ (hi - lo) / 2 ∧ (hi - lo) / 2 ≤ 9223372036854775807 := by omega
      clear hm
      go_wp2_with fail
      refine (HAL.out m (by omega) (by omega) _).mono ?_
      rintro e w2 ⟨rfl, k2⟩
      have K2 := Lib.hid (hkp.out.trans k2 (fun _ _ f => f))
      clear k2
      by_cases hcm : c ≤ m
      · rw [decide_eq_true hcm]
        go_wp2_with fail
        go_roundw
        case rel => exact ⟨lo, m, rfl, rfl, by omega, K2⟩
        case measure => simp [intOf]; omega
      · rw [decide_eq_false hcm]
        go_wp2_with fail
        go_roundw
        case rel => exact ⟨m + 1, hi, rfl, rfl, by omega, K2⟩
        case measure => simp [intOf]; omega
    · obtain rfl : lo = c := by omega
      go_wp2
      go_ret
      exact ⟨rfl, hkp.out⟩
end Go.Proofs.Ytphbckjadebdmaa
