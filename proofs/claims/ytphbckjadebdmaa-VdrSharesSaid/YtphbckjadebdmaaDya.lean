/-
  Shares, the document's: the walk of its product.
-/
import Derived.Test.YtphbckjadebdmaaDy
namespace Go.Proofs.Ytphbckjadebdmaa
open Go.RowKit

theorem info3 (l : List Int) (h : l.length = 3) : (Try.prog.info? 69).map (·.size) = some (wCs l).toArray.size := by
  rw [List.size_toArray, wCs, List.length_map, h]; kernel_rfl
theorem info6 (l : List Int) (h : l.length = 6) : (Try.prog.info? 65).map (·.size) = some (wCs l).toArray.size := by
  rw [List.size_toArray, wCs, List.length_map, h]; kernel_rfl

theorem four_blk (w : World) (o0 o1 o2 o3 : Obj) : ((((w.alloc o0).alloc o1).alloc o2).alloc o3).heap[w.heap.size]? = some o0 ∧ ((((w.alloc o0).alloc o1).alloc o2).alloc o3).heap[w.heap.size + 1]? = some o1 ∧
    ((((w.alloc o0).alloc o1).alloc o2).alloc o3).heap[w.heap.size + 1 + 1]? = some o2 ∧ ((((w.alloc o0).alloc o1).alloc o2).alloc o3).heap[w.heap.size + 1 + 1 + 1]? = some o3 ∧ Kp (fun _ => False) w ((((w.alloc o0).alloc o1).alloc o2).alloc o3) := by
  have n0 := new_blk w o0
  have n1 := new_blk (w.alloc o0) o1
  have n2 := new_blk ((w.alloc o0).alloc o1) o2
  have n3 := new_blk (((w.alloc o0).alloc o1).alloc o2) o3
  simp only [World.size_alloc] at n1 n2 n3
  exact ⟨old_blk (old_blk (old_blk n0 o1) o2) o3, old_blk (old_blk n1 o2) o3, old_blk n2 o3, n3, ((((Kp.refl _ w).alloc _).alloc _).alloc _).alloc _⟩

set_option maxRecDepth 100000 in
set_option maxHeartbeats 4000000 in
theorem rtimes_any (a b : Int) (ha0 : 0 ≤ a) (ha1 : a ≤ 9223372036854775807) (hb0 : 0 ≤ b) (hb1 : b ≤ 9223372036854775807) (w : World) :
    Calls Try.prog 42 #[.int .i64 a, .int .i64 b] w fun e w' => ∃ l, e = .returned (.agg (wCs l).toArray) ∧ l.length = 6 ∧ Dig l ∧ valL l = a * b ∧ Kp (fun _ => False) w w' := by
  have ea1 : a.tmod 2147483648 = a % 2147483648 := Int.tmod_eq_emod_of_nonneg ha0
  have ea2 : (a / 2147483648).tmod 2147483648 = a / 2147483648 % 2147483648 := Int.tmod_eq_emod_of_nonneg (Int.ediv_nonneg ha0 (by omega))
  have eb1 : b.tmod 2147483648 = b % 2147483648 := Int.tmod_eq_emod_of_nonneg hb0
  have eb2 : (b / 2147483648).tmod 2147483648 = b / 2147483648 % 2147483648 := Int.tmod_eq_emod_of_nonneg (Int.ediv_nonneg hb0 (by omega))
  go_enter Try.func42, Try.ntmps42
  go_wp2
  obtain ⟨f0, f1, f2, f3, fk⟩ := four_blk w (.cells (wCs [0, 0, 0, 0, 0, 0]).toArray 65) (.cells (wCs (w3 a)).toArray 69) (.cells (wCs (w3 b)).toArray 69) (.cells (wCs [0, 0, 0, 0, 0, 0]).toArray 65)
  have H0 := Lib.hid f0
  have H1 := Lib.hid f1
  have H2 := Lib.hid f2
  have H3 := Lib.hid f3
  have K0 := Lib.hid fk
  clear f0 f1 f2 f3 fk
  show Code.wp _ _ _ _ ((((w.alloc (.cells (wCs [0, 0, 0, 0, 0, 0]).toArray 65)).alloc (.cells (wCs (w3 a)).toArray 69)).alloc (.cells (wCs (w3 b)).toArray 69)).alloc (.cells (wCs [0, 0, 0, 0, 0, 0]).toArray 65))
  obtain ⟨W0, hW0⟩ : ∃ W0, W0 = (((w.alloc (.cells (wCs [0, 0, 0, 0, 0, 0]).toArray 65)).alloc (.cells (wCs (w3 a)).toArray 69)).alloc (.cells (wCs (w3 b)).toArray 69)).alloc (.cells (wCs [0, 0, 0, 0, 0, 0]).toArray 65) := ⟨_, rfl⟩
  rw [← hW0] at H0 H1 H2 H3 K0 ⊢
  obtain ⟨g0, hg0⟩ : ∃ g, g = w.heap.size := ⟨_, rfl⟩
  rw [← hg0] at H0 H1 H2 H3 ⊢
  have hwg : w.heap.size ≤ g0 := by omega
  clear hW0 ea1 ea2 eb1 eb2 hg0
  have HX := Lib.hid (w3_dig a ha0 ha1)
  have HY := Lib.hid (w3_dig b hb0 hb1)
  obtain ⟨xs, hxs⟩ : ∃ xs, xs = w3 a := ⟨_, rfl⟩
  obtain ⟨ys, hys⟩ : ∃ ys, ys = w3 b := ⟨_, rfl⟩
  have hxl : xs.length = 3 := by rw [hxs]; rfl
  have hyl : ys.length = 3 := by rw [hys]; rfl
  have HXV := Lib.hid (show valL xs = a by rw [hxs]; exact w3_val a)
  have HYV := Lib.hid (show valL ys = b by rw [hys]; exact w3_val b)
  rw [← hxs] at H1 HX
  rw [← hys] at H2 HY
  clear hxs hys
  go_loopw [8] (fun i wr => ∃ (n : Nat) (out : List Int), n ≤ 3 ∧ i = .int .i64 n ∧ Hid (Row a b xs ys n 0 out 0) ∧ Hid (wr.heap[g0 + 1 + 1 + 1]? = some (.cells (wCs out).toArray 65 (0, 0))) ∧ Hid (Kp (fun q => q = g0 + 1 + 1 + 1) W0 wr)) (fun i _ => 3 - (intOf i).toNat)
  case atStart => exact ⟨0, _, by omega, rfl, Lib.hid (Row.start a b xs ys), Lib.hid H3.out, Lib.hid (Kp.refl _ _)⟩
  case round =>
    obtain ⟨n, out, hn, rfl, hrow, hblk, hkp⟩ := hrel
    by_cases hn3 : n < 3
    · obtain ⟨x, hx⟩ : ∃ x, xs[n]? = some x := ⟨xs[n]'(by omega), List.getElem?_eq_getElem _⟩
      have HXN := Lib.hid hx
      have HXD := Lib.hid (HX.out n x hx)
      clear hx
      go_wp2
      obtain ⟨w1, hw1⟩ : ∃ w1, w1 = wr := ⟨_, rfl⟩
      rw [← hw1] at hblk hkp ⊢
      clear hw1
      go_loopw [9, 10] (fun cv i wr => ∃ (m : Nat) (out : List Int) (carry : Int), m ≤ 3 ∧ i = .int .i64 m ∧ cv = .int .i64 carry ∧ Hid (Row a b xs ys n m out carry) ∧ Hid (wr.heap[g0 + 1 + 1 + 1]? = some (.cells (wCs out).toArray 65 (0, 0))) ∧ Hid (Kp (fun q => q = g0 + 1 + 1 + 1) W0 wr)) (fun _ i _ => 3 - (intOf i).toNat)
      case atStart => exact ⟨0, out, 0, by omega, rfl, rfl, hrow, hblk, hkp⟩
      case round =>
        obtain ⟨m, o2, carry, hm, rfl, rfl, hrow2, hblk2, hkp2⟩ := hrel
        by_cases hm3 : m < 3
        · obtain ⟨y, hy⟩ : ∃ y, ys[m]? = some y := ⟨ys[m]'(by omega), List.getElem?_eq_getElem _⟩
          have hol := hrow2.out.len
          obtain ⟨o, ho⟩ : ∃ o, o2[n + m]? = some o := ⟨o2[n + m]'(by omega), List.getElem?_eq_getElem _⟩
          obtain ⟨s1, s2, s3, s4⟩ := hrow2.out.step ho HXN.out hy hm3 HXD.out (HY.out m y hy)
          have c1 : wr.cell? ⟨g0 + 1, n, none⟩ = some (.int .i64 x) := by
            rw [cell_blk (kept_blk H1.out hkp2.out (by omega)), List.getElem?_toArray]; exact wCs_get HXN.out
          have c2 : wr.cell? ⟨g0 + 1 + 1, m, none⟩ = some (.int .i64 y) := by
            rw [cell_blk (kept_blk H2.out hkp2.out (by omega)), List.getElem?_toArray]; exact wCs_get hy
          have c3 : wr.cell? ⟨g0 + 1 + 1 + 1, n + m, none⟩ = some (.int .i64 o) := by
            rw [cell_blk hblk2.out, List.getElem?_toArray]; exact wCs_get ho
          have c4 : wr.frozen? ⟨g0 + 1 + 1 + 1, n + m, none⟩ = false := free_blk hblk2.out _
          have hc0 := hrow2.out.c0
          have hc1 := hrow2.out.c1
          have ho1 := (hrow2.out.dig _ _ ho).2
          obtain ⟨P, hP⟩ : ∃ P, P = x * y := ⟨_, rfl⟩
          rw [← hP] at s1 s3 s4
          have mP : IntKind.i64.wrap (x * y) = P := by rw [hP]; exact IntWalk.i64_in _ (by rw [← hP]; omega)
          obtain ⟨v, hv⟩ : ∃ v, v = o + carry + P := ⟨_, rfl⟩
          rw [← hv] at s3 s4
          have mv : o + carry + P = v := hv.symm
          have hv0 : 0 ≤ v := by omega
          have mt : v.tmod 2147483648 = v % 2147483648 := Int.tmod_eq_emod_of_nonneg hv0
          have hb2 := set_blk hblk2.out (n + m) (.int .i64 (v % 2147483648))
          rw [wCs_set] at hb2
          have HB2 := Lib.hid hb2
          have HR2 := Lib.hid s4
          have HK2 := Lib.hid (show Kp (fun q => q = g0 + 1 + 1 + 1) W0 (wr.setCell ⟨g0 + 1 + 1 + 1, n + m, none⟩ (.int .i64 (v % 2147483648))) from hkp2.out.setCell (fun _ => rfl) _)
          have p0 : (0 : Int) ≤ (n : Int) + (m : Int) := by omega
          have p1 : (n : Int) + (m : Int) < 6 := by omega
          have p2 : ((n : Int) + (m : Int)).toNat = n + m := by omega
          clear hP hv hb2 s4 ho hy hol
          go_wp2_with (go_quiet (fail))
          go_roundw
          case rel => exact ⟨m + 1, _, _, by omega, by go_num, rfl, HR2, Lib.hid HB2.out, Lib.hid ((hkp2.out.drewN _).setCell (fun _ => rfl) _)⟩
          case measure => simp [intOf]; omega
        · obtain rfl : m = 3 := by omega
          have hrow3 := hrow2.out.done HXN.out hn3 HYV.out hyl
          have hol := hrow2.out.len
          obtain ⟨o, ho⟩ : ∃ o, o2[n + 3]? = some o := ⟨o2[n + 3]'(by omega), List.getElem?_eq_getElem _⟩
          have c3 : wr.cell? ⟨g0 + 1 + 1 + 1, n + 3, none⟩ = some (.int .i64 o) := by
            rw [cell_blk hblk2.out, List.getElem?_toArray]; exact wCs_get ho
          have c4 : wr.frozen? ⟨g0 + 1 + 1 + 1, n + 3, none⟩ = false := free_blk hblk2.out _
          have hb2 := set_blk hblk2.out (n + 3) (.int .i64 carry)
          rw [wCs_set] at hb2
          have HB2 := Lib.hid hb2
          have HR2 := Lib.hid hrow3
          have p0 : (0 : Int) ≤ (n : Int) + 3 := by omega
          have p1 : (n : Int) + 3 < 6 := by omega
          have p2 : ((n : Int) + 3).toNat = n + 3 := by omega
          clear hb2 hrow3 ho hol
          go_wp2
          go_roundw
          case rel => exact ⟨n + 1, _, by omega, by go_num, HR2, Lib.hid HB2.out, Lib.hid (hkp2.out.setCell (fun _ => rfl) _)⟩
          case measure => simp [intOf]; omega
    · obtain rfl : n = 3 := by omega
      have hl := hrow.out.len
      have hv : valL out = a * b := by
        have := hrow.out.val
        rw [show xs.take 3 = xs from List.take_of_length_le (by omega), HXV.out] at this
        simp [valL] at this
        exact this
      have HRES := Lib.hid (And.intro hl (And.intro hrow.out.dig hv))
      have HL3 := Lib.hid hblk.out
      have HL0 := Lib.hid (kept_blk H0.out hkp.out (by omega))
      have I6 := Lib.hid (info6 out hl)
      clear hv
      go_wp2_with (first
        | ((with_reducible refine at_dst 63 ?_); refine wpList_load_row rfl 65 _ rfl (g0 + 1 + 1 + 1) rfl 65 _ (0, 0) _ HL3.out Try.underlying65 rfl I6.out ?_)
        | ((with_reducible refine at_store 4 63 ?_); refine wpList_store_row rfl 65 _ _ rfl g0 (wCs out).toArray rfl rfl 65 _ HL0.out I6.out (by rw [List.size_toArray, List.size_toArray, wCs, wCs, List.length_map, List.length_map, hl]; rfl) (wCs_one _) ?_))
      refine bodyPost_ret (v := .agg (wCs out).toArray) (results_cell_row Try.results42 _ _ g0 65 _ (0, 0) _ rfl (st_row_blk HL0.out) Try.underlying65 rfl I6.out) rfl ?_
      exact ⟨out, rfl, HRES.out.1, HRES.out.2.1, HRES.out.2.2, K0.out.trans (st_row_kp (F := fun q => q = g0 ∨ q = g0 + 1 + 1 + 1) (hkp.out.mono (fun _ _ e => .inr e)) (fun _ => .inl rfl) _) (fun q hq e => by omega)⟩
end Go.Proofs.Ytphbckjadebdmaa
