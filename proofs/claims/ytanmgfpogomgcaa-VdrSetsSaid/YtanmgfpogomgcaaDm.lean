/-
  Need at numbers whose product is small; the law's own live.
-/
import Derived.Test.YtanmgfpogomgcaaDk
import Derived.Shelf.Bits.Mul64
import Derived.Lib.Mul64
import Derived.Laws.Bits64b
namespace Go.Proofs.Ytanmgfpogomgcaa
open Go.RowKit Go.Lib

set_option maxRecDepth 100000 in
set_option maxHeartbeats 1600000 in
theorem mul64_any (x y : Nat) (hx : x < 18446744073709551616) (hy : y < 18446744073709551616) (w : World) :
    Calls Try.prog 26 #[.int .u64 x, .int .u64 y] w fun e w' => e = .returned (.tuple #[.int .u64 ((x * y / 18446744073709551616 : Nat) : Int), .int .u64 ((x * y % 18446744073709551616 : Nat) : Int)]) ∧ w' = w := by
  obtain ⟨bd, bt, bw, hhi⟩ := Lib.mul64_hi x y hx hy
  have ba := Lib.half_mul_le (a := x / 4294967296) (b := y / 4294967296) (by omega) (by omega)
  have bb := Lib.half_mul_le (a := x / 4294967296) (b := y % 4294967296) (by omega) (by omega)
  have bc := Lib.half_mul_le (a := x % 4294967296) (b := y / 4294967296) (by omega) (by omega)
  have ba' : x / 4294967296 * (y / 4294967296) < 18446744073709551616 := by omega
  have bb' : x / 4294967296 * (y % 4294967296) < 18446744073709551616 := by omega
  have bc' : x % 4294967296 * (y / 4294967296) < 18446744073709551616 := by omega
  have bh1 : x / 4294967296 * (y / 4294967296) + (x / 4294967296 * (y % 4294967296) + x % 4294967296 * (y % 4294967296) / 4294967296) / 4294967296 < 18446744073709551616 := by omega
  have bh : x / 4294967296 * (y / 4294967296) + (x / 4294967296 * (y % 4294967296) + x % 4294967296 * (y % 4294967296) / 4294967296) / 4294967296 + ((x / 4294967296 * (y % 4294967296) + x % 4294967296 * (y % 4294967296) / 4294967296) % 4294967296 + x % 4294967296 * (y / 4294967296)) / 4294967296 < 18446744073709551616 := by omega
  go_enter Try.func26, Try.ntmps26
  go_wp2
  simp only [Mul64.maskN x hx, Mul64.maskN y hy, Mul64.divN, Mul64.mulN, Mul64.addN, Mul64.wrapN _ bd, Mul64.wrapN _ bb', Mul64.wrapN _ bt, Mul64.maskN _ bt, Mul64.wrapN _ bc', Mul64.wrapN _ bw, Mul64.wrapN _ ba', Mul64.wrapN _ bh1, Mul64.wrapN _ bh, Mul64.wrapM (x * y)]
  rw [hhi]
  go_ret2
  exact ⟨rfl, rfl⟩

set_option maxRecDepth 100000 in
set_option maxHeartbeats 1600000 in
theorem div64_low (lo y : Int) (hy : 0 < y) (hlo : 0 ≤ lo) (w : World) (hy2 : y ≤ 18446744073709551615) (hlo2 : lo ≤ 18446744073709551615) :
    Calls Try.prog 27 #[.int .u64 0, .int .u64 lo, .int .u64 y] w fun e w' => e = .returned (.tuple #[.int .u64 (lo / y), .int .u64 (lo % y)]) ∧ Kp (fun _ => False) w w' := by
  have h1 : (y == 0) = false := by simp; omega
  have h2 : ¬ y ≤ 0 := by omega
  have h3 : y ≠ 0 := by omega
  have e1 : lo.tdiv y = lo / y := Int.tdiv_eq_ediv_of_nonneg hlo
  have e2 : lo.tmod y = lo % y := Int.tmod_eq_emod_of_nonneg hlo
  go_enter Try.func27, Try.ntmps27
  go_wp2_with (go_quiet (fail))
  rw [IntWalk.u64_in (lo / y) (by
    have h4 := Int.ediv_nonneg hlo (by omega : 0 ≤ y)
    have h5 := Int.ediv_le_self y hlo
    omega)]
  go_ret2
  exact ⟨rfl, (Kp.refl _ w).drewN _⟩

set_option maxRecDepth 100000 in
set_option maxHeartbeats 1600000 in
theorem needLive_any (w : World) : Calls Try.prog 17 #[.int .i64 4, .int .i64 2, .int .i64 3] w fun e w' => e = .returned (.int .i64 3) ∧ Kp (fun _ => False) w w' := by
  have HM := Lib.hid (fun w => mul64_any 4 2 (by omega) (by omega) w)
  have HD := Lib.hid (fun w => div64_low 8 3 (by omega) (by omega) w (by omega) (by omega))
  go_enter Try.func17, Try.ntmps17
  go_wp2_with fail
  refine (HM.out _).mono ?_
  rintro e w2 ⟨rfl, rfl⟩
  go_wp2_with fail
  refine (HD.out _).mono ?_
  rintro e w3 ⟨rfl, k3⟩
  have K3 := Lib.hid k3
  clear k3
  go_wp2_with fail
  go_ret
  exact ⟨rfl, K3.out⟩

/-- the chapter's two validators -/
def anaV : Vd := ⟨⟨#[97, 110, 97]⟩, 3⟩
def boV : Vd := ⟨⟨#[98, 195, 182, 45, 50]⟩, 1⟩
def twoV : List Vd := [anaV, boV]
theorem mkTwo (w : World) : (Instr.buildSlice 22 2 #[(0, .agg (vdC anaV).toArray), (1, .agg (vdC boV).toArray)]).run Try.prog w = .ok (.slice (some ⟨w.heap.size, 0, none⟩) 2 2) (w.alloc (.cells (vdCs twoV).toArray 31)) := by kernel_rfl
theorem two_sees (w : World) : SeesV (w.alloc (.cells (vdCs twoV).toArray 31)) (.slice (some ⟨w.heap.size, 0, none⟩) 2 2) twoV :=
  OwnG.seesV (B := w.heap.size) ⟨vdCs_length _, .inr ⟨w.heap.size, 2, [], rfl, Nat.le_refl _, by rw [List.append_nil]; exact new_blk _ _, rfl, Nat.le_refl _, by unfold maxLen; omega⟩⟩
theorem twoV_ok : VOk twoV := by
  intro x hx
  rcases List.mem_cons.1 hx with rfl | hx
  · exact ⟨by decide, by decide, by decide⟩
  · obtain rfl := List.mem_singleton.1 hx
    exact ⟨by decide, by decide, by decide⟩
theorem two_check : checkE twoV = 0 := by decide +kernel
theorem two_total : totalV twoV = 4 := by decide +kernel
theorem two_at2 : atV twoV 2 = 0 := by decide +kernel
theorem two_at3 : atV twoV 3 = 1 := by decide +kernel
theorem bo_runes : Lib.runeCount ⟨#[98, 195, 182]⟩ = 2 := by decide +kernel

set_option maxRecDepth 100000 in
set_option maxHeartbeats 1600000 in
theorem two_any (w : World) : Calls Try.prog 15 #[] w fun e w' => ∃ g, e = .returned (.slice (some ⟨g, 0, none⟩) 2 2) ∧ SeesV w' (.slice (some ⟨g, 0, none⟩) 2 2) twoV ∧ Kp (fun _ => False) w w' := by
  have HT := Lib.hid (mkTwo w)
  go_enter Try.func15, Try.ntmps15
  go_wp2_with ((with_reducible refine at_dst 3 ?_); refine wpList_slice_run rfl 22 2 _ rfl _ rfl _ _ HT.out ?_)
  go_ret
  exact ⟨_, rfl, two_sees w, (Kp.refl _ _).alloc _⟩

set_option maxRecDepth 100000 in
set_option maxHeartbeats 1600000 in
theorem vlive_any (w : World) : Calls Try.prog 4 #[] w fun e w' => e = .returned (.bool true) ∧ Kp (fun _ => False) w w' := by
  have H2 := Lib.hid (fun w => two_any w)
  have HC := Lib.hid (fun v w (h : SeesV w v twoV) => by have := check_any h twoV_ok; rw [two_check] at this; exact this)
  have HT := Lib.hid (fun v w (h : SeesV w v twoV) => by have := total_any h twoV_ok; rw [two_total] at this; exact this)
  have HA2 := Lib.hid (fun v w (h : SeesV w v twoV) => by have := at_any h twoV_ok 2 (by omega); rw [two_at2] at this; exact this)
  have HA3 := Lib.hid (fun v w (h : SeesV w v twoV) => by have := at_any h twoV_ok 3 (by omega); rw [two_at3] at this; exact this)
  have HN := Lib.hid (fun w => needLive_any w)
  have HR := Lib.hid (fun w => by have := runes_any ⟨#[98, 195, 182]⟩ w (by decide); rw [bo_runes] at this; exact this)
  go_enter Try.func4, Try.ntmps4
  go_wp2_with fail
  refine (H2.out _).mono ?_
  rintro e w1 ⟨g1, rfl, s1, k1⟩
  have S1 := Lib.hid s1
  have K1 := Lib.hid k1
  clear s1 k1
  go_wp2_with fail
  refine (HC.out _ _ S1.out).mono ?_
  rintro e w2 ⟨rfl, k2⟩
  have K2 := Lib.hid (K1.out.trans k2 (fun _ _ f => f))
  clear k2
  go_wp2_with fail
  refine (H2.out _).mono ?_
  rintro e w3 ⟨g3, rfl, s3, k3⟩
  have S3 := Lib.hid s3
  have K3 := Lib.hid (K2.out.trans k3 (fun _ _ f => f))
  clear s3 k3
  go_wp2_with fail
  refine (HT.out _ _ S3.out).mono ?_
  rintro e w4 ⟨rfl, k4⟩
  have K4 := Lib.hid (K3.out.trans k4 (fun _ _ f => f))
  clear k4
  go_wp2_with fail
  refine (H2.out _).mono ?_
  rintro e w5 ⟨g5, rfl, s5, k5⟩
  have S5 := Lib.hid s5
  have K5 := Lib.hid (K4.out.trans k5 (fun _ _ f => f))
  clear s5 k5
  go_wp2_with fail
  refine (HA2.out _ _ S5.out).mono ?_
  rintro e w6 ⟨rfl, k6⟩
  have K6 := Lib.hid (K5.out.trans k6 (fun _ _ f => f))
  clear k6
  go_wp2_with fail
  refine (H2.out _).mono ?_
  rintro e w7 ⟨g7, rfl, s7, k7⟩
  have S7 := Lib.hid s7
  have K7 := Lib.hid (K6.out.trans k7 (fun _ _ f => f))
  clear s7 k7
  go_wp2_with fail
  refine (HA3.out _ _ S7.out).mono ?_
  rintro e w8 ⟨rfl, k8⟩
  have K8 := Lib.hid (K7.out.trans k8 (fun _ _ f => f))
  clear k8
  go_wp2_with fail
  refine (HN.out _).mono ?_
  rintro e w9 ⟨rfl, k9⟩
  have K9 := Lib.hid (K8.out.trans k9 (fun _ _ f => f))
  clear k9
  go_wp2_with fail
  refine (HR.out _).mono ?_
  rintro e w10 ⟨rfl, k10⟩
  have K10 := Lib.hid (K9.out.trans k10 (fun _ _ f => f))
  clear k10
  go_wp2_with fail
  go_ret
  exact ⟨rfl, K10.out⟩
end Go.Proofs.Ytanmgfpogomgcaa
