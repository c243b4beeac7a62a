/-
  VdrNeed: the law's walk.
-/
import Derived.Test.YtphbckjadebdmabDx
import Derived.Test.YtphbckjadebdmabDz
namespace Go.Proofs.Ytphbckjadebdmab
open Go.ChangeShapes Go.WideShapes Go.ChangeAt Go.RowKit

/-- a share -/
structure Shr where
  t : Int
  n : Int
  d : Int
structure Shr.wf (x : Shr) : Prop where
  t0 : -9223372036854775808 ≤ x.t
  t1 : x.t ≤ 9223372036854775807
  n0 : -9223372036854775808 ≤ x.n
  n1 : x.n ≤ 9223372036854775807
  d0 : -9223372036854775808 ≤ x.d
  d1 : x.d ≤ 9223372036854775807
def shrC (x : Shr) : List Value := [.int .i64 x.t, .int .i64 x.n, .int .i64 x.d]
theorem Try.cellsShr : Try.prog.cellsOf 23 = 3 := by kernel_rfl
theorem shrFields : ∃ f0 f1 f2 : Field, Try.prog.underlying 23 = some (.struct #[f0, f1, f2]) ∧ f0.type = 2 ∧ f1.type = 2 ∧ f2.type = 2 ∧ f0.offset = 0 ∧ f1.offset = 1 ∧ f2.offset = 2 :=
  ⟨_, _, _, Try.underlying23, rfl, rfl, rfl, rfl, rfl, rfl⟩
theorem Try.cellsI64S : Try.prog.cellsOf 2 = 1 := by kernel_rfl
theorem wf_i64S {x : Int} (h : (Lit.int .i64 x).wf = true) : -9223372036854775808 ≤ x ∧ x ≤ 9223372036854775807 := by simpa [Lit.wf, IntKind.min, IntKind.max, IntKind.signed, IntKind.bits] using h
theorem open_shareV {H : Type} {enc : TypeId × Value → H} {W : World} {base : Nat} {spare : Nat → Bool} {held : Bool} {v : Value} {d : DataW H} {p : List MemPlace} (hv : Value.okWide Try.prog W .any base 23 v) (h : DataW.Trod enc Try.prog W 0 spare held 23 v d p) :
    ∃ x : Shr, v = .agg (shrC x).toArray ∧ x.wf := by
  obtain ⟨cs, rfl, hsz⟩ := okWide_struct Try.underlying23 hv
  obtain ⟨fuel, hf⟩ := h
  obtain ⟨f0, f1, f2, hu, t0, t1, t2, o0, o1, o2⟩ := shrFields
  obtain ⟨ys, n, _, _, hlen, hyl, hf⟩ := DataW.trod_struct hu (show DataW.trod enc Try.prog W 0 spare held fuel 23 cs.toList = some (d, p) from hf)
  rw [Try.cellsShr] at hlen
  obtain ⟨csl⟩ := cs
  simp only at hlen hf
  obtain ⟨v0, v1, v2, rfl⟩ : ∃ v0 v1 v2, csl = [v0, v1, v2] := by
    match csl, hlen with
    | [v0, v1, v2], _ => exact ⟨v0, v1, v2, rfl⟩
  obtain ⟨y0, y1, y2, rfl⟩ : ∃ y0 y1 y2, ys = [y0, y1, y2] := by
    match ys, hyl with
    | [v0, v1, v2], _ => exact ⟨v0, v1, v2, rfl⟩
  have g0 := hf 0 f0 rfl
  have g1 := hf 1 f1 rfl
  have g2 := hf 2 f2 rfl
  rw [t0, o0, Try.cellsI64S] at g0
  rw [t1, o1, Try.cellsI64S] at g1
  rw [t2, o2, Try.cellsI64S] at g2
  obtain ⟨T, e0, _, w0⟩ := DataW.trod_int Try.underlying2 g0
  obtain ⟨N, e1, _, w1⟩ := DataW.trod_int Try.underlying2 g1
  obtain ⟨D, e2, _, w2⟩ := DataW.trod_int Try.underlying2 g2
  simp at e0 e1 e2
  subst e0 e1 e2
  exact ⟨⟨T, N, D⟩, rfl, (wf_i64S w0).1, (wf_i64S w0).2, (wf_i64S w1).1, (wf_i64S w1).2, (wf_i64S w2).1, (wf_i64S w2).2⟩

theorem qdst (s : Nat) {P : Program} {C : World → Prop} {a : Act} {K : Act → Prop} {op : Op} {ty : TypeId} {pos : String} {af : Array Edge} {g : Option (Nat × Bool)}
    (h : (⟨some s, op, ty, pos, af, g⟩ : Oper).quiet P a C K) : (⟨some s, op, ty, pos, af, g⟩ : Oper).quiet P a C K := h

theorem needI_ok {t n d : Int} (h : ¬ (t < 0 ∨ n < 0 ∨ d < 1 ∨ d < n)) : 0 ≤ needI t n d ∧ needI t n d ≤ t ∧ atLeastB (needI t n d) t n d = true ∧ atLeastB (needI t n d - 1) t n d = false := by
  have hd : 0 < d := by omega
  have e : needI t n d = (t * n + d - 1) / d := if_neg h
  have hx : 0 ≤ t * n := Int.mul_nonneg (by omega) (by omega)
  have hxd : t * n ≤ t * d := Int.mul_le_mul_of_nonneg_left (by omega) (by omega)
  rw [e]
  have h1 := Int.mul_ediv_add_emod (t * n + d - 1) d
  have h2 := Int.emod_nonneg (t * n + d - 1) (show d ≠ 0 by omega)
  have h3 := Int.emod_lt_of_pos (t * n + d - 1) hd
  have h4 : 0 ≤ (t * n + d - 1) / d := Int.ediv_nonneg (by omega) (by omega)
  have h5 : (t * n + d - 1) / d ≤ t := by
    have h6 : (t * n + d - 1) / d ≤ (d * t + (d - 1)) / d := Int.ediv_le_ediv hd (by rw [Int.mul_comm d t]; omega)
    have h7 : (d * t + (d - 1)) / d = t := by
      rw [show d * t + (d - 1) = (d - 1) + d * t by omega, Int.add_mul_ediv_left (d - 1) t (show d ≠ 0 by omega), Int.ediv_eq_zero_of_lt (a := d - 1) (by omega) (by omega)]
      omega
    rw [h7] at h6
    exact h6
  generalize (t * n + d - 1) / d = c at *
  generalize (t * n + d - 1) % d = m at *
  refine ⟨h4, h5, ?_, ?_⟩
  · refine decide_eq_true ⟨h4, by omega, by omega, hd, ?_⟩
    rw [Int.mul_comm c d]
    omega
  · refine decide_eq_false ?_
    rintro ⟨_, _, _, _, h6⟩
    rw [Int.sub_mul, Int.one_mul, Int.mul_comm c d] at h6
    omega
theorem needI_mono {t n d t' n' : Int} (h : ¬ (t < 0 ∨ n < 0 ∨ d < 1 ∨ d < n)) (ht : t ≤ t') (hn : n ≤ n') (hn' : n' ≤ d) : needI t n d ≤ needI t' n' d := by
  have e : needI t n d = (t * n + d - 1) / d := if_neg h
  have e' : needI t' n' d = (t' * n' + d - 1) / d := if_neg (by omega)
  rw [e, e']
  refine Int.ediv_le_ediv (by omega) ?_
  have h1 : t * n ≤ t * n' := Int.mul_le_mul_of_nonneg_left hn (by omega)
  have h2 : t * n' ≤ t' * n' := Int.mul_le_mul_of_nonneg_right ht (by omega)
  omega

set_option maxRecDepth 100000 in
set_option maxHeartbeats 1600000 in
theorem need_law (x : Shr) (hx : x.wf) (more : Int) (hm0 : -9223372036854775808 ≤ more) (hm1 : more ≤ 9223372036854775807) (w : World) :
    Calls Try.prog 3 #[.agg (shrC x).toArray, .int .i64 more] w fun e w' => e = .returned (.bool true) ∧ Kp (fun _ => False) w w' := by
  obtain ⟨T, N, D⟩ := x
  obtain ⟨T0, T1, N0, N1, D0, D1⟩ := hx
  simp only at T0 T1 N0 N1 D0 D1
  have HB := Lib.hid (fun w => vlive_any w)
  have HNE := Lib.hid (fun w => need_any T N D T1 N1 D1 w)
  have HAL := Lib.hid (fun s (hs : s ≤ 9223372036854775807) w => atLeast_any s T N D hs T1 N1 D1 w)
  have k0 : Kp (fun _ => False) w (w.alloc (.cells #[.int .i64 T, .int .i64 N, .int .i64 D] 23)) := (Kp.refl _ _).alloc _
  have K0 := Lib.hid k0
  have HM := Lib.hid (new_blk w (.cells #[.int .i64 T, .int .i64 N, .int .i64 D] 23))
  have HCL := Lib.hid (fun w' (k : Kp (fun _ => False) (w.alloc (.cells #[.int .i64 T, .int .i64 N, .int .i64 D] 23)) w') =>
    (show w'.cell? ⟨w.heap.size, 0, none⟩ = some (.int .i64 T) ∧ w'.cell? ⟨w.heap.size, 1, none⟩ = some (.int .i64 N) ∧ w'.cell? ⟨w.heap.size, 2, none⟩ = some (.int .i64 D) from
      ⟨cell_blk (kept_blk (new_blk w _) k (fun f => f)) 0, cell_blk (kept_blk (new_blk w _) k (fun f => f)) 1, cell_blk (kept_blk (new_blk w _) k (fun f => f)) 2⟩))
  obtain ⟨z0, z1, z2⟩ := HCL.out _ (Kp.refl _ _)
  unfold shrC
  clear k0
  by_cases hbad : T < 0 ∨ N < 0 ∨ D < 1 ∨ D < N
  · rw [needI_no hbad] at HNE
    go_enter Try.func3, Try.ntmps3
    go_wp2_with fail
    refine (HNE.out _).mono ?_
    rintro e w1 ⟨rfl, k1⟩
    have K1 := Lib.hid k1
    clear k1
    go_wp2_with fail
    refine (HB.out _).mono ?_
    rintro e w2 ⟨rfl, k2⟩
    have K2 := Lib.hid (K1.out.trans k2 (fun _ _ f => f))
    clear k2
    go_wp2_with fail
    refine (HB.out _).mono ?_
    rintro e w3 ⟨rfl, k3⟩
    have K3 := Lib.hid (K2.out.trans k3 (fun _ _ f => f))
    obtain ⟨y0, y1, y2⟩ := HCL.out _ K3.out
    clear k3
    by_cases c1 : T < 0
    · go_wp2_with fail
      go_ret
      exact ⟨rfl, K0.out.trans K3.out (fun _ _ f => f)⟩
    by_cases c2 : N < 0
    · go_wp2_with fail
      go_ret
      exact ⟨rfl, K0.out.trans K3.out (fun _ _ f => f)⟩
    by_cases c3 : D < 1
    · go_wp2_with fail
      go_ret
      exact ⟨rfl, K0.out.trans K3.out (fun _ _ f => f)⟩
    have c4 : D < N := by omega
    go_wp2_with fail
    go_ret
    exact ⟨by first | rfl | simp, K0.out.trans K3.out (fun _ _ f => f)⟩
  · obtain ⟨g1, g2, g3, g4⟩ := needI_ok hbad
    have hmn1 : needI T N D ≤ needI (max more T) N D := needI_mono hbad (by omega) (Int.le_refl _) (by omega)
    have hmn2 : needI T N D ≤ needI T (max (min more D) N) D := needI_mono hbad (Int.le_refl _) (by omega) (by omega)
    have HN1 := Lib.hid (fun w => need_any (max more T) N D (by omega) N1 D1 w)
    have HN2 := Lib.hid (fun w => need_any T (max (min more D) N) D T1 (by omega) D1 w)
    have HA1 := Lib.hid (HAL.out (needI T N D) (by omega))
    have HA2 := Lib.hid (HAL.out (needI T N D - 1) (by omega))
    rw [g3] at HA1
    rw [g4] at HA2
    obtain ⟨c, hc⟩ : ∃ c, c = needI T N D := ⟨_, rfl⟩
    obtain ⟨a, ha⟩ : ∃ c, c = needI (max more T) N D := ⟨_, rfl⟩
    obtain ⟨b, hb⟩ : ∃ c, c = needI T (max (min more D) N) D := ⟨_, rfl⟩
    rw [← hc] at g1 g2 hmn1 hmn2 HA1 HA2 HNE
    rw [← ha] at hmn1 HN1
    rw [← hb] at hmn2 HN2
    clear HAL g3 g4 hc ha hb hbad
    go_enter Try.func3, Try.ntmps3
    go_wp2_with fail
    refine (HNE.out _).mono ?_
    rintro e w1 ⟨rfl, k1⟩
    have K1 := Lib.hid k1
    clear k1
    go_wp2_with fail
    refine (HB.out _).mono ?_
    rintro e w2 ⟨rfl, k2⟩
    have K2 := Lib.hid (K1.out.trans k2 (fun _ _ f => f))
    obtain ⟨y0, y1, y2⟩ := HCL.out _ K2.out
    clear k2
    go_wp2_with fail
    refine (HA1.out _).mono ?_
    rintro e w3 ⟨rfl, rfl⟩
    obtain ⟨y0, y1, y2⟩ := HCL.out _ K2.out
    have hC0 := Lib.hid (fun w' (k : Kp (fun _ => False) w3 w') => (HCL.out _ (K2.out.trans k (fun _ _ f => f))).1)
    have hC1 := Lib.hid (fun w' (k : Kp (fun _ => False) w3 w') => (HCL.out _ (K2.out.trans k (fun _ _ f => f))).2.1)
    have hC2 := Lib.hid (fun w' (k : Kp (fun _ => False) w3 w') => (HCL.out _ (K2.out.trans k (fun _ _ f => f))).2.2)
    have c4 : ¬ T < c := by omega
    by_cases hpos : 0 < c
    · go_wp2_with fail
      refine (HA2.out _).mono ?_
      rintro e w4 ⟨rfl, rfl⟩
      go_upto_region 6 with (fail)
      refine wp_kept (W := w4) (by kernel_rfl) (by kernel_rfl) (Kp.refl _ _) ?_
      repeat (first
        | go_big_quiet_skip
        | (go_big_quiet_want; (with_reducible refine qdst 76 ?_); refine quiet_load_cell 2 _ rfl ⟨w.heap.size, 0, none⟩ rfl (.int .i64 T) _ hC0.out Try.underlying2 rfl ?_; (simp only [Act.put, List.setIfInBounds_toArray, List.set_cons_zero, List.set_cons_succ]); go_big_quiet_on)
        | (go_big_quiet_want; (with_reducible refine qdst 79 ?_); refine quiet_load_cell 2 _ rfl ⟨w.heap.size, 1, none⟩ rfl (.int .i64 N) _ hC1.out Try.underlying2 rfl ?_; (simp only [Act.put, List.setIfInBounds_toArray, List.set_cons_zero, List.set_cons_succ]); go_big_quiet_on)
        | (go_big_quiet_want; (with_reducible refine qdst 81 ?_); refine quiet_load_cell 2 _ rfl ⟨w.heap.size, 2, none⟩ rfl (.int .i64 D) _ hC2.out Try.underlying2 rfl ?_; (simp only [Act.put, List.setIfInBounds_toArray, List.set_cons_zero, List.set_cons_succ]); go_big_quiet_on)
        | (go_big_quiet_want; (with_reducible refine qdst 84 ?_); refine quiet_load_cell 2 _ rfl ⟨w.heap.size, 0, none⟩ rfl (.int .i64 T) _ hC0.out Try.underlying2 rfl ?_; (simp only [Act.put, List.setIfInBounds_toArray, List.set_cons_zero, List.set_cons_succ]); go_big_quiet_on)
        | (go_big_quiet_want; (with_reducible refine qdst 87 ?_); refine quiet_load_cell 2 _ rfl ⟨w.heap.size, 2, none⟩ rfl (.int .i64 D) _ hC2.out Try.underlying2 rfl ?_; (simp only [Act.put, List.setIfInBounds_toArray, List.set_cons_zero, List.set_cons_succ]); go_big_quiet_on)
        | (go_big_quiet_want; (with_reducible refine qdst 90 ?_); refine quiet_load_cell 2 _ rfl ⟨w.heap.size, 1, none⟩ rfl (.int .i64 N) _ hC1.out Try.underlying2 rfl ?_; (simp only [Act.put, List.setIfInBounds_toArray, List.set_cons_zero, List.set_cons_succ]); go_big_quiet_on)
        | (go_big_quiet_want; (with_reducible refine qdst 93 ?_); refine quiet_load_cell 2 _ rfl ⟨w.heap.size, 2, none⟩ rfl (.int .i64 D) _ hC2.out Try.underlying2 rfl ?_; (simp only [Act.put, List.setIfInBounds_toArray, List.set_cons_zero, List.set_cons_succ]); go_big_quiet_on)
        | (go_big_quiet_want; go_big_quiet_op; first | go_big_quiet_on | go_big_quiet_call ((intro hk; first
            | with_reducible rfl
            | (go_at_call 4; with_reducible refine at_args #[.int .i64 (max more T), .int .i64 N, .int .i64 D] ?_; exact (HN1.out _).mono (fun e w' h => ⟨h.1, hk.trans h.2 (fun _ _ f => f)⟩))
            | (go_at_call 4; with_reducible refine at_args #[.int .i64 T, .int .i64 (max (min more D) N), .int .i64 D] ?_; exact (HN2.out _).mono (fun e w' h => ⟨h.1, hk.trans h.2 (fun _ _ f => f)⟩))))))
      refine wpQuiet_nil ?_
      intro w5 k5
      have K5 := Lib.hid (K2.out.trans k5 (fun _ _ f => f))
      clear k5
      go_wp2_with fail
      go_ret
      exact ⟨by first | rfl | simp, K0.out.trans K5.out (fun _ _ f => f)⟩
    · go_wp2_with fail
      go_upto_region 6 with (fail)
      refine wp_kept (W := w3) (by kernel_rfl) (by kernel_rfl) (Kp.refl _ _) ?_
      repeat (first
        | go_big_quiet_skip
        | (go_big_quiet_want; (with_reducible refine qdst 76 ?_); refine quiet_load_cell 2 _ rfl ⟨w.heap.size, 0, none⟩ rfl (.int .i64 T) _ hC0.out Try.underlying2 rfl ?_; (simp only [Act.put, List.setIfInBounds_toArray, List.set_cons_zero, List.set_cons_succ]); go_big_quiet_on)
        | (go_big_quiet_want; (with_reducible refine qdst 79 ?_); refine quiet_load_cell 2 _ rfl ⟨w.heap.size, 1, none⟩ rfl (.int .i64 N) _ hC1.out Try.underlying2 rfl ?_; (simp only [Act.put, List.setIfInBounds_toArray, List.set_cons_zero, List.set_cons_succ]); go_big_quiet_on)
        | (go_big_quiet_want; (with_reducible refine qdst 81 ?_); refine quiet_load_cell 2 _ rfl ⟨w.heap.size, 2, none⟩ rfl (.int .i64 D) _ hC2.out Try.underlying2 rfl ?_; (simp only [Act.put, List.setIfInBounds_toArray, List.set_cons_zero, List.set_cons_succ]); go_big_quiet_on)
        | (go_big_quiet_want; (with_reducible refine qdst 84 ?_); refine quiet_load_cell 2 _ rfl ⟨w.heap.size, 0, none⟩ rfl (.int .i64 T) _ hC0.out Try.underlying2 rfl ?_; (simp only [Act.put, List.setIfInBounds_toArray, List.set_cons_zero, List.set_cons_succ]); go_big_quiet_on)
        | (go_big_quiet_want; (with_reducible refine qdst 87 ?_); refine quiet_load_cell 2 _ rfl ⟨w.heap.size, 2, none⟩ rfl (.int .i64 D) _ hC2.out Try.underlying2 rfl ?_; (simp only [Act.put, List.setIfInBounds_toArray, List.set_cons_zero, List.set_cons_succ]); go_big_quiet_on)
        | (go_big_quiet_want; (with_reducible refine qdst 90 ?_); refine quiet_load_cell 2 _ rfl ⟨w.heap.size, 1, none⟩ rfl (.int .i64 N) _ hC1.out Try.underlying2 rfl ?_; (simp only [Act.put, List.setIfInBounds_toArray, List.set_cons_zero, List.set_cons_succ]); go_big_quiet_on)
        | (go_big_quiet_want; (with_reducible refine qdst 93 ?_); refine quiet_load_cell 2 _ rfl ⟨w.heap.size, 2, none⟩ rfl (.int .i64 D) _ hC2.out Try.underlying2 rfl ?_; (simp only [Act.put, List.setIfInBounds_toArray, List.set_cons_zero, List.set_cons_succ]); go_big_quiet_on)
        | (go_big_quiet_want; go_big_quiet_op; first | go_big_quiet_on | go_big_quiet_call ((intro hk; first
            | with_reducible rfl
            | (go_at_call 4; with_reducible refine at_args #[.int .i64 (max more T), .int .i64 N, .int .i64 D] ?_; exact (HN1.out _).mono (fun e w' h => ⟨h.1, hk.trans h.2 (fun _ _ f => f)⟩))
            | (go_at_call 4; with_reducible refine at_args #[.int .i64 T, .int .i64 (max (min more D) N), .int .i64 D] ?_; exact (HN2.out _).mono (fun e w' h => ⟨h.1, hk.trans h.2 (fun _ _ f => f)⟩))))))
      refine wpQuiet_nil ?_
      intro w5 k5
      have K5 := Lib.hid (K2.out.trans k5 (fun _ _ f => f))
      clear k5
      go_wp2_with fail
      go_ret
      exact ⟨by first | rfl | simp, K0.out.trans K5.out (fun _ _ f => f)⟩
end Go.Proofs.Ytphbckjadebdmab
