/-
  Two votes held against each other; slices.Equal at votes; package bag's Same.
-/
import Derived.Test.YtoeinolekpmbbaaFh
import Derived.Test.YtoeinolekpmbbaaBaa
namespace Go.Proofs.Ytoeinolekpmbbaa
open Go.ChangeShapes Go.WideShapes Go.ChangeAt Go.RowKit

theorem voteFields : ∃ f0 f1 : Field, Try.prog.underlying 33 = some (.struct #[f0, f1]) ∧ f0.type = 27 ∧ f1.type = 3 ∧ f0.offset = 0 ∧ f1.offset = 32 ∧ (f0.name == "_") = false ∧ (f1.name == "_") = false :=
  ⟨_, _, Try.underlying33, rfl, rfl, rfl, rfl, by kernel_rfl, by kernel_rfl⟩
theorem stood : Try.prog.stoodInHeld 33 = false := by kernel_rfl
theorem part_id (x : Vt) (hx : x.id.length = 32) (w : World) : (part 27 (vtC x).toArray 0).run Try.prog w = .ok (.agg (U8s x.id).toArray) w := by
  have ha : ∀ w, (isAgg 27).run Try.prog w = .ok true w := fun w => by kernel_rfl
  have hs : ∀ w, (sizeOf 27).run Try.prog w = .ok 32 w := fun w => by kernel_rfl
  have et : (vtC x).take 32 = U8s x.id := by
    unfold vtC
    rw [List.take_append_of_le_length (by rw [U8s_length, hx]; omega), List.take_of_length_le (by rw [U8s_length, hx]; omega)]
  simp [part, ha, hs, et]
theorem part_n (x : Vt) (hx : x.id.length = 32) (w : World) : (part 3 (vtC x).toArray 32).run Try.prog w = .ok (.int .i64 x.n) w := by
  have ha : ∀ w, (isAgg 3).run Try.prog w = .ok false w := fun w => by kernel_rfl
  have h := vt_n hx
  rw [← List.getElem?_toArray] at h
  simp only [part, Sem.run_bind, ha, Result.andThen_ok, Bool.false_eq_true, if_false, h, Sem.run_pure]
theorem eqn_votes (x y : Vt) (hx : x.id.length = 32) (hy : y.id.length = 32) (w : World) : (Op.equalIn 10000 33 (.agg (vtC x).toArray) (.agg (vtC y).toArray)).run Try.prog w = .ok (decide (x = y)) w := by
  obtain ⟨f0, f1, hu, t0, t1, o0, o1, n0, n1⟩ := voteFields
  have hf : Try.prog.fieldsOf 33 = #[f0, f1] := by simp [Program.fieldsOf, hu]
  have hi := equal_names 9997 x.id y.id hx hy w
  have hn : (Op.equalIn 9999 3 (.int .i64 x.n) (.int .i64 y.n)).run Try.prog w = .ok (x.n == y.n) w := run_equalIn_int w 9998 3 .i64 .i64 _ _ Try.underlying3
  have n0' : f0.name ≠ "_" := by simpa using n0
  have n1' : f1.name ≠ "_" := by simpa using n1
  rw [show (10000 : Nat) = 9999 + 1 from rfl, run_equalIn_struct w 9999 33 _ _ (by rw [hf]; exact hu) stood, hf]
  simp only [Op.eqFields, n0', n1', ne_eq, not_false_eq_true, if_true, Sem.run_bind, t0, t1, o0, o1, part_id x hx, part_id y hy, part_n x hx, part_n y hy, Result.andThen_ok, hi, hn, Sem.run_ite, Sem.run_pure]
  by_cases h1 : x.id = y.id
  · by_cases h2 : x.n = y.n
    · have : x = y := by cases x; cases y; simp_all
      simp [this]
    · have : ¬ x = y := fun e => h2 (by rw [e])
      simp [h1, h2, this]
  · have : ¬ x = y := fun e => h1 (by rw [e])
    simp [h1, this]
theorem neq_votes (x y : Vt) (hx : x.id.length = 32) (hy : y.id.length = 32) (w : World) : (binOp .neq 33 (.agg (vtC x).toArray) (.agg (vtC y).toArray)).run Try.prog w = .ok (.bool (!decide (x = y))) w := by
  rw [run_neq_struct, eqn_votes x y hx hy w]; rfl

set_option maxRecDepth 100000 in
set_option maxHeartbeats 1600000 in
theorem eqVotes_any {u v : Value} {xs ys : List Vt} {w : World} (hx : SeesT w u xs) (hy : SeesT w v ys) (hxl : ∀ x ∈ xs, x.id.length = 32) (hyl : ∀ x ∈ ys, x.id.length = 32) :
    Calls Try.prog 16 #[u, v] w fun e w' => e = .returned (.bool (decide (xs = ys))) ∧ Kp (fun _ => False) w w' := by
  obtain ⟨a1, c1, rfl, hlc1, hm1⟩ := hx.form
  obtain ⟨a2, c2, rfl, hlc2, hm2⟩ := hy.form
  by_cases hlen : xs.length = ys.length
  · have HL := Lib.hid hlen
    have HX := Lib.hid hx
    have HY := Lib.hid hy
    have XL := Lib.hid hxl
    have YL := Lib.hid hyl
    have e0 : ((xs.length : Int) != (ys.length : Int)) = false := by rw [hlen]; simp
    have HI := Lib.hid (fun (x : Vt) (h : x.id.length = 32) => infoVt h)
    have HN := Lib.hid (fun (x y : Vt) (hx : x.id.length = 32) (hy : y.id.length = 32) => neq_votes x y hx hy)
    clear hlen hx hy hxl hyl
    go_enter Try.func16, Try.ntmps16
    go_wp2_with fail
    go_loopw [13] (fun i wr => ∃ k : Nat, k ≤ xs.length ∧ i = .int .i64 k ∧ Kp (fun _ => False) w wr ∧ Hid (∀ (j : Nat) (hj : j < xs.length) (hj' : j < ys.length), j < k → xs[j] = ys[j])) (fun i _ => xs.length - (intOf i).toNat)
    case atStart => exact ⟨0, by omega, rfl, Kp.refl _ _, Lib.hid (fun j _ _ h => by omega)⟩
    case round =>
      obtain ⟨k, hk, rfl, hkp, hsm⟩ := hrel
      by_cases hlt : k < xs.length
      · have hlt2 : k < ys.length := by have := HL.out; omega
        obtain ⟨g1, o1, rfl, r1⟩ := (HX.out.kept hkp).at (List.getElem?_eq_getElem hlt)
        obtain ⟨g2, o2, rfl, r2⟩ := (HY.out.kept hkp).at (List.getElem?_eq_getElem hlt2)
        have e1 := XL.out _ (List.getElem_mem hlt)
        have e2 := YL.out _ (List.getElem_mem hlt2)
        obtain ⟨x, hxe⟩ : ∃ x, x = xs[k] := ⟨_, rfl⟩
        obtain ⟨y, hye⟩ : ∃ y, y = ys[k] := ⟨_, rfl⟩
        rw [← hxe] at r1 e1
        rw [← hye] at r2 e2
        have R1 := Lib.hid (fun (w' : World) (h : ∃ n, w' = wr.drewN n) => (by obtain ⟨n, rfl⟩ := h; exact range_kp r1 ((Kp.refl (fun _ => False) _).drewN n) (fun f => f) : w'.rangeAt g1 (o1 + k * 33) (vtC x)))
        have R2 := Lib.hid (fun (w' : World) (h : ∃ n, w' = wr.drewN n) => (by obtain ⟨n, rfl⟩ := h; exact range_kp r2 ((Kp.refl (fun _ => False) _).drewN n) (fun f => f) : w'.rangeAt g2 (o2 + k * 33) (vtC y)))
        have E1 := Lib.hid e1
        have E2 := Lib.hid e2
        have HK := Lib.hid hkp
        have hne := HN.out x y e1 e2
        have HXE := Lib.hid hxe
        have HYE := Lib.hid hye
        clear r1 r2 e1 e2 hkp hxe hye
        go_upto_region 6 with fail
        refine wp_region_quiet_lit (by kernel_rfl) (by kernel_rfl) ?_
        repeat (first
          | go_big_quiet_skip
          | (go_big_quiet_want; refine quiet_ld 33 _ rfl g1 (o1 + k * 33) rfl (vtC x) _ R1.out Try.underlying33 rfl (HI.out _ E1.out) ?_; (simp only [Act.put, List.setIfInBounds_toArray, List.set_cons_zero, List.set_cons_succ]); go_big_quiet_on)
          | (go_big_quiet_want; refine quiet_ld 33 _ rfl g2 (o2 + k * 33) rfl (vtC y) _ R2.out Try.underlying33 rfl (HI.out _ E2.out) ?_; (simp only [Act.put, List.setIfInBounds_toArray, List.set_cons_zero, List.set_cons_succ]); go_big_quiet_on)
          | (go_big_quiet_want; go_big_quiet_op; go_big_quiet_on))
        refine wpQuiet_nil ?_
        rintro _ ⟨nq, rfl⟩
        have HK2 := Lib.hid (HK.out.drewN nq)
        by_cases hxy : x = y
        · have HXY := Lib.hid hxy
          rw [decide_eq_true hxy]
          clear hxy
          go_wp2_with fail
          go_roundw
          case rel => exact ⟨k + 1, by omega, by go_num, HK2.out, Lib.hid (fun j hj hj' h => by
            rcases Nat.lt_or_ge j k with h' | h'
            · exact hsm.out j hj hj' h'
            · obtain rfl : j = k := by omega
              rw [← HXE.out, ← HYE.out]; exact HXY.out)⟩
          case measure => simp [intOf]; omega
        · have HXY := Lib.hid hxy
          rw [decide_eq_false hxy]
          clear hxy
          have HZ := Lib.hid (show decide (xs = ys) = false from decide_eq_false (fun h => HXY.out (by rw [HXE.out, HYE.out]; simp only [h])))
          go_wp2_with fail
          go_ret
          exact ⟨by rw [HZ.out]; rfl, HK2.out⟩
      · obtain rfl : k = xs.length := by omega
        have HZ := Lib.hid (show decide (xs = ys) = true from decide_eq_true (List.ext_getElem HL.out (fun i hi hi2 => hsm.out i hi hi2 hi)))
        have HK := Lib.hid hkp
        clear hsm hkp
        go_wp2_with fail
        go_ret
        exact ⟨by rw [HZ.out]; rfl, HK.out⟩
  · have e0 : ((xs.length : Int) != (ys.length : Int)) = true := by
      have : (xs.length : Int) ≠ (ys.length : Int) := by omega
      simpa using this
    have HZ := Lib.hid (show decide (xs = ys) = false from decide_eq_false (fun h => hlen (by rw [h])))
    clear hlen hx hy
    go_enter Try.func16, Try.ntmps16
    go_wp2_with fail
    go_ret
    exact ⟨by rw [HZ.out]; rfl, Kp.refl _ _⟩
set_option maxRecDepth 100000 in
theorem bsame_any {u v : Value} {xs ys : List Vt} {w : World} (hx : SeesT w u xs) (hy : SeesT w v ys) (hxl : ∀ x ∈ xs, x.id.length = 32) (hyl : ∀ x ∈ ys, x.id.length = 32) :
    Calls Try.prog 15 #[u, v] w fun e w' => e = .returned (.bool (decide (xs = ys))) ∧ Kp (fun _ => False) w w' := by
  have HQ := Lib.hid (eqVotes_any hx hy hxl hyl)
  obtain ⟨a1, c1, rfl, _⟩ := hx.form
  obtain ⟨a2, c2, rfl, _⟩ := hy.form
  clear hx hy hxl hyl
  generalize decide (xs = ys) = r at HQ ⊢
  go_enter Try.func15, Try.ntmps15
  go_wp2_with fail
  refine HQ.out.mono ?_
  rintro e w1 ⟨rfl, hk⟩
  have HK := Lib.hid hk
  clear hk
  go_wp2_with fail
  go_ret
  exact ⟨rfl, HK.out⟩
end Go.Proofs.Ytoeinolekpmbbaa
