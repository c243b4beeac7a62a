/-
  Messages: which two are the same, as the program and the document tell it.
-/
import Derived.Test.YtleapcbkkggecaaMb
import Derived.Test.YtleapcbkkggecaaQk
import Derived.Test.YtleapcbkkggecaaAp
import Derived.Deep.DeepCutAuto
namespace Go.Proofs.Ytleapcbkkggecaa
open Go.ChangeShapes Go.WideShapes Go.ChangeAt Go.RowKit
variable {A A' : Nat → Prop}

/-- a part of a row loaded, in a drawn region -/
theorem quiet_load_part {P : Program} {C : World → Prop} {a : Act} {o : Oper} {K : Act → Prop} (ty : TypeId) (x : Operand) (ho : o.op = .load ty x)
    (g off : Nat) (hx : a.eval x = .pointer (some ⟨g, off, none⟩)) (cs : List Value) (d : TypeDesc) (hc : ∀ w, C w → w.rangeAt g off cs)
    (hu : P.underlying ty = some d) (hd : d.isRow = true) (hi : (P.info? ty).map (·.size) = some cs.length)
    (h : K (a.put o.dst (.agg cs.toArray))) : o.quiet P a C K :=
  ⟨.agg cs.toArray, fun w hw => by
    unfold Oper.quietAt execOp
    simp only [ho, hx, Instr.loadAt, Instr.sureAddr, Sem.run_bind, Sem.run_pure, Result.andThen_ok, run_loadVar_mid w g off ty cs d (hc w hw) hu hd hi]
    exact ⟨rfl, rfl⟩, h⟩
theorem infoId' {x : List Int} (h : x.length = 32) : (Try.prog.info? 37).map (·.size) = some (U8s x).length := by
  rw [U8s_length, h]; kernel_rfl
theorem rangeAt_kept {w w' : World} {g off : Nat} {cs : List Value} (h : w.rangeAt g off cs) (k : Kp (fun _ => False) w w') : w'.rangeAt g off cs := fun j u hj => by
  have hc := h j u hj
  rw [k.cell (lt_of_cell hc) (fun f => f)]; exact hc
theorem kp_drewN (w : World) (n : Nat) : Kp (fun _ => False) w (w.drewN n) := (Kp.refl _ _).drewN n
theorem list_eq_of {x y : List (List Int)} (hl : x.length = y.length) (h : ∀ (i : Nat) (hi : i < x.length), x[i] = y[i]'(by omega)) : x = y := List.ext_getElem hl (fun i h1 _ => h i h1)

set_option maxRecDepth 100000 in
set_option maxHeartbeats 1600000 in
theorem eqIds_any {u v : Value} {xs ys : List (List Int)} {w : World} (hx : SeesI A w u xs) (hy : SeesI A' w v ys) (hxl : ∀ x ∈ xs, x.length = 32) (hyl : ∀ x ∈ ys, x.length = 32) :
    Calls Try.prog 26 #[u, v] w fun e w' => e = .returned (.bool (decide (xs = ys))) ∧ Kp (fun _ => False) w w' := by
  obtain ⟨a1, c1, rfl, hm1⟩ := hx.form
  obtain ⟨a2, c2, rfl, hm2⟩ := hy.form
  by_cases hlen : xs.length = ys.length
  · have HL := Lib.hid hlen
    have HX := Lib.hid hx
    have HY := Lib.hid hy
    have XL := Lib.hid hxl
    have YL := Lib.hid hyl
    have e0 : ((xs.length : Int) != (ys.length : Int)) = false := by rw [hlen]; simp
    have HI := Lib.hid (fun (x : List Int) (h : x.length = 32) => infoId' h)
    have HN := Lib.hid (fun (x y : List Int) (hx : x.length = 32) (hy : y.length = 32) => neq_names x y hx hy)
    clear hlen hx hy hxl hyl
    go_enter Try.func26, Try.ntmps26
    go_wp2_with fail
    go_loopw [13] (fun i wr => ∃ k : Nat, k ≤ xs.length ∧ i = .int .i64 k ∧ Kp (fun _ => False) w wr ∧ Hid (∀ (j : Nat) (hj : j < xs.length) (hj' : j < ys.length), j < k → xs[j] = ys[j])) (fun i _ => xs.length - (intOf i).toNat)
    case atStart => exact ⟨0, by omega, rfl, Kp.refl _ _, Lib.hid (fun j _ _ h => by omega)⟩
    case round =>
      obtain ⟨k, hk, rfl, hkp, hsm⟩ := hrel
      by_cases hlt : k < xs.length
      · have hlt2 : k < ys.length := by have := HL.out; omega
        obtain ⟨g1, o1, rfl, r1, hc1, hd1, _⟩ := (HX.out.kept hkp (fun _ _ f => f)).at XL.out hlt
        obtain ⟨g2, o2, rfl, r2, hc2, hd2, _⟩ := (HY.out.kept hkp (fun _ _ f => f)).at YL.out hlt2
        have hd1' : c1 ≤ 9223372036854775807 := hd1
        have hd2' : c2 ≤ 9223372036854775807 := hd2
        have e1 := XL.out _ (List.getElem_mem hlt)
        have e2 := YL.out _ (List.getElem_mem hlt2)
        obtain ⟨x, hxe⟩ : ∃ x, x = xs[k] := ⟨_, rfl⟩
        obtain ⟨y, hye⟩ : ∃ y, y = ys[k] := ⟨_, rfl⟩
        rw [← hxe] at r1 e1
        rw [← hye] at r2 e2
        have R1 := Lib.hid (fun (w' : World) (h : ∃ n, w' = wr.drewN n) => (by obtain ⟨n, rfl⟩ := h; exact rangeAt_kept r1 (kp_drewN _ n) : w'.rangeAt g1 (o1 + k * 32) (U8s x)))
        have R2 := Lib.hid (fun (w' : World) (h : ∃ n, w' = wr.drewN n) => (by obtain ⟨n, rfl⟩ := h; exact rangeAt_kept r2 (kp_drewN _ n) : w'.rangeAt g2 (o2 + k * 32) (U8s y)))
        have E1 := Lib.hid e1
        have E2 := Lib.hid e2
        have HK := Lib.hid hkp
        have hne := HN.out x y e1 e2
        have HXE := Lib.hid hxe
        have HYE := Lib.hid hye
        clear r1 r2 e1 e2 hkp hxe hye
        go_upto_region 6 with fail
        refine wp_region_quiet_lit (by kernel_rfl) (by kernel_rfl) ?_
        repeat (first
          | go_big_quiet_skip
          | (go_big_quiet_want; refine quiet_load_part 37 _ rfl g1 (o1 + k * 32) rfl (U8s x) _ R1.out Try.underlying37 rfl (HI.out _ E1.out) ?_; (simp only [Act.put, List.setIfInBounds_toArray, List.set_cons_zero, List.set_cons_succ]); go_big_quiet_on)
          | (go_big_quiet_want; refine quiet_load_part 37 _ rfl g2 (o2 + k * 32) rfl (U8s y) _ R2.out Try.underlying37 rfl (HI.out _ E2.out) ?_; (simp only [Act.put, List.setIfInBounds_toArray, List.set_cons_zero, List.set_cons_succ]); go_big_quiet_on)
          | (go_big_quiet_want; go_big_quiet_op; go_big_quiet_on))
        refine wpQuiet_nil ?_
        rintro _ ⟨nq, rfl⟩
        have HK2 := Lib.hid (HK.out.drewN nq)
        by_cases hxy : x = y
        · have HXY := Lib.hid hxy
          rw [decide_eq_true hxy]
          clear hxy
          go_wp2_with fail
          go_roundw
          case rel => exact ⟨k + 1, by omega, by go_num, HK2.out, Lib.hid (fun j hj hj' h => by
            rcases Nat.lt_or_ge j k with h' | h'
            · exact hsm.out j hj hj' h'
            · obtain rfl : j = k := by omega
              rw [← HXE.out, ← HYE.out]; exact HXY.out)⟩
          case measure => simp [intOf]; omega
        · have HXY := Lib.hid hxy
          rw [decide_eq_false hxy]
          clear hxy
          have HZ := Lib.hid (show decide (xs = ys) = false from decide_eq_false (fun h => HXY.out (by rw [HXE.out, HYE.out]; simp only [h])))
          go_wp2_with fail
          go_ret
          exact ⟨by rw [HZ.out]; rfl, HK2.out⟩
      · obtain rfl : k = xs.length := by omega
        have HZ := Lib.hid (show decide (xs = ys) = true from decide_eq_true (list_eq_of HL.out (fun i hi => hsm.out i hi _ hi)))
        have HK := Lib.hid hkp
        clear hsm hkp
        go_wp2_with fail
        go_ret
        exact ⟨by rw [HZ.out]; rfl, HK.out⟩
  · have e0 : ((xs.length : Int) != (ys.length : Int)) = true := by
      have : (xs.length : Int) ≠ (ys.length : Int) := by omega
      simpa using this
    have HZ := Lib.hid (show decide (xs = ys) = false from decide_eq_false (fun h => hlen (by rw [h])))
    clear hlen hx hy
    go_enter Try.func26, Try.ntmps26
    go_wp2_with fail
    go_ret
    exact ⟨by rw [HZ.out]; rfl, Kp.refl _ _⟩
end Go.Proofs.Ytleapcbkkggecaa
