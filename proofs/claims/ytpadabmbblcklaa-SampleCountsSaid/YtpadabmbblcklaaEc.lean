/-
  slices.Equal of numbers.
-/
import Derived.Test.YtpadabmbblcklaaEb
import Derived.Test.YtpadabmbblcklaaQk
import Derived.Deep.Cut
import Derived.LoopTactic
import Derived.Lib.Hide
import Derived.Deep.RegionWith
namespace Go.Proofs.Ytpadabmbblcklaa
open Go.RowKit

/-- a single cell loaded, in a region that draws -/
theorem quiet_load_cellZ {P : Program} {C : World → Prop} {a : Act} {o : Oper} {K : Act → Prop} (ty : TypeId) (x : Operand) (ho : o.op = .load ty x)
    (p : Addr) (hx : a.eval x = .pointer (some p)) (u : Value) (d : TypeDesc) (hc : ∀ w, C w → w.cell? p = some u)
    (hu : P.underlying ty = some d) (hd : d.isRow = false)
    (h : K (a.put o.dst u)) : o.quiet P a C K :=
  ⟨u, fun w hw => by
    have hagg : (isAgg ty).run P w = .ok false w := by
      unfold isAgg
      rw [Sem.run_bind, run_underlying hu w]
      cases d <;> simp_all
    unfold Oper.quietAt execOp
    simp only [ho, hx, Instr.loadAt, Instr.sureAddr, Sem.run_bind, Sem.run_pure, Result.andThen_ok, loadVar, hagg, Bool.false_eq_true, if_false, run_load, hc w hw]
    exact ⟨rfl, rfl⟩, h⟩
theorem list_neZ {l m : List Int} {k : Nat} {x y : Int} (hx : l[k]? = some x) (hy : m[k]? = some y) (h : x ≠ y) : l ≠ m := fun e => by
  subst e; rw [hx] at hy; cases hy; exact h rfl
theorem list_eqZ {l m : List Int} (hl : l.length = m.length) (h : ∀ (k : Nat) (x y : Int), l[k]? = some x → m[k]? = some y → x = y) : l = m := by
  apply List.ext_getElem hl
  intro k h1 h2
  exact h k _ _ (List.getElem?_eq_getElem h1) (List.getElem?_eq_getElem h2)

set_option maxRecDepth 100000 in
set_option maxHeartbeats 1600000 in
theorem equalQ_any {v1 v2 : Value} {l m : List Int} {w : World} (hs1 : SeesZ .i64 w v1 l) (hs2 : SeesZ .i64 w v2 m) :
    Calls Try.prog 12 #[v1, v2] w fun e w' => e = .returned (.bool (decide (l = m))) ∧ Kp (fun _ => False) w w' := by
  obtain ⟨a1, c1, rfl, hl1, hm1, _⟩ := hs1.form
  obtain ⟨a2, c2, rfl, hl2, hm2, _⟩ := hs2.form
  have HS1 := Lib.hid hs1
  have HS2 := Lib.hid hs2
  obtain ⟨z, hz⟩ : ∃ z, z = decide (l = m) := ⟨_, rfl⟩
  have HZ := Lib.hid hz
  rw [← hz]
  clear hs1 hs2 hz
  by_cases hlen : l.length = m.length
  · have hlen' : ((l.length : Int) != (m.length : Int)) = false := by simp; omega
    have HLN := Lib.hid hlen
    have hml : m.length = l.length := hlen.symm
    rw [hml] at HS2 hl2 hlen' ⊢
    clear hlen hml
    go_enter Try.func12, Try.ntmps12
    go_wp2
    go_loopw [13] (fun i wr => ∃ k : Nat, k ≤ l.length ∧ i = .int .i64 k ∧ Hid (Kp (fun _ => False) w wr) ∧ Hid (∀ (j : Nat) (x y : Int), j < k → l[j]? = some x → m[j]? = some y → x = y)) (fun i _ => l.length - (intOf i).toNat)
    case atStart => exact ⟨0, by omega, rfl, Lib.hid (Kp.refl _ _), Lib.hid (fun j x y h => by omega)⟩
    case round =>
      obtain ⟨k, hk, rfl, hkp, hsm⟩ := hrel
      by_cases hlt : k < l.length
      · obtain ⟨x, hx⟩ : ∃ x, l[k]? = some x := ⟨l[k], by simp⟩
        have hkm : k < m.length := by have := HLN.out; omega
        obtain ⟨y, hy⟩ : ∃ y, m[k]? = some y := ⟨m[k], List.getElem?_eq_getElem _⟩
        obtain ⟨g1, o1, rfl, hr1⟩ := (HS1.out.kept hkp.out).at hx
        obtain ⟨g2, o2, rfl, hr2⟩ := (HS2.out.kept hkp.out).at hy
        have HR1 := Lib.hid (fun w' (k : Kp (fun _ => False) wr w') => (k.cell (lt_of_cell hr1) (fun f => f)).trans hr1)
        have HR2 := Lib.hid (fun w' (k : Kp (fun _ => False) wr w') => (k.cell (lt_of_cell hr2) (fun f => f)).trans hr2)
        have HX := Lib.hid hx
        have HY := Lib.hid hy
        clear hx hy hr1 hr2 hkm
        have p0 : (0 : Int) ≤ k := by omega
        have p1 : (k : Int) < l.length := by omega
        go_upto_region 6 with (fail)
        refine wp_kept (W := wr) (by kernel_rfl) (by kernel_rfl) (Kp.refl _ _) ?_
        repeat (first
          | go_big_quiet_skip
          | (go_big_quiet_want; refine quiet_load_cellZ 2 _ rfl ⟨g1, o1 + k, none⟩ rfl (.int .i64 x) _ HR1.out Try.underlying2 rfl ?_; (simp only [Act.put, List.setIfInBounds_toArray, List.set_cons_zero, List.set_cons_succ]); go_big_quiet_on)
          | (go_big_quiet_want; refine quiet_load_cellZ 2 _ rfl ⟨g2, o2 + k, none⟩ rfl (.int .i64 y) _ HR2.out Try.underlying2 rfl ?_; (simp only [Act.put, List.setIfInBounds_toArray, List.set_cons_zero, List.set_cons_succ]); go_big_quiet_on)
          | (go_big_quiet_want; go_big_quiet_op; first | go_big_quiet_on | go_big_quiet_call ((intro hk; with_reducible rfl))))
        refine wpQuiet_nil ?_
        intro w5 k5
        have K5 := Lib.hid (hkp.out.trans k5 (fun _ _ f => f))
        clear k5
        by_cases hxy : x = y
        · have hxn : (x != y) = false := by simp [hxy]
          have HXY := Lib.hid hxy
          clear hxy
          go_wp2_with fail
          go_roundw
          case rel => exact ⟨k + 1, by omega, by go_num, K5, Lib.hid (fun j x' y' hj h1 h2 => by
            rcases Nat.lt_or_ge j k with h | h
            · exact hsm.out j x' y' h h1 h2
            · obtain rfl : j = k := by omega
              rw [HX.out] at h1
              rw [HY.out] at h2
              cases h1; cases h2
              exact HXY.out)⟩
          case measure => simp [intOf]; omega
        · have hxn : (x != y) = true := by simp [hxy]
          have HF := Lib.hid (show z = false by rw [HZ.out]; exact decide_eq_false (list_neZ HX.out HY.out hxy))
          clear hxy
          go_wp2_with fail
          go_ret
          exact ⟨by rw [HF.out]; rfl, K5.out⟩
      · obtain rfl : k = l.length := by omega
        have HF := Lib.hid (show z = true by
          rw [HZ.out]
          exact decide_eq_true (list_eqZ HLN.out (fun j x y h1 h2 => hsm.out j x y ((List.getElem?_eq_some_iff.1 h1).1) h1 h2)))
        go_wp2
        go_ret
        exact ⟨by rw [HF.out]; rfl, hkp.out⟩
  · have hlen' : ((l.length : Int) != (m.length : Int)) = true := by simp; omega
    have HF := Lib.hid (show z = false by rw [HZ.out]; exact decide_eq_false (fun e => hlen (by rw [e])))
    go_enter Try.func12, Try.ntmps12
    go_wp2
    go_ret
    exact ⟨by rw [HF.out]; rfl, Kp.refl _ _⟩

set_option maxRecDepth 100000 in
set_option maxHeartbeats 1600000 in
theorem equalU_any {v1 v2 : Value} {l m : List Int} {w : World} (hs1 : SeesZ .u64 w v1 l) (hs2 : SeesZ .u64 w v2 m) :
    Calls Try.prog 13 #[v1, v2] w fun e w' => e = .returned (.bool (decide (l = m))) ∧ Kp (fun _ => False) w w' := by
  obtain ⟨a1, c1, rfl, hl1, hm1, _⟩ := hs1.form
  obtain ⟨a2, c2, rfl, hl2, hm2, _⟩ := hs2.form
  have HS1 := Lib.hid hs1
  have HS2 := Lib.hid hs2
  obtain ⟨z, hz⟩ : ∃ z, z = decide (l = m) := ⟨_, rfl⟩
  have HZ := Lib.hid hz
  rw [← hz]
  clear hs1 hs2 hz
  by_cases hlen : l.length = m.length
  · have hlen' : ((l.length : Int) != (m.length : Int)) = false := by simp; omega
    have HLN := Lib.hid hlen
    have hml : m.length = l.length := hlen.symm
    rw [hml] at HS2 hl2 hlen' ⊢
    clear hlen hml
    go_enter Try.func13, Try.ntmps13
    go_wp2
    go_loopw [13] (fun i wr => ∃ k : Nat, k ≤ l.length ∧ i = .int .i64 k ∧ Hid (Kp (fun _ => False) w wr) ∧ Hid (∀ (j : Nat) (x y : Int), j < k → l[j]? = some x → m[j]? = some y → x = y)) (fun i _ => l.length - (intOf i).toNat)
    case atStart => exact ⟨0, by omega, rfl, Lib.hid (Kp.refl _ _), Lib.hid (fun j x y h => by omega)⟩
    case round =>
      obtain ⟨k, hk, rfl, hkp, hsm⟩ := hrel
      by_cases hlt : k < l.length
      · obtain ⟨x, hx⟩ : ∃ x, l[k]? = some x := ⟨l[k], by simp⟩
        have hkm : k < m.length := by have := HLN.out; omega
        obtain ⟨y, hy⟩ : ∃ y, m[k]? = some y := ⟨m[k], List.getElem?_eq_getElem _⟩
        obtain ⟨g1, o1, rfl, hr1⟩ := (HS1.out.kept hkp.out).at hx
        obtain ⟨g2, o2, rfl, hr2⟩ := (HS2.out.kept hkp.out).at hy
        have HR1 := Lib.hid (fun w' (k : Kp (fun _ => False) wr w') => (k.cell (lt_of_cell hr1) (fun f => f)).trans hr1)
        have HR2 := Lib.hid (fun w' (k : Kp (fun _ => False) wr w') => (k.cell (lt_of_cell hr2) (fun f => f)).trans hr2)
        have HX := Lib.hid hx
        have HY := Lib.hid hy
        clear hx hy hr1 hr2 hkm
        have p0 : (0 : Int) ≤ k := by omega
        have p1 : (k : Int) < l.length := by omega
        go_upto_region 6 with (fail)
        refine wp_kept (W := wr) (by kernel_rfl) (by kernel_rfl) (Kp.refl _ _) ?_
        repeat (first
          | go_big_quiet_skip
          | (go_big_quiet_want; refine quiet_load_cellZ 31 _ rfl ⟨g1, o1 + k, none⟩ rfl (.int .u64 x) _ HR1.out Try.underlying31 rfl ?_; (simp only [Act.put, List.setIfInBounds_toArray, List.set_cons_zero, List.set_cons_succ]); go_big_quiet_on)
          | (go_big_quiet_want; refine quiet_load_cellZ 31 _ rfl ⟨g2, o2 + k, none⟩ rfl (.int .u64 y) _ HR2.out Try.underlying31 rfl ?_; (simp only [Act.put, List.setIfInBounds_toArray, List.set_cons_zero, List.set_cons_succ]); go_big_quiet_on)
          | (go_big_quiet_want; go_big_quiet_op; first | go_big_quiet_on | go_big_quiet_call ((intro hk; with_reducible rfl))))
        refine wpQuiet_nil ?_
        intro w5 k5
        have K5 := Lib.hid (hkp.out.trans k5 (fun _ _ f => f))
        clear k5
        by_cases hxy : x = y
        · have hxn : (x != y) = false := by simp [hxy]
          have HXY := Lib.hid hxy
          clear hxy
          go_wp2_with fail
          go_roundw
          case rel => exact ⟨k + 1, by omega, by go_num, K5, Lib.hid (fun j x' y' hj h1 h2 => by
            rcases Nat.lt_or_ge j k with h | h
            · exact hsm.out j x' y' h h1 h2
            · obtain rfl : j = k := by omega
              rw [HX.out] at h1
              rw [HY.out] at h2
              cases h1; cases h2
              exact HXY.out)⟩
          case measure => simp [intOf]; omega
        · have hxn : (x != y) = true := by simp [hxy]
          have HF := Lib.hid (show z = false by rw [HZ.out]; exact decide_eq_false (list_neZ HX.out HY.out hxy))
          clear hxy
          go_wp2_with fail
          go_ret
          exact ⟨by rw [HF.out]; rfl, K5.out⟩
      · obtain rfl : k = l.length := by omega
        have HF := Lib.hid (show z = true by
          rw [HZ.out]
          exact decide_eq_true (list_eqZ HLN.out (fun j x y h1 h2 => hsm.out j x y ((List.getElem?_eq_some_iff.1 h1).1) h1 h2)))
        go_wp2
        go_ret
        exact ⟨by rw [HF.out]; rfl, hkp.out⟩
  · have hlen' : ((l.length : Int) != (m.length : Int)) = true := by simp; omega
    have HF := Lib.hid (show z = false by rw [HZ.out]; exact decide_eq_false (fun e => hlen (by rw [e])))
    go_enter Try.func13, Try.ntmps13
    go_wp2
    go_ret
    exact ⟨by rw [HF.out]; rfl, Kp.refl _ _⟩

set_option maxRecDepth 100000 in
set_option maxHeartbeats 1600000 in
theorem equalI_any {v1 v2 : Value} {l m : List Int} {w : World} (hs1 : SeesZ .i64 w v1 l) (hs2 : SeesZ .i64 w v2 m) :
    Calls Try.prog 20 #[v1, v2] w fun e w' => e = .returned (.bool (decide (l = m))) ∧ Kp (fun _ => False) w w' := by
  obtain ⟨a1, c1, rfl, hl1, hm1, _⟩ := hs1.form
  obtain ⟨a2, c2, rfl, hl2, hm2, _⟩ := hs2.form
  have HS1 := Lib.hid hs1
  have HS2 := Lib.hid hs2
  obtain ⟨z, hz⟩ : ∃ z, z = decide (l = m) := ⟨_, rfl⟩
  have HZ := Lib.hid hz
  rw [← hz]
  clear hs1 hs2 hz
  by_cases hlen : l.length = m.length
  · have hlen' : ((l.length : Int) != (m.length : Int)) = false := by simp; omega
    have HLN := Lib.hid hlen
    have hml : m.length = l.length := hlen.symm
    rw [hml] at HS2 hl2 hlen' ⊢
    clear hlen hml
    go_enter Try.func20, Try.ntmps20
    go_wp2
    go_loopw [13] (fun i wr => ∃ k : Nat, k ≤ l.length ∧ i = .int .i64 k ∧ Hid (Kp (fun _ => False) w wr) ∧ Hid (∀ (j : Nat) (x y : Int), j < k → l[j]? = some x → m[j]? = some y → x = y)) (fun i _ => l.length - (intOf i).toNat)
    case atStart => exact ⟨0, by omega, rfl, Lib.hid (Kp.refl _ _), Lib.hid (fun j x y h => by omega)⟩
    case round =>
      obtain ⟨k, hk, rfl, hkp, hsm⟩ := hrel
      by_cases hlt : k < l.length
      · obtain ⟨x, hx⟩ : ∃ x, l[k]? = some x := ⟨l[k], by simp⟩
        have hkm : k < m.length := by have := HLN.out; omega
        obtain ⟨y, hy⟩ : ∃ y, m[k]? = some y := ⟨m[k], List.getElem?_eq_getElem _⟩
        obtain ⟨g1, o1, rfl, hr1⟩ := (HS1.out.kept hkp.out).at hx
        obtain ⟨g2, o2, rfl, hr2⟩ := (HS2.out.kept hkp.out).at hy
        have HR1 := Lib.hid (fun w' (k : Kp (fun _ => False) wr w') => (k.cell (lt_of_cell hr1) (fun f => f)).trans hr1)
        have HR2 := Lib.hid (fun w' (k : Kp (fun _ => False) wr w') => (k.cell (lt_of_cell hr2) (fun f => f)).trans hr2)
        have HX := Lib.hid hx
        have HY := Lib.hid hy
        clear hx hy hr1 hr2 hkm
        have p0 : (0 : Int) ≤ k := by omega
        have p1 : (k : Int) < l.length := by omega
        go_upto_region 6 with (fail)
        refine wp_kept (W := wr) (by kernel_rfl) (by kernel_rfl) (Kp.refl _ _) ?_
        repeat (first
          | go_big_quiet_skip
          | (go_big_quiet_want; refine quiet_load_cellZ 3 _ rfl ⟨g1, o1 + k, none⟩ rfl (.int .i64 x) _ HR1.out Try.underlying3 rfl ?_; (simp only [Act.put, List.setIfInBounds_toArray, List.set_cons_zero, List.set_cons_succ]); go_big_quiet_on)
          | (go_big_quiet_want; refine quiet_load_cellZ 3 _ rfl ⟨g2, o2 + k, none⟩ rfl (.int .i64 y) _ HR2.out Try.underlying3 rfl ?_; (simp only [Act.put, List.setIfInBounds_toArray, List.set_cons_zero, List.set_cons_succ]); go_big_quiet_on)
          | (go_big_quiet_want; go_big_quiet_op; first | go_big_quiet_on | go_big_quiet_call ((intro hk; with_reducible rfl))))
        refine wpQuiet_nil ?_
        intro w5 k5
        have K5 := Lib.hid (hkp.out.trans k5 (fun _ _ f => f))
        clear k5
        by_cases hxy : x = y
        · have hxn : (x != y) = false := by simp [hxy]
          have HXY := Lib.hid hxy
          clear hxy
          go_wp2_with fail
          go_roundw
          case rel => exact ⟨k + 1, by omega, by go_num, K5, Lib.hid (fun j x' y' hj h1 h2 => by
            rcases Nat.lt_or_ge j k with h | h
            · exact hsm.out j x' y' h h1 h2
            · obtain rfl : j = k := by omega
              rw [HX.out] at h1
              rw [HY.out] at h2
              cases h1; cases h2
              exact HXY.out)⟩
          case measure => simp [intOf]; omega
        · have hxn : (x != y) = true := by simp [hxy]
          have HF := Lib.hid (show z = false by rw [HZ.out]; exact decide_eq_false (list_neZ HX.out HY.out hxy))
          clear hxy
          go_wp2_with fail
          go_ret
          exact ⟨by rw [HF.out]; rfl, K5.out⟩
      · obtain rfl : k = l.length := by omega
        have HF := Lib.hid (show z = true by
          rw [HZ.out]
          exact decide_eq_true (list_eqZ HLN.out (fun j x y h1 h2 => hsm.out j x y ((List.getElem?_eq_some_iff.1 h1).1) h1 h2)))
        go_wp2
        go_ret
        exact ⟨by rw [HF.out]; rfl, hkp.out⟩
  · have hlen' : ((l.length : Int) != (m.length : Int)) = true := by simp; omega
    have HF := Lib.hid (show z = false by rw [HZ.out]; exact decide_eq_false (fun e => hlen (by rw [e])))
    go_enter Try.func20, Try.ntmps20
    go_wp2
    go_ret
    exact ⟨by rw [HF.out]; rfl, Kp.refl _ _⟩
end Go.Proofs.Ytpadabmbblcklaa
