/-
  slices.Equal of validators.
-/
import Derived.Test.YtanmgfpogomgcaaDj
import Derived.Laws.StructEq
namespace Go.Proofs.Ytanmgfpogomgcaa
open Go.RowKit

theorem quiet_load_midV {P : Program} {C : World → Prop} {a : Act} {o : Oper} {K : Act → Prop} (ty : TypeId) (x : Operand) (ho : o.op = .load ty x)
    (g off : Nat) (hx : a.eval x = .pointer (some ⟨g, off, none⟩)) (cs : List Value) (d : TypeDesc) (hc : ∀ w, C w → w.rangeAt g off cs)
    (hu : P.underlying ty = some d) (hd : d.isRow = true) (hi : (P.info? ty).map (·.size) = some cs.length)
    (h : K (a.put o.dst (.agg cs.toArray))) : o.quiet P a C K :=
  ⟨.agg cs.toArray, fun w hw => by
    unfold Oper.quietAt execOp
    simp only [ho, hx, Instr.loadAt, Instr.sureAddr, Sem.run_bind, Sem.run_pure, Result.andThen_ok, run_loadVar_mid w g off ty cs d (hc w hw) hu hd hi]
    exact ⟨rfl, rfl⟩, h⟩

theorem eq_vd (x y : Vd) (w : World) : (binOp BinOp.neq 31 (.agg (vdC x).toArray) (.agg (vdC y).toArray)).run Try.prog w = .ok (.bool (!(decide (x = y)))) w := by
  have h1 : (decide (x = y)) = (x.name.toList == y.name.toList && x.wt == y.wt) := by
    obtain ⟨n1, w1⟩ := x
    obtain ⟨n2, w2⟩ := y
    by_cases hn : n1 = n2
    · subst hn
      rw [name_eq rfl, Bool.eq_iff_iff]
      simp
    · rw [name_ne hn]
      simp [hn]
  rw [h1, run_neq_struct, run_equalIn_agg _ 9999 _ _ _ (by kernel_rfl) (by kernel_rfl)]
  obtain ⟨f0, f1, hf, t0, t1, o0, o1, n0, n1⟩ : ∃ f0 f1 : Field, (Try.prog.fieldsOf 31).toList = [f0, f1] ∧ f0.type = 9 ∧ f1.type = 2 ∧ f0.offset = 0 ∧ f1.offset = 1 ∧ f0.name ≠ "_" ∧ f1.name ≠ "_" := ⟨_, _, rfl, rfl, rfl, rfl, rfl, by decide, by decide⟩
  rw [hf]
  have i0 : (Try.prog.info? 9).map (·.size) = some 1 := by kernel_rfl
  have i1 : (Try.prog.info? 2).map (·.size) = some 1 := by kernel_rfl
  have g0 : ∀ w : World, (isAgg 9).run Try.prog w = .ok false w := fun w => by kernel_rfl
  have g1 : ∀ w : World, (isAgg 2).run Try.prog w = .ok false w := fun w => by kernel_rfl
  simp [Op.eqFields, t0, t1, o0, o1, n0, n1, part, g0, g1, vdC, run_equalIn_string, run_equalIn_int, Try.underlying9, Try.underlying2]
  by_cases h2 : x.name.toList = y.name.toList
  · by_cases h3 : x.wt = y.wt
    · simp [h2, h3]
    · simp [h2, h3]
  · simp [h2]

theorem list_neV {l m : List Vd} {k : Nat} {x y : Vd} (hx : l[k]? = some x) (hy : m[k]? = some y) (h : x ≠ y) : l ≠ m := fun e => by
  subst e; rw [hx] at hy; cases hy; exact h rfl
theorem list_eqV {l m : List Vd} (hl : l.length = m.length) (h : ∀ (k : Nat) (x y : Vd), l[k]? = some x → m[k]? = some y → x = y) : l = m := by
  apply List.ext_getElem hl
  intro k h1 h2
  exact h k _ _ (List.getElem?_eq_getElem h1) (List.getElem?_eq_getElem h2)

set_option maxRecDepth 100000 in
set_option maxHeartbeats 1600000 in
theorem equalV_any {v1 v2 : Value} {l m : List Vd} {w : World} (hs1 : SeesV w v1 l) (hs2 : SeesV w v2 m) :
    Calls Try.prog 12 #[v1, v2] w fun e w' => e = .returned (.bool (decide (l = m))) ∧ Kp (fun _ => False) w w' := by
  obtain ⟨a1, c1, rfl, hl1, hm1⟩ := hs1.form
  obtain ⟨a2, c2, rfl, hl2, hm2⟩ := hs2.form
  have HS1 := Lib.hid hs1
  have HS2 := Lib.hid hs2
  have HI := Lib.hid infoVd
  obtain ⟨z, hz⟩ : ∃ z, z = decide (l = m) := ⟨_, rfl⟩
  have HZ := Lib.hid hz
  rw [← hz]
  clear hs1 hs2 hz
  by_cases hlen : l.length = m.length
  · have hlen' : ((l.length : Int) != (m.length : Int)) = false := by simp; omega
    have HLN := Lib.hid hlen
    have hml : m.length = l.length := hlen.symm
    rw [hml] at HS2 hl2 hlen' ⊢
    clear hlen hml
    go_enter Try.func12, Try.ntmps12
    go_wp2
    go_loopw [13] (fun i wr => ∃ k : Nat, k ≤ l.length ∧ i = .int .i64 k ∧ Hid (Kp (fun _ => False) w wr) ∧ Hid (∀ (j : Nat) (x y : Vd), j < k → l[j]? = some x → m[j]? = some y → x = y)) (fun i _ => l.length - (intOf i).toNat)
    case atStart => exact ⟨0, by omega, rfl, Lib.hid (Kp.refl _ _), Lib.hid (fun j x y h => by omega)⟩
    case round =>
      obtain ⟨k, hk, rfl, hkp, hsm⟩ := hrel
      by_cases hlt : k < l.length
      · obtain ⟨x, hx⟩ : ∃ x, l[k]? = some x := ⟨l[k], by simp⟩
        have hkm : k < m.length := by have := HLN.out; omega
        obtain ⟨y, hy⟩ : ∃ y, m[k]? = some y := ⟨m[k], List.getElem?_eq_getElem _⟩
        obtain ⟨g1, o1, rfl, hr1, _⟩ := (HS1.out.kept hkp.out).at hx
        obtain ⟨g2, o2, rfl, hr2, _⟩ := (HS2.out.kept hkp.out).at hy
        have HR1 := Lib.hid (fun w' (k : Kp (fun _ => False) wr w') => range_kept hr1 k (fun f => f))
        have HR2 := Lib.hid (fun w' (k : Kp (fun _ => False) wr w') => range_kept hr2 k (fun f => f))
        have HX := Lib.hid hx
        have HY := Lib.hid hy
        have heq := eq_vd x y
        obtain ⟨b, hb⟩ : ∃ b, b = decide (x = y) := ⟨_, rfl⟩
        rw [← hb] at heq
        have HB := Lib.hid hb
        clear hx hy hr1 hr2 hb hkm
        have p0 : (0 : Int) ≤ k := by omega
        have p1 : (k : Int) < l.length := by omega
        go_upto_region 6 with (fail)
        refine wp_kept (W := wr) (by kernel_rfl) (by kernel_rfl) (Kp.refl _ _) ?_
        repeat (first
          | go_big_quiet_skip
          | (go_big_quiet_want; refine quiet_load_midV 31 _ rfl g1 (o1 + k * 2) rfl (vdC x) _ HR1.out Try.underlying31 rfl HI.out ?_; (simp only [Act.put, List.setIfInBounds_toArray, List.set_cons_zero, List.set_cons_succ]); go_big_quiet_on)
          | (go_big_quiet_want; refine quiet_load_midV 31 _ rfl g2 (o2 + k * 2) rfl (vdC y) _ HR2.out Try.underlying31 rfl HI.out ?_; (simp only [Act.put, List.setIfInBounds_toArray, List.set_cons_zero, List.set_cons_succ]); go_big_quiet_on)
          | (go_big_quiet_want; go_big_quiet_op; first | go_big_quiet_on | go_big_quiet_call ((intro hk; with_reducible rfl))))
        refine wpQuiet_nil ?_
        intro w5 k5
        have K5 := Lib.hid (hkp.out.trans k5 (fun _ _ f => f))
        clear k5
        cases b
        · have HF := Lib.hid (show z = false by rw [HZ.out]; exact decide_eq_false (list_neV HX.out HY.out (of_decide_eq_false HB.out.symm)))
          go_wp2_with fail
          go_ret
          exact ⟨by rw [HF.out]; rfl, K5.out⟩
        · go_wp2_with fail
          go_roundw
          case rel => exact ⟨k + 1, by omega, by go_num, K5, Lib.hid (fun j x' y' hj h1 h2 => by
            rcases Nat.lt_or_ge j k with h | h
            · exact hsm.out j x' y' h h1 h2
            · obtain rfl : j = k := by omega
              rw [HX.out] at h1
              rw [HY.out] at h2
              cases h1; cases h2
              exact of_decide_eq_true HB.out.symm)⟩
          case measure => simp [intOf]; omega
      · obtain rfl : k = l.length := by omega
        have HF := Lib.hid (show z = true by
          rw [HZ.out]
          exact decide_eq_true (list_eqV HLN.out (fun j x y h1 h2 => hsm.out j x y ((List.getElem?_eq_some_iff.1 h1).1) h1 h2)))
        go_wp2
        go_ret
        exact ⟨by rw [HF.out]; rfl, hkp.out⟩
  · have hlen' : ((l.length : Int) != (m.length : Int)) = true := by simp; omega
    have HF := Lib.hid (show z = false by rw [HZ.out]; exact decide_eq_false (fun e => hlen (by rw [e])))
    go_enter Try.func12, Try.ntmps12
    go_wp2
    go_ret
    exact ⟨by rw [HF.out]; rfl, Kp.refl _ _⟩
end Go.Proofs.Ytanmgfpogomgcaa
