/-
  Pairs of numbers: what shows them; slices.Equal of them.
-/
import Derived.Test.YtpadabmbblcklaaEb
import Derived.Test.YtpadabmbblcklaaEc
import Derived.Deep.MidRow
import Derived.Laws.StructEq
import Derived.Laws.Rows
import Derived.Laws.Tables
namespace Go.Proofs.Ytpadabmbblcklaa
open Go.RowKit

/-- a pair's cells -/
def pC (x : Int × Int) : List Value := [.int .i64 x.1, .int .i64 x.2]
theorem infoPr : (Try.prog.info? 46).map (·.size) = some 2 := by kernel_rfl
theorem infoPr3 : (Try.prog.info? 46).map (fun i => (i.zero, i.size, i.bytes)) = some (some (.agg #[.int .i64 0, .int .i64 0]), 2, 16) := by kernel_rfl
/-- a slice that shows these validators -/
def SeesP (w : World) (v : Value) (l : List (Int × Int)) : Prop :=
  ∃ a cap, v = .slice a l.length cap ∧ l.length ≤ cap ∧ cap ≤ maxLen ∧ (a = none → cap = 0) ∧ ∀ i x, l[i]? = some x → ∃ g off, a = some ⟨g, off, none⟩ ∧ w.rangeAt g (off + i * 2) (pC x)
theorem prange_lt {w : World} {g off : Nat} {x : Int × Int} (h : w.rangeAt g off (pC x)) : g < w.heap.size := lt_of_cell (h 0 _ rfl)
theorem prange_kept {F : Nat → Prop} {w w' : World} {g off : Nat} {x : Int × Int} (h : w.rangeAt g off (pC x)) (k : Kp F w w') (hF : ¬ F g) : w'.rangeAt g off (pC x) := fun j u hj => by
  rw [k.cell (prange_lt h) hF]; exact h j u hj
theorem SeesP.kept {w w' : World} {v : Value} {l : List (Int × Int)} (h : SeesP w v l) (k : Kp (fun _ => False) w w') : SeesP w' v l := by
  obtain ⟨a, cap, rfl, h1, h2, h3, h4⟩ := h
  exact ⟨a, cap, rfl, h1, h2, h3, fun i x hi => by
    obtain ⟨g, off, e, hr⟩ := h4 i x hi
    exact ⟨g, off, e, prange_kept hr k (fun f => f)⟩⟩
theorem SeesP.form {w : World} {v : Value} {l : List (Int × Int)} (h : SeesP w v l) : ∃ a c, v = .slice a l.length c ∧ l.length ≤ c ∧ c ≤ 9223372036854775807 := by
  obtain ⟨a, cap, rfl, h1, h2, _⟩ := h
  exact ⟨_, _, rfl, h1, h2⟩
theorem SeesP.at {w : World} {a : Option Addr} {n c : Nat} {l : List (Int × Int)} (h : SeesP w (.slice a n c) l) {k : Nat} {x : Int × Int} (hk : l[k]? = some x) :
    ∃ g off, a = some ⟨g, off, none⟩ ∧ w.rangeAt g (off + k * 2) (pC x) ∧ w.cell? ⟨g, off + k * 2, none⟩ = some (.int .i64 x.1) ∧ w.cell? ⟨g, off + k * 2 + 1, none⟩ = some (.int .i64 x.2) := by
  obtain ⟨a', cap, e, _, _, _, h4⟩ := h
  obtain ⟨g, off, e2, hr⟩ := h4 k x hk
  injection e with e1 _ _
  exact ⟨g, off, by rw [e1, e2], hr, hr 0 _ rfl, hr 1 _ rfl⟩
theorem SeesP.take {w : World} {a : Option Addr} {n c : Nat} {l : List (Int × Int)} (h : SeesP w (.slice a n c) l) {k : Nat} (hk : k ≤ l.length) : SeesP w (.slice a k c) (l.take k) := by
  obtain ⟨a', cap, e, h1, h2, h3, h4⟩ := h
  injection e with e1 e2 e3
  subst e1 e3
  refine ⟨a, c, by rw [List.length_take, Nat.min_eq_left hk], by rw [List.length_take]; omega, h2, h3, fun i x hi => ?_⟩
  rw [List.getElem?_take] at hi
  split at hi
  · exact h4 i x hi
  · cases hi
/-- all cells -/
def pCs (l : List (Int × Int)) : List Value := l.flatMap pC
theorem pCs_length (l : List (Int × Int)) : (pCs l).length = l.length * 2 := by
  induction l with
  | nil => rfl
  | cons x r ih =>
    rw [pCs, List.flatMap_cons, List.length_append, ← pCs, ih, List.length_cons]
    show 2 + r.length * 2 = _
    omega
theorem pCs_get {l : List (Int × Int)} {i j : Nat} {x : Int × Int} {u : Value} (hi : l[i]? = some x) (hj : (pC x)[j]? = some u) : (pCs l)[i * 2 + j]? = some u := by
  have hj2 : j < 2 := (List.getElem?_eq_some_iff.1 hj).1
  induction l generalizing i with
  | nil => cases hi
  | cons y r ih =>
    rw [pCs, List.flatMap_cons, ← pCs]
    cases i with
    | zero =>
      cases hi
      rw [List.getElem?_append_left (by show 0 * 2 + j < 2; omega), Nat.zero_mul, Nat.zero_add]
      exact hj
    | succ i =>
      rw [List.getElem?_append_right (by show 2 ≤ _; omega), show (i + 1) * 2 + j - (pC y).length = i * 2 + j by show _ - 2 = _; omega]
      exact ih hi
theorem pCs_inv {l : List (Int × Int)} {k : Nat} {u : Value} (h : (pCs l)[k]? = some u) : ∃ i j x, k = i * 2 + j ∧ l[i]? = some x ∧ (pC x)[j]? = some u := by
  have hk := (List.getElem?_eq_some_iff.1 h).1
  rw [pCs_length] at hk
  obtain ⟨x, hx⟩ : ∃ x, l[k / 2]? = some x := ⟨l[k / 2], by simp [show k / 2 < l.length by omega]⟩
  have hj : k % 2 < (pC x).length := by show _ < 2; omega
  obtain ⟨u', hu'⟩ : ∃ u', (pC x)[k % 2]? = some u' := ⟨(pC x)[k % 2], by simp⟩
  have h2 := pCs_get hx hu'
  rw [show k / 2 * 2 + k % 2 = k by omega, h] at h2
  cases h2
  exact ⟨k / 2, k % 2, x, by omega, hx, hu'⟩
theorem pCs_one (l : List (Int × Int)) : ∀ u ∈ pCs l, u.oneCell' = true := by
  intro u hu
  obtain ⟨x, _, hx⟩ := List.mem_flatMap.1 hu
  simp only [pC, List.mem_cons, List.not_mem_nil, or_false] at hx
  rcases hx with rfl | rfl <;> rfl
theorem SeesP.src {w : World} {a : Option Addr} {n c : Nat} {l : List (Int × Int)} (h : SeesP w (.slice a n c) l) : Src Try.prog 2 44 (.slice a n c) l.length (pCs l) w := by
  obtain ⟨a', cap, e, h1, h2, h3, h4⟩ := h
  injection e with e1 e2 e3
  subst e1 e2 e3
  cases a with
  | none =>
    obtain rfl : l = [] := List.eq_nil_of_length_eq_zero (by have := h3 rfl; omega)
    exact Src.ofNil _ Try.underlying44 c
  | some ad =>
    refine Src.ofSlice _ Try.underlying44 ad l.length c (pCs l) (pCs_length l) (fun k u hk => ?_) (pCs_one l)
    obtain ⟨i, j, x, rfl, hx, hj⟩ := pCs_inv hk
    obtain ⟨g, off, e, hr⟩ := h4 i x hx
    cases e
    rw [Addr.add_lit]
    have := hr j u hj
    rw [← this]
    congr 2
    omega
theorem OwnG.seesP {w : World} {B : Nat} {v : Value} {l : List (Int × Int)} (h : OwnG 46 2 w B v l.length (pCs l)) : SeesP w v l := by
  obtain ⟨_, ⟨rfl, h0⟩ | ⟨g, cap, rest, rfl, _, h2, _, h4, h5⟩⟩ := h
  · obtain rfl : l = [] := List.eq_nil_of_length_eq_zero h0
    exact ⟨none, 0, rfl, by simp, by simp, fun _ => rfl, fun i x hi => by cases hi⟩
  · refine ⟨_, cap, rfl, h4, h5, (by intro e; cases e), fun i x hi => ⟨g, 0, rfl, fun j u hj => ?_⟩⟩
    rw [cell_blk h2, Nat.zero_add, List.getElem?_toArray, List.getElem?_append_left (List.getElem?_eq_some_iff.1 (pCs_get hi hj)).1]
    exact pCs_get hi hj


theorem eq_pair (x y : Int × Int) (w : World) : (binOp BinOp.neq 46 (.agg (pC x).toArray) (.agg (pC y).toArray)).run Try.prog w = .ok (.bool (!(decide (x = y)))) w := by
  have h1 : (decide (x = y)) = (x.1 == y.1 && x.2 == y.2) := by
    obtain ⟨n1, w1⟩ := x
    obtain ⟨n2, w2⟩ := y
    rw [Bool.eq_iff_iff]
    simp
  rw [h1, run_neq_struct, run_equalIn_agg _ 9999 _ _ _ (by kernel_rfl) (by kernel_rfl)]
  obtain ⟨f0, f1, hf, t0, t1, o0, o1, n0, n1⟩ : ∃ f0 f1 : Field, (Try.prog.fieldsOf 46).toList = [f0, f1] ∧ f0.type = 3 ∧ f1.type = 3 ∧ f0.offset = 0 ∧ f1.offset = 1 ∧ f0.name ≠ "_" ∧ f1.name ≠ "_" := ⟨_, _, rfl, rfl, rfl, rfl, rfl, by decide, by decide⟩
  rw [hf]
  have i1 : (Try.prog.info? 3).map (·.size) = some 1 := by kernel_rfl
  have g1 : ∀ w : World, (isAgg 3).run Try.prog w = .ok false w := fun w => by kernel_rfl
  simp [Op.eqFields, t0, t1, o0, o1, n0, n1, part, g1, pC, run_equalIn_int, Try.underlying3]
  by_cases h2 : x.1 = y.1
  · by_cases h3 : x.2 = y.2
    · simp [h2, h3]
    · simp [h2, h3]
  · simp [h2]
theorem quiet_load_midP {P : Program} {C : World → Prop} {a : Act} {o : Oper} {K : Act → Prop} (ty : TypeId) (x : Operand) (ho : o.op = .load ty x)
    (g off : Nat) (hx : a.eval x = .pointer (some ⟨g, off, none⟩)) (cs : List Value) (d : TypeDesc) (hc : ∀ w, C w → w.rangeAt g off cs)
    (hu : P.underlying ty = some d) (hd : d.isRow = true) (hi : (P.info? ty).map (·.size) = some cs.length)
    (h : K (a.put o.dst (.agg cs.toArray))) : o.quiet P a C K :=
  ⟨.agg cs.toArray, fun w hw => by
    unfold Oper.quietAt execOp
    simp only [ho, hx, Instr.loadAt, Instr.sureAddr, Sem.run_bind, Sem.run_pure, Result.andThen_ok, run_loadVar_mid w g off ty cs d (hc w hw) hu hd hi]
    exact ⟨rfl, rfl⟩, h⟩

theorem list_neP {l m : List (Int × Int)} {k : Nat} {x y : Int × Int} (hx : l[k]? = some x) (hy : m[k]? = some y) (h : x ≠ y) : l ≠ m := fun e => by
  subst e; rw [hx] at hy; cases hy; exact h rfl
theorem list_eqP {l m : List (Int × Int)} (hl : l.length = m.length) (h : ∀ (k : Nat) (x y : Int × Int), l[k]? = some x → m[k]? = some y → x = y) : l = m := by
  apply List.ext_getElem hl
  intro k h1 h2
  exact h k _ _ (List.getElem?_eq_getElem h1) (List.getElem?_eq_getElem h2)

set_option maxRecDepth 100000 in
set_option maxHeartbeats 1600000 in
theorem equalP_any {v1 v2 : Value} {l m : List (Int × Int)} {w : World} (hs1 : SeesP w v1 l) (hs2 : SeesP w v2 m) :
    Calls Try.prog 23 #[v1, v2] w fun e w' => e = .returned (.bool (decide (l = m))) ∧ Kp (fun _ => False) w w' := by
  obtain ⟨a1, c1, rfl, hl1, hm1⟩ := hs1.form
  obtain ⟨a2, c2, rfl, hl2, hm2⟩ := hs2.form
  have HS1 := Lib.hid hs1
  have HS2 := Lib.hid hs2
  have HI := Lib.hid infoPr
  obtain ⟨z, hz⟩ : ∃ z, z = decide (l = m) := ⟨_, rfl⟩
  have HZ := Lib.hid hz
  rw [← hz]
  clear hs1 hs2 hz
  by_cases hlen : l.length = m.length
  · have hlen' : ((l.length : Int) != (m.length : Int)) = false := by simp; omega
    have HLN := Lib.hid hlen
    have hml : m.length = l.length := hlen.symm
    rw [hml] at HS2 hl2 hlen' ⊢
    clear hlen hml
    go_enter Try.func23, Try.ntmps23
    go_wp2
    go_loopw [13] (fun i wr => ∃ k : Nat, k ≤ l.length ∧ i = .int .i64 k ∧ Hid (Kp (fun _ => False) w wr) ∧ Hid (∀ (j : Nat) (x y : Int × Int), j < k → l[j]? = some x → m[j]? = some y → x = y)) (fun i _ => l.length - (intOf i).toNat)
    case atStart => exact ⟨0, by omega, rfl, Lib.hid (Kp.refl _ _), Lib.hid (fun j x y h => by omega)⟩
    case round =>
      obtain ⟨k, hk, rfl, hkp, hsm⟩ := hrel
      by_cases hlt : k < l.length
      · obtain ⟨x, hx⟩ : ∃ x, l[k]? = some x := ⟨l[k], by simp⟩
        have hkm : k < m.length := by have := HLN.out; omega
        obtain ⟨y, hy⟩ : ∃ y, m[k]? = some y := ⟨m[k], List.getElem?_eq_getElem _⟩
        obtain ⟨g1, o1, rfl, hr1, _⟩ := (HS1.out.kept hkp.out).at hx
        obtain ⟨g2, o2, rfl, hr2, _⟩ := (HS2.out.kept hkp.out).at hy
        have HR1 := Lib.hid (fun w' (k : Kp (fun _ => False) wr w') => prange_kept hr1 k (fun f => f))
        have HR2 := Lib.hid (fun w' (k : Kp (fun _ => False) wr w') => prange_kept hr2 k (fun f => f))
        have HX := Lib.hid hx
        have HY := Lib.hid hy
        have heq := eq_pair x y
        obtain ⟨b, hb⟩ : ∃ b, b = decide (x = y) := ⟨_, rfl⟩
        rw [← hb] at heq
        have HB := Lib.hid hb
        clear hx hy hr1 hr2 hb hkm
        have p0 : (0 : Int) ≤ k := by omega
        have p1 : (k : Int) < l.length := by omega
        go_upto_region 6 with (fail)
        refine wp_kept (W := wr) (by kernel_rfl) (by kernel_rfl) (Kp.refl _ _) ?_
        repeat (first
          | go_big_quiet_skip
          | (go_big_quiet_want; refine quiet_load_midP 46 _ rfl g1 (o1 + k * 2) rfl (pC x) _ HR1.out Try.underlying46 rfl HI.out ?_; (simp only [Act.put, List.setIfInBounds_toArray, List.set_cons_zero, List.set_cons_succ]); go_big_quiet_on)
          | (go_big_quiet_want; refine quiet_load_midP 46 _ rfl g2 (o2 + k * 2) rfl (pC y) _ HR2.out Try.underlying46 rfl HI.out ?_; (simp only [Act.put, List.setIfInBounds_toArray, List.set_cons_zero, List.set_cons_succ]); go_big_quiet_on)
          | (go_big_quiet_want; go_big_quiet_op; first | go_big_quiet_on | go_big_quiet_call ((intro hk; with_reducible rfl))))
        refine wpQuiet_nil ?_
        intro w5 k5
        have K5 := Lib.hid (hkp.out.trans k5 (fun _ _ f => f))
        clear k5
        cases b
        · have HF := Lib.hid (show z = false by rw [HZ.out]; exact decide_eq_false (list_neP HX.out HY.out (of_decide_eq_false HB.out.symm)))
          go_wp2_with fail
          go_ret
          exact ⟨by rw [HF.out]; rfl, K5.out⟩
        · go_wp2_with fail
          go_roundw
          case rel => exact ⟨k + 1, by omega, by go_num, K5, Lib.hid (fun j x' y' hj h1 h2 => by
            rcases Nat.lt_or_ge j k with h | h
            · exact hsm.out j x' y' h h1 h2
            · obtain rfl : j = k := by omega
              rw [HX.out] at h1
              rw [HY.out] at h2
              cases h1; cases h2
              exact of_decide_eq_true HB.out.symm)⟩
          case measure => simp [intOf]; omega
      · obtain rfl : k = l.length := by omega
        have HF := Lib.hid (show z = true by
          rw [HZ.out]
          exact decide_eq_true (list_eqP HLN.out (fun j x y h1 h2 => hsm.out j x y ((List.getElem?_eq_some_iff.1 h1).1) h1 h2)))
        go_wp2
        go_ret
        exact ⟨by rw [HF.out]; rfl, hkp.out⟩
  · have hlen' : ((l.length : Int) != (m.length : Int)) = true := by simp; omega
    have HF := Lib.hid (show z = false by rw [HZ.out]; exact decide_eq_false (fun e => hlen (by rw [e])))
    go_enter Try.func23, Try.ntmps23
    go_wp2
    go_ret
    exact ⟨by rw [HF.out]; rfl, Kp.refl _ _⟩
end Go.Proofs.Ytpadabmbblcklaa
