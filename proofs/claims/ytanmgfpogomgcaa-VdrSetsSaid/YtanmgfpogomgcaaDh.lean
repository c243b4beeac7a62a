/-
  Whose a unit is: At; which units one has: Units and the document's.
-/
import Derived.Test.YtanmgfpogomgcaaDg
namespace Go.Proofs.Ytanmgfpogomgcaa
open Go.RowKit

/-- a single cell loaded, in a region that draws -/
theorem quiet_load_cell {P : Program} {C : World → Prop} {a : Act} {o : Oper} {K : Act → Prop} (ty : TypeId) (x : Operand) (ho : o.op = .load ty x)
    (p : Addr) (hx : a.eval x = .pointer (some p)) (u : Value) (d : TypeDesc) (hc : ∀ w, C w → w.cell? p = some u)
    (hu : P.underlying ty = some d) (hd : d.isRow = false)
    (h : K (a.put o.dst u)) : o.quiet P a C K :=
  ⟨u, fun w hw => by
    have hagg : (isAgg ty).run P w = .ok false w := by
      unfold isAgg
      rw [Sem.run_bind, run_underlying hu w]
      cases d <;> simp_all
    unfold Oper.quietAt execOp
    simp only [ho, hx, Instr.loadAt, Instr.sureAddr, Sem.run_bind, Sem.run_pure, Result.andThen_ok, loadVar, hagg, Bool.false_eq_true, if_false, run_load, hc w hw]
    exact ⟨rfl, rfl⟩, h⟩

set_option maxRecDepth 100000 in
set_option maxHeartbeats 1600000 in
theorem at_any {v : Value} {l : List Vd} {w : World} (hs : SeesV w v l) (hv : VOk l) (u : Int) (hu : u ≤ 9223372036854775807) : Calls Try.prog 16 #[v, .int .i64 u] w fun e w' => e = .returned (.int .i64 (atV l u)) ∧ Kp (fun _ => False) w w' := by
  obtain ⟨a, c, rfl, hlc, hmax⟩ := hs.form
  have HS := Lib.hid hs
  have HV := Lib.hid hv
  have HC := Lib.hid (check_any hs hv)
  have hz := zeroVd
  have HI := Lib.hid infoVd
  obtain ⟨z, hz'⟩ : ∃ z, z = atV l u := ⟨_, rfl⟩
  rw [← hz']
  obtain ⟨ce, hce⟩ : ∃ ce, ce = checkE l := ⟨_, rfl⟩
  have HZ := Lib.hid (show z = cond (decide (ce = 0) && decide (0 ≤ u)) (atGo 0 l u) (-1) by rw [hz', hce]; rfl)
  have HG := Lib.hid (fun (h : ce = 0) => checkE_ok.1 (hce.symm.trans h))
  rw [← hce] at HC
  clear hs hv hz' hce
  go_enter Try.func16, Try.ntmps16
  go_wp2_with fail
  refine HC.out.mono ?_
  rintro e w2 ⟨rfl, k2⟩
  have K2 := Lib.hid k2
  clear k2
  by_cases h0 : ce = 0
  · have h0' : (ce != 0) = false := by simp [h0]
    by_cases hn : u < 0
    · have HF := Lib.hid (show z = -1 by rw [HZ.out, decide_eq_true h0, decide_eq_false (by omega)]; rfl)
      go_wp2
      go_ret
      exact ⟨by rw [HF.out]; rfl, K2.out⟩
    · have HF := Lib.hid (show z = atGo 0 l u by rw [HZ.out, decide_eq_true h0, decide_eq_true (by omega)]; rfl)
      have G := HG.out h0
      have HG := Lib.hid G
      clear G
      go_wp2
      go_loopw [1, 16] (fun uv i wr => ∃ (k : Nat) (q : Int), k ≤ l.length ∧ i = .int .i64 k ∧ uv = .int .i64 q ∧ (0 ≤ q ∧ q ≤ 9223372036854775807) ∧ Kp (fun _ => False) w wr ∧ Hid (z = atGo k (l.drop k) q)) (fun _ i _ => l.length - (intOf i).toNat)
      case atStart => exact ⟨0, u, by omega, rfl, rfl, by omega, K2.out, HF⟩
      case round =>
        obtain ⟨k, q, hk, rfl, rfl, ⟨hq0, hq1⟩, hkp, hsm⟩ := hrel
        by_cases hlt : k < l.length
        · obtain ⟨x, hx⟩ : ∃ x, l[k]? = some x := ⟨l[k], by simp [hlt]⟩
          obtain ⟨g, off, rfl, hr, _⟩ := (HS.out.kept hkp).at hx
          have hw := HG.out.pos hx
          have hw1 := (vok_at HV.out hx).hi
          have HE := Lib.hid (hsm.out.trans (atGo_at hx q))
          have HR := Lib.hid hr
          have HK := Lib.hid hkp
          clear hx hsm hr hkp
          by_cases hqx : q < x.wt
          · have HF := Lib.hid (show z = k by rw [HE.out, decide_eq_true hqx]; rfl)
            go_wp2_with (first
              | ((with_reducible refine at_dst 20 ?_); refine wpList_load_mid rfl 31 _ rfl g (off + k * 2) rfl (vdC x) _ HR.out Try.underlying31 rfl HI.out ?_)
              | ((with_reducible refine at_store 6 20 ?_); refine st_fresh rfl 31 _ _ rfl (vdC x).toArray rfl rfl 31 _ HI.out rfl (vdC_one x) ?_; intro w3 k3 m3 s3; have c1 : w3.cell? ⟨wr.heap.size, 1, none⟩ = some (.int .i64 x.wt) := cell_blk m3 1; have K3 := Lib.hid (HK.out.trans k3 (fun _ _ f => f)); clear m3 s3 k3))
            go_ret
            exact ⟨by rw [HF.out]; rfl, K3.out⟩
          · have HF := Lib.hid (show z = atGo (k + 1) (l.drop (k + 1)) (q - x.wt) by rw [HE.out, decide_eq_false hqx]; rfl)
            go_wp2_with (first
              | ((with_reducible refine at_dst 20 ?_); refine wpList_load_mid rfl 31 _ rfl g (off + k * 2) rfl (vdC x) _ HR.out Try.underlying31 rfl HI.out ?_)
              | ((with_reducible refine at_store 6 20 ?_); refine st_fresh rfl 31 _ _ rfl (vdC x).toArray rfl rfl 31 _ HI.out rfl (vdC_one x) ?_; intro w3 k3 m3 s3; have c1 : w3.cell? ⟨wr.heap.size, 1, none⟩ = some (.int .i64 x.wt) := cell_blk m3 1; have K3 := Lib.hid (HK.out.trans k3 (fun _ _ f => f)); clear m3 s3 k3))
            go_roundw
            case rel => exact ⟨k + 1, _, by omega, by go_num, rfl, by omega, K3.out, Lib.hid HF.out⟩
            case measure => simp [intOf]; omega
        · obtain rfl : k = l.length := by omega
          have HF := Lib.hid (show z = -1 by rw [hsm.out, List.drop_length]; rfl)
          have HK := Lib.hid hkp
          clear hkp
          go_wp2
          go_ret
          exact ⟨by rw [HF.out]; rfl, HK.out⟩
  · have h0' : (ce != 0) = true := by simp [h0]
    have HF := Lib.hid (show z = -1 by rw [HZ.out, decide_eq_false h0]; rfl)
    go_wp2
    go_ret
    exact ⟨by rw [HF.out]; rfl, K2.out⟩

/-- which units one has -/
def unitsV (l : List Vd) (i : Int) : Int × Int := cond (decide (checkE l = 0) && decide (0 ≤ i) && decide (i < l.length)) (sumV (l.take i.toNat), match l[i.toNat]? with | some x => x.wt | none => 0) (0, 0)
theorem unitsV_no {l : List Vd} {i : Int} (h : checkE l ≠ 0 ∨ i < 0 ∨ l.length ≤ i) : unitsV l i = (0, 0) := by
  unfold unitsV
  have : (decide (checkE l = 0) && decide (0 ≤ i) && decide (i < l.length)) = false := by
    rw [← Bool.not_eq_true]
    simp only [Bool.and_eq_true, decide_eq_true_eq]
    omega
  rw [this]; rfl
theorem unitsV_at {l : List Vd} (h0 : checkE l = 0) {k : Nat} {x : Vd} (hk : l[k]? = some x) : unitsV l k = (sumV (l.take k), x.wt) := by
  have := (List.getElem?_eq_some_iff.1 hk).1
  unfold unitsV
  rw [decide_eq_true h0, decide_eq_true (by omega), decide_eq_true (by omega), show (k : Int).toNat = k by omega, hk]
  rfl

end Go.Proofs.Ytanmgfpogomgcaa
