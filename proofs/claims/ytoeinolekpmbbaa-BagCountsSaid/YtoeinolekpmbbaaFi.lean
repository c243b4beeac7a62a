/-
  What AtLeast's iterator tells.
-/
import Derived.Test.YtoeinolekpmbbaaFh
namespace Go.Proofs.Ytoeinolekpmbbaa
open Go.ChangeShapes Go.WideShapes Go.ChangeAt Go.RowKit Go.Shelf

attribute [local go_sem] Oper.semAt_some

/-- 32 bytes, whatever was asked -/
def norm32 (x : List Int) : List Int := if x.length = 32 then x else List.replicate 32 0
theorem norm32_len (x : List Int) : (norm32 x).length = 32 := by
  unfold norm32
  split
  · assumption
  · simp
theorem norm32_eq {x : List Int} (h : x.length = 32) : norm32 x = x := by unfold norm32; rw [if_pos h]
theorem norm32_map {l : List (List Int)} (h : ∀ x ∈ l, x.length = 32) : l.map norm32 = l := by
  induction l with
  | nil => rfl
  | cons x r ih => rw [List.map_cons, norm32_eq (h x (List.mem_cons_self ..)), ih (fun y hy => h y (List.mem_cons_of_mem _ hy))]

set_option maxRecDepth 100000 in
set_option maxHeartbeats 2000000 in
/-- the names with so many are told, in order, as long as one wants more -/
theorem al1_stops (F : Fence) (n : Nat) (hF : F.fn 44) (hro : F.round = none) (hn : 1 ≤ n) (G : Nat → Prop) (B0 B1 : Nat) (v : Value) (l : List Vt) (q : Int) (w : World)
    (hc0 : w.cell? ⟨B0, 0, none⟩ = some (.int .i64 q)) (hc1 : w.cell? ⟨B1, 0, none⟩ = some v) (hG0 : ¬ G B0) (hs : SeesT w v l) (hv : TOk l) (hvG : ApartT G v l) :
    SeqStopsK F n Try.prog 44 #[.pointer (some ⟨B1, 0, none⟩), .pointer (some ⟨B0, 0, none⟩)] (fun x : List Int => #[Value.agg (U8s (norm32 x)).toArray]) (Kp G) (fun ys => ys = atlV l q) (fun pre => pre <+: atlV l q) (atlV l q).length w := by
  intro lp J Jx W hW hJ hJx hY h0
  have kW : Kp (fun _ => False) w W := (Kp.of_below hW).mono (fun x hx h => by omega)
  have hcW1 : W.cell? ⟨B1, 0, none⟩ = some v := by rw [kW.cell (lt_of_cell hc1) (fun f => f)]; exact hc1
  have hcW0 : W.cell? ⟨B0, 0, none⟩ = some (.int .i64 q) := by rw [kW.cell (lt_of_cell hc0) (fun f => f)]; exact hc0
  have hsW := hs.kept kW
  obtain ⟨a, c, rfl, hlc, hmax⟩ := hs.form
  have HS := Lib.hid hsW
  have HV := Lib.hid hv
  have HG := Lib.hid hvG
  have HG0 := Lib.hid hG0
  have HC0 := Lib.hid hcW0
  have HI := Lib.hid (fun (x : Vt) (h : x.id.length = 32) => infoVt h)
  have HI2 := Lib.hid (fun (x : Vt) (h : x.id.length = 32) => infoVt' h)
  have HID := Lib.hid (fun (x : List Int) (h : x.length = 32) => infoIdL h)
  have hz := zeroVt
  have HYH := Lib.hid (fun pre (x : List Int) W1 (hx : x.length = 32) hj hl => (by
    have := hY pre x W1 hj hl
    simp only [norm32_eq hx] at this
    exact this : YieldAt F (n - 1) Try.prog lp #[Value.agg (U8s x).toArray] W1 fun e W' => (e = .returned (.bool true) ∧ J (pre ++ [x]) W' ∧ Kp G W1 W') ∨ (e = .returned (.bool false) ∧ Jx (pre ++ [x]) W')))
  have HJ := Lib.hid (fun s W W' (hs : J s W) (hk : Kp (fun _ => False) W W') => hJ s W W' none hs (grown_of_kp' hk) (fun r e => by cases e))
  clear hY hJ hJx hs hsW hvG hc0 hc1 kW hv hG0 hcW0
  refine callsIn_of_wp Try.func44 rfl hF ?_ hro
  simp only [Try.ntmps44, List.size_toArray, List.length_cons, List.length_nil, Nat.reduceAdd, Nat.reduceSub, Array.replicate_succ, Array.replicate_zero, List.push_toArray, List.append_toArray, List.nil_append, List.cons_append]
  gi_wp2
  gi_loopw [8] (fun i wr => ∃ k : Nat, k ≤ l.length ∧ i = .int .i64 k ∧ J (atlV (l.take k) q) wr ∧ Hid (Kp G W wr)) (fun i _ => l.length - (intOf i).toNat)
  case atStart => exact ⟨0, Nat.zero_le _, rfl, h0, Lib.hid (Kp.refl _ _)⟩
  case round =>
    obtain ⟨k, hk, rfl, hJs, hkp⟩ := hrel
    by_cases hlt : k < l.length
    · obtain ⟨x, hx⟩ : ∃ x, l[k]? = some x := ⟨l[k], List.getElem?_eq_getElem hlt⟩
      obtain ⟨g, off, rfl, hr⟩ := (HS.out.keptG hkp.out HG.out).at hx
      have HR := Lib.hid hr
      have HN := Lib.hid (tok_at HV.out hx).nm
      have HJS := Lib.hid hJs
      have HT := Lib.hid (atlV_take hx q)
      have HCW := Lib.hid ((hkp.out.cell (lt_of_cell HC0.out) HG0.out).trans HC0.out)
      by_cases hq : q ≤ x.n
      · have HLN := Lib.hid (atlV_len hx hq)
        rw [decide_eq_true hq] at HT
        clear hr hx hJs
        gi_wp2_with (first
          | ((with_reducible refine ind_dst 11 ?_); refine in_ld rfl 33 _ rfl g (off + k * 33) rfl (vtC x) _ HR.out Try.underlying33 rfl (HI.out x HN.out.len) ?_)
          | ((with_reducible refine ind_store 5 11 ?_); refine in_new rfl 33 _ _ rfl (vtC x).toArray rfl rfl 33 _ (HI2.out x HN.out.len) (vt_same (by decide) HN.out.len) (vtC_all x) ?_; intro w2 k2 m2 s2; have c32 : w2.cell? ⟨wr.heap.size, 32, none⟩ = some (.int .i64 x.n) := (cell_blk m2 32).trans (by rw [List.getElem?_toArray]; exact vt_n HN.out.len); have c0 : w2.cell? ⟨B0, 0, none⟩ = some (.int .i64 q) := (k2.cell (lt_of_cell HCW.out) (fun f => f)).trans HCW.out; have M2 := Lib.hid m2; have J2 := HJ.out _ _ _ HJS.out k2; have K2 := Lib.hid (hkp.out.trans k2 (fun _ _ f => f.elim)); obtain ⟨fn, tmps, assign, body, hy, hR⟩ := HYH.out _ x.id w2 HN.out.len J2 HLN.out; clear m2 s2 k2)
          | ((with_reducible refine ind_dst 19 ?_); refine in_ld rfl 27 _ rfl wr.heap.size 0 rfl (U8s x.id) _ (range_pre (range_blk M2.out)) Try.underlying27 rfl (HID.out x.id HN.out.len) ?_))
        refine hR.mono ?_
        rintro e W3 (⟨rfl, hJ3, hk3⟩ | ⟨rfl, hJx3⟩)
        · gi_wp2
          go_roundw
          case rel => exact ⟨k + 1, by omega, by simp, by rw [HT.out]; exact hJ3, Lib.hid (K2.out.trans hk3 (fun _ _ f => f))⟩
          case measure => simp [intOf]; omega
        · gi_wp2
          refine bodyPost_ret (results_none rfl _ _ _) rfl ?_
          exact ⟨⟨_, rfl⟩, .inr ⟨_, by rw [show atlV (l.take k) q ++ [x.id] = atlV (l.take (k + 1)) q from HT.out.symm]; exact atlV_pre _ _ _, hJx3⟩⟩
      · have hq' : ¬ (x.n ≥ q) := hq
        rw [decide_eq_false hq] at HT
        clear hr hx hJs
        gi_wp2_with (first
          | ((with_reducible refine ind_dst 11 ?_); refine in_ld rfl 33 _ rfl g (off + k * 33) rfl (vtC x) _ HR.out Try.underlying33 rfl (HI.out x HN.out.len) ?_)
          | ((with_reducible refine ind_store 5 11 ?_); refine in_new rfl 33 _ _ rfl (vtC x).toArray rfl rfl 33 _ (HI2.out x HN.out.len) (vt_same (by decide) HN.out.len) (vtC_all x) ?_; intro w2 k2 m2 s2; have c32 : w2.cell? ⟨wr.heap.size, 32, none⟩ = some (.int .i64 x.n) := (cell_blk m2 32).trans (by rw [List.getElem?_toArray]; exact vt_n HN.out.len); have c0 : w2.cell? ⟨B0, 0, none⟩ = some (.int .i64 q) := (k2.cell (lt_of_cell HCW.out) (fun f => f)).trans HCW.out; have J2 := Lib.hid (HJ.out _ _ _ HJS.out k2); have K2 := Lib.hid (hkp.out.trans k2 (fun _ _ f => f.elim)); clear m2 s2 k2)
          | ((with_reducible refine ind_dst 20 ?_); refine wpListIn_skip rfl (by rfl) ?_))
        go_roundw
        case rel => exact ⟨k + 1, by omega, by simp, by rw [HT.out]; simpa using J2.out, K2⟩
        case measure => simp [intOf]; omega
    · obtain rfl : k = l.length := by omega
      rw [List.take_length] at hJs
      gi_wp2
      go_end0
      exact ⟨⟨_, rfl⟩, .inl ⟨_, rfl, hJs⟩⟩
end Go.Proofs.Ytoeinolekpmbbaa
