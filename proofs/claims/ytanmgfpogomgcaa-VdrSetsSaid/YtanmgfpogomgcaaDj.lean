/-
  slices.Clone of validators; All.
-/
import Derived.Test.YtanmgfpogomgcaaDi
import Derived.Test.YtanmgfpogomgcaaGr
import Derived.Lib.SliceRun
import Derived.Lib.AppendZerosOnto
namespace Go.Proofs.Ytanmgfpogomgcaa
open Go.RowKit

/-- all cells -/
def vdCs (l : List Vd) : List Value := l.flatMap vdC
theorem vdCs_length (l : List Vd) : (vdCs l).length = l.length * 2 := by
  induction l with
  | nil => rfl
  | cons x r ih =>
    rw [vdCs, List.flatMap_cons, List.length_append, ← vdCs, ih, List.length_cons]
    show 2 + r.length * 2 = _
    omega
theorem vdCs_get {l : List Vd} {i j : Nat} {x : Vd} {u : Value} (hi : l[i]? = some x) (hj : (vdC x)[j]? = some u) : (vdCs l)[i * 2 + j]? = some u := by
  have hj2 : j < 2 := (List.getElem?_eq_some_iff.1 hj).1
  induction l generalizing i with
  | nil => cases hi
  | cons y r ih =>
    rw [vdCs, List.flatMap_cons, ← vdCs]
    cases i with
    | zero =>
      cases hi
      rw [List.getElem?_append_left (by show 0 * 2 + j < 2; omega), Nat.zero_mul, Nat.zero_add]
      exact hj
    | succ i =>
      rw [List.getElem?_append_right (by show 2 ≤ _; omega), show (i + 1) * 2 + j - (vdC y).length = i * 2 + j by show _ - 2 = _; omega]
      exact ih hi
theorem vdCs_inv {l : List Vd} {k : Nat} {u : Value} (h : (vdCs l)[k]? = some u) : ∃ i j x, k = i * 2 + j ∧ l[i]? = some x ∧ (vdC x)[j]? = some u := by
  have hk := (List.getElem?_eq_some_iff.1 h).1
  rw [vdCs_length] at hk
  obtain ⟨x, hx⟩ : ∃ x, l[k / 2]? = some x := ⟨l[k / 2], by simp [show k / 2 < l.length by omega]⟩
  have hj : k % 2 < (vdC x).length := by show _ < 2; omega
  obtain ⟨u', hu'⟩ : ∃ u', (vdC x)[k % 2]? = some u' := ⟨(vdC x)[k % 2], by simp⟩
  have h2 := vdCs_get hx hu'
  rw [show k / 2 * 2 + k % 2 = k by omega, h] at h2
  cases h2
  exact ⟨k / 2, k % 2, x, by omega, hx, hu'⟩
theorem vdCs_one (l : List Vd) : ∀ u ∈ vdCs l, u.oneCell' = true := by
  intro u hu
  obtain ⟨x, _, hx⟩ := List.mem_flatMap.1 hu
  simp only [vdC, List.mem_cons, List.not_mem_nil, or_false] at hx
  rcases hx with rfl | rfl <;> rfl
theorem infoVd3 : (Try.prog.info? 31).map (fun i => (i.zero, i.size, i.bytes)) = some (some (.agg #[.string ByteArray.empty, .int .i64 0]), 2, 24) := by kernel_rfl
theorem SeesV.src {w : World} {a : Option Addr} {n c : Nat} {l : List Vd} (h : SeesV w (.slice a n c) l) : Src Try.prog 2 22 (.slice a n c) l.length (vdCs l) w := by
  obtain ⟨a', cap, e, h1, h2, h3, h4⟩ := h
  injection e with e1 e2 e3
  subst e1 e2 e3
  cases a with
  | none =>
    obtain rfl : l = [] := List.eq_nil_of_length_eq_zero (by have := h3 rfl; omega)
    exact Src.ofNil _ Try.underlying22 c
  | some ad =>
    refine Src.ofSlice _ Try.underlying22 ad l.length c (vdCs l) (vdCs_length l) (fun k u hk => ?_) (vdCs_one l)
    obtain ⟨i, j, x, rfl, hx, hj⟩ := vdCs_inv hk
    obtain ⟨g, off, e, hr⟩ := h4 i x hx
    cases e
    rw [Addr.add_lit]
    have := hr j u hj
    rw [← this]
    congr 2
    omega
theorem OwnG.seesV {w : World} {B : Nat} {v : Value} {l : List Vd} (h : OwnG 31 2 w B v l.length (vdCs l)) : SeesV w v l := by
  obtain ⟨_, ⟨rfl, h0⟩ | ⟨g, cap, rest, rfl, _, h2, _, h4, h5⟩⟩ := h
  · obtain rfl : l = [] := List.eq_nil_of_length_eq_zero h0
    exact ⟨none, 0, rfl, by simp, by simp, fun _ => rfl, fun i x hi => by cases hi⟩
  · refine ⟨_, cap, rfl, h4, h5, (by intro e; cases e), fun i x hi => ⟨g, 0, rfl, fun j u hj => ?_⟩⟩
    rw [cell_blk h2, Nat.zero_add, List.getElem?_toArray, List.getElem?_append_left (List.getElem?_eq_some_iff.1 (vdCs_get hi hj)).1]
    exact vdCs_get hi hj

set_option maxRecDepth 100000 in
set_option maxHeartbeats 1600000 in
theorem cloneV_any {v : Value} {l : List Vd} {w : World} (hs : SeesV w v l) (hl : l.length ≤ 1000000) : Calls Try.prog 24 #[v] w fun e w' => ∃ v', e = .returned v' ∧ SeesV w' v' l ∧ (∀ g, v'.ownBlock = some g → w.heap.size ≤ g) ∧ Kp (fun _ => False) w w' := by
  obtain ⟨a, c, rfl, hlc, hmax⟩ := hs.form
  cases a with
  | none =>
    obtain ⟨a', cap, e, h1, h2, h3, h4⟩ := hs
    injection e with e1 e2 e3
    subst e1 e3
    obtain rfl : c = 0 := h3 rfl
    obtain rfl : l = [] := List.eq_nil_of_length_eq_zero (by omega)
    have hq := fun (w : World) (a : Option Addr) (n c : Nat) => Lib.run_eql_slice_nil (P := Try.prog) w 22 31 a n c 0 0 Try.underlying22
    go_enter Try.func24, Try.ntmps24
    go_wp2_with fail
    go_ret
    exact ⟨_, rfl, ⟨none, 0, rfl, by simp, by simp, fun _ => rfl, fun i x hi => by cases hi⟩, fun g hg => (by cases hg), Kp.refl _ _⟩
  | some ad =>
    have hk : Kp (fun _ => False) w (w.alloc (.cells #[] 31)) := (Kp.refl _ _).alloc _
    have hs1 := hs.kept hk
    by_cases hn : 1 ≤ l.length
    · obtain ⟨v', w2, hap, ho, k2⟩ := app_new Try.underlying22 infoVd3 rfl (some ⟨w.heap.size, 0, none⟩) hs1.src hn hl (by omega)
      have HF := Lib.hid (show SeesV w2 v' l ∧ (∀ g, v'.ownBlock = some g → w.heap.size ≤ g) ∧ Kp (fun _ => False) w w2 from ⟨ho.seesV, fun g hg => Nat.le_trans hk.size (ho.lt g hg).1, hk.trans k2 (fun _ _ h => h)⟩)
      obtain ⟨a3, c3, rfl⟩ := ho.form
      clear ho k2 hs1 hs hk
      have hq := fun (w : World) (a : Option Addr) (n c : Nat) => Lib.run_eql_slice_nil (P := Try.prog) w 22 31 a n c 0 0 Try.underlying22
      go_enter Try.func24, Try.ntmps24
      go_wp2_with (at_builtin; refine Lib.wpList_append_run _ rfl _ _ _ _ rfl _ _ rfl rfl _ _ (hap _) ?_)
      go_ret
      exact ⟨_, rfl, HF.out⟩
    · obtain rfl : l = [] := List.eq_nil_of_length_eq_zero (by omega)
      have hap := app_zero Try.underlying22 infoVd3 (w.alloc (.cells #[] 31)) (some ⟨w.heap.size, 0, none⟩) (some ad) c
      have HK := Lib.hid hk
      clear hs1 hs hk
      have hq := fun (w : World) (a : Option Addr) (n c : Nat) => Lib.run_eql_slice_nil (P := Try.prog) w 22 31 a n c 0 0 Try.underlying22
      go_enter Try.func24, Try.ntmps24
      go_wp2_with (at_builtin; refine Lib.wpList_append_run _ rfl _ _ _ _ rfl _ _ rfl rfl _ _ (hap _) ?_)
      go_ret
      exact ⟨_, rfl, ⟨_, 0, rfl, by simp, by simp, fun _ => rfl, fun i x hi => by cases hi⟩, fun g hg => (by cases hg; exact Nat.le_refl _), HK.out⟩

set_option maxRecDepth 100000 in
set_option maxHeartbeats 1600000 in
theorem all_any {v : Value} {l : List Vd} {w : World} (hs : SeesV w v l) (hl : l.length ≤ 1000000) : Calls Try.prog 14 #[v] w fun e w' =>
    ∃ B v', e = .returned (.func (.func 25) #[] #[.pointer (some ⟨B, 0, none⟩)]) ∧ w.heap.size ≤ B ∧ w'.cell? ⟨B, 0, none⟩ = some v' ∧ SeesV w' v' l ∧ (∀ g, v'.ownBlock = some g → w.heap.size ≤ g) ∧ Kp (fun _ => False) w w' := by
  have HC := Lib.hid (cloneV_any hs hl)
  obtain ⟨a, c, rfl, hlc, hmax⟩ := hs.form
  clear hs
  go_enter Try.func14, Try.ntmps14
  go_wp2_with fail
  refine HC.out.mono ?_
  rintro e w2 ⟨v2, rfl, s2, g2, k2⟩
  have k3 := k2.alloc (.cells #[v2] 22)
  have HF := Lib.hid (show w.heap.size ≤ w2.heap.size ∧ (w2.alloc (.cells #[v2] 22)).cell? ⟨w2.heap.size, 0, none⟩ = some v2 ∧ SeesV (w2.alloc (.cells #[v2] 22)) v2 l ∧ (∀ g, v2.ownBlock = some g → w.heap.size ≤ g) ∧ Kp (fun _ => False) w (w2.alloc (.cells #[v2] 22)) from
    ⟨k2.size, cell_blk (new_blk w2 _) 0, s2.kept ((Kp.refl _ _).alloc _), g2, k3⟩)
  obtain ⟨a2, c2, rfl, _, _⟩ := s2.form
  clear s2 k2 k3 g2
  go_wp2_with fail
  go_ret
  exact ⟨_, _, rfl, HF.out⟩
end Go.Proofs.Ytanmgfpogomgcaa
