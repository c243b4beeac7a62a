/-
  The arguments of the laws: validators; which of them are few.
-/
import Derived.Test.YtanmgfpogomgcaaDm
import Derived.Test.YtanmgfpogomgcaaFrame
import Derived.Deep.Slices
import Derived.Deep.Fields
import Derived.Deep.Strs
import Derived.ChangeSlices
namespace Go.Proofs.Ytanmgfpogomgcaa
open Go.ChangeShapes Go.WideShapes Go.ChangeAt Go.RowKit

theorem Try.cellsVdr : Try.prog.cellsOf 31 = 2 := by kernel_rfl
theorem Try.cellsStrV : Try.prog.cellsOf 9 = 1 := by kernel_rfl
theorem Try.cellsI64V : Try.prog.cellsOf 2 = 1 := by kernel_rfl
theorem wf_i64V {x : Int} (h : (Lit.int .i64 x).wf = true) : -9223372036854775808 ≤ x ∧ x ≤ 9223372036854775807 := by simpa [Lit.wf, IntKind.min, IntKind.max, IntKind.signed, IntKind.bits] using h
theorem vdrFields : ∃ f0 f1 : Field, Try.prog.underlying 31 = some (.struct #[f0, f1]) ∧ f0.type = 9 ∧ f1.type = 2 ∧ f0.offset = 0 ∧ f1.offset = 1 :=
  ⟨_, _, Try.underlying31, rfl, rfl, rfl, rfl⟩
/-- weights that can be -/
def WOk (l : List Vd) : Prop := ∀ x ∈ l, -9223372036854775808 ≤ x.wt ∧ x.wt ≤ 9223372036854775807
theorem open_vdr {H : Type} {enc : TypeId × Value → H} {W : World} {base : Nat} {spare : Nat → Bool} {held : Bool} {fuel : Nat} {cs : List Value} {x : DataW H × List MemPlace} (h : DataW.trod enc Try.prog W base spare held fuel 31 cs = some x) :
    ∃ y : Vd, cs = vdC y ∧ -9223372036854775808 ≤ y.wt ∧ y.wt ≤ 9223372036854775807 := by
  obtain ⟨f0, f1, hu, t0, t1, o0, o1⟩ := vdrFields
  obtain ⟨ys, n, _, _, hlen, hyl, hf⟩ := DataW.trod_struct hu h
  rw [Try.cellsVdr] at hlen
  obtain ⟨v0, v1, rfl⟩ : ∃ v0 v1, cs = [v0, v1] := by
    match cs, hlen with
    | [v0, v1], _ => exact ⟨v0, v1, rfl⟩
  obtain ⟨y0, y1, rfl⟩ : ∃ y0 y1, ys = [y0, y1] := by
    match ys, hyl with
    | [v0, v1], _ => exact ⟨v0, v1, rfl⟩
  have g0 := hf 0 f0 rfl
  have g1 := hf 1 f1 rfl
  rw [t0, o0, Try.cellsStrV] at g0
  rw [t1, o1, Try.cellsI64V] at g1
  obtain ⟨s, e0, _, w0⟩ := DataW.trod_string Try.underlying9 g0
  obtain ⟨V, e1, _, w1⟩ := DataW.trod_int Try.underlying2 g1
  simp at e0 e1
  subst e0 e1
  exact ⟨⟨s, V⟩, rfl, wf_i64V w1⟩
theorem pick_allV {T : Type} {len : Nat} {R : Nat → T → Prop} (hall : ∀ i, i < len → ∃ x, R i x) : ∃ l : List T, l.length = len ∧ ∀ i x, l[i]? = some x → R i x := by
  have hp : ∀ k, k ≤ len → ∃ l : List T, l.length = k ∧ ∀ i x, l[i]? = some x → R i x := by
    intro k
    induction k with
    | zero => intro _; exact ⟨[], rfl, fun i x h => by cases h⟩
    | succ k ih =>
      intro hk
      obtain ⟨l, h1, h2⟩ := ih (by omega)
      obtain ⟨y, hy⟩ := hall k (by omega)
      refine ⟨l ++ [y], by simp [h1], fun i x hx => ?_⟩
      rcases Nat.lt_or_ge i l.length with h | h
      · rw [List.getElem?_append_left h] at hx; exact h2 i x hx
      · rw [List.getElem?_append_right h] at hx
        have h0 : i - l.length = 0 := by have := (List.getElem?_eq_some_iff.1 hx).1; simp at this; omega
        rw [h0] at hx
        have e : i = k := by omega
        cases hx
        rw [e]; exact hy
  exact hp len (Nat.le_refl _)
theorem open_vdrs {H : Type} {enc : TypeId × Value → H} {W : World} {base : Nat} {spare : Nat → Bool} {held : Bool} {fuel : Nat} {v : Value} {x : DataW H × List MemPlace} (h : DataW.trod enc Try.prog W base spare held fuel 22 [v] = some x) :
    ∃ l, SeesV W v l ∧ WOk l := by
  rcases Deep.open_slice Try.underlying22 h with ⟨hc, _⟩ | ⟨a, len, cap, m, n, D, Pl, hc, _, hl, hm, hmm, _, hi⟩
  · exact ⟨[], ⟨none, 0, by simpa using hc, by simp, by simp, fun _ => rfl, fun i x h => by cases h⟩, fun y hy => by cases hy⟩
  · have hlm : len ≤ m := by rw [hmm]; split <;> omega
    obtain ⟨l, h1, h2⟩ := pick_allV (len := len) (R := fun i (y : Vd) => (-9223372036854775808 ≤ y.wt ∧ y.wt ≤ 9223372036854775807) ∧ ∀ j u, (vdC y)[j]? = some u → W.cell? (a.add (i * 2 + j)) = some u) (fun i hil => by
      obtain ⟨cs, hcs, ht⟩ := hi i (by omega)
      rw [Try.cellsVdr] at hcs
      obtain ⟨y, rfl, hy⟩ := open_vdr ht
      obtain ⟨hn, _, hat⟩ := World.cells?_some hcs
      have ha : ∀ j, (a.add (i * 2)).add j = a.add (i * 2 + j) := fun j => Deep.add_add a _ _
      refine ⟨y, hy, fun j u hj => ?_⟩
      have hjl := (List.getElem?_eq_some_iff.1 hj).1
      rw [← ha, hat j (by simpa [vdC] using hjl)]
      exact hj)
    refine ⟨l, ⟨some a, cap, by rw [h1]; simpa using hc, by omega, hm, (by intro e; cases e), fun i x hx => ?_⟩, fun y hy => ?_⟩
    · have hlt := (List.getElem?_eq_some_iff.1 hx).1
      obtain ⟨x0, hx0⟩ : ∃ x0, l[0]? = some x0 := ⟨l[0], by simp [show 0 < l.length by omega]⟩
      have hsp := spot_of_cell ((h2 0 x0 hx0).2 0 _ rfl)
      obtain ⟨b0, o0, sp⟩ := a
      have hsp : sp = none := by simpa [Addr.add] using hsp
      subst hsp
      refine ⟨b0, o0, rfl, fun j u hj => ?_⟩
      have := (h2 i x hx).2 j u hj
      rw [Addr.add_lit] at this
      rw [show o0 + i * 2 + j = o0 + (i * 2 + j) by omega]
      exact this
    · obtain ⟨i, hi'⟩ := List.getElem?_of_mem hy
      exact (h2 i y hi').1

/-- are they few, and their names short -/
def fewV (l : List Vd) : Bool := (l.take 100).all (fun x => decide (x.name.size ≤ 300)) && decide (l.length ≤ 50)
theorem fewV_no {l : List Vd} {i : Nat} {x : Vd} (hi : l[i]? = some x) (h1 : i < 100) (h : ¬ x.name.size ≤ 300) : fewV l = false := by
  unfold fewV
  rw [Bool.and_eq_false_iff]
  left
  rw [← Bool.not_eq_true, List.all_eq_true]
  intro h2
  have h3 : (l.take 100)[i]? = some x := by rw [List.getElem?_take_of_lt h1]; exact hi
  have := h2 x (List.mem_of_getElem? h3)
  simp at this
  omega
theorem fewV_yes {l : List Vd} (h : ∀ (i : Nat) (x : Vd), i < 100 → l[i]? = some x → x.name.size ≤ 300) : fewV l = decide (l.length ≤ 50) := by
  unfold fewV
  rw [List.all_eq_true.2 (fun x hx => by
    obtain ⟨i, hi⟩ := List.getElem?_of_mem hx
    rw [List.getElem?_take] at hi
    split at hi
    · rename_i hlt; simpa using h i x hlt hi
    · cases hi)]
  rfl
theorem fewV_ok {l : List Vd} (h : fewV l = true) (hw : WOk l) : l.length ≤ 50 ∧ VOk l := by
  unfold fewV at h
  rw [Bool.and_eq_true] at h
  obtain ⟨h1, h2⟩ := h
  have h2 := of_decide_eq_true h2
  rw [List.take_of_length_le (by omega)] at h1
  refine ⟨h2, fun x hx => ⟨?_, (hw x hx).1, (hw x hx).2⟩⟩
  have := List.all_eq_true.1 h1 x hx
  simp at this
  omega

set_option maxRecDepth 100000 in
set_option maxHeartbeats 1600000 in
theorem few_any {v : Value} {l : List Vd} {w : World} (hs : SeesV w v l) : Calls Try.prog 5 #[v] w fun e w' => e = .returned (.bool (fewV l)) ∧ Kp (fun _ => False) w w' := by
  obtain ⟨a, c, rfl, hlc, hmax⟩ := hs.form
  have hz := zeroVd
  have HI := Lib.hid infoVd
  by_cases hl0 : l = []
  · subst hl0
    have e0 : fewV [] = true := by decide
    rw [e0]
    have hmin : IntKind.i64.wrap (min (0 : Int) 100) = 0 := by decide
    cases a with
    | none =>
      go_enter Try.func5, Try.ntmps5
      go_wp2
      refine wp_loop_rounds 1 ?_
      rw [rounds_succ]
      go_wp2
      go_ret
      exact ⟨rfl, Kp.refl _ _⟩
    | some ad =>
      go_enter Try.func5, Try.ntmps5
      go_wp2
      refine wp_loop_rounds 1 ?_
      rw [rounds_succ]
      go_wp2
      go_ret
      exact ⟨rfl, Kp.refl _ _⟩
  · obtain ⟨x0, hx0⟩ : ∃ x, l[0]? = some x := by
      cases l with
      | nil => exact absurd rfl hl0
      | cons x r => exact ⟨x, rfl⟩
    obtain ⟨g, off, rfl, _⟩ := hs.at hx0
    have HS := Lib.hid hs
    obtain ⟨m, hm⟩ : ∃ m, m = min l.length 100 := ⟨_, rfl⟩
    have hmn : min (l.length : Int) 100 = (m : Int) := by omega
    have F0 := Lib.hid (fun i x hi h1 h => fewV_no (l := l) (i := i) (x := x) hi h1 h)
    have F1 := Lib.hid (fun h => fewV_yes (l := l) h)
    obtain ⟨z, hz'⟩ : ∃ z, z = fewV l := ⟨_, rfl⟩
    rw [← hz'] at F0 F1 ⊢
    clear hs hz' hx0 hl0
    have hmc : m ≤ c := by omega
    have hml : m ≤ l.length := by omega
    have HM := Lib.hid hm
    clear hm
    by_cases h100 : l.length ≤ 100
    · obtain rfl : m = l.length := by have := HM.out; omega
      have hmx : max (l.length : Int) 0 = l.length := by omega
      have h100' : (l.length : Int) ≤ 100 := by omega
      go_enter Try.func5, Try.ntmps5
      go_wp2
      go_loopw [11] (fun i wr => ∃ k : Nat, k ≤ l.length ∧ i = .int .i64 k ∧ Kp (fun _ => False) w wr ∧ Hid (∀ (j : Nat) (x : Vd), j < k → l[j]? = some x → x.name.size ≤ 300)) (fun i _ => l.length - (intOf i).toNat)
      case atStart => exact ⟨0, by omega, rfl, Kp.refl _ _, Lib.hid (fun j x h => by omega)⟩
      case round =>
        obtain ⟨k, hk, rfl, hkp, hsm⟩ := hrel
        by_cases hlt : k < l.length
        · obtain ⟨x, hx⟩ : ∃ x, l[k]? = some x := ⟨l[k], by simp⟩
          obtain ⟨g', off', eg, hr, _⟩ := (HS.out.kept hkp).at hx
          injection eg with eg
          injection eg with eg1 eg2
          subst eg1 eg2
          have HR := Lib.hid hr
          have HX := Lib.hid hx
          have HK := Lib.hid hkp
          have H100 := Lib.hid (show k < 100 by have := HM.out; omega)
          clear hr hx hkp
          by_cases h3 : x.name.size ≤ 300
          · have h3' : ¬ (300 : Int) < x.name.size := by omega
            go_wp2_with (first
              | ((with_reducible refine at_dst 14 ?_); refine wpList_load_mid rfl 31 _ rfl g (off + k * 2) rfl (vdC x) _ HR.out Try.underlying31 rfl HI.out ?_)
              | ((with_reducible refine at_store 4 14 ?_); refine st_fresh rfl 31 _ _ rfl (vdC x).toArray rfl rfl 31 _ HI.out rfl (vdC_one x) ?_; intro w2 k2 m2 s2; have c0 : w2.cell? ⟨wr.heap.size, 0, none⟩ = some (.string x.name) := cell_blk m2 0; have K2 := Lib.hid (HK.out.trans k2 (fun _ _ f => f)); clear m2 s2 k2))
            go_roundw
            case rel => exact ⟨k + 1, by omega, by go_num, K2.out, Lib.hid (fun j y hj hy => by
              rcases Nat.lt_or_ge j k with h | h
              · exact hsm.out j y h hy
              · obtain rfl : j = k := by omega
                rw [HX.out] at hy
                cases hy
                exact h3)⟩
            case measure => simp [intOf]; omega
          · have h3' : (300 : Int) < x.name.size := by omega
            have HF := Lib.hid (F0.out k x HX.out H100.out h3)
            go_wp2_with (first
              | ((with_reducible refine at_dst 14 ?_); refine wpList_load_mid rfl 31 _ rfl g (off + k * 2) rfl (vdC x) _ HR.out Try.underlying31 rfl HI.out ?_)
              | ((with_reducible refine at_store 4 14 ?_); refine st_fresh rfl 31 _ _ rfl (vdC x).toArray rfl rfl 31 _ HI.out rfl (vdC_one x) ?_; intro w2 k2 m2 s2; have c0 : w2.cell? ⟨wr.heap.size, 0, none⟩ = some (.string x.name) := cell_blk m2 0; have K2 := Lib.hid (HK.out.trans k2 (fun _ _ f => f)); clear m2 s2 k2))
            go_ret
            exact ⟨by rw [HF.out]; rfl, K2.out⟩
        · obtain rfl : k = l.length := by omega
          have HF := Lib.hid (F1.out (fun i x h1 hi => hsm.out i x (by have := HM.out; have := (List.getElem?_eq_some_iff.1 hi).1; omega) hi))
          have HF2 := Lib.hid (show z = decide ((l.length : Int) ≤ 50) by rw [HF.out, Bool.eq_iff_iff]; simp; omega)
          have HK := Lib.hid hkp
          clear hkp
          go_wp2
          go_ret
          exact ⟨by rw [HF2.out]; rfl, HK.out⟩
    · obtain rfl : m = 100 := by have := HM.out; omega
      have hmx : max (100 : Int) 0 = 100 := by decide
      have h100' : ¬ (l.length : Int) ≤ 100 := by omega
      go_enter Try.func5, Try.ntmps5
      go_wp2
      go_loopw [11] (fun i wr => ∃ k : Nat, k ≤ 100 ∧ i = .int .i64 k ∧ Kp (fun _ => False) w wr ∧ Hid (∀ (j : Nat) (x : Vd), j < k → l[j]? = some x → x.name.size ≤ 300)) (fun i _ => 100 - (intOf i).toNat)
      case atStart => exact ⟨0, by omega, rfl, Kp.refl _ _, Lib.hid (fun j x h => by omega)⟩
      case round =>
        obtain ⟨k, hk, rfl, hkp, hsm⟩ := hrel
        by_cases hlt : k < 100
        · obtain ⟨x, hx⟩ : ∃ x, l[k]? = some x := ⟨l[k], by simp⟩
          obtain ⟨g', off', eg, hr, _⟩ := (HS.out.kept hkp).at hx
          injection eg with eg
          injection eg with eg1 eg2
          subst eg1 eg2
          have HR := Lib.hid hr
          have HX := Lib.hid hx
          have HK := Lib.hid hkp
          have H100 := Lib.hid (show k < 100 by have := HM.out; omega)
          clear hr hx hkp
          by_cases h3 : x.name.size ≤ 300
          · have h3' : ¬ (300 : Int) < x.name.size := by omega
            go_wp2_with (first
              | ((with_reducible refine at_dst 14 ?_); refine wpList_load_mid rfl 31 _ rfl g (off + k * 2) rfl (vdC x) _ HR.out Try.underlying31 rfl HI.out ?_)
              | ((with_reducible refine at_store 4 14 ?_); refine st_fresh rfl 31 _ _ rfl (vdC x).toArray rfl rfl 31 _ HI.out rfl (vdC_one x) ?_; intro w2 k2 m2 s2; have c0 : w2.cell? ⟨wr.heap.size, 0, none⟩ = some (.string x.name) := cell_blk m2 0; have K2 := Lib.hid (HK.out.trans k2 (fun _ _ f => f)); clear m2 s2 k2))
            go_roundw
            case rel => exact ⟨k + 1, by omega, by go_num, K2.out, Lib.hid (fun j y hj hy => by
              rcases Nat.lt_or_ge j k with h | h
              · exact hsm.out j y h hy
              · obtain rfl : j = k := by omega
                rw [HX.out] at hy
                cases hy
                exact h3)⟩
            case measure => simp [intOf]; omega
          · have h3' : (300 : Int) < x.name.size := by omega
            have HF := Lib.hid (F0.out k x HX.out H100.out h3)
            go_wp2_with (first
              | ((with_reducible refine at_dst 14 ?_); refine wpList_load_mid rfl 31 _ rfl g (off + k * 2) rfl (vdC x) _ HR.out Try.underlying31 rfl HI.out ?_)
              | ((with_reducible refine at_store 4 14 ?_); refine st_fresh rfl 31 _ _ rfl (vdC x).toArray rfl rfl 31 _ HI.out rfl (vdC_one x) ?_; intro w2 k2 m2 s2; have c0 : w2.cell? ⟨wr.heap.size, 0, none⟩ = some (.string x.name) := cell_blk m2 0; have K2 := Lib.hid (HK.out.trans k2 (fun _ _ f => f)); clear m2 s2 k2))
            go_ret
            exact ⟨by rw [HF.out]; rfl, K2.out⟩
        · obtain rfl : k = 100 := by omega
          have HF := Lib.hid (F1.out (fun i x h1 hi => hsm.out i x (by have := HM.out; have := (List.getElem?_eq_some_iff.1 hi).1; omega) hi))
          have HF2 := Lib.hid (show z = decide ((l.length : Int) ≤ 50) by rw [HF.out, Bool.eq_iff_iff]; simp; omega)
          have HK := Lib.hid hkp
          clear hkp
          go_wp2
          go_ret
          exact ⟨by rw [HF2.out]; rfl, HK.out⟩
end Go.Proofs.Ytanmgfpogomgcaa
