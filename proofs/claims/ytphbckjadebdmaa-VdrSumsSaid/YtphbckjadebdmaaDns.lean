/-
  VdrSums: the law's walk.
-/
import Derived.Test.YtphbckjadebdmaaDt
namespace Go.Proofs.Ytphbckjadebdmaa
open Go.ChangeShapes Go.WideShapes Go.ChangeAt Go.RowKit

theorem Try.cellsIntV : Try.prog.cellsOf 3 = 1 := by kernel_rfl
theorem open_numsV {H : Type} {enc : TypeId × Value → H} {W : World} {base : Nat} {spare : Nat → Bool} {held : Bool} {fuel : Nat} {v : Value} {x : DataW H × List MemPlace} (h : DataW.trod enc Try.prog W base spare held fuel 40 [v] = some x) :
    ∃ l, SeesN W v l ∧ NOk l := by
  rcases open_ints Try.underlying40 Try.underlying3 Try.cellsIntV h with ⟨hc, _⟩ | ⟨a, len, cap, zs, hc, _, hl, hm, hz, _, hcell, hwz⟩
  · exact ⟨[], ⟨none, 0, by simpa using hc, by simp, by simp, fun _ => rfl, fun i x h => by cases h⟩, fun y hy => by cases hy⟩
  · have hlz : len ≤ zs.length := by rw [hz]; split <;> omega
    have hcl : ∀ i y, (zs.take len)[i]? = some y → W.cell? (a.add i) = some (.int .i64 y) := fun i y hi => by
      have hi' := (List.getElem?_eq_some_iff.1 hi).1
      rw [List.length_take] at hi'
      rw [hcell i (by omega)]
      rw [List.getElem?_take_of_lt (by omega)] at hi
      simp [List.getD, hi]
    refine ⟨zs.take len, ⟨some a, cap, ?_, ?_, hm, (by intro e; cases e), fun i y hi => ?_⟩, fun y hy => wf_i64V (hwz y (List.mem_of_mem_take hy))⟩
    · rw [List.length_take, Nat.min_eq_left hlz]; simpa using hc
    · rw [List.length_take]; omega
    · have hlt := (List.getElem?_eq_some_iff.1 hi).1
      obtain ⟨x0, hx0⟩ : ∃ x0, (zs.take len)[0]? = some x0 := ⟨(zs.take len)[0]'(by omega), List.getElem?_eq_getElem _⟩
      have hsp := spot_of_cell (hcl 0 x0 hx0)
      obtain ⟨b0, o0, sp⟩ := a
      have hsp : sp = none := by simpa [Addr.add] using hsp
      subst hsp
      have := hcl i y hi
      rw [Addr.add_lit] at this
      exact ⟨b0, o0, rfl, this⟩

/-- numbers as cells -/
def nCs (l : List Int) : List Value := l.map (.int .i64)
theorem SeesN.src {w : World} {a : Option Addr} {n c : Nat} {l : List Int} (h : SeesN w (.slice a n c) l) : Src Try.prog 1 40 (.slice a n c) l.length (nCs l) w := by
  obtain ⟨a', cap, e, h1, h2, h3, h4⟩ := h
  injection e with e1 e2 e3
  subst e1 e2 e3
  cases a with
  | none =>
    obtain rfl : l = [] := List.eq_nil_of_length_eq_zero (by have := h3 rfl; omega)
    exact Src.ofNil _ Try.underlying40 c
  | some ad =>
    refine Src.ofSlice _ Try.underlying40 ad l.length c (nCs l) (by simp [nCs]) (fun k u hk => ?_) (fun u hu => by obtain ⟨_, _, rfl⟩ := List.mem_map.1 hu; rfl)
    obtain ⟨x, hx, rfl⟩ : ∃ x, l[k]? = some x ∧ .int .i64 x = u := by simpa [nCs] using hk
    obtain ⟨g, off, e, hr⟩ := h4 k x hx
    cases e
    rw [Addr.add_lit]
    exact hr
theorem OwnG.seesN {w : World} {B : Nat} {v : Value} {l : List Int} (h : OwnG 3 1 w B v l.length (nCs l)) : SeesN w v l := by
  obtain ⟨_, ⟨rfl, h0⟩ | ⟨g, cap, rest, rfl, _, h2, _, h4, h5⟩⟩ := h
  · obtain rfl : l = [] := List.eq_nil_of_length_eq_zero h0
    exact ⟨none, 0, rfl, by simp, by simp, fun _ => rfl, fun i x hi => by cases hi⟩
  · refine ⟨_, cap, rfl, h4, h5, (by intro e; cases e), fun i x hi => ⟨g, 0, rfl, ?_⟩⟩
    have hi2 : (nCs l)[i]? = some (.int .i64 x) := by simp [nCs, hi]
    rw [cell_blk h2, Nat.zero_add, List.getElem?_toArray, List.getElem?_append_left (List.getElem?_eq_some_iff.1 hi2).1]
    exact hi2
theorem infoInt3 : (Try.prog.info? 3).map (fun i => (i.zero, i.size, i.bytes)) = some (some (.int .i64 0), 1, 8) := by kernel_rfl
/-- four numbers and more behind them -/
theorem app_four {w : World} {vn : Value} {who : List Int} (ns : List Int) (h4 : ns.length = 4) (hs : SeesN w vn who) (hl : who.length ≤ 1000) :
    ∃ a' c' w', (∀ ty, (Builtin.append_ #[40, 40] ty #[.slice (some ⟨w.heap.size, 0, none⟩) 4 4, vn]).run Try.prog (w.alloc (.cells (nCs ns).toArray 3)) = .ok (.slice a' (4 + who.length) c') w') ∧
      SeesN w' (.slice a' (4 + who.length) c') (ns ++ who) ∧ Kp (fun _ => False) w w' := by
  have hk : Kp (fun _ => False) w (w.alloc (.cells (nCs ns).toArray 3)) := (Kp.refl _ w).alloc _
  have ho : OwnG 3 1 (w.alloc (.cells (nCs ns).toArray 3)) w.heap.size (.slice (some ⟨w.heap.size, 0, none⟩) 4 4) 4 (nCs ns) :=
    ⟨by simp [nCs, h4], .inr ⟨w.heap.size, 4, [], rfl, Nat.le_refl _, by rw [List.append_nil]; exact new_blk _ _, by simp [nCs, h4], Nat.le_refl _, by unfold maxLen; omega⟩⟩
  have hs1 := hs.kept hk
  obtain ⟨an, cn, rfl, hlcn, hmaxn⟩ := hs.form
  by_cases h1 : 1 ≤ who.length
  · obtain ⟨v', w', g1, g2, g3, _⟩ := app_own Try.underlying40 infoInt3 rfl hk.size ho hs1.src h1 (by omega) (by omega)
    obtain ⟨a', c', rfl⟩ := g2.form
    refine ⟨a', c', w', g1, OwnG.seesN (B := w.heap.size) ?_, hk.trans g3 (fun x hx e => by have := own_some e; omega)⟩
    rw [List.length_append, h4]
    have e : nCs (ns ++ who) = nCs ns ++ nCs who := by simp [nCs]
    rw [e]
    exact g2
  · obtain rfl : who = [] := List.eq_nil_of_length_eq_zero (by omega)
    obtain ⟨i0, hi0, hz0, hs0, hb0⟩ := info_parts infoInt3
    have src := hs1.src
    rw [← hs0] at src
    have hrun := fun ty => run_append_room_src (P := Try.prog) (w.alloc (.cells (nCs ns).toArray 3)) 40 40 ty 3 i0 Try.underlying40 hi0 w.heap.size 0 4 4 (.slice an 0 cn) 0 [] src (by omega) (fun j hj => absurd hj (by simp)) (fun j hj => absurd hj (by simp))
    refine ⟨some ⟨w.heap.size, 0, none⟩, 4, _, hrun, ?_, hk⟩
    rw [List.append_nil]
    refine OwnG.seesN (B := w.heap.size) ?_
    rw [h4]
    exact ho

set_option maxRecDepth 100000 in
set_option maxHeartbeats 4000000 in
theorem sums_law {v vn : Value} {l : List Vd} {who : List Int} {w : World} (hs : SeesV w v l) (hw : WOk l) (hn : SeesN w vn who) (hnw : NOk who) (u : Int) (hu1 : u ≤ 9223372036854775807) :
    Calls Try.prog 5 #[v, vn, .int .i64 u] w fun e w' => e = .returned (.bool true) ∧ Kp (fun _ => False) w w' := by
  have HB := Lib.hid (fun w => vlive_any w)
  have HF := Lib.hid (fun w' (k : Kp (fun _ => False) w w') => few_any (hs.kept k))
  have HS1 := Lib.hid (fun w' (k : Kp (fun _ => False) w w') (hv : VOk l) => sum_any (hs.kept k) hv (hn.kept k))
  have HS2 := Lib.hid (fun w' (k : Kp (fun _ => False) w w') (hv : VOk l) => rsum_any (hs.kept k) hv (hn.kept k))
  have HU := Lib.hid (fun w' (k : Kp (fun _ => False) w w') (hv : VOk l) (i : Int) (hi : i ≤ 9223372036854775807) => units_any (hs.kept k) hv i hi)
  have HU2 := Lib.hid (fun w' (k : Kp (fun _ => False) w w') (hv : VOk l) (i : Int) (hi : i ≤ 9223372036854775807) => runits_any (hs.kept k) hv i hi)
  have HA := Lib.hid (fun w' (k : Kp (fun _ => False) w w') (hv : VOk l) (i : Int) (hi : i ≤ 9223372036854775807) => at_any (hs.kept k) hv i hi)
  have HA2 := Lib.hid (fun w' (k : Kp (fun _ => False) w w') (hv : VOk l) (i : Int) (hi : i ≤ 9223372036854775807) => rat_any (hs.kept k) hv i hi)
  have HAP := Lib.hid (fun w' (k : Kp (fun _ => False) w w') (h : who.length ≤ 1000) => app_four [-1, 0, (l.length : Int) - 1, (l.length : Int)] rfl (hn.kept k) h)
  obtain ⟨a, c, rfl, hlc, hmax⟩ := hs.form
  obtain ⟨an, cn, rfl, hlcn, hmaxn⟩ := hn.form
  have HW := Lib.hid (fun h => fewV_ok (l := l) h hw)
  obtain ⟨f, hf⟩ : ∃ f, f = fewV l := ⟨_, rfl⟩
  rw [← hf] at HF HW
  have HNW := Lib.hid hnw
  clear hs hw hf hn hnw
  go_enter Try.func5, Try.ntmps5
  go_wp2_with fail
  refine (HB.out _).mono ?_
  rintro e w1 ⟨rfl, k1⟩
  have K1 := Lib.hid k1
  clear k1
  go_wp2_with fail
  refine (HF.out _ K1.out).mono ?_
  rintro e w2 ⟨rfl, k2⟩
  have K2 := Lib.hid (K1.out.trans k2 (fun _ _ f => f))
  clear k2
  cases f
  · go_wp2_with fail
    refine (HB.out _).mono ?_
    rintro e w3 ⟨rfl, k3⟩
    have K3 := Lib.hid (K2.out.trans k3 (fun _ _ f => f))
    clear k3
    go_wp2_with fail
    go_ret
    exact ⟨rfl, K3.out⟩
  obtain ⟨h50, hv⟩ := HW.out rfl
  have HV := Lib.hid hv
  clear hv
  by_cases h200 : (200 : Int) < who.length
  · go_wp2_with fail
    refine (HB.out _).mono ?_
    rintro e w3 ⟨rfl, k3⟩
    have K3 := Lib.hid (K2.out.trans k3 (fun _ _ f => f))
    clear k3
    go_wp2_with fail
    go_ret
    exact ⟨rfl, K3.out⟩
  go_wp2_with fail
  refine (HS1.out _ K2.out HV.out).mono ?_
  rintro e w3 ⟨rfl, k3⟩
  have K3 := Lib.hid (K2.out.trans k3 (fun _ _ f => f))
  clear k3
  go_wp2_with fail
  refine (HS2.out _ K3.out HV.out).mono ?_
  rintro e w4 ⟨rfl, k4⟩
  have K4 := Lib.hid (K3.out.trans k4 (fun _ _ f => f))
  clear k4
  obtain ⟨q1, hq1⟩ : ∃ q, q = (whoV l who).1 := ⟨_, rfl⟩
  obtain ⟨q2, hq2⟩ : ∃ q, q = (whoV l who).2 := ⟨_, rfl⟩
  rw [← hq1, ← hq2]
  clear hq1 hq2
  go_wp2_with fail
  refine (HA.out _ K4.out HV.out _ hu1).mono ?_
  rintro e w5 ⟨rfl, k5⟩
  have K5 := Lib.hid (K4.out.trans k5 (fun _ _ f => f))
  clear k5
  go_wp2_with fail
  refine (HA2.out _ K5.out HV.out _ hu1).mono ?_
  rintro e w6 ⟨rfl, k6⟩
  have K6 := Lib.hid (K5.out.trans k6 (fun _ _ f => f))
  clear k6
  obtain ⟨q3, hq3⟩ : ∃ q, q = atV l u := ⟨_, rfl⟩
  rw [← hq3]
  clear hq3
  have hne : ∀ (x : Int), (x != x) = false := fun x => by simp
  obtain ⟨a7, c7, w7, hap, s7, k7⟩ := HAP.out _ K6.out (by omega)
  have hap' := hap
  unfold nCs at hap'
  simp only [List.map_cons, List.map_nil] at hap'
  have S7 := Lib.hid s7
  have K7 := Lib.hid (K6.out.trans k7 (fun _ _ f => f))
  obtain ⟨hle7, hmx7⟩ : 4 + who.length ≤ c7 ∧ c7 ≤ 9223372036854775807 := by
    obtain ⟨_, _, e7, h1, h2, _⟩ := s7
    injection e7 with _ e8 e9
    subst e9
    exact ⟨by omega, h2⟩
  clear s7 k7 hap
  have HAP7 := Lib.hid hap'
  clear hap'
  go_wp2_with ((with_reducible refine at_dst 66 ?_); refine Lib.wpList_append_run _ rfl _ _ _ _ rfl _ _ rfl rfl _ _ (HAP7.out _) ?_)
  obtain ⟨L, hL⟩ : ∃ L : List Int, L = [-1, 0, (l.length : Int) - 1, (l.length : Int)] ++ who := ⟨_, rfl⟩
  rw [← hL] at S7
  have hLl : L.length = 4 + who.length := by rw [hL, List.length_append]; rfl
  have HL := Lib.hid (show ∀ (j : Nat) (x : Int), L[j]? = some x → x ≤ 9223372036854775807 by
    intro j x hj
    rw [hL] at hj
    rcases List.mem_append.1 (List.mem_of_getElem? hj) with h | h
    · simp at h; omega
    · exact (HNW.out x h).2)
  clear hL
  go_loopw [68] (fun i wr => ∃ k : Nat, k ≤ 4 + who.length ∧ i = .int .i64 k ∧ Hid (Kp (fun _ => False) w7 wr)) (fun i _ => 4 + who.length - (intOf i).toNat)
  case atStart => exact ⟨0, by omega, rfl, Lib.hid (Kp.refl _ _)⟩
  case round =>
    obtain ⟨k, hk, rfl, hkp⟩ := hrel
    have HK := Lib.hid (K7.out.trans hkp.out (fun _ _ f => f))
    by_cases hlt : k < 4 + who.length
    · obtain ⟨x, hx⟩ : ∃ x, L[k]? = some x := ⟨L[k]'(by omega), List.getElem?_eq_getElem _⟩
      obtain ⟨gn, offn, rfl, hcn⟩ := (S7.out.kept hkp.out).at hx
      have hxm := HL.out k x hx
      obtain ⟨q5, hq5⟩ : ∃ q, q = (unitsV l x).1 := ⟨_, rfl⟩
      obtain ⟨q6, hq6⟩ : ∃ q, q = (unitsV l x).2 := ⟨_, rfl⟩
      have HU1 := Lib.hid (fun w' (k : Kp (fun _ => False) w w') => HU.out w' k HV.out x hxm)
      have HU3 := Lib.hid (fun w' (k : Kp (fun _ => False) w w') => HU2.out w' k HV.out x hxm)
      rw [← hq5, ← hq6] at HU1 HU3
      clear hx hq5 hq6
      go_wp2_with fail
      refine (HU1.out _ HK.out).mono ?_
      rintro e w8 ⟨rfl, k8⟩
      have K8 := Lib.hid (hkp.out.trans k8 (fun _ _ f => f))
      clear k8
      go_wp2_with fail
      refine (HU3.out _ (K7.out.trans K8.out (fun _ _ f => f))).mono ?_
      rintro e w9 ⟨rfl, k9⟩
      have K9 := Lib.hid (K8.out.trans k9 (fun _ _ f => f))
      clear k9
      go_wp2_with fail
      go_roundw
      case rel => exact ⟨k + 1, by omega, by go_num, K9⟩
      case measure => simp [intOf]; omega
    · obtain rfl : k = 4 + who.length := by omega
      go_wp2_with fail
      go_ret
      exact ⟨rfl, HK.out⟩
end Go.Proofs.Ytphbckjadebdmaa
