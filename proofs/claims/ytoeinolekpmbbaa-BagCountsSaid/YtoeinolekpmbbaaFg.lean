/-
  Votes looked for in a rising row: the library's BinarySearchFunc, package bag's place and Count.
-/
import Derived.Test.YtoeinolekpmbbaaFb
namespace Go.Proofs.Ytoeinolekpmbbaa
open Go.ChangeShapes Go.WideShapes Go.ChangeAt Go.RowKit

/-- how many names are less -/
def posT (l : List Vt) (k : List Int) : Nat := match l with
  | [] => 0
  | x :: r => if cmpI x.id k < 0 then posT r k + 1 else 0
theorem posT_le (l : List Vt) (k : List Int) : posT l k ≤ l.length := by
  induction l with
  | nil => simp [posT]
  | cons x r ih => simp only [posT]; split <;> simp <;> omega
theorem posT_lt {l : List Vt} (hr : Rise l) (k : List Int) {i : Nat} {x : Vt} (hx : l[i]? = some x) : i < posT l k ↔ cmpI x.id k < 0 := by
  induction l generalizing i with
  | nil => cases hx
  | cons y r ih =>
    obtain ⟨h1, h2⟩ := List.pairwise_cons.1 hr
    simp only [posT]
    cases i with
    | zero => cases hx; split <;> simp <;> omega
    | succ i =>
      have hx' : r[i]? = some x := by simpa using hx
      have := ih h2 hx'
      split
      · rw [← this]; omega
      · rename_i h
        constructor
        · intro h'; omega
        · intro h'; exact absurd (cmpI_lt_trans (h1 x (List.mem_of_getElem? hx')) h') h
/-- the count of a name, found by its place -/
theorem cnt_pos {l : List Vt} (hr : Rise l) (hl : ∀ x ∈ l, x.id.length = 32) {k : List Int} (hk : k.length = 32) :
    (∃ x, l[posT l k]? = some x ∧ cmpI x.id k = 0 ∧ x.id = k ∧ cntV l k = x.n) ∨ (cntV l k = 0 ∧ (∀ x ∈ l, x.id ≠ k) ∧ ∀ x, l[posT l k]? = some x → cmpI x.id k ≠ 0) := by
  by_cases h : ∃ x ∈ l, x.id = k
  · left
    obtain ⟨x, hx, he⟩ := h
    obtain ⟨i, hi⟩ := List.getElem?_of_mem hx
    have h1 := posT_lt hr k hi
    rw [he, cmpI_self] at h1
    have hpi : posT l k = i := by
      rcases Nat.lt_trichotomy (posT l k) i with h2 | h2 | h2
      · have hil := (List.getElem?_eq_some_iff.1 hi).1
        have hp := List.getElem?_eq_getElem (l := l) (i := posT l k) (by omega)
        have h3 := (posT_lt hr k hp)
        obtain ⟨_, e⟩ := List.getElem?_eq_some_iff.1 hi
        have h4 := List.pairwise_iff_getElem.1 hr (posT l k) i (by omega) hil h2
        rw [e, he] at h4
        have := h3.2 h4
        omega
      · exact h2
      · omega
    rw [hpi]
    exact ⟨x, hi, by rw [he, cmpI_self], he, by rw [← he]; exact cntV_mem hr.uniq hx⟩
  · right
    refine ⟨cntV_none (fun x hx e => h ⟨x, hx, e⟩), fun x hx e => h ⟨x, hx, e⟩, fun x hx e => ?_⟩
    have hm := List.mem_of_getElem? hx
    exact h ⟨x, hm, (cmpI_zero _ _ (by rw [hl x hm, hk])).1 e⟩

set_option maxRecDepth 100000 in
set_option maxHeartbeats 800000 in
theorem pclo_any (x : Vt) (k : List Int) (hx : x.wf) (hk : Nm k) (w : World) :
    Calls Try.prog 50 #[.agg (vtC x).toArray, .agg (U8s k).toArray] w fun e w' => e = .returned (.int .i64 (cmpI x.id k)) ∧ Kp (fun _ => False) w w' := by
  have h1 := old_blk (new_blk w (.cells (vtC x).toArray 33)) (.cells (U8s k).toArray 27)
  have h2 := new_blk (w.alloc (.cells (vtC x).toArray 33)) (.cells (U8s k).toArray 27)
  rw [World.size_alloc] at h2
  have H1 := Lib.hid (range_pre (range_blk h1) : World.rangeAt _ _ _ (U8s x.id))
  have H2 := Lib.hid h2
  have I1 := Lib.hid (infoIdL hx.nm.len)
  have I2 := Lib.hid (info32 k hk.len)
  have HQ := Lib.hid (fun w => bcmp_kp x.id k hx.nm hk w)
  clear h1 h2 hx hk
  go_enter Try.func50, Try.ntmps50
  go_wp2_with (first
    | ((with_reducible refine at_dst 6 ?_); refine wpList_load_mid rfl 27 _ rfl w.heap.size 0 rfl (U8s x.id) _ H1.out Try.underlying27 rfl I1.out ?_)
    | ((with_reducible refine at_dst 7 ?_); refine wpList_load_row rfl 27 _ rfl (w.heap.size + 1) rfl 27 _ (0, 0) _ H2.out Try.underlying27 rfl I2.out ?_))
  refine (HQ.out _).mono ?_
  rintro e w1 ⟨rfl, hk⟩
  have HK := Lib.hid hk
  clear hk
  go_wp2_with fail
  go_ret
  exact ⟨rfl, (((Kp.refl _ w).alloc _).alloc _).trans HK.out (fun _ _ f => f)⟩

set_option maxRecDepth 100000 in
set_option maxHeartbeats 3200000 in
theorem bsearch_any {v : Value} {l : List Vt} {k0 : List Int} {w : World} (hs : SeesT w v l) (hv : TOk l) (hr : Rise l) (hk : Nm k0) (hn : l.length ≤ 1000000) :
    Calls Try.prog 49 #[v, .agg (U8s k0).toArray, .func (.func 50) #[] #[]] w fun e w' =>
      ∃ fd : Bool, e = .returned (.tuple #[.int .i64 (posT l k0), .bool fd]) ∧ (fd = true ↔ ∃ x, l[posT l k0]? = some x ∧ cmpI x.id k0 = 0) ∧ Kp (fun _ => False) w w' := by
  obtain ⟨a, c, rfl, hlc, hmax⟩ := hs.form
  have HS := Lib.hid hs
  have HV := Lib.hid hv
  have HRI := Lib.hid hr
  have HKN := Lib.hid hk
  have HN := Lib.hid hn
  have HPL := Lib.hid (posT_le l k0)
  have HPT := Lib.hid (fun (i : Nat) (x : Vt) (hx : l[i]? = some x) => posT_lt hr k0 hx)
  have HI := Lib.hid (fun (x : Vt) (h : x.id.length = 32) => infoVt h)
  have HIK := Lib.hid (info32 k0 hk.len)
  obtain ⟨p, hp⟩ : ∃ p, p = posT l k0 := ⟨_, rfl⟩
  rw [← hp] at HPL HPT ⊢
  have HC := Lib.hid (fun (x : Vt) (hx : x.wf) (w : World) => pclo_any x k0 hx hk w)
  clear hs hv hr hk hp
  go_enter Try.func49, Try.ntmps49
  go_wp2_with fail
  go_loopw [9, 10] (fun i j wr => ∃ x y : Nat, i = .int .i64 x ∧ j = .int .i64 y ∧ x ≤ y ∧ y ≤ l.length ∧ Hid (x ≤ p ∧ p ≤ y) ∧ Hid (Kp (fun _ => False) (w.alloc (.cells (U8s k0).toArray 27)) wr)) (fun i j _ => (intOf j).toNat - (intOf i).toNat)
  case atStart => exact ⟨0, l.length, rfl, rfl, Nat.zero_le _, Nat.le_refl _, Lib.hid ⟨Nat.zero_le _, HPL.out⟩, Lib.hid (Kp.refl _ _)⟩
  case round =>
    obtain ⟨x, y, rfl, rfl, hxy, hyl, hpp, hkp⟩ := hrel
    have hn' := HN.out
    by_cases hlt : x < y
    · obtain ⟨h, hh⟩ : ∃ h : Nat, ((x : Int) + y) / 2 = (h : Int) := ⟨(x + y) / 2, by omega⟩
      have hx0 : x ≤ h := by omega
      have hx1 : h < y := by omega
      have hhl : h < l.length := by omega
      obtain ⟨u, hu⟩ : ∃ u, l[h]? = some u := ⟨l[h], List.getElem?_eq_getElem hhl⟩
      obtain ⟨g, off, rfl, hr⟩ := (HS.out.kept (((Kp.refl _ w).alloc _).trans hkp.out (fun _ _ f => f))).at hu
      have HU := Lib.hid (tok_at HV.out hu)
      have HP := Lib.hid (HPT.out h u hu)
      have HR := Lib.hid (fun (w' : World) (k : Kp (fun _ => False) wr w') => (range_kp hr k (fun f => f) : w'.rangeAt g (off + h * 33) (vtC u)))
      have MK := Lib.hid (fun (w' : World) (k : Kp (fun _ => False) wr w') => kept_blk (kept_blk (new_blk w (.cells (U8s k0).toArray 27)) hkp.out (fun f => f)) k (fun f => f))
      have HPP := Lib.hid hpp.out
      have HKP := Lib.hid hkp.out
      clear hr hu hpp hkp
      go_upto_region 5 with fail
      refine wp_kept (W := wr) (by kernel_rfl) (by kernel_rfl) (Kp.refl _ _) ?_
      repeat (first
        | go_big_quiet_skip
        | (go_big_quiet_want; refine quiet_ld 33 _ rfl g (off + h * 33) rfl (vtC u) _ HR.out Try.underlying33 rfl (HI.out u HU.out.nm.len) ?_; (simp only [Act.put, List.setIfInBounds_toArray, List.set_cons_zero, List.set_cons_succ]); go_big_quiet_on)
        | (go_big_quiet_want; refine quiet_load_row 27 _ rfl w.heap.size rfl 27 _ (0, 0) _ MK.out Try.underlying27 rfl HIK.out ?_; (simp only [Act.put, List.setIfInBounds_toArray, List.set_cons_zero, List.set_cons_succ]); go_big_quiet_on)
        | (go_big_quiet_want; go_big_quiet_op; first | go_big_quiet_on | go_big_quiet_call ((intro hk; first
            | with_reducible rfl
            | (go_at_call 50; exact (HC.out u HU.out _).mono (fun e w' h => ⟨h.1, hk.trans h.2 (fun _ _ f => f)⟩))))))
      refine wpQuiet_nil ?_
      intro w3 k3
      have K3 := Lib.hid (HKP.out.trans k3 (fun _ _ f => f))
      clear k3
      by_cases hc : cmpI u.id k0 < 0
      · have hc' := decide_eq_true hc
        have HQ := Lib.hid (show h + 1 ≤ p from HP.out.2 hc)
        rw [hc']
        clear hc hc'
        go_wp2_with fail
        go_roundw
        case rel => exact ⟨h + 1, y, by go_num, rfl, by omega, by omega, Lib.hid ⟨HQ.out, HPP.out.2⟩, K3⟩
        case measure => simp [intOf]; omega
      · have hc' := decide_eq_false hc
        have HQ := Lib.hid (show p ≤ h from by have := HP.out; omega)
        rw [hc']
        clear hc hc'
        go_wp2_with fail
        go_roundw
        case rel => exact ⟨x, h, rfl, rfl, by omega, by omega, Lib.hid ⟨HPP.out.1, HQ.out⟩, K3⟩
        case measure => simp [intOf]; omega
    · obtain rfl : x = y := by omega
      obtain ⟨h1, h2⟩ := hpp.out
      obtain rfl : x = p := by omega
      clear h1 h2 hpp
      by_cases hpl : x < l.length
      · obtain ⟨u, hu⟩ : ∃ u, l[x]? = some u := ⟨l[x], List.getElem?_eq_getElem hpl⟩
        obtain ⟨g, off, rfl, hr⟩ := (HS.out.kept (((Kp.refl _ w).alloc _).trans hkp.out (fun _ _ f => f))).at hu
        have HU := Lib.hid (tok_at HV.out hu)
        have HUE := Lib.hid hu
        have HR := Lib.hid (fun (w' : World) (k : Kp (fun _ => False) wr w') => (range_kp hr k (fun f => f) : w'.rangeAt g (off + x * 33) (vtC u)))
        have MK := Lib.hid (fun (w' : World) (k : Kp (fun _ => False) wr w') => kept_blk (kept_blk (new_blk w (.cells (U8s k0).toArray 27)) hkp.out (fun f => f)) k (fun f => f))
        have HKP := Lib.hid hkp.out
        clear hr hu hkp
        go_upto_region 8 with fail
        refine wp_kept (W := wr) (by kernel_rfl) (by kernel_rfl) (Kp.refl _ _) ?_
        repeat (first
          | go_big_quiet_skip
          | (go_big_quiet_want; refine quiet_ld 33 _ rfl g (off + x * 33) rfl (vtC u) _ HR.out Try.underlying33 rfl (HI.out u HU.out.nm.len) ?_; (simp only [Act.put, List.setIfInBounds_toArray, List.set_cons_zero, List.set_cons_succ]); go_big_quiet_on)
          | (go_big_quiet_want; refine quiet_load_row 27 _ rfl w.heap.size rfl 27 _ (0, 0) _ MK.out Try.underlying27 rfl HIK.out ?_; (simp only [Act.put, List.setIfInBounds_toArray, List.set_cons_zero, List.set_cons_succ]); go_big_quiet_on)
          | (go_big_quiet_want; go_big_quiet_op; first | go_big_quiet_on | go_big_quiet_call ((intro hk; first
              | with_reducible rfl
              | (go_at_call 50; exact (HC.out u HU.out _).mono (fun e w' h => ⟨h.1, hk.trans h.2 (fun _ _ f => f)⟩))))))
        refine wpQuiet_nil ?_
        intro w3 k3
        have K3 := Lib.hid (HKP.out.trans k3 (fun _ _ f => f))
        clear k3
        generalize hci : cmpI u.id k0 = ci
        have HCI := Lib.hid hci
        clear hci
        go_wp2_with fail
        go_ret2
        refine ⟨_, rfl, ?_, ((Kp.refl _ w).alloc _).trans K3.out (fun _ _ f => f)⟩
        rw [HUE.out]
        simp [HCI.out]
      · have HE := Lib.hid (show l[x]? = none from List.getElem?_eq_none (by omega))
        have HKP := Lib.hid hkp.out
        clear hkp
        go_upto_region 8 with fail
        refine wp_kept (W := wr) (by kernel_rfl) (by kernel_rfl) (Kp.refl _ _) ?_
        repeat (first
          | go_big_quiet_skip
          | (go_big_quiet_want; go_big_quiet_op; first | go_big_quiet_on | go_big_quiet_call ((intro hk; with_reducible rfl))))
        refine wpQuiet_nil ?_
        intro w3 k3
        have K3 := Lib.hid (HKP.out.trans k3 (fun _ _ f => f))
        clear k3
        go_wp2_with fail
        go_ret2
        refine ⟨_, rfl, ?_, ((Kp.refl _ w).alloc _).trans K3.out (fun _ _ f => f)⟩
        rw [HE.out]
        simp

set_option maxRecDepth 100000 in
theorem place_any {v : Value} {l : List Vt} {k0 : List Int} {w : World} (hs : SeesT w v l) (hv : TOk l) (hr : Rise l) (hk : Nm k0) (hn : l.length ≤ 1000000) :
    Calls Try.prog 42 #[v, .agg (U8s k0).toArray] w fun e w' =>
      ∃ fd : Bool, e = .returned (.tuple #[.int .i64 (posT l k0), .bool fd]) ∧ (fd = true ↔ ∃ x, l[posT l k0]? = some x ∧ cmpI x.id k0 = 0) ∧ Kp (fun _ => False) w w' := by
  have HQ := Lib.hid (fun w' (k : Kp (fun _ => False) w w') => bsearch_any (hs.kept k) hv hr hk hn)
  have HIK := Lib.hid (info32 k0 hk.len)
  have MB := Lib.hid (new_blk w (.cells (U8s k0).toArray 27))
  have K1 := Lib.hid ((Kp.refl (fun _ => False) w).alloc (.cells (U8s k0).toArray 27))
  obtain ⟨a, c, rfl, _⟩ := hs.form
  clear hs hv hr hk hn
  generalize posT l k0 = p at HQ ⊢
  go_enter Try.func42, Try.ntmps42
  go_wp2_with ((with_reducible refine at_dst 7 ?_); refine wpList_load_row rfl 27 _ rfl w.heap.size rfl 27 _ (0, 0) _ MB.out Try.underlying27 rfl HIK.out ?_)
  refine (HQ.out _ K1.out).mono ?_
  rintro e w1 ⟨fd, rfl, hfd, hk⟩
  have HF := Lib.hid hfd
  have HK := Lib.hid (K1.out.trans hk (fun _ _ f => f))
  clear hfd hk
  go_wp2_with fail
  go_ret2
  exact ⟨fd, rfl, HF.out, HK.out⟩

set_option maxRecDepth 100000 in
set_option maxHeartbeats 800000 in
theorem bcount_any {v : Value} {l : List Vt} {k0 : List Int} {w : World} (hs : SeesT w v l) (hv : TOk l) (hk : Nm k0) (hn : l.length ≤ 1000000) :
    Calls Try.prog 29 #[v, .agg (U8s k0).toArray] w fun e w' => e = .returned (.int .i64 (cond (good l) (cntV l k0) 0)) ∧ Kp (fun _ => False) w w' := by
  have HC := Lib.hid (fun w' (k : Kp (fun _ => False) w w') => bcheck_any (hs.kept k) hv)
  have HS := Lib.hid (fun w' (k : Kp (fun _ => False) w w') => hs.kept k)
  have HIK := Lib.hid (info32 k0 hk.len)
  have MB := Lib.hid (new_blk w (.cells (U8s k0).toArray 27))
  have K1 := Lib.hid ((Kp.refl (fun _ => False) w).alloc (.cells (U8s k0).toArray 27))
  cases hg : good l with
  | false =>
    have hc : chkT l = 70 := by unfold chkT; rw [hg]; rfl
    obtain ⟨a, c, rfl, _⟩ := hs.form
    rw [hc] at HC
    clear hs hv hk hn hg hc
    go_enter Try.func29, Try.ntmps29
    go_wp2_with fail
    refine (HC.out _ K1.out).mono ?_
    rintro e w1 ⟨rfl, hk1⟩
    have HK := Lib.hid (K1.out.trans hk1 (fun _ _ f => f))
    clear hk1
    go_wp2_with fail
    go_ret
    exact ⟨rfl, HK.out⟩
  | true =>
    have hc : chkT l = 0 := by unfold chkT; rw [hg]; rfl
    have HP := Lib.hid (fun w' (k : Kp (fun _ => False) w w') => place_any (hs.kept k) hv (good_rise hg) hk hn)
    have HCP := Lib.hid (cnt_pos (good_rise hg) (fun x hx => (hv x hx).nm.len) hk.len)
    have HV := Lib.hid hv
    obtain ⟨a, c, rfl, hlc, hmax⟩ := hs.form
    rw [hc] at HC
    have HN := Lib.hid hn
    clear hs hv hk hn hg hc
    generalize posT l k0 = p at HP HCP
    go_enter Try.func29, Try.ntmps29
    go_wp2_with fail
    refine (HC.out _ K1.out).mono ?_
    rintro e w1 ⟨rfl, hk1⟩
    have HK := Lib.hid (K1.out.trans hk1 (fun _ _ f => f))
    have MB1 := Lib.hid (kept_blk MB.out hk1 (fun f => f))
    clear hk1
    go_wp2_with ((with_reducible refine at_dst 12 ?_); refine wpList_load_row rfl 27 _ rfl w.heap.size rfl 27 _ (0, 0) _ MB1.out Try.underlying27 rfl HIK.out ?_)
    refine (HP.out _ HK.out).mono ?_
    rintro e w2 ⟨fd, rfl, hfd, hk2⟩
    have HK2 := Lib.hid (HK.out.trans hk2 (fun _ _ f => f))
    clear hk2
    have hn1 := HN.out
    rcases HCP.out with ⟨x, hx, h0, _, hcn⟩ | ⟨hcn, _, hno⟩
    · obtain rfl : fd = true := hfd.2 ⟨x, hx, h0⟩
      obtain ⟨g, off, rfl, hr⟩ := (HS.out _ HK2.out).at hx
      have hpl := (List.getElem?_eq_some_iff.1 hx).1
      have hc32 : w2.cell? ⟨g, off + p * 33 + 32, none⟩ = some (.int .i64 x.n) := hr 32 _ (vt_n (tok_at HV.out hx).nm.len)
      have HCN := Lib.hid hcn
      clear hr hx h0 hcn hfd
      go_wp2_with fail
      go_ret
      exact ⟨by rw [HCN.out]; rfl, HK2.out⟩
    · obtain rfl : fd = false := by
        cases fd with
        | false => rfl
        | true => obtain ⟨x, hx, h0⟩ := hfd.1 rfl; exact absurd h0 (hno x hx)
      have HCN := Lib.hid hcn
      clear hcn hfd hno
      go_wp2_with fail
      go_ret
      exact ⟨by rw [HCN.out]; rfl, HK2.out⟩
end Go.Proofs.Ytoeinolekpmbbaa
