/-
  Draws by which wished units come, on plain lists; slices.Contains.
-/
import Derived.Test.YtpadabmbblcklaaEr
namespace Go.Proofs.Ytpadabmbblcklaa
open Go.RowKit

/-- how many of l are below x -/
def clt (l : List Int) (x : Int) : Nat := l.countP (fun y => decide (y < x))
theorem clt_nil (x : Int) : clt [] x = 0 := rfl
theorem clt_take {l : List Int} {k : Nat} {y : Int} (hy : l[k]? = some y) (x : Int) : clt (l.take (k + 1)) x = clt (l.take k) x + (if y < x then 1 else 0) := by
  obtain ⟨hk, e⟩ := List.getElem?_eq_some_iff.1 hy
  rw [List.take_succ_eq_append_getElem hk, e]
  unfold clt
  rw [List.countP_append, List.countP_cons, List.countP_nil]
  by_cases h : y < x <;> simp [h]
theorem clt_cnt {l : List Int} {x : Int} (h : x ∉ l) : clt l x = cnt l x := by
  unfold clt cnt
  apply List.countP_congr
  intro y hy
  have : y ≠ x := fun e => h (e ▸ hy)
  simp
  omega
/-- the draws by which these come -/
def wishD (wl : List Int) (j : Nat) : List Int := (List.range j).map (fun i => (wl[i]?.getD 0) - clt (wl.take i) (wl[i]?.getD 0))
theorem wishD_length (wl : List Int) (j : Nat) : (wishD wl j).length = j := by simp [wishD]
theorem wishD_succ {wl : List Int} {j : Nat} {x : Int} (h : wl[j]? = some x) : wishD wl (j + 1) = wishD wl j ++ [x - clt (wl.take j) x] := by
  unfold wishD
  rw [List.range_succ, List.map_append]
  simp [h]
theorem wishD_get {wl : List Int} {n j : Nat} {x : Int} (h : wl[j]? = some x) (hj : j < n) : (wishD wl n)[j]? = some (x - clt (wl.take j) x) := by
  unfold wishD
  simp [hj, h]
theorem take_nodup {l : List Int} (h : l.Nodup) (k : Nat) : (l.take k).Nodup := h.sublist (List.take_sublist k l)
theorem notin_ahead {l : List Int} (h : l.Nodup) {j : Nat} {x : Int} (hx : l[j]? = some x) : x ∉ l.take j := by
  intro hm
  obtain ⟨hj, e⟩ := List.getElem?_eq_some_iff.1 hx
  have h1 := take_nodup h (j + 1)
  rw [List.take_succ_eq_append_getElem hj, e, List.nodup_append] at h1
  exact h1.2.2 x hm x (List.mem_singleton.2 rfl) rfl
/-- the number of a wished unit is one of those that are left -/
theorem wish_num {wl : List Int} (hd : wl.Nodup) {t : Int} (hr : ∀ y ∈ wl, 0 ≤ y ∧ y < t) {j : Nat} {x : Int} (hx : wl[j]? = some x) :
    0 ≤ x - clt (wl.take j) x ∧ x - clt (wl.take j) x < t - j ∧ Nth (wl.take j) (x - clt (wl.take j) x) x := by
  have hn := notin_ahead hd hx
  have hx' := hr x (List.mem_of_getElem? hx)
  have h := Nth.num (take_nodup hd j) (fun y hy => hr y (List.mem_of_mem_take hy)) hn hx'.1 hx'.2
  have hl : (wl.take j).length = j := by rw [List.length_take]; have := (List.getElem?_eq_some_iff.1 hx).1; omega
  rw [hl] at h
  rw [clt_cnt hn]
  exact ⟨h.1, h.2, hn, rfl⟩
theorem wish_few {wl : List Int} (hd : wl.Nodup) {t : Int} (hr : ∀ y ∈ wl, 0 ≤ y ∧ y < t) (ht : 0 ≤ t) : (wl.length : Int) ≤ t := by
  have h := cnt_gap hd (x := -1) (y := t - 1) (by omega)
  rw [cnt_none (x := -1) (fun y hy => by have := (hr y hy).1; omega), cnt_all (x := t - 1) (fun y hy => by have := (hr y hy).2; omega)] at h
  omega
theorem wish_units {wl : List Int} (hd : wl.Nodup) {t : Int} (hr : ∀ y ∈ wl, 0 ≤ y ∧ y < t) (ht : 0 ≤ t) (hm : t ≤ 4611686018427387903) (hl : wl.length ≤ 64) : unitsU t (wl.length : Int) (wishD wl wl.length) = (wl, 0) := by
  have hf := wish_few hd hr ht
  have hok := drawn_ok (numA_ok (t := t) (ds := wishD wl wl.length) (k := wl.length) hf)
  have key : ∀ j, j ≤ wl.length → unitsL t (numA t (wishD wl wl.length)) j = wl.take j := by
    intro j
    induction j with
    | zero => intro _; rfl
    | succ j ih =>
      intro hj
      have i := ih (by omega)
      obtain ⟨x, hx⟩ : ∃ x, wl[j]? = some x := ⟨wl[j], List.getElem?_eq_getElem (by omega)⟩
      obtain ⟨h1, h2, h3⟩ := wish_num hd hr hx
      have hfj : numA t (wishD wl wl.length) j = x - clt (wl.take j) x := by
        unfold numA
        rw [wishD_get hx (by omega), Option.getD_some]
        exact Int.emod_eq_of_lt h1 h2
      have d := hok j (by omega)
      have hn := d.nth
      rw [hfj] at hn
      have hnd := d.nodup
      rw [i] at hn hnd
      have := hn.one hnd h3
      rw [unitsL_succ, hfj, this, i]
      obtain ⟨hk, e⟩ := List.getElem?_eq_some_iff.1 hx
      rw [List.take_succ_eq_append_getElem hk, e]
  unfold unitsU
  rw [if_neg (by omega), if_neg (by omega), Int.toNat_natCast, key wl.length (Nat.le_refl _), List.take_length]

set_option maxRecDepth 100000 in
set_option maxHeartbeats 1600000 in
theorem index_any {v : Value} {l : List Int} {w : World} (hs : SeesZ .i64 w v l) (n : Int) :
    Calls Try.prog 38 #[v, .int .i64 n] w fun e w' => ∃ r : Int, e = .returned (.int .i64 r) ∧ Hid (decide (0 ≤ r) = decide (n ∈ l)) ∧ Kp (fun _ => False) w w' := by
  obtain ⟨a, c, rfl, hlc, hmax, _⟩ := hs.form
  have HS := Lib.hid hs
  clear hs
  go_enter Try.func38, Try.ntmps38
  go_wp2
  go_loopw [8] (fun i wr => ∃ k : Nat, k ≤ l.length ∧ i = .int .i64 k ∧ wr = w ∧ Hid (n ∉ l.take k)) (fun i _ => l.length - (intOf i).toNat)
  case atStart => exact ⟨0, by omega, rfl, rfl, Lib.hid (by simp)⟩
  case round =>
    obtain ⟨k, hk, rfl, rfl, hno⟩ := hrel
    by_cases hlt : k < l.length
    · obtain ⟨x, hx⟩ : ∃ x, l[k]? = some x := ⟨l[k], by simp⟩
      obtain ⟨g, off, rfl, hc⟩ := HS.out.at hx
      have HX := Lib.hid hx
      clear hx
      by_cases hxn : n = x
      · have HF := Lib.hid (show decide (0 ≤ (k : Int)) = decide (n ∈ l) by rw [decide_eq_true (by omega), decide_eq_true (hxn ▸ List.mem_of_getElem? HX.out)])
        subst hxn
        go_wp2
        go_ret
        exact ⟨_, rfl, HF, Kp.refl _ _⟩
      · have HN := Lib.hid (notin_take HX.out hno.out (fun e => hxn e.symm))
        go_wp2
        go_roundw
        case rel => exact ⟨k + 1, by omega, by go_num, by first | rfl | trivial, HN⟩
        case measure => simp [intOf]; omega
    · obtain rfl : k = l.length := by omega
      have HF := Lib.hid (show decide (0 ≤ (-1 : Int)) = decide (n ∈ l) by rw [decide_eq_false (by omega), decide_eq_false (by have := hno.out; rwa [List.take_length] at this)])
      go_wp2
      go_ret
      exact ⟨-1, rfl, HF, Kp.refl _ _⟩
set_option maxRecDepth 100000 in
theorem contains_any {v : Value} {l : List Int} {w : World} (hs : SeesZ .i64 w v l) (n : Int) :
    Calls Try.prog 27 #[v, .int .i64 n] w fun e w' => e = .returned (.bool (decide (n ∈ l))) ∧ Kp (fun _ => False) w w' := by
  have HI := Lib.hid (index_any hs n)
  obtain ⟨a, c, rfl, hlc, hmax, _⟩ := hs.form
  obtain ⟨z, hz⟩ : ∃ z, z = decide (n ∈ l) := ⟨_, rfl⟩
  rw [← hz] at HI ⊢
  clear hs hz
  go_enter Try.func27, Try.ntmps27
  go_wp2_with fail
  refine HI.out.mono ?_
  rintro e w2 ⟨r, rfl, hr, k2⟩
  have K2 := Lib.hid k2
  clear k2
  cases z
  · have h0 : ¬ (0 ≤ r) := of_decide_eq_false hr.out
    go_wp2_with fail
    go_ret
    exact ⟨by first | rfl | (simp [h0]), K2.out⟩
  · have h0 : 0 ≤ r := of_decide_eq_true hr.out
    go_wp2_with fail
    go_ret
    exact ⟨by first | rfl | (simp [h0]), K2.out⟩
end Go.Proofs.Ytpadabmbblcklaa
