/-
  The document's Total; whose a unit is: At, the program's and the document's; which units one has: Units.
-/
import Derived.Test.YtanmgfpogomgcaaDf
namespace Go.Proofs.Ytanmgfpogomgcaa
open Go.RowKit

/-- all weights together -/
def sumV : List Vd → Int
  | [] => 0
  | x :: r => x.wt + sumV r
theorem sumV_append (a b : List Vd) : sumV (a ++ b) = sumV a + sumV b := by
  induction a with
  | nil => simp [sumV]
  | cons x r ih => simp [sumV, ih]; omega
theorem sumV_take {l : List Vd} {k : Nat} {x : Vd} (h : l[k]? = some x) : sumV (l.take (k + 1)) = sumV (l.take k) + x.wt := by
  obtain ⟨hk, e⟩ := List.getElem?_eq_some_iff.1 h
  rw [List.take_succ_eq_append_getElem hk, sumV_append, e]
  simp [sumV]
theorem weightsOk_pos {left : Int} {l : List Vd} (h : weightsOk left l = true) : ∀ x ∈ l, 1 ≤ x.wt := by
  induction l generalizing left with
  | nil => intro x hx; cases hx
  | cons y r ih =>
    simp only [weightsOk, Bool.and_eq_true, decide_eq_true_eq] at h
    intro x hx
    rcases List.mem_cons.1 hx with rfl | hx
    · exact h.1.1
    · exact ih h.2 x hx
theorem weightsOk_sum {left : Int} {l : List Vd} (h : weightsOk left l = true) (hl : 0 ≤ left) : sumV l ≤ left := by
  induction l generalizing left with
  | nil => exact hl
  | cons y r ih =>
    simp only [weightsOk, Bool.and_eq_true, decide_eq_true_eq] at h
    have := ih h.2 (by omega)
    show y.wt + sumV r ≤ left
    omega
theorem weightsOk_take {left : Int} {l : List Vd} (h : weightsOk left l = true) (k : Nat) : weightsOk left (l.take k) = true := by
  induction l generalizing left k with
  | nil => simp [weightsOk]
  | cons y r ih =>
    cases k with
    | zero => rfl
    | succ k =>
      simp only [weightsOk, Bool.and_eq_true, decide_eq_true_eq, List.take_succ_cons] at h ⊢
      exact ⟨h.1, ih h.2 k⟩
theorem sumV_nonneg {l : List Vd} (h : ∀ x ∈ l, 1 ≤ x.wt) : 0 ≤ sumV l := by
  induction l with
  | nil => simp [sumV]
  | cons y r ih =>
    have := ih (fun x hx => h x (List.mem_cons_of_mem _ hx))
    have := h y (by simp)
    show 0 ≤ y.wt + sumV r
    omega
/-- what a set that may be is like -/
structure GoodV (l : List Vd) : Prop where
  one : 1 ≤ l.length
  most : l.length ≤ 32
  nm : namesOk l = true
  wt : weightsOk 4611686018427387903 l = true
theorem checkE_ok {l : List Vd} : checkE l = 0 ↔ GoodV l := by
  unfold checkE
  constructor
  · intro h
    cases h1 : (decide (l.length < 1) || decide (32 < l.length)) <;> rw [h1] at h
    · cases h2 : namesOk l <;> rw [h2] at h
      · cases h
      · cases h3 : weightsOk 4611686018427387903 l <;> rw [h3] at h
        · cases h
        · rw [Bool.or_eq_false_iff, decide_eq_false_iff_not, decide_eq_false_iff_not] at h1
          exact ⟨by have := h1.1; omega, by have := h1.2; omega, h2, h3⟩
    · cases h
  · intro h
    have h1 : (decide (l.length < 1) || decide (32 < l.length)) = false := by
      have e1 := h.one
      have e2 := h.most
      rw [decide_eq_false (by omega), decide_eq_false (by omega)]; rfl
    rw [h1, h.nm, h.wt]
    rfl
theorem GoodV.pos {l : List Vd} (h : GoodV l) {k : Nat} {x : Vd} (hk : l[k]? = some x) : 1 ≤ x.wt := weightsOk_pos h.wt x (List.mem_of_getElem? hk)
theorem GoodV.pre {l : List Vd} (h : GoodV l) (k : Nat) : 0 ≤ sumV (l.take k) ∧ sumV (l.take k) ≤ sumV l := by
  constructor
  · exact sumV_nonneg (fun x hx => weightsOk_pos h.wt x (List.mem_of_mem_take hx))
  · have e : sumV l = sumV (l.take k) + sumV (l.drop k) := by rw [← sumV_append, List.take_append_drop]
    have := sumV_nonneg (l := l.drop k) (fun x hx => weightsOk_pos h.wt x (List.mem_of_mem_drop hx))
    omega
theorem GoodV.sum {l : List Vd} (h : GoodV l) : sumV l ≤ 4611686018427387903 := weightsOk_sum h.wt (by omega)
theorem findV_inv {l : List Vd} {n : ByteArray} {k : Nat} (h : findV l n = (k : Int)) : ∀ (j : Nat) (y : Vd), j < k → l[j]? = some y → y.name ≠ n := by
  induction l generalizing k with
  | nil => intro j y _ hy; cases hy
  | cons x r ih =>
    unfold findV at h
    split at h
    · intro j y hj; omega
    · rename_i hx
      split at h
      · omega
      · intro j y hj hy
        cases j with
        | zero => cases hy; exact hx
        | succ j => exact ih (k := k - 1) (by omega) j y (by omega) hy
theorem GoodV.take {l : List Vd} (h : GoodV l) {k : Nat} (h1 : 1 ≤ k) (hk : k ≤ l.length) : GoodV (l.take k) := by
  refine ⟨by rw [List.length_take]; omega, by have := h.most; rw [List.length_take]; omega, namesOk_yes (fun i x hi => ?_), weightsOk_take h.wt k⟩
  have hi' := hi
  rw [List.getElem?_take] at hi
  split at hi
  · obtain ⟨h2, h3⟩ := namesOk_at h.nm hi
    refine ⟨h2, findV_at hi' rfl (fun j y hj hy => ?_)⟩
    rw [List.getElem?_take] at hy
    split at hy
    · exact findV_inv h3 j y hj hy
    · cases hy
  · cases hi
/-- what Total says -/
def totalV (l : List Vd) : Int := cond (decide (checkE l = 0)) (sumV l) 0

set_option maxRecDepth 100000 in
set_option maxHeartbeats 1600000 in
theorem rtotal_any {v : Value} {l : List Vd} {w : World} (hs : SeesV w v l) (hv : VOk l) : Calls Try.prog 9 #[v] w fun e w' => e = .returned (.int .i64 (totalV l)) ∧ Kp (fun _ => False) w w' := by
  obtain ⟨a, c, rfl, hlc, hmax⟩ := hs.form
  have HS := Lib.hid hs
  have HV := Lib.hid hv
  have HC := Lib.hid (fun w' (k : Kp (fun _ => False) w w') => rcheck_any (hs.kept k) hv)
  have hG := fun (h : checkE l = 0) => checkE_ok.1 h
  obtain ⟨z, hz'⟩ : ∃ z, z = totalV l := ⟨_, rfl⟩
  rw [← hz']
  obtain ⟨ce, hce⟩ : ∃ ce, ce = checkE l := ⟨_, rfl⟩
  have HZ := Lib.hid (show z = cond (decide (ce = 0)) (sumV l) 0 by rw [hz', hce]; rfl)
  rw [← hce] at HC hG
  have HG := Lib.hid hG
  clear hs hv hz' hce hG
  go_enter Try.func9, Try.ntmps9
  go_wp2
  go_loopw [3, 4] (fun n i wr => ∃ (k : Nat) (s : Int), k ≤ l.length ∧ i = .int .i64 k ∧ n = .int .i64 s ∧ (0 ≤ s ∧ s ≤ 4611686018427387903) ∧ (0 < k → ce = 0) ∧ Kp (fun _ => False) w wr ∧ Hid (s = sumV (l.take k))) (fun _ i _ => l.length - (intOf i).toNat)
  case atStart => exact ⟨0, 0, by omega, rfl, rfl, by omega, by omega, Kp.refl _ _, Lib.hid (by simp [sumV])⟩
  case round =>
    obtain ⟨k, s, hk, rfl, rfl, ⟨hs0, hs1⟩, hce0, hkp, hsm⟩ := hrel
    by_cases hlt : k < l.length
    · obtain ⟨x, hx⟩ : ∃ x, l[k]? = some x := ⟨l[k], by simp [hlt]⟩
      obtain ⟨g, off, rfl, _, _, hc1⟩ := (HS.out.kept hkp).at hx
      have HX := Lib.hid hx
      have HK := Lib.hid hkp
      clear hx hkp
      go_wp2_with fail
      refine (HC.out _ HK.out).mono ?_
      rintro e w2 ⟨rfl, k2⟩
      have c1 : w2.cell? ⟨g, off + k * 2 + 1, none⟩ = some (.int .i64 x.wt) := by rw [k2.cell (lt_of_cell hc1) (fun f => f)]; exact hc1
      have K2 := Lib.hid (HK.out.trans k2 (fun _ _ f => f))
      clear k2 hc1
      by_cases h0 : ce = 0
      · obtain ⟨hp1, hp2, hp3⟩ : 1 ≤ x.wt ∧ 0 ≤ s + x.wt ∧ s + x.wt ≤ 4611686018427387903 := by
          have G := HG.out h0
          have h1 := G.pos HX.out
          have h2 := G.pre (k + 1)
          have h3 := G.sum
          rw [sumV_take HX.out, ← hsm.out] at h2
          omega
        have h0' : (ce == 0) = true := by simp [h0]
        go_wp2
        go_roundw
        case rel => exact ⟨k + 1, _, by omega, by go_num, rfl, by omega, fun _ => h0, K2.out, Lib.hid (by rw [sumV_take HX.out, ← hsm.out])⟩
        case measure => simp [intOf]; omega
      · have hk0 : k = 0 := by
          rcases Nat.eq_zero_or_pos k with h | h
          · exact h
          · exact absurd (hce0 h) h0
        have HF := Lib.hid (show z = 0 by rw [HZ.out, decide_eq_false h0]; rfl)
        have HS0 := Lib.hid (show s = 0 by rw [hsm.out, hk0]; simp [sumV])
        have h0' : (ce == 0) = false := by simp [h0]
        go_wp2
        go_ret
        exact ⟨by rw [HF.out, HS0.out]; rfl, K2.out⟩
    · obtain rfl : k = l.length := by omega
      have HF := Lib.hid (show z = s by
        rw [HZ.out, hsm.out, List.take_length]
        rcases Nat.eq_zero_or_pos l.length with h | h
        · have : l = [] := List.eq_nil_of_length_eq_zero h
          subst this
          simp [sumV]
        · rw [decide_eq_true (hce0 h)]; rfl)
      have HK := Lib.hid hkp
      clear hkp
      go_wp2
      go_ret
      exact ⟨by rw [HF.out]; rfl, HK.out⟩

/-- whose a unit is, counted from i on -/
def atGo : Nat → List Vd → Int → Int
  | _, [], _ => -1
  | i, x :: r, u => cond (decide (u < x.wt)) (i : Int) (atGo (i + 1) r (u - x.wt))
/-- what At says -/
def atV (l : List Vd) (u : Int) : Int := cond (decide (checkE l = 0) && decide (0 ≤ u)) (atGo 0 l u) (-1)
theorem atGo_at {l : List Vd} {k : Nat} {x : Vd} (h : l[k]? = some x) (u : Int) : atGo k (l.drop k) u = cond (decide (u < x.wt)) (k : Int) (atGo (k + 1) (l.drop (k + 1)) (u - x.wt)) := by
  rw [drop_at h]; rfl

end Go.Proofs.Ytanmgfpogomgcaa
