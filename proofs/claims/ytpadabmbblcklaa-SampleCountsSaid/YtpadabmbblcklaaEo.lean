/-
  Weights, whose a unit is, counts: on plain lists. Nothing of the program stands here.
-/
import Derived.Test.YtpadabmbblcklaaEa
namespace Go.Proofs.Ytpadabmbblcklaa

/-- all weights together -/
def sumQ : List Int → Int
  | [] => 0
  | x :: r => x + sumQ r
theorem sumQ_append (a b : List Int) : sumQ (a ++ b) = sumQ a + sumQ b := by
  induction a with
  | nil => simp [sumQ]
  | cons x r ih => simp [sumQ, ih]; omega
theorem sumQ_take {l : List Int} {k : Nat} {x : Int} (h : l[k]? = some x) : sumQ (l.take (k + 1)) = sumQ (l.take k) + x := by
  obtain ⟨hk, e⟩ := List.getElem?_eq_some_iff.1 h
  rw [List.take_succ_eq_append_getElem hk, sumQ_append, e]
  simp [sumQ]
/-- each at least 1, all together at most so much -/
def wtsOk : Int → List Int → Bool
  | _, [] => true
  | left, x :: r => decide (1 ≤ x) && decide (x ≤ left) && wtsOk (left - x) r
theorem wtsOk_pos {left : Int} {l : List Int} (h : wtsOk left l = true) : ∀ x ∈ l, 1 ≤ x := by
  induction l generalizing left with
  | nil => intro x hx; cases hx
  | cons y r ih =>
    simp only [wtsOk, Bool.and_eq_true, decide_eq_true_eq] at h
    intro x hx
    rcases List.mem_cons.1 hx with rfl | hx
    · exact h.1.1
    · exact ih h.2 x hx
theorem wtsOk_sum {left : Int} {l : List Int} (h : wtsOk left l = true) (hl : 0 ≤ left) : sumQ l ≤ left := by
  induction l generalizing left with
  | nil => exact hl
  | cons y r ih =>
    simp only [wtsOk, Bool.and_eq_true, decide_eq_true_eq] at h
    have := ih h.2 (by omega)
    show y + sumQ r ≤ left
    omega
theorem wtsOk_at {left : Int} {l : List Int} (h : wtsOk left l = true) {k : Nat} {x : Int} (hk : l[k]? = some x) : 1 ≤ x ∧ x ≤ left - sumQ (l.take k) := by
  induction l generalizing left k with
  | nil => cases hk
  | cons y r ih =>
    simp only [wtsOk, Bool.and_eq_true, decide_eq_true_eq] at h
    cases k with
    | zero => cases hk; exact ⟨h.1.1, by simpa [sumQ] using h.1.2⟩
    | succ k =>
      have := ih h.2 hk
      rw [List.take_succ_cons]
      unfold sumQ
      omega
theorem wtsOk_yes {left : Int} {l : List Int} (h : ∀ k x, l[k]? = some x → 1 ≤ x ∧ x ≤ left - sumQ (l.take k)) : wtsOk left l = true := by
  induction l generalizing left with
  | nil => rfl
  | cons y r ih =>
    have h0 := h 0 y rfl
    simp only [List.take_zero, sumQ, Int.sub_zero] at h0
    simp only [wtsOk, Bool.and_eq_true, decide_eq_true_eq]
    refine ⟨h0, ih (fun k x hk => ?_)⟩
    have := h (k + 1) x hk
    rw [List.take_succ_cons] at this
    unfold sumQ at this
    omega
theorem wtsOk_no {left : Int} {l : List Int} {k : Nat} {x : Int} (hk : l[k]? = some x) (h : x < 1 ∨ left - sumQ (l.take k) < x) : wtsOk left l = false := by
  cases e : wtsOk left l with
  | false => rfl
  | true => have := wtsOk_at e hk; omega
theorem sumQ_nonneg {l : List Int} (h : ∀ x ∈ l, 1 ≤ x) : 0 ≤ sumQ l := by
  induction l with
  | nil => simp [sumQ]
  | cons y r ih =>
    have := ih (fun x hx => h x (List.mem_cons_of_mem _ hx))
    have := h y (by simp)
    show 0 ≤ y + sumQ r
    omega
theorem sumQ_pre {l : List Int} (h : ∀ x ∈ l, 1 ≤ x) (k : Nat) : 0 ≤ sumQ (l.take k) ∧ sumQ (l.take k) ≤ sumQ l := by
  constructor
  · exact sumQ_nonneg (fun x hx => h x (List.mem_of_mem_take hx))
  · have e : sumQ l = sumQ (l.take k) + sumQ (l.drop k) := by rw [← sumQ_append, List.take_append_drop]
    have := sumQ_nonneg (l := l.drop k) (fun x hx => h x (List.mem_of_mem_drop hx))
    omega
/-- may weights be? -/
def wtsMay (l : List Int) : Bool := decide (1 ≤ l.length) && decide (l.length ≤ 32) && wtsOk 4611686018427387903 l
structure GoodW (l : List Int) : Prop where
  one : 1 ≤ l.length
  most : l.length ≤ 32
  ok : wtsOk 4611686018427387903 l = true
theorem wtsMay_iff {l : List Int} : wtsMay l = true ↔ GoodW l := by
  unfold wtsMay
  simp only [Bool.and_eq_true, decide_eq_true_eq]
  exact ⟨fun h => ⟨h.1.1, h.1.2, h.2⟩, fun h => ⟨⟨h.one, h.most⟩, h.ok⟩⟩
theorem GoodW.pos {l : List Int} (h : GoodW l) : ∀ x ∈ l, 1 ≤ x := wtsOk_pos h.ok
theorem GoodW.sum {l : List Int} (h : GoodW l) : sumQ l ≤ 4611686018427387903 := wtsOk_sum h.ok (by omega)
/-- their sum, and the error -/
def sumE (l : List Int) : Int × Int := cond (wtsMay l) (sumQ l, 0) (0, 1)

/-- whose a unit is, from place i on -/
def ownGo (i : Nat) : List Int → Int → Int
  | [], _ => 0
  | x :: r, u => if u < x then i else ownGo (i + 1) r (u - x)
theorem ownGo_eq {l : List Int} (hp : ∀ x ∈ l, 1 ≤ x) {k : Nat} {u : Int} : ∀ i, sumQ (l.take k) ≤ u → u < sumQ (l.take (k + 1)) → k < l.length → ownGo i l u = ((i + k : Nat) : Int) := by
  induction l generalizing k u with
  | nil => intro i _ _ h; simp at h
  | cons y r ih =>
    intro i h1 h2 hk
    unfold ownGo
    cases k with
    | zero =>
      simp only [List.take_succ_cons, List.take_zero, sumQ, Int.add_zero] at h2
      rw [if_pos h2]; rfl
    | succ k =>
      rw [List.take_succ_cons] at h1 h2
      unfold sumQ at h1 h2
      have h3 := (sumQ_pre (l := r) (fun x hx => hp x (List.mem_cons_of_mem _ hx)) k).1
      rw [if_neg (by omega), ih (k := k) (fun x hx => hp x (List.mem_cons_of_mem _ hx)) (i + 1) (by omega) (by omega) (by simpa using hk)]
      congr 1; omega
theorem own_exists {l : List Int} : ∀ {u : Int}, 0 ≤ u → u < sumQ l → ∃ k, k < l.length ∧ sumQ (l.take k) ≤ u ∧ u < sumQ (l.take (k + 1)) := by
  induction l with
  | nil => intro u h0 h; simp [sumQ] at h; omega
  | cons y r ih =>
    intro u h0 h
    by_cases hy : u < y
    · exact ⟨0, by simp, by simpa [sumQ] using h0, by simpa [sumQ] using hy⟩
    · unfold sumQ at h
      obtain ⟨k, h1, h2, h3⟩ := ih (u := u - y) (by omega) (by omega)
      refine ⟨k + 1, by simpa using h1, ?_, ?_⟩ <;> (rw [List.take_succ_cons]; unfold sumQ; omega)
def ownQ (l : List Int) (u : Int) : Int := ownGo 0 l u
/-- who owns it is one of theirs, and it is among his -/
theorem ownQ_of {l : List Int} (hp : ∀ x ∈ l, 1 ≤ x) {u : Int} (h0 : 0 ≤ u) (h : u < sumQ l) : ∃ k : Nat, k < l.length ∧ ownQ l u = k ∧ sumQ (l.take k) ≤ u ∧ u < sumQ (l.take (k + 1)) := by
  obtain ⟨k, h1, h2, h3⟩ := own_exists h0 h
  exact ⟨k, h1, by unfold ownQ; rw [ownGo_eq hp 0 h2 h3 h1, Nat.zero_add], h2, h3⟩
/-- what Owner says -/
def ownE (l : List Int) (u : Int) : Int × Int := cond (wtsMay l) (if u < 0 ∨ sumQ l ≤ u then (0, 4) else (ownQ l u, 0)) (0, 1)
/-- what Slots says -/
def slotsE (l : List Int) (k : Int) (ds : List Int) : List Int × Int :=
  cond (wtsMay l) (((unitsU (sumQ l) k ds).1.map (ownQ l)), (unitsU (sumQ l) k ds).2) ([], 1)

/-- how often each below n stands in these -/
def countQ (n : Nat) (l : List Int) : List Int := (List.range n).map (fun (i : Nat) => ((l.countP (fun x => decide (x = (i : Int))) : Nat) : Int))
theorem countQ_length (n : Nat) (l : List Int) : (countQ n l).length = n := by simp [countQ]
theorem countQ_get {n : Nat} {l : List Int} {i : Nat} (h : i < n) : (countQ n l)[i]? = some ((l.countP (fun x => decide (x = (i : Int))) : Nat) : Int) := by simp [countQ, h]
theorem countQ_nil (n : Nat) : countQ n [] = List.replicate n 0 := by
  apply List.ext_getElem?
  intro j
  by_cases hj : j < n
  · rw [countQ_get hj]; simp [hj]
  · rw [List.getElem?_eq_none (by rw [countQ_length]; omega), List.getElem?_eq_none (by simp; omega)]
theorem countQ_set {n : Nat} {l : List Int} {i : Nat} (c : Int) (h : (countQ n l)[i]? = some c) : (countQ n l).set i (c + 1) = countQ n (l ++ [(i : Int)]) := by
  have hi : i < n := by
    have := (List.getElem?_eq_some_iff.1 h).1
    rwa [countQ_length] at this
  rw [countQ_get hi] at h
  apply List.ext_getElem?
  intro j
  rw [List.getElem?_set, countQ_length]
  by_cases hj : j < n
  · by_cases hij : i = j
    · subst hij
      rw [if_pos rfl, if_pos hi, countQ_get hi]
      simp only [Option.some.injEq] at h
      simp [List.countP_append]
      omega
    · rw [if_neg hij, countQ_get hj, countQ_get hj]
      have : ¬ ((i : Int) = (j : Int)) := by omega
      simp [List.countP_append, this]
  · rw [List.getElem?_eq_none (by rw [countQ_length]; omega : (countQ n (l ++ [(i : Int)])).length ≤ j)]
    split
    · omega
    · exact List.getElem?_eq_none (by rw [countQ_length]; omega)
theorem countQ_bound (n : Nat) (l : List Int) : ∀ c ∈ countQ n l, 0 ≤ c ∧ c ≤ l.length := by
  intro c hc
  obtain ⟨i, _, rfl⟩ := List.mem_map.1 hc
  have := List.countP_le_length (p := fun x => decide (x = ((i : Nat) : Int))) (l := l)
  omega
/-- each slot from 0 on, below n? -/
def slotsOk (n : Int) (l : List Int) : Bool := l.all (fun x => decide (0 ≤ x) && decide (x < n))
/-- what Count says -/
def countE (n : Int) (l : List Int) : List Int × Int := if n < 0 ∨ 32 < n then ([], 1) else cond (slotsOk n l) (countQ n.toNat l, 0) ([], 1)
/-- nobody has more slots than units of his own -/
theorem share_le {l us : List Int} (hp : ∀ x ∈ l, 1 ≤ x) (hd : us.Nodup) (hr : ∀ u ∈ us, 0 ≤ u ∧ u < sumQ l) {k : Nat} {x : Int} (hk : l[k]? = some x) :
    (((us.map (ownQ l)).countP (fun y => decide (y = (k : Int))) : Nat) : Int) ≤ x := by
  have hkl := (List.getElem?_eq_some_iff.1 hk).1
  have hx := hp x (List.mem_of_getElem? hk)
  have hst := sumQ_take hk
  have key : ∀ us : List Int, (∀ u ∈ us, 0 ≤ u ∧ u < sumQ l) → (us.map (ownQ l)).countP (fun y => decide (y = (k : Int))) + cnt us (sumQ (l.take k) - 1) = cnt us (sumQ (l.take (k + 1)) - 1) := by
    intro us
    induction us with
    | nil => intro _; rfl
    | cons u r ih =>
      intro h
      have i := ih (fun y hy => h y (List.mem_cons_of_mem _ hy))
      obtain ⟨j, hj, e, h2, h3⟩ := ownQ_of hp (h u (by simp)).1 (h u (by simp)).2
      rw [List.map_cons, List.countP_cons, cnt_cons, cnt_cons, e]
      have hc : ((j : Int) = (k : Int)) ↔ (sumQ (l.take k) ≤ u ∧ u < sumQ (l.take (k + 1))) := by
        constructor
        · intro e; have : j = k := by omega
          subst this; exact ⟨h2, h3⟩
        · intro ⟨h4, h5⟩
          have e2 := ownGo_eq hp 0 h4 h5 hkl
          unfold ownQ at e
          rw [e2] at e
          omega
      by_cases hjk : (j : Int) = (k : Int)
      · obtain ⟨h4, h5⟩ := hc.1 hjk
        simp only [decide_eq_true hjk]
        rw [if_neg (by omega : ¬ u ≤ sumQ (l.take k) - 1), if_pos (by omega : u ≤ sumQ (l.take (k + 1)) - 1)]
        simp only [if_true]
        omega
      · have : ¬ (sumQ (l.take k) ≤ u ∧ u < sumQ (l.take (k + 1))) := fun h => hjk (hc.2 h)
        simp only [decide_eq_false hjk]
        by_cases h6 : u ≤ sumQ (l.take k) - 1
        · rw [if_pos h6, if_pos (by omega : u ≤ sumQ (l.take (k + 1)) - 1)]
          simp only [Bool.false_eq_true, if_false]
          omega
        · rw [if_neg h6, if_neg (by omega : ¬ u ≤ sumQ (l.take (k + 1)) - 1)]
          simp only [Bool.false_eq_true, if_false]
          omega
  have h1 := key us hr
  have h2 := cnt_gap hd (x := sumQ (l.take k) - 1) (y := sumQ (l.take (k + 1)) - 1) (by omega)
  omega
end Go.Proofs.Ytpadabmbblcklaa
