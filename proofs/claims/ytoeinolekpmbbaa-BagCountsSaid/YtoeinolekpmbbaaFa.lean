/-
  Bags of votes as plain lists: what one holds, which may be, how names are put and counted, and that a rising list is known by its counts. Nothing of the program stands here.
-/
import Derived.Test.YtoeinolekpmbbaaBaa
namespace Go.Proofs.Ytoeinolekpmbbaa
open Go.RowKit

/-- a vote -/
structure Vt where
  id : List Int
  n : Int
  deriving DecidableEq
/-- its cells -/
def vtC (x : Vt) : List Value := U8s x.id ++ [.int .i64 x.n]
/-- as any vote that can be -/
structure Vt.wf (x : Vt) : Prop where
  nm : Nm x.id
  lo : -9223372036854775808 ≤ x.n
  hi : x.n ≤ 9223372036854775807
def TOk (l : List Vt) : Prop := ∀ x ∈ l, x.wf
theorem vtC_length {x : Vt} (h : x.id.length = 32) : (vtC x).length = 33 := by simp [vtC, U8s_length, h]
theorem vtC_one (x : Vt) : ∀ u ∈ vtC x, u.oneCell' = true := by
  intro u hu
  rcases List.mem_append.1 hu with h | h
  · exact U8s_one _ u h
  · rw [List.mem_singleton.1 h]; rfl
theorem tok_at {l : List Vt} (h : TOk l) {k : Nat} {x : Vt} (hk : l[k]? = some x) : x.wf := h x (List.mem_of_getElem? hk)

/-! the order of names -/
theorem cmpI_vals : ∀ (a b : List Int), cmpI a b = -1 ∨ cmpI a b = 0 ∨ cmpI a b = 1
  | [], [] => by simp [cmpI]
  | [], _ :: _ => by simp [cmpI]
  | _ :: _, [] => by simp [cmpI]
  | x :: a, y :: b => by
    have ih := cmpI_vals a b
    simp only [cmpI]
    split
    · simp
    · split
      · simp
      · exact ih
theorem cmpI_lt_trans {a b c : List Int} (h1 : cmpI a b < 0) (h2 : cmpI b c < 0) : cmpI a c < 0 := by
  have := cmpI_trans a b c (by omega) (by omega)
  rcases Int.lt_or_eq_of_le this with h | h
  · exact h
  · exfalso
    have h3 := cmpI_trans c a b (by rw [cmpI_turn]; omega) (by omega)
    rw [cmpI_turn] at h3
    omega
theorem cmpI_irr (a : List Int) : ¬ cmpI a a < 0 := by rw [cmpI_self]; omega

/-! which bags may be -/
def sumT (l : List Vt) : Int := (l.map (·.n)).sum
def goodB : Int → List Int → List Vt → Bool
  | _, _, [] => true
  | s, p, x :: r => decide (1 ≤ x.n) && decide (x.n ≤ 1048576 - s) && decide (cmpI p x.id < 0) && goodB (s + x.n) x.id r
/-- the last name, or none -/
def lastI (p : List Int) : List Vt → List Int
  | [] => p
  | x :: r => lastI x.id r
theorem sumT_nil : sumT [] = 0 := rfl
theorem sumT_cons (x : Vt) (l : List Vt) : sumT (x :: l) = x.n + sumT l := by simp [sumT]
theorem sumT_append (a b : List Vt) : sumT (a ++ b) = sumT a + sumT b := by simp [sumT]
theorem goodB_append : ∀ (a b : List Vt) (s : Int) (p : List Int), goodB s p (a ++ b) = (goodB s p a && goodB (s + sumT a) (lastI p a) b)
  | [], b, s, p => by simp [goodB, sumT, lastI]
  | x :: a, b, s, p => by
    simp only [List.cons_append, goodB, lastI, goodB_append a b, sumT_cons, Bool.and_assoc, Int.add_assoc]
theorem lastI_snoc (p : List Int) (a : List Vt) (x : Vt) : lastI p (a ++ [x]) = x.id := by
  induction a generalizing p with
  | nil => rfl
  | cons y a ih => exact ih _
/-- what a bag's Check answers -/
def good (l : List Vt) : Bool := goodB 0 [] l
def chkT (l : List Vt) : Int := cond (good l) 0 70
def totT (l : List Vt) : Int := cond (good l) (sumT l) 0
theorem take_snoc {l : List Vt} {k : Nat} {x : Vt} (hx : l[k]? = some x) : l.take (k + 1) = l.take k ++ [x] := by
  obtain ⟨hk, e⟩ := List.getElem?_eq_some_iff.1 hx
  rw [List.take_succ_eq_append_getElem hk, e]
theorem good_step {l : List Vt} {k : Nat} {x : Vt} (hx : l[k]? = some x) (h : good (l.take k) = true) :
    good (l.take (k + 1)) = (decide (1 ≤ x.n) && decide (x.n ≤ 1048576 - sumT (l.take k)) && decide (cmpI (lastI [] (l.take k)) x.id < 0)) := by
  unfold good at h ⊢
  rw [take_snoc hx, goodB_append, h]
  simp [goodB]
theorem good_take {l : List Vt} (k : Nat) (h : good l = true) : good (l.take k) = true := by
  unfold good at h ⊢
  rw [← List.take_append_drop k l, goodB_append, Bool.and_eq_true] at h
  exact h.1
theorem bad_take {l : List Vt} (k : Nat) (h : good (l.take k) = false) : good l = false := by
  cases hg : good l with
  | false => rfl
  | true => rw [good_take k hg] at h; cases h
theorem last_take {l : List Vt} {k : Nat} {y : Vt} (hy : l[k]? = some y) : lastI [] (l.take (k + 1)) = y.id := by rw [take_snoc hy, lastI_snoc]
theorem goodB_sum : ∀ (l : List Vt) (s : Int) (p : List Int), 0 ≤ s → s ≤ 1048576 → goodB s p l = true → 0 ≤ s + sumT l ∧ s + sumT l ≤ 1048576 ∧ (∀ x ∈ l, 1 ≤ x.n ∧ x.n ≤ 1048576)
  | [], s, p, h0, h1, _ => by simp [sumT]; omega
  | x :: r, s, p, h0, h1, h => by
    simp only [goodB, Bool.and_eq_true, decide_eq_true_eq] at h
    obtain ⟨i1, i2, i3⟩ := goodB_sum r (s + x.n) x.id (by omega) (by omega) h.2
    rw [sumT_cons]
    refine ⟨by omega, by omega, fun y hy => ?_⟩
    rcases List.mem_cons.1 hy with e | hy
    · subst e; omega
    · exact i3 y hy
theorem good_sum {l : List Vt} (h : good l = true) : 0 ≤ sumT l ∧ sumT l ≤ 1048576 ∧ (∀ x ∈ l, 1 ≤ x.n ∧ x.n ≤ 1048576) := by
  have := goodB_sum l 0 [] (by omega) (by omega) h
  simpa using this
theorem good_sum_take {l : List Vt} (h : good l = true) (k : Nat) : 0 ≤ sumT (l.take k) ∧ sumT (l.take k) ≤ 1048576 :=
  ⟨(good_sum (good_take k h)).1, (good_sum (good_take k h)).2.1⟩

/-! rising lists -/
def Rise (l : List Vt) : Prop := l.Pairwise (fun x y => cmpI x.id y.id < 0)
theorem goodB_rise : ∀ (l : List Vt) (s : Int) (p : List Int), goodB s p l = true → Rise l ∧ ∀ x ∈ l, cmpI p x.id < 0
  | [], _, _, _ => ⟨List.Pairwise.nil, fun _ h => by cases h⟩
  | x :: r, s, p, h => by
    simp only [goodB, Bool.and_eq_true, decide_eq_true_eq] at h
    obtain ⟨i1, i2⟩ := goodB_rise r _ _ h.2
    refine ⟨List.pairwise_cons.2 ⟨i2, i1⟩, fun y hy => ?_⟩
    rcases List.mem_cons.1 hy with e | hy
    · rw [e]; exact h.1.2
    · exact cmpI_lt_trans h.1.2 (i2 y hy)
theorem good_rise {l : List Vt} (h : good l = true) : Rise l := (goodB_rise l _ _ h).1
theorem rise_goodB : ∀ (l : List Vt) (s : Int) (p : List Int), Rise l → (∀ x ∈ l, cmpI p x.id < 0 ∧ 1 ≤ x.n) → 0 ≤ s → s + sumT l ≤ 1048576 → goodB s p l = true
  | [], _, _, _, _, _, _ => rfl
  | x :: r, s, p, hr, hp, h0, h1 => by
    obtain ⟨r1, r2⟩ := List.pairwise_cons.1 hr
    have hx := hp x (List.mem_cons_self ..)
    rw [sumT_cons] at h1
    have hrs : 0 ≤ sumT r := by
      have : ∀ (l : List Vt), (∀ y ∈ l, 1 ≤ y.n) → 0 ≤ sumT l := by
        intro l
        induction l with
        | nil => intro _; simp [sumT]
        | cons y l ih => intro hl; rw [sumT_cons]; have := hl y (List.mem_cons_self ..); have := ih (fun z hz => hl z (List.mem_cons_of_mem _ hz)); omega
      exact this r (fun y hy => (hp y (List.mem_cons_of_mem _ hy)).2)
    simp only [goodB, Bool.and_eq_true, decide_eq_true_eq]
    exact ⟨⟨⟨hx.2, by omega⟩, hx.1⟩, rise_goodB r _ _ r2 (fun y hy => ⟨r1 y hy, (hp y (List.mem_cons_of_mem _ hy)).2⟩) (by omega) (by omega)⟩
theorem nil_lt {a : List Int} (h : a.length = 32) : cmpI [] a < 0 := by
  cases a with
  | nil => cases h
  | cons x r => simp [cmpI]
theorem rise_good {l : List Vt} (hw : TOk l) (hr : Rise l) (hp : ∀ x ∈ l, 1 ≤ x.n) (hs : sumT l ≤ 1048576) : good l = true :=
  rise_goodB l 0 [] hr (fun x hx => ⟨nil_lt (hw x hx).nm.len, hp x hx⟩) (by omega) (by omega)

/-! counts -/
/-- how many votes a name has -/
def cntV (l : List Vt) (k : List Int) : Int := match l with
  | [] => 0
  | x :: r => if x.id = k then x.n else cntV r k
theorem cntV_none {l : List Vt} {k : List Int} (h : ∀ x ∈ l, x.id ≠ k) : cntV l k = 0 := by
  induction l with
  | nil => rfl
  | cons x r ih => simp only [cntV]; rw [if_neg (h x (List.mem_cons_self ..)), ih (fun y hy => h y (List.mem_cons_of_mem _ hy))]
/-- all names unlike -/
def Uniq (l : List Vt) : Prop := (l.map (·.id)).Nodup
theorem Rise.uniq {l : List Vt} (h : Rise l) : Uniq l := by
  unfold Uniq
  rw [List.nodup_iff_pairwise_ne]
  refine List.pairwise_map.2 (h.imp fun {a b} hab e => ?_)
  rw [e] at hab
  exact cmpI_irr _ hab
theorem cntV_mem {l : List Vt} (hu : Uniq l) {x : Vt} (hx : x ∈ l) : cntV l x.id = x.n := by
  induction l with
  | nil => cases hx
  | cons y r ih =>
    obtain ⟨h1, h2⟩ : y.id ∉ r.map (·.id) ∧ (r.map (·.id)).Nodup := List.nodup_cons.1 (show ((y :: r).map (·.id)).Nodup from hu)
    rcases List.mem_cons.1 hx with e | hx
    · subst e; simp [cntV]
    · have hne : y.id ≠ x.id := fun e => h1 (by rw [e]; exact List.mem_map_of_mem hx)
      simp only [cntV]
      rw [if_neg hne]
      exact ih h2 hx
theorem cntV_inv {l : List Vt} {k : List Int} (h : cntV l k ≠ 0) : ∃ x ∈ l, x.id = k ∧ x.n = cntV l k := by
  induction l with
  | nil => exact absurd rfl h
  | cons y r ih =>
    simp only [cntV] at h ⊢
    by_cases he : y.id = k
    · rw [if_pos he]; exact ⟨y, List.mem_cons_self .., he, rfl⟩
    · rw [if_neg he] at h ⊢
      obtain ⟨x, hx, h1, h2⟩ := ih h
      exact ⟨x, List.mem_cons_of_mem _ hx, h1, h2⟩
theorem mem_iff_cnt {l : List Vt} (hu : Uniq l) (hp : ∀ x ∈ l, x.n ≠ 0) (x : Vt) : x ∈ l ↔ cntV l x.id = x.n ∧ x.n ≠ 0 := by
  constructor
  · exact fun h => ⟨cntV_mem hu h, hp x h⟩
  · rintro ⟨h1, h2⟩
    obtain ⟨y, hy, e1, e2⟩ := cntV_inv (l := l) (k := x.id) (by omega)
    rw [show x = y by cases x; cases y; simp_all]
    exact hy
theorem rise_ext : ∀ {a b : List Vt}, Rise a → Rise b → (∀ x, x ∈ a ↔ x ∈ b) → a = b
  | [], [], _, _, _ => rfl
  | [], y :: b, _, _, h => by have := (h y).2 (List.mem_cons_self ..); cases this
  | x :: a, [], _, _, h => by have := (h x).1 (List.mem_cons_self ..); cases this
  | x :: a, y :: b, ha, hb, h => by
    obtain ⟨a1, a2⟩ := List.pairwise_cons.1 ha
    obtain ⟨b1, b2⟩ := List.pairwise_cons.1 hb
    have hxy : x = y := by
      rcases List.mem_cons.1 ((h x).1 (List.mem_cons_self ..)) with e | hx
      · exact e
      · rcases List.mem_cons.1 ((h y).2 (List.mem_cons_self ..)) with e | hy
        · exact e.symm
        · exact absurd (cmpI_lt_trans (b1 x hx) (a1 y hy)) (cmpI_irr _)
    subst hxy
    rw [rise_ext a2 b2 (fun z => ?_)]
    constructor
    · intro hz
      rcases List.mem_cons.1 ((h z).1 (List.mem_cons_of_mem _ hz)) with e | h'
      · subst e; exact absurd (a1 z hz) (cmpI_irr _)
      · exact h'
    · intro hz
      rcases List.mem_cons.1 ((h z).2 (List.mem_cons_of_mem _ hz)) with e | h'
      · subst e; exact absurd (b1 z hz) (cmpI_irr _)
      · exact h'
/-- a rising list is known by its counts -/
theorem rise_cnt {a b : List Vt} (ha : Rise a) (hb : Rise b) (pa : ∀ x ∈ a, x.n ≠ 0) (pb : ∀ x ∈ b, x.n ≠ 0) (h : ∀ k, cntV a k = cntV b k) : a = b :=
  rise_ext ha hb (fun x => by rw [mem_iff_cnt ha.uniq pa, mem_iff_cnt hb.uniq pb, h])
theorem perm_cnt {a b : List Vt} (h : a.Perm b) (hu : Uniq a) (k : List Int) : cntV a k = cntV b k := by
  have hub : Uniq b := (h.map (fun x : Vt => x.id)).nodup_iff.1 (show (a.map (fun x : Vt => x.id)).Nodup from hu)
  by_cases hk : ∃ x ∈ a, x.id = k
  · obtain ⟨x, hx, rfl⟩ := hk
    rw [cntV_mem hu hx, cntV_mem hub (h.mem_iff.1 hx)]
  · rw [cntV_none (fun x hx e => hk ⟨x, hx, e⟩), cntV_none (fun x hx e => hk ⟨x, h.mem_iff.2 hx, e⟩)]
theorem perm_sum {a b : List Vt} (h : a.Perm b) : sumT a = sumT b := by
  induction h with
  | nil => rfl
  | cons x _ ih => rw [sumT_cons, sumT_cons, ih]
  | swap x y l => simp only [sumT_cons]; omega
  | trans _ _ i1 i2 => rw [i1, i2]

/-! names gathered: as a map does, in the order in which they came -/
def gath (l : List Vt) (k : List Int) (n : Int) : List Vt := match l with
  | [] => [⟨k, n⟩]
  | x :: r => if x.id = k then ⟨k, x.n + n⟩ :: r else x :: gath r k n
theorem gath_mem {l : List Vt} {k : List Int} {n : Int} {x : Vt} (h : x ∈ gath l k n) : x ∈ l ∨ x.id = k := by
  induction l with
  | nil => simp [gath] at h; right; rw [h]
  | cons y r ih =>
    simp only [gath] at h
    split at h
    · rcases List.mem_cons.1 h with e | h
      · right; rw [e]
      · left; exact List.mem_cons_of_mem _ h
    · rcases List.mem_cons.1 h with e | h
      · left; rw [e]; exact List.mem_cons_self ..
      · rcases ih h with h | h
        · left; exact List.mem_cons_of_mem _ h
        · right; exact h
theorem gath_uniq {l : List Vt} (h : Uniq l) (k : List Int) (n : Int) : Uniq (gath l k n) := by
  induction l with
  | nil => simp [gath, Uniq]
  | cons y r ih =>
    obtain ⟨h1, h2⟩ : y.id ∉ r.map (·.id) ∧ (r.map (·.id)).Nodup := List.nodup_cons.1 (show ((y :: r).map (·.id)).Nodup from h)
    simp only [gath]
    split
    · rename_i e
      exact List.nodup_cons.2 ⟨(by rw [← e]; exact h1), h2⟩
    · rename_i e
      refine List.nodup_cons.2 ⟨fun hm => ?_, ih h2⟩
      obtain ⟨x, hx, hxe⟩ := List.mem_map.1 hm
      have hxe' : x.id = y.id := hxe
      rcases gath_mem hx with h' | h'
      · exact h1 (by rw [← hxe']; exact List.mem_map_of_mem h')
      · exact e (by rw [← hxe', h'])
theorem gath_cnt (l : List Vt) (k : List Int) (n : Int) (j : List Int) : cntV (gath l k n) j = cntV l j + if j = k then n else 0 := by
  induction l with
  | nil => simp only [gath, cntV]; by_cases e : k = j <;> simp [e, eq_comm]
  | cons y r ih =>
    simp only [gath]
    split
    · rename_i e
      simp only [cntV, e]
      by_cases h : k = j
      · simp [h]
      · simp [h, Ne.symm h]
    · rename_i e
      simp only [cntV]
      by_cases h : y.id = j
      · have : ¬ j = k := fun h' => e (h.trans h')
        simp [h, this]
      · simp [h, ih]
theorem gath_sum (l : List Vt) (k : List Int) (n : Int) : sumT (gath l k n) = sumT l + n := by
  induction l with
  | nil => simp [gath, sumT]
  | cons y r ih =>
    simp only [gath]
    split
    · rw [sumT_cons, sumT_cons]; show (y.n + n) + _ = _; omega
    · rw [sumT_cons, sumT_cons, ih]; omega
theorem gath_length (l : List Vt) (k : List Int) (n : Int) : (gath l k n).length ≤ l.length + 1 := by
  induction l with
  | nil => simp [gath]
  | cons y r ih => simp only [gath]; split <;> simp <;> omega
def gathAll (l : List Vt) (ids : List (List Int)) : List Vt := ids.foldl (fun l k => gath l k 1) l
def gathV (l : List Vt) (vs : List Vt) : List Vt := vs.foldl (fun l x => gath l x.id x.n) l

/-! names put into a rising list -/
def putV (l : List Vt) (k : List Int) (n : Int) : List Vt := match l with
  | [] => [⟨k, n⟩]
  | x :: r => if cmpI x.id k < 0 then x :: putV r k n else if x.id = k then ⟨k, x.n + n⟩ :: r else ⟨k, n⟩ :: x :: r
theorem putV_mem {l : List Vt} {k : List Int} {n : Int} {x : Vt} (h : x ∈ putV l k n) : x ∈ l ∨ x.id = k := by
  induction l with
  | nil => simp [putV] at h; right; rw [h]
  | cons y r ih =>
    simp only [putV] at h
    split at h
    · rcases List.mem_cons.1 h with e | h
      · left; rw [e]; exact List.mem_cons_self ..
      · rcases ih h with h | h
        · left; exact List.mem_cons_of_mem _ h
        · right; exact h
    · split at h
      · rcases List.mem_cons.1 h with e | h
        · right; rw [e]
        · left; exact List.mem_cons_of_mem _ h
      · rcases List.mem_cons.1 h with e | h
        · right; rw [e]
        · left; exact h
/-- a name that is neither less nor the same is greater -/
theorem cmpI_gt {a b : List Int} (h : a.length = b.length) (h1 : ¬ cmpI a b < 0) (h2 : ¬ a = b) : cmpI b a < 0 := by
  rw [cmpI_turn]
  have := (cmpI_zero a b h).1
  rcases cmpI_vals a b with h3 | h3 | h3
  · omega
  · exact absurd (this h3) h2
  · omega
theorem putV_rise {l : List Vt} (hl : ∀ x ∈ l, x.id.length = 32) (h : Rise l) {k : List Int} (hk : k.length = 32) (n : Int) : Rise (putV l k n) := by
  induction l with
  | nil => simp [putV, Rise]
  | cons y r ih =>
    obtain ⟨h1, h2⟩ := List.pairwise_cons.1 h
    have hl2 := fun x hx => hl x (List.mem_cons_of_mem _ hx)
    simp only [putV]
    split
    · rename_i e
      refine List.pairwise_cons.2 ⟨fun x hx => ?_, ih hl2 h2⟩
      rcases putV_mem hx with h' | h'
      · exact h1 x h'
      · rw [h']; exact e
    · rename_i e
      split
      · rename_i e2
        refine List.pairwise_cons.2 ⟨fun x hx => ?_, h2⟩
        have := h1 x hx
        rw [e2] at this
        exact this
      · rename_i e2
        have hyk := cmpI_gt (by rw [hl y (List.mem_cons_self ..), hk]) e e2
        refine List.pairwise_cons.2 ⟨fun x hx => ?_, h⟩
        rcases List.mem_cons.1 hx with e3 | hx
        · rw [e3]; exact hyk
        · exact cmpI_lt_trans hyk (h1 x hx)
theorem putV_cnt {l : List Vt} (hl : ∀ x ∈ l, x.id.length = 32) (h : Rise l) {k : List Int} (hk : k.length = 32) (n : Int) (j : List Int) : cntV (putV l k n) j = cntV l j + if j = k then n else 0 := by
  induction l with
  | nil => simp only [putV, cntV]; by_cases e : k = j <;> simp [e, eq_comm]
  | cons y r ih =>
    obtain ⟨h1, h2⟩ := List.pairwise_cons.1 h
    have hl2 := fun x hx => hl x (List.mem_cons_of_mem _ hx)
    simp only [putV]
    split
    · rename_i e
      have hyk : ¬ y.id = k := fun h' => by rw [h'] at e; exact cmpI_irr _ e
      simp only [cntV]
      by_cases hj : y.id = j
      · have : ¬ j = k := fun h' => hyk (hj.trans h')
        simp [hj, this]
      · simp [hj, ih hl2 h2]
    · rename_i e
      split
      · rename_i e2
        simp only [cntV, e2]
        by_cases hj : k = j
        · simp [hj]
        · simp [hj, Ne.symm hj]
      · rename_i e2
        have hyk := cmpI_gt (by rw [hl y (List.mem_cons_self ..), hk]) e e2
        have h0 : cntV (y :: r) k = 0 := cntV_none (fun x hx e3 => by
          rcases List.mem_cons.1 hx with e4 | hx
          · subst e4; exact e2 e3
          · have := cmpI_lt_trans hyk (h1 x hx)
            rw [e3] at this
            exact cmpI_irr _ this)
        by_cases hj : k = j
        · subst hj
          rw [h0]
          simp [cntV]
        · rw [show cntV (⟨k, n⟩ :: y :: r) j = cntV (y :: r) j from by simp only [cntV]; rw [if_neg hj], if_neg (Ne.symm hj)]
          omega
def putAll (l : List Vt) (ids : List (List Int)) : List Vt := ids.foldl (fun l k => putV l k 1) l
def putVs (l : List Vt) (vs : List Vt) : List Vt := vs.foldl (fun l x => putV l x.id x.n) l
end Go.Proofs.Ytoeinolekpmbbaa
