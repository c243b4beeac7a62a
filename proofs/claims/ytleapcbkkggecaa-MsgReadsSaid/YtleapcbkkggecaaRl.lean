/-
  Messages: the document's reader on lists: where it stands, and what it finds in a message's bytes.
-/
import Derived.Test.YtleapcbkkggecaaMl
import Derived.Test.YtleapcbkkggecaaRn
namespace Go.Proofs.Ytleapcbkkggecaa
open Go.RowKit

structure GoodM (b : List Int) (m : Ms) : Prop where
  wf : m.wf
  ok : okM m = true
  form : form m = b
def hdOf (a c : Nat) : Nat := if a = c then 5 else 9
def rdI (b : List Int) (hd : Nat) : Nat → Nat × List (List Int)
  | 0 => (hd, [])
  | i + 1 => ((rdI b hd i).1 + 32, (rdI b hd i).2 ++ [(b.drop (rdI b hd i).1).take 32])
def rdR (b : List Int) (hd : Nat) : Nat → Nat × List (List Int)
  | 0 => (hd, [])
  | i + 1 => ((rdR b hd i).1 + 4 + (numAt b (rdR b hd i).1).toNat, (rdR b hd i).2 ++ [(b.drop ((rdR b hd i).1 + 4)).take (numAt b (rdR b hd i).1).toNat])
theorem numAt_app {x y z : List Int} {k : Nat} (hx : x.length = k) (hy : y.length = 4) : numAt (x ++ (y ++ z)) k = val y := by
  unfold numAt
  rw [if_pos (by simp; omega)]
  subst hx
  rw [List.drop_left, ← hy, List.take_left]
theorem good_head {b : List Int} {m : Ms} (h : GoodM b m) : 5 ≤ b.length ∧ b[0]? = some m.k ∧ numAt b 1 = m.r := by
  obtain ⟨hr0, hr1, hf⟩ := okM_parts h.ok
  have hk := kind_bd (k := m.k) (fun e => by rw [e] at hf; cases hf)
  have e1 : be 1 m.k = [m.k] := by simp [be]; omega
  have p4 : (256 : Int) ^ 4 = 4294967296 := by decide
  rw [← h.form]
  refine ⟨by simp only [form, List.length_append, be_length]; omega, by simp [form, e1], ?_⟩
  rw [form, List.append_assoc, numAt_app (be_length _ _) (be_length _ _), val_be _ _ (by omega)]
  omega
theorem cnt_rest {b : List Int} {m : Ms} (h : GoodM b m) {a c n : Nat} {items : List Int} (hr : m.rows.flatten = (cntRow a c n).flatten ++ items) (hn : n ≤ 1000) :
    b.drop (hdOf a c) = items ∧ b.length = hdOf a c + items.length ∧ (a ≠ c → numAt b 5 = n) := by
  have e0 : b = (be 1 m.k ++ be 4 m.r) ++ ((cntRow a c n).flatten ++ items) := by rw [← h.form, form, hr]
  have hl : (be 1 m.k ++ be 4 m.r).length = 5 := by simp [be_length]
  by_cases hac : a = c
  · have e1 : (cntRow a c n).flatten = [] := by simp [cntRow, hac]
    rw [e1, List.nil_append] at e0
    unfold hdOf
    rw [if_pos hac, e0]
    exact ⟨by rw [← hl, List.drop_left], by rw [List.length_append, hl], fun h => absurd hac h⟩
  · have e1 : (cntRow a c n).flatten = be 4 (n : Int) := by simp [cntRow, hac]
    rw [e1] at e0
    unfold hdOf
    rw [if_neg hac]
    have p4 : (256 : Int) ^ 4 = 4294967296 := by decide
    refine ⟨?_, ?_, fun _ => ?_⟩
    · rw [e0, ← List.append_assoc]
      have : ((be 1 m.k ++ be 4 m.r) ++ be 4 (n : Int)).length = 9 := by simp [be_length]
      rw [← this, List.drop_left]
    · rw [e0, List.length_append, hl, List.length_append, be_length]; omega
    · rw [e0, numAt_app hl (be_length _ _), val_be _ _ (by omega)]; omega
theorem flat_drop : ∀ (ids : List (List Int)), (∀ x ∈ ids, x.length = 32) → ∀ i, i ≤ ids.length → ids.flatten.drop (32 * i) = (ids.drop i).flatten
  | ids, _, 0, _ => by simp
  | [], _, i + 1, h => by simp at h
  | x :: r, hl, i + 1, h => by
    have h1 := hl x (List.mem_cons_self ..)
    have ih := flat_drop r (fun y hy => hl y (List.mem_cons_of_mem _ hy)) i (by simpa using h)
    rw [List.flatten_cons, List.drop_append, h1, List.drop_of_length_le (by omega), List.nil_append, show 32 * (i + 1) - 32 = 32 * i by omega, ih]
    rfl
theorem good_nm {b : List Int} {m : Ms} (h : GoodM b m) {a c : Nat} (hl : ldOf m.k = .nm a c) :
    a ≤ m.ids.length ∧ m.ids.length ≤ c ∧ m.bl = [] ∧ (a ≠ c → numAt b 5 = m.ids.length) ∧ hdOf a c ≤ b.length ∧ ∀ i, i ≤ m.ids.length → rdI b (hdOf a c) i = (hdOf a c + 32 * i, m.ids.take i) ∧ (i < m.ids.length → hdOf a c + 32 * i + 32 ≤ b.length) := by
  obtain ⟨_, _, hf⟩ := okM_parts h.ok
  rw [hl] at hf
  obtain ⟨h1, h2, h3⟩ := fits_nm hf
  have hbd := (ldOf_bd m.k).1 a c hl
  have h32 : ∀ x ∈ m.ids, x.length = 32 := fun x hx => (h.wf.idl x hx).1
  have hr : m.rows.flatten = (cntRow a c m.ids.length).flatten ++ m.ids.flatten := by unfold Ms.rows; rw [hl, List.flatten_append]
  obtain ⟨g1, g2, g3⟩ := cnt_rest h hr (by omega)
  have hfl : ∀ (l : List (List Int)), (∀ x ∈ l, x.length = 32) → l.flatten.length = 32 * l.length := by
    intro l
    induction l with
    | nil => intro _; rfl
    | cons x r ih =>
      intro hh
      rw [List.flatten_cons, List.length_append, hh x (List.mem_cons_self ..), ih (fun y hy => hh y (List.mem_cons_of_mem _ hy)), List.length_cons]
      omega
  have hlen := hfl m.ids h32
  refine ⟨h1, h2, h3, g3, by omega, fun i hi => ⟨?_, fun hi' => by omega⟩⟩
  induction i with
  | zero => simp [rdI]
  | succ i ih =>
    have e := ih (by omega)
    have ed : b.drop (hdOf a c + 32 * i) = (m.ids.drop i).flatten := by rw [← List.drop_drop, g1, flat_drop _ h32 i (by omega)]
    have ec : m.ids.drop i = m.ids[i] :: m.ids.drop (i + 1) := by rw [List.drop_eq_getElem_cons (by omega)]
    rw [rdI, e]
    simp only []
    have hi2 : i < m.ids.length := by omega
    have h32i := h32 m.ids[i] (List.getElem_mem hi2)
    have et : (m.ids[i] ++ (m.ids.drop (i + 1)).flatten).take 32 = m.ids[i] := List.take_left' h32i
    rw [ed, ec, List.flatten_cons, et, List.take_succ_eq_append_getElem hi2]
    congr 1
theorem good_bl {b : List Int} {m : Ms} (h : GoodM b m) {a c : Nat} (hl : ldOf m.k = .bl a c) :
    a ≤ m.bl.length ∧ m.bl.length ≤ c ∧ m.ids = [] ∧ (a ≠ c → numAt b 5 = m.bl.length) ∧ ∀ i, i ≤ m.bl.length → (rdR b (hdOf a c) i).2 = m.bl.take i ∧ (rdR b (hdOf a c) i).1 ≤ b.length ∧ b.drop (rdR b (hdOf a c) i).1 = ((m.bl.drop i).map rowB).flatten ∧
      ∀ (hi : i < m.bl.length), numAt b (rdR b (hdOf a c) i).1 = (m.bl[i].length : Int) ∧ (rdR b (hdOf a c) i).1 + 4 + m.bl[i].length ≤ b.length := by
  obtain ⟨_, _, hf⟩ := okM_parts h.ok
  rw [hl] at hf
  obtain ⟨h1, h2, h3, h4⟩ := fits_bl hf
  have hbd := (ldOf_bd m.k).2 a c hl
  have p4 : (256 : Int) ^ 4 = 4294967296 := by decide
  have hr : m.rows.flatten = (cntRow a c m.bl.length).flatten ++ (m.bl.map rowB).flatten := by unfold Ms.rows; rw [hl, List.flatten_append]
  obtain ⟨g1, g2, g3⟩ := cnt_rest h hr (by omega)
  -- one row at a place
  have hone : ∀ i (hi : i < m.bl.length) p, p ≤ b.length → b.drop p = ((m.bl.drop i).map rowB).flatten → numAt b p = (m.bl[i].length : Int) ∧ p + 4 + m.bl[i].length ≤ b.length ∧ (b.drop (p + 4)).take m.bl[i].length = m.bl[i] ∧ b.drop (p + 4 + m.bl[i].length) = ((m.bl.drop (i + 1)).map rowB).flatten := by
    intro i hi p hp hd
    have ec : m.bl.drop i = m.bl[i] :: m.bl.drop (i + 1) := by rw [List.drop_eq_getElem_cons (by omega)]
    have hx := h4 m.bl[i] (List.getElem_mem _)
    rw [ec, List.map_cons, List.flatten_cons, rowB, List.append_assoc] at hd
    have eb : b = b.take p ++ (be 4 (m.bl[i].length : Int) ++ (m.bl[i] ++ ((m.bl.drop (i + 1)).map rowB).flatten)) := by rw [← hd, List.take_append_drop]
    have hpl : (b.take p).length = p := by rw [List.length_take]; omega
    have hlen := congrArg List.length hd
    rw [List.length_drop, List.length_append, be_length, List.length_append] at hlen
    have e4 : b.drop (p + 4) = m.bl[i] ++ ((m.bl.drop (i + 1)).map rowB).flatten := by
      rw [← List.drop_drop, hd]
      have := be_length 4 (m.bl[i].length : Int)
      exact List.drop_left' this
    refine ⟨?_, by omega, ?_, ?_⟩
    · rw [eb, numAt_app hpl (be_length _ _), val_be _ _ (by omega)]; omega
    · rw [e4, List.take_left]
    · rw [← List.drop_drop, e4, List.drop_left]
  have hall : ∀ i, i ≤ m.bl.length → (rdR b (hdOf a c) i).2 = m.bl.take i ∧ (rdR b (hdOf a c) i).1 ≤ b.length ∧ b.drop (rdR b (hdOf a c) i).1 = ((m.bl.drop i).map rowB).flatten := by
    intro i
    induction i with
    | zero => intro _; exact ⟨rfl, by show hdOf a c ≤ b.length; omega, by show b.drop (hdOf a c) = _; rw [g1]; rfl⟩
    | succ i ih =>
      intro hi
      obtain ⟨e1, e2, e3⟩ := ih (by omega)
      obtain ⟨q1, q2, q3, q4⟩ := hone i (by omega) _ e2 e3
      have q0 : (numAt b (rdR b (hdOf a c) i).1).toNat = m.bl[i].length := by rw [q1]; simp
      refine ⟨?_, ?_, ?_⟩
      · show (rdR b (hdOf a c) i).2 ++ _ = _
        rw [q0, e1, q3, List.take_succ_eq_append_getElem (by omega)]
      · show (rdR b (hdOf a c) i).1 + 4 + _ ≤ _
        rw [q0]; exact q2
      · show b.drop ((rdR b (hdOf a c) i).1 + 4 + _) = _
        rw [q0]; exact q4
  refine ⟨h1, h2, h3, g3, fun i hi => ⟨(hall i hi).1, (hall i hi).2.1, (hall i hi).2.2, fun hi' => ?_⟩⟩
  obtain ⟨q1, q2, _⟩ := hone i hi' _ (hall i hi).2.1 (hall i hi).2.2
  exact ⟨q1, q2⟩
end Go.Proofs.Ytleapcbkkggecaa
