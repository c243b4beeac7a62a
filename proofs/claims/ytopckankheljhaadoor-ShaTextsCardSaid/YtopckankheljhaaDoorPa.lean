/-
  The name of a text, as plain lists: digits, two of them a byte.
-/
import Derived.Test.YtopckankheljhaaDoorOd
namespace Go.Proofs.YtopckankheljhaaDoor
open Go.RowKit

/-- a digit's value -/
def hv (c : Int) : Option Int := if 48 ≤ c ∧ c ≤ 57 then some (c - 48) else if 97 ≤ c ∧ c ≤ 102 then some (c - 87) else none
theorem hv_rng {c d : Int} (h : hv c = some d) : 0 ≤ d ∧ d < 16 := by
  unfold hv at h; split at h
  · cases h; omega
  · split at h
    · cases h; omega
    · cases h
theorem hv_dg {c d : Int} (h : hv c = some d) : dg d = c := by
  unfold hv at h; split at h
  · cases h; unfold dg; split <;> omega
  · split at h
    · cases h; unfold dg; split <;> omega
    · cases h
theorem hv_of_dg {d : Int} (h0 : 0 ≤ d) (h1 : d < 16) : hv (dg d) = some d := by
  unfold hv dg
  split
  · rw [if_pos (by omega)]; congr 1; omega
  · rw [if_neg (by omega), if_pos (by omega)]; congr 1; omega
/-- the digits' values, as long as all are digits -/
def nibs : List Int → Option (List Int)
  | [] => some []
  | c :: l => match hv c, nibs l with
    | some d, some ds => some (d :: ds)
    | _, _ => none
/-- these bytes' first k are digits, with these values -/
def NibsTo (l : List Int) (k : Nat) (ns : List Int) : Prop := ns.length = k ∧ k ≤ l.length ∧ ∀ i, i < k → hv (l.getD i 0) = some (ns.getD i 0)
theorem NibsTo.next {l ns : List Int} {k : Nat} {d : Int} (h : NibsTo l k ns) (hk : k < l.length) (hd : hv (l.getD k 0) = some d) : NibsTo l (k + 1) (ns ++ [d]) := by
  obtain ⟨h1, h2, h3⟩ := h
  refine ⟨by simp [h1], hk, fun i hi => ?_⟩
  by_cases e : i = k
  · subst e; rw [hd]; simp [← h1]
  · rw [h3 i (by omega)]
    simp [List.getElem?_append_left (show i < ns.length by omega)]
theorem nibs_of : ∀ (l ns : List Int), NibsTo l l.length ns → nibs l = some ns
  | [], ns, h => by
    obtain rfl : ns = [] := List.eq_nil_of_length_eq_zero h.1
    rfl
  | c :: l, ns, h => by
    obtain ⟨h1, _, h3⟩ := h
    cases ns with
    | nil => simp at h1
    | cons d ns =>
      have h0 := h3 0 (by simp)
      have ih := nibs_of l ns ⟨by simpa using h1, Nat.le_refl _, fun i hi => by
        have := h3 (i + 1) (by simpa using hi)
        simpa using this⟩
      simp only [List.getD_cons_zero] at h0
      simp [nibs, h0, ih]
theorem nibs_none : ∀ (l : List Int) (k : Nat), k < l.length → hv (l.getD k 0) = none → nibs l = none
  | [], _, h, _ => by simp at h
  | c :: l, 0, _, h => by simp at h; simp [nibs, h]
  | c :: l, k + 1, h, hn => by
    have ih := nibs_none l k (by simpa using h) (by simpa using hn)
    simp only [nibs, ih]
    split
    · rename_i h2; cases h2
    · rfl
theorem nibs_some : ∀ (l ns : List Int), nibs l = some ns → NibsTo l l.length ns
  | [], ns, h => by cases h; exact ⟨rfl, Nat.le_refl _, fun i hi => by simp at hi⟩
  | c :: l, ns, h => by
    simp only [nibs] at h
    split at h
    · rename_i d ds h1 h2
      cases h
      obtain ⟨g1, _, g3⟩ := nibs_some l ds h2
      refine ⟨by simp [g1], Nat.le_refl _, fun i hi => ?_⟩
      cases i with
      | zero => simpa using h1
      | succ i => simpa using g3 i (by simpa using hi)
    · cases h
/-- the byte at j, when these digits came -/
def byteAt (ns : List Int) (j : Nat) : Int := if 2 * j + 1 < ns.length then 16 * ns.getD (2 * j) 0 + ns.getD (2 * j + 1) 0 else ns.getD (2 * j) 0
def idOf (ns : List Int) : List Int := (List.range 32).map (byteAt ns)
theorem idOf_length (ns : List Int) : (idOf ns).length = 32 := by simp [idOf]
theorem idOf_get (ns : List Int) (j : Nat) (hj : j < 32) : (idOf ns).getD j 0 = byteAt ns j := by simp [idOf, hj]
theorem idOf_nil : idOf [] = List.replicate 32 0 := by decide
theorem idOf_put (ns : List Int) (d : Int) : idOf (ns ++ [d]) = (idOf ns).set (ns.length / 2) (16 * (if ns.length % 2 = 0 then 0 else (idOf ns).getD (ns.length / 2) 0) + d) := by
  apply List.ext_getElem (by simp [idOf])
  intro j h1 h2
  have hj : j < 32 := by simpa [idOf] using h1
  have e1 : (idOf (ns ++ [d]))[j] = byteAt (ns ++ [d]) j := by simp [idOf]
  refine e1.trans ?_
  rw [List.getElem_set]
  by_cases e : ns.length / 2 = j
  · rw [if_pos e]
    subst e
    by_cases he : ns.length % 2 = 0
    · rw [if_pos he]
      unfold byteAt
      rw [if_neg (by simp; omega), show 2 * (ns.length / 2) = ns.length by omega]
      simp
    · rw [if_neg he, idOf_get _ _ hj]
      unfold byteAt
      rw [if_pos (by simp; omega), if_neg (by omega), show 2 * (ns.length / 2) + 1 = ns.length by omega]
      simp [List.getElem?_append_left (show 2 * (ns.length / 2) < ns.length by omega)]
  · rw [if_neg e]
    have e2 : (idOf ns)[j]'(by simpa [idOf] using hj) = byteAt ns j := by simp [idOf]
    refine Eq.trans ?_ e2.symm
    unfold byteAt
    by_cases h3 : 2 * j + 1 < ns.length
    · rw [if_pos (by simp; omega), if_pos h3]
      simp [List.getElem?_append_left (show 2 * j < ns.length by omega), List.getElem?_append_left (show 2 * j + 1 < ns.length by omega)]
    · rw [if_neg (by simp; omega), if_neg h3]
      simp [List.getElem?_append_right (show ns.length ≤ 2 * j by omega), List.getElem?_eq_none (show ns.length ≤ 2 * j by omega), show 2 * j - ns.length ≠ 0 by omega]
/-- what a text is parsed as -/
def parsed (l : List Int) : List Int × Int := if l.length = 64 then (match nibs l with
  | some ns => (idOf ns, 0)
  | none => (List.replicate 32 0, 20)) else (List.replicate 32 0, 20)
end Go.Proofs.YtopckankheljhaaDoor
