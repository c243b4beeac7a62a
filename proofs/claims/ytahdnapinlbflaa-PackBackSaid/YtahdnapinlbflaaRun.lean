/-
  Plain facts on what is put one behind the other: in parts as at once.
-/
import Derived.Test.YtahdnapinlbflaaPuts
namespace Go.Proofs.Ytahdnapinlbflaa
open Go.RowKit

/-- what an item puts: nothing of a text that is too long -/
def piece (it : Itm) : Option (List Int) :=
  if it.d = 0 then some it.xs else if it.d = 1 then some (be 1 (it.V % 256)) else if it.d = 2 then some (be 2 (it.V % 65536)) else if it.d = 3 then some (be 4 it.xs.length ++ it.xs)
  else if it.d = 4 then some (be 4 (it.V % 4294967296)) else if it.d = 5 then (if 65535 < it.xs.length then none else some (be 2 it.xs.length ++ Bys (strOfNums it.xs))) else if it.d = 8 then some (be 8 it.V) else some []
def stepS (lim : Int) (s : List Int × Int) (it : Itm) : List Int × Int := itemS lim s.1 s.2 it.d it.V it.xs
def runS (lim : Int) (its : List Itm) (s : List Int × Int) : List Int × Int := its.foldl (stepS lim) s

theorem step_err (lim : Int) (l : List Int) (e : Int) (it : Itm) (he : e ≠ 0) : stepS lim (l, e) it = (l, e) := by
  have h : ∀ x, putS lim l e x = (l, e) := fun x => by unfold putS; rw [if_neg he]
  have ht : ∀ s, putT lim l e s = (l, e) := fun s => by unfold putT; rw [if_neg (fun hh => he hh.1), h]
  unfold stepS itemS
  simp only [h, ht, ite_self]
theorem step_ok (lim : Int) (l : List Int) (it : Itm) (hl : (l.length : Int) ≤ lim) :
    stepS lim (l, 0) it = match piece it with | none => (l, 3) | some x => if (l.length : Int) + x.length ≤ lim then (l ++ x, 0) else (l, 10) := by
  have h : ∀ x, putS lim l 0 x = if (l.length : Int) + x.length ≤ lim then (l ++ x, 0) else (l, 10) := fun x => by unfold putS; rw [if_pos rfl]
  have hs : (strOfNums it.xs).size = it.xs.length := strOfNums_size _
  unfold stepS itemS piece putT
  simp only [h, hs, true_and]
  split <;> try rfl
  split <;> try rfl
  split <;> try rfl
  split <;> try rfl
  split <;> try rfl
  split
  · by_cases ht : 65535 < it.xs.length
    · simp [ht]
    · simp [ht]
  split <;> try rfl
  simp [hl]
theorem run_err (lim : Int) (its : List Itm) (l : List Int) (e : Int) (he : e ≠ 0) : runS lim its (l, e) = (l, e) := by
  induction its with
  | nil => rfl
  | cons it its ih => rw [runS, List.foldl_cons, step_err lim l e it he]; exact ih
theorem run_take (lim : Int) (its : List Itm) (k : Nat) (hk : k < its.length) (s : List Int × Int) : runS lim (its.take (k + 1)) s = stepS lim (runS lim (its.take k) s) its[k] := by
  rw [List.take_succ_eq_append_getElem hk, runS, List.foldl_append]
  rfl
theorem run_cons (lim : Int) (it : Itm) (its : List Itm) (s : List Int × Int) : runS lim (it :: its) s = runS lim its (stepS lim s it) := rfl
theorem run_len (lim : Int) : ∀ (its : List Itm) (l : List Int), (l.length : Int) ≤ lim → (runS lim its (l, 0)).2 = 0 → l.length ≤ (runS lim its (l, 0)).1.length ∧ ((runS lim its (l, 0)).1.length : Int) ≤ lim
  | [], l, hl, _ => ⟨Nat.le_refl _, hl⟩
  | it :: its, l, hl, h0 => by
    rw [run_cons, step_ok lim l it hl] at h0 ⊢
    cases hp : piece it with
    | none => simp only [hp] at h0; rw [run_err lim its l 3 (by omega)] at h0; simp at h0
    | some x =>
      simp only [hp] at h0 ⊢
      by_cases hf : (l.length : Int) + x.length ≤ lim
      · rw [if_pos hf] at h0 ⊢
        have := run_len lim its _ (by rw [List.length_append]; omega) h0
        rw [List.length_append] at this
        exact ⟨by omega, this.2⟩
      · rw [if_neg hf, run_err lim its l 10 (by omega)] at h0; simp at h0
/-- behind what there was as alone -/
theorem run_parts (lim : Int) (la : List Int) : ∀ (its : List Itm) (l : List Int), (la.length : Int) + l.length ≤ lim →
    ((runS lim its (l, 0)).2 = 0 ∧ (la.length : Int) + (runS lim its (l, 0)).1.length ≤ lim → runS lim its (la ++ l, 0) = (la ++ (runS lim its (l, 0)).1, 0)) ∧
    (¬ ((runS lim its (l, 0)).2 = 0 ∧ (la.length : Int) + (runS lim its (l, 0)).1.length ≤ lim) → (runS lim its (la ++ l, 0)).2 ≠ 0)
  | [], l, hl => ⟨fun _ => rfl, fun h => absurd ⟨rfl, hl⟩ h⟩
  | it :: its, l, hl => by
    have hl1 : (l.length : Int) ≤ lim := by omega
    have hl2 : ((la ++ l).length : Int) ≤ lim := by rw [List.length_append]; omega
    rw [run_cons, run_cons, step_ok lim l it hl1, step_ok lim (la ++ l) it hl2]
    cases hp : piece it with
    | none =>
      simp only
      rw [run_err lim its l 3 (by omega), run_err lim its (la ++ l) 3 (by omega)]
      exact ⟨fun h => by simp at h, fun _ => by simp⟩
    | some x =>
      simp only
      by_cases hc : ((la ++ l).length : Int) + x.length ≤ lim
      · have hf : (l.length : Int) + x.length ≤ lim := by rw [List.length_append] at hc; omega
        rw [if_pos hc, if_pos hf, List.append_assoc]
        exact run_parts lim la its (l ++ x) (by rw [List.length_append] at hc ⊢; omega)
      · rw [if_neg hc, run_err lim its (la ++ l) 10 (by omega)]
        refine ⟨fun h => ?_, fun _ => by simp⟩
        by_cases hf : (l.length : Int) + x.length ≤ lim
        · rw [if_pos hf] at h
          have := run_len lim its _ (by rw [List.length_append]; omega) h.1
          rw [List.length_append] at this hc
          omega
        · rw [if_neg hf, run_err lim its l 10 (by omega)] at h
          simp at h
theorem run_rng (lim : Int) : ∀ (its : List Itm) (s : List Int × Int), Rng s.1 → (∀ it ∈ its, Rng it.xs) → Rng (runS lim its s).1
  | [], _, h, _ => h
  | it :: its, s, h, hx => by
    rw [run_cons]
    exact run_rng lim its _ (itemS_rng h (hx it (List.mem_cons_self ..))) (fun y hy => hx y (List.mem_cons_of_mem _ hy))

end Go.Proofs.Ytahdnapinlbflaa
