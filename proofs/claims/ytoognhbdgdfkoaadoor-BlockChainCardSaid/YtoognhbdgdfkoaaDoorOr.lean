/-
  A list of bytes among a law's arguments.
-/
import Derived.Test.YtoognhbdgdfkoaaDoorOp
import Derived.Test.YtoognhbdgdfkoaaDoorPc
namespace Go.Proofs.YtoognhbdgdfkoaaDoor
open Go.ChangeShapes Go.WideShapes Go.ChangeAt Go.RowKit

theorem Tryd.cellsBytes : Tryd.prog.cellsOf 24 = 1 := by kernel_rfl
theorem open_rows {H : Type} {enc : TypeId × Value → H} {W : World} {base : Nat} {spare : Nat → Bool} {held : Bool} {fuel : Nat} {v : Value} {x : DataW H × List MemPlace} (h : DataW.trod enc Tryd.prog W base spare held fuel 35 [v] = some x) :
    ∃ ls, SeesA W v ls ∧ ∀ l ∈ ls, Rng l := by
  rcases Deep.open_slice Tryd.underlying35 h with ⟨hc, _⟩ | ⟨a, len, cap, m, n, D, Pl, hc, _, hl, hm, hmm, _, hi⟩
  · exact ⟨[], .inl ⟨by simpa using hc, rfl⟩, fun _ h => by cases h⟩
  · have hlm : len ≤ m := by rw [hmm]; split <;> omega
    have hall : ∀ i, i < len → ∃ u xs, W.cell? (a.add i) = some u ∧ Sees W u xs ∧ Rng xs := by
      intro i hil
      obtain ⟨cs, hcs, ht⟩ := hi i (by omega)
      rw [Tryd.cellsBytes] at hcs
      obtain ⟨hlen, _, hat⟩ := World.cells?_some hcs
      obtain ⟨u, rfl⟩ : ∃ u, cs = [u] := by
        match cs, hlen with
        | [u], _ => exact ⟨u, rfl⟩
      obtain ⟨xs, hs, hr⟩ := open_bytes ht
      have h0 := hat 0 (by omega)
      rw [Addr.add_zero', Nat.mul_one] at h0
      exact ⟨u, xs, h0, hs, hr⟩
    have hpick : ∀ k, k ≤ len → ∃ ls : List (List Int), ls.length = k ∧ ∀ i l, ls[i]? = some l → (∃ u, W.cell? (a.add i) = some u ∧ Sees W u l) ∧ Rng l := by
      intro k
      induction k with
      | zero => intro _; exact ⟨[], rfl, fun i l h => by cases h⟩
      | succ k ih =>
        intro hk
        obtain ⟨ls, hlen, hls⟩ := ih (by omega)
        obtain ⟨u, xs, hu, hs, hr⟩ := hall k (by omega)
        refine ⟨ls ++ [xs], by simp [hlen], fun i l hx => ?_⟩
        rcases Nat.lt_or_ge i ls.length with h1 | h1
        · rw [List.getElem?_append_left h1] at hx; exact hls i l hx
        · rw [List.getElem?_append_right h1] at hx
          obtain ⟨h2, h3⟩ := List.getElem?_eq_some_iff.1 hx
          simp at h2
          have hik : i = k := by omega
          subst hik
          simp [← hlen] at h3
          subst h3
          exact ⟨⟨u, hu, hs⟩, hr⟩
    obtain ⟨ls, hlen, hls⟩ := hpick len (Nat.le_refl _)
    refine ⟨ls, .inr ⟨a, cap, by rw [hlen]; simpa using hc, by omega, hm, fun i l hil => (hls i l hil).1⟩, fun l hl => ?_⟩
    obtain ⟨i, hi⟩ := List.getElem?_of_mem hl
    exact (hls i l hi).2
end Go.Proofs.YtoognhbdgdfkoaaDoor
