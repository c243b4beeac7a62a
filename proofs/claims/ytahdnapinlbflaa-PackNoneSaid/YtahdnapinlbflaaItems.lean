/-
  The arguments of the laws of layer 1: bytes, and a list of items, as they lie in memory.
-/
import Derived.Test.YtahdnapinlbflaaFrame
import Derived.Deep.Slices
import Derived.Deep.Fields
import Derived.ChangeSlices
namespace Go.Proofs.Ytahdnapinlbflaa
open Go.ChangeShapes Go.WideShapes Go.ChangeAt Go.RowKit

theorem Try.cellsOf8 : Try.prog.cellsOf 5 = 1 := by kernel_rfl
theorem wf_u8 {x : Int} (h : (Lit.int .u8 x).wf = true) : 0 ≤ x ∧ x ≤ 255 := by simpa [Lit.wf, IntKind.min, IntKind.max, IntKind.signed, IntKind.bits] using h
theorem wf_u64 {x : Int} (h : (Lit.int .u64 x).wf = true) : 0 ≤ x ∧ x ≤ 18446744073709551615 := by simpa [Lit.wf, IntKind.min, IntKind.max, IntKind.signed, IntKind.bits] using h
theorem wf_i64 {x : Int} (h : (Lit.int .i64 x).wf = true) : -9223372036854775808 ≤ x ∧ x ≤ 9223372036854775807 := by simpa [Lit.wf, IntKind.min, IntKind.max, IntKind.signed, IntKind.bits] using h

theorem open_bytes {H : Type} {enc : TypeId × Value → H} {W : World} {base : Nat} {spare : Nat → Bool} {held : Bool} {fuel : Nat} {v : Value} {x : DataW H × List MemPlace} (h : DataW.trod enc Try.prog W base spare held fuel 30 [v] = some x) :
    ∃ xs, Sees W v xs ∧ Rng xs := by
  rcases open_ints Try.underlying30 Try.underlying5 Try.cellsOf8 h with ⟨hc, _⟩ | ⟨a, len, cap, zs, hc, _, hl, hm, hz, _, hcell, hwz⟩
  · exact ⟨[], .inl ⟨by simpa using hc, rfl⟩, fun _ h => by cases h⟩
  · have hlz : len ≤ zs.length := by rw [hz]; split <;> omega
    refine ⟨zs.take len, .inr ⟨a, cap, ?_, ?_, hm, fun i y hi => ?_⟩, fun y hy => wf_u8 (hwz y (List.mem_of_mem_take hy))⟩
    · rw [List.length_take, Nat.min_eq_left hlz]; simpa using hc
    · rw [List.length_take]; omega
    · have hi' := (List.getElem?_eq_some_iff.1 hi).1
      rw [List.length_take] at hi'
      rw [hcell i (by omega)]
      rw [List.getElem?_take_of_lt (by omega)] at hi
      simp [List.getD, hi]

structure Itm where
  d : Int
  V : Int
  n : Int
  b : Value
  xs : List Int
/-- an item at a place of a list of items -/
structure ItmAt (W : World) (a : Addr) (i : Nat) (it : Itm) : Prop where
  c0 : W.cell? (a.add (i * 4 + 0)) = some (.int .i64 it.d)
  c1 : W.cell? (a.add (i * 4 + 1)) = some (.int .u64 it.V)
  c2 : W.cell? (a.add (i * 4 + 2)) = some it.b
  c3 : W.cell? (a.add (i * 4 + 3)) = some (.int .i64 it.n)
structure Good (W : World) (it : Itm) : Prop where
  dr : -9223372036854775808 ≤ it.d ∧ it.d ≤ 9223372036854775807
  vr : 0 ≤ it.V ∧ it.V ≤ 18446744073709551615
  nr : -9223372036854775808 ≤ it.n ∧ it.n ≤ 9223372036854775807
  sees : Sees W it.b it.xs
  rng : Rng it.xs
def ItemsAt (W : World) (lv : Value) (its : List Itm) : Prop :=
  (lv = .slice none 0 0 ∧ its = []) ∨ ∃ a cap, lv = .slice (some a) its.length cap ∧ its.length ≤ cap ∧ cap ≤ maxLen ∧ ∀ i it, its[i]? = some it → ItmAt W a i it ∧ Good W it

theorem Try.cellsItem : Try.prog.cellsOf 32 = 4 := by kernel_rfl
theorem Try.cellsInt : Try.prog.cellsOf 3 = 1 := by kernel_rfl
theorem Try.cellsU64 : Try.prog.cellsOf 29 = 1 := by kernel_rfl
theorem Try.cellsBytes : Try.prog.cellsOf 30 = 1 := by kernel_rfl
theorem itemFields : ∃ f0 f1 f2 f3 : Field, Try.prog.underlying 32 = some (.struct #[f0, f1, f2, f3]) ∧ f0.type = 3 ∧ f1.type = 29 ∧ f2.type = 30 ∧ f3.type = 3 ∧ f0.offset = 0 ∧ f1.offset = 1 ∧ f2.offset = 2 ∧ f3.offset = 3 :=
  ⟨_, _, _, _, Try.underlying32, rfl, rfl, rfl, rfl, rfl, rfl, rfl, rfl⟩

theorem open_item {H : Type} {enc : TypeId × Value → H} {W : World} {base : Nat} {spare : Nat → Bool} {held : Bool} {fuel : Nat} {cs : List Value} {x : DataW H × List MemPlace} (h : DataW.trod enc Try.prog W base spare held fuel 32 cs = some x) :
    ∃ it : Itm, cs = [.int .i64 it.d, .int .u64 it.V, it.b, .int .i64 it.n] ∧ Good W it := by
  obtain ⟨f0, f1, f2, f3, hu, t0, t1, t2, t3, o0, o1, o2, o3⟩ := itemFields
  obtain ⟨ys, n, _, _, hlen, hyl, hf⟩ := DataW.trod_struct hu h
  rw [Try.cellsItem] at hlen
  obtain ⟨v0, v1, v2, v3, rfl⟩ : ∃ v0 v1 v2 v3, cs = [v0, v1, v2, v3] := by
    match cs, hlen with
    | [v0, v1, v2, v3], _ => exact ⟨v0, v1, v2, v3, rfl⟩
  obtain ⟨y0, y1, y2, y3, rfl⟩ : ∃ y0 y1 y2 y3, ys = [y0, y1, y2, y3] := by
    match ys, hyl with
    | [v0, v1, v2, v3], _ => exact ⟨v0, v1, v2, v3, rfl⟩
  have g0 := hf 0 f0 rfl
  have g1 := hf 1 f1 rfl
  have g2 := hf 2 f2 rfl
  have g3 := hf 3 f3 rfl
  rw [t0, o0, Try.cellsInt] at g0
  rw [t1, o1, Try.cellsU64] at g1
  rw [t2, o2, Try.cellsBytes] at g2
  rw [t3, o3, Try.cellsInt] at g3
  obtain ⟨d, e0, _, w0⟩ := DataW.trod_int Try.underlying3 g0
  obtain ⟨V, e1, _, w1⟩ := DataW.trod_int Try.underlying29 g1
  obtain ⟨m, e3, _, w3⟩ := DataW.trod_int Try.underlying3 g3
  obtain ⟨xs, hs, hr⟩ := open_bytes g2
  simp at e0 e1 e3
  subst e0 e1 e3
  exact ⟨⟨d, V, m, v2, xs⟩, rfl, wf_i64 w0, wf_u64 w1, wf_i64 w3, hs, hr⟩

theorem open_items {H : Type} {enc : TypeId × Value → H} {W : World} {base : Nat} {spare : Nat → Bool} {held : Bool} {fuel : Nat} {v : Value} {x : DataW H × List MemPlace} (h : DataW.trod enc Try.prog W base spare held fuel 22 [v] = some x) :
    ∃ its, ItemsAt W v its := by
  rcases Deep.open_slice Try.underlying22 h with ⟨hc, _⟩ | ⟨a, len, cap, m, n, D, Pl, hc, _, hl, hm, hmm, _, hi⟩
  · exact ⟨[], .inl ⟨by simpa using hc, rfl⟩⟩
  · have hlm : len ≤ m := by rw [hmm]; split <;> omega
    have hall : ∀ i, i < len → ∃ it, ItmAt W a i it ∧ Good W it := by
      intro i hil
      obtain ⟨cs, hcs, ht⟩ := hi i (by omega)
      rw [Try.cellsItem] at hcs
      obtain ⟨it, rfl, hg⟩ := open_item ht
      obtain ⟨_, _, hat⟩ := World.cells?_some hcs
      have ha : ∀ j, (a.add (i * 4)).add j = a.add (i * 4 + j) := fun j => Deep.add_add a _ _
      refine ⟨it, ⟨?_, ?_, ?_, ?_⟩, hg⟩
      · rw [← ha, hat 0 (by omega)]; rfl
      · rw [← ha, hat 1 (by omega)]; rfl
      · rw [← ha, hat 2 (by omega)]; rfl
      · rw [← ha, hat 3 (by omega)]; rfl
    have hpick : ∀ k, k ≤ len → ∃ its : List Itm, its.length = k ∧ ∀ i it, its[i]? = some it → ItmAt W a i it ∧ Good W it := by
      intro k
      induction k with
      | zero => intro _; exact ⟨[], rfl, fun i it h => by cases h⟩
      | succ k ih =>
        intro hk
        obtain ⟨its, hlen, hits⟩ := ih (by omega)
        obtain ⟨it, hit⟩ := hall k (by omega)
        refine ⟨its ++ [it], by simp [hlen], fun i x hx => ?_⟩
        rcases Nat.lt_or_ge i its.length with h1 | h1
        · rw [List.getElem?_append_left h1] at hx; exact hits i x hx
        · rw [List.getElem?_append_right h1] at hx
          obtain ⟨h2, h3⟩ := List.getElem?_eq_some_iff.1 hx
          simp at h2
          have hik : i = k := by omega
          subst hik
          simp [← hlen] at h3
          subst h3
          exact hit
    obtain ⟨its, hlen, hits⟩ := hpick len (Nat.le_refl _)
    exact ⟨its, .inr ⟨a, cap, by rw [hlen]; simpa using hc, by omega, hm, hits⟩⟩

end Go.Proofs.Ytahdnapinlbflaa
