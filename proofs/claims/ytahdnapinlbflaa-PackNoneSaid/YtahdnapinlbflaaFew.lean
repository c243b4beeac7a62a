/-
  few: whether items are so few, and so short.
-/
import Derived.Test.YtahdnapinlbflaaItems
import Derived.Test.YtahdnapinlbflaaPkB
import Derived.Outline
import Derived.Lib.Hide
import Derived.Deep.QuietTactic
import Derived.BigQuiet
import Derived.WalkLawsBesides
namespace Go.Proofs.Ytahdnapinlbflaa
open Go.ChangeShapes Go.WideShapes Go.ChangeAt Go.RowKit

theorem ItemsAt.kept {W w : World} {lv : Value} {its : List Itm} (h : ItemsAt W lv its) (k : Kp (fun _ => False) W w) : ItemsAt w lv its := by
  rcases h with h | ⟨a, cap, rfl, h1, h2, h3⟩
  · exact .inl h
  · refine .inr ⟨a, cap, rfl, h1, h2, fun i it hi => ?_⟩
    obtain ⟨c, g⟩ := h3 i it hi
    have hc : ∀ {p : Addr} {u : Value}, W.cell? p = some u → w.cell? p = some u := fun hh => (k.cell (lt_of_cell hh) (fun f => f)).trans hh
    exact ⟨⟨hc c.c0, hc c.c1, hc c.c2, hc c.c3⟩, g.dr, g.vr, g.nr, g.sees.kept k (fun _ _ _ f => f), g.rng⟩
theorem ItemsAt.form {w : World} {lv : Value} {its : List Itm} (h : ItemsAt w lv its) : ∃ a cap, lv = .slice a its.length cap ∧ its.length ≤ cap ∧ cap ≤ maxLen := by
  rcases h with ⟨rfl, rfl⟩ | ⟨a, cap, rfl, h1, h2, _⟩
  · exact ⟨none, 0, rfl, Nat.le_refl _, Nat.zero_le _⟩
  · exact ⟨_, _, rfl, h1, h2⟩
/-- the cells of an item, at an address written out -/
structure ItmLit (W : World) (b off i : Nat) (it : Itm) : Prop where
  c0 : W.cell? ⟨b, off + i * 4, none⟩ = some (.int .i64 it.d)
  c1 : W.cell? ⟨b, off + i * 4 + 1, none⟩ = some (.int .u64 it.V)
  c2 : W.cell? ⟨b, off + i * 4 + 2, none⟩ = some it.b
  c3 : W.cell? ⟨b, off + i * 4 + 3, none⟩ = some (.int .i64 it.n)
theorem ItemsAt.lit {w : World} {lv : Value} {its : List Itm} (h : ItemsAt w lv its) (hne : its ≠ []) :
    ∃ b off cap, lv = .slice (some ⟨b, off, none⟩) its.length cap ∧ its.length ≤ cap ∧ cap ≤ maxLen ∧ ∀ i it, its[i]? = some it → ItmLit w b off i it ∧ Good w it := by
  rcases h with ⟨_, h⟩ | ⟨a, cap, rfl, h1, h2, h3⟩
  · exact absurd h hne
  · obtain ⟨x, r, rfl⟩ := List.exists_cons_of_ne_nil hne
    have hs := spot_of_cell (h3 0 x rfl).1.c0
    obtain ⟨b, off, s⟩ := a
    have hs' : s = none := by simpa [Addr.add] using hs
    subst hs'
    refine ⟨b, off, cap, rfl, h1, h2, fun i it hi => ?_⟩
    obtain ⟨c, g⟩ := h3 i it hi
    refine ⟨⟨?_, ?_, ?_, ?_⟩, g⟩
    · have := c.c0; rw [Addr.add_lit] at this; exact this
    · have := c.c1; rw [Addr.add_lit] at this; rw [Nat.add_assoc]; exact this
    · have := c.c2; rw [Addr.add_lit] at this; rw [Nat.add_assoc]; exact this
    · have := c.c3; rw [Addr.add_lit] at this; rw [Nat.add_assoc]; exact this

def FewRel (its : List Itm) (k : Nat) (s : Int) : Prop := 0 ≤ s ∧ s ≤ 1048576 ∧ (s < 1048576 → ∀ j it, j < k → its[j]? = some it → (it.xs.length : Int) ≤ s)
theorem few_step {its : List Itm} {k : Nat} {z : Int} {it : Itm} (h : FewRel its k z) (hi : its[k]? = some it) : FewRel its (k + 1) (min (z + min (it.xs.length : Int) 1048576) 1048576) := by
  obtain ⟨h0, h1, h2⟩ := h
  refine ⟨by omega, by omega, fun hs j x hj hx => ?_⟩
  by_cases hjk : j = k
  · subst hjk
    rw [hi] at hx
    obtain rfl := Option.some.inj hx
    omega
  · have := h2 (by omega) j x (by omega) hx
    omega
theorem few_end {its : List Itm} {k : Nat} {z : Int} (h : FewRel its k z) (hk : min its.length 300 ≤ k) (hl : its.length ≤ 200) (hz : z ≤ 200000) : ∀ it ∈ its, it.xs.length ≤ 200000 := by
  intro it hit
  obtain ⟨j, hj, rfl⟩ := List.mem_iff_getElem.1 hit
  have := h.2.2 (by omega) j its[j] (by omega) (List.getElem?_eq_getElem hj)
  omega
def FewPost (W : World) (its : List Itm) (e : Ending) (w' : World) : Prop :=
  ∃ q : Bool, e = .returned (.bool q) ∧ (q = true → its.length ≤ 200 ∧ ∀ it ∈ its, it.xs.length ≤ 200000) ∧ Kp (fun _ => False) W w'

set_option maxHeartbeats 1000000 in
theorem few_any {W : World} {lv : Value} {its : List Itm} (h : ItemsAt W lv its) : Calls Try.prog 10 #[lv] W (FewPost W its) := by
  by_cases hne : its = []
  · subst hne
    obtain ⟨a, cap, rfl, _, _⟩ := h.form
    clear h
    go_enter Try.func10, Try.ntmps10
    go_wp2
    go_loop [12, 3] (fun i s => i = .int .i64 0 ∧ s = .int .i64 0) (fun _ _ => 0)
    case atStart => exact ⟨rfl, rfl⟩
    case round =>
      obtain ⟨rfl, rfl⟩ := hrel
      go_wp2
      go_ret
      exact ⟨true, rfl, fun _ => ⟨by simp, fun it h => by cases h⟩, Kp.refl _ _⟩
  · obtain ⟨b, off, cap, rfl, h1, h2, h3⟩ := h.lit hne
    have hm : cap ≤ 9223372036854775807 := h2
    have H3 := Lib.hid h3
    clear h h2 h3
    go_enter Try.func10, Try.ntmps10
    go_wp2
    go_loopw [12, 3] (fun i s wr => ∃ (k : Nat) (z : Int), k ≤ min its.length 300 ∧ i = .int .i64 k ∧ s = .int .i64 z ∧ Hid (FewRel its k z) ∧ Hid (Kp (fun _ => False) W wr)) (fun i _ _ => 300 - (intOf i).toNat)
    case atStart => exact ⟨0, 0, by omega, rfl, rfl, Lib.hid ⟨by omega, by omega, fun _ j it hj => absurd hj (by omega)⟩, Lib.hid (Kp.refl _ _)⟩
    case round =>
      obtain ⟨k, z, hk, rfl, rfl, hfr, hkp⟩ := hrel
      have hz0 := hfr.out.1
      have hz1 := hfr.out.2.1
      by_cases hlt : k < min its.length 300
      · have hkl : k < its.length := by omega
        have hk3 : k < 300 := by omega
        obtain ⟨c, g⟩ := H3.out k its[k] (List.getElem?_eq_getElem hkl)
        have hc : ∀ {p : Addr} {u : Value}, W.cell? p = some u → wr.cell? p = some u := fun hh => (hkp.out.cell (lt_of_cell hh) (fun f => f)).trans hh
        have e0 := hc c.c0
        have e1 := hc c.c1
        have e2 := hc c.c2
        have e3 := hc c.c3
        obtain ⟨it, hit⟩ : ∃ it, it = its[k] := ⟨_, rfl⟩
        rw [← hit] at e0 e1 e2 e3 g
        have HI := Lib.hid (show its[k]? = some it by rw [hit]; exact List.getElem?_eq_getElem hkl)
        obtain ⟨d, V, n, bv, xs⟩ := it
        obtain ⟨bvp, bvc, hbv⟩ := sees_form g.sees
        simp only at hbv e0 e1 e2 e3
        subst hbv
        clear g hit c hc
        have HR := Lib.hid (few_step hfr.out HI.out)
        have HK := Lib.hid (hkp.out.alloc (.cells #[.int .i64 d, .int .u64 V, .slice bvp xs.length bvc, .int .i64 n] 32))
        clear hk
        go_wp2
        go_roundw
        case rel => exact ⟨k + 1, _, by omega, by go_num, rfl, HR, HK⟩
        case measure => simp [intOf]; omega
      · have hfin := few_end hfr.out (show min its.length 300 ≤ k by omega)
        have HF := Lib.hid hfin
        clear hfin
        go_wp2
        · have hl : its.length ≤ 200 := by omega
          go_ret
          exact ⟨_, rfl, fun hq => ⟨hl, HF.out hl (of_decide_eq_true hq)⟩, hkp.out⟩
        · go_ret
          exact ⟨false, rfl, (fun hq => by cases hq), hkp.out⟩

end Go.Proofs.Ytahdnapinlbflaa
