/-
  The arguments of the laws of bags: votes, and slices of them; the literals that few takes.
-/
import Derived.Test.YtoeinolekpmbbaaFm
import Derived.Test.YtoeinolekpmbbaaBaa
import Derived.Deep.Slices
import Derived.Deep.Fields
import Derived.ChangeSlices
namespace Go.Proofs.Ytoeinolekpmbbaa
open Go.ChangeShapes Go.WideShapes Go.ChangeAt Go.RowKit

theorem Try.cellsIdT : Try.prog.cellsOf 27 = 32 := by kernel_rfl
theorem Try.cellsIntT : Try.prog.cellsOf 3 = 1 := by kernel_rfl
theorem Try.cellsVote : Try.prog.cellsOf 33 = 33 := by kernel_rfl
theorem wf_intT {x : Int} (h : (Lit.int .i64 x).wf = true) : -9223372036854775808 ≤ x ∧ x ≤ 9223372036854775807 := by simpa [Lit.wf, IntKind.min, IntKind.max, IntKind.signed, IntKind.bits] using h
theorem wf_u16T {x : Int} (h : (Lit.int .u16 x).wf = true) : 0 ≤ x ∧ x ≤ 65535 := by simpa [Lit.wf, IntKind.min, IntKind.max, IntKind.signed, IntKind.bits] using h
theorem wf_u8T {x : Int} (h : (Lit.int .u8 x).wf = true) : 0 ≤ x ∧ x ≤ 255 := by simpa [Lit.wf, IntKind.min, IntKind.max, IntKind.signed, IntKind.bits] using h
theorem voteFieldsT : ∃ f0 f1 : Field, Try.prog.underlying 33 = some (.struct #[f0, f1]) ∧ f0.type = 27 ∧ f1.type = 3 ∧ f0.offset = 0 ∧ f1.offset = 32 :=
  ⟨_, _, Try.underlying33, rfl, rfl, rfl, rfl⟩
theorem open_vote {H : Type} {enc : TypeId × Value → H} {W : World} {base : Nat} {spare : Nat → Bool} {held : Bool} {fuel : Nat} {cs : List Value} {x : DataW H × List MemPlace} (h : DataW.trod enc Try.prog W base spare held fuel 33 cs = some x) :
    ∃ y : Vt, cs = vtC y ∧ y.wf := by
  obtain ⟨f0, f1, hu, t0, t1, o0, o1⟩ := voteFieldsT
  obtain ⟨ys, n, _, _, hlen, hyl, hf⟩ := DataW.trod_struct hu h
  rw [Try.cellsVote] at hlen
  obtain ⟨y0, y1, rfl⟩ : ∃ y0 y1, ys = [y0, y1] := by
    match ys, hyl with
    | [v0, v1], _ => exact ⟨v0, v1, rfl⟩
  have g0 := hf 0 f0 rfl
  have g1 := hf 1 f1 rfl
  rw [t0, o0, Try.cellsIdT] at g0
  rw [t1, o1, Try.cellsIntT] at g1
  obtain ⟨xs, e0, l32, r0⟩ := open_id_cells g0
  obtain ⟨V, e1, _, w1⟩ := DataW.trod_int Try.underlying3 g1
  have hw := wf_intT w1
  refine ⟨⟨xs, V⟩, ?_, ⟨l32, r0⟩, hw.1, hw.2⟩
  have e0' : cs.take 32 = U8s xs := by simpa [List.extract] using e0
  have e1' : cs.drop 32 = [.int .i64 V] := by
    have : (cs.drop 32).take 1 = [.int .i64 V] := by simpa [List.extract] using e1
    rw [← this, List.take_of_length_le]
    rw [List.length_drop]; omega
  rw [← List.take_append_drop 32 cs, e0', e1']
  rfl
theorem open_votes {H : Type} {enc : TypeId × Value → H} {W : World} {base : Nat} {spare : Nat → Bool} {held : Bool} {fuel : Nat} {v : Value} {x : DataW H × List MemPlace} (h : DataW.trod enc Try.prog W base spare held fuel 22 [v] = some x) :
    ∃ l, SeesT W v l ∧ TOk l := by
  rcases Deep.open_slice Try.underlying22 h with ⟨hc, _⟩ | ⟨a, len, cap, m, n, D, Pl, hc, _, hl, hm, hmm, _, hi⟩
  · exact ⟨[], ⟨none, 0, by simpa using hc, by simp, by simp, fun _ => rfl, fun i x h => by cases h⟩, fun y hy => by cases hy⟩
  · have hlm : len ≤ m := by rw [hmm]; split <;> omega
    obtain ⟨l, h1, h2⟩ := pick_all (len := len) (R := fun i (y : Vt) => y.wf ∧ ∀ j u, (vtC y)[j]? = some u → W.cell? (a.add (i * 33 + j)) = some u) (fun i hil => by
      obtain ⟨cs, hcs, ht⟩ := hi i (by omega)
      rw [Try.cellsVote] at hcs
      obtain ⟨y, rfl, hy⟩ := open_vote ht
      obtain ⟨hn, _, hat⟩ := World.cells?_some hcs
      have ha : ∀ j, (a.add (i * 33)).add j = a.add (i * 33 + j) := fun j => Deep.add_add a _ _
      refine ⟨y, hy, fun j u hj => ?_⟩
      have hjl := (List.getElem?_eq_some_iff.1 hj).1
      rw [vtC_length hy.nm.len] at hjl
      rw [← ha, hat j hjl]
      exact hj)
    refine ⟨l, ⟨some a, cap, by rw [h1]; simpa using hc, by omega, hm, (by intro e; cases e), fun i x hx => ?_⟩, fun y hy => ?_⟩
    · have hlt := (List.getElem?_eq_some_iff.1 hx).1
      obtain ⟨x0, hx0⟩ : ∃ x0, l[0]? = some x0 := ⟨l[0], by simp [show 0 < l.length by omega]⟩
      have h00 := (h2 0 x0 hx0).2 32 _ (vt_n (h2 0 x0 hx0).1.nm.len)
      obtain ⟨u0, hu0⟩ : ∃ u0, (vtC x0)[0]? = some u0 := ⟨(vtC x0)[0]'(by rw [vtC_length (h2 0 x0 hx0).1.nm.len]; omega), List.getElem?_eq_getElem _⟩
      have hsp := spot_of_cell ((h2 0 x0 hx0).2 0 u0 hu0)
      obtain ⟨b0, o0, sp⟩ := a
      have hsp : sp = none := by simpa [Addr.add] using hsp
      subst hsp
      refine ⟨b0, o0, rfl, fun j u hj => ?_⟩
      have := (h2 i x hx).2 j u hj
      rw [Addr.add_lit] at this
      rw [show o0 + i * 33 + j = o0 + (i * 33 + j) by omega]
      exact this
    · obtain ⟨i, hi'⟩ := List.getElem?_of_mem hy
      exact (h2 i y hi').1
theorem few1 (a : Option Addr) (n c : Nat) (w : World) : Calls Try.prog 10 #[.slice (some ⟨w.heap.size, 0, none⟩) 1 1] (w.alloc (.cells #[.slice a n c] 22)) fun e w' => e = .returned (.bool (decide (n ≤ 60))) ∧ Kp (fun _ => False) w w' := by
  refine (fewT_any (cap := 1) (vs := [.slice a n c]) (new_blk w _) rfl (Nat.le_refl _) (by omega) [n] (fun i v hv => ?_) rfl).mono ?_
  · cases i with
    | zero => cases hv; exact ⟨a, n, c, rfl, rfl⟩
    | succ i => cases hv
  · rintro e w' ⟨rfl, k⟩
    exact ⟨by simp, ((Kp.refl _ _).alloc _).trans k (fun _ _ f => f)⟩
theorem few2 (a : Option Addr) (n c : Nat) (b : Option Addr) (m d : Nat) (w : World) : Calls Try.prog 10 #[.slice (some ⟨w.heap.size, 0, none⟩) 2 2] (w.alloc (.cells #[.slice a n c, .slice b m d] 22)) fun e w' => e = .returned (.bool (decide (n ≤ 60) && decide (m ≤ 60))) ∧ Kp (fun _ => False) w w' := by
  refine (fewT_any (cap := 2) (vs := [.slice a n c, .slice b m d]) (new_blk w _) rfl (Nat.le_refl _) (by omega) [n, m] (fun i v hv => ?_) rfl).mono ?_
  · cases i with
    | zero => cases hv; exact ⟨a, n, c, rfl, rfl⟩
    | succ i =>
      cases i with
      | zero => cases hv; exact ⟨b, m, d, rfl, rfl⟩
      | succ i => cases hv
  · rintro e w' ⟨rfl, k⟩
    exact ⟨by simp, ((Kp.refl _ _).alloc _).trans k (fun _ _ f => f)⟩
end Go.Proofs.Ytoeinolekpmbbaa
