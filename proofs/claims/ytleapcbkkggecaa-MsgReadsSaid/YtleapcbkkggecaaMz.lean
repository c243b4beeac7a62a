/-
  A message among a law's arguments.
-/
import Derived.Test.YtleapcbkkggecaaMb
import Derived.Test.YtleapcbkkggecaaItems
import Derived.Deep.Strs
namespace Go.Proofs.Ytleapcbkkggecaa
open Go.ChangeShapes Go.WideShapes Go.ChangeAt Go.RowKit

theorem Try.cellsIdM : Try.prog.cellsOf 37 = 32 := by kernel_rfl
theorem Try.cellsByM : Try.prog.cellsOf 29 = 1 := by kernel_rfl
theorem Try.cellsIdsM : Try.prog.cellsOf 22 = 1 := by kernel_rfl
theorem Try.cellsRowsM : Try.prog.cellsOf 23 = 1 := by kernel_rfl
theorem Try.cellsIntM : Try.prog.cellsOf 3 = 1 := by kernel_rfl
theorem Try.cellsI64M : Try.prog.cellsOf 2 = 1 := by kernel_rfl
theorem Try.cellsMsg : Try.prog.cellsOf 25 = 4 := by kernel_rfl
theorem wf_i64' {x : Int} (h : (Lit.int .i64 x).wf = true) : -9223372036854775808 ≤ x ∧ x ≤ 9223372036854775807 := by simpa [Lit.wf, IntKind.min, IntKind.max, IntKind.signed, IntKind.bits] using h
theorem open_id_cells {H : Type} {enc : TypeId × Value → H} {W : World} {base : Nat} {spare : Nat → Bool} {held : Bool} {fuel : Nat} {l : List Value} {x : DataW H × List MemPlace} (hf : DataW.trod enc Try.prog W base spare held fuel 37 l = some x) :
    ∃ xs, l = U8s xs ∧ xs.length = 32 ∧ Rng xs := by
  obtain ⟨xs, m, _, _, hlen, hxs, hel⟩ := DataW.trod_array Try.underlying37 hf
  rw [Try.cellsOf8] at hel
  rw [Try.cellsIdM] at hlen
  have hpick : ∀ k, k ≤ 32 → ∃ zs : List Int, zs.length = k ∧ l.take k = U8s zs ∧ Rng zs := by
    intro k
    induction k with
    | zero => intro _; exact ⟨[], rfl, rfl, fun _ h => by cases h⟩
    | succ k ih =>
      intro hk
      obtain ⟨zs, h1, h2, h3⟩ := ih (by omega)
      have he := hel k (by omega)
      rw [List.getElem?_eq_getElem (by omega)] at he
      obtain ⟨z, hz, _, hw⟩ := DataW.trod_int Try.underlying5 he
      have hk' : k < l.length := by omega
      have hz1 : l[k] = .int .u8 z := by
        rw [Nat.mul_one, List.drop_eq_getElem_cons hk', List.take_succ_cons, List.take_zero] at hz
        exact (List.cons.inj hz).1
      refine ⟨zs ++ [z], by simp [h1], ?_, h3.append (fun x hx => by rw [List.mem_singleton.1 hx]; exact wf_u8 hw)⟩
      rw [List.take_succ_eq_append_getElem hk', h2, hz1]
      simp [U8s]
  obtain ⟨zs, h1, h2, h3⟩ := hpick 32 (Nat.le_refl _)
  rw [List.take_of_length_le (by omega)] at h2
  exact ⟨zs, h2, h1, h3⟩
theorem pick_all {T : Type} {len : Nat} {R : Nat → T → Prop} (hall : ∀ i, i < len → ∃ x, R i x) : ∃ l : List T, l.length = len ∧ ∀ i x, l[i]? = some x → R i x := by
  have hp : ∀ k, k ≤ len → ∃ l : List T, l.length = k ∧ ∀ i x, l[i]? = some x → R i x := by
    intro k
    induction k with
    | zero => intro _; exact ⟨[], rfl, fun i x h => by cases h⟩
    | succ k ih =>
      intro hk
      obtain ⟨l, h1, h2⟩ := ih (by omega)
      obtain ⟨y, hy⟩ := hall k (by omega)
      refine ⟨l ++ [y], by simp [h1], fun i x hx => ?_⟩
      rcases Nat.lt_or_ge i l.length with h | h
      · rw [List.getElem?_append_left h] at hx; exact h2 i x hx
      · rw [List.getElem?_append_right h] at hx
        have h0 : i - l.length = 0 := by have := (List.getElem?_eq_some_iff.1 hx).1; simp at this; omega
        rw [h0] at hx
        have e : i = k := by omega
        cases hx
        rw [e]; exact hy
  exact hp len (Nat.le_refl _)
theorem open_ids {H : Type} {enc : TypeId × Value → H} {W : World} {base : Nat} {spare : Nat → Bool} {held : Bool} {fuel : Nat} {v : Value} {x : DataW H × List MemPlace} (h : DataW.trod enc Try.prog W base spare held fuel 22 [v] = some x) :
    ∃ ids, SeesI (fun _ => True) W v ids ∧ ∀ y ∈ ids, y.length = 32 ∧ Rng y := by
  rcases Deep.open_slice Try.underlying22 h with ⟨hc, _⟩ | ⟨a, len, cap, m, n, D, Pl, hc, _, hl, hm, hmm, _, hi⟩
  · exact ⟨[], .inl ⟨by simpa using hc, rfl⟩, fun y hy => by cases hy⟩
  · have hlm : len ≤ m := by rw [hmm]; split <;> omega
    obtain ⟨ids, h1, h2⟩ := pick_all (len := len) (R := fun i (xs : List Int) => (xs.length = 32 ∧ Rng xs) ∧ ∀ j u, xs[j]? = some u → W.cell? (a.add (i * 32 + j)) = some (.int .u8 u)) (fun i hil => by
      obtain ⟨cs, hcs, ht⟩ := hi i (by omega)
      rw [Try.cellsIdM] at hcs
      obtain ⟨xs, hxs, hl32, hr⟩ := open_id_cells ht
      obtain ⟨hn, _, hat⟩ := World.cells?_some hcs
      have ha : ∀ j, (a.add (i * 32)).add j = a.add (i * 32 + j) := fun j => Deep.add_add a _ _
      refine ⟨xs, ⟨hl32, hr⟩, fun j u hj => ?_⟩
      have hjl := (List.getElem?_eq_some_iff.1 hj).1
      rw [← ha, hat j (by omega), hxs]
      exact U8s_get hj)
    refine ⟨ids, .inr ⟨a, cap, by rw [h1]; simpa using hc, by omega, hm, fun _ => trivial, fun i x hx => (h2 i x hx).2⟩, fun y hy => ?_⟩
    obtain ⟨i, hi'⟩ := List.getElem?_of_mem hy
    exact (h2 i y hi').1
theorem open_rows {H : Type} {enc : TypeId × Value → H} {W : World} {base : Nat} {spare : Nat → Bool} {held : Bool} {fuel : Nat} {v : Value} {x : DataW H × List MemPlace} (h : DataW.trod enc Try.prog W base spare held fuel 23 [v] = some x) :
    ∃ bl, SeesR (fun _ => True) W v bl ∧ ∀ y ∈ bl, Rng y := by
  rcases Deep.open_slice Try.underlying23 h with ⟨hc, _⟩ | ⟨a, len, cap, m, n, D, Pl, hc, _, hl, hm, hmm, _, hi⟩
  · exact ⟨[], .inl ⟨by simpa using hc, rfl⟩, fun y hy => by cases hy⟩
  · have hlm : len ≤ m := by rw [hmm]; split <;> omega
    obtain ⟨bl, h1, h2⟩ := pick_all (len := len) (R := fun i (xs : List Int) => Rng xs ∧ ∃ u, W.cell? (a.add i) = some u ∧ Sees W u xs) (fun i hil => by
      obtain ⟨cs, hcs, ht⟩ := hi i (by omega)
      rw [Try.cellsByM] at hcs
      obtain ⟨hn, _, hat⟩ := World.cells?_some hcs
      obtain ⟨u, rfl⟩ : ∃ u, cs = [u] := by
        match cs, hn with
        | [u], _ => exact ⟨u, rfl⟩
      obtain ⟨xs, hs, hr⟩ := open_bytes ht
      refine ⟨xs, hr, u, ?_, hs⟩
      have h0 := hat 0 (by omega)
      rw [Deep.add_add] at h0
      simpa using h0)
    refine ⟨bl, .inr ⟨a, cap, by rw [h1]; simpa using hc, by omega, hm, fun _ => trivial, fun i x hx => ?_⟩, fun y hy => ?_⟩
    · obtain ⟨_, u, hu, hs⟩ := h2 i x hx
      exact ⟨u, hu, hs, fun _ _ _ => trivial⟩
    · obtain ⟨i, hi'⟩ := List.getElem?_of_mem hy
      exact (h2 i y hi').1
theorem msgFields : ∃ f0 f1 f2 f3 : Field, Try.prog.underlying 25 = some (.struct #[f0, f1, f2, f3]) ∧ f0.type = 3 ∧ f1.type = 2 ∧ f2.type = 22 ∧ f3.type = 23 ∧ f0.offset = 0 ∧ f1.offset = 1 ∧ f2.offset = 2 ∧ f3.offset = 3 :=
  ⟨_, _, _, _, Try.underlying25, rfl, rfl, rfl, rfl, rfl, rfl, rfl, rfl⟩
theorem open_msg {H : Type} {enc : TypeId × Value → H} {W : World} {base : Nat} {spare : Nat → Bool} {held : Bool} {fuel : Nat} {cs : List Value} {x : DataW H × List MemPlace} (h : DataW.trod enc Try.prog W base spare held fuel 25 cs = some x) :
    ∃ (m : Ms) (vi vb : Value), cs = [.int .i64 m.k, .int .i64 m.r, vi, vb] ∧ m.wf ∧ SeesM (fun _ => True) W vi vb m := by
  obtain ⟨f0, f1, f2, f3, hu, t0, t1, t2, t3, o0, o1, o2, o3⟩ := msgFields
  obtain ⟨ys, n, _, _, hlen, hyl, hf⟩ := DataW.trod_struct hu h
  rw [Try.cellsMsg] at hlen
  obtain ⟨v0, v1, v2, v3, rfl⟩ : ∃ v0 v1 v2 v3, cs = [v0, v1, v2, v3] := by
    match cs, hlen with
    | [v0, v1, v2, v3], _ => exact ⟨v0, v1, v2, v3, rfl⟩
  obtain ⟨y0, y1, y2, y3, rfl⟩ : ∃ y0 y1 y2 y3, ys = [y0, y1, y2, y3] := by
    match ys, hyl with
    | [v0, v1, v2, v3], _ => exact ⟨v0, v1, v2, v3, rfl⟩
  have g0 := hf 0 f0 rfl
  have g1 := hf 1 f1 rfl
  have g2 := hf 2 f2 rfl
  have g3 := hf 3 f3 rfl
  rw [t0, o0, Try.cellsIntM] at g0
  rw [t1, o1, Try.cellsI64M] at g1
  rw [t2, o2, Try.cellsIdsM] at g2
  rw [t3, o3, Try.cellsRowsM] at g3
  obtain ⟨d, e0, _, w0⟩ := DataW.trod_int Try.underlying3 g0
  obtain ⟨V, e1, _, w1⟩ := DataW.trod_int Try.underlying2 g1
  obtain ⟨ids, hi1, hi2⟩ := open_ids g2
  obtain ⟨bl, hb1, hb2⟩ := open_rows g3
  simp at e0 e1
  subst e0 e1
  have a0 := wf_i64' w0
  have a1 := wf_i64' w1
  exact ⟨⟨d, V, ids, bl⟩, v2, v3, rfl, ⟨a0.1, a0.2, a1.1, a1.2, hi2, hb2⟩, hi1, hb1⟩
theorem open_msgV {H : Type} {enc : TypeId × Value → H} {W : World} {base : Nat} {spare : Nat → Bool} {held : Bool} {v : Value} {d : DataW H} {p : List MemPlace} (hv : Value.okWide Try.prog W .any base 25 v) (h : DataW.Trod enc Try.prog W 0 spare held 25 v d p) :
    ∃ (m : Ms) (vi vb : Value), v = msV m.k m.r vi vb ∧ m.wf ∧ SeesM (fun _ => True) W vi vb m := by
  obtain ⟨cs, rfl, hsz⟩ := okWide_struct Try.underlying25 hv
  obtain ⟨fuel, hf⟩ := h
  obtain ⟨m, vi, vb, h1, h2, h3⟩ := open_msg (show DataW.trod enc Try.prog W 0 spare held fuel 25 cs.toList = some (d, p) from hf)
  refine ⟨m, vi, vb, ?_, h2, h3⟩
  unfold msV
  rw [Array.ext' h1]
end Go.Proofs.Ytleapcbkkggecaa
