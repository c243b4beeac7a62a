/-
  ShaPieces's parts: what holds behind any number of pieces.
-/
import Derived.Test.YtoognhbdgdfkoaaDoorBeg
import Derived.Test.YtoognhbdgdfkoaaDoorEq
import Derived.Test.YtoognhbdgdfkoaaDoorAp
import Derived.Test.YtoognhbdgdfkoaaDoorBc
namespace Go.Proofs.YtoognhbdgdfkoaaDoor
open Go.ChangeShapes Go.WideShapes Go.ChangeAt Go.RowKit

/-- a slice of slices that shows these bytes -/
def SeesA (w : World) (v : Value) (ls : List (List Int)) : Prop :=
  (v = .slice none 0 0 ∧ ls = []) ∨
  ∃ ad cap, v = .slice (some ad) ls.length cap ∧ ls.length ≤ cap ∧ cap ≤ maxLen ∧ ∀ i l, ls[i]? = some l → ∃ u, w.cell? (ad.add i) = some u ∧ Sees w u l
theorem SeesA.far {w w' : World} {v : Value} {ls : List (List Int)} (h : SeesA w v ls) (k : Kp (fun _ => False) w w') {p : Nat} (hp : w.heap.size ≤ p) : SeesL p w' v ls := by
  rcases h with h | ⟨ad, cap, rfl, h1, h2, h3⟩
  · exact .inl h
  · refine .inr ⟨ad, cap, rfl, h1, h2, fun i l hi => ?_⟩
    obtain ⟨u, hc, hs⟩ := h3 i l hi
    have hb := lt_of_cell hc
    rw [add_block] at hb
    refine ⟨by omega, u, by rw [k.cell (by rw [add_block]; exact hb) (fun f => f)]; exact hc, hs.kept k (fun _ _ _ f => f), fun hne g hg => ?_⟩
    have := hs.lt hne g hg
    omega
theorem kp_new {a b c : World} {q : Nat} (h : Kp (fun _ => False) a b) (k : Kp (fun y => y = q) b c) (hq : a.heap.size ≤ q) : Kp (fun _ => False) a c :=
  h.trans k (fun x hx e => by omega)
theorem NewB.here {w : World} {l : List Int} {e : Ending} {w' : World} (h : NewB w l e w') : ∃ a c, e = .returned (.slice a l.length c) ∧ OwnB w' w.heap.size (.slice a l.length c) l ∧ Kp (fun _ => False) w w' := by
  obtain ⟨v, h1, h2, h3⟩ := h
  obtain ⟨a, c, rfl⟩ := h2.sees.len
  exact ⟨a, c, h1, h2, h3⟩

structure PcRel (w : World) (p : Nat) (ls : List (List Int)) (k : Nat) (v : Value) (wr : World) : Prop where
  st : IsSt wr p (ls.take k).flatten
  own : OwnB wr w.heap.size v (ls.take k).flatten
  ne : ∀ g, v.ownBlock = some g → g ≠ p
  kp : Kp (fun _ => False) w wr
theorem PcRel.kept {w wr w' : World} {p k : Nat} {ls : List (List Int)} {v : Value} (h : PcRel w p ls k v wr) (hk : Kp (fun _ => False) wr w') : PcRel w p ls k v w' :=
  ⟨h.st.kept hk (fun f => f), h.own.kept hk (fun _ _ f => f), h.ne, h.kp.trans hk (fun _ _ f => f)⟩
theorem flat_small {ls : List (List Int)} {k : Nat} (h : ∀ l ∈ ls.take k, l.length ≤ 300) (hk : k ≤ 40) : (ls.take k).flatten.length ≤ 12000 := by
  have : ∀ (l : List (List Int)), (∀ x ∈ l, x.length ≤ 300) → l.flatten.length ≤ 300 * l.length := by
    intro l
    induction l with
    | nil => intro _; simp
    | cons x r ih =>
      intro h
      have h1 := h x (List.mem_cons_self ..)
      have h2 := ih (fun y hy => h y (List.mem_cons_of_mem _ hy))
      simp only [List.flatten_cons, List.length_append, List.length_cons]
      omega
  have h2 := this _ h
  have : (ls.take k).length ≤ 40 := by rw [List.length_take]; omega
  omega
/-- one piece in a slice of its own, to be written -/
theorem one_piece {w : World} {p : Nat} {u : Value} {l : List Int} (hs : Sees w u l) (hf : l ≠ [] → ∀ g, u.ownBlock = some g → g ≠ p) (hp : p < w.heap.size) :
    SeesL p (w.alloc (.cells #[u] 24)) (.slice (some ⟨w.heap.size, 0, none⟩) 1 1) [l] :=
  .inr ⟨⟨w.heap.size, 0, none⟩, 1, rfl, Nat.le_refl _, by unfold maxLen; omega, fun i x hi => by
    cases i with
    | zero =>
      cases hi
      refine ⟨by show w.heap.size ≠ p; omega, u, ?_, hs.kept ((Kp.refl (fun _ => False) w).alloc _) (fun _ _ _ f => f), hf⟩
      rw [Addr.add_zero', cell_blk (new_blk w _)]; rfl
    | succ i => simp at hi⟩
/-- behind a piece that was written and appended -/
theorem piece_next {w wr w2 : World} {p k : Nat} {ls : List (List Int)} {v u : Value} {l : List Int} (h : PcRel w p ls k v wr) (hp : w.heap.size ≤ p) (hl : ls[k]? = some l) (hsm : (ls.take k).flatten.length + l.length ≤ 13000)
    (hs : Sees wr u l) (hf : l ≠ [] → ∀ g, u.ownBlock = some g → g ≠ p) (o : Obj) (hst : IsSt w2 p ((ls.take k).flatten ++ l)) (hk : Kp (fun y => y = p) (wr.alloc o) w2) :
    ∃ v' w3, (∀ ty, (Builtin.append_ #[24, 24] ty #[v, u]).run Tryd.prog w2 = .ok v' w3) ∧ PcRel w p ls (k + 1) v' w3 := by
  have k0 : Kp (fun y => y = p) wr w2 := ((Kp.refl (fun y => y = p) wr).alloc o).trans hk (fun _ _ h => h)
  have hown := h.own.kept k0 (fun g hg e => h.ne g hg e)
  have hsz := h.kp.size
  obtain ⟨v', w3, hap, hown', hk', hnew⟩ := run_append_by (Nat.le_trans hsz k0.size) hown (hs.kept k0 hf) (by omega)
  have hfl := take_flat ls k l hl
  refine ⟨v', w3, hap, ⟨?_, ?_, ?_, ?_⟩⟩
  · rw [hfl]; exact hst.kept hk' (fun e => h.ne p e rfl)
  · rw [hfl]; exact hown'
  · intro g hg e
    rcases hnew with h1 | h1
    · exact h.ne g (by rw [← h1]; exact hg) e
    · have := h1 g hg
      have := hst.lt
      omega
  · exact (kp_new h.kp k0 hp).trans hk' (fun y hy e => by have := (h.own.lt y e).1; omega)
theorem lit_piece (w : World) (xs : List Int) (hx : xs.length ≤ 1000) : Sees (w.alloc (.cells (U8s xs).toArray 5)) (.slice (some ⟨w.heap.size, 0, none⟩) xs.length xs.length) xs := lits_sees w xs hx _ _
/-- the three pieces that a clone gets -/
theorem three_pieces {w : World} {q : Nat} (hq : q < w.heap.size) :
    SeesL q (((w.alloc (.cells #[.int .u8 1] 5)).alloc (.cells #[.int .u8 2, .int .u8 3] 5)).alloc (.cells #[.slice (some ⟨w.heap.size, 0, none⟩) 1 1, .slice none 0 0, .slice (some ⟨w.heap.size + 1, 0, none⟩) 2 2] 24))
      (.slice (some ⟨w.heap.size + 1 + 1, 0, none⟩) 3 3) [[1], [], [2, 3]] := by
  have b0 := old_blk (old_blk (new_blk w (.cells #[.int .u8 1] 5)) (.cells #[.int .u8 2, .int .u8 3] 5)) (.cells #[.slice (some ⟨w.heap.size, 0, none⟩) 1 1, .slice none 0 0, .slice (some ⟨w.heap.size + 1, 0, none⟩) 2 2] 24)
  have b1 := old_blk (new_blk (w.alloc (.cells #[.int .u8 1] 5)) (.cells #[.int .u8 2, .int .u8 3] 5)) (.cells #[.slice (some ⟨w.heap.size, 0, none⟩) 1 1, .slice none 0 0, .slice (some ⟨w.heap.size + 1, 0, none⟩) 2 2] 24)
  have b2 := new_blk ((w.alloc (.cells #[.int .u8 1] 5)).alloc (.cells #[.int .u8 2, .int .u8 3] 5)) (.cells #[.slice (some ⟨w.heap.size, 0, none⟩) 1 1, .slice none 0 0, .slice (some ⟨w.heap.size + 1, 0, none⟩) 2 2] 24)
  rw [World.size_alloc] at b1
  rw [World.size_alloc, World.size_alloc] at b2
  refine .inr ⟨⟨w.heap.size + 1 + 1, 0, none⟩, 3, rfl, Nat.le_refl _, by unfold maxLen; omega, fun i x hi => ?_⟩
  match i, hi with
  | 0, hi =>
    cases hi
    refine ⟨by show w.heap.size + 1 + 1 ≠ q; omega, _, by rw [Addr.add_zero', cell_blk b2]; rfl, array_sees (xs := [1]) b0 (by decide), fun _ g hg => by injection hg with hg; simp at hg; omega⟩
  | 1, hi =>
    cases hi
    exact ⟨by show w.heap.size + 1 + 1 ≠ q; omega, _, by rw [Addr.add_lit, cell_blk b2]; rfl, .inl ⟨rfl, rfl⟩, fun h => absurd rfl h⟩
  | 2, hi =>
    cases hi
    refine ⟨by show w.heap.size + 1 + 1 ≠ q; omega, _, by rw [Addr.add_lit, cell_blk b2]; rfl, array_sees (xs := [2, 3]) b1 (by decide), fun _ g hg => by injection hg with hg; simp at hg; omega⟩
  | i + 3, hi => simp at hi
end Go.Proofs.YtoognhbdgdfkoaaDoor
