/-
  Messages: a message in the making: its rows of bytes put one behind the other by append, as the document's Clone and Parse do it.
-/
import Derived.Test.YtleapcbkkggecaaOg
import Derived.Test.YtleapcbkkggecaaMo
namespace Go.Proofs.Ytleapcbkkggecaa
open Go.ChangeShapes Go.WideShapes Go.ChangeAt Go.RowKit

/-- what may not be touched: other than the message's block and its row of rows -/
def Apart (B g4 : Nat) (vb : Value) (g : Nat) : Prop := B ≤ g ∧ g ≠ g4 ∧ vb.ownBlock ≠ some g
structure RB (w : World) (B g4 : Nat) (k r : Int) (vi vb : Value) (ids : List (List Int)) (i : Nat) (rows : List (List Int)) : Prop where
  ms : MsAt w g4 k r vi vb
  own : ∃ us, OwnG 29 1 w B vb i us ∧ ∀ (j : Nat) (x : List Int), rows[j]? = some x → ∃ u : Value, us[j]? = some u ∧ OwnB w B u x ∧ ∀ g, u.ownBlock = some g → Apart B g4 vb g
  ne : vb.ownBlock ≠ some g4
  seesI : SeesI (Apart B g4 vb) w vi ids
  len : rows.length = i
  idl : ∀ x ∈ ids, x.length = 32
  base : B ≤ g4

theorem slice_one (a : Option Addr) (n c : Nat) : (Value.slice a n c).oneCell' = true := rfl
/-- one row more -/
theorem RB.step {w : World} {B g4 i : Nat} {k r : Int} {vi vb vx : Value} {ids rows : List (List Int)} {x : List Int} (h : RB w B g4 k r vi vb ids i rows) (hB : B ≤ w.heap.size) (hs : Sees w vx x) (hx : x.length ≤ 1000000) (hi : i + 1 ≤ 1000000) :
    ∃ (a : Option Addr) (c : Nat) (w1 : World) (b : Option Addr) (d : Nat) (w3 : World),
      (∀ ty, (Builtin.append_ #[29, 29] ty #[.slice none 0 0, vx]).run Try.prog w = .ok (.slice a x.length c) w1) ∧
      (∀ ty, (Builtin.append_ #[23, 23] ty #[vb, .slice (some ⟨w1.heap.size, 0, none⟩) 1 1]).run Try.prog (w1.alloc (.cells #[.slice a x.length c] 29)) = .ok (.slice b (i + 1) d) w3) ∧
      MsAt w1 g4 k r vi vb ∧ MsAt w3 g4 k r vi vb ∧ Kp (fun g => B ≤ g) w (w3.setCell ⟨g4, 3, none⟩ (.slice b (i + 1) d)) ∧ Kp (fun _ => False) w w1 ∧
      RB (w3.setCell ⟨g4, 3, none⟩ (.slice b (i + 1) d)) B g4 k r vi (.slice b (i + 1) d) ids (i + 1) (rows ++ [x]) := by
  obtain ⟨us, ho, hel⟩ := h.own
  obtain ⟨v1, w1, hap1, o1, k1, _⟩ := run_append_by (B := w.heap.size) (l := []) (Nat.le_refl _) (.inl ⟨rfl, rfl⟩ : OwnB w w.heap.size (.slice none 0 0) []) hs (by simp; omega)
  have k1' : Kp (fun _ => False) w w1 := k1.mono (fun x _ e => by cases e)
  rw [List.nil_append] at o1
  obtain ⟨a, c, rfl⟩ := sees_form o1.sees
  have hm1 := h.ms.old k1'
  have k2 : Kp (fun _ => False) w1 (w1.alloc (.cells #[.slice a x.length c] 29)) := (Kp.refl _ _).alloc _
  have k12 := k1'.trans k2 (fun _ _ f => f)
  have ho2 := ho.kept k12 (fun _ _ f => f)
  have hrow := new_blk w1 (.cells #[.slice a x.length c] 29)
  have src : Src Try.prog 1 23 (.slice (some ⟨w1.heap.size, 0, none⟩) 1 1) 1 [.slice a x.length c] (w1.alloc (.cells #[.slice a x.length c] 29)) :=
    Src.ofSlice _ Try.underlying23 ⟨w1.heap.size, 0, none⟩ 1 1 [.slice a x.length c] rfl (fun j u hj => by
      rw [Addr.add_lit, Nat.zero_add, cell_blk hrow]; simpa using hj) (fun u hu => by rw [List.mem_singleton.1 hu]; exact slice_one _ _ _)
  obtain ⟨vb', w3, hap2, o3, k3, hfr⟩ := app_own Try.underlying23 infoRowZ rfl (Nat.le_trans hB k12.size) ho2 src (Nat.le_refl _) hi (by omega)
  obtain ⟨b, d, rfl⟩ := o3.form
  have hm3 := (hm1.old k2).kept k3 (fun e => h.ne e)
  have hset := set_blk hm3 3 (.slice b (i + 1) d)
  have ks : Kp (fun y => y = g4) w3 (w3.setCell ⟨g4, 3, none⟩ (.slice b (i + 1) d)) := Kp.setCell (F := fun y => y = g4) (Kp.refl _ w3) (p := ⟨g4, 3, none⟩) (fun _ => rfl) _
  have hg4 : g4 < w.heap.size := h.ms.lt
  have hvl := ho.lt
  have kall : Kp (fun g => B ≤ g) w (w3.setCell ⟨g4, 3, none⟩ (.slice b (i + 1) d)) :=
    ((k12.mono (F := fun g => B ≤ g) (fun _ _ f => f.elim)).trans k3 (fun x _ e => (hvl x e).1)).trans ks (fun x _ e => by have e' : x = g4 := e; have := h.base; omega)
  have hne' : (Value.slice b (i + 1) d).ownBlock ≠ some g4 := by
    rcases hfr with e | e
    · rw [e]; exact h.ne
    · intro e2; have := e g4 e2; have := k12.size; omega
  -- what was apart is apart still
  have hap' : ∀ g, g < w.heap.size → Apart B g4 vb g → Apart B g4 (.slice b (i + 1) d) g := fun g hg ⟨h1, h2, h3⟩ => ⟨h1, h2, by
    rcases hfr with e | e
    · rw [e]; exact h3
    · intro e2; have := e g e2; have := k12.size; omega⟩
  refine ⟨a, c, w1, b, d, w3, hap1, hap2, hm1, hm3, kall, k1', ⟨?_, ⟨us ++ [.slice a x.length c], ?_, ?_⟩, hne', ?_, by rw [List.length_append, h.len]; rfl, h.idl, h.base⟩⟩
  · unfold MsAt; rw [hset]; rfl
  · exact o3.kept ks (fun g hg e => hne' (by rw [hg]; exact congrArg some e))
  · intro j y hj
    rcases Nat.lt_or_ge j rows.length with hl | hl
    · rw [List.getElem?_append_left hl] at hj
      obtain ⟨u, g1, g2, g3⟩ := hel j y hj
      have hul : us.length = i := by rw [ho.1, Nat.mul_one]
      refine ⟨u, by rw [List.getElem?_append_left (by rw [hul, ← h.len]; exact hl)]; exact g1, ((g2.kept k12 (fun _ _ f => f)).kept k3 (fun g hg e => (g3 g hg).2.2 e)).kept ks (fun g hg e => (g3 g hg).2.1 e), fun g hg => hap' g (g2.lt g hg).2 (g3 g hg)⟩
    · rw [List.getElem?_append_right hl] at hj
      have hj0 : j - rows.length = 0 := by
        have := (List.getElem?_eq_some_iff.1 hj).1
        simp at this; omega
      rw [hj0] at hj
      cases hj
      have hul : us.length = i := by rw [ho.1, Nat.mul_one]
      have hgl : ∀ g, (Value.slice a x.length c).ownBlock = some g → w.heap.size ≤ g ∧ g < w1.heap.size := fun g hg => o1.lt g hg
      refine ⟨.slice a x.length c, by rw [List.getElem?_append_right (by rw [hul, ← h.len]; exact hl), hul, ← h.len, hj0]; rfl, ?_, fun g hg => ⟨by have := (hgl g hg).1; omega, by have := (hgl g hg).1; omega, ?_⟩⟩
      · have q1 := (o1.kept k2 (fun _ _ f => f)).kept k3 (fun g hg e => by have h1 := (hgl g hg).1; have h2 := (hvl g e).2; omega)
        have q2 := q1.kept ks (fun g hg e => by have h1 := (hgl g hg).1; have e' : g = g4 := e; omega)
        rcases q2 with q | ⟨g, cap, rest, q1, q2, q3⟩
        · exact .inl q
        · exact .inr ⟨g, cap, rest, q1, by omega, q3⟩
      · intro e2
        have h1 := hgl g hg
        rcases hfr with e | e
        · rw [e] at e2; have := (hvl g e2).2; omega
        · have h3 := e g e2
          have h4 : (w1.alloc (.cells #[.slice a x.length c] 29)).heap.size = w1.heap.size + 1 := World.size_alloc _ _
          omega
  · have q1 : SeesI (Apart B g4 vb) w1 vi ids := h.seesI.kept k1' (fun _ _ f => f)
    have q2 := ((q1.kept k2 (fun _ _ f => f)).kept k3 (fun g hg e => hg.2.2 e)).kept ks (fun g hg e => hg.2.1 e)
    -- their blocks are old
    rcases h.seesI with ⟨e1, e2⟩ | ⟨ad, cap, e1, e2, e3, e4, e5⟩
    · exact .inl ⟨e1, e2⟩
    · rcases q2 with q | ⟨ad', cap', q1, q2', q3, q4, q5⟩
      · exact .inl q
      · refine .inr ⟨ad', cap', q1, q2', q3, fun hne => ?_, q5⟩
        rw [e1] at q1
        injection q1 with q1a _ _
        injection q1a with q1b
        subst q1b
        have hlt : ad.block < w.heap.size := by
          obtain ⟨x0, r0, hx0⟩ := List.exists_cons_of_ne_nil hne
          have hl0 := h.idl x0 (by rw [hx0]; exact List.mem_cons_self ..)
          obtain ⟨y, hy⟩ : ∃ y, x0[0]? = some y := ⟨x0[0], by simp [hl0]⟩
          have := lt_of_cell (e5 0 x0 (by rw [hx0]; rfl) 0 y hy)
          rwa [add_block] at this
        exact hap' _ hlt (e4 hne)
/-- the message's slices, as they are seen -/
theorem RB.sees {w : World} {B g4 i : Nat} {k r : Int} {vi vb : Value} {ids rows : List (List Int)} (h : RB w B g4 k r vi vb ids i rows) : SeesM (fun g => B ≤ g ∧ g ≠ g4) w vi vb ⟨k, r, ids, rows⟩ := by
  obtain ⟨us, ho, hel⟩ := h.own
  refine ⟨?_, ?_⟩
  · rcases h.seesI with e | ⟨ad, cap, e1, e2, e3, e4, e5⟩
    · exact .inl e
    · exact .inr ⟨ad, cap, e1, e2, e3, fun hne => ⟨(e4 hne).1, (e4 hne).2.1⟩, e5⟩
  · obtain ⟨hl, ⟨rfl, rfl⟩ | ⟨g, cap, rest, rfl, h1, h2, h3, h4, h5⟩⟩ := ho
    · exact .inl ⟨rfl, List.eq_nil_of_length_eq_zero h.len⟩
    · have hne4 : g ≠ g4 := fun e => h.ne (by rw [e]; rfl)
      refine .inr ⟨⟨g, 0, none⟩, cap, by show _ = Value.slice _ rows.length _; rw [h.len], by show rows.length ≤ _; rw [h.len]; exact h4, h5, fun _ => ⟨h1, hne4⟩, fun j x hj => ?_⟩
      obtain ⟨u, g1, g2, g3⟩ := hel j x hj
      refine ⟨u, ?_, g2.sees, fun _ g' hg' => ⟨(g3 g' hg').1, (g3 g' hg').2.1⟩⟩
      rw [Addr.add_lit, Nat.zero_add, cell_blk h2, List.getElem?_toArray, List.getElem?_append_left (List.getElem?_eq_some_iff.1 g1).1]
      exact g1
end Go.Proofs.Ytleapcbkkggecaa
