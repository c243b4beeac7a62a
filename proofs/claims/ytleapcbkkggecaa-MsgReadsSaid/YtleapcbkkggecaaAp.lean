/-
  A slice of bytes of one's own, appended to; slices.Clone and bytes.Clone of bytes.
-/
import Derived.Test.YtleapcbkkggecaaRows
import Derived.Test.YtleapcbkkggecaaMem
import Derived.WalkKit
import Derived.ProofKit
import Derived.Outline
import Derived.Lib.Hide
import Derived.Lib.AppendZerosOnto
import Derived.Deep.AppendSrc
import Derived.WalkLawsBesides
import Derived.WalkSpells
import Derived.Deep.DeepMust
import Derived.Deep.RegionLaw
import Derived.Lib.AppendZeros
import Derived.BigFrame
namespace Go.Proofs.Ytleapcbkkggecaa
open Go.ChangeShapes Go.WideShapes Go.ChangeAt Go.RowKit

/-- an append whose run is known, as a step of a region that draws its order -/
theorem step_append_run {P : Program} {ops : Array Oper} {o : Oper} {a : Act} {w : World} {K : Act → World → Prop} {Q : Exit → Act → World → Prop} {E : Prop} (hg : o.guard = none) (s x : Operand) (t tn : TypeId)
    (ho : o.op = .call { callee := .builtin .append, args := #[s, x], argTypes := #[t, tn] }) (vs vx : Value) (hs : a.eval s = vs) (hx : a.eval x = vx) (v' : Value) (w' : World)
    (hr : (Builtin.append_ #[t, tn] o.type #[vs, vx]).run P w = .ok v' w') (h : K (a.put o.dst v') w') : if Region.wanted o (yielded ops a.tmps) = true then Oper.wp P o a w K Q else E := by
  rw [if_pos (by simp [Region.wanted, hg])]
  exact Lib.wp_append_run w s x t tn ho vs vx hs hx v' w' hr h
/-- the same, where the operation's guard says yes -/
theorem wpList_append_want {P : Program} (w : World) {ops : Array Oper} {rest : List Oper} {o : Oper} {a : Act} {Q : Exit → Act → World → Prop} (hw : Region.wanted o (yielded ops a.tmps) = true) (s x : Operand) (t tn : TypeId)
    (ho : o.op = .call { callee := .builtin .append, args := #[s, x], argTypes := #[t, tn] }) (vs vx : Value) (hs : a.eval s = vs) (hx : a.eval x = vx)
    (v' : Value) (w' : World) (hr : (Builtin.append_ #[t, tn] o.type #[vs, vx]).run P w = .ok v' w') (h : wpList P ops Q rest (a.put o.dst v') w') : wpList P ops Q (o :: rest) a w :=
  BigFrame.wpList_want hw fun _ hK => Lib.wp_append_run w s x t tn ho vs vx hs hx v' w' hr (hK _ _ h)
theorem byteInfo : (Try.prog.info? 5).map (fun i => (i.zero, i.size, i.bytes)) = some (some (.int .u8 0), 1, 1) := by kernel_rfl
/-- a slice that owns its row: these bytes, then anything up to the capacity -/
def OwnB (w : World) (B : Nat) (v : Value) (l : List Int) : Prop :=
  (v = .slice none 0 0 ∧ l = []) ∨
  ∃ g cap rest, v = .slice (some ⟨g, 0, none⟩) l.length cap ∧ B ≤ g ∧ w.heap[g]? = some (.cells (U8s l ++ rest).toArray 5 (0, 0)) ∧ (U8s l ++ rest).length = cap ∧ cap ≤ maxLen
theorem OwnB.kept {F : Nat → Prop} {w w' : World} {B : Nat} {v : Value} {l : List Int} (h : OwnB w B v l) (k : Kp F w w') (hF : ∀ g, v.ownBlock = some g → ¬ F g) : OwnB w' B v l := by
  rcases h with h | ⟨g, cap, rest, rfl, h1, h2, h3, h4⟩
  · exact .inl h
  · exact .inr ⟨g, cap, rest, rfl, h1, kept_blk h2 k (hF g rfl), h3, h4⟩
theorem OwnB.lt {w : World} {B : Nat} {v : Value} {l : List Int} (h : OwnB w B v l) : ∀ g, v.ownBlock = some g → B ≤ g ∧ g < w.heap.size := by
  rcases h with ⟨rfl, _⟩ | ⟨g, cap, rest, rfl, h1, h2, h3, h4⟩
  · intro g hg; cases hg
  · intro x hx; cases hx; exact ⟨h1, lt_of_blk h2⟩
theorem OwnB.sees {w : World} {B : Nat} {v : Value} {l : List Int} (h : OwnB w B v l) : Sees w v l := by
  rcases h with h | ⟨g, cap, rest, rfl, h1, h2, h3, h4⟩
  · exact .inl h
  · refine Sees.mk ?_ h4 (fun i x hi => ?_)
    · rw [List.length_append, U8s_length] at h3; omega
    · rw [Nat.zero_add, cell_blk h2, List.getElem?_toArray, List.getElem?_append_left (by rw [U8s_length]; exact (List.getElem?_eq_some_iff.1 hi).1), U8s_get hi]

/-- new bytes, in a row of their own (or none at all) -/
def NewB (w : World) (l : List Int) (e : Ending) (w' : World) : Prop := ∃ v', e = .returned v' ∧ OwnB w' w.heap.size v' l ∧ Kp (fun _ => False) w w'

theorem run_append_new {w : World} {v : Value} {l : List Int} (hs : Sees w v l) (hn : 1 ≤ l.length) (hx : l.length ≤ 1000000000) (base : Option Addr) :
    ∃ G rest w', (∀ ty, (Builtin.append_ #[29, 29] ty #[.slice base 0 0, v]).run Try.prog w = .ok (.slice (some ⟨w.heap.size, 0, none⟩) l.length G) w') ∧ w'.heap[w.heap.size]? = some (.cells (U8s l ++ rest).toArray 5 (0, 0)) ∧ (U8s l ++ rest).length = G ∧ G ≤ maxLen ∧ Kp (fun _ => False) w w' := by
  obtain ⟨i0, hi0, hz0, hs0, hb0⟩ := info_parts byteInfo
  rcases hs with ⟨_, rfl⟩ | ⟨ad, cap, rfl, h1, h2, hc⟩
  · simp at hn
  · have src : Src Try.prog i0.size 29 (.slice (some ad) l.length cap) l.length (U8s l) w :=
      Src.ofSlice w Try.underlying29 ad l.length cap (U8s l) (by rw [hs0, U8s_length, Nat.mul_one]) (fun j u hj => by
        obtain ⟨x, hx, rfl⟩ := U8s_inv hj
        exact hc j x hx) (U8s_one l)
    have hold : (Builtin.firstCells i0.size 0 (.slice base 0 0)).run Try.prog w.drew = .ok ([] : List Value).toArray w.drew := by
      cases base with
      | none => exact run_firstCells_none w.drew i0.size 0 0 0
      | some a => exact run_firstCells_some w.drew i0.size 0 a 0 0 [] (by simp) (by simp)
    have h := fun ty => run_append_grow_src (P := Try.prog) w 29 29 ty 5 i0 (.int .u8 0) Try.underlying29 hi0 hz0 base 0 0 [] hold _ l.length (U8s l) src (by omega) (by omega) (growslice_fits (by omega) (by rw [hb0]; omega))
    simp only [Nat.zero_add] at h
    have hG := grownCap_ge w l.length 0 5
    have hz1 : (Value.int .u8 0).cells.size = 1 := rfl
    refine ⟨grownCap w l.length 0 5, (Builtin.zeroCells (Value.int .u8 0).cells (grownCap w l.length 0 5 - l.length)).toList, _, h, ?_, ?_, grownCap_le_maxLen w _ _ _ (by unfold maxLen; omega), (Kp.refl _ _).drew.alloc _⟩
    · refine (new_blk w.drew _).trans ?_
      congr 2
      apply Array.ext'; simp
    · simp [size_zeroCells, hz1, U8s_length]; omega

theorem run_append_none {w : World} {v : Value} (hs : Sees w v []) (base : Option Addr) (ty : TypeId) :
    (Builtin.append_ #[29, 29] ty #[.slice base 0 0, v]).run Try.prog w = .ok (.slice base 0 0) w := by
  have hsz : ∀ w, (sizeOf 5).run Try.prog w = .ok 1 w := fun w => by kernel_rfl
  have hu : ∀ w, (underlying 29).run Try.prog w = .ok (.slice 5) w := run_underlying Try.underlying29
  have hl : ∀ (x : Addr), (loadCells x 0).run Try.prog w = .ok #[] w := fun x => by simpa using run_loadCells_list (P := Try.prog) w x [] (by simp)
  rcases hs with ⟨rfl, _⟩ | ⟨ad, cap, rfl, _⟩ <;> cases base <;> simp [Builtin.append_, hu, hsz, Builtin.lenOf, Builtin.firstCells, hl, storeCells]

theorem run_append_by {w : World} {B : Nat} {v b : Value} {l xs : List Int} (hB : B ≤ w.heap.size) (h : OwnB w B v l) (hs : Sees w b xs) (hx : l.length + xs.length ≤ 1000000000) :
    ∃ v' w', (∀ ty, (Builtin.append_ #[29, 29] ty #[v, b]).run Try.prog w = .ok v' w') ∧ OwnB w' B v' (l ++ xs) ∧ Kp (fun k => v.ownBlock = some k) w w' ∧ (v'.ownBlock = v.ownBlock ∨ ∀ g, v'.ownBlock = some g → w.heap.size ≤ g) := by
  obtain ⟨i0, hi0, hz0, hs0, hb0⟩ := info_parts byteInfo
  have hsrc : ∃ bx n, b = bx ∧ n = xs.length ∧ Src Try.prog i0.size 29 b n (U8s xs) w := by
    rcases hs with ⟨rfl, rfl⟩ | ⟨ad, cap, rfl, h1, h2, hc⟩
    · exact ⟨_, 0, rfl, rfl, Src.ofNil w Try.underlying29 0⟩
    · exact ⟨_, xs.length, rfl, rfl, Src.ofSlice w Try.underlying29 ad xs.length cap (U8s xs) (by rw [hs0, U8s_length, Nat.mul_one]) (fun j u hj => by
        obtain ⟨x, hx, rfl⟩ := U8s_inv hj
        exact hc j x hx) (U8s_one xs)⟩
  obtain ⟨_, _, rfl, rfl, src⟩ := hsrc
  have hz1 : (Value.int .u8 0).cells.size = 1 := rfl
  rcases h with ⟨rfl, rfl⟩ | ⟨g, cap, rest, rfl, h1, h2, h3, h4⟩
  · by_cases hn : xs.length = 0
    · obtain rfl : xs = [] := List.eq_nil_of_length_eq_zero hn
      exact ⟨.slice none 0 0, w, run_append_none hs none, .inl ⟨rfl, rfl⟩, Kp.refl _ _, .inl rfl⟩
    · obtain ⟨G, rest, w2, hap, h2, h3, h4, k2⟩ := run_append_new hs (by omega) (by omega) none
      exact ⟨_, w2, hap, .inr ⟨_, G, rest, by simp, hB, by simpa using h2, by simpa using h3, h4⟩, k2.mono (fun _ _ f => f.elim), .inr (fun y e => by cases e; exact Nat.le_refl _)⟩
  · have hlen : l.length + rest.length = cap := by rw [← h3]; simp [U8s_length]
    by_cases hroom : l.length + xs.length ≤ cap
    · have hrest : rest = rest.take xs.length ++ rest.drop xs.length := (List.take_append_drop _ _).symm
      have hl3 : (rest.take xs.length).length = (U8s xs).length := by rw [List.length_take, U8s_length]; omega
      have hblk : w.heap[g]? = some (.cells (U8s l ++ rest.take xs.length ++ rest.drop xs.length).toArray 5 (0, 0)) := by rw [h2, List.append_assoc, List.take_append_drop]
      obtain ⟨s1, s2, _⟩ := setCells_blk g 5 (U8s xs) (U8s l) (rest.take xs.length) (rest.drop xs.length) w hblk hl3
      have hrun := fun ty => run_append_room_src (P := Try.prog) w 29 29 ty 5 i0 Try.underlying29 hi0 g 0 l.length cap b xs.length (U8s xs) src hroom
        (fun j hj => by
          rw [U8s_length] at hj
          rw [hs0, Nat.zero_add, Nat.mul_one, cell_blk h2, List.getElem?_toArray, List.getElem?_eq_getElem (by rw [List.length_append, U8s_length]; omega)]; rfl)
        (fun j hj => free_blk h2 _)
      rw [hs0, Nat.zero_add, Nat.mul_one] at hrun
      rw [U8s_length] at s1 s2
      refine ⟨_, _, hrun, .inr ⟨g, cap, rest.drop xs.length, by rw [List.length_append], h1, by rw [U8s_append]; exact s1, ?_, h4⟩, s2.mono (fun x _ e => by rw [e]; rfl), .inl rfl⟩
      rw [List.length_append, U8s_length, List.length_append, List.length_drop]; omega
    · have hold : (Builtin.firstCells i0.size l.length (.slice (some ⟨g, 0, none⟩) l.length cap)).run Try.prog w.drew = .ok (U8s l).toArray w.drew :=
        run_firstCells_some w.drew i0.size l.length ⟨g, 0, none⟩ l.length cap (U8s l) (by rw [hs0, U8s_length, Nat.mul_one]) (fun j u hj => by
          rw [Addr.add_lit, World.cell?_drew, cell_blk h2, Nat.zero_add, List.getElem?_toArray, List.getElem?_append_left (by rw [U8s_length]; rw [← U8s_length l]; exact (List.getElem?_eq_some_iff.1 hj).1)]; exact hj)
      have hrun := fun ty => run_append_grow_src (P := Try.prog) w 29 29 ty 5 i0 (.int .u8 0) Try.underlying29 hi0 hz0 (some ⟨g, 0, none⟩) l.length cap (U8s l) hold b xs.length (U8s xs) src (by omega) (by omega) (growslice_fits (by omega) (by rw [hb0]; omega))
      refine ⟨_, _, hrun, .inr ⟨w.heap.size, grownCap w (l.length + xs.length) cap 5, (Builtin.zeroCells (Value.int .u8 0).cells (grownCap w (l.length + xs.length) cap 5 - (l.length + xs.length))).toList, by rw [List.length_append], hB, ?_, ?_, grownCap_le_maxLen w _ _ _ (by unfold maxLen; omega)⟩, ((Kp.refl _ _).drew.alloc _), .inr (fun y e => by cases e; exact Nat.le_refl _)⟩
      · refine (new_blk w.drew _).trans ?_
        congr 2
        apply Array.ext'; simp [U8s]
      · have hG := grownCap_ge w (l.length + xs.length) cap 5
        simp [size_zeroCells, hz1, U8s_length]; omega

end Go.Proofs.Ytleapcbkkggecaa
