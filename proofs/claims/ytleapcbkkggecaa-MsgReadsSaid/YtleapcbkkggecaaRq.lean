/-
  Messages: a message in the making: its names put one behind the other by append, as the document's Parse does it.
-/
import Derived.Test.YtleapcbkkggecaaRo
namespace Go.Proofs.Ytleapcbkkggecaa
open Go.ChangeShapes Go.WideShapes Go.ChangeAt Go.RowKit

structure NI (w : World) (B g4 : Nat) (k r : Int) (vi : Value) (i : Nat) (ids : List (List Int)) : Prop where
  ms : MsAt w g4 k r vi (.slice none 0 0)
  own : OwnG 37 32 w B vi i (U8s ids.flatten)
  ne : vi.ownBlock ≠ some g4
  idl : ∀ x ∈ ids, x.length = 32
  len : ids.length = i
  base : B ≤ g4
theorem list_cons' {n : Nat} {l : List Int} (h : l.length = n + 1) : ∃ x r, l = x :: r ∧ r.length = n := by
  cases l with
  | nil => cases h
  | cons x r => exact ⟨x, r, rfl, by simpa using h⟩
theorem mk1Id (x : List Int) (hx : x.length = 32) (w : World) :
    (Instr.buildSlice 22 1 #[(0, .agg (U8s x).toArray)]).run Try.prog w = .ok (.slice (some ⟨w.heap.size, 0, none⟩) 1 1) (w.alloc (.cells (U8s x).toArray 37)) := by
  obtain ⟨x0, xp0, rfl, xh0⟩ := list_cons' hx
  obtain ⟨x1, xp1, rfl, xh1⟩ := list_cons' xh0
  obtain ⟨x2, xp2, rfl, xh2⟩ := list_cons' xh1
  obtain ⟨x3, xp3, rfl, xh3⟩ := list_cons' xh2
  obtain ⟨x4, xp4, rfl, xh4⟩ := list_cons' xh3
  obtain ⟨x5, xp5, rfl, xh5⟩ := list_cons' xh4
  obtain ⟨x6, xp6, rfl, xh6⟩ := list_cons' xh5
  obtain ⟨x7, xp7, rfl, xh7⟩ := list_cons' xh6
  obtain ⟨x8, xp8, rfl, xh8⟩ := list_cons' xh7
  obtain ⟨x9, xp9, rfl, xh9⟩ := list_cons' xh8
  obtain ⟨x10, xp10, rfl, xh10⟩ := list_cons' xh9
  obtain ⟨x11, xp11, rfl, xh11⟩ := list_cons' xh10
  obtain ⟨x12, xp12, rfl, xh12⟩ := list_cons' xh11
  obtain ⟨x13, xp13, rfl, xh13⟩ := list_cons' xh12
  obtain ⟨x14, xp14, rfl, xh14⟩ := list_cons' xh13
  obtain ⟨x15, xp15, rfl, xh15⟩ := list_cons' xh14
  obtain ⟨x16, xp16, rfl, xh16⟩ := list_cons' xh15
  obtain ⟨x17, xp17, rfl, xh17⟩ := list_cons' xh16
  obtain ⟨x18, xp18, rfl, xh18⟩ := list_cons' xh17
  obtain ⟨x19, xp19, rfl, xh19⟩ := list_cons' xh18
  obtain ⟨x20, xp20, rfl, xh20⟩ := list_cons' xh19
  obtain ⟨x21, xp21, rfl, xh21⟩ := list_cons' xh20
  obtain ⟨x22, xp22, rfl, xh22⟩ := list_cons' xh21
  obtain ⟨x23, xp23, rfl, xh23⟩ := list_cons' xh22
  obtain ⟨x24, xp24, rfl, xh24⟩ := list_cons' xh23
  obtain ⟨x25, xp25, rfl, xh25⟩ := list_cons' xh24
  obtain ⟨x26, xp26, rfl, xh26⟩ := list_cons' xh25
  obtain ⟨x27, xp27, rfl, xh27⟩ := list_cons' xh26
  obtain ⟨x28, xp28, rfl, xh28⟩ := list_cons' xh27
  obtain ⟨x29, xp29, rfl, xh29⟩ := list_cons' xh28
  obtain ⟨x30, xp30, rfl, xh30⟩ := list_cons' xh29
  obtain ⟨x31, xp31, rfl, xh31⟩ := list_cons' xh30
  obtain rfl := List.eq_nil_of_length_eq_zero xh31
  kernel_rfl
theorem NI.step {w : World} {B g4 i : Nat} {k r : Int} {vi : Value} {ids : List (List Int)} {x : List Int} (h : NI w B g4 k r vi i ids) (hB : B ≤ w.heap.size) (hx : x.length = 32) (hi : i + 1 ≤ 1000000) :
    ∃ (b : Option Addr) (d : Nat) (w3 : World),
      (∀ ty, (Builtin.append_ #[22, 22] ty #[vi, .slice (some ⟨w.heap.size, 0, none⟩) 1 1]).run Try.prog (w.alloc (.cells (U8s x).toArray 37)) = .ok (.slice b (i + 1) d) w3) ∧
      MsAt w3 g4 k r vi (.slice none 0 0) ∧ Kp (fun g => B ≤ g) w (w3.setCell ⟨g4, 2, none⟩ (.slice b (i + 1) d)) ∧
      NI (w3.setCell ⟨g4, 2, none⟩ (.slice b (i + 1) d)) B g4 k r (.slice b (i + 1) d) (i + 1) (ids ++ [x]) := by
  have k2 : Kp (fun _ => False) w (w.alloc (.cells (U8s x).toArray 37)) := (Kp.refl _ _).alloc _
  have ho2 := h.own.kept k2 (fun _ _ f => f)
  have hrow := new_blk w (.cells (U8s x).toArray 37)
  have src : Src Try.prog 32 22 (.slice (some ⟨w.heap.size, 0, none⟩) 1 1) 1 (U8s x) (w.alloc (.cells (U8s x).toArray 37)) :=
    Src.ofSlice _ Try.underlying22 ⟨w.heap.size, 0, none⟩ 1 1 (U8s x) (by rw [U8s_length, hx]) (fun j u hj => by
      rw [Addr.add_lit, Nat.zero_add, cell_blk hrow, List.getElem?_toArray]; exact hj) (U8s_one x)
  obtain ⟨vi', w3, hap2, o3, k3, hfr⟩ := app_own Try.underlying22 infoIdZ (by show (U8s (List.replicate 32 0)).toArray.size = 32; simp [U8s]) (Nat.le_trans hB k2.size) ho2 src (Nat.le_refl _) hi (by omega)
  obtain ⟨b, d, rfl⟩ := o3.form
  have hm3 := (h.ms.old k2).kept k3 (fun e => h.ne e)
  have hset := set_blk hm3 2 (.slice b (i + 1) d)
  have ks : Kp (fun y => y = g4) w3 (w3.setCell ⟨g4, 2, none⟩ (.slice b (i + 1) d)) := Kp.setCell (F := fun y => y = g4) (Kp.refl _ w3) (p := ⟨g4, 2, none⟩) (fun _ => rfl) _
  have hg4 : g4 < w.heap.size := h.ms.lt
  have hvl := h.own.lt
  have hne' : (Value.slice b (i + 1) d).ownBlock ≠ some g4 := by
    rcases hfr with e | e
    · rw [e]; exact h.ne
    · intro e2; have := e g4 e2; have := k2.size; omega
  refine ⟨b, d, w3, hap2, hm3, ((k2.mono (F := fun g => B ≤ g) (fun _ _ f => f.elim)).trans k3 (fun x _ e => (hvl x e).1)).trans ks (fun x _ e => by have e' : x = g4 := e; have := h.base; omega), ⟨?_, ?_, hne', ?_, by rw [List.length_append, h.len]; rfl, h.base⟩⟩
  · unfold MsAt; rw [hset]; rfl
  · have := o3.kept ks (fun g hg e => hne' (by rw [hg]; exact congrArg some e))
    rw [← U8s_append] at this
    rw [List.flatten_append, List.flatten_cons, List.flatten_nil, List.append_nil]
    exact this
  · intro y hy
    rcases List.mem_append.1 hy with h1 | h1
    · exact h.idl y h1
    · rw [List.mem_singleton.1 h1]; exact hx
theorem NI.sees {w : World} {B g4 i : Nat} {k r : Int} {vi : Value} {ids : List (List Int)} (h : NI w B g4 k r vi i ids) : SeesM (fun g => B ≤ g ∧ g ≠ g4) w vi (.slice none 0 0) ⟨k, r, ids, []⟩ := by
  refine ⟨?_, .inl ⟨rfl, rfl⟩⟩
  have hl := h.len
  obtain ⟨_, ⟨e1, e2⟩ | ⟨g, cap, rest, e1, h1, h2, h3, h4, h5⟩⟩ := h.own
  · exact .inl ⟨e1, List.eq_nil_of_length_eq_zero (by show ids.length = 0; omega)⟩
  · have hne4 : g ≠ g4 := fun e => h.ne (by rw [e1, e]; rfl)
    refine .inr ⟨⟨g, 0, none⟩, cap, by show vi = Value.slice _ ids.length _; rw [hl]; exact e1, by show ids.length ≤ _; omega, h5, fun _ => ⟨h1, hne4⟩, fun j x hj m u hm => ?_⟩
    have hf := flat_at h.idl hj hm
    rw [Addr.add_lit, Nat.zero_add, cell_blk h2, List.getElem?_toArray, List.getElem?_append_left (by rw [U8s_length]; exact (List.getElem?_eq_some_iff.1 hf).1)]
    exact U8s_get hf
end Go.Proofs.Ytleapcbkkggecaa
