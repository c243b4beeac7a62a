/-
  Plain facts on blocks' bytes: there and back; unlike blocks have unlike bytes.
-/
import Derived.Test.YtoognhbdgdfkoaaDoorBpp
namespace Go.Proofs.YtoognhbdgdfkoaaDoor
open Go.RowKit

theorem pB_bbytes {a : Blk} (ha : a.wf) (h : bchk a = 0) : pOk (bbytes a) ∧ pB (bbytes a) = a := by
  have hl := bbytes_length ha.nm.len
  have hp := ha.nm.len
  have h0 := bchk_pos h
  have hh := ha.hi
  have e0 : bbytes a = [0, 0] ++ (a.p ++ (be 8 a.h ++ (be 4 a.d.length ++ a.d))) := by unfold bbytes; simp only [List.append_assoc]
  have d2 : (bbytes a).drop 2 = a.p ++ (be 8 a.h ++ (be 4 a.d.length ++ a.d)) := by rw [e0]; exact List.drop_left' rfl
  have d34 : (bbytes a).drop 34 = be 8 a.h ++ (be 4 a.d.length ++ a.d) := by
    have : (bbytes a).drop 34 = ((bbytes a).drop 2).drop 32 := by rw [List.drop_drop]
    rw [this, d2]; exact List.drop_left' hp
  have d46 : (bbytes a).drop 46 = a.d := by
    have : (bbytes a).drop 46 = (((bbytes a).drop 34).drop 8).drop 4 := by rw [List.drop_drop, List.drop_drop]
    rw [this, d34, List.drop_left' (be_length _ _), List.drop_left' (be_length _ _)]
  have hB : pB (bbytes a) = a := by
    unfold pB
    rw [d46, d34, d2, List.take_left' hp, List.take_left' (be_length _ _), val_be 8 _ h0, show (256 : Int) ^ 8 = 18446744073709551616 by decide]
    have : wrap64 (a.h % 18446744073709551616) = a.h := by unfold wrap64; omega
    rw [this]
  exact ⟨⟨by omega, by rw [hB]; exact h, by rw [hB]⟩, hB⟩
theorem bbytes_inj {a b : Blk} (ha : a.wf) (hb : b.wf) (h1 : bchk a = 0) (h2 : bchk b = 0) : bbytes a = bbytes b ↔ a = b :=
  ⟨fun h => by rw [← (pB_bbytes ha h1).2, ← (pB_bbytes hb h2).2, h], fun h => by rw [h]⟩
theorem pE_cases (l : List Int) : (pE l = 0 ∧ bchk (pB l) = 0 ∧ bbytes (pB l) = l ∧ 46 ≤ l.length) ∨ pE l = 30 := by
  unfold pE
  by_cases h : pOk l
  · left; rw [if_pos h]; exact ⟨rfl, h.2.1, h.2.2, h.1⟩
  · right; rw [if_neg h]
end Go.Proofs.YtoognhbdgdfkoaaDoor
