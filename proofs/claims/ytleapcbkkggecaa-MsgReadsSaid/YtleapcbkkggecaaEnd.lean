/-
  Contract of package sha's end: what comes behind the last byte.
-/
import Derived.Test.YtleapcbkkggecaaTake
namespace Go.Proofs.Ytleapcbkkggecaa
open Go.ChangeShapes Go.WideShapes Go.ChangeAt Go.RowKit

theorem be8 (v : Int) (h0 : 0 ≤ v) (h1 : v < 18446744073709551616) : be 8 v = w4 (v / 4294967296) ++ w4 (v % 4294967296) := by
  simp only [be, w4, List.cons_append, List.nil_append]
  refine List.cons_eq_cons.2 ⟨?_, List.cons_eq_cons.2 ⟨?_, List.cons_eq_cons.2 ⟨?_, List.cons_eq_cons.2 ⟨?_, List.cons_eq_cons.2 ⟨?_, List.cons_eq_cons.2 ⟨?_, List.cons_eq_cons.2 ⟨?_, List.cons_eq_cons.2 ⟨?_, rfl⟩⟩⟩⟩⟩⟩⟩⟩ <;> omega

def tl : List Int := 128 :: List.replicate 71 0
def tail0 : List Value := U8s tl
/-- the first n + 8 bytes of the tail are what stands behind -/
theorem tail_is (B n : Nat) (hn : n = gap B + 1) (hB : B ≤ 100000) : (put4 (put4 tl n ((B : Int) * 8 / 4294967296)) (n + 4) ((B : Int) * 8)).take (n + 8) = behind B := by
  have hg : gap B < 64 := by unfold gap; omega
  have e1 : (put4 tl n ((B : Int) * 8 / 4294967296)).take (n + 4) = tl.take n ++ w4 ((B : Int) * 8 / 4294967296) := by
    unfold put4
    rw [List.take_append_of_le_length (by simp [w4, tl]; omega), List.take_of_length_le (by simp [w4, tl]; omega)]
  have e2 : tl.take n = 128 :: List.replicate (gap B) 0 := by
    subst hn
    unfold tl
    rw [List.take_succ_cons, List.take_replicate, Nat.min_eq_left (by omega)]
  rw [put4, e1, e2, List.take_append_of_le_length (by simp [w4]; omega), List.take_of_length_le (by simp [w4]; omega), behind, be8 _ (by omega) (by omega), show (B : Int) * 8 % 4294967296 = (B : Int) * 8 by omega]
  simp
theorem tail_sees {w : World} {g t : Nat} (B n : Nat) (hn : n = gap B + 1) (hB : B ≤ 100000) (h : w.heap[g]? = some (.cells (U8s (put4 (put4 tl n ((B : Int) * 8 / 4294967296)) (n + 4) ((B : Int) * 8))).toArray t (0, 0))) :
    Sees w (.slice (some ⟨g, 0, none⟩) (n + 8) 72) (behind B) := by
  have hl : (behind B).length = n + 8 := by simp [behind, be_length]; omega
  have hg : gap B < 64 := by unfold gap; omega
  rw [← hl]
  refine Sees.mk (by omega) (by unfold maxLen; omega) (fun i x hx => ?_)
  rw [Nat.zero_add, cell_blk h, List.getElem?_toArray]
  refine U8s_get ?_
  rw [← tail_is B n hn hB] at hx
  rw [List.getElem?_take] at hx
  split at hx
  · exact hx
  · cases hx
def zero72 : List Value := U8s (List.replicate 72 0)
/-- a part of an array of one's own, from l on, and up to h -/
theorem slice_from0 {t e : TypeId} {n : Nat} (hu : Try.prog.underlying t = some (.array n e)) (hq : (Try.prog.info? e).map (·.size) = some 1) (g l : Nat) (L : Int) (hL : L = l) (hl : l < n) (w : World) :
    (Instr.sliceAt t (.pointer (some ⟨g, 0, none⟩)) (some (.int .i64 L)) none none).run Try.prog w = .ok (.slice (some ⟨g, l, none⟩) (n - l) (n - l)) w := by
  have := slice_from hu hq g 0 l L hL hl w
  rw [Nat.zero_add] at this
  exact this
theorem slice_to {t e : TypeId} {n : Nat} (hu : Try.prog.underlying t = some (.array n e)) (hq : (Try.prog.info? e).map (·.size) = some 1) (g h : Nat) (L : Int) (hL : L = h) (hl : h ≤ n) (h0 : 0 < n) (w : World) :
    (Instr.sliceAt t (.pointer (some ⟨g, 0, none⟩)) none (some (.int .i64 L)) none).run Try.prog w = .ok (.slice (some ⟨g, 0, none⟩) h n) w := by
  subst hL
  obtain ⟨i, hi, hs⟩ := Option.map_eq_some_iff.1 hq
  have he : Try.prog.elem t = e := by simp [Program.elem, hu]
  have ha : Try.prog.arrayLen t = n := by simp [Program.arrayLen, hu]
  rw [run_sliceAt_array_h w t ⟨g, 0, none⟩ (by rw [ha, hu, he]) .i64 h (by omega) (by omega), he, ha]
  simp [sizeOf, typeInfo, hi, hs, slicedAt, Nat.ne_of_gt h0, Addr.add_mid]
theorem gap_eq (B : Nat) : 64 - ((B : Int) + 8) % 64 = ((gap B + 1 : Nat) : Int) ∧ gap B + 1 ≤ 64 := by
  unfold gap; omega
end Go.Proofs.Ytleapcbkkggecaa
