/-
  Contract of package sha's Hex: a name's text.
-/
import Derived.Test.YtoognhbdgdfkoaaDoorNm
namespace Go.Proofs.YtoognhbdgdfkoaaDoor
open Go.ChangeShapes Go.WideShapes Go.ChangeAt Go.RowKit

/-- a digit to the base 16 -/
def dg (n : Int) : Int := if n < 10 then 48 + n else 87 + n
/-- the digits of bytes -/
def hexI (xs : List Int) : List Int := xs.flatMap fun b => [dg (b / 16), dg (b % 16)]
theorem hexI_length (xs : List Int) : (hexI xs).length = 2 * xs.length := by
  induction xs with
  | nil => rfl
  | cons x r ih => simp only [hexI, List.flatMap_cons, List.length_append, List.length_cons, List.length_nil] at ih ⊢; omega
theorem hexI_append (xs ys : List Int) : hexI (xs ++ ys) = hexI xs ++ hexI ys := by simp [hexI]
theorem dg_rng (n : Int) (h0 : 0 ≤ n) (h1 : n < 16) : 48 ≤ dg n ∧ dg n ≤ 102 := by unfold dg; split <;> omega
theorem hexI_rng {xs : List Int} (h : Rng xs) : Rng (hexI xs) := by
  intro x hx
  obtain ⟨b, hb, hx⟩ := List.mem_flatMap.1 hx
  have := h b hb
  simp only [List.mem_cons, List.not_mem_nil, or_false] at hx
  rcases hx with rfl | rfl
  · have := dg_rng (b / 16) (by omega) (by omega); omega
  · have := dg_rng (b % 16) (by omega) (by omega); omega
def digs : ByteArray := ⟨#[48, 49, 50, 51, 52, 53, 54, 55, 56, 57, 97, 98, 99, 100, 101, 102]⟩
theorem digs_0 (w : World) : (Instr.index 9 (.string ⟨#[48, 49, 50, 51, 52, 53, 54, 55, 56, 57, 97, 98, 99, 100, 101, 102]⟩) (.int .u8 0)).run Tryd.prog w = .ok (.int .u8 (dg 0)) w := by kernel_rfl
theorem digs_1 (w : World) : (Instr.index 9 (.string ⟨#[48, 49, 50, 51, 52, 53, 54, 55, 56, 57, 97, 98, 99, 100, 101, 102]⟩) (.int .u8 1)).run Tryd.prog w = .ok (.int .u8 (dg 1)) w := by kernel_rfl
theorem digs_2 (w : World) : (Instr.index 9 (.string ⟨#[48, 49, 50, 51, 52, 53, 54, 55, 56, 57, 97, 98, 99, 100, 101, 102]⟩) (.int .u8 2)).run Tryd.prog w = .ok (.int .u8 (dg 2)) w := by kernel_rfl
theorem digs_3 (w : World) : (Instr.index 9 (.string ⟨#[48, 49, 50, 51, 52, 53, 54, 55, 56, 57, 97, 98, 99, 100, 101, 102]⟩) (.int .u8 3)).run Tryd.prog w = .ok (.int .u8 (dg 3)) w := by kernel_rfl
theorem digs_4 (w : World) : (Instr.index 9 (.string ⟨#[48, 49, 50, 51, 52, 53, 54, 55, 56, 57, 97, 98, 99, 100, 101, 102]⟩) (.int .u8 4)).run Tryd.prog w = .ok (.int .u8 (dg 4)) w := by kernel_rfl
theorem digs_5 (w : World) : (Instr.index 9 (.string ⟨#[48, 49, 50, 51, 52, 53, 54, 55, 56, 57, 97, 98, 99, 100, 101, 102]⟩) (.int .u8 5)).run Tryd.prog w = .ok (.int .u8 (dg 5)) w := by kernel_rfl
theorem digs_6 (w : World) : (Instr.index 9 (.string ⟨#[48, 49, 50, 51, 52, 53, 54, 55, 56, 57, 97, 98, 99, 100, 101, 102]⟩) (.int .u8 6)).run Tryd.prog w = .ok (.int .u8 (dg 6)) w := by kernel_rfl
theorem digs_7 (w : World) : (Instr.index 9 (.string ⟨#[48, 49, 50, 51, 52, 53, 54, 55, 56, 57, 97, 98, 99, 100, 101, 102]⟩) (.int .u8 7)).run Tryd.prog w = .ok (.int .u8 (dg 7)) w := by kernel_rfl
theorem digs_8 (w : World) : (Instr.index 9 (.string ⟨#[48, 49, 50, 51, 52, 53, 54, 55, 56, 57, 97, 98, 99, 100, 101, 102]⟩) (.int .u8 8)).run Tryd.prog w = .ok (.int .u8 (dg 8)) w := by kernel_rfl
theorem digs_9 (w : World) : (Instr.index 9 (.string ⟨#[48, 49, 50, 51, 52, 53, 54, 55, 56, 57, 97, 98, 99, 100, 101, 102]⟩) (.int .u8 9)).run Tryd.prog w = .ok (.int .u8 (dg 9)) w := by kernel_rfl
theorem digs_10 (w : World) : (Instr.index 9 (.string ⟨#[48, 49, 50, 51, 52, 53, 54, 55, 56, 57, 97, 98, 99, 100, 101, 102]⟩) (.int .u8 10)).run Tryd.prog w = .ok (.int .u8 (dg 10)) w := by kernel_rfl
theorem digs_11 (w : World) : (Instr.index 9 (.string ⟨#[48, 49, 50, 51, 52, 53, 54, 55, 56, 57, 97, 98, 99, 100, 101, 102]⟩) (.int .u8 11)).run Tryd.prog w = .ok (.int .u8 (dg 11)) w := by kernel_rfl
theorem digs_12 (w : World) : (Instr.index 9 (.string ⟨#[48, 49, 50, 51, 52, 53, 54, 55, 56, 57, 97, 98, 99, 100, 101, 102]⟩) (.int .u8 12)).run Tryd.prog w = .ok (.int .u8 (dg 12)) w := by kernel_rfl
theorem digs_13 (w : World) : (Instr.index 9 (.string ⟨#[48, 49, 50, 51, 52, 53, 54, 55, 56, 57, 97, 98, 99, 100, 101, 102]⟩) (.int .u8 13)).run Tryd.prog w = .ok (.int .u8 (dg 13)) w := by kernel_rfl
theorem digs_14 (w : World) : (Instr.index 9 (.string ⟨#[48, 49, 50, 51, 52, 53, 54, 55, 56, 57, 97, 98, 99, 100, 101, 102]⟩) (.int .u8 14)).run Tryd.prog w = .ok (.int .u8 (dg 14)) w := by kernel_rfl
theorem digs_15 (w : World) : (Instr.index 9 (.string ⟨#[48, 49, 50, 51, 52, 53, 54, 55, 56, 57, 97, 98, 99, 100, 101, 102]⟩) (.int .u8 15)).run Tryd.prog w = .ok (.int .u8 (dg 15)) w := by kernel_rfl
theorem digs_at (n : Int) (h0 : 0 ≤ n) (h1 : n < 16) (w : World) : (Instr.index 9 (.string ⟨#[48, 49, 50, 51, 52, 53, 54, 55, 56, 57, 97, 98, 99, 100, 101, 102]⟩) (.int .u8 n)).run Tryd.prog w = .ok (.int .u8 (dg n)) w := by
  have h : n = 0 ∨ n = 1 ∨ n = 2 ∨ n = 3 ∨ n = 4 ∨ n = 5 ∨ n = 6 ∨ n = 7 ∨ n = 8 ∨ n = 9 ∨ n = 10 ∨ n = 11 ∨ n = 12 ∨ n = 13 ∨ n = 14 ∨ n = 15 := by omega
  rcases h with rfl | rfl | rfl | rfl | rfl | rfl | rfl | rfl | rfl | rfl | rfl | rfl | rfl | rfl | rfl | rfl
  · exact digs_0 w
  · exact digs_1 w
  · exact digs_2 w
  · exact digs_3 w
  · exact digs_4 w
  · exact digs_5 w
  · exact digs_6 w
  · exact digs_7 w
  · exact digs_8 w
  · exact digs_9 w
  · exact digs_10 w
  · exact digs_11 w
  · exact digs_12 w
  · exact digs_13 w
  · exact digs_14 w
  · exact digs_15 w
def zero64 : List Value := U8s (List.replicate 64 0)
theorem zeros64 (w : World) : (zeroValue 83).run Tryd.prog w = .ok (.agg zero64.toArray) w := by kernel_rfl
/-- one place of a row of bytes -/
theorem index_bytes {t : TypeId} {n : Nat} {e : TypeId} (hu : Tryd.prog.underlying t = some (.array n e)) (he : Tryd.prog.underlying e = some (.int .u8)) (hq : (Tryd.prog.info? e).map (·.size) = some 1) (l : List Int) (hl : l.length = n) (k : Nat) (hk : k < n) (w : World) :
    (Instr.index t (.agg (U8s l).toArray) (.int .i64 k)).run Tryd.prog w = .ok (.int .u8 (l.getD k 0)) w := by
  obtain ⟨i, hi, hs⟩ := Option.map_eq_some_iff.1 hq
  have h0 : (0 : Int) ≤ k := by omega
  have hg : (U8s l)[k]? = some (.int .u8 (l.getD k 0)) := by simp [U8s, show k < l.length by omega]
  simp [Instr.index, run_underlying hu, asIntOf, h0, hk, go_sem, sizeOf, typeInfo, hi, hs, hg, isAgg, run_underlying he]

/-- the first k bytes' digits stand -/
structure HxRel (w : World) (xs : List Int) (k : Nat) (wr : World) (g : Nat) : Prop where
  row : ∃ l, wr.heap[g]? = some (.cells (U8s l).toArray 83 (0, 0)) ∧ l.length = 64 ∧ l.take (2 * k) = hexI (xs.take k)
  kp : Kp (fun _ => False) w wr
theorem HxRel.next {w wr : World} {xs : List Int} {k g : Nat} (h : HxRel w xs k wr g) (hg : w.heap.size ≤ g) (hk : k < xs.length) (hx : xs.length = 32) :
    (∃ v, wr.cell? ⟨g, 2 * k, none⟩ = some v) ∧ (∃ v, wr.cell? ⟨g, 2 * k + 1, none⟩ = some v) ∧ wr.frozen? ⟨g, 2 * k, none⟩ = false ∧ wr.frozen? ⟨g, 2 * k + 1, none⟩ = false ∧
    HxRel w xs (k + 1) ((wr.setCell ⟨g, 2 * k, none⟩ (.int .u8 (dg (xs.getD k 0 / 16)))).setCell ⟨g, 2 * k + 1, none⟩ (.int .u8 (dg (xs.getD k 0 % 16)))).drew g := by
  obtain ⟨l, hl, hl64, ht⟩ := h.row
  refine ⟨⟨_, by rw [cell_blk hl, List.getElem?_toArray, List.getElem?_eq_getElem (by rw [U8s_length]; omega)]⟩, ⟨_, by rw [cell_blk hl, List.getElem?_toArray, List.getElem?_eq_getElem (by rw [U8s_length]; omega)]⟩, free_blk hl _, free_blk hl _, ⟨⟨(l.set (2 * k) (dg (xs.getD k 0 / 16))).set (2 * k + 1) (dg (xs.getD k 0 % 16)), ?_, by simp [hl64], ?_⟩, ?_⟩⟩
  · refine (set_blk (set_blk hl _ _) _ _).trans ?_
    congr 2
    apply Array.ext'
    simp [U8s, List.map_set]
  · have hxk : xs.take (k + 1) = xs.take k ++ [xs.getD k 0] := by rw [List.take_succ_eq_append_getElem hk]; simp [hk]
    rw [hxk, hexI_append, ← ht]
    apply List.ext_getElem?
    intro i
    have e1 : hexI [xs.getD k 0] = [dg (xs.getD k 0 / 16), dg (xs.getD k 0 % 16)] := rfl
    rw [e1, List.getElem?_take, List.getElem?_append, List.length_take, Nat.min_eq_left (by omega)]
    by_cases h1 : i < 2 * k
    · rw [if_pos (by omega), if_pos h1, List.getElem?_set_ne (by omega), List.getElem?_set_ne (by omega), List.getElem?_take, if_pos h1]
    · rw [if_neg h1]
      by_cases h2 : i = 2 * k
      · subst h2
        rw [if_pos (by omega), List.getElem?_set_ne (by omega), List.getElem?_set_self (by omega)]
        simp
      · by_cases h3 : i = 2 * k + 1
        · subst h3
          rw [if_pos (by omega), List.getElem?_set_self (by simp; omega), show 2 * k + 1 - 2 * k = 1 by omega]
          rfl
        · rw [if_neg (by omega), List.getElem?_eq_none (by simp; omega)]
  · exact ((h.kp.setCell (fun hlt => absurd hlt (by show ¬ g < _; omega)) _).setCell (fun hlt => absurd hlt (by show ¬ g < _; omega)) _).drew

end Go.Proofs.YtoognhbdgdfkoaaDoor
