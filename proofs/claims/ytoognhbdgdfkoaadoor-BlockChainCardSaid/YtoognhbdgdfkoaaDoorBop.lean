/-
  A block among a law's arguments.
-/
import Derived.Test.YtoognhbdgdfkoaaDoorOp
import Derived.Test.YtoognhbdgdfkoaaDoorBl
import Derived.Deep.Strs
namespace Go.Proofs.YtoognhbdgdfkoaaDoor
open Go.ChangeShapes Go.WideShapes Go.ChangeAt Go.RowKit

theorem open_name_cells {H : Type} {enc : TypeId × Value → H} {W : World} {base : Nat} {spare : Nat → Bool} {held : Bool} {fuel : Nat} {l : List Value} {x : DataW H × List MemPlace} (hf : DataW.trod enc Tryd.prog W base spare held fuel 23 l = some x) :
    ∃ xs, l = U8s xs ∧ Nm xs := by
  obtain ⟨xs, m, _, _, hlen, hxs, hel⟩ := DataW.trod_array Tryd.underlying23 hf
  rw [Tryd.cellsOf8] at hel
  rw [Tryd.cellsId] at hlen
  have hpick : ∀ k, k ≤ 32 → ∃ zs : List Int, zs.length = k ∧ l.take k = U8s zs ∧ Rng zs := by
    intro k
    induction k with
    | zero => intro _; exact ⟨[], rfl, rfl, fun _ h => by cases h⟩
    | succ k ih =>
      intro hk
      obtain ⟨zs, h1, h2, h3⟩ := ih (by omega)
      have he := hel k (by omega)
      rw [List.getElem?_eq_getElem (by omega)] at he
      obtain ⟨z, hz, _, hw⟩ := DataW.trod_int Tryd.underlying5 he
      have hk' : k < l.length := by omega
      have hz1 : l[k] = .int .u8 z := by
        rw [Nat.mul_one, List.drop_eq_getElem_cons hk', List.take_succ_cons, List.take_zero] at hz
        exact (List.cons.inj hz).1
      refine ⟨zs ++ [z], by simp [h1], ?_, h3.append (fun x hx => by rw [List.mem_singleton.1 hx]; exact wf_u8 hw)⟩
      rw [List.take_succ_eq_append_getElem hk', h2, hz1]
      simp [U8s]
  obtain ⟨zs, h1, h2, h3⟩ := hpick 32 (Nat.le_refl _)
  rw [List.take_of_length_le (by omega)] at h2
  exact ⟨zs, h2, h1, h3⟩
theorem wf_i64 {x : Int} (h : (Lit.int .i64 x).wf = true) : -9223372036854775808 ≤ x ∧ x ≤ 9223372036854775807 := by simpa [Lit.wf, IntKind.min, IntKind.max, IntKind.signed, IntKind.bits] using h
theorem Tryd.cellsBlk : Tryd.prog.cellsOf 26 = 34 := by kernel_rfl
theorem Tryd.cellsI64 : Tryd.prog.cellsOf 2 = 1 := by kernel_rfl
theorem Tryd.cellsBy : Tryd.prog.cellsOf 24 = 1 := by kernel_rfl
theorem open_blk_cells {H : Type} {enc : TypeId × Value → H} {W : World} {base : Nat} {spare : Nat → Bool} {held : Bool} {fuel : Nat} {l : List Value} {x : DataW H × List MemPlace} (hf : DataW.trod enc Tryd.prog W base spare held fuel 26 l = some x) :
    ∃ b bv, l = blkC b bv ∧ b.wf ∧ Sees W bv b.d := by
  obtain ⟨y0, y1, y2, n, _, hl, h0, h1, h2⟩ := Deep.trod_struct3 Tryd.underlying26 hf
  rw [Tryd.cellsBlk] at hl
  simp only [Tryd.cellsId, Tryd.cellsI64, Tryd.cellsBy] at h0 h1 h2
  obtain ⟨p, hp, hn⟩ := open_name_cells h0
  obtain ⟨z, hz, _, hw⟩ := DataW.trod_int Tryd.underlying2 h1
  rw [List.drop_eq_getElem_cons (show 32 < l.length by omega), List.take_succ_cons, List.take_zero] at hz
  rw [List.drop_eq_getElem_cons (show 33 < l.length by omega), List.take_succ_cons, List.take_zero] at h2
  obtain ⟨d, hs, hd⟩ := open_bytes h2
  have hw' := wf_i64 hw
  refine ⟨⟨p, z, d⟩, l[33], ?_, ⟨hn, hw'.1, hw'.2, hd⟩, hs⟩
  unfold blkC
  rw [← hp, ← (List.cons.inj hz).1]
  rw [List.drop_zero]
  have e1 : l = l.take 32 ++ l.drop 32 := (List.take_append_drop 32 l).symm
  have e2 : l.drop 32 = l[32] :: l[33] :: l.drop 34 := by rw [List.drop_eq_getElem_cons (show 32 < l.length by omega), List.drop_eq_getElem_cons (show 33 < l.length by omega)]
  rw [List.drop_eq_nil_of_le (show l.length ≤ 34 by omega)] at e2
  rw [← e2]; exact e1
theorem open_blk {H : Type} {enc : TypeId × Value → H} {W : World} {base : Nat} {spare : Nat → Bool} {held : Bool} {v : Value} {d : DataW H} {p : List MemPlace} (hv : Value.okWide Tryd.prog W .any base 26 v) (h : DataW.Trod enc Tryd.prog W 0 spare held 26 v d p) :
    ∃ b bv, v = blkV b bv ∧ b.wf ∧ Sees W bv b.d := by
  obtain ⟨cs, rfl, hsz⟩ := okWide_struct Tryd.underlying26 hv
  obtain ⟨fuel, hf⟩ := h
  obtain ⟨b, bv, h1, h2, h3⟩ := open_blk_cells (show DataW.trod enc Tryd.prog W 0 spare held fuel 26 cs.toList = some (d, p) from hf)
  refine ⟨b, bv, ?_, h2, h3⟩
  unfold blkV
  rw [← h1]
end Go.Proofs.YtoognhbdgdfkoaaDoor
