/-
  ShaBack's walk: a name's text is read as the name; what is read of a text has that text.
-/
import Derived.Test.YtopckankheljhaaDoorPr
namespace Go.Proofs.YtopckankheljhaaDoor
open Go.ChangeShapes Go.WideShapes Go.ChangeAt Go.RowKit

theorem flat_get (f g : Int → Int) : ∀ (xs : List Int) (j : Nat), j < xs.length →
    (xs.flatMap fun b => [f b, g b]).getD (2 * j) 0 = f (xs.getD j 0) ∧ (xs.flatMap fun b => [f b, g b]).getD (2 * j + 1) 0 = g (xs.getD j 0)
  | [], _, h => by simp at h
  | x :: xs, 0, _ => by simp
  | x :: xs, j + 1, h => by
    have ih := flat_get f g xs j (by simpa using h)
    rw [show 2 * (j + 1) = 2 * j + 1 + 1 by omega]
    simpa using ih
theorem flat_length (f g : Int → Int) (xs : List Int) : (xs.flatMap fun b => [f b, g b]).length = 2 * xs.length := by
  induction xs with
  | nil => rfl
  | cons x r ih => simp only [List.flatMap_cons, List.length_append, List.length_cons, List.length_nil] at ih ⊢; omega
theorem getD_ext {a b : List Int} (hl : a.length = b.length) (h : ∀ i, i < a.length → a.getD i 0 = b.getD i 0) : a = b := by
  apply List.ext_getElem hl
  intro i h1 h2
  have := h i h1
  simpa [h1, h2] using this
/-- a name's text is read as the name -/
theorem parsed_hex {xs : List Int} (h : Nm xs) : parsed (hexI xs) = (xs, 0) := by
  have hl : (hexI xs).length = 64 := by rw [hexI_length, h.len]
  have hns : NibsTo (hexI xs) 64 (xs.flatMap fun b => [b / 16, b % 16]) := by
    refine ⟨by rw [flat_length (· / 16) (· % 16), h.len], by omega, fun i hi => ?_⟩
    have hj : i / 2 < xs.length := by rw [h.len]; omega
    have g1 := flat_get (fun b => dg (b / 16)) (fun b => dg (b % 16)) xs (i / 2) hj
    have g2 := flat_get (· / 16) (· % 16) xs (i / 2) hj
    have hb := getD_byte h.rng (i / 2)
    by_cases he : i % 2 = 0
    · rw [show 2 * (i / 2) = i by omega] at g1 g2
      show hv ((xs.flatMap fun b => [dg (b / 16), dg (b % 16)]).getD i 0) = _
      rw [g1.1, g2.1]
      exact hv_of_dg (by omega) (by omega)
    · rw [show 2 * (i / 2) + 1 = i by omega] at g1 g2
      show hv ((xs.flatMap fun b => [dg (b / 16), dg (b % 16)]).getD i 0) = _
      rw [g1.2, g2.2]
      exact hv_of_dg (by omega) (by omega)
  unfold parsed
  rw [if_pos hl, nibs_of _ _ (by rw [hl]; exact hns)]
  have e : idOf (xs.flatMap fun b => [b / 16, b % 16]) = xs := by
    refine getD_ext (by rw [idOf_length, h.len]) (fun j hj => ?_)
    rw [idOf_length] at hj
    have g2 := flat_get (· / 16) (· % 16) xs j (by rw [h.len]; exact hj)
    rw [idOf_get _ _ hj]
    unfold byteAt
    rw [if_pos (by rw [flat_length (· / 16) (· % 16), h.len]; omega), g2.1, g2.2]
    omega
  show (idOf (xs.flatMap fun b => [b / 16, b % 16]), (0 : Int)) = (xs, 0)
  rw [e]
/-- what is read of a text has that text -/
theorem hex_parsed {l ns : List Int} (hl : l.length = 64) (h : nibs l = some ns) : hexI (idOf ns) = l := by
  have hn := nibs_some l ns h
  rw [hl] at hn
  refine getD_ext (by rw [hexI_length, idOf_length, hl]) (fun i hi => ?_)
  rw [hexI_length, idOf_length] at hi
  have hj : i / 2 < 32 := by omega
  have g1 := flat_get (fun b => dg (b / 16)) (fun b => dg (b % 16)) (idOf ns) (i / 2) (by rw [idOf_length]; exact hj)
  rw [idOf_get _ _ hj] at g1
  have hb : byteAt ns (i / 2) = 16 * ns.getD (2 * (i / 2)) 0 + ns.getD (2 * (i / 2) + 1) 0 := by
    unfold byteAt; rw [if_pos (by rw [hn.1]; omega)]
  have r0 := nib_rng hn (2 * (i / 2))
  have r1 := nib_rng hn (2 * (i / 2) + 1)
  rw [hb] at g1
  by_cases he : i % 2 = 0
  · have e2 : 2 * (i / 2) = i := by omega
    have := hv_dg (hn.2.2 i hi)
    rw [← this]
    show (((idOf ns).flatMap fun b => [dg (b / 16), dg (b % 16)]).getD i 0) = _
    rw [e2] at g1 r0 r1
    rw [g1.1]
    congr 1
    omega
  · have e2 : 2 * (i / 2) + 1 = i := by omega
    have := hv_dg (hn.2.2 i hi)
    rw [← this]
    show (((idOf ns).flatMap fun b => [dg (b / 16), dg (b % 16)]).getD i 0) = _
    rw [e2] at g1 r1
    rw [g1.2]
    congr 1
    omega
theorem Bys_rng (s : ByteArray) : Rng (Bys s) := by
  intro x hx
  obtain ⟨b, _, rfl⟩ := List.mem_map.1 hx
  have := b.toNat_lt
  omega
theorem strOf_Bys (s : ByteArray) : (strOfNums (Bys s)).toList = s.toList := by
  rw [Lib.toList_data, Lib.toList_data, strOfNums_data]
  unfold Bys
  rw [List.map_map]
  conv => rhs; rw [← List.map_id s.data.toList]
  apply List.map_congr_left
  intro b _
  simp
theorem idOf_nm {l ns : List Int} {k : Nat} (h : NibsTo l k ns) : Nm (idOf ns) := by
  refine ⟨idOf_length ns, fun x hx => ?_⟩
  obtain ⟨j, hj, rfl⟩ := List.mem_map.1 hx
  have r0 := nib_rng h (2 * j)
  have r1 := nib_rng h (2 * j + 1)
  unfold byteAt
  split <;> omega
theorem parsed_nm (l : List Int) : Nm (parsed l).1 := by
  unfold parsed
  split
  · split
    · rename_i ns h
      exact idOf_nm (nibs_some l ns h)
    · exact ⟨rfl, fun x hx => by obtain ⟨_, rfl⟩ := List.mem_replicate.1 hx; omega⟩
  · exact ⟨rfl, fun x hx => by obtain ⟨_, rfl⟩ := List.mem_replicate.1 hx; omega⟩
theorem parsed_cases (l : List Int) : (parsed l = (id0, 20)) ∨ ((parsed l).2 = 0 ∧ hexI (parsed l).1 = l) := by
  unfold parsed
  split
  · rename_i hl
    split
    · rename_i ns h
      exact .inr ⟨rfl, hex_parsed hl h⟩
    · exact .inl rfl
  · exact .inl rfl
end Go.Proofs.YtopckankheljhaaDoor
