/-
  What a law's arguments read as: bytes, names, texts, lists of bytes; the two tables out of the row's condition.
-/
import Derived.Test.YtoognhbdgdfkoaaDoorMix
import Derived.Test.YtoognhbdgdfkoaaDoorNm
import Derived.Test.YtoognhbdgdfkoaaDoorFrame
import Derived.Test.YtoognhbdgdfkoaaDoorTie
import Derived.Deep.Slices
import Derived.Deep.Fields
import Derived.ChangeSlices
import Derived.Lib.LaidTab
import Derived.LaidMore
import Derived.MakeChecks
import Derived.Stop.LaidErr
namespace Go.Proofs.YtoognhbdgdfkoaaDoor
open Go.ChangeShapes Go.WideShapes Go.ChangeAt Go.RowKit

theorem Tryd.cellsOf8 : Tryd.prog.cellsOf 5 = 1 := by kernel_rfl
theorem Tryd.cellsOf32 : Tryd.prog.cellsOf 75 = 1 := by kernel_rfl
theorem Tryd.cellsH : Tryd.prog.cellsOf 76 = 8 := by kernel_rfl
theorem Tryd.cellsK : Tryd.prog.cellsOf 87 = 64 := by kernel_rfl
theorem Tryd.cellsId : Tryd.prog.cellsOf 23 = 32 := by kernel_rfl
theorem wf_u8 {x : Int} (h : (Lit.int .u8 x).wf = true) : 0 ≤ x ∧ x ≤ 255 := by simpa [Lit.wf, IntKind.min, IntKind.max, IntKind.signed, IntKind.bits] using h

theorem open_bytes {H : Type} {enc : TypeId × Value → H} {W : World} {base : Nat} {spare : Nat → Bool} {held : Bool} {fuel : Nat} {v : Value} {x : DataW H × List MemPlace} (h : DataW.trod enc Tryd.prog W base spare held fuel 24 [v] = some x) :
    ∃ xs, Sees W v xs ∧ Rng xs := by
  rcases open_ints Tryd.underlying24 Tryd.underlying5 Tryd.cellsOf8 h with ⟨hc, _⟩ | ⟨a, len, cap, zs, hc, _, hl, hm, hz, _, hcell, hwz⟩
  · exact ⟨[], .inl ⟨by simpa using hc, rfl⟩, fun _ h => by cases h⟩
  · have hlz : len ≤ zs.length := by rw [hz]; split <;> omega
    refine ⟨zs.take len, .inr ⟨a, cap, ?_, ?_, hm, fun i y hi => ?_⟩, fun y hy => wf_u8 (hwz y (List.mem_of_mem_take hy))⟩
    · rw [List.length_take, Nat.min_eq_left hlz]; simpa using hc
    · rw [List.length_take]; omega
    · have hi' := (List.getElem?_eq_some_iff.1 hi).1
      rw [List.length_take] at hi'
      rw [hcell i (by omega)]
      rw [List.getElem?_take_of_lt (by omega)] at hi
      simp [List.getD, hi]
theorem okWide_array {P : Program} {w : World} {r : Reach} {base : Nat} {t e : TypeId} {n : Nat} {v : Value} (ht : P.underlying t = some (.array n e)) (h : Value.okWide P w r base t v) : ∃ cs, v = .agg cs ∧ cs.size = P.cellsOf t := by
  simp only [Value.okWide, ht] at h
  obtain ⟨cs, h1, h2, _⟩ := h
  exact ⟨cs, h1, h2⟩
theorem open_name {H : Type} {enc : TypeId × Value → H} {W : World} {base : Nat} {spare : Nat → Bool} {held : Bool} {v : Value} {d : DataW H} {p : List MemPlace} (hv : Value.okWide Tryd.prog W .any base 23 v) (h : DataW.Trod enc Tryd.prog W 0 spare held 23 v d p) :
    ∃ xs, v = .agg (U8s xs).toArray ∧ Nm xs := by
  obtain ⟨cs, rfl, hsz⟩ := okWide_array Tryd.underlying23 hv
  obtain ⟨fuel, hf⟩ := h
  obtain ⟨xs, m, _, _, hlen, hxs, hel⟩ := DataW.trod_array Tryd.underlying23 hf
  rw [Tryd.cellsOf8] at hel
  have hcs : (Value.agg cs).cells.toList = cs.toList := rfl
  rw [hcs] at hel hlen
  rw [Tryd.cellsId] at hlen
  have hpick : ∀ k, k ≤ 32 → ∃ zs : List Int, zs.length = k ∧ cs.toList.take k = U8s zs ∧ Rng zs := by
    intro k
    induction k with
    | zero => intro _; exact ⟨[], rfl, rfl, fun _ h => by cases h⟩
    | succ k ih =>
      intro hk
      obtain ⟨zs, h1, h2, h3⟩ := ih (by omega)
      have he := hel k (by omega)
      rw [List.getElem?_eq_getElem (by omega)] at he
      obtain ⟨z, hz, _, hw⟩ := DataW.trod_int Tryd.underlying5 he
      have hk' : k < cs.toList.length := by omega
      have hz1 : cs.toList[k] = .int .u8 z := by
        rw [Nat.mul_one, List.drop_eq_getElem_cons hk', List.take_succ_cons, List.take_zero] at hz
        exact (List.cons.inj hz).1
      refine ⟨zs ++ [z], by simp [h1], ?_, h3.append (fun x hx => by rw [List.mem_singleton.1 hx]; exact wf_u8 hw)⟩
      rw [List.take_succ_eq_append_getElem hk', h2, hz1]
      simp [U8s]
  obtain ⟨zs, h1, h2, h3⟩ := hpick 32 (Nat.le_refl _)
  rw [List.take_of_length_le (by omega)] at h2
  exact ⟨zs, by rw [← h2], h1, h3⟩

theorem tab_heap {P : Program} {W : World} {name : String} {k : IntKind} {zs : List Int} {g : Nat} (h : Lib.TabIs P W name k zs) (hg : P.globalNamed name = some g) : ∃ t fr, W.heap[g]? = some (.cells (zs.map (.int k)).toArray t fr) := by
  unfold Lib.TabIs World.var? at h
  rw [hg] at h
  simp only [Option.bind_some] at h
  split at h
  · rename_i cs t fr hc
    cases h
    exact ⟨_, _, hc⟩
  · cases h
theorem rts_of_laid {W : World} (h : laidMetH Tryd.prog [("flurry/sha.squareRoots", Rows.laid_flurry_sha_squareRoots), ("flurry/sha.cubeRoots", Rows.laid_flurry_sha_cubeRoots)] W) : Rts W := by
  rw [MakeChecks.laidMetH_plain _ _ _ (by kernel_rfl)] at h
  have h1 : laidMet Tryd.prog (("flurry/sha.squareRoots", Lib.tabData .u32 h0.list) :: [("flurry/sha.cubeRoots", Lib.tabData .u32 kTab)]) W := h
  have t1 := Lib.tabIs_of_head (g := 0) (by kernel_rfl) (by kernel_rfl) Tryd.underlying76 Tryd.underlying75 Tryd.cellsOf32 Tryd.cellsH h1
  have t2 := Lib.tabIs_of_head (g := 1) (by kernel_rfl) (by kernel_rfl) Tryd.underlying87 Tryd.underlying75 Tryd.cellsOf32 Tryd.cellsK h1.tail
  exact ⟨tab_heap t1 (by kernel_rfl), tab_heap t2 (by kernel_rfl)⟩
end Go.Proofs.YtoognhbdgdfkoaaDoor
