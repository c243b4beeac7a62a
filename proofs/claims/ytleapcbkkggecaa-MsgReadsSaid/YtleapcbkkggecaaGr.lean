/-
  Rows of elements of any size in memory of one's own, and what append makes of them. Nothing of the program but its types stands here.
-/
import Derived.Test.YtleapcbkkggecaaChecked
import Derived.Test.YtleapcbkkggecaaFrame
import Derived.Test.YtleapcbkkggecaaSel
import Derived.Deep.AppendSrc
import Derived.ChangeSlices
import Derived.Deep.Slices
namespace Go.Proofs.Ytleapcbkkggecaa
open Go.ChangeShapes Go.WideShapes Go.ChangeAt Go.RowKit

/-- n elements, these their cells, in a row of one's own -/
def OwnG (T sz : Nat) (w : World) (B : Nat) (v : Value) (n : Nat) (cs : List Value) : Prop :=
  cs.length = n * sz ∧ ((v = .slice none 0 0 ∧ n = 0) ∨
  ∃ g cap rest, v = .slice (some ⟨g, 0, none⟩) n cap ∧ B ≤ g ∧ w.heap[g]? = some (.cells (cs ++ rest).toArray T (0, 0)) ∧ (cs ++ rest).length = cap * sz ∧ n ≤ cap ∧ cap ≤ maxLen)
theorem OwnG.kept {T sz : Nat} {F : Nat → Prop} {w w' : World} {B n : Nat} {v : Value} {cs : List Value} (h : OwnG T sz w B v n cs) (k : Kp F w w') (hF : ∀ g, v.ownBlock = some g → ¬ F g) : OwnG T sz w' B v n cs := by
  obtain ⟨h0, h | ⟨g, cap, rest, rfl, h1, h2, h3⟩⟩ := h
  · exact ⟨h0, .inl h⟩
  · exact ⟨h0, .inr ⟨g, cap, rest, rfl, h1, kept_blk h2 k (hF g rfl), h3⟩⟩
theorem OwnG.lt {T sz : Nat} {w : World} {B n : Nat} {v : Value} {cs : List Value} (h : OwnG T sz w B v n cs) : ∀ g, v.ownBlock = some g → B ≤ g ∧ g < w.heap.size := by
  obtain ⟨_, ⟨rfl, _⟩ | ⟨g, cap, rest, rfl, h1, h2, _⟩⟩ := h
  · intro g hg; cases hg
  · intro x hx; cases hx; exact ⟨h1, lt_of_blk h2⟩
theorem OwnG.form {T sz : Nat} {w : World} {B n : Nat} {v : Value} {cs : List Value} (h : OwnG T sz w B v n cs) : ∃ a c, v = .slice a n c := by
  obtain ⟨_, ⟨rfl, rfl⟩ | ⟨g, cap, rest, rfl, _⟩⟩ := h
  · exact ⟨none, 0, rfl⟩
  · exact ⟨_, _, rfl⟩
theorem OwnG.nil (T sz : Nat) (w : World) (B : Nat) : OwnG T sz w B (.slice none 0 0) 0 [] := ⟨by simp, .inl ⟨rfl, rfl⟩⟩

section
variable {Tsl T sz bs : Nat} {z : Value} (hu : Try.prog.underlying Tsl = some (.slice T)) (hin : (Try.prog.info? T).map (fun i => (i.zero, i.size, i.bytes)) = some (some z, sz, bs)) (hz1 : z.cells.size = sz)
include hu hin

/-- onto none, nothing -/
theorem app_zero (w : World) (base bb : Option Addr) (c : Nat) (ty : TypeId) : (Builtin.append_ #[Tsl, Tsl] ty #[.slice base 0 0, .slice bb 0 c]).run Try.prog w = .ok (.slice base 0 0) w := by
  obtain ⟨i0, hi0, hz0, hs0, hb0⟩ := info_parts hin
  have hsz : ∀ w, (sizeOf T).run Try.prog w = .ok sz w := fun w => by simp [sizeOf, typeInfo, hi0, hs0]
  have hu' : ∀ w, (underlying Tsl).run Try.prog w = .ok (.slice T) w := run_underlying hu
  have hl : ∀ (x : Addr), (loadCells x 0).run Try.prog w = .ok #[] w := fun x => by simpa using run_loadCells_list (P := Try.prog) w x [] (by simp)
  cases base <;> cases bb <;> simp [Builtin.append_, hu', hsz, Builtin.lenOf, Builtin.firstCells, hl, storeCells]
include hz1
/-- onto none, some -/
theorem app_new {w : World} {b : Value} {k : Nat} {news : List Value} (base : Option Addr) (src : Src Try.prog sz Tsl b k news w) (hk : 1 ≤ k) (hk2 : k ≤ 1000000) (hbs : bs ≤ 1000) :
    ∃ v' w', (∀ ty, (Builtin.append_ #[Tsl, Tsl] ty #[.slice base 0 0, b]).run Try.prog w = .ok v' w') ∧ OwnG T sz w' w.heap.size v' k news ∧ Kp (fun _ => False) w w' := by
  obtain ⟨i0, hi0, hz0, hs0, hb0⟩ := info_parts hin
  rw [← hs0] at src
  have hold : (Builtin.firstCells i0.size 0 (.slice base 0 0)).run Try.prog w.drew = .ok ([] : List Value).toArray w.drew := by
    cases base with
    | none => exact run_firstCells_none w.drew i0.size 0 0 0
    | some a => exact run_firstCells_some w.drew i0.size 0 a 0 0 [] (by simp) (by simp)
  have hm : (0 + k) * bs ≤ 1000000 * 1000 := Nat.mul_le_mul (by omega) hbs
  have h := fun ty => run_append_grow_src (P := Try.prog) w Tsl Tsl ty T i0 z hu hi0 hz0 base 0 0 [] hold b k news src (by omega) (by omega) (growslice_fits (by omega) (by rw [hb0]; omega))
  simp only [Nat.zero_add] at h
  have hG := grownCap_ge w k 0 T
  have hnl : news.length = k * sz := by rw [src.newsLen, hs0]
  refine ⟨_, _, h, ⟨hnl, .inr ⟨w.heap.size, grownCap w k 0 T, (Builtin.zeroCells z.cells (grownCap w k 0 T - k)).toList, rfl, Nat.le_refl _, ?_, ?_, hG, grownCap_le_maxLen w _ _ _ (by unfold maxLen; omega)⟩⟩, (Kp.refl _ _).drew.alloc _⟩
  · refine (new_blk w.drew _).trans ?_
    congr 2
    apply Array.ext'; simp
  · rw [List.length_append, hnl, Array.length_toList, size_zeroCells, hz1, ← Nat.add_mul]
    congr 1; omega
/-- onto a row of one's own, some -/
theorem app_own {w : World} {B n k : Nat} {v b : Value} {cs news : List Value} (hB : B ≤ w.heap.size) (h : OwnG T sz w B v n cs) (src : Src Try.prog sz Tsl b k news w) (hk : 1 ≤ k) (hk2 : n + k ≤ 1000000) (hbs : bs ≤ 1000) :
    ∃ v' w', (∀ ty, (Builtin.append_ #[Tsl, Tsl] ty #[v, b]).run Try.prog w = .ok v' w') ∧ OwnG T sz w' B v' (n + k) (cs ++ news) ∧ Kp (fun k => v.ownBlock = some k) w w' ∧ (v'.ownBlock = v.ownBlock ∨ ∀ g, v'.ownBlock = some g → w.heap.size ≤ g) := by
  obtain ⟨i0, hi0, hz0, hs0, hb0⟩ := info_parts hin
  obtain ⟨hcl, ⟨rfl, rfl⟩ | ⟨g, cap, rest, rfl, h1, h2, h3, h4, h5⟩⟩ := h
  · obtain ⟨v', w', g1, g2, g3⟩ := app_new hu hin hz1 none src hk (by omega) hbs
    obtain rfl : cs = [] := List.eq_nil_of_length_eq_zero (by omega)
    refine ⟨v', w', g1, ?_, g3.mono (fun _ _ f => f.elim), .inr (fun g hg => (g2.lt g hg).1)⟩
    rw [Nat.zero_add, List.nil_append]
    obtain ⟨e1, e2 | ⟨g, cap, rest, e2, e3, e4⟩⟩ := g2
    · exact ⟨e1, .inl e2⟩
    · exact ⟨e1, .inr ⟨g, cap, rest, e2, by omega, e4⟩⟩
  · have src0 := src
    rw [← hs0] at src
    have hnl : news.length = k * sz := src0.newsLen
    have hlen : cs.length + rest.length = cap * sz := by rw [← h3, List.length_append]
    by_cases hroom : n + k ≤ cap
    · have hrl : k * sz ≤ rest.length := by
        have := Nat.mul_le_mul_right sz hroom
        rw [Nat.add_mul] at this
        omega
      have hl3 : (rest.take news.length).length = news.length := by rw [List.length_take]; omega
      have hblk : w.heap[g]? = some (.cells (cs ++ rest.take news.length ++ rest.drop news.length).toArray T (0, 0)) := by rw [h2, List.append_assoc, List.take_append_drop]
      obtain ⟨s1, s2, _⟩ := setCells_blk g T news cs (rest.take news.length) (rest.drop news.length) w hblk hl3
      have hrun := fun ty => run_append_room_src (P := Try.prog) w Tsl Tsl ty T i0 hu hi0 g 0 n cap b k news src hroom
        (fun j hj => by
          rw [hs0, Nat.zero_add, ← hcl, cell_blk h2, List.getElem?_toArray, List.getElem?_eq_getElem (by rw [List.length_append]; omega)]; rfl)
        (fun j hj => free_blk h2 _)
      rw [hs0, Nat.zero_add, ← hcl] at hrun
      refine ⟨_, _, hrun, ⟨by rw [List.length_append, hcl, hnl, Nat.add_mul], .inr ⟨g, cap, rest.drop news.length, rfl, h1, s1, ?_, hroom, h5⟩⟩, s2.mono (fun x _ e => by rw [e]; rfl), .inl rfl⟩
      rw [List.length_append, List.length_append, List.length_drop]; omega
    · have hold : (Builtin.firstCells i0.size n (.slice (some ⟨g, 0, none⟩) n cap)).run Try.prog w.drew = .ok cs.toArray w.drew :=
        run_firstCells_some w.drew i0.size n ⟨g, 0, none⟩ n cap cs (by rw [hs0, hcl]) (fun j u hj => by
          rw [Addr.add_lit, World.cell?_drew, cell_blk h2, Nat.zero_add, List.getElem?_toArray, List.getElem?_append_left (List.getElem?_eq_some_iff.1 hj).1]; exact hj)
      have hm : (n + k) * bs ≤ 1000000 * 1000 := Nat.mul_le_mul (by omega) hbs
      have hrun := fun ty => run_append_grow_src (P := Try.prog) w Tsl Tsl ty T i0 z hu hi0 hz0 (some ⟨g, 0, none⟩) n cap cs hold b k news src (by omega) (by omega) (growslice_fits (by omega) (by rw [hb0]; omega))
      have hG := grownCap_ge w (n + k) cap T
      refine ⟨_, _, hrun, ⟨by rw [List.length_append, hcl, hnl, Nat.add_mul], .inr ⟨w.heap.size, grownCap w (n + k) cap T, (Builtin.zeroCells z.cells (grownCap w (n + k) cap T - (n + k))).toList, rfl, hB, ?_, ?_, hG, grownCap_le_maxLen w _ _ _ (by unfold maxLen; omega)⟩⟩, ((Kp.refl _ _).drew.alloc _), .inr (fun y e => by cases e; exact Nat.le_refl _)⟩
      · refine (new_blk w.drew _).trans ?_
        congr 2
        apply Array.ext'; simp
      · rw [List.length_append, List.length_append, hcl, hnl, Array.length_toList, size_zeroCells, hz1, ← Nat.add_mul, ← Nat.add_mul]
        congr 1; omega
end
end Go.Proofs.Ytleapcbkkggecaa
