/-
  Contracts of the document's packer (package flurryref01).
-/
import Derived.Test.YtleapcbkkggecaaPkC
import Derived.Deep.QuietTactic
import Derived.BigQuiet
import Derived.Lib.ConvBytes
import Derived.Laws.OwnMore
namespace Go.Proofs.Ytleapcbkkggecaa
open Go.ChangeShapes Go.WideShapes Go.ChangeAt Go.RowKit

/-- a number's bytes, in a row of their own -/
def NumP (w : World) (n : Nat) (v : Int) (e : Ending) (w' : World) : Prop :=
  e = .returned (.slice (some ⟨w.heap.size, 0, none⟩) n n) ∧ w'.heap[w.heap.size]? = some (.cells (U8s (be n v)).toArray 5 (0, 0)) ∧ Kp (fun _ => False) w w'

theorem NumP.sees {w w' : World} {n : Nat} {v : Int} {e : Ending} (h : NumP w n v e w') (hm : n ≤ 9000) : Sees w' (.slice (some ⟨w.heap.size, 0, none⟩) n n) (be n v) := by
  obtain ⟨_, h2, _⟩ := h
  have h := Sees.mk (w := w') (b := w.heap.size) (off := 0) (cap := n) (xs := be n v) (by rw [be_length]; exact Nat.le_refl _) (by unfold maxLen; omega) (fun i x hi => by rw [Nat.zero_add, cell_blk h2, List.getElem?_toArray, U8s_get hi])
  rw [be_length] at h
  exact h
theorem NumP.own {w w' : World} {n : Nat} {v : Int} {e : Ending} {B : Nat} (h : NumP w n v e w') (hB : B ≤ w.heap.size) (hm : n ≤ 9000) : OwnB w' B (.slice (some ⟨w.heap.size, 0, none⟩) n n) (be n v) := by
  obtain ⟨_, h2, _⟩ := h
  refine .inr ⟨_, n, [], by rw [be_length], hB, by rw [List.append_nil]; exact h2, by rw [List.append_nil, U8s_length, be_length], by unfold maxLen; omega⟩

theorem PK.kept {F : Nat → Prop} {w w' : World} {B q : Nat} {v : Value} {lim : Int} {l : List Int} {e : Int} (h : PK w B q v lim l e) (k : Kp F w w') (hF : ∀ x, PF q v x → ¬ F x) : PK w' B q v lim l e :=
  ⟨kept_blk h.cell k (hF q (.inl rfl)), h.own.kept k (fun g hg => hF g (.inr hg)), h.ne, h.base, h.lims⟩
theorem bytesWorld_kp (w : World) (e : TypeId) (s : ByteArray) : Kp (fun _ => False) w (Lib.bytesWorld w e s) :=
  ⟨by simp [Lib.bytesWorld, World.freeze, World.alloc, World.drew, -World.alloc_eq, -World.drew_eq], by simp [Lib.bytesWorld, World.freeze, World.alloc, World.drew, -World.alloc_eq, -World.drew_eq],
    by simp [Lib.bytesWorld, World.freeze, World.alloc, World.drew, -World.alloc_eq, -World.drew_eq], by rw [Lib.bytesWorld_size]; omega, fun k hk _ => Lib.bytesWorld_at_old w e s k hk⟩
theorem bytesWorld_sees (w : World) (s : ByteArray) (hs : s.size ≤ 1000000) : Sees (Lib.bytesWorld w 5 s) (.slice (some ⟨w.heap.size, 0, none⟩) s.size (grownCap w s.size 0 5)) (Bys s) := by
  have h := Sees.mk (w := Lib.bytesWorld w 5 s) (b := w.heap.size) (off := 0) (cap := grownCap w s.size 0 5) (xs := Bys s) (by rw [Bys_length]; exact grownCap_ge _ _ _ _) (grownCap_le_maxLen _ _ _ _ (by unfold maxLen; omega)) (fun i x hi => ?_)
  · rw [Bys_length] at h; exact h
  have hlt : i < s.size := by rw [← Bys_length]; exact (List.getElem?_eq_some_iff.1 hi).1
  rw [Nat.zero_add, Lib.bytesWorld_cell _ _ _ _ hlt]
  congr 2
  unfold Bys at hi
  rw [List.getElem?_map, Option.map_eq_some_iff] at hi
  obtain ⟨y, hy, rfl⟩ := hi
  simp [List.getD, hy]

end Go.Proofs.Ytleapcbkkggecaa
