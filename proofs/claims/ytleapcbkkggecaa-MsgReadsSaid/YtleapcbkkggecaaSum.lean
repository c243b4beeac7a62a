/-
  Contracts of package sha's New, Sum, Len, Write, Clone.
-/
import Derived.Test.YtleapcbkkggecaaEnd
namespace Go.Proofs.Ytleapcbkkggecaa
open Go.ChangeShapes Go.WideShapes Go.ChangeAt Go.RowKit

theorem info32 (l : List Int) (h : l.length = 32) : (Try.prog.info? 37).map (·.size) = some (U8s l).toArray.size := by
  rw [List.size_toArray, U8s_length, h]; kernel_rfl
theorem stC_one (H : St) (part : List Int) (came : Int) : (stC H part came).toArray.all (·.oneCell') = true :=
  all_oneCell_toArray (fun v hv => by
    simp only [stC, stL, U32s, U8s, List.mem_cons, List.mem_append, List.mem_map, List.not_mem_nil, or_false] at hv
    rcases hv with rfl | (⟨_, _, rfl⟩ | ⟨_, _, rfl⟩) | rfl <;> rfl)
def st0 : List Value := .bool false :: (U32s (List.replicate 8 0) ++ U8s (List.replicate 64 0) ++ [.int .i64 0])
def id0 : List Int := List.replicate 32 0
theorem zerosId (w : World) : (zeroValue 37).run Try.prog w = .ok (.agg (U8s id0).toArray) w := by kernel_rfl

/-- the first k words' bytes stand in the name -/
structure SmRel (w : World) (s : St) (k : Nat) (wr : World) (g r : Nat) : Prop where
  row : ∃ l, wr.heap[g]? = some (.cells (U8s l).toArray 37 (0, 0)) ∧ l.length = 32 ∧ l.take (4 * k) = (bytesOf s).take (4 * k)
  out : ∃ l, wr.heap[r]? = some (.cells (U8s l).toArray 37 (0, 0)) ∧ l.length = 32
  kp : Kp (fun _ => False) w wr
theorem bytesOf_get (s : St) (k : Nat) (hk : k < 8) : (bytesOf s).take (4 * (k + 1)) = (bytesOf s).take (4 * k) ++ w4 (s.list.getD k 0) := by
  match k, hk with
  | 0, _ => rfl
  | 1, _ => rfl
  | 2, _ => rfl
  | 3, _ => rfl
  | 4, _ => rfl
  | 5, _ => rfl
  | 6, _ => rfl
  | 7, _ => rfl
end Go.Proofs.Ytleapcbkkggecaa
