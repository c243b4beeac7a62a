/-
  Two names held against each other by == : whether all their bytes are the same.
-/
import Derived.Test.YtleapcbkkggecaaNm
import Derived.Laws.StructEq
namespace Go.Proofs.Ytleapcbkkggecaa
open Go.ChangeShapes Go.WideShapes Go.ChangeAt Go.RowKit

/-- a whole row loaded, where the operation's guard says yes -/
theorem wpList_load_want {P : Program} {ops : Array Oper} {rest : List Oper} {o : Oper} {a : Act} {w : World} {Q : Exit → Act → World → Prop} (hw : Region.wanted o (yielded ops a.tmps) = true) (ty : TypeId) (x : Operand) (ho : o.op = .load ty x)
    (g : Nat) (hx : a.eval x = .pointer (some ⟨g, 0, none⟩)) (t : TypeId) (cs : Array Value) (fr : Nat × Nat) (d : TypeDesc) (hg : w.heap[g]? = some (.cells cs t fr))
    (hu : P.underlying ty = some d) (hd : (match d with | .struct _ | .array _ _ => true | _ => false) = true) (hi : (P.info? ty).map (·.size) = some cs.size)
    (h : wpList P ops Q rest (a.put o.dst (.agg cs)) w) : wpList P ops Q (o :: rest) a w :=
  BigFrame.wpList_want hw fun _ hK => wp_load_row ty x ho g hx t cs fr d hg hu hd hi (hK _ _ h)
theorem part_byte (l : List Int) (i : Nat) (hi : i < l.length) (w : World) : (part 5 (U8s l).toArray i).run Try.prog w = .ok (.int .u8 (l.getD i 0)) w := by
  have hg : (U8s l)[i]? = some (.int .u8 (l.getD i 0)) := by simp [U8s, hi]
  simp [part, isAgg, run_underlying Try.underlying5, hg]
theorem drop_getD (a : List Int) (s : Nat) (h : s < a.length) : a.drop s = a.getD s 0 :: a.drop (s + 1) := by
  rw [List.drop_eq_getElem_cons h]; simp [h]
theorem loop_eq (d : Nat) (a b : List Int) (ha : a.length = 32) (hb : b.length = 32) (w : World) : ∀ (n s : Nat), s + n = 32 →
    (forIn (List.range' s n) ((none : Option Bool), PUnit.unit) (fun i _ => (do
        if !(← Op.equalIn (d + 1) 5 (← part 5 (U8s a).toArray (i * 1)) (← part 5 (U8s b).toArray (i * 1))) then pure (ForInStep.done (some false, PUnit.unit))
        else pure (ForInStep.yield (none, PUnit.unit)) : Sem (ForInStep (Option Bool × PUnit))))).run Try.prog w =
      .ok (if a.drop s = b.drop s then none else some false, PUnit.unit) w
  | 0, s, hs => by
    have h : a.drop s = b.drop s := by rw [List.drop_eq_nil_of_le (by omega), List.drop_eq_nil_of_le (by omega)]
    rw [if_pos h]
    simp
  | n + 1, s, hs => by
    have ih := loop_eq d a b ha hb w n (s + 1) (by omega)
    rw [List.range'_succ, List.forIn_cons]
    simp only [Sem.run_bind, Nat.mul_one, part_byte a s (by omega), part_byte b s (by omega), Result.andThen_ok, run_equalIn_int w d 5 .u8 .u8 _ _ Try.underlying5]
    by_cases hx : a.getD s 0 = b.getD s 0
    · have hb : (a.getD s 0 == b.getD s 0) = true := beq_iff_eq.2 hx
      rw [hb]
      simp only [Bool.not_true, Bool.false_eq_true, if_false, Sem.run_pure, Result.andThen_ok]
      simp only [Nat.mul_one] at ih
      rw [ih]
      rw [drop_getD a s (by omega), drop_getD b s (by omega), hx]
      simp
    · have hb : (a.getD s 0 == b.getD s 0) = false := beq_eq_false_iff_ne.2 hx
      rw [hb]
      simp only [Bool.not_false, if_true, Sem.run_pure, Result.andThen_ok]
      rw [if_neg (fun h => hx (by
        rw [drop_getD a s (by omega), drop_getD b s (by omega)] at h
        exact (List.cons.inj h).1))]
theorem equal_names (d : Nat) (a b : List Int) (ha : a.length = 32) (hb : b.length = 32) (w : World) :
    (Op.equalIn (d + 2) 37 (.agg (U8s a).toArray) (.agg (U8s b).toArray)).run Try.prog w = .ok (decide (a = b)) w := by
  obtain ⟨i, hi, hs⟩ := Option.map_eq_some_iff.1 u8size
  have hl := loop_eq d a b ha hb w 32 0 rfl
  rw [List.drop_zero, List.drop_zero] at hl
  rw [show d + 2 = (d + 1) + 1 from rfl, Op.equalIn]
  simp only [Sem.run_bind, run_underlying Try.underlying37, Result.andThen_ok, sizeOf, typeInfo, run_program, hi, Sem.run_pure, hs, Std.Legacy.Range.forIn_eq_forIn_range', Std.Legacy.Range.size]
  refine (congrArg (fun r => Result.andThen r _) hl).trans ?_
  by_cases h : a = b
  · simp [h, Result.andThen]
  · simp [h, Result.andThen]
theorem eql_names (a b : List Int) (ha : a.length = 32) (hb : b.length = 32) (w : World) : (binOp .eql 37 (.agg (U8s a).toArray) (.agg (U8s b).toArray)).run Try.prog w = .ok (.bool (decide (a = b))) w := by
  rw [run_eql_struct, equal_names 9998 a b ha hb w]; rfl
theorem neq_names (a b : List Int) (ha : a.length = 32) (hb : b.length = 32) (w : World) : (binOp .neq 37 (.agg (U8s a).toArray) (.agg (U8s b).toArray)).run Try.prog w = .ok (.bool (!decide (a = b))) w := by
  rw [run_neq_struct, equal_names 9998 a b ha hb w]; rfl
end Go.Proofs.Ytleapcbkkggecaa
