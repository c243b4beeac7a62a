/-
  A map from names to numbers in memory: looked up, an entry laid, stored into, ranged over.
-/
import Derived.Test.YtoeinolekpmbbaaFb
import Derived.Maps.RangeRun
import Derived.MapKept
import Derived.WideKeyEntry
namespace Go.Proofs.Ytoeinolekpmbbaa
open Go.ChangeShapes Go.WideShapes Go.ChangeAt Go.RowKit
open Go.ChangeMaps (setBlock)

def keyV (k : List Int) : Value := .agg (U8s k).toArray
def ents : Nat → List Vt → List MapEntry
  | _, [] => []
  | i, x :: r => ⟨keyV x.id, .int .i64 x.n, i⟩ :: ents (i + 1) r
theorem ents_length : ∀ (i : Nat) (l : List Vt), (ents i l).length = l.length
  | _, [] => rfl
  | i, _ :: r => by rw [ents, List.length_cons, List.length_cons, ents_length (i + 1) r]
theorem ents_append : ∀ (i : Nat) (a b : List Vt), ents i (a ++ b) = ents i a ++ ents (i + a.length) b
  | _, [], _ => rfl
  | i, x :: a, b => by rw [List.cons_append, ents, ents, ents_append (i + 1) a b, List.cons_append, List.length_cons, show i + 1 + a.length = i + (a.length + 1) by omega]
theorem ents_get : ∀ (i : Nat) (l : List Vt) (j : Nat) (x : Vt), l[j]? = some x → (ents i l)[j]? = some ⟨keyV x.id, .int .i64 x.n, i + j⟩
  | _, [], _, _, h => by cases h
  | i, y :: r, 0, x, h => by cases h; rfl
  | i, y :: r, j + 1, x, h => by
    rw [ents, List.getElem?_cons_succ, ents_get (i + 1) r j x (by simpa using h), show i + 1 + j = i + (j + 1) by omega]
theorem ents_inv {i : Nat} {l : List Vt} {e : MapEntry} (h : e ∈ ents i l) : ∃ j x, l[j]? = some x ∧ e = ⟨keyV x.id, .int .i64 x.n, i + j⟩ := by
  obtain ⟨j, hj⟩ := List.getElem?_of_mem h
  have hl := (List.getElem?_eq_some_iff.1 hj).1
  rw [ents_length] at hl
  have hx := List.getElem?_eq_getElem hl
  rw [ents_get i l j _ hx] at hj
  exact ⟨j, _, hx, (Option.some.inj hj).symm⟩
theorem ents_set : ∀ (i : Nat) (l : List Vt) (j : Nat) (x y : Vt), l[j]? = some x → y.id = x.id → ents i (l.set j y) = (ents i l).set j ⟨keyV x.id, .int .i64 y.n, i + j⟩
  | _, [], _, _, _, h, _ => by cases h
  | i, z :: r, 0, x, y, h, e => by cases h; rw [List.set_cons_zero, ents, ents, List.set_cons_zero, e]; rfl
  | i, z :: r, j + 1, x, y, h, e => by
    rw [List.set_cons_succ, ents, ents, List.set_cons_succ, ents_set (i + 1) r j x y (by simpa using h) e, show i + 1 + j = i + (j + 1) by omega]
theorem ents_born (i : Nat) (l : List Vt) : (ents i l).map (·.born) = List.range' i l.length := by
  induction l generalizing i with
  | nil => rfl
  | cons x r ih => rw [ents, List.map_cons, ih (i + 1), List.length_cons, List.range'_succ]

/-- block b is a map of these votes, laid in this order -/
structure MapI (w : World) (b : Nat) (l : List Vt) : Prop where
  blk : w.heap[b]? = some (.map (ents 0 l).toArray l.length)
  uq : Uniq l
  len : ∀ x ∈ l, x.id.length = 32
theorem MapI.kept {F : Nat → Prop} {w w' : World} {b : Nat} {l : List Vt} (h : MapI w b l) (k : Kp F w w') (hF : ¬ F b) : MapI w' b l := ⟨kept_blk h.blk k hF, h.uq, h.len⟩
theorem MapI.made (w : World) : MapI (w.alloc (.map #[] 0)) w.heap.size [] := ⟨new_blk _ _, List.nodup_nil, fun x h => by cases h⟩

def findE : List Vt → List Int → Nat → Option (Nat × Value)
  | [], _, _ => none
  | x :: r, k, i => if k = x.id then some (i, .int .i64 x.n) else findE r k (i + 1)
theorem run_asking (k : List Int) (hk : k.length = 32) (w : World) : ∀ (l : List Vt) (i j : Nat), (∀ x ∈ l, x.id.length = 32) → (Instr.findAsking 27 (keyV k) (ents j l) i).run Try.prog w = .ok (findE l k i) w
  | [], i, j, _ => by simp [ents, Instr.findAsking, findE]
  | x :: r, i, j, hl => by
    have ih := run_asking k hk w r (i + 1) (j + 1) (fun y hy => hl y (List.mem_cons_of_mem _ hy))
    have he : (Op.equal 27 (keyV k) (keyV x.id)).run Try.prog w = .ok (decide (k = x.id)) w := equal_names 9998 k x.id hk (hl x (List.mem_cons_self ..)) w
    simp only [ents, Instr.findAsking, Sem.run_bind, he, Result.andThen_ok, findE]
    by_cases h : k = x.id
    · simp [h]
    · simp only [h, decide_false, Bool.false_eq_true, if_false]
      exact ih
theorem run_findKey (k : List Int) (hk : k.length = 32) (w : World) (l : List Vt) (hl : ∀ x ∈ l, x.id.length = 32) : (Instr.findKey 27 (keyV k) (ents 0 l)).run Try.prog w = .ok (findE l k 0) w := by
  have ha := run_asking k hk w l 0 0 hl
  cases l with
  | nil => simp [Instr.findKey, run_underlying Try.underlying27, ents, Instr.findNow, findE, Result.andThen]
  | cons x r =>
    simp only [Instr.findKey, Sem.run_bind, run_underlying Try.underlying27, Result.andThen_ok]
    rw [show Instr.findNow (.array 32 5) (keyV k) (ents 0 (x :: r)) 0 = none from by simp [ents, Instr.findNow, Instr.sameNow]]
    exact ha
theorem chk_loop (em : Bool) (d : Nat) (k : List Int) (hk : k.length = 32) (w : World) : ∀ (n s : Nat), s + n = 32 →
    (forIn (List.range' s n) PUnit.unit (fun i _ => (do Instr.checkKey em (d + 1) 5 (← part 5 (U8s k).toArray (i * (← sizeOf 5))); pure (ForInStep.yield PUnit.unit) : Sem (ForInStep PUnit)))).run Try.prog w = .ok PUnit.unit w
  | 0, s, hs => by simp
  | n + 1, s, hs => by
    have ih := chk_loop em d k hk w n (s + 1) (by omega)
    have hc : ∀ v : Int, (Instr.checkKey em (d + 1) 5 (.int .u8 v)).run Try.prog w = .ok () w := fun v => by simp [Instr.checkKey, run_underlying Try.underlying5, Result.andThen]
    obtain ⟨i, hi, hs1⟩ := Option.map_eq_some_iff.1 u8size
    have hsz : (sizeOf 5).run Try.prog w = .ok 1 w := by simp [sizeOf, typeInfo, hi, hs1]
    have hp := part_byte k s (by omega) w
    rw [List.range'_succ, List.forIn_cons]
    simp only [Sem.run_bind, hsz, Result.andThen_ok, Nat.mul_one, hp, hc, Sem.run_pure]
    exact ih
theorem run_checkKey' (em : Bool) (k : List Int) (hk : k.length = 32) (w : World) : (Instr.checkKey em 10000 27 (keyV k)).run Try.prog w = .ok () w := by
  have hl := chk_loop em 9998 k hk w 32 0 rfl
  rw [show (10000 : Nat) = 9999 + 1 from rfl, Instr.checkKey]
  simp only [Sem.run_bind, run_underlying Try.underlying27, Result.andThen_ok, keyV, Std.Legacy.Range.forIn_eq_forIn_range', Std.Legacy.Range.size]
  exact (congrArg (fun r => Result.andThen r _) hl).trans rfl

theorem find_cases (k : List Int) : ∀ (l : List Vt) (i : Nat),
    (∃ j x, l[j]? = some x ∧ x.id = k ∧ findE l k i = some (i + j, .int .i64 x.n) ∧ cntV l k = x.n ∧ ∀ n, gath l k n = l.set j ⟨k, x.n + n⟩) ∨
    ((∀ x ∈ l, x.id ≠ k) ∧ findE l k i = none ∧ cntV l k = 0 ∧ ∀ n, gath l k n = l ++ [⟨k, n⟩])
  | [], i => .inr ⟨fun x h => (by cases h), rfl, rfl, fun _ => rfl⟩
  | y :: r, i => by
    by_cases h : y.id = k
    · left
      refine ⟨0, y, rfl, h, ?_, ?_, fun n => ?_⟩
      · rw [findE, if_pos h.symm]; rfl
      · rw [cntV, if_pos h]
      · rw [gath, if_pos h]; rfl
    · rcases find_cases k r (i + 1) with ⟨j, x, h1, h2, h3, h4, h5⟩ | ⟨h1, h2, h3, h4⟩
      · left
        refine ⟨j + 1, x, by simpa using h1, h2, ?_, ?_, fun n => ?_⟩
        · rw [findE, if_neg (Ne.symm h), h3, show i + 1 + j = i + (j + 1) by omega]
        · rw [cntV, if_neg h, h4]
        · rw [gath, if_neg h, h5]; rfl
      · right
        refine ⟨fun x hx => ?_, ?_, ?_, fun n => ?_⟩
        · rcases List.mem_cons.1 hx with e | hx
          · rw [e]; exact h
          · exact h1 x hx
        · rw [findE, if_neg (Ne.symm h), h2]
        · rw [cntV, if_neg h, h3]
        · rw [gath, if_neg h, h4]; rfl
/-- where a name's entry is, or would be -/
def posE (l : List Vt) (k : List Int) : Nat := match findE l k 0 with
  | some (i, _) => i
  | none => l.length
theorem zeroInt (w : World) : (zeroValue 3).run Try.prog w = .ok (.int .i64 0) w := by kernel_rfl
theorem gath_len {l : List Vt} (hl : ∀ x ∈ l, x.id.length = 32) {k : List Int} (hk : k.length = 32) (n : Int) : ∀ x ∈ gath l k n, x.id.length = 32 := fun x hx => by
  rcases gath_mem hx with h | h
  · exact hl x h
  · rw [h]; exact hk

theorem look_run {w : World} {b : Nat} {l : List Vt} (h : MapI w b l) {k : List Int} (hk : k.length = 32) :
    (Instr.lookup 66 (.map (some b)) (keyV k) false).run Try.prog w = .ok (.int .i64 (cntV l k)) w := by
  have hf := run_findKey k hk w l h.len
  simp only [Instr.lookup, Sem.run_bind, run_underlying Try.underlying66, Result.andThen_ok, MapKept.run_getObj_map h.blk, Sem.run_pure, run_checkKey' _ k hk, hf]
  rcases find_cases k l 0 with ⟨j, x, h1, h2, h3, h4, h5⟩ | ⟨h1, h2, h3, h4⟩
  · rw [h3, h4]; simp
  · rw [h2, h3]; simp
theorem key_stays (k : List Int) (w : World) : (Instr.keyThatStays (keyV k) (keyV k)).run Try.prog w = .ok (keyV k) w := by
  have hs : Instr.sameBits 10000 (keyV k) (keyV k) = true := by
    show ((U8s k).toArray.size == (U8s k).toArray.size && ((U8s k).toArray.toList.zip (U8s k).toArray.toList).all fun (x, y) => Instr.sameBits 9999 x y) = true
    simp only [beq_self_eq_true, Bool.true_and, List.all_eq_true]
    intro p hp
    obtain ⟨i, hi⟩ := List.getElem?_of_mem hp
    rw [List.getElem?_zip_eq_some] at hi
    obtain ⟨h1, h2⟩ := hi
    have e : p.1 = p.2 := by rw [h1] at h2; exact Option.some.inj h2
    obtain ⟨x, _, hx⟩ := List.mem_map.1 (List.mem_of_getElem? h1)
    rw [← e, ← hx]
    simp [Instr.sameBits]
  simp [Instr.keyThatStays, hs]
theorem kp_setBlock {w : World} {b : Nat} (o : Obj) : Kp (fun x => x = b) w (setBlock w b o) := by
  refine ⟨rfl, rfl, rfl, by simp [setBlock], fun x _ hne => ?_⟩
  simp [setBlock, Ne.symm hne]
theorem entry_run {w : World} {b : Nat} {l : List Vt} (h : MapI w b l) {k : List Int} (hk : k.length = 32) :
    ∃ w', (Instr.mapEntry 66 (.map (some b)) (keyV k)).run Try.prog w = .ok (.tuple #[.int .i64 (cntV l k), .int .i64 (posE l k)]) w' ∧ MapI w' b (gath l k 0) ∧ Kp (fun x => x = b) w w' ∧ w'.heap.size = w.heap.size := by
  have hf := run_findKey k hk w l h.len
  rcases find_cases k l 0 with ⟨j, x, h1, h2, h3, h4, h5⟩ | ⟨h1, h2, h3, h4⟩
  · have hj := ents_get 0 l j x h1
    rw [Nat.zero_add] at hj
    have hja : (ents 0 l).toArray[j]? = some ⟨keyV x.id, .int .i64 x.n, j⟩ := by rw [List.getElem?_toArray]; exact hj
    have hg : gath l k 0 = l := by
      rw [h5]
      obtain ⟨hjl, e⟩ := List.getElem?_eq_some_iff.1 h1
      apply List.ext_getElem?
      intro i
      rw [List.getElem?_set]
      split
      · rename_i e2; subst e2; rw [h1]; cases x; subst h2; simp
      · rfl
    refine ⟨setBlock w b (.map ((ents 0 l).toArray.modify j fun e => { e with key := keyV k }) l.length), ?_, ?_, kp_setBlock _, by simp [setBlock]⟩
    · rw [Nat.zero_add] at h3
      simp only [Instr.mapEntry, Sem.run_bind, run_underlying Try.underlying66, Result.andThen_ok, MapKept.run_getObj_map h.blk, run_checkKey' _ k hk, hf, h3, hja, Option.map_some, Option.getD_some, h2, key_stays, MapKept.run_setObj_map _ h.blk, Sem.run_pure]
      rw [h4, posE, h3]; rfl
    · rw [hg]
      refine ⟨?_, h.uq, h.len⟩
      rw [Go.ChangeMaps.heap_setBlock_same h.blk]
      refine congrArg (fun es => some (Obj.map es l.length)) ?_
      apply Array.ext_getElem?
      intro i
      rw [Array.getElem?_modify]
      split
      · rename_i e; subst e; rw [hja, Option.map_some, h2]
      · rfl
  · refine ⟨setBlock w b (.map ((ents 0 l).toArray.push ⟨keyV k, .int .i64 0, l.length⟩) (l.length + 1)), ?_, ?_, kp_setBlock _, by simp [setBlock]⟩
    · simp only [Instr.mapEntry, Sem.run_bind, run_underlying Try.underlying66, Result.andThen_ok, MapKept.run_getObj_map h.blk, run_checkKey' _ k hk, hf, h2, zeroInt, MapKept.run_setObj_map _ h.blk, Sem.run_pure]
      rw [h3, posE, h2]; rfl
    · refine ⟨?_, gath_uniq h.uq k 0, gath_len h.len hk 0⟩
      rw [Go.ChangeMaps.heap_setBlock_same h.blk, h4, ents_append, List.length_append]
      refine congrArg (fun es => some (Obj.map es (l.length + 1))) ?_
      apply Array.ext'
      simp [ents]
theorem posE_gath (l : List Vt) (k : List Int) (n : Int) : ∃ x, (gath l k n)[posE l k]? = some x ∧ x.id = k ∧ x.n = cntV l k + n ∧ ∀ m, (gath l k n).set (posE l k) ⟨k, x.n + m⟩ = gath l k (n + m) := by
  rcases find_cases k l 0 with ⟨j, x, h1, h2, h3, h4, h5⟩ | ⟨h1, h2, h3, h4⟩
  · rw [Nat.zero_add] at h3
    have hjl := (List.getElem?_eq_some_iff.1 h1).1
    rw [posE, h3, h5]
    refine ⟨⟨k, x.n + n⟩, by simp [hjl], rfl, by rw [h4], fun m => ?_⟩
    rw [h5, List.set_set, Int.add_assoc]
  · rw [posE, h2, h4]
    refine ⟨⟨k, n⟩, by simp, rfl, by rw [h3]; simp, fun m => ?_⟩
    rw [h4]
    simp
theorem put_run {w : World} {b : Nat} {l : List Vt} {k : List Int} (hk : k.length = 32) (hu : Uniq l) (hll : ∀ x ∈ l, x.id.length = 32) (h : MapI w b (gath l k 0)) (n : Int) :
    ∃ w', (Instr.entryStore 66 (.map (some b)) (.int .i64 (posE l k)) (.int .i64 (cntV l k + n))).run Try.prog w = .ok () w' ∧ MapI w' b (gath l k n) ∧ Kp (fun x => x = b) w w' ∧ w'.heap.size = w.heap.size := by
  obtain ⟨x, h1, h2, h3, h4⟩ := posE_gath l k 0
  rw [Int.add_zero] at h3
  generalize hp : posE l k = p at h1 h4 ⊢
  have hg := ents_get 0 _ p x h1
  rw [Nat.zero_add] at hg
  have hga : (ents 0 (gath l k 0)).toArray[p]? = some ⟨keyV x.id, .int .i64 x.n, p⟩ := by rw [List.getElem?_toArray]; exact hg
  have hidx : (ents 0 (gath l k 0)).toArray.findIdx? (fun e => ((e.born : Nat) : Int) == ((p : Nat) : Int)) = some p := by
    rw [Go.WideElems.findIdx_arr]
    exact Go.WideElems.findIdx_born (e0 := ⟨keyV x.id, .int .i64 x.n, p⟩) (by rw [List.toList_toArray, ents_born]; exact List.nodup_range') (by rw [List.toList_toArray]; exact hg)
  have hpl := (List.getElem?_eq_some_iff.1 h1).1
  refine ⟨setBlock w b (.map ((ents 0 (gath l k 0)).toArray.modify p fun e => { e with val := .int .i64 (cntV l k + n) }) (gath l k 0).length), ?_, ?_, kp_setBlock _, by simp [setBlock]⟩
  · simp only [Instr.entryStore, Sem.run_bind, MapKept.run_getObj_map h.blk, Result.andThen_ok, asInt, asIntOf, Sem.run_pure, hidx, MapKept.run_setObj_map _ h.blk]
    rfl
  · have e5 := h4 n
    rw [Int.zero_add, h3] at e5
    refine ⟨?_, gath_uniq hu k n, gath_len hll hk n⟩
    rw [Go.ChangeMaps.heap_setBlock_same h.blk, ← e5]
    rw [show ((gath l k 0).set p ⟨k, cntV l k + n⟩).length = (gath l k 0).length by simp, ents_set 0 _ p x _ h1 h2.symm, Nat.zero_add]
    refine congrArg (fun es => some (Obj.map es (gath l k 0).length)) ?_
    apply Array.ext_getElem?
    intro i
    rw [Array.getElem?_modify, List.getElem?_toArray, List.getElem?_toArray, List.getElem?_set, ents_length]
    by_cases e : p = i
    · subst e; simp [hpl, hg]
    · simp [e]
end Go.Proofs.Ytoeinolekpmbbaa
