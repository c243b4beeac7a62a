/-
  Contract of package sha's mix: a state's words behind 64 bytes more.
-/
import Derived.Test.YtleapcbkkggecaaSha
namespace Go.Proofs.Ytleapcbkkggecaa
open Go.ChangeShapes Go.WideShapes Go.ChangeAt Go.RowKit

/-- a state's cells -/
def stL (l part : List Int) (came : Int) : List Value := .bool true :: (U32s l ++ U8s part ++ [.int .i64 came])
def stC (H : St) (part : List Int) (came : Int) : List Value := stL H.list part came
theorem kTab_length : kTab.length = 64 := by decide
theorem kTab_w32 : Ws kTab := by
  have h : kTab.all (fun x => decide (0 ≤ x) && decide (x < 4294967296)) = true := by decide +kernel
  intro x hx
  have := List.all_eq_true.1 h x hx
  simpa [W32] using this
/-- all of them words -/
structure St.ok (s : St) : Prop where
  a : W32 s.a
  b : W32 s.b
  c : W32 s.c
  d : W32 s.d
  e : W32 s.e
  f : W32 s.f
  g : W32 s.g
  h : W32 s.h
theorem step_ok {s : St} (h : s.ok) (k w : Int) : (step s k w).ok := ⟨addw_w32 _ _, h.a, h.b, h.c, addw_w32 _ _, h.e, h.f, h.g⟩
theorem addS_ok (x y : St) : (addS x y).ok := ⟨addw_w32 _ _, addw_w32 _ _, addw_w32 _ _, addw_w32 _ _, addw_w32 _ _, addw_w32 _ _, addw_w32 _ _, addw_w32 _ _⟩
theorem rounds_ok (m : List Int) {s : St} (h : s.ok) (n : Nat) : (rounds m s n).ok := by
  induction n with
  | zero => exact h
  | succ n ih => exact step_ok ih _ _
theorem comp_ok (s : St) (bs : List Int) : (comp s bs).ok := addS_ok _ _
theorem h0_ok : h0.ok := by constructor <;> (unfold W32; decide)
theorem St.ok.ws {s : St} (h : s.ok) : Ws s.list := by
  intro x hx
  simp only [St.list, List.mem_cons, List.not_mem_nil, or_false] at hx
  rcases hx with e | e | e | e | e | e | e | e <;> subst e
  · exact h.a
  · exact h.b
  · exact h.c
  · exact h.d
  · exact h.e
  · exact h.f
  · exact h.g
  · exact h.h

/-- one place of a row of words -/
theorem index_words {t : TypeId} {n : Nat} {e : TypeId} (hu : Try.prog.underlying t = some (.array n e)) (he : Try.prog.underlying e = some (.int .u32)) (hq : (Try.prog.info? e).map (·.size) = some 1) (l : List Int) (hl : l.length = n) (k : Nat) (hk : k < n) (w : World) :
    (Instr.index t (.agg (U32s l).toArray) (.int .i64 k)).run Try.prog w = .ok (.int .u32 (l.getD k 0)) w := by
  obtain ⟨i, hi, hs⟩ := Option.map_eq_some_iff.1 hq
  have h0 : (0 : Int) ≤ k := by omega
  have hg : (U32s l)[k]? = some (.int .u32 (l.getD k 0)) := by simp [U32s, show k < l.length by omega]
  simp [Instr.index, run_underlying hu, asIntOf, h0, hk, go_sem, sizeOf, typeInfo, hi, hs, hg, isAgg, run_underlying he]
/-- a row stored into a block made just now: the world behind it by its facts -/
theorem wpList_store_fresh {P : Program} {ops : Array Oper} {rest : List Oper} {o : Oper} {a : Act} {w : World} {Q : Exit → Act → World → Prop} (hgd : o.guard = none) (ty : TypeId) (x y : Operand) (ho : o.op = .store ty x y)
    (cells : Array Value) (hx : a.eval x = .pointer (some ⟨w.heap.size, 0, none⟩)) (hy : a.eval y = .agg cells)
    (t : TypeId) (old : Array Value) (hi : (P.info? ty).map (·.size) = some cells.size)
    (hold : old.size = cells.size) (h1 : cells.all (·.oneCell') = true)
    (h : ∀ w2, Kp (fun _ => False) w w2 → w2.heap[w.heap.size]? = some (.cells cells t (0, 0)) → w2.heap.size = w.heap.size + 1 → wpList P ops Q rest (a.put o.dst undef) w2) :
    wpList P ops Q (o :: rest) a (w.alloc (.cells old t)) :=
  wpList_store_row hgd ty x y ho w.heap.size cells hx hy t old (new_blk _ _) hi hold h1
    (h _ (((Kp.refl _ w).alloc _).setRow (by simp) _) (setRow_blk (new_blk _ _)) (by simp))
theorem wpList_store_fresh_at {P : Program} {ops : Array Oper} {rest : List Oper} {o : Oper} {a : Act} {w : World} {Q : Exit → Act → World → Prop} (hgd : o.guard = none) (ty : TypeId) (x y : Operand) (ho : o.op = .store ty x y)
    (cells : Array Value) (g : Nat) (hz : w.heap.size = g) (hx : a.eval x = .pointer (some ⟨g, 0, none⟩)) (hy : a.eval y = .agg cells)
    (t : TypeId) (old : Array Value) (hi : (P.info? ty).map (·.size) = some cells.size)
    (hold : old.size = cells.size) (h1 : cells.all (·.oneCell') = true)
    (h : ∀ w2, Kp (fun _ => False) w w2 → w2.heap[g]? = some (.cells cells t (0, 0)) → w2.heap.size = g + 1 → wpList P ops Q rest (a.put o.dst undef) w2) :
    wpList P ops Q (o :: rest) a (w.alloc (.cells old t)) := by
  subst hz
  exact wpList_store_fresh hgd ty x y ho cells hx hy t old hi hold h1 h
theorem st_part (H : St) (part : List Int) (came : Int) (i : Nat) (hi : i < part.length) : (stC H part came).toArray[9 + i]? = some (.int .u8 (part.getD i 0)) := by
  have e : (stC H part came) = (.bool true :: U32s H.list) ++ (U8s part ++ [.int .i64 came]) := by simp [stC, stL]
  rw [e, List.getElem?_toArray, List.getElem?_append_right (by simp [U32s, St.list]), show 9 + i - (Value.bool true :: U32s H.list).length = i by simp [U32s, St.list],
    List.getElem?_append_left (by rw [U8s_length]; exact hi)]
  simp [U8s, hi]
theorem add_get (x y : St) (k : Nat) (hk : k < 8) : (addS x y).list.getD k 0 = (x.list.getD k 0 + y.list.getD k 0) % 4294967296 := by
  match k, hk with
  | 0, _ => rfl
  | 1, _ => rfl
  | 2, _ => rfl
  | 3, _ => rfl
  | 4, _ => rfl
  | 5, _ => rfl
  | 6, _ => rfl
  | 7, _ => rfl
theorem drewN_two (w : World) (m n : Nat) : (w.drewN m).drewN n = w.drewN (m + n) := by
  simp [World.drewN, Nat.add_assoc]
end Go.Proofs.Ytleapcbkkggecaa
