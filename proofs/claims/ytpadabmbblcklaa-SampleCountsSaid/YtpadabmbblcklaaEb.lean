/-
  Slices of numbers of any kind, and rows of int64 of one's own.
-/
import Derived.Test.YtpadabmbblcklaaEa
import Derived.Test.YtpadabmbblcklaaGr
import Derived.Laws.MakeOwn
namespace Go.Proofs.Ytpadabmbblcklaa
open Go.RowKit

/-- a slice that shows these numbers -/
def SeesZ (k : IntKind) (w : World) (v : Value) (l : List Int) : Prop :=
  ∃ a cap, v = .slice a l.length cap ∧ l.length ≤ cap ∧ cap ≤ maxLen ∧ (a = none → cap = 0) ∧ ∀ i x, l[i]? = some x → ∃ g off, a = some ⟨g, off, none⟩ ∧ w.cell? ⟨g, off + i, none⟩ = some (.int k x)
def ZOk (lo hi : Int) (l : List Int) : Prop := ∀ x ∈ l, lo ≤ x ∧ x ≤ hi
/-- these lie outside G -/
def ApartZ (G : Nat → Prop) (v : Value) (l : List Int) : Prop := l ≠ [] → ∀ g, v.ownBlock = some g → ¬ G g
theorem SeesZ.keptG {k : IntKind} {G : Nat → Prop} {w w' : World} {v : Value} {l : List Int} (h : SeesZ k w v l) (kp : Kp G w w') (hG : ApartZ G v l) : SeesZ k w' v l := by
  obtain ⟨a, cap, rfl, h1, h2, h3, h4⟩ := h
  exact ⟨a, cap, rfl, h1, h2, h3, fun i x hi => by
    obtain ⟨g, off, e, hr⟩ := h4 i x hi
    subst e
    exact ⟨g, off, rfl, by rw [kp.cell (lt_of_cell hr) (hG (by intro e; subst e; cases hi) g rfl)]; exact hr⟩⟩
theorem SeesZ.kept {k : IntKind} {w w' : World} {v : Value} {l : List Int} (h : SeesZ k w v l) (kp : Kp (fun _ => False) w w') : SeesZ k w' v l := h.keptG kp (fun _ _ _ f => f)
theorem SeesZ.form {k : IntKind} {w : World} {v : Value} {l : List Int} (h : SeesZ k w v l) : ∃ a c, v = .slice a l.length c ∧ l.length ≤ c ∧ c ≤ 9223372036854775807 ∧ (a = none → c = 0) := by
  obtain ⟨a, cap, rfl, h1, h2, h3, _⟩ := h
  exact ⟨_, _, rfl, h1, h2, h3⟩
theorem SeesZ.lt {k : IntKind} {w : World} {v : Value} {l : List Int} (h : SeesZ k w v l) (hne : l ≠ []) : ∀ g, v.ownBlock = some g → g < w.heap.size := by
  obtain ⟨a, cap, rfl, h1, h2, h3, h4⟩ := h
  intro g hg
  obtain ⟨x, r, rfl⟩ := List.exists_cons_of_ne_nil hne
  obtain ⟨g', off, e, hr⟩ := h4 0 x rfl
  subst e
  cases hg
  exact lt_of_cell hr
theorem SeesZ.at {k : IntKind} {w : World} {a : Option Addr} {n c : Nat} {l : List Int} (h : SeesZ k w (.slice a n c) l) {i : Nat} {x : Int} (hk : l[i]? = some x) :
    ∃ g off, a = some ⟨g, off, none⟩ ∧ w.cell? ⟨g, off + i, none⟩ = some (.int k x) := by
  obtain ⟨a', cap, e, _, _, _, h4⟩ := h
  obtain ⟨g, off, e2, hr⟩ := h4 i x hk
  injection e with e1 _ _
  exact ⟨g, off, by rw [e1, e2], hr⟩
theorem SeesZ.nil (k : IntKind) (w : World) : SeesZ k w (.slice none 0 0) [] := ⟨none, 0, rfl, Nat.le_refl _, Nat.zero_le _, fun _ => rfl, by intro i x h; cases h⟩

/-- the cells of numbers -/
def encZ (k : IntKind) (l : List Int) : List Value := l.map (Value.int k)
theorem encZ_length (k : IntKind) (l : List Int) : (encZ k l).length = l.length := by simp [encZ]
theorem encZ_get {k : IntKind} {l : List Int} {i : Nat} {x : Int} (h : l[i]? = some x) : (encZ k l)[i]? = some (.int k x) := by simp [encZ, h]
theorem encZ_inv {k : IntKind} {l : List Int} {i : Nat} {v : Value} (h : (encZ k l)[i]? = some v) : ∃ x, l[i]? = some x ∧ v = .int k x := by
  unfold encZ at h
  rw [List.getElem?_map] at h
  cases hx : l[i]? with
  | none => rw [hx] at h; cases h
  | some x => rw [hx] at h; cases h; exact ⟨x, rfl, rfl⟩
theorem encZ_append (k : IntKind) (a b : List Int) : encZ k (a ++ b) = encZ k a ++ encZ k b := by simp [encZ]
theorem encZ_one (k : IntKind) (l : List Int) : ∀ v ∈ encZ k l, v.oneCell' = true := by
  intro v hv
  obtain ⟨x, _, rfl⟩ := List.mem_map.1 hv
  rfl
/-- a row of one's own shows what it holds -/
theorem OwnG.seesZ {T : Nat} {w : World} {B : Nat} {k : IntKind} {v : Value} {l : List Int} (h : OwnG T 1 w B v l.length (encZ k l)) : SeesZ k w v l := by
  obtain ⟨h0, ⟨rfl, e⟩ | ⟨g, cap, rest, rfl, h1, h2, h3, h4, h5⟩⟩ := h
  · obtain rfl := List.eq_nil_of_length_eq_zero e
    exact SeesZ.nil k w
  · refine ⟨_, _, rfl, h4, h5, (fun e => by cases e), fun i x hi => ⟨g, 0, rfl, ?_⟩⟩
    rw [cell_blk h2, Nat.zero_add, List.getElem?_toArray, List.getElem?_append_left (by rw [encZ_length]; exact (List.getElem?_eq_some_iff.1 hi).1)]
    exact encZ_get hi
/-- a block that holds them whole, from its beginning on -/
theorem seesZ_blk {T : Nat} {w : World} {k : IntKind} {g : Nat} {l : List Int} {rest : List Value} {cap : Nat} (h : w.heap[g]? = some (.cells (encZ k l ++ rest).toArray T (0, 0))) (hc : l.length ≤ cap) (hm : cap ≤ maxLen) : SeesZ k w (.slice (some ⟨g, 0, none⟩) l.length cap) l := by
  refine ⟨_, _, rfl, hc, hm, (fun e => by cases e), fun i x hi => ⟨g, 0, rfl, ?_⟩⟩
  rw [cell_blk h, Nat.zero_add, List.getElem?_toArray, List.getElem?_append_left (by rw [encZ_length]; exact (List.getElem?_eq_some_iff.1 hi).1)]
  exact encZ_get hi
/-- n zeroes, so many of them put -/
def zrow (k : IntKind) (n : Nat) (l : List Int) : List Value := encZ k l ++ List.replicate (n - l.length) (.int k 0)
theorem zrow_length {k : IntKind} {n : Nat} {l : List Int} (h : l.length ≤ n) : (zrow k n l).length = n := by simp [zrow, encZ_length]; omega
theorem zrow_put {k : IntKind} {n : Nat} {l : List Int} (x : Int) (h : l.length < n) : (zrow k n l).toArray.setIfInBounds l.length (.int k x) = (zrow k n (l ++ [x])).toArray := by
  apply Array.ext'
  simp only [Array.toList_setIfInBounds, zrow]
  have e : n - l.length = (n - (l ++ [x]).length) + 1 := by simp; omega
  rw [List.set_append_right _ _ (by rw [encZ_length]; omega), encZ_length, Nat.sub_self, e, List.replicate_succ, List.set_cons_zero, encZ_append]
  simp [encZ]
theorem zrow_full {k : IntKind} {n : Nat} {l : List Int} (h : l.length = n) : zrow k n l = encZ k l ++ [] := by simp [zrow, h]
theorem zrow_nil (k : IntKind) (n : Nat) : zrow k n [] = List.replicate n (.int k 0) := by simp [zrow, encZ]
theorem madeCells_one (z : Array Value) (v : Value) (hz : ∀ i, i < z.size → z[i]! = v) (h1 : 0 < z.size) (n : Nat) : madeCells z n = (List.replicate n v).toArray := by
  apply Array.ext
  · simp [size_madeCells]
  · intro i h1' h2'
    simp only [madeCells, Array.getElem_map, Array.getElem_range, List.getElem_toArray, List.getElem_replicate]
    exact hz _ (Nat.mod_lt _ h1)
theorem infoI64 : (Try.prog.info? 2).map (fun i => (i.zero, i.size, i.bytes)) = some (some (.int .i64 0), 1, 8) := by kernel_rfl
theorem infoInt : (Try.prog.info? 3).map (fun i => (i.zero, i.size, i.bytes)) = some (some (.int .i64 0), 1, 8) := by kernel_rfl
theorem infoU64 : (Try.prog.info? 31).map (fun i => (i.zero, i.size, i.bytes)) = some (some (.int .u64 0), 1, 8) := by kernel_rfl
theorem mkI64 (n : Nat) (hn : n ≤ 1000) (w : World) : (Instr.makeSlice 24 (.int .i64 (n : Int)) (.int .i64 (n : Int))).run Try.prog w = .ok (.slice (some ⟨w.heap.size, 0, none⟩) n n) (w.alloc (.cells (zrow .i64 n []).toArray 2)) := by
  obtain ⟨i, h1, h2, h3, h4⟩ := info_parts infoI64
  have h := run_makeSlice w 24 2 i _ Try.underlying24 h1 h2 .i64 .i64 n n (by omega) (by omega) (by rw [h3]; omega) (by rw [h4]; omega) (by omega)
  rw [h, h3, Int.toNat_natCast, Nat.mul_one, zrow_nil]
  have e : madeCells (Value.int .i64 0).cells n = (List.replicate n (.int .i64 0)).toArray := by
    apply madeCells_one
    · intro i hi
      have : i = 0 := by have : i < 1 := hi; omega
      subst this; rfl
    · show 0 < 1; omega
  rw [e]
theorem mkInt (n : Nat) (hn : n ≤ 1000) (w : World) : (Instr.makeSlice 37 (.int .i64 (n : Int)) (.int .i64 (n : Int))).run Try.prog w = .ok (.slice (some ⟨w.heap.size, 0, none⟩) n n) (w.alloc (.cells (zrow .i64 n []).toArray 3)) := by
  obtain ⟨i, h1, h2, h3, h4⟩ := info_parts infoInt
  have h := run_makeSlice w 37 3 i _ Try.underlying37 h1 h2 .i64 .i64 n n (by omega) (by omega) (by rw [h3]; omega) (by rw [h4]; omega) (by omega)
  rw [h, h3, Int.toNat_natCast, Nat.mul_one, zrow_nil]
  have e : madeCells (Value.int .i64 0).cells n = (List.replicate n (.int .i64 0)).toArray := by
    apply madeCells_one
    · intro i hi
      have : i = 0 := by have : i < 1 := hi; omega
      subst this; rfl
    · show 0 < 1; omega
  rw [e]
end Go.Proofs.Ytpadabmbblcklaa
