/-
  Plain lemmas on worlds: what a call may have changed (Kp), a row of bytes in memory (Sees), a block known whole. Nothing of the program stands here.
-/
import Derived.WalkKit
import Derived.ProofKit
import Derived.Laws.AppendOwn
import Derived.Laws.IdiomCopy
import Derived.Deep.QuietTactic
import Derived.BigQuiet
namespace Go.Proofs.Ytleapcbkkggecaa
open Go.RowKit

/-- Only blocks in F, and new ones, have changed. -/
structure Kp (F : Nat → Prop) (w w' : World) : Prop where
  os : w'.os = w.os
  tape : w'.tape = w.tape
  output : w'.output = w.output
  size : w.heap.size ≤ w'.heap.size
  block : ∀ k, k < w.heap.size → ¬ F k → w'.heap[k]? = w.heap[k]?

namespace Kp
variable {F G : Nat → Prop} {a b c w : World}
theorem refl (F : Nat → Prop) (w : World) : Kp F w w := ⟨rfl, rfl, rfl, Nat.le_refl _, fun _ _ _ => rfl⟩
theorem trans (h : Kp F a b) (k : Kp G b c) (hG : ∀ x, x < a.heap.size → G x → F x) : Kp F a c :=
  ⟨k.os.trans h.os, k.tape.trans h.tape, k.output.trans h.output, Nat.le_trans h.size k.size,
    fun x hx hF => (k.block x (Nat.lt_of_lt_of_le hx h.size) (fun hg => hF (hG x hx hg))).trans (h.block x hx hF)⟩
theorem mono (h : Kp G a b) (hG : ∀ x, x < a.heap.size → G x → F x) : Kp F a b :=
  ⟨h.os, h.tape, h.output, h.size, fun x hx hF => h.block x hx (fun hg => hF (hG x hx hg))⟩
theorem drew (h : Kp F a w) : Kp F a w.drew := ⟨h.os, h.tape, h.output, h.size, h.block⟩
theorem drewN (h : Kp F a w) (n : Nat) : Kp F a (w.drewN n) := ⟨h.os, h.tape, h.output, h.size, h.block⟩
theorem alloc (h : Kp F a w) (o : Obj) : Kp F a (w.alloc o) :=
  h.trans (G := fun _ => False) ⟨rfl, rfl, rfl, by simp, fun k hk _ => Below.heap_alloc _ _ _ hk⟩ (fun _ _ h => h.elim)
theorem setCell (h : Kp F a w) {p : Addr} (hp : p.block < a.heap.size → F p.block) (u : Value) : Kp F a (w.setCell p u) :=
  h.trans (G := fun k => k = p.block) ⟨rfl, rfl, rfl, by simp [World.setCell], fun k _ hne => Below.heap_setCell _ _ _ _ hne⟩ (fun x hx e => by subst e; exact hp hx)
theorem of_grownBy {row : Option Nat} (h : a.grownBy b row) : Kp (fun k => row = some k) a b :=
  ⟨h.os, h.tape, h.output, h.size, fun k hk hne => h.block k hk (fun e => hne e.symm)⟩
theorem of_below {B : Nat} (h : Below B a b) : Kp (fun k => B ≤ k) a b :=
  ⟨h.os, h.tape, h.output, h.size, fun k _ hne => h.block k (by simpa using hne)⟩
theorem below {B : Nat} (h : Kp F a b) (hB : B ≤ a.heap.size) (hF : ∀ k, F k → B ≤ k) : Below B a b :=
  ⟨h.os, h.tape, h.output, h.size, fun k hk => h.block k (by omega) (fun hf => by have := hF k hf; omega)⟩
theorem cell (h : Kp F a b) {p : Addr} (hp : p.block < a.heap.size) (hF : ¬ F p.block) : b.cell? p = a.cell? p := World.cell?_of_block (w := a) (h.block p.block hp hF)
theorem frozen (h : Kp F a b) {p : Addr} (hp : p.block < a.heap.size) (hF : ¬ F p.block) : b.frozen? p = a.frozen? p := World.frozen?_of_block (w := a) (h.block p.block hp hF)
end Kp

theorem lt_of_blk {w : World} {g : Nat} {o : Obj} (h : w.heap[g]? = some o) : g < w.heap.size := by
  obtain ⟨h', _⟩ := Array.getElem?_eq_some_iff.1 h
  exact h'
/-- a block known whole: its cells -/
theorem cell_blk {w : World} {g t : Nat} {cs : Array Value} {fr : Nat × Nat} (h : w.heap[g]? = some (.cells cs t fr)) (i : Nat) : w.cell? ⟨g, i, none⟩ = cs[i]? := by
  simp [World.cell?, h]
theorem free_blk {w : World} {g t : Nat} {cs : Array Value} (h : w.heap[g]? = some (.cells cs t (0, 0))) (i : Nat) : w.frozen? ⟨g, i, none⟩ = false := by
  simp [World.frozen?, h]
theorem set_blk {w : World} {g t : Nat} {cs : Array Value} {fr : Nat × Nat} (h : w.heap[g]? = some (.cells cs t fr)) (i : Nat) (u : Value) :
    (w.setCell ⟨g, i, none⟩ u).heap[g]? = some (.cells (cs.setIfInBounds i u) t fr) := by
  simp only [World.setCell, Array.getElem?_modify, ↓reduceIte, h, Option.map_some]
  simp
theorem new_blk (w : World) (o : Obj) : (w.alloc o).heap[w.heap.size]? = some o := by
  show (w.heap.push o)[w.heap.size]? = some o
  rw [Array.getElem?_push, if_pos rfl]
theorem old_blk {w : World} {g : Nat} {o : Obj} (h : w.heap[g]? = some o) (x : Obj) : (w.alloc x).heap[g]? = some o := by
  rw [Below.heap_alloc _ _ _ (lt_of_blk h), h]
theorem other_blk {w : World} {g : Nat} {o : Obj} (h : w.heap[g]? = some o) {p : Addr} (hp : g ≠ p.block) (u : Value) : (w.setCell p u).heap[g]? = some o := by
  rw [Below.heap_setCell _ _ _ _ hp, h]
theorem kept_blk {F : Nat → Prop} {w w' : World} {g : Nat} {o : Obj} (h : w.heap[g]? = some o) (k : Kp F w w') (hg : ¬ F g) : w'.heap[g]? = some o := by
  rw [k.block g (lt_of_blk h) hg, h]

theorem own_some {b o n c g : Nat} {s : Option Nat} (h : (Value.slice (some ⟨b, o, s⟩) n c).ownBlock = some g) : b = g := by injection h

/-- bytes as cells -/
def U8s (xs : List Int) : List Value := xs.map (.int .u8)
theorem U8s_length (xs : List Int) : (U8s xs).length = xs.length := by simp [U8s]
theorem U8s_append (xs ys : List Int) : U8s (xs ++ ys) = U8s xs ++ U8s ys := by simp [U8s]
theorem U8s_get {xs : List Int} {i : Nat} {x : Int} (h : xs[i]? = some x) : (U8s xs)[i]? = some (.int .u8 x) := by simp [U8s, h]
theorem U8s_inv {xs : List Int} {j : Nat} {v : Value} (h : (U8s xs)[j]? = some v) : ∃ x, xs[j]? = some x ∧ v = .int .u8 x := by
  rw [U8s, List.getElem?_map, Option.map_eq_some_iff] at h
  obtain ⟨x, hx, rfl⟩ := h
  exact ⟨x, hx, rfl⟩
theorem U8s_one (xs : List Int) : ∀ u ∈ U8s xs, u.oneCell' = true := by
  intro u hu
  obtain ⟨_, _, rfl⟩ := List.mem_map.1 hu
  rfl

/-- a slice that shows these bytes -/
def Sees (w : World) (v : Value) (xs : List Int) : Prop :=
  (v = .slice none 0 0 ∧ xs = []) ∨
  ∃ ad cap, v = .slice (some ad) xs.length cap ∧ xs.length ≤ cap ∧ cap ≤ maxLen ∧ ∀ i x, xs[i]? = some x → w.cell? (ad.add i) = some (.int .u8 x)
theorem add_block (ad : Addr) (i : Nat) : (ad.add i).block = ad.block := by unfold Addr.add; split <;> rfl
theorem lt_of_cell {w : World} {p : Addr} {u : Value} (h : w.cell? p = some u) : p.block < w.heap.size := by
  unfold World.cell? at h
  split at h
  · rename_i hb; exact lt_of_blk hb
  · cases h
theorem spot_of_cell {w : World} {p : Addr} {u : Value} (h : w.cell? p = some u) : p.spot = none := by
  unfold World.cell? at h
  split at h
  · split at h
    · cases h
    · rename_i hs; simpa using hs
  · cases h
theorem Sees.kept {F : Nat → Prop} {w w' : World} {v : Value} {xs : List Int} (h : Sees w v xs) (k : Kp F w w') (hF : xs ≠ [] → ∀ g, v.ownBlock = some g → ¬ F g) : Sees w' v xs := by
  rcases h with h | ⟨ad, cap, rfl, h1, h2, h4⟩
  · exact .inl h
  · refine .inr ⟨ad, cap, rfl, h1, h2, fun i x hi => ?_⟩
    have hne : xs ≠ [] := by intro e; subst e; cases hi
    have hc := h4 i x hi
    have hb := lt_of_cell hc
    exact (k.cell hb (by rw [add_block]; exact hF hne ad.block rfl)).trans hc
theorem Sees.mk {w : World} {b off cap : Nat} {xs : List Int} (h1 : xs.length ≤ cap) (h2 : cap ≤ maxLen) (h : ∀ i x, xs[i]? = some x → w.cell? ⟨b, off + i, none⟩ = some (.int .u8 x)) : Sees w (.slice (some ⟨b, off, none⟩) xs.length cap) xs :=
  .inr ⟨_, cap, rfl, h1, h2, fun i x hi => by rw [Addr.add_lit]; exact h i x hi⟩
theorem Sees.lt {W : World} {b : Value} {xs : List Int} (hs : Sees W b xs) (hne : xs ≠ []) : ∀ g, b.ownBlock = some g → g < W.heap.size := by
  rcases hs with ⟨_, h⟩ | ⟨ad, cap, rfl, _, _, h⟩
  · exact absurd h hne
  · intro g hg
    obtain ⟨x, r, rfl⟩ : ∃ x r, xs = x :: r := List.exists_cons_of_ne_nil hne
    have hc := lt_of_cell (h 0 x rfl)
    rw [add_block] at hc
    have e : ad.block = g := by injection hg
    omega

/-- the last k digits of v to the base 256, the highest first -/
def be : Nat → Int → List Int
  | 0, _ => []
  | k + 1, v => v / 256 ^ k % 256 :: be k v
theorem be_length (k : Nat) (v : Int) : (be k v).length = k := by
  induction k with
  | zero => rfl
  | succ k ih => simp [be, ih]

/-- one store more ahead of what stands there -/
theorem set_mid (pre mid ds post : List Value) (i : Nat) (u : Value) (hm : mid.length = i + 1) :
    (pre ++ mid ++ ds ++ post).toArray.setIfInBounds (pre.length + i) u = (pre ++ mid.take i ++ (u :: ds) ++ post).toArray := by
  obtain ⟨m, z, rfl⟩ : ∃ m z, mid = m ++ [z] := ⟨mid.dropLast, mid.getLast (by intro h; simp [h] at hm), by rw [List.dropLast_concat_getLast]⟩
  have hi : m.length = i := by simpa using hm
  subst hi
  apply Array.ext'
  simp
theorem get_mid (pre mid ds post : List Value) (i : Nat) (hm : mid.length = i + 1) : ∃ u, (pre ++ mid ++ ds ++ post).toArray[pre.length + i]? = some u := by
  refine ⟨mid[i], ?_⟩
  rw [List.getElem?_toArray, List.append_assoc, List.append_assoc, List.getElem?_append_right (by omega), List.getElem?_append_left (by omega)]
  simp
/-- cells stored one behind the other into a row -/
theorem setCells_blk (g t : Nat) : ∀ (vs a b c : List Value) (w : World), w.heap[g]? = some (.cells (a ++ b ++ c).toArray t (0, 0)) → b.length = vs.length →
    (w.setCells g a.length vs).heap[g]? = some (.cells (a ++ vs ++ c).toArray t (0, 0)) ∧ Kp (fun k => k = g) w (w.setCells g a.length vs) ∧ (w.setCells g a.length vs).heap.size = w.heap.size
  | [], a, b, c, w, h, hb => by
    obtain rfl : b = [] := List.eq_nil_of_length_eq_zero hb
    exact ⟨h, Kp.refl _ _, rfl⟩
  | v :: vs, a, b, c, w, h, hb => by
    obtain ⟨x, b', rfl⟩ : ∃ x b', b = x :: b' := by
      cases b with
      | nil => cases hb
      | cons x b' => exact ⟨x, b', rfl⟩
    have h1 : (w.setCell ⟨g, a.length, none⟩ v).heap[g]? = some (.cells ((a ++ [v]) ++ b' ++ c).toArray t (0, 0)) := by
      rw [set_blk h]
      congr 2
      apply Array.ext'
      simp
    obtain ⟨i1, i2, i3⟩ := setCells_blk g t vs (a ++ [v]) b' c (w.setCell ⟨g, a.length, none⟩ v) h1 (by simpa using hb)
    rw [show (a ++ [v]).length = a.length + 1 by simp] at i1 i2 i3
    refine ⟨?_, ?_, ?_⟩
    · show ((w.setCell ⟨g, a.length, none⟩ v).setCells g (a.length + 1) vs).heap[g]? = _
      rw [i1]; simp
    · show Kp _ w ((w.setCell ⟨g, a.length, none⟩ v).setCells g (a.length + 1) vs)
      exact (Kp.setCell (F := fun k => k = g) (Kp.refl _ w) (p := ⟨g, a.length, none⟩) (fun _ => rfl) v).trans i2 (fun _ _ h => h)
    · show ((w.setCell ⟨g, a.length, none⟩ v).setCells g (a.length + 1) vs).heap.size = _
      rw [i3, World.size_setCell]

/-- all of them bytes -/
def Rng (xs : List Int) : Prop := ∀ x ∈ xs, 0 ≤ x ∧ x ≤ 255
theorem Rng.append {xs ys : List Int} (h : Rng xs) (k : Rng ys) : Rng (xs ++ ys) := fun x hx => by
  rcases List.mem_append.1 hx with h1 | h1
  · exact h x h1
  · exact k x h1
theorem be_rng (k : Nat) (v : Int) : Rng (be k v) := by
  induction k with
  | zero => intro x hx; cases hx
  | succ k ih =>
    intro x hx
    rcases List.mem_cons.1 hx with h1 | h1
    · subst h1; omega
    · exact ih x h1

end Go.Proofs.Ytleapcbkkggecaa
