/-
  The lemmas that the texts behind lean on, laid together.
-/
import Derived.Test.YtoeinolekpmbbaaRows
import Derived.Test.YtoeinolekpmbbaaChecked
import Derived.WalkKit
import Derived.ProofKit
import Derived.Laws.AppendOwn
import Derived.Laws.IdiomCopy
import Derived.Deep.QuietTactic
import Derived.BigQuiet
import Derived.Laws.BitsAllLaws
import Derived.Laws.Closers25b
import Derived.Outline
import Derived.Lib.Hide
import Derived.WalkLawsBesides
import Derived.WalkSpells
import Derived.Laws.Rows
import Derived.Laws.Tables
import Derived.Deep.MidRow
import Derived.Deep.DeepMust
import Derived.StillTailTactics
import Derived.IntWalk
import Derived.Laws.CopyOwn
import Derived.DataElems
import Derived.Laws.BytesArg
import Derived.Laws.BytesString
import Derived.Lib.Bytealg
import Derived.Laws.Externs
import Derived.BigRegion
import Derived.Laws.StructEq
import Derived.Lib.SlBytesConst
import Derived.OpenShut
import Derived.Carry
import Derived.BigFrame
import Derived.Deep.AppendSrc
import Derived.ChangeSlices
import Derived.Deep.Slices
import Derived.Lib.AppendZerosOnto
import Derived.Deep.RegionLaw
import Derived.Lib.AppendZeros
import Derived.Lib.LazyBuf
import Derived.Lib.SlBuf
import Derived.Lib.BufferWrite
import Derived.Laws.CopyRow
import Derived.Lib.ConvBytes
import Derived.Laws.OwnMore
import Derived.OwnWalk
import Derived.Deep.DeepCutAuto
import Derived.Laws.MakeOwn
import Derived.Lib.SliceRun
import Derived.Deep.Fields
import Derived.Deep.Strs
/-
  Plain lemmas on worlds: what a call may have changed (Kp), a row of bytes in memory (Sees), a block known whole. Nothing of the program stands here.
-/
namespace Go.Proofs.Ytoeinolekpmbbaa
open Go.RowKit

/-- Only blocks in F, and new ones, have changed. -/
structure Kp (F : Nat → Prop) (w w' : World) : Prop where
  os : w'.os = w.os
  tape : w'.tape = w.tape
  output : w'.output = w.output
  size : w.heap.size ≤ w'.heap.size
  block : ∀ k, k < w.heap.size → ¬ F k → w'.heap[k]? = w.heap[k]?

namespace Kp
variable {F G : Nat → Prop} {a b c w : World}
theorem refl (F : Nat → Prop) (w : World) : Kp F w w := ⟨rfl, rfl, rfl, Nat.le_refl _, fun _ _ _ => rfl⟩
theorem trans (h : Kp F a b) (k : Kp G b c) (hG : ∀ x, x < a.heap.size → G x → F x) : Kp F a c :=
  ⟨k.os.trans h.os, k.tape.trans h.tape, k.output.trans h.output, Nat.le_trans h.size k.size,
    fun x hx hF => (k.block x (Nat.lt_of_lt_of_le hx h.size) (fun hg => hF (hG x hx hg))).trans (h.block x hx hF)⟩
theorem mono (h : Kp G a b) (hG : ∀ x, x < a.heap.size → G x → F x) : Kp F a b :=
  ⟨h.os, h.tape, h.output, h.size, fun x hx hF => h.block x hx (fun hg => hF (hG x hx hg))⟩
theorem drew (h : Kp F a w) : Kp F a w.drew := ⟨h.os, h.tape, h.output, h.size, h.block⟩
theorem drewN (h : Kp F a w) (n : Nat) : Kp F a (w.drewN n) := ⟨h.os, h.tape, h.output, h.size, h.block⟩
theorem alloc (h : Kp F a w) (o : Obj) : Kp F a (w.alloc o) :=
  h.trans (G := fun _ => False) ⟨rfl, rfl, rfl, by simp, fun k hk _ => Below.heap_alloc _ _ _ hk⟩ (fun _ _ h => h.elim)
theorem setCell (h : Kp F a w) {p : Addr} (hp : p.block < a.heap.size → F p.block) (u : Value) : Kp F a (w.setCell p u) :=
  h.trans (G := fun k => k = p.block) ⟨rfl, rfl, rfl, by simp [World.setCell], fun k _ hne => Below.heap_setCell _ _ _ _ hne⟩ (fun x hx e => by subst e; exact hp hx)
theorem of_grownBy {row : Option Nat} (h : a.grownBy b row) : Kp (fun k => row = some k) a b :=
  ⟨h.os, h.tape, h.output, h.size, fun k hk hne => h.block k hk (fun e => hne e.symm)⟩
theorem of_below {B : Nat} (h : Below B a b) : Kp (fun k => B ≤ k) a b :=
  ⟨h.os, h.tape, h.output, h.size, fun k _ hne => h.block k (by simpa using hne)⟩
theorem below {B : Nat} (h : Kp F a b) (hB : B ≤ a.heap.size) (hF : ∀ k, F k → B ≤ k) : Below B a b :=
  ⟨h.os, h.tape, h.output, h.size, fun k hk => h.block k (by omega) (fun hf => by have := hF k hf; omega)⟩
theorem cell (h : Kp F a b) {p : Addr} (hp : p.block < a.heap.size) (hF : ¬ F p.block) : b.cell? p = a.cell? p := World.cell?_of_block (w := a) (h.block p.block hp hF)
theorem frozen (h : Kp F a b) {p : Addr} (hp : p.block < a.heap.size) (hF : ¬ F p.block) : b.frozen? p = a.frozen? p := World.frozen?_of_block (w := a) (h.block p.block hp hF)
end Kp

theorem lt_of_blk {w : World} {g : Nat} {o : Obj} (h : w.heap[g]? = some o) : g < w.heap.size := by
  obtain ⟨h', _⟩ := Array.getElem?_eq_some_iff.1 h
  exact h'
/-- a block known whole: its cells -/
theorem cell_blk {w : World} {g t : Nat} {cs : Array Value} {fr : Nat × Nat} (h : w.heap[g]? = some (.cells cs t fr)) (i : Nat) : w.cell? ⟨g, i, none⟩ = cs[i]? := by
  simp [World.cell?, h]
theorem free_blk {w : World} {g t : Nat} {cs : Array Value} (h : w.heap[g]? = some (.cells cs t (0, 0))) (i : Nat) : w.frozen? ⟨g, i, none⟩ = false := by
  simp [World.frozen?, h]
theorem set_blk {w : World} {g t : Nat} {cs : Array Value} {fr : Nat × Nat} (h : w.heap[g]? = some (.cells cs t fr)) (i : Nat) (u : Value) :
    (w.setCell ⟨g, i, none⟩ u).heap[g]? = some (.cells (cs.setIfInBounds i u) t fr) := by
  simp only [World.setCell, Array.getElem?_modify, ↓reduceIte, h, Option.map_some]
  simp
theorem new_blk (w : World) (o : Obj) : (w.alloc o).heap[w.heap.size]? = some o := by
  show (w.heap.push o)[w.heap.size]? = some o
  rw [Array.getElem?_push, if_pos rfl]
theorem old_blk {w : World} {g : Nat} {o : Obj} (h : w.heap[g]? = some o) (x : Obj) : (w.alloc x).heap[g]? = some o := by
  rw [Below.heap_alloc _ _ _ (lt_of_blk h), h]
theorem other_blk {w : World} {g : Nat} {o : Obj} (h : w.heap[g]? = some o) {p : Addr} (hp : g ≠ p.block) (u : Value) : (w.setCell p u).heap[g]? = some o := by
  rw [Below.heap_setCell _ _ _ _ hp, h]
theorem kept_blk {F : Nat → Prop} {w w' : World} {g : Nat} {o : Obj} (h : w.heap[g]? = some o) (k : Kp F w w') (hg : ¬ F g) : w'.heap[g]? = some o := by
  rw [k.block g (lt_of_blk h) hg, h]

theorem own_some {b o n c g : Nat} {s : Option Nat} (h : (Value.slice (some ⟨b, o, s⟩) n c).ownBlock = some g) : b = g := by injection h

/-- bytes as cells -/
def U8s (xs : List Int) : List Value := xs.map (.int .u8)
theorem U8s_length (xs : List Int) : (U8s xs).length = xs.length := by simp [U8s]
theorem U8s_append (xs ys : List Int) : U8s (xs ++ ys) = U8s xs ++ U8s ys := by simp [U8s]
theorem U8s_get {xs : List Int} {i : Nat} {x : Int} (h : xs[i]? = some x) : (U8s xs)[i]? = some (.int .u8 x) := by simp [U8s, h]
theorem U8s_inv {xs : List Int} {j : Nat} {v : Value} (h : (U8s xs)[j]? = some v) : ∃ x, xs[j]? = some x ∧ v = .int .u8 x := by
  rw [U8s, List.getElem?_map, Option.map_eq_some_iff] at h
  obtain ⟨x, hx, rfl⟩ := h
  exact ⟨x, hx, rfl⟩
theorem U8s_one (xs : List Int) : ∀ u ∈ U8s xs, u.oneCell' = true := by
  intro u hu
  obtain ⟨_, _, rfl⟩ := List.mem_map.1 hu
  rfl

/-- a slice that shows these bytes -/
def Sees (w : World) (v : Value) (xs : List Int) : Prop :=
  (v = .slice none 0 0 ∧ xs = []) ∨
  ∃ ad cap, v = .slice (some ad) xs.length cap ∧ xs.length ≤ cap ∧ cap ≤ maxLen ∧ ∀ i x, xs[i]? = some x → w.cell? (ad.add i) = some (.int .u8 x)
theorem add_block (ad : Addr) (i : Nat) : (ad.add i).block = ad.block := by unfold Addr.add; split <;> rfl
theorem lt_of_cell {w : World} {p : Addr} {u : Value} (h : w.cell? p = some u) : p.block < w.heap.size := by
  unfold World.cell? at h
  split at h
  · rename_i hb; exact lt_of_blk hb
  · cases h
theorem spot_of_cell {w : World} {p : Addr} {u : Value} (h : w.cell? p = some u) : p.spot = none := by
  unfold World.cell? at h
  split at h
  · split at h
    · cases h
    · rename_i hs; simpa using hs
  · cases h
theorem Sees.kept {F : Nat → Prop} {w w' : World} {v : Value} {xs : List Int} (h : Sees w v xs) (k : Kp F w w') (hF : xs ≠ [] → ∀ g, v.ownBlock = some g → ¬ F g) : Sees w' v xs := by
  rcases h with h | ⟨ad, cap, rfl, h1, h2, h4⟩
  · exact .inl h
  · refine .inr ⟨ad, cap, rfl, h1, h2, fun i x hi => ?_⟩
    have hne : xs ≠ [] := by intro e; subst e; cases hi
    have hc := h4 i x hi
    have hb := lt_of_cell hc
    exact (k.cell hb (by rw [add_block]; exact hF hne ad.block rfl)).trans hc
theorem Sees.mk {w : World} {b off cap : Nat} {xs : List Int} (h1 : xs.length ≤ cap) (h2 : cap ≤ maxLen) (h : ∀ i x, xs[i]? = some x → w.cell? ⟨b, off + i, none⟩ = some (.int .u8 x)) : Sees w (.slice (some ⟨b, off, none⟩) xs.length cap) xs :=
  .inr ⟨_, cap, rfl, h1, h2, fun i x hi => by rw [Addr.add_lit]; exact h i x hi⟩
theorem Sees.lt {W : World} {b : Value} {xs : List Int} (hs : Sees W b xs) (hne : xs ≠ []) : ∀ g, b.ownBlock = some g → g < W.heap.size := by
  rcases hs with ⟨_, h⟩ | ⟨ad, cap, rfl, _, _, h⟩
  · exact absurd h hne
  · intro g hg
    obtain ⟨x, r, rfl⟩ : ∃ x r, xs = x :: r := List.exists_cons_of_ne_nil hne
    have hc := lt_of_cell (h 0 x rfl)
    rw [add_block] at hc
    have e : ad.block = g := by injection hg
    omega

/-- the last k digits of v to the base 256, the highest first -/
def be : Nat → Int → List Int
  | 0, _ => []
  | k + 1, v => v / 256 ^ k % 256 :: be k v
theorem be_length (k : Nat) (v : Int) : (be k v).length = k := by
  induction k with
  | zero => rfl
  | succ k ih => simp [be, ih]

/-- one store more ahead of what stands there -/
theorem set_mid (pre mid ds post : List Value) (i : Nat) (u : Value) (hm : mid.length = i + 1) :
    (pre ++ mid ++ ds ++ post).toArray.setIfInBounds (pre.length + i) u = (pre ++ mid.take i ++ (u :: ds) ++ post).toArray := by
  obtain ⟨m, z, rfl⟩ : ∃ m z, mid = m ++ [z] := ⟨mid.dropLast, mid.getLast (by intro h; simp [h] at hm), by rw [List.dropLast_concat_getLast]⟩
  have hi : m.length = i := by simpa using hm
  subst hi
  apply Array.ext'
  simp
theorem get_mid (pre mid ds post : List Value) (i : Nat) (hm : mid.length = i + 1) : ∃ u, (pre ++ mid ++ ds ++ post).toArray[pre.length + i]? = some u := by
  refine ⟨mid[i], ?_⟩
  rw [List.getElem?_toArray, List.append_assoc, List.append_assoc, List.getElem?_append_right (by omega), List.getElem?_append_left (by omega)]
  simp
/-- cells stored one behind the other into a row -/
theorem setCells_blk (g t : Nat) : ∀ (vs a b c : List Value) (w : World), w.heap[g]? = some (.cells (a ++ b ++ c).toArray t (0, 0)) → b.length = vs.length →
    (w.setCells g a.length vs).heap[g]? = some (.cells (a ++ vs ++ c).toArray t (0, 0)) ∧ Kp (fun k => k = g) w (w.setCells g a.length vs) ∧ (w.setCells g a.length vs).heap.size = w.heap.size
  | [], a, b, c, w, h, hb => by
    obtain rfl : b = [] := List.eq_nil_of_length_eq_zero hb
    exact ⟨h, Kp.refl _ _, rfl⟩
  | v :: vs, a, b, c, w, h, hb => by
    obtain ⟨x, b', rfl⟩ : ∃ x b', b = x :: b' := by
      cases b with
      | nil => cases hb
      | cons x b' => exact ⟨x, b', rfl⟩
    have h1 : (w.setCell ⟨g, a.length, none⟩ v).heap[g]? = some (.cells ((a ++ [v]) ++ b' ++ c).toArray t (0, 0)) := by
      rw [set_blk h]
      congr 2
      apply Array.ext'
      simp
    obtain ⟨i1, i2, i3⟩ := setCells_blk g t vs (a ++ [v]) b' c (w.setCell ⟨g, a.length, none⟩ v) h1 (by simpa using hb)
    rw [show (a ++ [v]).length = a.length + 1 by simp] at i1 i2 i3
    refine ⟨?_, ?_, ?_⟩
    · show ((w.setCell ⟨g, a.length, none⟩ v).setCells g (a.length + 1) vs).heap[g]? = _
      rw [i1]; simp
    · show Kp _ w ((w.setCell ⟨g, a.length, none⟩ v).setCells g (a.length + 1) vs)
      exact (Kp.setCell (F := fun k => k = g) (Kp.refl _ w) (p := ⟨g, a.length, none⟩) (fun _ => rfl) v).trans i2 (fun _ _ h => h)
    · show ((w.setCell ⟨g, a.length, none⟩ v).setCells g (a.length + 1) vs).heap.size = _
      rw [i3, World.size_setCell]

/-- all of them bytes -/
def Rng (xs : List Int) : Prop := ∀ x ∈ xs, 0 ≤ x ∧ x ≤ 255
theorem Rng.append {xs ys : List Int} (h : Rng xs) (k : Rng ys) : Rng (xs ++ ys) := fun x hx => by
  rcases List.mem_append.1 hx with h1 | h1
  · exact h x h1
  · exact k x h1
theorem be_rng (k : Nat) (v : Int) : Rng (be k v) := by
  induction k with
  | zero => intro x hx; cases hx
  | succ k ih =>
    intro x hx
    rcases List.mem_cons.1 hx with h1 | h1
    · subst h1; omega
    · exact ih x h1

end Go.Proofs.Ytoeinolekpmbbaa
/-
  SHA-256 as plain functions on lists of integers: rounds, message words, blocks, what comes behind the bytes. Nothing of the program stands here.
-/
namespace Go.Proofs.Ytoeinolekpmbbaa

/-- a word's bits, turned round to the right -/
def rotr (n x : Int) : Int := bits .or .u32 (x * 2 ^ (32 - n).toNat % 4294967296) (x / 2 ^ n.toNat)
/-- four bytes as a word -/
def wd (a b c d : Int) : Int := a * 16777216 + b * 65536 + c * 256 + d
/-- a sum of words -/
def addw (a b : Int) : Int := (a + b) % 4294967296
def xorw (a b : Int) : Int := bits .xor .u32 a b
def andw (a b : Int) : Int := bits .and .u32 a b

/-- a word -/
def W32 (x : Int) : Prop := 0 ≤ x ∧ x < 4294967296
/-- all of them words -/
def Ws (l : List Int) : Prop := ∀ x ∈ l, W32 x

theorem bits_w32 (op : BinOp) (a b : Int) : W32 (bits op .u32 a b) := by
  have h := (IntKind.wrap_u32' ((match op with
    | .and => BitVec.ofInt IntKind.u32.bits a &&& BitVec.ofInt IntKind.u32.bits b
    | .or => BitVec.ofInt IntKind.u32.bits a ||| BitVec.ofInt IntKind.u32.bits b
    | .xor => BitVec.ofInt IntKind.u32.bits a ^^^ BitVec.ofInt IntKind.u32.bits b
    | _ => BitVec.ofInt IntKind.u32.bits a &&& ~~~BitVec.ofInt IntKind.u32.bits b).toNat : Int))
  have h2 : bits op .u32 a b = _ := h
  rw [h2]; unfold W32; omega
theorem addw_w32 (a b : Int) : W32 (addw a b) := by unfold addw W32; omega
theorem rotr_w32 (n x : Int) : W32 (rotr n x) := bits_w32 _ _ _
theorem xorw_w32 (a b : Int) : W32 (xorw a b) := bits_w32 _ _ _
theorem andw_w32 (a b : Int) : W32 (andw a b) := bits_w32 _ _ _
theorem wd_w32 {a b c d : Int} (ha : 0 ≤ a ∧ a ≤ 255) (hb : 0 ≤ b ∧ b ≤ 255) (hc : 0 ≤ c ∧ c ≤ 255) (hd : 0 ≤ d ∧ d ≤ 255) : W32 (wd a b c d) := by
  unfold wd W32; omega
theorem bits_or_comm (a b : Int) : bits .or .u32 a b = bits .or .u32 b a := by
  simp only [bits, BitVec.or_comm]

def sig0 (x : Int) : Int := xorw (xorw (rotr 7 x) (rotr 18 x)) (x / 8)
def sig1 (x : Int) : Int := xorw (xorw (rotr 17 x) (rotr 19 x)) (x / 1024)
/-- one message word more -/
def nxt (l : List Int) (t : Nat) : Int := (sig1 (l.getD (t - 2) 0) + l.getD (t - 7) 0 + sig0 (l.getD (t - 15) 0) + l.getD (t - 16) 0) % 4294967296
/-- the first 16 words of 64 bytes -/
def wds (bs : List Int) : Nat → List Int
  | 0 => []
  | n + 1 => wds bs n ++ [wd (bs.getD (4 * n) 0) (bs.getD (4 * n + 1) 0) (bs.getD (4 * n + 2) 0) (bs.getD (4 * n + 3) 0)]
def ext (bs : List Int) : Nat → List Int
  | 0 => wds bs 16
  | n + 1 => ext bs n ++ [nxt (ext bs n) (n + 16)]
def sched (bs : List Int) : List Int := ext bs 48

theorem wds_length (bs : List Int) (n : Nat) : (wds bs n).length = n := by
  induction n with
  | zero => rfl
  | succ n ih => simp [wds, ih]
theorem ext_length (bs : List Int) (n : Nat) : (ext bs n).length = 16 + n := by
  induction n with
  | zero => exact wds_length bs 16
  | succ n ih => simp [ext, ih]; omega
theorem sched_length (bs : List Int) : (sched bs).length = 64 := ext_length bs 48
theorem nxt_w32 (l : List Int) (t : Nat) : W32 (nxt l t) := by unfold nxt W32; omega
theorem getD_byte {bs : List Int} (h : ∀ x ∈ bs, 0 ≤ x ∧ x ≤ 255) (i : Nat) : 0 ≤ bs.getD i 0 ∧ bs.getD i 0 ≤ 255 := by
  rw [List.getD_eq_getElem?_getD]
  cases e : bs[i]? with
  | none => simp
  | some x => exact h x (List.mem_of_getElem? e)
theorem wds_w32 {bs : List Int} (h : ∀ x ∈ bs, 0 ≤ x ∧ x ≤ 255) (n : Nat) : Ws (wds bs n) := by
  induction n with
  | zero => intro x hx; cases hx
  | succ n ih =>
    intro x hx
    rcases List.mem_append.1 hx with h1 | h1
    · exact ih x h1
    · obtain rfl := List.mem_singleton.1 h1
      exact wd_w32 (getD_byte h _) (getD_byte h _) (getD_byte h _) (getD_byte h _)
theorem ext_w32 {bs : List Int} (h : ∀ x ∈ bs, 0 ≤ x ∧ x ≤ 255) (n : Nat) : Ws (ext bs n) := by
  induction n with
  | zero => exact wds_w32 h 16
  | succ n ih =>
    intro x hx
    rcases List.mem_append.1 hx with h1 | h1
    · exact ih x h1
    · obtain rfl := List.mem_singleton.1 h1
      exact nxt_w32 _ _

/-- a to h -/
structure St where
  a : Int
  b : Int
  c : Int
  d : Int
  e : Int
  f : Int
  g : Int
  h : Int
  deriving DecidableEq
def St.list (s : St) : List Int := [s.a, s.b, s.c, s.d, s.e, s.f, s.g, s.h]
def notw (x : Int) : Int := xorw (if IntKind.u32.signed = true then -1 else IntKind.u32.max) x
def t1 (s : St) (k w : Int) : Int :=
  (s.h + xorw (xorw (rotr 6 s.e) (rotr 11 s.e)) (rotr 25 s.e) + xorw (andw s.e s.f) (andw (notw s.e) s.g) + k + w) % 4294967296
def t2 (s : St) : Int :=
  (xorw (xorw (rotr 2 s.a) (rotr 13 s.a)) (rotr 22 s.a) + xorw (xorw (andw s.a s.b) (andw s.a s.c)) (andw s.b s.c)) % 4294967296
def step (s : St) (k w : Int) : St := ⟨addw (t1 s k w) (t2 s), s.a, s.b, s.c, addw s.d (t1 s k w), s.e, s.f, s.g⟩
def kTab : List Int := [1116352408, 1899447441, 3049323471, 3921009573, 961987163, 1508970993, 2453635748, 2870763221, 3624381080, 310598401, 607225278, 1426881987, 1925078388, 2162078206, 2614888103, 3248222580, 3835390401, 4022224774, 264347078, 604807628, 770255983, 1249150122, 1555081692, 1996064986, 2554220882, 2821834349, 2952996808, 3210313671, 3336571891, 3584528711, 113926993, 338241895, 666307205, 773529912, 1294757372, 1396182291, 1695183700, 1986661051, 2177026350, 2456956037, 2730485921, 2820302411, 3259730800, 3345764771, 3516065817, 3600352804, 4094571909, 275423344, 430227734, 506948616, 659060556, 883997877, 958139571, 1322822218, 1537002063, 1747873779, 1955562222, 2024104815, 2227730452, 2361852424, 2428436474, 2756734187, 3204031479, 3329325298]
def h0 : St := ⟨1779033703, 3144134277, 1013904242, 2773480762, 1359893119, 2600822924, 528734635, 1541459225⟩
def rounds (m : List Int) (s : St) : Nat → St
  | 0 => s
  | n + 1 => step (rounds m s n) (kTab.getD n 0) (m.getD n 0)
def addS (x y : St) : St := ⟨addw x.a y.a, addw x.b y.b, addw x.c y.c, addw x.d y.d, addw x.e y.e, addw x.f y.f, addw x.g y.g, addw x.h y.h⟩
/-- behind 64 bytes more -/
def comp (s : St) (bs : List Int) : St := addS s (rounds (sched bs) s 64)
/-- behind n times 64 bytes more -/
def many : Nat → St → List Int → St
  | 0, s, _ => s
  | n + 1, s, bs => many n (comp s (bs.take 64)) (bs.drop 64)
/-- so many noughts stand behind the byte 128 -/
def gap (n : Nat) : Nat := (119 - n % 64) % 64
end Go.Proofs.Ytoeinolekpmbbaa
/-
  Bytes that come piece by piece, as plain lists: what a state's words and its part are behind any bytes. Nothing of the program stands here.
-/
namespace Go.Proofs.Ytoeinolekpmbbaa

theorem many_append (n : Nat) (s : St) (bs ys : List Int) (h : 64 * n ≤ bs.length) : many n s (bs ++ ys) = many n s bs := by
  induction n generalizing s bs with
  | zero => rfl
  | succ n ih =>
    simp only [many]
    rw [List.take_append_of_le_length (by omega), List.drop_append_of_le_length (by omega), ih _ _ (by rw [List.length_drop]; omega)]
theorem many_succ (n : Nat) (s : St) (bs : List Int) : many (n + 1) s bs = comp (many n s bs) ((bs.drop (64 * n)).take 64) := by
  induction n generalizing s bs with
  | zero => simp [many]
  | succ n ih =>
    have e : many (n + 1 + 1) s bs = many (n + 1) (comp s (bs.take 64)) (bs.drop 64) := rfl
    rw [e, ih, List.drop_drop, show 64 + 64 * n = 64 * (n + 1) by omega]
    rfl

/-- a state's words and part, behind these bytes -/
structure StOf (bs : List Int) (H : St) (part : List Int) : Prop where
  words : H = many (bs.length / 64) h0 bs
  len : part.length = 64
  rng : Rng part
  part : part.take (bs.length % 64) = bs.drop (64 * (bs.length / 64))
theorem StOf.start : StOf [] h0 (List.replicate 64 0) :=
  ⟨rfl, by simp, fun x hx => by obtain ⟨_, rfl⟩ := List.mem_replicate.1 hx; omega, rfl⟩
theorem StOf.put_rng {bs part ys : List Int} {H : St} (h : StOf bs H part) (hy : Rng ys) : Rng (part.take (bs.length % 64) ++ ys ++ part.drop (bs.length % 64 + ys.length)) := by
  intro x hx
  rcases List.mem_append.1 hx with h1 | h1
  · rcases List.mem_append.1 h1 with h2 | h2
    · exact h.rng x (List.mem_of_mem_take h2)
    · exact hy x h2
  · exact h.rng x (List.mem_of_mem_drop h1)
theorem StOf.some {bs part ys : List Int} {H : St} (h : StOf bs H part) (hy : Rng ys) (hl : bs.length % 64 + ys.length < 64) :
    StOf (bs ++ ys) H (part.take (bs.length % 64) ++ ys ++ part.drop (bs.length % 64 + ys.length)) := by
  have e1 : (bs ++ ys).length / 64 = bs.length / 64 := by rw [List.length_append]; omega
  have e2 : (bs ++ ys).length % 64 = bs.length % 64 + ys.length := by rw [List.length_append]; omega
  have hp := h.len
  refine ⟨?_, ?_, h.put_rng hy, ?_⟩
  · rw [e1, many_append _ _ _ _ (by omega)]; exact h.words
  · simp only [List.length_append, List.length_take, List.length_drop]; omega
  · rw [e1, e2, List.drop_append_of_le_length (by omega), ← h.part, List.take_append_of_le_length (by simp only [List.length_append, List.length_take]; omega),
      List.take_of_length_le (by simp only [List.length_append, List.length_take]; omega)]
theorem StOf.full {bs part ys : List Int} {H : St} (h : StOf bs H part) (hy : Rng ys) (hl : bs.length % 64 + ys.length = 64) :
    StOf (bs ++ ys) (comp H (part.take (bs.length % 64) ++ ys ++ part.drop (bs.length % 64 + ys.length))) (part.take (bs.length % 64) ++ ys ++ part.drop (bs.length % 64 + ys.length)) := by
  have e1 : (bs ++ ys).length / 64 = bs.length / 64 + 1 := by rw [List.length_append]; omega
  have e2 : (bs ++ ys).length % 64 = 0 := by rw [List.length_append]; omega
  have hp := h.len
  have e3 : (bs ++ ys).drop (64 * (bs.length / 64)) = part.take (bs.length % 64) ++ ys := by rw [List.drop_append_of_le_length (by omega), ← h.part]
  have e4 : part.drop (bs.length % 64 + ys.length) = [] := List.drop_eq_nil_of_le (by omega)
  have e5 : (part.take (bs.length % 64) ++ ys).length = 64 := by rw [List.length_append, List.length_take]; omega
  have e6 : (part.take (bs.length % 64) ++ ys).take 64 = part.take (bs.length % 64) ++ ys := List.take_of_length_le (by omega)
  have e7 : (bs ++ ys).drop (64 * ((bs ++ ys).length / 64)) = [] := List.drop_eq_nil_of_le (by omega)
  have hr := h.put_rng hy
  rw [e4, List.append_nil] at hr ⊢
  refine ⟨?_, e5, hr, ?_⟩
  · rw [e1, many_succ, many_append (bs.length / 64) h0 bs ys (by omega), ← h.words, e3, e6]
  · rw [e2, List.take_zero, e7]

/-- what stands behind n bytes -/
def behind (n : Nat) : List Int := 128 :: (List.replicate (gap n) 0 ++ be 8 ((n : Int) * 8))
def padded (bs : List Int) : List Int := bs ++ behind bs.length
theorem behind_length (n : Nat) : (n + (behind n).length) % 64 = 0 := by
  simp [behind, be_length, gap]; omega
theorem behind_rng (n : Nat) : Rng (behind n) := by
  intro x hx
  rcases List.mem_cons.1 hx with h | h
  · subst h; omega
  · rcases List.mem_append.1 h with h | h
    · obtain ⟨_, rfl⟩ := List.mem_replicate.1 h; omega
    · exact be_rng _ _ x h
/-- a word's four bytes -/
def w4 (x : Int) : List Int := [x / 16777216, x / 65536 % 256, x / 256 % 256, x % 256]
def bytesOf (s : St) : List Int := s.list.flatMap w4
/-- SHA-256 of bytes -/
def sumOf (bs : List Int) : List Int := bytesOf (many ((padded bs).length / 64) h0 (padded bs))
theorem sum_state {bs part : List Int} {H : St} (h : StOf (padded bs) H part) : bytesOf H = sumOf bs := by rw [h.words]; rfl
theorem bytesOf_length (s : St) : (bytesOf s).length = 32 := rfl
theorem w4_rng {x : Int} (hx : W32 x) : Rng (w4 x) := by
  intro y hy
  obtain ⟨h0, h1⟩ := hx
  simp only [w4, List.mem_cons, List.not_mem_nil, or_false] at hy
  rcases hy with h3 | h3 | h3 | h3 <;> subst h3 <;> omega
theorem sumOf_length (bs : List Int) : (sumOf bs).length = 32 := rfl
end Go.Proofs.Ytoeinolekpmbbaa
/-
  Contracts of package sha: right, word, setWord, spread.
-/
namespace Go.Proofs.Ytoeinolekpmbbaa
open Go.ChangeShapes Go.WideShapes Go.ChangeAt Go.RowKit

theorem turn_count (n : Int) (h0 : 1 ≤ n) (h1 : n ≤ 31) : bits .and .u64 (IntKind.u64.wrap (-n)) 31 = 32 - n := by
  have e : IntKind.u64.wrap (-n) = 18446744073709551616 - n := by simp [IntKind.wrap, IntKind.bits, IntKind.signed]; omega
  rw [e, u64_and _ _ (by omega) (by omega) (by omega) (by omega), show (31 : Int).toNat = 31 from rfl, nat_mask5]
  omega

theorem or_wd (a b c d : Int) (ha : 0 ≤ a ∧ a ≤ 255) (hb : 0 ≤ b ∧ b ≤ 255) (hc : 0 ≤ c ∧ c ≤ 255) (hd : 0 ≤ d ∧ d ≤ 255) :
    bits .or .u32 (bits .or .u32 (bits .or .u32 (a * 16777216) (b * 65536)) (c * 256)) d = wd a b c d := by
  obtain ⟨a, rfl⟩ := Int.eq_ofNat_of_zero_le ha.1
  obtain ⟨b, rfl⟩ := Int.eq_ofNat_of_zero_le hb.1
  obtain ⟨c, rfl⟩ := Int.eq_ofNat_of_zero_le hc.1
  obtain ⟨d, rfl⟩ := Int.eq_ofNat_of_zero_le hd.1
  have j1 : a * 16777216 ||| b * 65536 = a * 16777216 + b * 65536 := nat_join 24 _ _ (by omega) (by omega)
  have j2 : a * 16777216 + b * 65536 ||| c * 256 = a * 16777216 + b * 65536 + c * 256 := nat_join 16 _ _ (by omega) (by omega)
  have j3 : a * 16777216 + b * 65536 + c * 256 ||| d = a * 16777216 + b * 65536 + c * 256 + d := nat_join 8 _ _ (by omega) (by omega)
  rw [show (a : Int) * 16777216 = ((a * 16777216 : Nat) : Int) by omega, show (b : Int) * 65536 = ((b * 65536 : Nat) : Int) by omega, show (c : Int) * 256 = ((c * 256 : Nat) : Int) by omega,
    u32_or_nat _ _ (by omega) (by omega), j1, u32_or_nat _ _ (by omega) (by omega), j2, u32_or_nat _ _ (by omega) (by omega), j3]
  unfold wd; omega

/-- four cells of a row set anew -/
def put4 (l : List Int) (o : Nat) (x : Int) : List Int := l.take o ++ w4 x ++ l.drop (o + 4)
theorem put4_length (l : List Int) (o : Nat) (x : Int) (h : o + 4 ≤ l.length) : (put4 l o x).length = l.length := by
  simp [put4, w4]; omega
theorem put4_rng {l : List Int} (h : Rng l) (o : Nat) {x : Int} (hx : W32 x) : Rng (put4 l o x) := by
  intro y hy
  obtain ⟨h0, h1⟩ := hx
  rcases List.mem_append.1 hy with h2 | h2
  · rcases List.mem_append.1 h2 with h3 | h3
    · exact h y (List.mem_of_mem_take h3)
    · simp only [w4, List.mem_cons, List.not_mem_nil, or_false] at h3
      rcases h3 with h3 | h3 | h3 | h3 <;> subst h3 <;> omega
  · exact h y (List.mem_of_mem_drop h2)
def U32s (xs : List Int) : List Value := xs.map (.int .u32)
theorem U32s_length (xs : List Int) : (U32s xs).length = xs.length := by simp [U32s]
theorem U32s_append (xs ys : List Int) : U32s (xs ++ ys) = U32s xs ++ U32s ys := by simp [U32s]
theorem U32s_get (xs : List Int) (i : Nat) (h : i < xs.length) : (U32s xs).toArray[i]? = some (.int .u32 (xs.getD i 0)) := by
  simp [U32s, h]
theorem U32s_one (xs : List Int) : (U32s xs).toArray.all (·.oneCell') = true :=
  all_oneCell_toArray (fun v hv => by obtain ⟨_, _, rfl⟩ := List.mem_map.1 hv; rfl)

/-- a part of an array that a pointer tells, from l on -/
theorem slice_from {t e : TypeId} {n : Nat} (hu : Try.prog.underlying t = some (.array n e)) (hq : (Try.prog.info? e).map (·.size) = some 1) (g o l : Nat) (L : Int) (hL : L = l) (hl : l < n) (w : World) :
    (Instr.sliceAt t (.pointer (some ⟨g, o, none⟩)) (some (.int .i64 L)) none none).run Try.prog w = .ok (.slice (some ⟨g, o + l, none⟩) (n - l) (n - l)) w := by
  subst hL
  obtain ⟨i, hi, hs⟩ := Option.map_eq_some_iff.1 hq
  have he : Try.prog.elem t = e := by simp [Program.elem, hu]
  have ha : Try.prog.arrayLen t = n := by simp [Program.arrayLen, hu]
  rw [run_sliceAt_array_l w t ⟨g, o, none⟩ (by rw [ha, hu, he]) .i64 l (by omega) (by omega), he, ha]
  simp [sizeOf, typeInfo, hi, hs, slicedAt, Nat.ne_of_gt hl, Addr.add_mid]
/-- a region of reads ahead of its last operations, the world under its name -/
theorem wp_tail {P : Program} {id : Nat} {Q : Exit → Act → World → Prop} {a : Act} {w : World} {l : List Oper} (n : Nat) (hm : P.follows .mixedOrders = true) (hB : Region.lexTailB .any l.toArray n = true)
    (h : wpStill P l.toArray w.drew (fun a' => wpList P l.toArray Q (l.drop n) a' w.drew) (l.take n) a) : (Code.region id l.toArray true).wp P Q a w :=
  wp_region_still_tail n hm hB h
theorem setRow_blk {w : World} {g t : Nat} {old cs : Array Value} {fr : Nat × Nat} (h : w.heap[g]? = some (.cells old t fr)) : (w.setRow g cs).heap[g]? = some (.cells cs t fr) := by
  simp [World.setRow, Array.getElem?_modify, h]
theorem setRow_other_blk {w : World} {g k : Nat} (cs : Array Value) (h : k ≠ g) : (w.setRow g cs).heap[k]? = w.heap[k]? := by
  simp [World.setRow, Array.getElem?_modify, Ne.symm h]
theorem Kp.setRow {F : Nat → Prop} {a w : World} (h : Kp F a w) {g : Nat} (hg : g < a.heap.size → F g) (cs : Array Value) : Kp F a (w.setRow g cs) :=
  h.trans (G := fun k => k = g) ⟨rfl, rfl, rfl, by simp, fun k _ hne => setRow_other_blk cs hne⟩ (fun x hx e => by subst e; exact hg hx)
theorem getD_w32 {l : List Int} (h : Ws l) (i : Nat) : W32 (l.getD i 0) := by
  rw [List.getD_eq_getElem?_getD]
  cases e : l[i]? with
  | none => simp [W32]
  | some x => exact h x (List.mem_of_getElem? e)
end Go.Proofs.Ytoeinolekpmbbaa
/-
  Contract of package sha's mix: a state's words behind 64 bytes more.
-/
namespace Go.Proofs.Ytoeinolekpmbbaa
open Go.ChangeShapes Go.WideShapes Go.ChangeAt Go.RowKit

/-- a state's cells -/
def stL (l part : List Int) (came : Int) : List Value := .bool true :: (U32s l ++ U8s part ++ [.int .i64 came])
def stC (H : St) (part : List Int) (came : Int) : List Value := stL H.list part came
theorem kTab_length : kTab.length = 64 := by decide
theorem kTab_w32 : Ws kTab := by
  have h : kTab.all (fun x => decide (0 ≤ x) && decide (x < 4294967296)) = true := by decide +kernel
  intro x hx
  have := List.all_eq_true.1 h x hx
  simpa [W32] using this
/-- all of them words -/
structure St.ok (s : St) : Prop where
  a : W32 s.a
  b : W32 s.b
  c : W32 s.c
  d : W32 s.d
  e : W32 s.e
  f : W32 s.f
  g : W32 s.g
  h : W32 s.h
theorem step_ok {s : St} (h : s.ok) (k w : Int) : (step s k w).ok := ⟨addw_w32 _ _, h.a, h.b, h.c, addw_w32 _ _, h.e, h.f, h.g⟩
theorem addS_ok (x y : St) : (addS x y).ok := ⟨addw_w32 _ _, addw_w32 _ _, addw_w32 _ _, addw_w32 _ _, addw_w32 _ _, addw_w32 _ _, addw_w32 _ _, addw_w32 _ _⟩
theorem rounds_ok (m : List Int) {s : St} (h : s.ok) (n : Nat) : (rounds m s n).ok := by
  induction n with
  | zero => exact h
  | succ n ih => exact step_ok ih _ _
theorem comp_ok (s : St) (bs : List Int) : (comp s bs).ok := addS_ok _ _
theorem h0_ok : h0.ok := by constructor <;> (unfold W32; decide)
theorem St.ok.ws {s : St} (h : s.ok) : Ws s.list := by
  intro x hx
  simp only [St.list, List.mem_cons, List.not_mem_nil, or_false] at hx
  rcases hx with e | e | e | e | e | e | e | e <;> subst e
  · exact h.a
  · exact h.b
  · exact h.c
  · exact h.d
  · exact h.e
  · exact h.f
  · exact h.g
  · exact h.h

/-- one place of a row of words -/
theorem index_words {t : TypeId} {n : Nat} {e : TypeId} (hu : Try.prog.underlying t = some (.array n e)) (he : Try.prog.underlying e = some (.int .u32)) (hq : (Try.prog.info? e).map (·.size) = some 1) (l : List Int) (hl : l.length = n) (k : Nat) (hk : k < n) (w : World) :
    (Instr.index t (.agg (U32s l).toArray) (.int .i64 k)).run Try.prog w = .ok (.int .u32 (l.getD k 0)) w := by
  obtain ⟨i, hi, hs⟩ := Option.map_eq_some_iff.1 hq
  have h0 : (0 : Int) ≤ k := by omega
  have hg : (U32s l)[k]? = some (.int .u32 (l.getD k 0)) := by simp [U32s, show k < l.length by omega]
  simp [Instr.index, run_underlying hu, asIntOf, h0, hk, go_sem, sizeOf, typeInfo, hi, hs, hg, isAgg, run_underlying he]
/-- a row stored into a block made just now: the world behind it by its facts -/
theorem wpList_store_fresh {P : Program} {ops : Array Oper} {rest : List Oper} {o : Oper} {a : Act} {w : World} {Q : Exit → Act → World → Prop} (hgd : o.guard = none) (ty : TypeId) (x y : Operand) (ho : o.op = .store ty x y)
    (cells : Array Value) (hx : a.eval x = .pointer (some ⟨w.heap.size, 0, none⟩)) (hy : a.eval y = .agg cells)
    (t : TypeId) (old : Array Value) (hi : (P.info? ty).map (·.size) = some cells.size)
    (hold : old.size = cells.size) (h1 : cells.all (·.oneCell') = true)
    (h : ∀ w2, Kp (fun _ => False) w w2 → w2.heap[w.heap.size]? = some (.cells cells t (0, 0)) → w2.heap.size = w.heap.size + 1 → wpList P ops Q rest (a.put o.dst undef) w2) :
    wpList P ops Q (o :: rest) a (w.alloc (.cells old t)) :=
  wpList_store_row hgd ty x y ho w.heap.size cells hx hy t old (new_blk _ _) hi hold h1
    (h _ (((Kp.refl _ w).alloc _).setRow (by simp) _) (setRow_blk (new_blk _ _)) (by simp))
theorem wpList_store_fresh_at {P : Program} {ops : Array Oper} {rest : List Oper} {o : Oper} {a : Act} {w : World} {Q : Exit → Act → World → Prop} (hgd : o.guard = none) (ty : TypeId) (x y : Operand) (ho : o.op = .store ty x y)
    (cells : Array Value) (g : Nat) (hz : w.heap.size = g) (hx : a.eval x = .pointer (some ⟨g, 0, none⟩)) (hy : a.eval y = .agg cells)
    (t : TypeId) (old : Array Value) (hi : (P.info? ty).map (·.size) = some cells.size)
    (hold : old.size = cells.size) (h1 : cells.all (·.oneCell') = true)
    (h : ∀ w2, Kp (fun _ => False) w w2 → w2.heap[g]? = some (.cells cells t (0, 0)) → w2.heap.size = g + 1 → wpList P ops Q rest (a.put o.dst undef) w2) :
    wpList P ops Q (o :: rest) a (w.alloc (.cells old t)) := by
  subst hz
  exact wpList_store_fresh hgd ty x y ho cells hx hy t old hi hold h1 h
theorem st_part (H : St) (part : List Int) (came : Int) (i : Nat) (hi : i < part.length) : (stC H part came).toArray[9 + i]? = some (.int .u8 (part.getD i 0)) := by
  have e : (stC H part came) = (.bool true :: U32s H.list) ++ (U8s part ++ [.int .i64 came]) := by simp [stC, stL]
  rw [e, List.getElem?_toArray, List.getElem?_append_right (by simp [U32s, St.list]), show 9 + i - (Value.bool true :: U32s H.list).length = i by simp [U32s, St.list],
    List.getElem?_append_left (by rw [U8s_length]; exact hi)]
  simp [U8s, hi]
theorem add_get (x y : St) (k : Nat) (hk : k < 8) : (addS x y).list.getD k 0 = (x.list.getD k 0 + y.list.getD k 0) % 4294967296 := by
  match k, hk with
  | 0, _ => rfl
  | 1, _ => rfl
  | 2, _ => rfl
  | 3, _ => rfl
  | 4, _ => rfl
  | 5, _ => rfl
  | 6, _ => rfl
  | 7, _ => rfl
theorem drewN_two (w : World) (m n : Nat) : (w.drewN m).drewN n = w.drewN (m + n) := by
  simp [World.drewN, Nat.add_assoc]
end Go.Proofs.Ytoeinolekpmbbaa
/-
  Contract of package sha's take: a state behind more bytes.
-/
namespace Go.Proofs.Ytoeinolekpmbbaa
open Go.ChangeShapes Go.WideShapes Go.ChangeAt Go.RowKit

theorem StOf.ok {bs part : List Int} {H : St} (h : StOf bs H part) : H.ok := by
  rw [h.words]
  cases bs.length / 64 with
  | zero => exact h0_ok
  | succ n => rw [many_succ]; exact comp_ok _ _
theorem many_ok (n : Nat) (bs : List Int) : (many n h0 bs).ok := by
  cases n with
  | zero => exact h0_ok
  | succ n => rw [many_succ]; exact comp_ok _ _
theorem sumOf_rng (bs : List Int) : Rng (sumOf bs) := by
  intro y hy
  obtain ⟨x, hx, hy⟩ := List.mem_flatMap.1 hy
  exact w4_rng ((many_ok _ _).ws x hx) y hy
theorem u8size : (Try.prog.info? 5).map (·.size) = some 1 := by kernel_rfl
/-- what stands in a slice of bytes from n on -/
theorem sees_from {w : World} {v : Value} {xs : List Int} (h : Sees w v xs) (n : Nat) (hn : n ≤ xs.length) :
    ∃ v', (∀ w', (Instr.sliceAt 56 v (some (.int .i64 n)) none none).run Try.prog w' = .ok v' w') ∧ Sees w v' (xs.drop n) ∧ v'.ownBlock = v.ownBlock := by
  obtain ⟨i, hi, hs⟩ := Option.map_eq_some_iff.1 u8size
  rcases h with ⟨rfl, rfl⟩ | ⟨ad, cap, rfl, h1, h2, h3⟩
  · obtain rfl : n = 0 := by simpa using hn
    refine ⟨.slice none 0 0, fun w' => ?_, .inl ⟨rfl, rfl⟩, rfl⟩
    simp [Instr.sliceAt, run_underlying Try.underlying56, Instr.slice, Instr.sliceBounds, run_sliceBound, sizeOf, typeInfo, hi]
  · refine ⟨.slice (some (if cap = n then ad else ad.add n)) (xs.length - n) (cap - n), fun w' => ?_, .inr ⟨_, cap - n, by rw [List.length_drop], by rw [List.length_drop]; omega, by unfold maxLen at *; omega, fun i x hx => ?_⟩, ?_⟩
    · have g0 : (0 : Int) ≤ n := by omega
      simp [Instr.sliceAt, run_underlying Try.underlying56, Instr.slice, Instr.sliceBounds, run_sliceBound, sizeOf, typeInfo, hi, hs, g0, hn]
      split <;> rfl
    · rw [List.getElem?_drop] at hx
      have hlt : n + i < xs.length := (List.getElem?_eq_some_iff.1 hx).1
      rw [if_neg (by omega), Addr.add_add]
      exact h3 _ _ hx
    · show some _ = some _
      split
      · rfl
      · rw [add_block]
theorem Sees.len {w : World} {v : Value} {xs : List Int} (h : Sees w v xs) : ∃ a c, v = .slice a xs.length c := by
  rcases h with ⟨rfl, rfl⟩ | ⟨ad, cap, rfl, _⟩
  · exact ⟨_, _, rfl⟩
  · exact ⟨_, _, rfl⟩
def lenOf : Value → Nat
  | .slice _ n _ => n
  | _ => 0

/-- bytes copied into the part -/
theorem copied {H : St} {part ys : List Int} {came : Int} {q : Nat} (hp : part.length = 64) (hq : q + ys.length ≤ 64) :
    (((stC H part came).toArray.toList.take (9 + q) ++ (U8s ys ++ (stC H part came).toArray.toList.drop (9 + q + (U8s ys).length))).toArray) = (stC H (part.take q ++ ys ++ part.drop (q + ys.length)) came).toArray := by
  have e : stC H part came = (.bool true :: U32s H.list) ++ (U8s part ++ [.int .i64 came]) := by simp [stC, stL]
  have e2 : stC H (part.take q ++ ys ++ part.drop (q + ys.length)) came = (.bool true :: U32s H.list) ++ (U8s (part.take q ++ ys ++ part.drop (q + ys.length)) ++ [.int .i64 came]) := by simp [stC, stL]
  have h9 : (Value.bool true :: U32s H.list).length = 9 := rfl
  rw [e, e2]
  congr 1
  generalize Value.bool true :: U32s H.list = A at h9
  rw [List.toList_toArray, List.take_append, List.take_of_length_le (by omega), List.drop_append, List.drop_eq_nil_of_le (by omega), h9, Nat.add_sub_cancel_left, U8s_length, show 9 + q + ys.length - 9 = q + ys.length by omega,
    List.take_append_of_le_length (by rw [U8s_length]; omega), List.drop_append_of_le_length (by rw [U8s_length]; omega)]
  simp [U8s]
theorem came_cell {w : World} {p t : Nat} {H : St} {part : List Int} {came : Int} (hp : part.length = 64) (hg : w.heap[p]? = some (.cells (stC H part came).toArray t (0, 0))) : w.cell? ⟨p, 73, none⟩ = some (.int .i64 came) := by
  have e : stC H part came = (.bool true :: U32s H.list) ++ (U8s part ++ [.int .i64 came]) := by simp [stC, stL]
  rw [cell_blk hg, List.getElem?_toArray, e, List.getElem?_append_right (by simp [U32s, St.list]), List.getElem?_append_right (by rw [U8s_length, hp]; simp [U32s, St.list])]
  simp [U32s, St.list, U8s, hp]
theorem came_set {H : St} {part : List Int} {came : Int} (hp : part.length = 64) (x : Int) : (stC H part came).toArray.setIfInBounds 73 (.int .i64 x) = (stC H part x).toArray := by
  apply Array.ext'
  have e : ∀ y, stC H part y = (.bool true :: U32s H.list) ++ (U8s part ++ [.int .i64 y]) := fun y => by simp [stC, stL]
  simp only [e, Array.toList_setIfInBounds]
  rw [List.set_append_right _ _ (by simp [U32s, St.list]), List.set_append_right _ _ (by rw [U8s_length, hp]; simp [U32s, St.list])]
  simp [U32s, St.list, U8s, hp]

end Go.Proofs.Ytoeinolekpmbbaa
/-
  Contract of package sha's end: what comes behind the last byte.
-/
namespace Go.Proofs.Ytoeinolekpmbbaa
open Go.ChangeShapes Go.WideShapes Go.ChangeAt Go.RowKit

theorem be8 (v : Int) (h0 : 0 ≤ v) (h1 : v < 18446744073709551616) : be 8 v = w4 (v / 4294967296) ++ w4 (v % 4294967296) := by
  simp only [be, w4, List.cons_append, List.nil_append]
  refine List.cons_eq_cons.2 ⟨?_, List.cons_eq_cons.2 ⟨?_, List.cons_eq_cons.2 ⟨?_, List.cons_eq_cons.2 ⟨?_, List.cons_eq_cons.2 ⟨?_, List.cons_eq_cons.2 ⟨?_, List.cons_eq_cons.2 ⟨?_, List.cons_eq_cons.2 ⟨?_, rfl⟩⟩⟩⟩⟩⟩⟩⟩ <;> omega

def tl : List Int := 128 :: List.replicate 71 0
def tail0 : List Value := U8s tl
/-- the first n + 8 bytes of the tail are what stands behind -/
theorem tail_is (B n : Nat) (hn : n = gap B + 1) (hB : B ≤ 100000) : (put4 (put4 tl n ((B : Int) * 8 / 4294967296)) (n + 4) ((B : Int) * 8)).take (n + 8) = behind B := by
  have hg : gap B < 64 := by unfold gap; omega
  have e1 : (put4 tl n ((B : Int) * 8 / 4294967296)).take (n + 4) = tl.take n ++ w4 ((B : Int) * 8 / 4294967296) := by
    unfold put4
    rw [List.take_append_of_le_length (by simp [w4, tl]; omega), List.take_of_length_le (by simp [w4, tl]; omega)]
  have e2 : tl.take n = 128 :: List.replicate (gap B) 0 := by
    subst hn
    unfold tl
    rw [List.take_succ_cons, List.take_replicate, Nat.min_eq_left (by omega)]
  rw [put4, e1, e2, List.take_append_of_le_length (by simp [w4]; omega), List.take_of_length_le (by simp [w4]; omega), behind, be8 _ (by omega) (by omega), show (B : Int) * 8 % 4294967296 = (B : Int) * 8 by omega]
  simp
theorem tail_sees {w : World} {g t : Nat} (B n : Nat) (hn : n = gap B + 1) (hB : B ≤ 100000) (h : w.heap[g]? = some (.cells (U8s (put4 (put4 tl n ((B : Int) * 8 / 4294967296)) (n + 4) ((B : Int) * 8))).toArray t (0, 0))) :
    Sees w (.slice (some ⟨g, 0, none⟩) (n + 8) 72) (behind B) := by
  have hl : (behind B).length = n + 8 := by simp [behind, be_length]; omega
  have hg : gap B < 64 := by unfold gap; omega
  rw [← hl]
  refine Sees.mk (by omega) (by unfold maxLen; omega) (fun i x hx => ?_)
  rw [Nat.zero_add, cell_blk h, List.getElem?_toArray]
  refine U8s_get ?_
  rw [← tail_is B n hn hB] at hx
  rw [List.getElem?_take] at hx
  split at hx
  · exact hx
  · cases hx
def zero72 : List Value := U8s (List.replicate 72 0)
/-- a part of an array of one's own, from l on, and up to h -/
theorem slice_from0 {t e : TypeId} {n : Nat} (hu : Try.prog.underlying t = some (.array n e)) (hq : (Try.prog.info? e).map (·.size) = some 1) (g l : Nat) (L : Int) (hL : L = l) (hl : l < n) (w : World) :
    (Instr.sliceAt t (.pointer (some ⟨g, 0, none⟩)) (some (.int .i64 L)) none none).run Try.prog w = .ok (.slice (some ⟨g, l, none⟩) (n - l) (n - l)) w := by
  have := slice_from hu hq g 0 l L hL hl w
  rw [Nat.zero_add] at this
  exact this
theorem slice_to {t e : TypeId} {n : Nat} (hu : Try.prog.underlying t = some (.array n e)) (hq : (Try.prog.info? e).map (·.size) = some 1) (g h : Nat) (L : Int) (hL : L = h) (hl : h ≤ n) (h0 : 0 < n) (w : World) :
    (Instr.sliceAt t (.pointer (some ⟨g, 0, none⟩)) none (some (.int .i64 L)) none).run Try.prog w = .ok (.slice (some ⟨g, 0, none⟩) h n) w := by
  subst hL
  obtain ⟨i, hi, hs⟩ := Option.map_eq_some_iff.1 hq
  have he : Try.prog.elem t = e := by simp [Program.elem, hu]
  have ha : Try.prog.arrayLen t = n := by simp [Program.arrayLen, hu]
  rw [run_sliceAt_array_h w t ⟨g, 0, none⟩ (by rw [ha, hu, he]) .i64 h (by omega) (by omega), he, ha]
  simp [sizeOf, typeInfo, hi, hs, slicedAt, Nat.ne_of_gt h0, Addr.add_mid]
theorem gap_eq (B : Nat) : 64 - ((B : Int) + 8) % 64 = ((gap B + 1 : Nat) : Int) ∧ gap B + 1 ≤ 64 := by
  unfold gap; omega
end Go.Proofs.Ytoeinolekpmbbaa
/-
  Contracts of package sha's New, Sum, Len, Write, Clone.
-/
namespace Go.Proofs.Ytoeinolekpmbbaa
open Go.ChangeShapes Go.WideShapes Go.ChangeAt Go.RowKit

theorem info32 (l : List Int) (h : l.length = 32) : (Try.prog.info? 27).map (·.size) = some (U8s l).toArray.size := by
  rw [List.size_toArray, U8s_length, h]; kernel_rfl
theorem stC_one (H : St) (part : List Int) (came : Int) : (stC H part came).toArray.all (·.oneCell') = true :=
  all_oneCell_toArray (fun v hv => by
    simp only [stC, stL, U32s, U8s, List.mem_cons, List.mem_append, List.mem_map, List.not_mem_nil, or_false] at hv
    rcases hv with rfl | (⟨_, _, rfl⟩ | ⟨_, _, rfl⟩) | rfl <;> rfl)
def st0 : List Value := .bool false :: (U32s (List.replicate 8 0) ++ U8s (List.replicate 64 0) ++ [.int .i64 0])
def id0 : List Int := List.replicate 32 0
theorem zerosId (w : World) : (zeroValue 27).run Try.prog w = .ok (.agg (U8s id0).toArray) w := by kernel_rfl

/-- the first k words' bytes stand in the name -/
structure SmRel (w : World) (s : St) (k : Nat) (wr : World) (g r : Nat) : Prop where
  row : ∃ l, wr.heap[g]? = some (.cells (U8s l).toArray 27 (0, 0)) ∧ l.length = 32 ∧ l.take (4 * k) = (bytesOf s).take (4 * k)
  out : ∃ l, wr.heap[r]? = some (.cells (U8s l).toArray 27 (0, 0)) ∧ l.length = 32
  kp : Kp (fun _ => False) w wr
theorem bytesOf_get (s : St) (k : Nat) (hk : k < 8) : (bytesOf s).take (4 * (k + 1)) = (bytesOf s).take (4 * k) ++ w4 (s.list.getD k 0) := by
  match k, hk with
  | 0, _ => rfl
  | 1, _ => rfl
  | 2, _ => rfl
  | 3, _ => rfl
  | 4, _ => rfl
  | 5, _ => rfl
  | 6, _ => rfl
  | 7, _ => rfl
end Go.Proofs.Ytoeinolekpmbbaa
/-
  Contracts of package sha's New, Len, Clone, Write and Sum of bytes; and of a state that no call made.
-/
namespace Go.Proofs.Ytoeinolekpmbbaa
open Go.ChangeShapes Go.WideShapes Go.ChangeAt Go.RowKit

/-- a slice of slices that shows these bytes; nothing of it lies in block p -/
def SeesL (p : Nat) (w : World) (v : Value) (ls : List (List Int)) : Prop :=
  (v = .slice none 0 0 ∧ ls = []) ∨
  ∃ ad cap, v = .slice (some ad) ls.length cap ∧ ls.length ≤ cap ∧ cap ≤ maxLen ∧ ∀ i l, ls[i]? = some l → ad.block ≠ p ∧ ∃ u, w.cell? (ad.add i) = some u ∧ Sees w u l ∧ (l ≠ [] → ∀ g, u.ownBlock = some g → g ≠ p)
theorem SeesL.kept {p : Nat} {w w' : World} {v : Value} {ls : List (List Int)} (h : SeesL p w v ls) (k : Kp (fun y => y = p) w w') : SeesL p w' v ls := by
  rcases h with h | ⟨ad, cap, rfl, h1, h2, h3⟩
  · exact .inl h
  · refine .inr ⟨ad, cap, rfl, h1, h2, fun i l hi => ?_⟩
    obtain ⟨hne, u, hc, hs, hf⟩ := h3 i l hi
    exact ⟨hne, u, by rw [k.cell (lt_of_cell hc) (by rw [add_block]; exact hne)]; exact hc, hs.kept k hf, hf⟩
theorem SeesL.len {p : Nat} {w : World} {v : Value} {ls : List (List Int)} (h : SeesL p w v ls) : ∃ a c, v = .slice a ls.length c := by
  rcases h with ⟨rfl, rfl⟩ | ⟨ad, cap, rfl, _⟩
  · exact ⟨_, _, rfl⟩
  · exact ⟨_, _, rfl⟩
theorem flatten_take_le (ls : List (List Int)) (k : Nat) : (ls.take k).flatten.length ≤ ls.flatten.length := by
  have := congrArg List.length (congrArg List.flatten (List.take_append_drop k ls))
  rw [List.flatten_append, List.length_append] at this
  omega
theorem take_flat (ls : List (List Int)) (k : Nat) (l : List Int) (h : ls[k]? = some l) : (ls.take (k + 1)).flatten = (ls.take k).flatten ++ l := by
  rw [List.take_add_one, h]; simp

end Go.Proofs.Ytoeinolekpmbbaa
/-
  Bytes and texts: a slice of bytes as a text, two texts held against each other, bytes.Compare.
-/
namespace Go.Proofs.Ytoeinolekpmbbaa
open Go.ChangeShapes Go.WideShapes Go.ChangeAt Go.RowKit

/-- a text's bytes -/
def Bys (s : ByteArray) : List Int := s.data.toList.map fun b => (b.toNat : Int)
theorem run_string_of {w : World} {b : Value} {xs : List Int} (hs : Sees w b xs) : (convert 56 9 b).run Try.prog w = .ok (.string (strOfNums xs)) w := by
  rcases hs with ⟨rfl, rfl⟩ | ⟨ad, cap, rfl, h1, h2, hc⟩
  · exact run_convert_bytes_nil w 56 5 Try.underlying56 Try.underlying5 0 0 9 Try.underlying9
  · have hl : (loadCells ad xs.length).run Try.prog w = .ok (xs.map (Value.int .u8)).toArray w := by
      have h := run_loadCells_list (P := Try.prog) w ad (U8s xs) (fun j v hj => by
        obtain ⟨x, hx, rfl⟩ := U8s_inv hj
        exact hc j x hx)
      rw [U8s_length] at h
      exact h
    rw [run_convert_bytes_string w 56 9 5 _ _ cap Try.underlying56 Try.underlying5 Try.underlying9, run_bytesToString w _ _ cap xs hl, foldl_push_bytes]
    simp [strOfNums, ByteArray.empty, ByteArray.emptyWithCapacity]
    rfl
theorem Bys_strOfNums {xs : List Int} (h : Rng xs) : Bys (strOfNums xs) = xs := by
  unfold Bys
  rw [strOfNums_data, List.map_map]
  conv => rhs; rw [← List.map_id xs]
  apply List.map_congr_left
  intro x hx
  have := h x hx
  simp only [Function.comp, id, UInt8.toNat_ofNat']
  omega

theorem strOf_inj {xs ys : List Int} (hx : Rng xs) (hy : Rng ys) : ((strOfNums xs).toList == (strOfNums ys).toList) = decide (xs = ys) := by
  rw [Lib.toList_data, Lib.toList_data]
  by_cases h : xs = ys
  · subst h; simp
  · rw [decide_eq_false h]
    refine beq_eq_false_iff_ne.2 (fun e => h ?_)
    rw [← Bys_strOfNums hx, ← Bys_strOfNums hy]
    unfold Bys
    rw [e]

theorem run_loadBytes (w : World) (b : Nat) : ∀ (xs : List Int) (off : Nat) (acc : ByteArray), (∀ i x, xs[i]? = some x → w.cell? ⟨b, off + i, none⟩ = some (.int .u8 x)) →
    (Extern.Bytes.loadBytes ⟨b, off, none⟩ xs.length acc).run Try.prog w = .ok (xs.foldl (fun r n => r.push (UInt8.ofNat n.toNat)) acc) w
  | [], _, _, _ => rfl
  | x :: xs, off, acc, h => by
    have h0 := h 0 x rfl
    have ih := run_loadBytes w b xs (off + 1) (acc.push (UInt8.ofNat x.toNat)) (fun i y hy => by
      have := h (i + 1) y hy
      rw [show off + 1 + i = off + (i + 1) by omega]; exact this)
    have hl : (load ⟨b, off, none⟩).run Try.prog w = .ok (.int .u8 x) w := by
      rw [Nat.add_zero] at h0
      simp [go_sem, h0]
    show (Extern.Bytes.loadBytes ⟨b, off, none⟩ (xs.length + 1) acc).run Try.prog w = _
    simp only [Extern.Bytes.loadBytes, Sem.run_bind, hl, Result.andThen]
    exact ih

theorem run_bytesOf {w : World} {v : Value} {xs : List Int} (h : Sees w v xs) : (Extern.Bytes.bytesOf v).run Try.prog w = .ok (strOfNums xs) w := by
  have hf : xs.foldl (fun r n => r.push (UInt8.ofNat n.toNat)) ByteArray.empty = strOfNums xs := by
    rw [foldl_push_bytes]; simp [strOfNums, ByteArray.empty, ByteArray.emptyWithCapacity]; rfl
  rcases h with ⟨rfl, rfl⟩ | ⟨ad, cap, rfl, h1, h2, hc⟩
  · rw [← hf]; rfl
  · cases xs with
    | nil => rw [← hf]; rfl
    | cons x r =>
      have h0 := hc 0 x rfl
      have hs := spot_of_cell h0
      obtain ⟨b, off, s⟩ := ad
      have hs' : s = none := by simpa [Addr.add] using hs
      subst hs'
      have h3 := run_loadBytes w b (x :: r) off ByteArray.empty (fun i y hy => by
        have := hc i y hy
        rw [Addr.add_lit] at this; exact this)
      rw [hf] at h3
      exact h3

theorem run_compare {w : World} {a b : Value} {xs ys : List Int} (ha : Sees w a xs) (hb : Sees w b ys) :
    (Extern.BytealgCompare.compare #[a, b]).run Try.prog w = .ok (.int .i64 (Lib.compareBytes (strOfNums xs).data.toList (strOfNums ys).data.toList)) w := by
  change Sem.run Try.prog (do pure (goInt (Extern.BytealgCompare.cmp (← Extern.Bytes.bytesOf a) (← Extern.Bytes.bytesOf b)))) w = _
  simp only [Sem.run_bind, Sem.run_pure, Result.andThen, run_bytesOf ha, run_bytesOf hb]
  rw [Lib.cmp_eq]
  rfl

def cmpI : List Int → List Int → Int
  | [], [] => 0
  | [], _ :: _ => -1
  | _ :: _, [] => 1
  | a :: xs, b :: ys => if a < b then -1 else if b < a then 1 else cmpI xs ys
theorem compareBytes_eq : ∀ (xs ys : List Int), Rng xs → Rng ys → Lib.compareBytes (strOfNums xs).data.toList (strOfNums ys).data.toList = cmpI xs ys
  | [], [], _, _ => rfl
  | [], _ :: _, _, _ => rfl
  | _ :: _, [], _, _ => rfl
  | x :: xs, y :: ys, hx, hy => by
    have ih := compareBytes_eq xs ys (fun z hz => hx z (List.mem_cons_of_mem _ hz)) (fun z hz => hy z (List.mem_cons_of_mem _ hz))
    have hx0 := hx x (List.mem_cons_self ..)
    have hy0 := hy y (List.mem_cons_self ..)
    rw [strOfNums_data, strOfNums_data] at ih ⊢
    simp only [List.map_cons, Lib.compareBytes, cmpI, ih]
    have e1 : (UInt8.ofNat x.toNat < UInt8.ofNat y.toNat) ↔ x < y := by
      rw [UInt8.lt_iff_toNat_lt]; simp only [UInt8.toNat_ofNat']; omega
    have e2 : (UInt8.ofNat y.toNat < UInt8.ofNat x.toNat) ↔ y < x := by
      rw [UInt8.lt_iff_toNat_lt]; simp only [UInt8.toNat_ofNat']; omega
    simp only [e1, e2]

set_option maxHeartbeats 1000000 in
set_option maxRecDepth 100000 in
theorem compare_any {w : World} {a b : Value} {xs ys : List Int} (ha : Sees w a xs) (hb : Sees w b ys) (hx : Rng xs) (hy : Rng ys) :
    Calls Try.prog 46 #[a, b] w fun r w' => r = .returned (.int .i64 (cmpI xs ys)) ∧ w = w' := by
  have H := Lib.hid (run_compare ha hb)
  have HC := Lib.hid (compareBytes_eq xs ys hx hy)
  clear ha hb hx hy
  go_enter Try.func46, Try.ntmps46
  go_wp2
  rw [run_callFunc_extern Try.func53 (by kernel_rfl) (by kernel_rfl) (by kernel_rfl) (e := Extern.BytealgCompare.compare) (by kernel_rfl), H.out]
  simp only [Result.andThen]
  rw [Oper.upon_value]
  go_wp2
  go_ret
  exact ⟨by rw [← HC.out]; rfl, rfl⟩

end Go.Proofs.Ytoeinolekpmbbaa
/-
  Contracts of package sha's names: Compare, Less, Hex.
-/
namespace Go.Proofs.Ytoeinolekpmbbaa
open Go.ChangeShapes Go.WideShapes Go.ChangeAt Go.RowKit

/-- a name's bytes -/
structure Nm (xs : List Int) : Prop where
  len : xs.length = 32
  rng : Rng xs
theorem array_sees {w : World} {g t : Nat} {xs : List Int} {fr : Nat × Nat} (h : w.heap[g]? = some (.cells (U8s xs).toArray t fr)) (hl : xs.length ≤ 100000) : Sees w (.slice (some ⟨g, 0, none⟩) xs.length xs.length) xs :=
  Sees.mk (Nat.le_refl _) (by unfold maxLen; omega) (fun i x hx => by
    rw [Nat.zero_add, cell_blk h, List.getElem?_toArray]; exact U8s_get hx)

end Go.Proofs.Ytoeinolekpmbbaa
/-
  Two names held against each other by == : whether all their bytes are the same.
-/
namespace Go.Proofs.Ytoeinolekpmbbaa
open Go.ChangeShapes Go.WideShapes Go.ChangeAt Go.RowKit

/-- a whole row loaded, where the operation's guard says yes -/
theorem wpList_load_want {P : Program} {ops : Array Oper} {rest : List Oper} {o : Oper} {a : Act} {w : World} {Q : Exit → Act → World → Prop} (hw : Region.wanted o (yielded ops a.tmps) = true) (ty : TypeId) (x : Operand) (ho : o.op = .load ty x)
    (g : Nat) (hx : a.eval x = .pointer (some ⟨g, 0, none⟩)) (t : TypeId) (cs : Array Value) (fr : Nat × Nat) (d : TypeDesc) (hg : w.heap[g]? = some (.cells cs t fr))
    (hu : P.underlying ty = some d) (hd : (match d with | .struct _ | .array _ _ => true | _ => false) = true) (hi : (P.info? ty).map (·.size) = some cs.size)
    (h : wpList P ops Q rest (a.put o.dst (.agg cs)) w) : wpList P ops Q (o :: rest) a w :=
  BigFrame.wpList_want hw fun _ hK => wp_load_row ty x ho g hx t cs fr d hg hu hd hi (hK _ _ h)
theorem part_byte (l : List Int) (i : Nat) (hi : i < l.length) (w : World) : (part 5 (U8s l).toArray i).run Try.prog w = .ok (.int .u8 (l.getD i 0)) w := by
  have hg : (U8s l)[i]? = some (.int .u8 (l.getD i 0)) := by simp [U8s, hi]
  simp [part, isAgg, run_underlying Try.underlying5, hg]
theorem drop_getD (a : List Int) (s : Nat) (h : s < a.length) : a.drop s = a.getD s 0 :: a.drop (s + 1) := by
  rw [List.drop_eq_getElem_cons h]; simp [h]
theorem loop_eq (d : Nat) (a b : List Int) (ha : a.length = 32) (hb : b.length = 32) (w : World) : ∀ (n s : Nat), s + n = 32 →
    (forIn (List.range' s n) ((none : Option Bool), PUnit.unit) (fun i _ => (do
        if !(← Op.equalIn (d + 1) 5 (← part 5 (U8s a).toArray (i * 1)) (← part 5 (U8s b).toArray (i * 1))) then pure (ForInStep.done (some false, PUnit.unit))
        else pure (ForInStep.yield (none, PUnit.unit)) : Sem (ForInStep (Option Bool × PUnit))))).run Try.prog w =
      .ok (if a.drop s = b.drop s then none else some false, PUnit.unit) w
  | 0, s, hs => by
    have h : a.drop s = b.drop s := by rw [List.drop_eq_nil_of_le (by omega), List.drop_eq_nil_of_le (by omega)]
    rw [if_pos h]
    simp
  | n + 1, s, hs => by
    have ih := loop_eq d a b ha hb w n (s + 1) (by omega)
    rw [List.range'_succ, List.forIn_cons]
    simp only [Sem.run_bind, Nat.mul_one, part_byte a s (by omega), part_byte b s (by omega), Result.andThen_ok, run_equalIn_int w d 5 .u8 .u8 _ _ Try.underlying5]
    by_cases hx : a.getD s 0 = b.getD s 0
    · have hb : (a.getD s 0 == b.getD s 0) = true := beq_iff_eq.2 hx
      rw [hb]
      simp only [Bool.not_true, Bool.false_eq_true, if_false, Sem.run_pure, Result.andThen_ok]
      simp only [Nat.mul_one] at ih
      rw [ih]
      rw [drop_getD a s (by omega), drop_getD b s (by omega), hx]
      simp
    · have hb : (a.getD s 0 == b.getD s 0) = false := beq_eq_false_iff_ne.2 hx
      rw [hb]
      simp only [Bool.not_false, if_true, Sem.run_pure, Result.andThen_ok]
      rw [if_neg (fun h => hx (by
        rw [drop_getD a s (by omega), drop_getD b s (by omega)] at h
        exact (List.cons.inj h).1))]
theorem equal_names (d : Nat) (a b : List Int) (ha : a.length = 32) (hb : b.length = 32) (w : World) :
    (Op.equalIn (d + 2) 27 (.agg (U8s a).toArray) (.agg (U8s b).toArray)).run Try.prog w = .ok (decide (a = b)) w := by
  obtain ⟨i, hi, hs⟩ := Option.map_eq_some_iff.1 u8size
  have hl := loop_eq d a b ha hb w 32 0 rfl
  rw [List.drop_zero, List.drop_zero] at hl
  rw [show d + 2 = (d + 1) + 1 from rfl, Op.equalIn]
  simp only [Sem.run_bind, run_underlying Try.underlying27, Result.andThen_ok, sizeOf, typeInfo, run_program, hi, Sem.run_pure, hs, Std.Legacy.Range.forIn_eq_forIn_range', Std.Legacy.Range.size]
  refine (congrArg (fun r => Result.andThen r _) hl).trans ?_
  by_cases h : a = b
  · simp [h, Result.andThen]
  · simp [h, Result.andThen]
theorem eql_names (a b : List Int) (ha : a.length = 32) (hb : b.length = 32) (w : World) : (binOp .eql 27 (.agg (U8s a).toArray) (.agg (U8s b).toArray)).run Try.prog w = .ok (.bool (decide (a = b))) w := by
  rw [run_eql_struct, equal_names 9998 a b ha hb w]; rfl
theorem neq_names (a b : List Int) (ha : a.length = 32) (hb : b.length = 32) (w : World) : (binOp .neq 27 (.agg (U8s a).toArray) (.agg (U8s b).toArray)).run Try.prog w = .ok (.bool (!decide (a = b))) w := by
  rw [run_neq_struct, equal_names 9998 a b ha hb w]; rfl
end Go.Proofs.Ytoeinolekpmbbaa
/-
  Contract of package sha's Hex: a name's text.
-/
namespace Go.Proofs.Ytoeinolekpmbbaa
open Go.ChangeShapes Go.WideShapes Go.ChangeAt Go.RowKit

/-- a digit to the base 16 -/
def dg (n : Int) : Int := if n < 10 then 48 + n else 87 + n
/-- the digits of bytes -/
def hexI (xs : List Int) : List Int := xs.flatMap fun b => [dg (b / 16), dg (b % 16)]
theorem hexI_length (xs : List Int) : (hexI xs).length = 2 * xs.length := by
  induction xs with
  | nil => rfl
  | cons x r ih => simp only [hexI, List.flatMap_cons, List.length_append, List.length_cons, List.length_nil] at ih ⊢; omega
theorem hexI_append (xs ys : List Int) : hexI (xs ++ ys) = hexI xs ++ hexI ys := by simp [hexI]
theorem dg_rng (n : Int) (h0 : 0 ≤ n) (h1 : n < 16) : 48 ≤ dg n ∧ dg n ≤ 102 := by unfold dg; split <;> omega
theorem hexI_rng {xs : List Int} (h : Rng xs) : Rng (hexI xs) := by
  intro x hx
  obtain ⟨b, hb, hx⟩ := List.mem_flatMap.1 hx
  have := h b hb
  simp only [List.mem_cons, List.not_mem_nil, or_false] at hx
  rcases hx with rfl | rfl
  · have := dg_rng (b / 16) (by omega) (by omega); omega
  · have := dg_rng (b % 16) (by omega) (by omega); omega
def digs : ByteArray := ⟨#[48, 49, 50, 51, 52, 53, 54, 55, 56, 57, 97, 98, 99, 100, 101, 102]⟩
theorem digs_0 (w : World) : (Instr.index 9 (.string ⟨#[48, 49, 50, 51, 52, 53, 54, 55, 56, 57, 97, 98, 99, 100, 101, 102]⟩) (.int .u8 0)).run Try.prog w = .ok (.int .u8 (dg 0)) w := by kernel_rfl
theorem digs_1 (w : World) : (Instr.index 9 (.string ⟨#[48, 49, 50, 51, 52, 53, 54, 55, 56, 57, 97, 98, 99, 100, 101, 102]⟩) (.int .u8 1)).run Try.prog w = .ok (.int .u8 (dg 1)) w := by kernel_rfl
theorem digs_2 (w : World) : (Instr.index 9 (.string ⟨#[48, 49, 50, 51, 52, 53, 54, 55, 56, 57, 97, 98, 99, 100, 101, 102]⟩) (.int .u8 2)).run Try.prog w = .ok (.int .u8 (dg 2)) w := by kernel_rfl
theorem digs_3 (w : World) : (Instr.index 9 (.string ⟨#[48, 49, 50, 51, 52, 53, 54, 55, 56, 57, 97, 98, 99, 100, 101, 102]⟩) (.int .u8 3)).run Try.prog w = .ok (.int .u8 (dg 3)) w := by kernel_rfl
theorem digs_4 (w : World) : (Instr.index 9 (.string ⟨#[48, 49, 50, 51, 52, 53, 54, 55, 56, 57, 97, 98, 99, 100, 101, 102]⟩) (.int .u8 4)).run Try.prog w = .ok (.int .u8 (dg 4)) w := by kernel_rfl
theorem digs_5 (w : World) : (Instr.index 9 (.string ⟨#[48, 49, 50, 51, 52, 53, 54, 55, 56, 57, 97, 98, 99, 100, 101, 102]⟩) (.int .u8 5)).run Try.prog w = .ok (.int .u8 (dg 5)) w := by kernel_rfl
theorem digs_6 (w : World) : (Instr.index 9 (.string ⟨#[48, 49, 50, 51, 52, 53, 54, 55, 56, 57, 97, 98, 99, 100, 101, 102]⟩) (.int .u8 6)).run Try.prog w = .ok (.int .u8 (dg 6)) w := by kernel_rfl
theorem digs_7 (w : World) : (Instr.index 9 (.string ⟨#[48, 49, 50, 51, 52, 53, 54, 55, 56, 57, 97, 98, 99, 100, 101, 102]⟩) (.int .u8 7)).run Try.prog w = .ok (.int .u8 (dg 7)) w := by kernel_rfl
theorem digs_8 (w : World) : (Instr.index 9 (.string ⟨#[48, 49, 50, 51, 52, 53, 54, 55, 56, 57, 97, 98, 99, 100, 101, 102]⟩) (.int .u8 8)).run Try.prog w = .ok (.int .u8 (dg 8)) w := by kernel_rfl
theorem digs_9 (w : World) : (Instr.index 9 (.string ⟨#[48, 49, 50, 51, 52, 53, 54, 55, 56, 57, 97, 98, 99, 100, 101, 102]⟩) (.int .u8 9)).run Try.prog w = .ok (.int .u8 (dg 9)) w := by kernel_rfl
theorem digs_10 (w : World) : (Instr.index 9 (.string ⟨#[48, 49, 50, 51, 52, 53, 54, 55, 56, 57, 97, 98, 99, 100, 101, 102]⟩) (.int .u8 10)).run Try.prog w = .ok (.int .u8 (dg 10)) w := by kernel_rfl
theorem digs_11 (w : World) : (Instr.index 9 (.string ⟨#[48, 49, 50, 51, 52, 53, 54, 55, 56, 57, 97, 98, 99, 100, 101, 102]⟩) (.int .u8 11)).run Try.prog w = .ok (.int .u8 (dg 11)) w := by kernel_rfl
theorem digs_12 (w : World) : (Instr.index 9 (.string ⟨#[48, 49, 50, 51, 52, 53, 54, 55, 56, 57, 97, 98, 99, 100, 101, 102]⟩) (.int .u8 12)).run Try.prog w = .ok (.int .u8 (dg 12)) w := by kernel_rfl
theorem digs_13 (w : World) : (Instr.index 9 (.string ⟨#[48, 49, 50, 51, 52, 53, 54, 55, 56, 57, 97, 98, 99, 100, 101, 102]⟩) (.int .u8 13)).run Try.prog w = .ok (.int .u8 (dg 13)) w := by kernel_rfl
theorem digs_14 (w : World) : (Instr.index 9 (.string ⟨#[48, 49, 50, 51, 52, 53, 54, 55, 56, 57, 97, 98, 99, 100, 101, 102]⟩) (.int .u8 14)).run Try.prog w = .ok (.int .u8 (dg 14)) w := by kernel_rfl
theorem digs_15 (w : World) : (Instr.index 9 (.string ⟨#[48, 49, 50, 51, 52, 53, 54, 55, 56, 57, 97, 98, 99, 100, 101, 102]⟩) (.int .u8 15)).run Try.prog w = .ok (.int .u8 (dg 15)) w := by kernel_rfl
theorem digs_at (n : Int) (h0 : 0 ≤ n) (h1 : n < 16) (w : World) : (Instr.index 9 (.string ⟨#[48, 49, 50, 51, 52, 53, 54, 55, 56, 57, 97, 98, 99, 100, 101, 102]⟩) (.int .u8 n)).run Try.prog w = .ok (.int .u8 (dg n)) w := by
  have h : n = 0 ∨ n = 1 ∨ n = 2 ∨ n = 3 ∨ n = 4 ∨ n = 5 ∨ n = 6 ∨ n = 7 ∨ n = 8 ∨ n = 9 ∨ n = 10 ∨ n = 11 ∨ n = 12 ∨ n = 13 ∨ n = 14 ∨ n = 15 := by omega
  rcases h with rfl | rfl | rfl | rfl | rfl | rfl | rfl | rfl | rfl | rfl | rfl | rfl | rfl | rfl | rfl | rfl
  · exact digs_0 w
  · exact digs_1 w
  · exact digs_2 w
  · exact digs_3 w
  · exact digs_4 w
  · exact digs_5 w
  · exact digs_6 w
  · exact digs_7 w
  · exact digs_8 w
  · exact digs_9 w
  · exact digs_10 w
  · exact digs_11 w
  · exact digs_12 w
  · exact digs_13 w
  · exact digs_14 w
  · exact digs_15 w
def zero64 : List Value := U8s (List.replicate 64 0)
/-- one place of a row of bytes -/
theorem index_bytes {t : TypeId} {n : Nat} {e : TypeId} (hu : Try.prog.underlying t = some (.array n e)) (he : Try.prog.underlying e = some (.int .u8)) (hq : (Try.prog.info? e).map (·.size) = some 1) (l : List Int) (hl : l.length = n) (k : Nat) (hk : k < n) (w : World) :
    (Instr.index t (.agg (U8s l).toArray) (.int .i64 k)).run Try.prog w = .ok (.int .u8 (l.getD k 0)) w := by
  obtain ⟨i, hi, hs⟩ := Option.map_eq_some_iff.1 hq
  have h0 : (0 : Int) ≤ k := by omega
  have hg : (U8s l)[k]? = some (.int .u8 (l.getD k 0)) := by simp [U8s, show k < l.length by omega]
  simp [Instr.index, run_underlying hu, asIntOf, h0, hk, go_sem, sizeOf, typeInfo, hi, hs, hg, isAgg, run_underlying he]

end Go.Proofs.Ytoeinolekpmbbaa
/-
  Contract of the laws' own begun: the letters' abc sum is the one that FIPS 180-4 tells.
-/
namespace Go.Proofs.Ytoeinolekpmbbaa
open Go.ChangeShapes Go.WideShapes Go.ChangeAt Go.RowKit

set_option maxRecDepth 100000 in
theorem abc_sum : sumOf [97, 98, 99] = [186, 120, 22, 191, 143, 1, 207, 234, 65, 65, 64, 222, 93, 174, 34, 35, 176, 3, 97, 163, 150, 23, 122, 156, 180, 16, 255, 97, 242, 0, 21, 173] := by decide +kernel
def abcText : ByteArray := ⟨#[98, 97, 55, 56, 49, 54, 98, 102, 56, 102, 48, 49, 99, 102, 101, 97, 52, 49, 52, 49, 52, 48, 100, 101, 53, 100, 97, 101, 50, 50, 50, 51, 98, 48, 48, 51, 54, 49, 97, 51, 57, 54, 49, 55, 55, 97, 57, 99, 98, 52, 49, 48, 102, 102, 54, 49, 102, 50, 48, 48, 49, 53, 97, 100]⟩
theorem abc_text : strOfNums (hexI (sumOf [97, 98, 99])) = abcText := by
  rw [abc_sum]; rfl

theorem lits_sees (w : World) (xs : List Int) (hx : xs.length ≤ 1000) (t : Nat) (fr : Nat × Nat) : Sees (w.alloc (.cells (U8s xs).toArray t fr)) (.slice (some ⟨w.heap.size, 0, none⟩) xs.length xs.length) xs :=
  array_sees (new_blk w _) (by omega)
end Go.Proofs.Ytoeinolekpmbbaa
/-
  ShaCompares's walk: which of any two names comes ahead.
-/
namespace Go.Proofs.Ytoeinolekpmbbaa
open Go.ChangeShapes Go.WideShapes Go.ChangeAt Go.RowKit

theorem cmpI_drop : ∀ (k : Nat) (a b : List Int), a.take k = b.take k → k ≤ a.length → k ≤ b.length → cmpI a b = cmpI (a.drop k) (b.drop k)
  | 0, _, _, _, _, _ => rfl
  | k + 1, x :: a, y :: b, h, h1, h2 => by
    rw [List.take_succ_cons, List.take_succ_cons] at h
    obtain ⟨e, h'⟩ := List.cons.inj h
    subst e
    have := cmpI_drop k a b h' (by simpa using h1) (by simpa using h2)
    rw [List.drop_succ_cons, List.drop_succ_cons, ← this]
    simp [cmpI]
  | k + 1, [], _, _, h1, _ => by simp at h1
  | k + 1, _ :: _, [], _, _, h2 => by simp at h2
theorem cmpI_self (a : List Int) : cmpI a a = 0 := by
  induction a with
  | nil => rfl
  | cons x r ih => simp [cmpI, ih]
theorem cmpI_range (a b : List Int) : cmpI a b = -1 ∨ cmpI a b = 0 ∨ cmpI a b = 1 := by
  fun_induction cmpI <;> simp_all

end Go.Proofs.Ytoeinolekpmbbaa
/-
  The order of names, as plain lists: turned, by a third one, of texts.
-/
namespace Go.Proofs.Ytoeinolekpmbbaa
open Go.RowKit

theorem cmpI_turn : ∀ (a b : List Int), cmpI b a = -cmpI a b
  | [], [] => rfl
  | [], _ :: _ => rfl
  | _ :: _, [] => rfl
  | x :: a, y :: b => by
    have ih := cmpI_turn a b
    simp only [cmpI]
    by_cases h1 : x < y
    · simp [h1, show ¬ y < x by omega]
    · by_cases h2 : y < x
      · simp [h1, h2]
      · simp [h1, h2, ih]
theorem cmpI_zero : ∀ (a b : List Int), a.length = b.length → (cmpI a b = 0 ↔ a = b)
  | [], [], _ => by simp [cmpI]
  | [], _ :: _, h => by simp at h
  | _ :: _, [], h => by simp at h
  | x :: a, y :: b, h => by
    have ih := cmpI_zero a b (by simpa using h)
    simp only [cmpI]
    by_cases h1 : x < y
    · simp [h1]; intro e; omega
    · by_cases h2 : y < x
      · simp [h1, h2]; intro e; omega
      · simp [h1, h2, ih]; intro _; omega
theorem cmpI_trans : ∀ (a b c : List Int), (cmpI a b ≤ 0 → cmpI b c ≤ 0 → cmpI a c ≤ 0)
  | [], [], [] => by simp [cmpI]
  | [], [], _ :: _ => by simp [cmpI]
  | [], _ :: _, [] => by simp [cmpI]
  | [], _ :: _, _ :: _ => by simp [cmpI]
  | _ :: _, [], _ => by simp [cmpI]
  | _ :: _, _ :: _, [] => by simp [cmpI]
  | x :: a, y :: b, z :: c => by
    have ih := cmpI_trans a b c
    simp only [cmpI]
    by_cases h1 : x < y <;> by_cases h2 : y < x <;> by_cases h3 : y < z <;> by_cases h4 : z < y <;> by_cases h5 : x < z <;> by_cases h6 : z < x <;> simp_all <;> omega
theorem cmpI_trans' (a b c : List Int) (h1 : 0 ≤ cmpI a b) (h2 : 0 ≤ cmpI b c) : 0 ≤ cmpI a c := by
  have := cmpI_trans c b a (by rw [cmpI_turn]; omega) (by rw [cmpI_turn]; omega)
  rw [cmpI_turn] at this
  omega
theorem dg_lt {m n : Int} (h1 : m < n) : dg m < dg n := by unfold dg; split <;> split <;> omega
theorem hex_cmp : ∀ (a b : List Int), a.length = b.length → Rng a → Rng b → cmpI (hexI a) (hexI b) = cmpI a b
  | [], [], _, _, _ => rfl
  | [], _ :: _, h, _, _ => by simp at h
  | _ :: _, [], h, _, _ => by simp at h
  | x :: a, y :: b, h, ha, hb => by
    have ih := hex_cmp a b (by simpa using h) (fun z hz => ha z (List.mem_cons_of_mem _ hz)) (fun z hz => hb z (List.mem_cons_of_mem _ hz))
    have hx := ha x (List.mem_cons_self ..)
    have hy := hb y (List.mem_cons_self ..)
    have ex : hexI (x :: a) = dg (x / 16) :: dg (x % 16) :: hexI a := rfl
    have ey : hexI (y :: b) = dg (y / 16) :: dg (y % 16) :: hexI b := rfl
    rw [ex, ey]
    simp only [cmpI, ih]
    rcases Int.lt_trichotomy (x / 16) (y / 16) with h1 | h1 | h1
    · have := dg_lt h1
      rw [if_pos this, if_pos (by omega)]
    · rw [h1]
      rw [if_neg (by omega), if_neg (by omega)]
      rcases Int.lt_trichotomy (x % 16) (y % 16) with h2 | h2 | h2
      · have := dg_lt h2
        rw [if_pos this, if_pos (by omega)]
      · rw [h2, if_neg (by omega), if_neg (by omega), if_neg (by omega), if_neg (by omega)]
      · have := dg_lt h2
        rw [if_neg (by omega), if_pos this, if_neg (by omega), if_pos (by omega)]
    · have := dg_lt h1
      rw [if_neg (by omega), if_pos this, if_neg (by omega), if_pos (by omega)]
theorem less_cmp : ∀ (xs ys : List Int), Rng xs → Rng ys → Op.bytesLess (strOfNums xs).toList (strOfNums ys).toList = decide (cmpI xs ys < 0) := by
  intro xs ys hx hy
  rw [Lib.toList_data, Lib.toList_data, strOfNums_data, strOfNums_data]
  induction xs generalizing ys with
  | nil =>
    cases ys with
    | nil => rfl
    | cons y ys => rfl
  | cons x xs ih =>
    cases ys with
    | nil => rfl
    | cons y ys =>
      have ih := ih ys (fun z hz => hx z (List.mem_cons_of_mem _ hz)) (fun z hz => hy z (List.mem_cons_of_mem _ hz))
      have hx0 := hx x (List.mem_cons_self ..)
      have hy0 := hy y (List.mem_cons_self ..)
      simp only [List.map_cons, cmpI]
      have e1 : (UInt8.ofNat x.toNat < UInt8.ofNat y.toNat) ↔ x < y := by
        rw [UInt8.lt_iff_toNat_lt]; simp only [UInt8.toNat_ofNat']; omega
      have e2 : (UInt8.ofNat x.toNat = UInt8.ofNat y.toNat) ↔ x = y := by
        rw [← UInt8.toNat_inj]; simp only [UInt8.toNat_ofNat']; omega
      have e3 : (UInt8.ofNat x.toNat == UInt8.ofNat y.toNat) = decide (x = y) := by
        rw [Bool.eq_iff_iff]; simp [e2]
      simp only [Op.bytesLess, ih, e1, e3]
      by_cases h1 : x < y
      · simp [h1]
      · by_cases h2 : y < x
        · simp [h1, h2, show ¬ x = y by omega]
        · simp [show x = y by omega]
end Go.Proofs.Ytoeinolekpmbbaa
/-
  What every law's row asks behind its walk: the one result is true, the arguments read as they did, nothing that was there has turned.
-/
namespace Go.Proofs.Ytoeinolekpmbbaa
open Go.ChangeShapes Go.WideShapes Go.ChangeAt Go.RowKit

theorem own : ownKnob Try.prog.godebug = none := by kernel_rfl
theorem laid : laidOutB Try.prog = true := by kernel_rfl

theorem trodAll_later {H : Type} {P : Program} (laid : laidOutB P = true) {enc : TypeId × Value → H} {W W' : World} (hb : Below W.heap.size W W') : ∀ (ts : List TypeId) (vs : List Value) (ds : List (DataW H)) (ps : List MemPlace),
    ts.all (fun t => P.readableRec t && decide (t < P.types.size)) = true → DataW.TrodAll enc P W 0 (fun _ => true) true ts vs ds ps → (∀ x ∈ ps, x.block < W.heap.size) →
    DataW.TrodAll enc P W' 0 (fun b => decide (b < W.heap.size)) true ts vs ds ps
  | [], [], [], _, _, h, _ => h
  | t :: ts, v :: vs, d :: ds, ps, hr, h, hlt => by
    obtain ⟨p, q, h1, h2, rfl⟩ := h
    simp only [List.all_cons, Bool.and_eq_true, decide_eq_true_eq] at hr
    exact ⟨p, q, Below.trod laid hr.1.1 hr.1.2 h1 hb (fun x hx => hlt x (List.mem_append_left _ hx)), trodAll_later laid hb ts vs ds q (by simpa using hr.2) h2 (fun x hx => hlt x (List.mem_append_right _ hx)), rfl⟩
  | [], _ :: _, _, _, _, h, _ => h.elim
  | [], [], _ :: _, _, _, h, _ => h.elim
  | _ :: _, [], _, _, _, h, _ => h.elim
  | _ :: _, _ :: _, [], _, _, h, _ => h.elim

theorem law_post {H : Type} {enc : TypeId × Value → H} {f : Func} {s : ChangeSpec} {W W' : World} {args : Array Value} {ds gs : List (DataW H)} {before : List MemPlace} (hW : DataW.Whole enc Try.prog f.params.toList s.vars false W args.toList ds gs before)
    (hv : s.vars = []) (hrt : f.resultTypes = #[4]) (hrows : f.params.toList.all (fun t => Try.prog.readableRec t && decide (t < Try.prog.types.size)) = true)
    (h1 : s.fn H (ds ++ gs) = { results := [.lit (.bool true)], args := ds }) (hb : Below W.heap.size W W') : s.post enc Try.prog f false true false false W args (.bool true) W' := by
  have hW' := hW
  obtain ⟨p, q, hA, hV, rfl, _, _⟩ := hW
  have hlt := hW'.lt
  rw [hv] at hV
  obtain ⟨rfl, rfl⟩ := trodVars_none hV
  simp only [List.append_nil] at hlt h1
  refine ⟨ds, [], p ++ [], [], p, [], hW', ?_, ?_, ?_, hb.frame _, fun h => by cases h⟩
  · rw [List.append_nil, h1, hrt]
    exact trodAll_cons_mk (shut_bool Try.underlying4 _) trodAll_mk0
  · rw [List.append_nil, h1]
    exact trodAll_later laid hb _ _ _ _ hrows hA hlt
  · rw [List.append_nil, h1, hv]
    exact rfl
end Go.Proofs.Ytoeinolekpmbbaa
/-
  Selectors for the arms of a walk: each fails at once at another operation. Nothing of the program stands here.
-/
namespace Go.Proofs.Ytoeinolekpmbbaa

/-- the next operation writes slot s -/
theorem at_dst (s : Nat) {P : Program} {ops : Array Oper} {Q : Exit → Act → World → Prop} {rest : List Oper} {op : Op} {ty : TypeId} {pos : String} {af : Array Edge} {g : Option (Nat × Bool)} {a : Act} {w : World}
    (h : wpList P ops Q (⟨some s, op, ty, pos, af, g⟩ :: rest) a w) : wpList P ops Q (⟨some s, op, ty, pos, af, g⟩ :: rest) a w := h
/-- the next operation stores slot y where slot x points -/
theorem at_store (x y : Nat) {P : Program} {ops : Array Oper} {Q : Exit → Act → World → Prop} {rest : List Oper} {t ty : TypeId} {pos : String} {af : Array Edge} {g : Option (Nat × Bool)} {a : Act} {w : World}
    (h : wpList P ops Q (⟨none, .store t (.tmp x) (.tmp y), ty, pos, af, g⟩ :: rest) a w) : wpList P ops Q (⟨none, .store t (.tmp x) (.tmp y), ty, pos, af, g⟩ :: rest) a w := h
/-- a call with these arguments -/
theorem at_args (vs : Array Value) {P : Program} {f : FuncId} {w : World} {Q : Ending → World → Prop} (h : Calls P f vs w Q) : Calls P f vs w Q := h
/-- a slice literal whose run is known -/
theorem wpList_slice_run {P : Program} {ops : Array Oper} {rest : List Oper} {o : Oper} {a : Act} {w : World} {Q : Exit → Act → World → Prop} (hw : Region.wanted o (yielded ops a.tmps) = true) (t : TypeId) (len : Nat) (parts : Array (Nat × Operand)) (ho : o.op = .buildSlice t len parts)
    (vs : List (Nat × Value)) (hv : (parts.toList.map fun x => (x.1, a.eval x.2)) = vs) (v : Value) (w' : World) (hr : (Instr.buildSlice t len vs.toArray).run P w = .ok v w')
    (h : wpList P ops Q rest (a.put o.dst v) w') : wpList P ops Q (o :: rest) a w := by
  have e : (parts.map fun (i, x) => (i, a.eval x)) = vs.toArray := by rw [← hv]; apply Array.ext'; simp
  refine BigFrame.wpList_want hw fun K hK => ?_
  unfold Oper.wp execOp
  simp only [ho, e, Sem.run_bind, hr, Result.andThen_ok]
  exact hK _ _ h
end Go.Proofs.Ytoeinolekpmbbaa
/-
  Rows of elements of any size in memory of one's own, and what append makes of them. Nothing of the program but its types stands here.
-/
namespace Go.Proofs.Ytoeinolekpmbbaa
open Go.ChangeShapes Go.WideShapes Go.ChangeAt Go.RowKit

/-- n elements, these their cells, in a row of one's own -/
def OwnG (T sz : Nat) (w : World) (B : Nat) (v : Value) (n : Nat) (cs : List Value) : Prop :=
  cs.length = n * sz ∧ ((v = .slice none 0 0 ∧ n = 0) ∨
  ∃ g cap rest, v = .slice (some ⟨g, 0, none⟩) n cap ∧ B ≤ g ∧ w.heap[g]? = some (.cells (cs ++ rest).toArray T (0, 0)) ∧ (cs ++ rest).length = cap * sz ∧ n ≤ cap ∧ cap ≤ maxLen)
theorem OwnG.kept {T sz : Nat} {F : Nat → Prop} {w w' : World} {B n : Nat} {v : Value} {cs : List Value} (h : OwnG T sz w B v n cs) (k : Kp F w w') (hF : ∀ g, v.ownBlock = some g → ¬ F g) : OwnG T sz w' B v n cs := by
  obtain ⟨h0, h | ⟨g, cap, rest, rfl, h1, h2, h3⟩⟩ := h
  · exact ⟨h0, .inl h⟩
  · exact ⟨h0, .inr ⟨g, cap, rest, rfl, h1, kept_blk h2 k (hF g rfl), h3⟩⟩
theorem OwnG.lt {T sz : Nat} {w : World} {B n : Nat} {v : Value} {cs : List Value} (h : OwnG T sz w B v n cs) : ∀ g, v.ownBlock = some g → B ≤ g ∧ g < w.heap.size := by
  obtain ⟨_, ⟨rfl, _⟩ | ⟨g, cap, rest, rfl, h1, h2, _⟩⟩ := h
  · intro g hg; cases hg
  · intro x hx; cases hx; exact ⟨h1, lt_of_blk h2⟩
theorem OwnG.form {T sz : Nat} {w : World} {B n : Nat} {v : Value} {cs : List Value} (h : OwnG T sz w B v n cs) : ∃ a c, v = .slice a n c := by
  obtain ⟨_, ⟨rfl, rfl⟩ | ⟨g, cap, rest, rfl, _⟩⟩ := h
  · exact ⟨none, 0, rfl⟩
  · exact ⟨_, _, rfl⟩
theorem OwnG.nil (T sz : Nat) (w : World) (B : Nat) : OwnG T sz w B (.slice none 0 0) 0 [] := ⟨by simp, .inl ⟨rfl, rfl⟩⟩

section
variable {Tsl T sz bs : Nat} {z : Value} (hu : Try.prog.underlying Tsl = some (.slice T)) (hin : (Try.prog.info? T).map (fun i => (i.zero, i.size, i.bytes)) = some (some z, sz, bs)) (hz1 : z.cells.size = sz)
include hu hin

/-- onto none, nothing -/
theorem app_zero (w : World) (base bb : Option Addr) (c : Nat) (ty : TypeId) : (Builtin.append_ #[Tsl, Tsl] ty #[.slice base 0 0, .slice bb 0 c]).run Try.prog w = .ok (.slice base 0 0) w := by
  obtain ⟨i0, hi0, hz0, hs0, hb0⟩ := info_parts hin
  have hsz : ∀ w, (sizeOf T).run Try.prog w = .ok sz w := fun w => by simp [sizeOf, typeInfo, hi0, hs0]
  have hu' : ∀ w, (underlying Tsl).run Try.prog w = .ok (.slice T) w := run_underlying hu
  have hl : ∀ (x : Addr), (loadCells x 0).run Try.prog w = .ok #[] w := fun x => by simpa using run_loadCells_list (P := Try.prog) w x [] (by simp)
  cases base <;> cases bb <;> simp [Builtin.append_, hu', hsz, Builtin.lenOf, Builtin.firstCells, hl, storeCells]
include hz1
/-- onto none, some -/
theorem app_new {w : World} {b : Value} {k : Nat} {news : List Value} (base : Option Addr) (src : Src Try.prog sz Tsl b k news w) (hk : 1 ≤ k) (hk2 : k ≤ 1000000) (hbs : bs ≤ 1000) :
    ∃ v' w', (∀ ty, (Builtin.append_ #[Tsl, Tsl] ty #[.slice base 0 0, b]).run Try.prog w = .ok v' w') ∧ OwnG T sz w' w.heap.size v' k news ∧ Kp (fun _ => False) w w' := by
  obtain ⟨i0, hi0, hz0, hs0, hb0⟩ := info_parts hin
  rw [← hs0] at src
  have hold : (Builtin.firstCells i0.size 0 (.slice base 0 0)).run Try.prog w.drew = .ok ([] : List Value).toArray w.drew := by
    cases base with
    | none => exact run_firstCells_none w.drew i0.size 0 0 0
    | some a => exact run_firstCells_some w.drew i0.size 0 a 0 0 [] (by simp) (by simp)
  have hm : (0 + k) * bs ≤ 1000000 * 1000 := Nat.mul_le_mul (by omega) hbs
  have h := fun ty => run_append_grow_src (P := Try.prog) w Tsl Tsl ty T i0 z hu hi0 hz0 base 0 0 [] hold b k news src (by omega) (by omega) (growslice_fits (by omega) (by rw [hb0]; omega))
  simp only [Nat.zero_add] at h
  have hG := grownCap_ge w k 0 T
  have hnl : news.length = k * sz := by rw [src.newsLen, hs0]
  refine ⟨_, _, h, ⟨hnl, .inr ⟨w.heap.size, grownCap w k 0 T, (Builtin.zeroCells z.cells (grownCap w k 0 T - k)).toList, rfl, Nat.le_refl _, ?_, ?_, hG, grownCap_le_maxLen w _ _ _ (by unfold maxLen; omega)⟩⟩, (Kp.refl _ _).drew.alloc _⟩
  · refine (new_blk w.drew _).trans ?_
    congr 2
    apply Array.ext'; simp
  · rw [List.length_append, hnl, Array.length_toList, size_zeroCells, hz1, ← Nat.add_mul]
    congr 1; omega
set_option maxRecDepth 100000 in
/-- onto a row of one's own, some -/
theorem app_own {w : World} {B n k : Nat} {v b : Value} {cs news : List Value} (hB : B ≤ w.heap.size) (h : OwnG T sz w B v n cs) (src : Src Try.prog sz Tsl b k news w) (hk : 1 ≤ k) (hk2 : n + k ≤ 1000000) (hbs : bs ≤ 1000) :
    ∃ v' w', (∀ ty, (Builtin.append_ #[Tsl, Tsl] ty #[v, b]).run Try.prog w = .ok v' w') ∧ OwnG T sz w' B v' (n + k) (cs ++ news) ∧ Kp (fun k => v.ownBlock = some k) w w' ∧ (v'.ownBlock = v.ownBlock ∨ ∀ g, v'.ownBlock = some g → w.heap.size ≤ g) := by
  obtain ⟨i0, hi0, hz0, hs0, hb0⟩ := info_parts hin
  obtain ⟨hcl, ⟨rfl, rfl⟩ | ⟨g, cap, rest, rfl, h1, h2, h3, h4, h5⟩⟩ := h
  · obtain ⟨v', w', g1, g2, g3⟩ := app_new hu hin hz1 none src hk (by omega) hbs
    obtain rfl : cs = [] := List.eq_nil_of_length_eq_zero (by omega)
    refine ⟨v', w', g1, ?_, g3.mono (fun _ _ f => f.elim), .inr (fun g hg => (g2.lt g hg).1)⟩
    rw [Nat.zero_add, List.nil_append]
    obtain ⟨e1, e2 | ⟨g, cap, rest, e2, e3, e4⟩⟩ := g2
    · exact ⟨e1, .inl e2⟩
    · exact ⟨e1, .inr ⟨g, cap, rest, e2, by omega, e4⟩⟩
  · have src0 := src
    rw [← hs0] at src
    have hnl : news.length = k * sz := src0.newsLen
    have hlen : cs.length + rest.length = cap * sz := by rw [← h3, List.length_append]
    by_cases hroom : n + k ≤ cap
    · have hrl : k * sz ≤ rest.length := by
        have := Nat.mul_le_mul_right sz hroom
        rw [Nat.add_mul] at this
        omega
      have hl3 : (rest.take news.length).length = news.length := by rw [List.length_take]; omega
      have hblk : w.heap[g]? = some (.cells (cs ++ rest.take news.length ++ rest.drop news.length).toArray T (0, 0)) := by rw [h2, List.append_assoc, List.take_append_drop]
      obtain ⟨s1, s2, _⟩ := setCells_blk g T news cs (rest.take news.length) (rest.drop news.length) w hblk hl3
      have hrun := fun ty => run_append_room_src (P := Try.prog) w Tsl Tsl ty T i0 hu hi0 g 0 n cap b k news src hroom
        (fun j hj => by
          rw [hs0, Nat.zero_add, ← hcl, cell_blk h2, List.getElem?_toArray, List.getElem?_eq_getElem (by rw [List.length_append]; omega)]; rfl)
        (fun j hj => free_blk h2 _)
      rw [hs0, Nat.zero_add, ← hcl] at hrun
      refine ⟨_, _, hrun, ⟨by rw [List.length_append, hcl, hnl, Nat.add_mul], .inr ⟨g, cap, rest.drop news.length, rfl, h1, s1, ?_, hroom, h5⟩⟩, s2.mono (fun x _ e => by rw [e]; rfl), .inl rfl⟩
      rw [List.length_append, List.length_append, List.length_drop]; omega
    · have hold : (Builtin.firstCells i0.size n (.slice (some ⟨g, 0, none⟩) n cap)).run Try.prog w.drew = .ok cs.toArray w.drew :=
        run_firstCells_some w.drew i0.size n ⟨g, 0, none⟩ n cap cs (by rw [hs0, hcl]) (fun j u hj => by
          rw [Addr.add_lit, World.cell?_drew, cell_blk h2, Nat.zero_add, List.getElem?_toArray, List.getElem?_append_left (List.getElem?_eq_some_iff.1 hj).1]; exact hj)
      have hm : (n + k) * bs ≤ 1000000 * 1000 := Nat.mul_le_mul (by omega) hbs
      have hrun := fun ty => run_append_grow_src (P := Try.prog) w Tsl Tsl ty T i0 z hu hi0 hz0 (some ⟨g, 0, none⟩) n cap cs hold b k news src (by omega) (by omega) (growslice_fits (by omega) (by rw [hb0]; omega))
      have hG := grownCap_ge w (n + k) cap T
      refine ⟨_, _, hrun, ⟨by rw [List.length_append, hcl, hnl, Nat.add_mul], .inr ⟨w.heap.size, grownCap w (n + k) cap T, (Builtin.zeroCells z.cells (grownCap w (n + k) cap T - (n + k))).toList, rfl, hB, ?_, ?_, hG, grownCap_le_maxLen w _ _ _ (by unfold maxLen; omega)⟩⟩, ((Kp.refl _ _).drew.alloc _), .inr (fun y e => by cases e; exact Nat.le_refl _)⟩
      · refine (new_blk w.drew _).trans ?_
        congr 2
        apply Array.ext'; simp
      · rw [List.length_append, List.length_append, hcl, hnl, Array.length_toList, size_zeroCells, hz1, ← Nat.add_mul, ← Nat.add_mul]
        congr 1; omega
end
end Go.Proofs.Ytoeinolekpmbbaa
/-
  A row stored whole into a block made just now. Nothing of the program stands here.
-/
namespace Go.Proofs.Ytoeinolekpmbbaa
open Go.RowKit

theorem st_row_blk {w : World} {g t : Nat} {old cs : Array Value} {fr : Nat × Nat} (h : w.heap[g]? = some (.cells old t fr)) : (w.setRow g cs).heap[g]? = some (.cells cs t fr) := by
  simp [World.setRow, Array.getElem?_modify, h]
theorem st_row_kp {F : Nat → Prop} {a w : World} (h : Kp F a w) {g : Nat} (hg : g < a.heap.size → F g) (cs : Array Value) : Kp F a (w.setRow g cs) :=
  h.trans (G := fun k => k = g) ⟨rfl, rfl, rfl, by simp, fun k _ hne => by simp [World.setRow, Array.getElem?_modify, Ne.symm hne]⟩ (fun x hx e => by subst e; exact hg hx)
theorem st_fresh {P : Program} {ops : Array Oper} {rest : List Oper} {o : Oper} {a : Act} {w : World} {Q : Exit → Act → World → Prop} (hgd : o.guard = none) (ty : TypeId) (x y : Operand) (ho : o.op = .store ty x y)
    (cells : Array Value) (hx : a.eval x = .pointer (some ⟨w.heap.size, 0, none⟩)) (hy : a.eval y = .agg cells)
    (t : TypeId) (old : Array Value) (hi : (P.info? ty).map (·.size) = some cells.size)
    (hold : old.size = cells.size) (h1 : cells.all (·.oneCell') = true)
    (h : ∀ w2, Kp (fun _ => False) w w2 → w2.heap[w.heap.size]? = some (.cells cells t (0, 0)) → w2.heap.size = w.heap.size + 1 → wpList P ops Q rest (a.put o.dst undef) w2) :
    wpList P ops Q (o :: rest) a (w.alloc (.cells old t)) :=
  wpList_store_row hgd ty x y ho w.heap.size cells hx hy t old (new_blk _ _) hi hold h1
    (h _ (st_row_kp ((Kp.refl _ w).alloc _) (by simp) _) (st_row_blk (new_blk _ _)) (by simp))
end Go.Proofs.Ytoeinolekpmbbaa
/-
  A region that draws its order, of reads and of calls that make memory and change nothing that was there: one walk, in the order of the text. Nothing of the program stands here.
-/
namespace Go.Proofs.Ytoeinolekpmbbaa

/-- The beginning: in whatever world that keeps what W has. -/
theorem wp_kept {P : Program} {id : Nat} {Q : Exit → Act → World → Prop} {a : Act} {W w : World} {l : List Oper} (hm : P.follows .mixedOrders = true) (hB : Region.lexB .any l.toArray = true) (k : Kp (fun _ => False) W w)
    (h : wpQuiet P l.toArray (fun w' => Kp (fun _ => False) W w') (fun a' => ∀ w', Kp (fun _ => False) W w' → Q .normal a' w') l a) : (Code.region id l.toArray true).wp P Q a w :=
  wp_region_quiet (C := fun w' => Kp (fun _ => False) W w') hm hB k.drew (by simpa using h)
/-- A whole row loaded. -/
theorem quiet_load_row {P : Program} {C : World → Prop} {a : Act} {o : Oper} {K : Act → Prop} (ty : TypeId) (x : Operand) (ho : o.op = .load ty x)
    (g : Nat) (hx : a.eval x = .pointer (some ⟨g, 0, none⟩)) (t : TypeId) (cs : Array Value) (fr : Nat × Nat) (d : TypeDesc) (hg : ∀ w, C w → w.heap[g]? = some (.cells cs t fr))
    (hu : P.underlying ty = some d) (hd : (match d with | .struct _ | .array _ _ => true | _ => false) = true) (hi : (P.info? ty).map (·.size) = some cs.size)
    (h : K (a.put o.dst (.agg cs))) : o.quiet P a C K :=
  ⟨.agg cs, fun w hw => by
    unfold Oper.quietAt execOp
    simp only [ho, hx, Instr.loadAt, Instr.sureAddr, Sem.run_bind, Sem.run_pure, Result.andThen_ok, run_loadVar_row w g t ty cs fr d (hg w hw) hu hd hi]
    exact ⟨rfl, rfl⟩, h⟩
end Go.Proofs.Ytoeinolekpmbbaa
/-
  A slice of bytes of one's own, appended to; slices.Clone and bytes.Clone of bytes.
-/
namespace Go.Proofs.Ytoeinolekpmbbaa
open Go.ChangeShapes Go.WideShapes Go.ChangeAt Go.RowKit

/-- an append whose run is known, as a step of a region that draws its order -/
theorem step_append_run {P : Program} {ops : Array Oper} {o : Oper} {a : Act} {w : World} {K : Act → World → Prop} {Q : Exit → Act → World → Prop} {E : Prop} (hg : o.guard = none) (s x : Operand) (t tn : TypeId)
    (ho : o.op = .call { callee := .builtin .append, args := #[s, x], argTypes := #[t, tn] }) (vs vx : Value) (hs : a.eval s = vs) (hx : a.eval x = vx) (v' : Value) (w' : World)
    (hr : (Builtin.append_ #[t, tn] o.type #[vs, vx]).run P w = .ok v' w') (h : K (a.put o.dst v') w') : if Region.wanted o (yielded ops a.tmps) = true then Oper.wp P o a w K Q else E := by
  rw [if_pos (by simp [Region.wanted, hg])]
  exact Lib.wp_append_run w s x t tn ho vs vx hs hx v' w' hr h
/-- the same, where the operation's guard says yes -/
theorem wpList_append_want {P : Program} (w : World) {ops : Array Oper} {rest : List Oper} {o : Oper} {a : Act} {Q : Exit → Act → World → Prop} (hw : Region.wanted o (yielded ops a.tmps) = true) (s x : Operand) (t tn : TypeId)
    (ho : o.op = .call { callee := .builtin .append, args := #[s, x], argTypes := #[t, tn] }) (vs vx : Value) (hs : a.eval s = vs) (hx : a.eval x = vx)
    (v' : Value) (w' : World) (hr : (Builtin.append_ #[t, tn] o.type #[vs, vx]).run P w = .ok v' w') (h : wpList P ops Q rest (a.put o.dst v') w') : wpList P ops Q (o :: rest) a w :=
  BigFrame.wpList_want hw fun _ hK => Lib.wp_append_run w s x t tn ho vs vx hs hx v' w' hr (hK _ _ h)
theorem byteInfo : (Try.prog.info? 5).map (fun i => (i.zero, i.size, i.bytes)) = some (some (.int .u8 0), 1, 1) := by kernel_rfl
/-- a slice that owns its row: these bytes, then anything up to the capacity -/
def OwnB (w : World) (B : Nat) (v : Value) (l : List Int) : Prop :=
  (v = .slice none 0 0 ∧ l = []) ∨
  ∃ g cap rest, v = .slice (some ⟨g, 0, none⟩) l.length cap ∧ B ≤ g ∧ w.heap[g]? = some (.cells (U8s l ++ rest).toArray 5 (0, 0)) ∧ (U8s l ++ rest).length = cap ∧ cap ≤ maxLen
theorem OwnB.kept {F : Nat → Prop} {w w' : World} {B : Nat} {v : Value} {l : List Int} (h : OwnB w B v l) (k : Kp F w w') (hF : ∀ g, v.ownBlock = some g → ¬ F g) : OwnB w' B v l := by
  rcases h with h | ⟨g, cap, rest, rfl, h1, h2, h3, h4⟩
  · exact .inl h
  · exact .inr ⟨g, cap, rest, rfl, h1, kept_blk h2 k (hF g rfl), h3, h4⟩
theorem OwnB.lt {w : World} {B : Nat} {v : Value} {l : List Int} (h : OwnB w B v l) : ∀ g, v.ownBlock = some g → B ≤ g ∧ g < w.heap.size := by
  rcases h with ⟨rfl, _⟩ | ⟨g, cap, rest, rfl, h1, h2, h3, h4⟩
  · intro g hg; cases hg
  · intro x hx; cases hx; exact ⟨h1, lt_of_blk h2⟩
theorem OwnB.sees {w : World} {B : Nat} {v : Value} {l : List Int} (h : OwnB w B v l) : Sees w v l := by
  rcases h with h | ⟨g, cap, rest, rfl, h1, h2, h3, h4⟩
  · exact .inl h
  · refine Sees.mk ?_ h4 (fun i x hi => ?_)
    · rw [List.length_append, U8s_length] at h3; omega
    · rw [Nat.zero_add, cell_blk h2, List.getElem?_toArray, List.getElem?_append_left (by rw [U8s_length]; exact (List.getElem?_eq_some_iff.1 hi).1), U8s_get hi]

/-- new bytes, in a row of their own (or none at all) -/
def NewB (w : World) (l : List Int) (e : Ending) (w' : World) : Prop := ∃ v', e = .returned v' ∧ OwnB w' w.heap.size v' l ∧ Kp (fun _ => False) w w'

theorem run_append_new {w : World} {v : Value} {l : List Int} (hs : Sees w v l) (hn : 1 ≤ l.length) (hx : l.length ≤ 1000000000) (base : Option Addr) :
    ∃ G rest w', (∀ ty, (Builtin.append_ #[56, 56] ty #[.slice base 0 0, v]).run Try.prog w = .ok (.slice (some ⟨w.heap.size, 0, none⟩) l.length G) w') ∧ w'.heap[w.heap.size]? = some (.cells (U8s l ++ rest).toArray 5 (0, 0)) ∧ (U8s l ++ rest).length = G ∧ G ≤ maxLen ∧ Kp (fun _ => False) w w' := by
  obtain ⟨i0, hi0, hz0, hs0, hb0⟩ := info_parts byteInfo
  rcases hs with ⟨_, rfl⟩ | ⟨ad, cap, rfl, h1, h2, hc⟩
  · simp at hn
  · have src : Src Try.prog i0.size 56 (.slice (some ad) l.length cap) l.length (U8s l) w :=
      Src.ofSlice w Try.underlying56 ad l.length cap (U8s l) (by rw [hs0, U8s_length, Nat.mul_one]) (fun j u hj => by
        obtain ⟨x, hx, rfl⟩ := U8s_inv hj
        exact hc j x hx) (U8s_one l)
    have hold : (Builtin.firstCells i0.size 0 (.slice base 0 0)).run Try.prog w.drew = .ok ([] : List Value).toArray w.drew := by
      cases base with
      | none => exact run_firstCells_none w.drew i0.size 0 0 0
      | some a => exact run_firstCells_some w.drew i0.size 0 a 0 0 [] (by simp) (by simp)
    have h := fun ty => run_append_grow_src (P := Try.prog) w 56 56 ty 5 i0 (.int .u8 0) Try.underlying56 hi0 hz0 base 0 0 [] hold _ l.length (U8s l) src (by omega) (by omega) (growslice_fits (by omega) (by rw [hb0]; omega))
    simp only [Nat.zero_add] at h
    have hG := grownCap_ge w l.length 0 5
    have hz1 : (Value.int .u8 0).cells.size = 1 := rfl
    refine ⟨grownCap w l.length 0 5, (Builtin.zeroCells (Value.int .u8 0).cells (grownCap w l.length 0 5 - l.length)).toList, _, h, ?_, ?_, grownCap_le_maxLen w _ _ _ (by unfold maxLen; omega), (Kp.refl _ _).drew.alloc _⟩
    · refine (new_blk w.drew _).trans ?_
      congr 2
      apply Array.ext'; simp
    · simp [size_zeroCells, hz1, U8s_length]; omega

theorem run_append_none {w : World} {v : Value} (hs : Sees w v []) (base : Option Addr) (ty : TypeId) :
    (Builtin.append_ #[56, 56] ty #[.slice base 0 0, v]).run Try.prog w = .ok (.slice base 0 0) w := by
  have hsz : ∀ w, (sizeOf 5).run Try.prog w = .ok 1 w := fun w => by kernel_rfl
  have hu : ∀ w, (underlying 56).run Try.prog w = .ok (.slice 5) w := run_underlying Try.underlying56
  have hl : ∀ (x : Addr), (loadCells x 0).run Try.prog w = .ok #[] w := fun x => by simpa using run_loadCells_list (P := Try.prog) w x [] (by simp)
  rcases hs with ⟨rfl, _⟩ | ⟨ad, cap, rfl, _⟩ <;> cases base <;> simp [Builtin.append_, hu, hsz, Builtin.lenOf, Builtin.firstCells, hl, storeCells]

set_option maxRecDepth 100000 in
theorem run_append_by {w : World} {B : Nat} {v b : Value} {l xs : List Int} (hB : B ≤ w.heap.size) (h : OwnB w B v l) (hs : Sees w b xs) (hx : l.length + xs.length ≤ 1000000000) :
    ∃ v' w', (∀ ty, (Builtin.append_ #[56, 56] ty #[v, b]).run Try.prog w = .ok v' w') ∧ OwnB w' B v' (l ++ xs) ∧ Kp (fun k => v.ownBlock = some k) w w' ∧ (v'.ownBlock = v.ownBlock ∨ ∀ g, v'.ownBlock = some g → w.heap.size ≤ g) := by
  obtain ⟨i0, hi0, hz0, hs0, hb0⟩ := info_parts byteInfo
  have hsrc : ∃ bx n, b = bx ∧ n = xs.length ∧ Src Try.prog i0.size 56 b n (U8s xs) w := by
    rcases hs with ⟨rfl, rfl⟩ | ⟨ad, cap, rfl, h1, h2, hc⟩
    · exact ⟨_, 0, rfl, rfl, Src.ofNil w Try.underlying56 0⟩
    · exact ⟨_, xs.length, rfl, rfl, Src.ofSlice w Try.underlying56 ad xs.length cap (U8s xs) (by rw [hs0, U8s_length, Nat.mul_one]) (fun j u hj => by
        obtain ⟨x, hx, rfl⟩ := U8s_inv hj
        exact hc j x hx) (U8s_one xs)⟩
  obtain ⟨_, _, rfl, rfl, src⟩ := hsrc
  have hz1 : (Value.int .u8 0).cells.size = 1 := rfl
  rcases h with ⟨rfl, rfl⟩ | ⟨g, cap, rest, rfl, h1, h2, h3, h4⟩
  · by_cases hn : xs.length = 0
    · obtain rfl : xs = [] := List.eq_nil_of_length_eq_zero hn
      exact ⟨.slice none 0 0, w, run_append_none hs none, .inl ⟨rfl, rfl⟩, Kp.refl _ _, .inl rfl⟩
    · obtain ⟨G, rest, w2, hap, h2, h3, h4, k2⟩ := run_append_new hs (by omega) (by omega) none
      exact ⟨_, w2, hap, .inr ⟨_, G, rest, by simp, hB, by simpa using h2, by simpa using h3, h4⟩, k2.mono (fun _ _ f => f.elim), .inr (fun y e => by cases e; exact Nat.le_refl _)⟩
  · have hlen : l.length + rest.length = cap := by rw [← h3]; simp [U8s_length]
    by_cases hroom : l.length + xs.length ≤ cap
    · have hrest : rest = rest.take xs.length ++ rest.drop xs.length := (List.take_append_drop _ _).symm
      have hl3 : (rest.take xs.length).length = (U8s xs).length := by rw [List.length_take, U8s_length]; omega
      have hblk : w.heap[g]? = some (.cells (U8s l ++ rest.take xs.length ++ rest.drop xs.length).toArray 5 (0, 0)) := by rw [h2, List.append_assoc, List.take_append_drop]
      obtain ⟨s1, s2, _⟩ := setCells_blk g 5 (U8s xs) (U8s l) (rest.take xs.length) (rest.drop xs.length) w hblk hl3
      have hrun := fun ty => run_append_room_src (P := Try.prog) w 56 56 ty 5 i0 Try.underlying56 hi0 g 0 l.length cap b xs.length (U8s xs) src hroom
        (fun j hj => by
          rw [U8s_length] at hj
          rw [hs0, Nat.zero_add, Nat.mul_one, cell_blk h2, List.getElem?_toArray, List.getElem?_eq_getElem (by rw [List.length_append, U8s_length]; omega)]; rfl)
        (fun j hj => free_blk h2 _)
      rw [hs0, Nat.zero_add, Nat.mul_one] at hrun
      rw [U8s_length] at s1 s2
      refine ⟨_, _, hrun, .inr ⟨g, cap, rest.drop xs.length, by rw [List.length_append], h1, by rw [U8s_append]; exact s1, ?_, h4⟩, s2.mono (fun x _ e => by rw [e]; rfl), .inl rfl⟩
      rw [List.length_append, U8s_length, List.length_append, List.length_drop]; omega
    · have hold : (Builtin.firstCells i0.size l.length (.slice (some ⟨g, 0, none⟩) l.length cap)).run Try.prog w.drew = .ok (U8s l).toArray w.drew :=
        run_firstCells_some w.drew i0.size l.length ⟨g, 0, none⟩ l.length cap (U8s l) (by rw [hs0, U8s_length, Nat.mul_one]) (fun j u hj => by
          rw [Addr.add_lit, World.cell?_drew, cell_blk h2, Nat.zero_add, List.getElem?_toArray, List.getElem?_append_left (by rw [U8s_length]; rw [← U8s_length l]; exact (List.getElem?_eq_some_iff.1 hj).1)]; exact hj)
      have hrun := fun ty => run_append_grow_src (P := Try.prog) w 56 56 ty 5 i0 (.int .u8 0) Try.underlying56 hi0 hz0 (some ⟨g, 0, none⟩) l.length cap (U8s l) hold b xs.length (U8s xs) src (by omega) (by omega) (growslice_fits (by omega) (by rw [hb0]; omega))
      refine ⟨_, _, hrun, .inr ⟨w.heap.size, grownCap w (l.length + xs.length) cap 5, (Builtin.zeroCells (Value.int .u8 0).cells (grownCap w (l.length + xs.length) cap 5 - (l.length + xs.length))).toList, by rw [List.length_append], hB, ?_, ?_, grownCap_le_maxLen w _ _ _ (by unfold maxLen; omega)⟩, ((Kp.refl _ _).drew.alloc _), .inr (fun y e => by cases e; exact Nat.le_refl _)⟩
      · refine (new_blk w.drew _).trans ?_
        congr 2
        apply Array.ext'; simp [U8s]
      · have hG := grownCap_ge w (l.length + xs.length) cap 5
        simp [size_zeroCells, hz1, U8s_length]; omega

end Go.Proofs.Ytoeinolekpmbbaa
/-
  Contracts of package pack's packer: setNumber, room, and what puts something.
-/
namespace Go.Proofs.Ytoeinolekpmbbaa
open Go.ChangeShapes Go.WideShapes Go.ChangeAt Go.RowKit

/-- behind k rounds of setNumber -/
def SetRel (w : World) (g : Nat) (pre mid post : List Value) (v : Int) (k j : Nat) (wr : World) : Prop :=
  wr.heap[g]? = some (.cells (pre ++ mid.take j ++ U8s (be k v) ++ post).toArray 5 (0, 0)) ∧ Kp (fun x => x = g) w wr ∧ wr.heap.size = w.heap.size
def SetPost (w : World) (g : Nat) (pre : List Value) (n : Nat) (v : Int) (post : List Value) (e : Ending) (w' : World) : Prop :=
  e = .returned (.tuple #[]) ∧ w'.heap[g]? = some (.cells (pre ++ U8s (be n v) ++ post).toArray 5 (0, 0)) ∧ Kp (fun x => x = g) w w' ∧ w'.heap.size = w.heap.size

theorem div_pow (v : Int) (k : Nat) : v / 256 ^ k / 256 = v / 256 ^ (k + 1) := by
  rw [Int.ediv_ediv_of_nonneg (Int.pow_nonneg (by omega)), ← Int.pow_succ]
theorem div_pow_bd {v : Int} (h0 : 0 ≤ v) (hv : v ≤ 18446744073709551615) (k : Nat) : 0 ≤ v / 256 ^ k ∧ v / 256 ^ k ≤ 18446744073709551615 :=
  ⟨Int.ediv_nonneg h0 (Int.pow_nonneg (by omega)), Int.le_trans (Int.ediv_le_self _ h0) hv⟩

/-! ### the growing of a slice -/
/-- a new row: what stood there, then anything -/
def Grew (w : World) (l n : Nat) (cs : List Value) (e : Ending) (w' : World) : Prop :=
  ∃ (G : Nat) (rest : List Value), e = .returned (.slice (some ⟨w.heap.size, 0, none⟩) l G) ∧ w'.heap[w.heap.size]? = some (.cells (cs ++ rest).toArray 5 (0, 0)) ∧ l + n ≤ G ∧ G ≤ maxLen ∧ (cs ++ rest).length = G ∧ Kp (fun _ => False) w w' ∧ w'.heap.size = w.heap.size + 1

/-! ### a packer in memory -/
/-- the blocks of a packer -/
def PF (p : Nat) (v : Value) : Nat → Prop := fun k => k = p ∨ v.ownBlock = some k
/-- what is put behind what there is -/
def putS (lim : Int) (l : List Int) (e : Int) (x : List Int) : List Int × Int :=
  if e = 0 then (if (l.length : Int) + x.length ≤ lim then (l ++ x, 0) else (l, 10)) else (l, e)

/-- Grow of a row of one's own -/
def GrowOwn (w : World) (B : Nat) (v : Value) (l : List Int) (n : Nat) (e : Ending) (w' : World) : Prop :=
  ∃ g cap rest, e = .returned (.slice (some ⟨g, 0, none⟩) l.length cap) ∧ l.length + n ≤ cap ∧ cap ≤ maxLen ∧ w'.heap[g]? = some (.cells (U8s l ++ rest).toArray 5 (0, 0)) ∧ (U8s l ++ rest).length = cap ∧
    B ≤ g ∧ (v.ownBlock = some g ∨ w.heap.size = g) ∧ Kp (fun _ => False) w w'
end Go.Proofs.Ytoeinolekpmbbaa
/-
  Contract of slices.Clone of bytes.
-/
namespace Go.Proofs.Ytoeinolekpmbbaa
open Go.ChangeShapes Go.WideShapes Go.ChangeAt Go.RowKit

end Go.Proofs.Ytoeinolekpmbbaa
/-
  Contracts of package pack's packer: bytes and texts put, how many there are, the first error, all bytes.
-/
namespace Go.Proofs.Ytoeinolekpmbbaa
open Go.ChangeShapes Go.WideShapes Go.ChangeAt Go.RowKit

theorem byte1 : (Try.prog.info? 5).map (·.size) = some 1 := by kernel_rfl

/-- copy into the middle of a row -/
def CopyPost (w : World) (g : Nat) (pre : List Value) (xs : List Int) (post : List Value) (w' : World) : Prop :=
  w'.heap[g]? = some (.cells (pre ++ U8s xs ++ post).toArray 5 (0, 0)) ∧ Kp (fun y => y = g) w w' ∧ w'.heap.size = w.heap.size
theorem setRow_kp (w : World) (g : Nat) (cs : Array Value) : Kp (fun y => y = g) w (w.setRow g cs) ∧ (w.setRow g cs).heap.size = w.heap.size :=
  ⟨⟨rfl, rfl, rfl, by simp [World.setRow], fun k _ hne => setRow_other w g k cs hne⟩, by simp [World.setRow]⟩
theorem splice_mid (pre mid post xs : List Value) (h : mid.length = xs.length) : (pre ++ mid ++ post).take pre.length ++ xs ++ (pre ++ mid ++ post).drop (pre.length + xs.length) = pre ++ xs ++ post := by
  rw [← h, List.append_assoc pre mid post, List.take_left, ← List.drop_drop, List.drop_left, List.drop_left]
theorem run_copy_mid (T S : TypeId) (hT : Try.prog.underlying T = some (.slice 5)) {w : World} {g : Nat} {pre mid post : List Value} {xs : List Int} {src : Value} (n c : Nat) (hg : w.heap[g]? = some (.cells (pre ++ mid ++ post).toArray 5 (0, 0)))
    (hm : mid.length = n) (hs : Sees w src xs) (hx : xs.length = n) (hn : 1 ≤ n) :
    ∃ w', (∀ ty, (Builtin.copy_ #[T, S] ty #[.slice (some ⟨g, pre.length, none⟩) n c, src]).run Try.prog w = .ok (.int .i64 n) w') ∧ CopyPost w g pre xs post w' := by
  rcases hs with ⟨_, rfl⟩ | ⟨ad, cap, rfl, _, _, hc⟩
  · simp at hx; omega
  · refine ⟨w.setRow g (pre ++ U8s xs ++ post).toArray, fun ty => ?_, setRow_heap _ _ _ _ _ _ hg, (setRow_kp _ _ _).1, (setRow_kp _ _ _).2⟩
    have h := run_copy_row (P := Try.prog) w T S ty 5 g pre.length n c ad xs.length cap (pre ++ mid ++ post).toArray 5 (U8s xs) hT byte1 hg (by rw [U8s_length, hx]; exact (Nat.min_self n).symm)
      (fun j v hj => by
        obtain ⟨x, hx, rfl⟩ := U8s_inv hj
        exact hc j x hx) (by simp [U8s_length]; omega) (U8s_one xs)
    rw [h, U8s_length, hx]
    rw [show (pre ++ mid ++ post).toArray.toList = pre ++ mid ++ post from rfl, ← hx, ← U8s_length xs, splice_mid _ _ _ _ (by rw [U8s_length]; omega)]
    rfl
theorem run_copy_zero (T S : TypeId) (hT : Try.prog.underlying T = some (.slice 5)) (w : World) (d s : Option Addr) (dl dc sl sc : Nat) (h : dl = 0 ∨ sl = 0) (ty : TypeId) :
    (Builtin.copy_ #[T, S] ty #[.slice d dl dc, .slice s sl sc]).run Try.prog w = .ok (.int .i64 0) w :=
  run_copy_none w T S ty 5 d s dl dc sl sc hT byte1 (by rcases h with h | h <;> simp [h])

theorem sees_form {w : World} {v : Value} {xs : List Int} (h : Sees w v xs) : ∃ a cap, v = .slice a xs.length cap := by
  rcases h with ⟨rfl, rfl⟩ | ⟨ad, cap, rfl, _⟩
  · exact ⟨_, _, rfl⟩
  · exact ⟨_, _, rfl⟩

/-! ### copies -/
end Go.Proofs.Ytoeinolekpmbbaa
/-
  Contracts of package pack's packer: a new one, a text put, how many bytes there are, the first error, all bytes.
-/
namespace Go.Proofs.Ytoeinolekpmbbaa
open Go.ChangeShapes Go.WideShapes Go.ChangeAt Go.RowKit

/-- all bytes, in new memory, or the error -/
def OutP (w : World) (l : List Int) (e : Int) (r : Ending) (w' : World) : Prop :=
  ∃ v', r = .returned (.tuple #[v', .int .i64 e]) ∧ OwnB w' w.heap.size v' (if e = 0 then l else []) ∧ Kp (fun _ => False) w w'
/-! ### texts -/
theorem Bys_length (s : ByteArray) : (Bys s).length = s.size := by
  unfold Bys; rw [List.length_map, Array.length_toList]; rfl
theorem Bys_cells (s : ByteArray) : U8s (Bys s) = byteCells s := by simp [U8s, Bys, byteCells]

theorem run_copy_mid_string (T S : TypeId) (hT : Try.prog.underlying T = some (.slice 5)) {w : World} {g : Nat} {pre mid post : List Value} {s : ByteArray} (n c : Nat) (hg : w.heap[g]? = some (.cells (pre ++ mid ++ post).toArray 5 (0, 0)))
    (hm : mid.length = n) (hx : s.size = n) :
    ∃ w', (∀ ty, (Builtin.copy_ #[T, S] ty #[.slice (some ⟨g, pre.length, none⟩) n c, .string s]).run Try.prog w = .ok (.int .i64 n) w') ∧ CopyPost w g pre (Bys s) post w' := by
  refine ⟨w.setRow g (pre ++ U8s (Bys s) ++ post).toArray, fun ty => ?_, setRow_heap _ _ _ _ _ _ hg, (setRow_kp _ _ _).1, (setRow_kp _ _ _).2⟩
  have h := Lib.run_copy_row_string (P := Try.prog) w T S ty 5 g pre.length n c s (pre ++ mid ++ post).toArray 5 hT byte1 hg (by omega) (by simp; omega)
  have e1 : Lib.byteCells s.data.toList = U8s (Bys s) := by simp [U8s, Bys, Lib.byteCells]
  have hl : (U8s (Bys s)).length = s.size := by rw [U8s_length, Bys_length]
  rw [h, e1, hx]
  rw [show (pre ++ mid ++ post).toArray.toList = pre ++ mid ++ post from rfl, ← hx, ← hl, splice_mid _ _ _ _ (by omega)]
  rfl

/-- a text put: too long, or bytes behind their number -/
def putT (lim : Int) (l : List Int) (e : Int) (s : ByteArray) : List Int × Int :=
  if e = 0 ∧ 65535 < s.size then (l, 3) else putS lim l e (be 2 (s.size : Int) ++ Bys s)

/-! ### append onto a row of one's own; bytes as a string -/
end Go.Proofs.Ytoeinolekpmbbaa
/-
  Contracts of the document's packer (package flurryref01).
-/
namespace Go.Proofs.Ytoeinolekpmbbaa
open Go.ChangeShapes Go.WideShapes Go.ChangeAt Go.RowKit

/-- a number's bytes, in a row of their own -/
def NumP (w : World) (n : Nat) (v : Int) (e : Ending) (w' : World) : Prop :=
  e = .returned (.slice (some ⟨w.heap.size, 0, none⟩) n n) ∧ w'.heap[w.heap.size]? = some (.cells (U8s (be n v)).toArray 5 (0, 0)) ∧ Kp (fun _ => False) w w'

theorem NumP.sees {w w' : World} {n : Nat} {v : Int} {e : Ending} (h : NumP w n v e w') (hm : n ≤ 9000) : Sees w' (.slice (some ⟨w.heap.size, 0, none⟩) n n) (be n v) := by
  obtain ⟨_, h2, _⟩ := h
  have h := Sees.mk (w := w') (b := w.heap.size) (off := 0) (cap := n) (xs := be n v) (by rw [be_length]; exact Nat.le_refl _) (by unfold maxLen; omega) (fun i x hi => by rw [Nat.zero_add, cell_blk h2, List.getElem?_toArray, U8s_get hi])
  rw [be_length] at h
  exact h
theorem NumP.own {w w' : World} {n : Nat} {v : Int} {e : Ending} {B : Nat} (h : NumP w n v e w') (hB : B ≤ w.heap.size) (hm : n ≤ 9000) : OwnB w' B (.slice (some ⟨w.heap.size, 0, none⟩) n n) (be n v) := by
  obtain ⟨_, h2, _⟩ := h
  refine .inr ⟨_, n, [], by rw [be_length], hB, by rw [List.append_nil]; exact h2, by rw [List.append_nil, U8s_length, be_length], by unfold maxLen; omega⟩

theorem bytesWorld_kp (w : World) (e : TypeId) (s : ByteArray) : Kp (fun _ => False) w (Lib.bytesWorld w e s) :=
  ⟨by simp [Lib.bytesWorld, World.freeze, World.alloc, World.drew, -World.alloc_eq, -World.drew_eq], by simp [Lib.bytesWorld, World.freeze, World.alloc, World.drew, -World.alloc_eq, -World.drew_eq],
    by simp [Lib.bytesWorld, World.freeze, World.alloc, World.drew, -World.alloc_eq, -World.drew_eq], by rw [Lib.bytesWorld_size]; omega, fun k hk _ => Lib.bytesWorld_at_old w e s k hk⟩
theorem bytesWorld_sees (w : World) (s : ByteArray) (hs : s.size ≤ 1000000) : Sees (Lib.bytesWorld w 5 s) (.slice (some ⟨w.heap.size, 0, none⟩) s.size (grownCap w s.size 0 5)) (Bys s) := by
  have h := Sees.mk (w := Lib.bytesWorld w 5 s) (b := w.heap.size) (off := 0) (cap := grownCap w s.size 0 5) (xs := Bys s) (by rw [Bys_length]; exact grownCap_ge _ _ _ _) (grownCap_le_maxLen _ _ _ _ (by unfold maxLen; omega)) (fun i x hi => ?_)
  · rw [Bys_length] at h; exact h
  have hlt : i < s.size := by rw [← Bys_length]; exact (List.getElem?_eq_some_iff.1 hi).1
  rw [Nat.zero_add, Lib.bytesWorld_cell _ _ _ _ hlt]
  congr 2
  unfold Bys at hi
  rw [List.getElem?_map, Option.map_eq_some_iff] at hi
  obtain ⟨y, hy, rfl⟩ := hi
  simp [List.getD, hy]

end Go.Proofs.Ytoeinolekpmbbaa
/-
  Contract of bytes.Clone.
-/
namespace Go.Proofs.Ytoeinolekpmbbaa
open Go.ChangeShapes Go.WideShapes Go.ChangeAt Go.RowKit

end Go.Proofs.Ytoeinolekpmbbaa
/-
  Contracts of the laws' own helpers: bytes held against bytes, the chapter's examples, what is put into both.
-/
namespace Go.Proofs.Ytoeinolekpmbbaa
open Go.ChangeShapes Go.WideShapes Go.ChangeAt Go.RowKit

/-- a literal of bytes -/
theorem lit_sees (w : World) (xs : List Int) (hx : xs.length ≤ 1000) : Sees (w.alloc (.cells (U8s xs).toArray 5)) (.slice (some ⟨w.heap.size, 0, none⟩) xs.length xs.length) xs := by
  refine Sees.mk (Nat.le_refl _) (by unfold maxLen; omega) (fun i x hi => ?_)
  rw [Nat.zero_add, cell_blk (new_blk w _), List.getElem?_toArray, U8s_get hi]

def LiveLit : List Int := [1, 2, 0, 0, 0, 2, 7, 8, 0, 2, 195, 169]

/-! ### both packers -/
/-- a slice's row is the one that it was, or a new one -/
def Fr (w : World) (v v' : Value) : Prop := v'.ownBlock = v.ownBlock ∨ ∀ g, v'.ownBlock = some g → w.heap.size ≤ g
section
variable {w w1 : World} {B p q : Nat} {v u : Value} {lim1 : Int} {l1 : List Int} {e1 : Int} {lim2 : Int} {l2 : List Int} {e2 : Int}
end

/-- what an item does -/
def itemS (lim : Int) (l : List Int) (e : Int) (d V : Int) (xs : List Int) : List Int × Int :=
  if d = 0 then putS lim l e xs else if d = 1 then putS lim l e (be 1 (V % 256)) else if d = 2 then putS lim l e (be 2 (V % 65536)) else if d = 3 then putS lim l e (be 4 xs.length ++ xs)
  else if d = 4 then putS lim l e (be 4 (V % 4294967296)) else if d = 5 then putT lim l e (strOfNums xs) else if d = 8 then putS lim l e (be 8 V) else (l, e)
/-- bytes that lie in none of a packer's blocks -/
def Away (b : Value) (xs : List Int) (F : Nat → Prop) : Prop := xs ≠ [] → ∀ g, b.ownBlock = some g → ¬ F g

end Go.Proofs.Ytoeinolekpmbbaa
/-
  Messages: what a kind bears, as the program and the document tell it; what answers a kind, and its name.
-/
namespace Go.Proofs.Ytoeinolekpmbbaa
open Go.ChangeShapes Go.WideShapes Go.ChangeAt Go.RowKit

/-- what a kind bears -/
inductive Ld where
  | no
  | nm (a b : Nat)
  | bl (a b : Nat)
  deriving DecidableEq
def ldOf (k : Int) : Ld :=
  if k = 1 then .nm 0 0 else if k = 2 ∨ k = 5 ∨ k = 7 ∨ k = 10 then .nm 1 1 else if k = 11 then .nm 2 2
  else if k = 3 ∨ k = 4 then .nm 0 32 else if k = 8 ∨ k = 9 then .bl 1 1 else if k = 6 then .bl 0 16 else .no
def spV (a b : Nat) : Value := .agg #[.int .i64 a, .int .i64 b]
/-- the document's three numbers -/
def Ld.bears : Ld → Int × Int × Int
  | .no => (0, 0, -1)
  | .nm a b => (a, b, if a ≠ b then 2 else if b = 0 then 0 else 1)
  | .bl a b => (a, b, if a ≠ b then 4 else 3)

theorem kinds (k : Int) : k = 1 ∨ k = 2 ∨ k = 3 ∨ k = 4 ∨ k = 5 ∨ k = 6 ∨ k = 7 ∨ k = 8 ∨ k = 9 ∨ k = 10 ∨ k = 11 ∨ (k ≠ 1 ∧ k ≠ 2 ∧ k ≠ 3 ∧ k ≠ 4 ∧ k ≠ 5 ∧ k ≠ 6 ∧ k ≠ 7 ∧ k ≠ 8 ∧ k ≠ 9 ∧ k ≠ 10 ∧ k ≠ 11) := by omega
theorem beq_false {a b : Int} (h : a ≠ b) : (a == b) = false := by simpa using h
theorem ld_no {k : Int} (h : k ≠ 1 ∧ k ≠ 2 ∧ k ≠ 3 ∧ k ≠ 4 ∧ k ≠ 5 ∧ k ≠ 6 ∧ k ≠ 7 ∧ k ≠ 8 ∧ k ≠ 9 ∧ k ≠ 10 ∧ k ≠ 11) : ldOf k = .no := by
  obtain ⟨h1, h2, h3, h4, h5, h6, h7, h8, h9, h10, h11⟩ := h
  simp [ldOf, *]

/-- what answers a kind -/
def replyOf (k : Int) : Int := if k = 1 ∨ k = 3 ∨ k = 5 ∨ k = 7 then k + 1 else if k = 9 ∨ k = 10 then 11 else 0
/-- a kind's name -/
def nameOf (k : Int) : ByteArray :=
  if k = 1 then ⟨#[103, 101, 116, 95, 102, 114, 111, 110, 116, 105, 101, 114]⟩
  else if k = 2 then ⟨#[102, 114, 111, 110, 116, 105, 101, 114]⟩
  else if k = 3 then ⟨#[103, 101, 116, 95, 97, 99, 99, 101, 112, 116, 101, 100]⟩
  else if k = 4 then ⟨#[97, 99, 99, 101, 112, 116, 101, 100]⟩
  else if k = 5 then ⟨#[103, 101, 116, 95, 97, 110, 99, 101, 115, 116, 111, 114, 115]⟩
  else if k = 6 then ⟨#[97, 110, 99, 101, 115, 116, 111, 114, 115]⟩
  else if k = 7 then ⟨#[103, 101, 116]⟩
  else if k = 8 then ⟨#[112, 117, 116]⟩
  else if k = 9 then ⟨#[112, 117, 115, 104, 95, 113, 117, 101, 114, 121]⟩
  else if k = 10 then ⟨#[112, 117, 108, 108, 95, 113, 117, 101, 114, 121]⟩
  else if k = 11 then ⟨#[99, 104, 105, 116, 115]⟩
  else ⟨#[]⟩
end Go.Proofs.Ytoeinolekpmbbaa
/-
  Messages as values: two numbers, a slice of names, a slice of rows of bytes. Contracts of Check, the program's and the document's, and of the laws' own few.
-/
namespace Go.Proofs.Ytoeinolekpmbbaa
open Go.ChangeShapes Go.WideShapes Go.ChangeAt Go.RowKit

/-- a message -/
structure Ms where
  k : Int
  r : Int
  ids : List (List Int)
  bl : List (List Int)
  deriving DecidableEq
structure Ms.wf (m : Ms) : Prop where
  klo : -9223372036854775808 ≤ m.k
  khi : m.k ≤ 9223372036854775807
  rlo : -9223372036854775808 ≤ m.r
  rhi : m.r ≤ 9223372036854775807
  idl : ∀ x ∈ m.ids, x.length = 32 ∧ Rng x
  blr : ∀ x ∈ m.bl, Rng x
/-- a message's cells, its slices being vi and vb -/
def msC (k r : Int) (vi vb : Value) : List Value := [.int .i64 k, .int .i64 r, vi, vb]
def msV (k r : Int) (vi vb : Value) : Value := .agg #[.int .i64 k, .int .i64 r, vi, vb]
/-- a slice of names, in blocks of which A holds -/
def SeesI (A : Nat → Prop) (w : World) (v : Value) (ids : List (List Int)) : Prop :=
  (v = .slice none 0 0 ∧ ids = []) ∨
  ∃ ad cap, v = .slice (some ad) ids.length cap ∧ ids.length ≤ cap ∧ cap ≤ maxLen ∧ (ids ≠ [] → A ad.block) ∧ ∀ i x, ids[i]? = some x → ∀ j u, x[j]? = some u → w.cell? (ad.add (i * 32 + j)) = some (.int .u8 u)
/-- a slice of rows of bytes, in blocks of which A holds -/
def SeesR (A : Nat → Prop) (w : World) (v : Value) (bl : List (List Int)) : Prop :=
  (v = .slice none 0 0 ∧ bl = []) ∨
  ∃ ad cap, v = .slice (some ad) bl.length cap ∧ bl.length ≤ cap ∧ cap ≤ maxLen ∧ (bl ≠ [] → A ad.block) ∧ ∀ i x, bl[i]? = some x → ∃ u, w.cell? (ad.add i) = some u ∧ Sees w u x ∧ (x ≠ [] → ∀ g, u.ownBlock = some g → A g)
structure SeesM (A : Nat → Prop) (w : World) (vi vb : Value) (m : Ms) : Prop where
  i : SeesI A w vi m.ids
  b : SeesR A w vb m.bl
variable {A A' : Nat → Prop}
theorem SeesI.kept {F : Nat → Prop} {w w' : World} {v : Value} {ids : List (List Int)} (h : SeesI A w v ids) (k : Kp F w w') (hF : ∀ g, A g → ¬ F g) : SeesI A w' v ids := by
  rcases h with h | ⟨ad, cap, rfl, h1, h2, ha, h4⟩
  · exact .inl h
  · refine .inr ⟨ad, cap, rfl, h1, h2, ha, fun i x hi j u hj => ?_⟩
    have hne : ids ≠ [] := by intro e; subst e; cases hi
    have hc := h4 i x hi j u hj
    exact (k.cell (lt_of_cell hc) (by rw [add_block]; exact hF _ (ha hne))).trans hc
theorem SeesI.mono {w : World} {v : Value} {ids : List (List Int)} (h : SeesI A w v ids) (hA : ∀ g, g < w.heap.size → A g → A' g) (hl : ∀ x ∈ ids, x.length = 32) : SeesI A' w v ids := by
  rcases h with h | ⟨ad, cap, rfl, h1, h2, ha, h4⟩
  · exact .inl h
  · refine .inr ⟨ad, cap, rfl, h1, h2, fun hne => hA _ ?_ (ha hne), h4⟩
    obtain ⟨x, r, rfl⟩ := List.exists_cons_of_ne_nil hne
    have hx := hl x (List.mem_cons_self ..)
    obtain ⟨y, hy⟩ : ∃ y, x[0]? = some y := ⟨x[0], by simp [hx]⟩
    have := lt_of_cell (h4 0 x rfl 0 y hy)
    rwa [add_block] at this
theorem SeesR.kept {F : Nat → Prop} {w w' : World} {v : Value} {bl : List (List Int)} (h : SeesR A w v bl) (k : Kp F w w') (hF : ∀ g, A g → ¬ F g) : SeesR A w' v bl := by
  rcases h with h | ⟨ad, cap, rfl, h1, h2, ha, h4⟩
  · exact .inl h
  · refine .inr ⟨ad, cap, rfl, h1, h2, ha, fun i x hi => ?_⟩
    have hne : bl ≠ [] := by intro e; subst e; cases hi
    obtain ⟨u, hc, hs, hu⟩ := h4 i x hi
    exact ⟨u, (k.cell (lt_of_cell hc) (by rw [add_block]; exact hF _ (ha hne))).trans hc, hs.kept k (fun hx g hg => hF g (hu hx g hg)), hu⟩
theorem SeesR.mono {w : World} {v : Value} {bl : List (List Int)} (h : SeesR A w v bl) (hA : ∀ g, g < w.heap.size → A g → A' g) : SeesR A' w v bl := by
  rcases h with h | ⟨ad, cap, rfl, h1, h2, ha, h4⟩
  · exact .inl h
  · refine .inr ⟨ad, cap, rfl, h1, h2, fun hne => hA _ ?_ (ha hne), fun i x hi => ?_⟩
    · obtain ⟨x, r, rfl⟩ := List.exists_cons_of_ne_nil hne
      obtain ⟨u, hc, _⟩ := h4 0 x rfl
      have := lt_of_cell hc
      rwa [add_block] at this
    · obtain ⟨u, hc, hs, hu⟩ := h4 i x hi
      exact ⟨u, hc, hs, fun hx g hg => hA g (hs.lt hx g hg) (hu hx g hg)⟩
theorem SeesM.kept {F : Nat → Prop} {w w' : World} {vi vb : Value} {m : Ms} (h : SeesM A w vi vb m) (k : Kp F w w') (hF : ∀ g, A g → ¬ F g) : SeesM A w' vi vb m := ⟨h.i.kept k hF, h.b.kept k hF⟩
theorem SeesM.old {w w' : World} {vi vb : Value} {m : Ms} (h : SeesM A w vi vb m) (k : Kp (fun _ => False) w w') : SeesM A w' vi vb m := h.kept k (fun _ _ f => f)
theorem SeesM.mono {w : World} {vi vb : Value} {m : Ms} (h : SeesM A w vi vb m) (hA : ∀ g, g < w.heap.size → A g → A' g) (hl : m.wf) : SeesM A' w vi vb m := ⟨h.i.mono hA (fun x hx => (hl.idl x hx).1), h.b.mono hA⟩
theorem SeesI.form {w : World} {v : Value} {ids : List (List Int)} (h : SeesI A w v ids) : ∃ a c, v = .slice a ids.length c ∧ ids.length ≤ 9223372036854775807 := by
  rcases h with ⟨rfl, rfl⟩ | ⟨ad, cap, rfl, h1, h2, _⟩
  · exact ⟨none, 0, rfl, by simp⟩
  · exact ⟨_, _, rfl, by unfold maxLen at h2; omega⟩
theorem SeesR.form {w : World} {v : Value} {bl : List (List Int)} (h : SeesR A w v bl) : ∃ a c, v = .slice a bl.length c ∧ bl.length ≤ 9223372036854775807 := by
  rcases h with ⟨rfl, rfl⟩ | ⟨ad, cap, rfl, h1, h2, _⟩
  · exact ⟨none, 0, rfl, by simp⟩
  · exact ⟨_, _, rfl, by unfold maxLen at h2; omega⟩
/-- the element of a row, its address written out -/
theorem SeesR.at {w : World} {a : Option Addr} {c : Nat} {bl : List (List Int)} (h : SeesR A w (.slice a bl.length c) bl) {k : Nat} (hk : k < bl.length) :
    ∃ b off u, a = some ⟨b, off, none⟩ ∧ w.cell? ⟨b, off + k, none⟩ = some u ∧ Sees w u bl[k] ∧ bl.length ≤ c ∧ c ≤ maxLen ∧ A b ∧ (bl[k] ≠ [] → ∀ g, u.ownBlock = some g → A g) := by
  rcases h with ⟨_, e⟩ | ⟨ad, cap, e, h1, h2, ha, h4⟩
  · rw [e] at hk; cases hk
  · injection e with e1 e2 e3
    subst e1 e3
    obtain ⟨u, hc, hs, hu⟩ := h4 k bl[k] (List.getElem?_eq_getElem hk)
    obtain ⟨u0, hc0, _⟩ := h4 0 bl[0] (List.getElem?_eq_getElem (by omega))
    have hsp := spot_of_cell hc0
    obtain ⟨b, off, s⟩ := ad
    have hs' : s = none := by simpa [Addr.add] using hsp
    subst hs'
    rw [Addr.add_lit] at hc
    exact ⟨b, off, u, rfl, hc, hs, h1, h2, ha (by rintro rfl; cases hk), hu⟩
/-- a name of a slice, its address written out -/
theorem SeesI.at {w : World} {a : Option Addr} {c : Nat} {ids : List (List Int)} (hl : ∀ x ∈ ids, x.length = 32) (h : SeesI A w (.slice a ids.length c) ids) {k : Nat} (hk : k < ids.length) :
    ∃ b off, a = some ⟨b, off, none⟩ ∧ w.rangeAt b (off + k * 32) (U8s ids[k]) ∧ ids.length ≤ c ∧ c ≤ maxLen ∧ A b := by
  rcases h with ⟨_, e⟩ | ⟨ad, cap, e, h1, h2, ha, h4⟩
  · rw [e] at hk; cases hk
  · injection e with e1 e2 e3
    subst e1 e3
    have h0l := hl ids[0] (List.getElem_mem (by omega))
    obtain ⟨y, hy⟩ : ∃ y, (ids[0]'(by omega))[0]? = some y := ⟨(ids[0]'(by omega))[0], by simp [h0l]⟩
    have hsp := spot_of_cell (h4 0 _ (List.getElem?_eq_getElem (by omega)) 0 y hy)
    obtain ⟨b, off, s⟩ := ad
    have hs' : s = none := by simpa [Addr.add] using hsp
    subst hs'
    refine ⟨b, off, rfl, fun j u hj => ?_, h1, h2, ha (by rintro rfl; cases hk)⟩
    obtain ⟨x, hx, rfl⟩ := U8s_inv hj
    have := h4 k _ (List.getElem?_eq_getElem hk) j x hx
    rw [Addr.add_lit] at this
    rw [Nat.add_assoc]
    exact this

/-! ### what a kind bears -/
theorem neq_cast (a b : Nat) : ((a : Int) != (b : Int)) = decide (a ≠ b) := by
  by_cases h : a = b
  · simp [h]
  · have : (a : Int) ≠ (b : Int) := by omega
    simp [h, this]
/-- is no row too long -/
def shortL (n : Nat) (bl : List (List Int)) : Bool := bl.all (fun x => decide (x.length ≤ n))
end Go.Proofs.Ytoeinolekpmbbaa
/-
  Messages: which two are the same, as the program and the document tell it.
-/
namespace Go.Proofs.Ytoeinolekpmbbaa
open Go.ChangeShapes Go.WideShapes Go.ChangeAt Go.RowKit
variable {A A' : Nat → Prop}

/-- a part of a row loaded, in a drawn region -/
theorem quiet_load_part {P : Program} {C : World → Prop} {a : Act} {o : Oper} {K : Act → Prop} (ty : TypeId) (x : Operand) (ho : o.op = .load ty x)
    (g off : Nat) (hx : a.eval x = .pointer (some ⟨g, off, none⟩)) (cs : List Value) (d : TypeDesc) (hc : ∀ w, C w → w.rangeAt g off cs)
    (hu : P.underlying ty = some d) (hd : d.isRow = true) (hi : (P.info? ty).map (·.size) = some cs.length)
    (h : K (a.put o.dst (.agg cs.toArray))) : o.quiet P a C K :=
  ⟨.agg cs.toArray, fun w hw => by
    unfold Oper.quietAt execOp
    simp only [ho, hx, Instr.loadAt, Instr.sureAddr, Sem.run_bind, Sem.run_pure, Result.andThen_ok, run_loadVar_mid w g off ty cs d (hc w hw) hu hd hi]
    exact ⟨rfl, rfl⟩, h⟩
theorem infoId' {x : List Int} (h : x.length = 32) : (Try.prog.info? 27).map (·.size) = some (U8s x).length := by
  rw [U8s_length, h]; kernel_rfl
theorem rangeAt_kept {w w' : World} {g off : Nat} {cs : List Value} (h : w.rangeAt g off cs) (k : Kp (fun _ => False) w w') : w'.rangeAt g off cs := fun j u hj => by
  have hc := h j u hj
  rw [k.cell (lt_of_cell hc) (fun f => f)]; exact hc
theorem kp_drewN (w : World) (n : Nat) : Kp (fun _ => False) w (w.drewN n) := (Kp.refl _ _).drewN n
theorem list_eq_of {x y : List (List Int)} (hl : x.length = y.length) (h : ∀ (i : Nat) (hi : i < x.length), x[i] = y[i]'(by omega)) : x = y := List.ext_getElem hl (fun i h1 _ => h i h1)

set_option maxRecDepth 100000 in
set_option maxHeartbeats 1600000 in
theorem eqIds_any {u v : Value} {xs ys : List (List Int)} {w : World} (hx : SeesI A w u xs) (hy : SeesI A' w v ys) (hxl : ∀ x ∈ xs, x.length = 32) (hyl : ∀ x ∈ ys, x.length = 32) :
    Calls Try.prog 33 #[u, v] w fun e w' => e = .returned (.bool (decide (xs = ys))) ∧ Kp (fun _ => False) w w' := by
  obtain ⟨a1, c1, rfl, hm1⟩ := hx.form
  obtain ⟨a2, c2, rfl, hm2⟩ := hy.form
  by_cases hlen : xs.length = ys.length
  · have HL := Lib.hid hlen
    have HX := Lib.hid hx
    have HY := Lib.hid hy
    have XL := Lib.hid hxl
    have YL := Lib.hid hyl
    have e0 : ((xs.length : Int) != (ys.length : Int)) = false := by rw [hlen]; simp
    have HI := Lib.hid (fun (x : List Int) (h : x.length = 32) => infoId' h)
    have HN := Lib.hid (fun (x y : List Int) (hx : x.length = 32) (hy : y.length = 32) => neq_names x y hx hy)
    clear hlen hx hy hxl hyl
    go_enter Try.func33, Try.ntmps33
    go_wp2_with fail
    go_loopw [13] (fun i wr => ∃ k : Nat, k ≤ xs.length ∧ i = .int .i64 k ∧ Kp (fun _ => False) w wr ∧ Hid (∀ (j : Nat) (hj : j < xs.length) (hj' : j < ys.length), j < k → xs[j] = ys[j])) (fun i _ => xs.length - (intOf i).toNat)
    case atStart => exact ⟨0, by omega, rfl, Kp.refl _ _, Lib.hid (fun j _ _ h => by omega)⟩
    case round =>
      obtain ⟨k, hk, rfl, hkp, hsm⟩ := hrel
      by_cases hlt : k < xs.length
      · have hlt2 : k < ys.length := by have := HL.out; omega
        obtain ⟨g1, o1, rfl, r1, hc1, hd1, _⟩ := (HX.out.kept hkp (fun _ _ f => f)).at XL.out hlt
        obtain ⟨g2, o2, rfl, r2, hc2, hd2, _⟩ := (HY.out.kept hkp (fun _ _ f => f)).at YL.out hlt2
        have hd1' : c1 ≤ 9223372036854775807 := hd1
        have hd2' : c2 ≤ 9223372036854775807 := hd2
        have e1 := XL.out _ (List.getElem_mem hlt)
        have e2 := YL.out _ (List.getElem_mem hlt2)
        obtain ⟨x, hxe⟩ : ∃ x, x = xs[k] := ⟨_, rfl⟩
        obtain ⟨y, hye⟩ : ∃ y, y = ys[k] := ⟨_, rfl⟩
        rw [← hxe] at r1 e1
        rw [← hye] at r2 e2
        have R1 := Lib.hid (fun (w' : World) (h : ∃ n, w' = wr.drewN n) => (by obtain ⟨n, rfl⟩ := h; exact rangeAt_kept r1 (kp_drewN _ n) : w'.rangeAt g1 (o1 + k * 32) (U8s x)))
        have R2 := Lib.hid (fun (w' : World) (h : ∃ n, w' = wr.drewN n) => (by obtain ⟨n, rfl⟩ := h; exact rangeAt_kept r2 (kp_drewN _ n) : w'.rangeAt g2 (o2 + k * 32) (U8s y)))
        have E1 := Lib.hid e1
        have E2 := Lib.hid e2
        have HK := Lib.hid hkp
        have hne := HN.out x y e1 e2
        have HXE := Lib.hid hxe
        have HYE := Lib.hid hye
        clear r1 r2 e1 e2 hkp hxe hye
        go_upto_region 6 with fail
        refine wp_region_quiet_lit (by kernel_rfl) (by kernel_rfl) ?_
        repeat (first
          | go_big_quiet_skip
          | (go_big_quiet_want; refine quiet_load_part 27 _ rfl g1 (o1 + k * 32) rfl (U8s x) _ R1.out Try.underlying27 rfl (HI.out _ E1.out) ?_; (simp only [Act.put, List.setIfInBounds_toArray, List.set_cons_zero, List.set_cons_succ]); go_big_quiet_on)
          | (go_big_quiet_want; refine quiet_load_part 27 _ rfl g2 (o2 + k * 32) rfl (U8s y) _ R2.out Try.underlying27 rfl (HI.out _ E2.out) ?_; (simp only [Act.put, List.setIfInBounds_toArray, List.set_cons_zero, List.set_cons_succ]); go_big_quiet_on)
          | (go_big_quiet_want; go_big_quiet_op; go_big_quiet_on))
        refine wpQuiet_nil ?_
        rintro _ ⟨nq, rfl⟩
        have HK2 := Lib.hid (HK.out.drewN nq)
        by_cases hxy : x = y
        · have HXY := Lib.hid hxy
          rw [decide_eq_true hxy]
          clear hxy
          go_wp2_with fail
          go_roundw
          case rel => exact ⟨k + 1, by omega, by go_num, HK2.out, Lib.hid (fun j hj hj' h => by
            rcases Nat.lt_or_ge j k with h' | h'
            · exact hsm.out j hj hj' h'
            · obtain rfl : j = k := by omega
              rw [← HXE.out, ← HYE.out]; exact HXY.out)⟩
          case measure => simp [intOf]; omega
        · have HXY := Lib.hid hxy
          rw [decide_eq_false hxy]
          clear hxy
          have HZ := Lib.hid (show decide (xs = ys) = false from decide_eq_false (fun h => HXY.out (by rw [HXE.out, HYE.out]; simp only [h])))
          go_wp2_with fail
          go_ret
          exact ⟨by rw [HZ.out]; rfl, HK2.out⟩
      · obtain rfl : k = xs.length := by omega
        have HZ := Lib.hid (show decide (xs = ys) = true from decide_eq_true (list_eq_of HL.out (fun i hi => hsm.out i hi _ hi)))
        have HK := Lib.hid hkp
        clear hsm hkp
        go_wp2_with fail
        go_ret
        exact ⟨by rw [HZ.out]; rfl, HK.out⟩
  · have e0 : ((xs.length : Int) != (ys.length : Int)) = true := by
      have : (xs.length : Int) ≠ (ys.length : Int) := by omega
      simpa using this
    have HZ := Lib.hid (show decide (xs = ys) = false from decide_eq_false (fun h => hlen (by rw [h])))
    clear hlen hx hy
    go_enter Try.func33, Try.ntmps33
    go_wp2_with fail
    go_ret
    exact ⟨by rw [HZ.out]; rfl, Kp.refl _ _⟩
end Go.Proofs.Ytoeinolekpmbbaa
/-
  Rows of elements of any size: where they stand for messages.
-/
/-
  Messages: contracts of the program's Check and of the document's.
-/
namespace Go.Proofs.Ytoeinolekpmbbaa
open Go.ChangeShapes Go.WideShapes Go.ChangeAt Go.RowKit
variable {A : Nat → Prop}

/-- does a message bear what its kind bears -/
def Ld.fits (l : Ld) (m : Ms) : Bool := match l with
  | .no => false
  | .nm a b => decide ((a : Int) ≤ (m.ids.length : Int) ∧ (m.ids.length : Int) ≤ (b : Int)) && decide (m.bl.length = 0)
  | .bl a b => decide ((a : Int) ≤ (m.bl.length : Int) ∧ (m.bl.length : Int) ≤ (b : Int)) && decide (m.ids.length = 0) && shortL 246 m.bl
/-- may a message be -/
def okM (m : Ms) : Bool := decide (0 ≤ m.r) && decide (m.r ≤ 2147483647) && (ldOf m.k).fits m
def chk (m : Ms) : Int := if okM m then 0 else 40

theorem len_eq0 (n : Nat) : ((n : Int) == 0) = decide (n = 0) := by
  by_cases h : n = 0
  · simp [h]
  · simp [h]
end Go.Proofs.Ytoeinolekpmbbaa
/-
  Messages: contracts of the program's Check, of the document's Check, and of the laws' own few.
-/
namespace Go.Proofs.Ytoeinolekpmbbaa
open Go.ChangeShapes Go.WideShapes Go.ChangeAt Go.RowKit
variable {A : Nat → Prop}

theorem neq_cast' (n : Nat) : ((n : Int) != 0) = !decide (n = 0) := by rw [show ((n : Int) != 0) = !((n : Int) == 0) from rfl, len_eq0]
/-! ### the document's -/
theorem bears_how (l : Ld) : (l.bears.2.2 < 0 ↔ l = .no) ∧ (∀ a b, l = .nm a b → l.bears.1 = a ∧ l.bears.2.1 = b ∧ 0 ≤ l.bears.2.2 ∧ l.bears.2.2 < 3) ∧ (∀ a b, l = .bl a b → l.bears.1 = a ∧ l.bears.2.1 = b ∧ 3 ≤ l.bears.2.2) := by
  refine ⟨?_, ?_, ?_⟩
  · cases l with
    | no => simp [Ld.bears]
    | nm a b => simp only [Ld.bears]; split <;> (try split) <;> simp
    | bl a b => simp only [Ld.bears]; split <;> simp
  · rintro a b rfl
    simp only [Ld.bears, true_and]
    split <;> (try split) <;> omega
  · rintro a b rfl
    simp only [Ld.bears, true_and]
    split <;> omega

end Go.Proofs.Ytoeinolekpmbbaa
/-
  Messages: contracts of what puts names and blocks into a packer.
-/
namespace Go.Proofs.Ytoeinolekpmbbaa
open Go.ChangeShapes Go.WideShapes Go.ChangeAt Go.RowKit
variable {A : Nat → Prop}

/-- rows put one behind the other -/
def putL (lim : Int) (s : List Int × Int) (xs : List (List Int)) : List Int × Int := xs.foldl (fun s x => putS lim s.1 s.2 x) s
theorem putL_snoc (lim : Int) (s : List Int × Int) (xs : List (List Int)) (x : List Int) : putL lim s (xs ++ [x]) = putS lim (putL lim s xs).1 (putL lim s xs).2 x := by
  simp [putL, List.foldl_append]
theorem putL_fit (lim : Int) : ∀ (xs : List (List Int)) (l : List Int), (l.length : Int) + xs.flatten.length ≤ lim → putL lim (l, 0) xs = (l ++ xs.flatten, 0)
  | [], l, _ => by simp [putL]
  | x :: r, l, h => by
    have h1 : (l.length : Int) + x.length ≤ lim := by simp at h; omega
    have e : putS lim l 0 x = (l ++ x, 0) := by unfold putS; rw [if_pos rfl, if_pos h1]
    have := putL_fit lim r (l ++ x) (by simp at h ⊢; omega)
    unfold putL at this ⊢
    rw [List.foldl_cons, e, this]
    simp
/-- a number ahead, where it is no choice -/
def cntRow (a b n : Nat) : List (List Int) := if a ≠ b then [be 4 (n : Int)] else []

theorem infoId {x : List Int} (h : x.length = 32) : (Try.prog.info? 27).map (·.size) = some (U8s x).length := by
  rw [U8s_length, h]; kernel_rfl
theorem u8sees {w : World} {g t : Nat} {x : List Int} (h : w.heap[g]? = some (.cells (U8s x).toArray t (0, 0))) (hx : x.length ≤ 1000) : Sees w (.slice (some ⟨g, 0, none⟩) x.length x.length) x :=
  Sees.mk (Nat.le_refl _) (by unfold maxLen; omega) (fun i y hi => by rw [cell_blk h, Nat.zero_add, List.getElem?_toArray, U8s_get hi])
theorem U8s_all (x : List Int) : (U8s x).toArray.all (·.oneCell') = true := all_oneCell_toArray (U8s_one x)

/-- a row of bytes as it is put -/
def rowB (x : List Int) : List Int := be 4 (x.length : Int) ++ x
end Go.Proofs.Ytoeinolekpmbbaa
/-
  Messages: their bytes on lists; contracts of the program's Bytes and Size.
-/
namespace Go.Proofs.Ytoeinolekpmbbaa
open Go.ChangeShapes Go.WideShapes Go.ChangeAt Go.RowKit
variable {A : Nat → Prop}

/-- what stands behind a message's head, row by row -/
def Ms.rows (m : Ms) : List (List Int) := match ldOf m.k with
  | .no => []
  | .nm a b => cntRow a b m.ids.length ++ m.ids
  | .bl a b => cntRow a b m.bl.length ++ m.bl.map rowB
def form (m : Ms) : List Int := be 1 m.k ++ be 4 m.r ++ m.rows.flatten
def msBytes (m : Ms) : List Int := if okM m then form m else []

theorem cntRow_len (a b n : Nat) : (cntRow a b n).flatten.length ≤ 4 := by unfold cntRow; split <;> simp [be_length]
theorem flat_len {xs : List (List Int)} {c : Nat} (h : ∀ x ∈ xs, x.length ≤ c) : xs.flatten.length ≤ xs.length * c := by
  induction xs with
  | nil => simp
  | cons x r ih =>
    have h1 := h x (List.mem_cons_self ..)
    have h2 := ih (fun y hy => h y (List.mem_cons_of_mem _ hy))
    rw [List.flatten_cons, List.length_append, List.length_cons, Nat.add_mul]
    omega
theorem short_mem {n : Nat} {bl : List (List Int)} (h : shortL n bl = true) : ∀ x ∈ bl, x.length ≤ n := fun x hx => by
  have := List.all_eq_true.1 h x hx
  simpa using this
theorem ldOf_bd (k : Int) : (∀ a b, ldOf k = .nm a b → a ≤ b ∧ b ≤ 32) ∧ (∀ a b, ldOf k = .bl a b → a ≤ b ∧ b ≤ 16) := by
  rcases kinds k with rfl | rfl | rfl | rfl | rfl | rfl | rfl | rfl | rfl | rfl | rfl | h
  all_goals (first | rw [ld_no h] | skip)
  all_goals
    constructor
    all_goals (intro a b h; first | (cases h; omega) | (cases h))
theorem okM_parts {m : Ms} (h : okM m = true) : 0 ≤ m.r ∧ m.r ≤ 2147483647 ∧ (ldOf m.k).fits m = true := by
  unfold okM at h
  simp only [Bool.and_eq_true, decide_eq_true_eq] at h
  exact ⟨h.1.1, h.1.2, h.2⟩
theorem kind_bd {k : Int} (h : ldOf k ≠ .no) : 1 ≤ k ∧ k ≤ 11 := by
  rcases kinds k with rfl | rfl | rfl | rfl | rfl | rfl | rfl | rfl | rfl | rfl | rfl | h'
  all_goals (first | omega | exact absurd (ld_no h') h)
theorem fits_nm {a b : Nat} {m : Ms} (h : (Ld.nm a b).fits m = true) : a ≤ m.ids.length ∧ m.ids.length ≤ b ∧ m.bl = [] := by
  simp only [Ld.fits, Bool.and_eq_true, decide_eq_true_eq] at h
  exact ⟨by omega, by omega, List.eq_nil_of_length_eq_zero h.2⟩
theorem fits_bl {a b : Nat} {m : Ms} (h : (Ld.bl a b).fits m = true) : a ≤ m.bl.length ∧ m.bl.length ≤ b ∧ m.ids = [] ∧ ∀ x ∈ m.bl, x.length ≤ 246 := by
  simp only [Ld.fits, Bool.and_eq_true, decide_eq_true_eq] at h
  exact ⟨by omega, by omega, List.eq_nil_of_length_eq_zero h.1.2, short_mem h.2⟩
theorem rows_len {m : Ms} (hw : m.wf) (h : okM m = true) : m.rows.flatten.length ≤ 4004 := by
  obtain ⟨_, _, hf⟩ := okM_parts h
  have hb := ldOf_bd m.k
  unfold Ms.rows
  cases hl : ldOf m.k with
  | no => simp
  | nm a b =>
    rw [hl] at hf
    obtain ⟨_, h2, _⟩ := fits_nm hf
    obtain ⟨_, h3⟩ := hb.1 a b hl
    have h4 := cntRow_len a b m.ids.length
    have h5 := flat_len (c := 32) (fun x hx => Nat.le_of_eq (hw.idl x hx).1)
    simp only [List.flatten_append, List.length_append]
    omega
  | bl a b =>
    rw [hl] at hf
    obtain ⟨_, h2, _, h6⟩ := fits_bl hf
    obtain ⟨_, h3⟩ := hb.2 a b hl
    have h4 := cntRow_len a b m.bl.length
    have h5 := flat_len (xs := m.bl.map rowB) (c := 250) (fun x hx => by
      obtain ⟨y, hy, rfl⟩ := List.mem_map.1 hx
      have := h6 y hy
      rw [rowB, List.length_append, be_length]
      omega)
    rw [List.length_map] at h5
    simp only [List.flatten_append, List.length_append]
    omega
theorem form_len {m : Ms} (hw : m.wf) (h : okM m = true) : (form m).length ≤ 4009 := by
  have := rows_len hw h
  simp only [form, List.length_append, be_length]
  omega

theorem flat_rng {xs : List (List Int)} (h : ∀ x ∈ xs, Rng x) : Rng xs.flatten := fun y hy => by
  obtain ⟨x, hx, hyx⟩ := List.mem_flatten.1 hy
  exact h x hx y hyx
theorem rows_rng {m : Ms} (hw : m.wf) : Rng m.rows.flatten := by
  apply flat_rng
  unfold Ms.rows
  intro x hx
  have hc : ∀ (a b n : Nat), ∀ y ∈ cntRow a b n, Rng y := fun a b n y hy => by
    unfold cntRow at hy
    split at hy
    · rw [List.mem_singleton.1 hy]; exact be_rng _ _
    · cases hy
  split at hx
  · cases hx
  · rcases List.mem_append.1 hx with h | h
    · exact hc _ _ _ x h
    · exact (hw.idl x h).2
  · rcases List.mem_append.1 hx with h | h
    · exact hc _ _ _ x h
    · obtain ⟨y, hy, rfl⟩ := List.mem_map.1 h
      exact (be_rng _ _).append (hw.blr y hy)
theorem form_rng {m : Ms} (hw : m.wf) : Rng (form m) := ((be_rng _ _).append (be_rng _ _)).append (rows_rng hw)
theorem msBytes_rng {m : Ms} (hw : m.wf) : Rng (msBytes m) := by
  unfold msBytes
  split
  · exact form_rng hw
  · intro x hx; cases hx
theorem OwnB.lower {w : World} {B B' : Nat} {v : Value} {l : List Int} (h : OwnB w B v l) (hB : B' ≤ B) : OwnB w B' v l := by
  rcases h with h | ⟨g, cap, rest, h1, h2, h3⟩
  · exact .inl h
  · exact .inr ⟨g, cap, rest, h1, Nat.le_trans hB h2, h3⟩
/-- the bytes, in new memory, or the error -/
def MsOut (w : World) (m : Ms) (r : Ending) (w' : World) : Prop :=
  ∃ v', r = .returned (.tuple #[v', .int .i64 (chk m)]) ∧ OwnB w' w.heap.size v' (msBytes m) ∧ Kp (fun _ => False) w w'

end Go.Proofs.Ytoeinolekpmbbaa
/-
  Contracts of package pack's unpacker.
-/
namespace Go.Proofs.Ytoeinolekpmbbaa
open Go.ChangeShapes Go.WideShapes Go.ChangeAt Go.RowKit

/-! ### what is taken -/
def val (xs : List Int) : Int := xs.foldl (fun v x => v * 256 + x) 0
theorem val_snoc (xs : List Int) (x : Int) : val (xs ++ [x]) = val xs * 256 + x := by simp [val, List.foldl_append]
theorem val_from (xs : List Int) : ∀ (v : Int), Rng xs → 0 ≤ v → 0 ≤ xs.foldl (fun v x => v * 256 + x) v ∧ xs.foldl (fun v x => v * 256 + x) v < (v + 1) * 256 ^ xs.length := by
  induction xs with
  | nil => intro v _ h; simp; omega
  | cons x xs ih =>
    intro v h h0
    have hx := h x (List.mem_cons_self ..)
    have i := ih (v * 256 + x) (fun y hy => h y (List.mem_cons_of_mem _ hy)) (by omega)
    have hp : (0 : Int) ≤ 256 ^ xs.length := Int.pow_nonneg (by omega)
    have hm := Int.mul_le_mul_of_nonneg_right (show v * 256 + x + 1 ≤ (v + 1) * 256 by omega) hp
    rw [List.foldl_cons, List.length_cons, Int.pow_succ, Int.mul_comm (256 ^ xs.length) 256, ← Int.mul_assoc]
    exact ⟨i.1, by omega⟩
theorem val_bd (xs : List Int) (h : Rng xs) : 0 ≤ val xs ∧ val xs < 256 ^ xs.length := by
  have := val_from xs 0 h (Int.le_refl _)
  simpa [val] using this

/-- the error of taking n -/
def takeE (l : List Int) (e n : Int) : Int := if e ≠ 0 then e else if n < 0 then 1 else if (l.length : Int) < n then 11 else 0
def takeR (l : List Int) (e n : Int) : List Int := if takeE l e n = 0 then l.take n.toNat else []
def takeL (l : List Int) (e n : Int) : List Int := if takeE l e n = 0 then l.drop n.toNat else l
/-- pieces of what a slice shows -/
theorem sees_take {w : World} {ad : Addr} {cap : Nat} {l : List Int} (h : Sees w (.slice (some ad) l.length cap) l) (n : Nat) (hn : n ≤ l.length) : Sees w (.slice (some ad) n cap) (l.take n) := by
  rcases h with ⟨h, _⟩ | ⟨ad', cap', hv, h1, h2, hc⟩
  · cases h
  · obtain ⟨rfl, rfl⟩ : ad = ad' ∧ cap = cap' := by injection hv with a _ b; exact ⟨by injection a, b⟩
    refine .inr ⟨ad, cap, by rw [List.length_take, Nat.min_eq_left hn], by rw [List.length_take]; omega, h2, fun i x hi => ?_⟩
    have hlt := (List.getElem?_eq_some_iff.1 hi).1
    rw [List.length_take] at hlt
    rw [List.getElem?_take_of_lt (by omega)] at hi
    exact hc i x hi
theorem sees_drop {w : World} {b off cap : Nat} {l : List Int} (h : Sees w (.slice (some ⟨b, off, none⟩) l.length cap) l) (n : Nat) (hn : n ≤ l.length) : Sees w (.slice (some ⟨b, off + n, none⟩) (l.length - n) (cap - n)) (l.drop n) := by
  rcases h with ⟨h, _⟩ | ⟨ad', cap', hv, h1, h2, hc⟩
  · cases h
  · obtain ⟨rfl, rfl⟩ : (⟨b, off, none⟩ : Addr) = ad' ∧ cap = cap' := by injection hv with a _ b; exact ⟨by injection a, b⟩
    rw [← List.length_drop]
    refine Sees.mk (by rw [List.length_drop]; omega) (by omega) (fun i x hi => ?_)
    rw [List.getElem?_drop] at hi
    have := hc _ x hi
    rw [Addr.add_lit] at this
    rw [Nat.add_assoc]; exact this
theorem sees_empty {w : World} (ad : Addr) (cap : Nat) (h : cap ≤ maxLen) : Sees w (.slice (some ad) 0 cap) [] := .inr ⟨ad, cap, rfl, Nat.zero_le _, h, fun i x hi => by cases hi⟩

/-! ### numbers -/
theorem pow_le7 (k : Nat) (h : k ≤ 7) : (256 : Int) ^ k ≤ 256 ^ 7 := by
  have h' : k = 0 ∨ k = 1 ∨ k = 2 ∨ k = 3 ∨ k = 4 ∨ k = 5 ∨ k = 6 ∨ k = 7 := by omega
  rcases h' with rfl | rfl | rfl | rfl | rfl | rfl | rfl | rfl <;> decide
theorem or_add (v x : Int) (hv0 : 0 ≤ v) (hv1 : v < 72057594037927936) (hx0 : 0 ≤ x) (hx1 : x ≤ 255) : bits .or .u64 (v * 256) x = v * 256 + x := by
  have h := bits_or_u64_nat (v.toNat * 256) x.toNat (by omega) (by omega)
  have e1 : ((v.toNat * 256 : Nat) : Int) = v * 256 := by omega
  have e2 : ((x.toNat : Nat) : Int) = x := by omega
  rw [e1, e2] at h
  rw [h]
  have e3 : v.toNat * 256 ||| x.toNat = v.toNat * 256 + x.toNat := by
    have := Nat.shiftLeft_add_eq_or_of_lt (show x.toNat < 2 ^ 8 by omega) v.toNat
    rw [Nat.shiftLeft_eq, show (2 : Nat) ^ 8 = 256 from rfl] at this
    exact this.symm
  rw [e3, Int.natCast_add, e1, e2]

/-! ### the unpacker's calls -/
theorem pow_le_le (j k : Nat) (h : j ≤ k) : (256 : Int) ^ j ≤ 256 ^ k := by
  obtain ⟨d, rfl⟩ : ∃ d, k = j + d := ⟨k - j, by omega⟩
  rw [Int.pow_add]
  have h1 : (0 : Int) ≤ 256 ^ j := Int.pow_nonneg (by omega)
  have h2 : (1 : Int) ≤ 256 ^ d := by
    have : (0 : Int) < 256 ^ d := Int.pow_pos (by omega)
    omega
  have := Int.mul_le_mul_of_nonneg_left h2 h1
  omega
theorem takeE_self (l : List Int) (e n : Int) (he : e ≠ 0) : takeE l e n = e := by unfold takeE; rw [if_pos he]
theorem takeR_rng {l : List Int} (h : Rng l) (e n : Int) : Rng (takeR l e n) := by
  unfold takeR
  split
  · exact fun y hy => h y (List.mem_of_mem_take hy)
  · intro y hy; cases hy
theorem takeL_rng {l : List Int} (h : Rng l) (e n : Int) : Rng (takeL l e n) := by
  unfold takeL
  split
  · exact fun y hy => h y (List.mem_of_mem_drop hy)
  · exact h
theorem takeR_len (l : List Int) (e n : Int) : ((takeR l e n).length : Int) ≤ max n 0 := by
  unfold takeR
  split
  · rw [List.length_take]; omega
  · simp; omega

end Go.Proofs.Ytoeinolekpmbbaa
/-
  Contracts of package pack's unpacker: what stands behind a count; how many bytes are left, the first error, the end.
-/
namespace Go.Proofs.Ytoeinolekpmbbaa
open Go.ChangeShapes Go.WideShapes Go.ChangeAt Go.RowKit

/-- the error of what stands behind a count -/
def countE (l : List Int) (hd : Nat) (most : Int) : Int :=
  if most < 0 then 1 else if l.length < hd then 11 else if most < val (l.take hd) then 3 else if (l.length : Int) - hd < val (l.take hd) then 11 else 0
def cntE (l : List Int) (e : Int) (hd : Nat) (most : Int) : Int := if e ≠ 0 then e else countE l hd most
def cntR (l : List Int) (e : Int) (hd : Nat) (most : Int) : List Int := if cntE l e hd most = 0 then (l.drop hd).take (val (l.take hd)).toNat else []
def cntL (l : List Int) (e : Int) (hd : Nat) (most : Int) : List Int := if cntE l e hd most = 0 then (l.drop hd).drop (val (l.take hd)).toNat else l

theorem Sees.lit {w : World} {v : Value} {l : List Int} (h : Sees w v l) (hne : l ≠ []) : ∃ b off cap, v = .slice (some ⟨b, off, none⟩) l.length cap ∧ l.length ≤ cap ∧ cap ≤ maxLen := by
  rcases h with ⟨_, h⟩ | ⟨ad, cap, rfl, h1, h2, hc⟩
  · exact absurd h hne
  · obtain ⟨x, r, rfl⟩ := List.exists_cons_of_ne_nil hne
    have hsp := spot_of_cell (hc 0 x rfl)
    obtain ⟨b, off, s⟩ := ad
    have hs' : s = none := by simpa [Addr.add] using hsp
    subst hs'
    exact ⟨b, off, cap, rfl, h1, h2⟩

theorem hd_bd (l : List Int) (hr : Rng l) (hd : Nat) (h4 : hd ≤ 4) : 0 ≤ val (l.take hd) ∧ val (l.take hd) < 4294967296 := by
  have h := val_bd (l.take hd) (fun y hy => hr y (List.mem_of_mem_take hy))
  have hp := pow_le_le (l.take hd).length 4 (by rw [List.length_take]; omega)
  have e7 : (256 : Int) ^ 4 = 4294967296 := by decide
  omega

theorem cntR_rng {l : List Int} (h : Rng l) (e : Int) (hd : Nat) (m : Int) : Rng (cntR l e hd m) := by
  unfold cntR
  split
  · exact fun y hy => h y (List.mem_of_mem_drop (List.mem_of_mem_take hy))
  · intro y hy; cases hy
theorem cntL_rng {l : List Int} (h : Rng l) (e : Int) (hd : Nat) (m : Int) : Rng (cntL l e hd m) := by
  unfold cntL
  split
  · exact fun y hy => h y (List.mem_of_mem_drop (List.mem_of_mem_drop hy))
  · exact h
theorem cntR_len (l : List Int) (e : Int) (hd : Nat) (m : Int) : (cntR l e hd m).length ≤ l.length := by
  unfold cntR
  split
  · rw [List.length_take, List.length_drop]; omega
  · exact Nat.zero_le _
theorem cntL_len (l : List Int) (e : Int) (hd : Nat) (m : Int) : (cntL l e hd m).length ≤ l.length := by
  unfold cntL
  split
  · rw [List.length_drop, List.length_drop]; omega
  · exact Nat.le_refl _
theorem takeL_len (l : List Int) (e n : Int) : (takeL l e n).length ≤ l.length := by
  unfold takeL
  split
  · rw [List.length_drop]; omega
  · exact Nat.le_refl _

/-- the error at the end -/
def endE (l : List Int) (e : Int) : Int := if e ≠ 0 then e else if 0 < l.length then 12 else 0
end Go.Proofs.Ytoeinolekpmbbaa
/-
  Plain facts on numbers' bytes: the number of its bytes, the bytes of their number.
-/
namespace Go.Proofs.Ytoeinolekpmbbaa
open Go.RowKit

theorem val_shift (xs : List Int) : ∀ v : Int, xs.foldl (fun v x => v * 256 + x) v = v * 256 ^ xs.length + val xs := by
  induction xs with
  | nil => intro v; simp [val]
  | cons x xs ih =>
    intro v
    have h1 : val (x :: xs) = (0 * 256 + x) * 256 ^ xs.length + val xs := by rw [val, List.foldl_cons, ih]
    rw [List.foldl_cons, ih, h1, List.length_cons, Int.pow_succ, Int.add_mul, Int.mul_assoc, Int.mul_comm 256, Int.zero_mul, Int.zero_add, Int.add_assoc]
theorem val_cons (x : Int) (xs : List Int) : val (x :: xs) = x * 256 ^ xs.length + val xs := by
  have := val_shift xs (0 * 256 + x)
  rw [val, List.foldl_cons, this]
  rw [Int.zero_mul, Int.zero_add]
theorem val_be (n : Nat) (v : Int) (h : 0 ≤ v) : val (be n v) = v % 256 ^ n := by
  obtain ⟨m, rfl⟩ := Int.eq_ofNat_of_zero_le h
  induction n with
  | zero => simp [be, val]
  | succ n ih =>
    rw [be, val_cons, be_length, ih]
    have hN : m % 256 ^ (n + 1) = m % 256 ^ n + 256 ^ n * (m / 256 ^ n % 256) := Nat.mod_pow_succ
    have hI := congrArg (fun z : Nat => (z : Int)) hN
    simp only [Int.natCast_emod, Int.natCast_ediv, Int.natCast_pow, Int.natCast_add, Int.natCast_mul] at hI
    have e : ((256 : Nat) : Int) = 256 := rfl
    rw [e] at hI
    rw [hI, Int.mul_comm (256 ^ n)]
    omega

theorem take_app (x rest : List Int) : takeE (x ++ rest) 0 x.length = 0 ∧ takeR (x ++ rest) 0 x.length = x ∧ takeL (x ++ rest) 0 x.length = rest := by
  have h : takeE (x ++ rest) 0 x.length = 0 := by unfold takeE; rw [if_neg (by simp), if_neg (by omega), if_neg (by rw [List.length_append]; omega)]
  refine ⟨h, ?_, ?_⟩
  · unfold takeR; rw [if_pos h, Int.toNat_natCast, List.take_left]
  · unfold takeL; rw [if_pos h, Int.toNat_natCast, List.drop_left]
theorem take_short {l : List Int} {n : Nat} (h : l.length < n) : takeE l 0 n = 11 := by
  unfold takeE; rw [if_neg (by simp), if_neg (by omega), if_pos (by omega)]
theorem digit_mod (m n k : Nat) (hk : k + 1 ≤ n) : m % 256 ^ n / 256 ^ k % 256 = m / 256 ^ k % 256 := by
  have e1 : 256 ^ n = 256 ^ k * (256 * 256 ^ (n - k - 1)) := by
    rw [← Nat.pow_succ', ← Nat.pow_add]; congr 1; omega
  rw [e1, Nat.mod_mul_right_div_self, Nat.mod_mul_right_mod]
theorem be_mod (n : Nat) (a : Int) (h : 0 ≤ a) : be n (a % 256 ^ n) = be n a := by
  suffices h : ∀ k, k ≤ n → be k (a % 256 ^ n) = be k a from h n (Nat.le_refl n)
  intro k
  induction k with
  | zero => intro _; rfl
  | succ k ih =>
    intro hk
    obtain ⟨m, rfl⟩ := Int.eq_ofNat_of_zero_le h
    have h1 : ((m : Int) % 256 ^ n / 256 ^ k % 256) = (m : Int) / 256 ^ k % 256 := by
      have h := congrArg (fun z : Nat => (z : Int)) (digit_mod m n k hk)
      simp only [Int.natCast_emod, Int.natCast_ediv, Int.natCast_pow] at h
      exact h
    rw [be, be, ih (by omega), h1]
theorem be_val : ∀ (xs : List Int), Rng xs → be xs.length (val xs) = xs
  | [], _ => rfl
  | x :: xs, h => by
    have hx := h x (List.mem_cons_self ..)
    have hr : Rng xs := fun y hy => h y (List.mem_cons_of_mem _ hy)
    have hb := val_bd xs hr
    have ih := be_val xs hr
    rw [List.length_cons, be, val_cons]
    generalize hA : (256 : Int) ^ xs.length = A at hb
    have hA0 : 0 < A := by omega
    have h0 : 0 ≤ x * A := Int.mul_nonneg hx.1 (by omega)
    have e1 : (x * A + val xs) / A = x := by
      rw [Int.add_comm, Int.add_mul_ediv_right _ _ (by omega), Int.ediv_eq_zero_of_lt hb.1 hb.2]; omega
    have e2 : (x * A + val xs) % A = val xs := by
      rw [Int.add_comm, Int.add_mul_emod_self_right, Int.emod_eq_of_lt hb.1 hb.2]
    have e3 := be_mod xs.length (x * A + val xs) (by omega)
    rw [hA, e2, ih] at e3
    rw [e1, ← e3, show x % 256 = x by omega]
theorem be_val' {n : Nat} {xs : List Int} (h : Rng xs) (hn : xs.length = n) : be n (val xs) = xs := by subst hn; exact be_val xs h
theorem val_inj {xs ys : List Int} (hx : Rng xs) (hy : Rng ys) (hl : xs.length = ys.length) (h : val xs = val ys) : xs = ys := by
  rw [← be_val xs hx, ← be_val ys hy, hl, h]
end Go.Proofs.Ytoeinolekpmbbaa
/-
  Messages: what the program's reader makes of any bytes, on lists; there and back.
-/
namespace Go.Proofs.Ytoeinolekpmbbaa
open Go.RowKit

/-- what is left, and the first error -/
abbrev RS := List Int × Int
def tkS (s : RS) (n : Int) : RS := (takeL s.1 s.2 n, takeE s.1 s.2 n)
def cnS (s : RS) : RS := (cntL s.1 s.2 4 246, cntE s.1 s.2 4 246)
def idOr (x : List Int) : List Int := if x.length = 32 then x else List.replicate 32 0
def takeN : Nat → RS → List (List Int) × RS
  | 0, s => ([], s)
  | n + 1, s => ((takeN n s).1 ++ [idOr (takeR (takeN n s).2.1 (takeN n s).2.2 32)], tkS (takeN n s).2 32)
def takeB : Nat → RS → List (List Int) × RS
  | 0, s => ([], s)
  | n + 1, s => ((takeB n s).1 ++ [cntR (takeB n s).2.1 (takeB n s).2.2 4 246], cnS (takeB n s).2)
def cntS (a b : Nat) (s : RS) : Nat × RS := if a = b then (a, s) else ((min (val (takeR s.1 s.2 4)) ((b : Int) + 1)).toNat, tkS s 4)
def pS1 (b : List Int) : RS := tkS (b, 0) 1
def pS2 (b : List Int) : RS := tkS (pS1 b) 4
def pK (b : List Int) : Int := val (takeR b 0 1)
def pR (b : List Int) : Int := val (takeR (pS1 b).1 (pS1 b).2 4)
def ldIds (l : Ld) (s : RS) : List (List Int) := match l with
  | .nm a c => (takeN (cntS a c s).1 (cntS a c s).2).1
  | _ => []
def ldRows (l : Ld) (s : RS) : List (List Int) := match l with
  | .bl a c => (takeB (cntS a c s).1 (cntS a c s).2).1
  | _ => []
def ldEnd (l : Ld) (s : RS) : RS := match l with
  | .no => s
  | .nm a c => (takeN (cntS a c s).1 (cntS a c s).2).2
  | .bl a c => (takeB (cntS a c s).1 (cntS a c s).2).2
def pM (b : List Int) : Ms := ⟨pK b, pR b, ldIds (ldOf (pK b)) (pS2 b), ldRows (ldOf (pK b)) (pS2 b)⟩
def pEnd (b : List Int) : RS := ldEnd (ldOf (pK b)) (pS2 b)
def ms0 : Ms := ⟨0, 0, [], []⟩
def pGood (b : List Int) : Prop := endE (pEnd b).1 (pEnd b).2 = 0 ∧ okM (pM b) = true
instance (b : List Int) : Decidable (pGood b) := inferInstanceAs (Decidable (_ ∧ _))
def prs (b : List Int) : Ms × Int := if pGood b then (pM b, 0) else (ms0, 40)

theorem takeN_len (n : Nat) (s : RS) : (takeN n s).1.length = n := by
  induction n with
  | zero => rfl
  | succ n ih => simp [takeN, ih]
theorem takeB_len (n : Nat) (s : RS) : (takeB n s).1.length = n := by
  induction n with
  | zero => rfl
  | succ n ih => simp [takeB, ih]
theorem takeN_rng {s : RS} (h : Rng s.1) (n : Nat) : (∀ x ∈ (takeN n s).1, x.length = 32 ∧ Rng x) ∧ Rng (takeN n s).2.1 := by
  induction n with
  | zero => exact ⟨fun x hx => (by cases hx), h⟩
  | succ n ih =>
    refine ⟨fun x hx => ?_, takeL_rng ih.2 _ _⟩
    rcases List.mem_append.1 hx with h1 | h1
    · exact ih.1 x h1
    · rw [List.mem_singleton.1 h1]
      unfold idOr
      split
      · rename_i h2; exact ⟨h2, takeR_rng ih.2 _ _⟩
      · exact ⟨by simp, fun y hy => by rw [(List.mem_replicate.1 hy).2]; omega⟩
theorem takeB_rng {s : RS} (h : Rng s.1) (n : Nat) : (∀ x ∈ (takeB n s).1, Rng x) ∧ Rng (takeB n s).2.1 := by
  induction n with
  | zero => exact ⟨fun x hx => (by cases hx), h⟩
  | succ n ih =>
    refine ⟨fun x hx => ?_, cntL_rng ih.2 _ _ _⟩
    rcases List.mem_append.1 hx with h1 | h1
    · exact ih.1 x h1
    · rw [List.mem_singleton.1 h1]; exact cntR_rng ih.2 _ _ _
theorem cntS_rng {s : RS} (h : Rng s.1) (a b : Nat) : Rng (cntS a b s).2.1 := by
  unfold cntS; split
  · exact h
  · exact takeL_rng h _ _
theorem pS2_rng {b : List Int} (h : Rng b) : Rng (pS2 b).1 := takeL_rng (takeL_rng h _ _) _ _
theorem val_take_bd {l : List Int} (h : Rng l) (e n : Int) (hn : n ≤ 4) : 0 ≤ val (takeR l e n) ∧ val (takeR l e n) ≤ 4294967295 := by
  have h1 := val_bd _ (takeR_rng h e n)
  have h2 := takeR_len l e n
  have h3 : (256 : Int) ^ (takeR l e n).length ≤ 256 ^ 4 := pow_le_le _ _ (by omega)
  have h4 : (256 : Int) ^ 4 = 4294967296 := by decide
  omega
theorem pM_wf {b : List Int} (h : Rng b) : (pM b).wf := by
  have h1 := val_take_bd h 0 1 (by omega)
  have h2 := val_take_bd (takeL_rng h 0 1) (takeE b 0 1) 4 (by omega)
  refine ⟨?_, ?_, ?_, ?_, ?_, ?_⟩
  · have : (pM b).k = val (takeR b 0 1) := rfl
    omega
  · have : (pM b).k = val (takeR b 0 1) := rfl
    omega
  · have : (pM b).r = val (takeR (takeL b 0 1) (takeE b 0 1) 4) := rfl
    omega
  · have : (pM b).r = val (takeR (takeL b 0 1) (takeE b 0 1) 4) := rfl
    omega
  · show ∀ x ∈ ldIds _ _, _
    unfold ldIds
    split
    · exact (takeN_rng (cntS_rng (pS2_rng h) _ _) _).1
    · intro x hx; cases hx
  · show ∀ x ∈ ldRows _ _, _
    unfold ldRows
    split
    · exact (takeB_rng (cntS_rng (pS2_rng h) _ _) _).1
    · intro x hx; cases hx

/-! ### what was read stands there -/
theorem tk_ok {l : List Int} {e : Int} {n : Nat} (h : takeE l e n = 0) : e = 0 ∧ l = takeR l e n ++ takeL l e n ∧ (takeR l e n).length = n := by
  have h0 := h
  unfold takeE at h
  split at h
  · rename_i he; exact absurd h he
  · split at h
    · cases h
    · split at h
      · cases h
      · rename_i h1 h2 h3
        refine ⟨by omega, ?_, ?_⟩
        · unfold takeR takeL; rw [if_pos h0, if_pos h0]; simp
        · unfold takeR; rw [if_pos h0, List.length_take]; simp; omega
theorem cnt_ok {l : List Int} {e : Int} (hr : Rng l) (h : cntE l e 4 246 = 0) : e = 0 ∧ l = rowB (cntR l e 4 246) ++ cntL l e 4 246 := by
  have h0 := h
  unfold cntE at h
  split at h
  · rename_i he; exact absurd h he
  · unfold countE at h
    rw [if_neg (by omega)] at h
    split at h
    · cases h
    · split at h
      · cases h
      · split at h
        · cases h
        · rename_i h1 h2 h3 h4
          have hv := hd_bd l hr 4 (by omega)
          refine ⟨by omega, ?_⟩
          unfold cntR cntL rowB
          rw [if_pos h0, if_pos h0]
          have e1 : ((l.drop 4).take (val (l.take 4)).toNat).length = (val (l.take 4)).toNat := by
            rw [List.length_take, List.length_drop]; omega
          rw [e1, show (((val (l.take 4)).toNat : Nat) : Int) = val (l.take 4) by omega, be_val' (fun x hx => hr x (List.mem_of_mem_take hx)) (by rw [List.length_take]; omega), List.append_assoc, List.take_append_drop, List.take_append_drop]
theorem takeN_ok (n : Nat) (s : RS) (h : (takeN n s).2.2 = 0) : s.2 = 0 ∧ s.1 = (takeN n s).1.flatten ++ (takeN n s).2.1 := by
  induction n with
  | zero => exact ⟨h, rfl⟩
  | succ n ih =>
    obtain ⟨h1, h2, h3⟩ := tk_ok (n := 32) (show takeE (takeN n s).2.1 (takeN n s).2.2 (32 : Nat) = 0 from h)
    obtain ⟨g1, g2⟩ := ih h1
    refine ⟨g1, ?_⟩
    rw [g2]
    simp only [takeN, List.flatten_append, List.flatten_cons, List.flatten_nil, List.append_nil, List.append_assoc]
    congr 1
    unfold idOr
    rw [if_pos (show (takeR (takeN n s).2.1 (takeN n s).2.2 32).length = 32 from h3)]
    exact h2
theorem takeB_ok (n : Nat) (s : RS) (hr : Rng s.1) (h : (takeB n s).2.2 = 0) : s.2 = 0 ∧ s.1 = ((takeB n s).1.map rowB).flatten ++ (takeB n s).2.1 := by
  induction n with
  | zero => exact ⟨h, rfl⟩
  | succ n ih =>
    obtain ⟨h1, h2⟩ := cnt_ok (takeB_rng hr n).2 (show cntE (takeB n s).2.1 (takeB n s).2.2 4 246 = 0 from h)
    obtain ⟨g1, g2⟩ := ih h1
    refine ⟨g1, ?_⟩
    rw [g2]
    simp only [takeB, List.map_append, List.map_cons, List.map_nil, List.flatten_append, List.flatten_cons, List.flatten_nil, List.append_nil, List.append_assoc]
    congr 1
theorem cntS_ok {a b : Nat} {s : RS} (hr : Rng s.1) (h : (cntS a b s).2.2 = 0) (hb : (cntS a b s).1 ≤ b) : s.2 = 0 ∧ s.1 = (cntRow a b (cntS a b s).1).flatten ++ (cntS a b s).2.1 := by
  unfold cntS at h hb ⊢
  by_cases hab : a = b
  · rw [if_pos hab] at h hb ⊢
    exact ⟨h, by simp [cntRow, hab]⟩
  · rw [if_neg hab] at h hb ⊢
    obtain ⟨h1, h2, h3⟩ := tk_ok (n := 4) (show takeE s.1 s.2 (4 : Nat) = 0 from h)
    have hv := val_take_bd hr s.2 4 (by omega)
    refine ⟨h1, ?_⟩
    have hb' : (min (val (takeR s.1 s.2 4)) ((b : Int) + 1)).toNat ≤ b := hb
    have e1 : (((min (val (takeR s.1 s.2 4)) ((b : Int) + 1)).toNat : Nat) : Int) = val (takeR s.1 s.2 4) := by
      have hv1 : 0 ≤ val (takeR s.1 s.2 4) := hv.1
      omega
    have e2 : be 4 (val (takeR s.1 s.2 4)) = takeR s.1 s.2 4 := be_val' (takeR_rng hr _ _) h3
    simp only [cntRow, ne_eq, hab, not_false_eq_true, if_true, List.flatten_cons, List.flatten_nil, List.append_nil]
    rw [e1, e2]
    exact h2
theorem pGood_form {b : List Int} (hr : Rng b) (h : pGood b) : form (pM b) = b := by
  obtain ⟨hend, hok⟩ := h
  have he : (pEnd b).2 = 0 ∧ (pEnd b).1 = [] := by
    unfold endE at hend
    split at hend
    · rename_i h1; exact absurd hend h1
    · split at hend
      · cases hend
      · rename_i h1 h2
        exact ⟨by omega, List.eq_nil_of_length_eq_zero (by omega)⟩
  obtain ⟨_, _, hf⟩ := okM_parts hok
  have hk : (pM b).k = pK b := rfl
  have hbd := ldOf_bd (pK b)
  have hrest : (pS2 b).2 = 0 ∧ (pS2 b).1 = (pM b).rows.flatten := by
    unfold Ms.rows
    rw [hk] at hf ⊢
    unfold pEnd at he
    have hi : (pM b).ids = ldIds (ldOf (pK b)) (pS2 b) := rfl
    have hB : (pM b).bl = ldRows (ldOf (pK b)) (pS2 b) := rfl
    cases hl : ldOf (pK b) with
    | no => rw [hl] at hf; cases hf
    | nm a c =>
      rw [hl] at hf he hi hB
      obtain ⟨_, h2, _⟩ := fits_nm hf
      obtain ⟨g1, g2⟩ := takeN_ok _ _ (show (takeN (cntS a c (pS2 b)).1 (cntS a c (pS2 b)).2).2.2 = 0 from he.1)
      have hn : (pM b).ids.length = (cntS a c (pS2 b)).1 := by rw [hi]; exact takeN_len _ _
      obtain ⟨g3, g4⟩ := cntS_ok (pS2_rng hr) g1 (by omega)
      refine ⟨g3, ?_⟩
      have e0 : (takeN (cntS a c (pS2 b)).1 (cntS a c (pS2 b)).2).2.1 = [] := he.2
      rw [e0, List.append_nil] at g2
      rw [g4, g2, hn, hi, List.flatten_append]
      rfl
    | bl a c =>
      rw [hl] at hf he hi hB
      obtain ⟨_, h2, _⟩ := fits_bl hf
      obtain ⟨g1, g2⟩ := takeB_ok _ _ (cntS_rng (pS2_rng hr) a c) (show (takeB (cntS a c (pS2 b)).1 (cntS a c (pS2 b)).2).2.2 = 0 from he.1)
      have hn : (pM b).bl.length = (cntS a c (pS2 b)).1 := by rw [hB]; exact takeB_len _ _
      obtain ⟨g3, g4⟩ := cntS_ok (pS2_rng hr) g1 (by omega)
      refine ⟨g3, ?_⟩
      have e0 : (takeB (cntS a c (pS2 b)).1 (cntS a c (pS2 b)).2).2.1 = [] := he.2
      rw [e0, List.append_nil] at g2
      rw [g4, g2, hn, hB, List.flatten_append]
      rfl
  obtain ⟨h1, h2, h3⟩ := tk_ok (n := 4) (show takeE (pS1 b).1 (pS1 b).2 (4 : Nat) = 0 from hrest.1)
  obtain ⟨_, h5, h6⟩ := tk_ok (n := 1) (show takeE b 0 (1 : Nat) = 0 from h1)
  unfold form
  have e1 : be 1 (pM b).k = takeR b 0 1 := be_val' (takeR_rng hr _ _) h6
  have e4 : be 4 (pM b).r = takeR (pS1 b).1 (pS1 b).2 4 := be_val' (takeR_rng (takeL_rng hr _ _) _ _) h3
  rw [e1, e4, ← hrest.2, List.append_assoc]
  refine Eq.trans ?_ h5.symm
  congr 1
  exact h2.symm

/-! ### what a message's bytes are read as -/
theorem tk_app {x rest : List Int} {n : Nat} (h : x.length = n) : takeR (x ++ rest) 0 n = x ∧ tkS (x ++ rest, 0) n = (rest, 0) := by
  subst h
  obtain ⟨h1, h2, h3⟩ := take_app x rest
  exact ⟨h2, by simp [tkS, h1, h3]⟩
theorem cn_app {x rest : List Int} (h : x.length ≤ 246) : cntR (rowB x ++ rest) 0 4 246 = x ∧ cnS (rowB x ++ rest, 0) = (rest, 0) := by
  have e1 : (rowB x ++ rest).take 4 = be 4 (x.length : Int) := by
    rw [rowB, List.append_assoc, List.take_append_of_le_length (by rw [be_length]; omega), List.take_of_length_le (by rw [be_length]; omega)]
  have e2 : (rowB x ++ rest).drop 4 = x ++ rest := by
    rw [rowB, List.append_assoc, List.drop_append_of_le_length (by rw [be_length]; omega), List.drop_of_length_le (by rw [be_length]; omega), List.nil_append]
  have e3 : val (be 4 (x.length : Int)) = x.length := by
    rw [val_be _ _ (by omega)]
    have : (256 : Int) ^ 4 = 4294967296 := by decide
    omega
  have hE : cntE (rowB x ++ rest) 0 4 246 = 0 := by
    unfold cntE countE
    rw [if_neg (by simp), if_neg (by omega), e1, e3, if_neg (by simp [rowB, be_length]), if_neg (by omega), if_neg (by simp [rowB, be_length]; omega)]
  constructor
  · unfold cntR
    rw [if_pos hE, e1, e2, e3, Int.toNat_natCast, List.take_append_of_le_length (by omega), List.take_of_length_le (by omega)]
  · unfold cnS
    show (cntL (rowB x ++ rest) 0 4 246, cntE (rowB x ++ rest) 0 4 246) = _
    rw [hE]
    unfold cntL
    rw [if_pos hE, e1, e2, e3, Int.toNat_natCast, List.drop_append_of_le_length (by omega), List.drop_of_length_le (by omega), List.nil_append]
theorem takeN_app (ids : List (List Int)) (t : List Int) (hl : ∀ x ∈ ids, x.length = 32) : ∀ k, k ≤ ids.length → takeN k (ids.flatten ++ t, 0) = (ids.take k, ((ids.drop k).flatten ++ t, 0)) := by
  intro k
  induction k with
  | zero => intro _; simp [takeN]
  | succ k ih =>
    intro hk
    have e := ih (by omega)
    have ed : ids.drop k = ids[k] :: ids.drop (k + 1) := by rw [List.drop_eq_getElem_cons (by omega)]
    have h32 := hl ids[k] (List.getElem_mem (by omega))
    obtain ⟨g1, g2⟩ := tk_app (x := ids[k]) (rest := (ids.drop (k + 1)).flatten ++ t) h32
    rw [takeN, e]
    simp only []
    rw [ed, List.flatten_cons, List.append_assoc, List.take_succ_eq_append_getElem (by omega)]
    show (_ ++ [idOr (takeR (ids[k] ++ _) 0 (32 : Nat))], tkS _ (32 : Nat)) = _
    rw [g1, g2]
    unfold idOr
    rw [if_pos h32]
theorem takeB_app (bl : List (List Int)) (t : List Int) (hl : ∀ x ∈ bl, x.length ≤ 246) : ∀ k, k ≤ bl.length → takeB k ((bl.map rowB).flatten ++ t, 0) = (bl.take k, (((bl.drop k).map rowB).flatten ++ t, 0)) := by
  intro k
  induction k with
  | zero => intro _; simp [takeB]
  | succ k ih =>
    intro hk
    have e := ih (by omega)
    have ed : bl.drop k = bl[k] :: bl.drop (k + 1) := by rw [List.drop_eq_getElem_cons (by omega)]
    obtain ⟨g1, g2⟩ := cn_app (x := bl[k]) (rest := ((bl.drop (k + 1)).map rowB).flatten ++ t) (hl bl[k] (List.getElem_mem (by omega)))
    rw [takeB, e]
    simp only []
    rw [ed, List.map_cons, List.flatten_cons, List.append_assoc, List.take_succ_eq_append_getElem (by omega), g1, g2]
theorem cntS_app {a b n : Nat} (t : List Int) (h1 : a ≤ n) (h2 : n ≤ b) (hb : b ≤ 1000) : cntS a b ((cntRow a b n).flatten ++ t, 0) = (n, (t, 0)) := by
  unfold cntS cntRow
  by_cases hab : a = b
  · subst hab
    simp
    omega
  · rw [if_neg hab, if_pos hab]
    simp only [List.flatten_cons, List.flatten_nil, List.append_nil]
    obtain ⟨g1, g2⟩ := tk_app (x := be 4 (n : Int)) (rest := t) (n := 4) (be_length _ _)
    have g1' : takeR (be 4 (n : Int) ++ t) 0 4 = be 4 (n : Int) := g1
    have g2' : tkS (be 4 (n : Int) ++ t, 0) 4 = (t, 0) := g2
    rw [g1', g2', val_be _ _ (by omega)]
    have : (256 : Int) ^ 4 = 4294967296 := by decide
    congr 1
    omega
theorem form_pM {m : Ms} (hw : m.wf) (hok : okM m = true) : pGood (form m) ∧ pM (form m) = m := by
  obtain ⟨hr0, hr1, hf⟩ := okM_parts hok
  have hk := kind_bd (k := m.k) (fun e => by rw [e] at hf; cases hf)
  have hbd := ldOf_bd m.k
  have e0 : form m = be 1 m.k ++ (be 4 m.r ++ m.rows.flatten) := by rw [form, List.append_assoc]
  obtain ⟨g1, g2⟩ := tk_app (x := be 1 m.k) (rest := be 4 m.r ++ m.rows.flatten) (n := 1) (be_length _ _)
  obtain ⟨g3, g4⟩ := tk_app (x := be 4 m.r) (rest := m.rows.flatten) (n := 4) (be_length _ _)
  have p1 : (256 : Int) ^ 1 = 256 := by decide
  have p4 : (256 : Int) ^ 4 = 4294967296 := by decide
  have s1 : pS1 (form m) = (be 4 m.r ++ m.rows.flatten, 0) := by unfold pS1; rw [e0]; exact g2
  have s2 : pS2 (form m) = (m.rows.flatten, 0) := by unfold pS2; rw [s1]; exact g4
  have v1 : pK (form m) = m.k := by
    unfold pK
    rw [e0]
    refine (congrArg val g1).trans ?_
    rw [val_be _ _ (by omega)]; omega
  have v2 : pR (form m) = m.r := by
    unfold pR
    rw [s1]
    refine (congrArg val g3).trans ?_
    rw [val_be _ _ (by omega)]; omega
  have hall : ldIds (ldOf m.k) (m.rows.flatten, 0) = m.ids ∧ ldRows (ldOf m.k) (m.rows.flatten, 0) = m.bl ∧ ldEnd (ldOf m.k) (m.rows.flatten, 0) = ([], 0) := by
    unfold Ms.rows
    cases hl : ldOf m.k with
    | no => rw [hl] at hf; cases hf
    | nm a c =>
      rw [hl] at hf
      obtain ⟨h1, h2, h3⟩ := fits_nm hf
      obtain ⟨_, h4⟩ := hbd.1 a c hl
      have hn := takeN_app m.ids [] (fun x hx => (hw.idl x hx).1) m.ids.length (Nat.le_refl _)
      rw [List.append_nil, List.take_length, List.drop_length] at hn
      simp only [ldIds, ldRows, ldEnd, List.flatten_append]
      rw [cntS_app _ h1 h2 (by omega)]
      simp only []
      rw [hn, h3]
      exact ⟨rfl, rfl, rfl⟩
    | bl a c =>
      rw [hl] at hf
      obtain ⟨h1, h2, h3, h5⟩ := fits_bl hf
      obtain ⟨_, h4⟩ := hbd.2 a c hl
      have hn := takeB_app m.bl [] h5 m.bl.length (Nat.le_refl _)
      rw [List.append_nil, List.take_length, List.drop_length] at hn
      simp only [ldIds, ldRows, ldEnd, List.flatten_append]
      rw [cntS_app _ h1 h2 (by omega)]
      simp only []
      rw [hn, h3]
      exact ⟨rfl, rfl, rfl⟩
  have hM : pM (form m) = m := by
    unfold pM
    rw [v1, v2, s2, hall.1, hall.2.1]
  refine ⟨⟨?_, ?_⟩, hM⟩
  · unfold pEnd
    rw [v1, s2, hall.2.2]
    rfl
  · rw [hM]; exact hok

/-- the reader's answer, by what it must be -/
theorem prs_of_good {b : List Int} {m : Ms} (hw : m.wf) (hok : okM m = true) (hf : form m = b) : prs b = (m, 0) := by
  subst hf
  obtain ⟨h1, h2⟩ := form_pM hw hok
  unfold prs
  rw [if_pos h1, h2]
theorem prs_of_none {b : List Int} (hr : Rng b) (h : ∀ m : Ms, m.wf → okM m = true → form m ≠ b) : prs b = (ms0, 40) := by
  unfold prs
  rw [if_neg (fun hg => h (pM b) (pM_wf hr) hg.2 (pGood_form hr hg))]
theorem prs_cases {b : List Int} (hr : Rng b) : (∃ m : Ms, m.wf ∧ okM m = true ∧ form m = b ∧ prs b = (m, 0)) ∨ ((∀ m : Ms, m.wf → okM m = true → form m ≠ b) ∧ prs b = (ms0, 40)) := by
  by_cases hg : pGood b
  · exact .inl ⟨pM b, pM_wf hr, hg.2, pGood_form hr hg, by unfold prs; rw [if_pos hg]⟩
  · refine .inr ⟨fun m hw hok hf => hg ?_, by unfold prs; rw [if_neg hg]⟩
    subst hf
    exact (form_pM hw hok).1
end Go.Proofs.Ytoeinolekpmbbaa
/-
  An unpacker's Bytes, whose answer lies in a row of its own.
-/
namespace Go.Proofs.Ytoeinolekpmbbaa
open Go.ChangeShapes Go.WideShapes Go.ChangeAt Go.RowKit

end Go.Proofs.Ytoeinolekpmbbaa
/-
  Messages: contracts of what takes counts, names and rows of bytes out of an unpacker.
-/
namespace Go.Proofs.Ytoeinolekpmbbaa
open Go.ChangeShapes Go.WideShapes Go.ChangeAt Go.RowKit

theorem takeL_ne' {l : List Int} {e n : Int} : takeL l e n ≠ [] → l ≠ [] := fun h hl => h (by subst hl; unfold takeL; split <;> simp)
theorem cntL_ne' {l : List Int} {e : Int} {hd : Nat} {m : Int} : cntL l e hd m ≠ [] → l ≠ [] := fun h hl => h (by subst hl; unfold cntL; split <;> simp)

end Go.Proofs.Ytoeinolekpmbbaa
/-
  Messages: contract of what takes names out of an unpacker.
-/
namespace Go.Proofs.Ytoeinolekpmbbaa
open Go.ChangeShapes Go.WideShapes Go.ChangeAt Go.RowKit

theorem madeCells_all (z : Array Value) (v : Value) (hz : ∀ i, i < z.size → z[i]! = v) (h1 : 0 < z.size) (n : Nat) : madeCells z n = (List.replicate n v).toArray := by
  apply Array.ext
  · simp [size_madeCells]
  · intro i h1' h2'
    simp only [madeCells, Array.getElem_map, Array.getElem_range, List.getElem_toArray, List.getElem_replicate]
    exact hz _ (Nat.mod_lt _ h1)
theorem U8s_rep (n : Nat) : List.replicate n (Value.int .u8 0) = U8s (List.replicate n 0) := by simp [U8s]
theorem infoIdZ : (Try.prog.info? 27).map (fun i => (i.zero, i.size, i.bytes)) = some (some (.agg (U8s (List.replicate 32 0)).toArray), 32, 32) := by kernel_rfl
theorem rep_get (v : Value) (n i : Nat) (h : i < n) : (List.replicate n v).toArray[i]! = v := by simp [h]
theorem mkIds (n : Nat) (hn : n ≤ 1000) (w : World) : (Instr.makeSlice 23 (.int .i64 (n : Int)) (.int .i64 (n : Int))).run Try.prog w = .ok (.slice (some ⟨w.heap.size, 0, none⟩) n n) (w.alloc (.cells (U8s (List.replicate (n * 32) 0)).toArray 27)) := by
  obtain ⟨i, h1, h2, h3, h4⟩ := info_parts infoIdZ
  have h := run_makeSlice w 23 27 i _ Try.underlying23 h1 h2 .i64 .i64 n n (by omega) (by omega) (by rw [h3]; omega) (by rw [h4]; omega) (by omega)
  rw [h, h3, Int.toNat_natCast]
  have e : madeCells (Value.agg (U8s (List.replicate 32 0)).toArray).cells (n * 32) = (U8s (List.replicate (n * 32) 0)).toArray := by
    rw [madeCells_all _ (.int .u8 0) _ _ (n * 32), U8s_rep]
    · intro i hi
      have e1 : (Value.agg (U8s (List.replicate 32 0)).toArray).cells = (List.replicate 32 (Value.int .u8 0)).toArray := by rw [U8s_rep]; rfl
      rw [e1] at hi ⊢
      exact rep_get _ _ _ (by simpa using hi)
    · show 0 < ((U8s (List.replicate 32 0)).toArray).size
      simp [U8s]
  rw [e]
/-- thirty-two bytes, or none, copied into a row of names -/
theorem run_copy_id {w : World} {g : Nat} {pre mid post xs : List Int} {src : Value} (hg : w.heap[g]? = some (.cells (U8s (pre ++ mid ++ post)).toArray 27 (0, 0))) (hm : mid.length = 32) (hs : Sees w src xs) (hx : xs = [] ∨ xs.length = 32) :
    ∃ (n : Int) (w' : World), (∀ ty, (Builtin.copy_ #[56, 56] ty #[.slice (some ⟨g, pre.length, none⟩) 32 32, src]).run Try.prog w = .ok (.int .i64 n) w') ∧
      w'.heap[g]? = some (.cells (U8s (pre ++ (if xs.length = 32 then xs else mid) ++ post)).toArray 27 (0, 0)) ∧ Kp (fun y => y = g) w w' := by
  by_cases hn : xs = []
  · subst hn
    obtain ⟨a, c, rfl⟩ := sees_form hs
    refine ⟨0, w, fun ty => run_copy_zero _ _ Try.underlying56 w _ a 32 32 0 c (.inr rfl) ty, ?_, Kp.refl _ _⟩
    rw [if_neg (by simp)]; exact hg
  · have hl : xs.length = 32 := by rcases hx with h | h; exact absurd h hn; exact h
    rcases hs with ⟨_, h⟩ | ⟨ad, cap, rfl, _, _, hc⟩
    · exact absurd h hn
    · have h := fun ty => run_copy_row (P := Try.prog) w 56 56 ty 5 g pre.length 32 32 ad xs.length cap (U8s (pre ++ mid ++ post)).toArray 27 (U8s xs) Try.underlying56 byte1 hg (by rw [U8s_length, hl]; rfl)
        (fun j u hj => by
          obtain ⟨x, hx, rfl⟩ := U8s_inv hj
          exact hc j x hx) (by rw [U8s_length, hl, List.size_toArray, U8s_length]; simp; omega) (U8s_one xs)
      refine ⟨_, _, h, ?_, (setRow_kp _ _ _).1⟩
      rw [setRow_blk hg, if_pos hl]
      congr 2
      apply Array.ext'
      simp only [U8s_append]
      have e := splice_mid (U8s pre) (U8s mid) (U8s post) (U8s xs) (by rw [U8s_length, U8s_length, hm, hl])
      rw [U8s_length, U8s_length] at e
      rw [U8s_length]
      exact e
theorem rep_split (n k : Nat) (h : k < n) : List.replicate ((n - k) * 32) (0 : Int) = List.replicate 32 0 ++ List.replicate ((n - (k + 1)) * 32) 0 := by
  rw [List.replicate_append_replicate]; congr 1; omega
theorem takeN_flat_len {s : RS} (hr : Rng s.1) (k : Nat) : (takeN k s).1.flatten.length = k * 32 := by
  have h1 := (takeN_rng hr k).1
  induction k with
  | zero => simp [takeN]
  | succ k ih =>
    simp only [takeN, List.flatten_append, List.length_append, List.flatten_cons, List.flatten_nil, List.append_nil]
    rw [ih (takeN_rng hr k).1, (h1 _ (by simp [takeN])).1]
    omega
theorem takeN_left (k : Nat) (s : RS) {n : Nat} (h : s.1.length ≤ n) : (takeN k s).2.1.length ≤ n := by
  induction k with
  | zero => exact h
  | succ k ih => exact Nat.le_trans (takeL_len _ _ _) ih
theorem takeB_left (k : Nat) (s : RS) {n : Nat} (h : s.1.length ≤ n) : (takeB k s).2.1.length ≤ n := by
  induction k with
  | zero => exact h
  | succ k ih => exact Nat.le_trans (cntL_len _ _ _ _) ih
theorem flat_at : ∀ {ids : List (List Int)}, (∀ x ∈ ids, x.length = 32) → ∀ {i : Nat} {x : List Int}, ids[i]? = some x → ∀ {j : Nat} {y : Int}, x[j]? = some y → ids.flatten[i * 32 + j]? = some y
  | [], _, i, x, hi, _, _, _ => by cases hi
  | z :: r, hl, 0, x, hi, j, y, hj => by
    cases hi
    rw [Nat.zero_mul, Nat.zero_add, List.flatten_cons, List.getElem?_append_left (List.getElem?_eq_some_iff.1 hj).1]
    exact hj
  | z :: r, hl, i + 1, x, hi, j, y, hj => by
    have ih := flat_at (ids := r) (fun u hu => hl u (List.mem_cons_of_mem _ hu)) (i := i) hi hj
    have h1 := hl z (List.mem_cons_self ..)
    rw [List.flatten_cons, List.getElem?_append_right (by omega), h1, show (i + 1) * 32 + j - 32 = i * 32 + j by omega]
    exact ih
theorem own_ids {w : World} {B gr n : Nat} {ids : List (List Int)} (hl : ∀ x ∈ ids, x.length = 32) (hn : ids.length = n) (hn2 : n ≤ 1000) (hB : B ≤ gr) (h : w.heap[gr]? = some (.cells (U8s ids.flatten).toArray 27 (0, 0))) :
    SeesI (fun g => B ≤ g) w (.slice (some ⟨gr, 0, none⟩) n n) ids := by
  subst hn
  refine .inr ⟨⟨gr, 0, none⟩, ids.length, rfl, Nat.le_refl _, by unfold maxLen; omega, fun _ => hB, fun i x hi j y hj => ?_⟩
  rw [Addr.add_lit, cell_blk h, Nat.zero_add, List.getElem?_toArray]
  exact U8s_get (flat_at hl hi hj)

end Go.Proofs.Ytoeinolekpmbbaa
/-
  Messages: contract of what takes rows of bytes out of an unpacker.
-/
namespace Go.Proofs.Ytoeinolekpmbbaa
open Go.ChangeShapes Go.WideShapes Go.ChangeAt Go.RowKit

theorem infoRowZ : (Try.prog.info? 56).map (fun i => (i.zero, i.size, i.bytes)) = some (some (.slice none 0 0), 1, 24) := by kernel_rfl
end Go.Proofs.Ytoeinolekpmbbaa
/-
  Messages: a message in the making: its rows of bytes put one behind the other by append, as the document's Clone and Parse do it.
-/
namespace Go.Proofs.Ytoeinolekpmbbaa
open Go.ChangeShapes Go.WideShapes Go.ChangeAt Go.RowKit

/-- what may not be touched: other than the message's block and its row of rows -/
def Apart (B g4 : Nat) (vb : Value) (g : Nat) : Prop := B ≤ g ∧ g ≠ g4 ∧ vb.ownBlock ≠ some g
theorem slice_one (a : Option Addr) (n c : Nat) : (Value.slice a n c).oneCell' = true := rfl
end Go.Proofs.Ytoeinolekpmbbaa
/-
  Messages: a message in the making: its names put one behind the other by append, as the document's Parse does it.
-/
namespace Go.Proofs.Ytoeinolekpmbbaa
open Go.ChangeShapes Go.WideShapes Go.ChangeAt Go.RowKit

theorem list_cons' {n : Nat} {l : List Int} (h : l.length = n + 1) : ∃ x r, l = x :: r ∧ r.length = n := by
  cases l with
  | nil => cases h
  | cons x r => exact ⟨x, r, rfl, by simpa using h⟩
theorem mk1Id (x : List Int) (hx : x.length = 32) (w : World) :
    (Instr.buildSlice 23 1 #[(0, .agg (U8s x).toArray)]).run Try.prog w = .ok (.slice (some ⟨w.heap.size, 0, none⟩) 1 1) (w.alloc (.cells (U8s x).toArray 27)) := by
  obtain ⟨x0, xp0, rfl, xh0⟩ := list_cons' hx
  obtain ⟨x1, xp1, rfl, xh1⟩ := list_cons' xh0
  obtain ⟨x2, xp2, rfl, xh2⟩ := list_cons' xh1
  obtain ⟨x3, xp3, rfl, xh3⟩ := list_cons' xh2
  obtain ⟨x4, xp4, rfl, xh4⟩ := list_cons' xh3
  obtain ⟨x5, xp5, rfl, xh5⟩ := list_cons' xh4
  obtain ⟨x6, xp6, rfl, xh6⟩ := list_cons' xh5
  obtain ⟨x7, xp7, rfl, xh7⟩ := list_cons' xh6
  obtain ⟨x8, xp8, rfl, xh8⟩ := list_cons' xh7
  obtain ⟨x9, xp9, rfl, xh9⟩ := list_cons' xh8
  obtain ⟨x10, xp10, rfl, xh10⟩ := list_cons' xh9
  obtain ⟨x11, xp11, rfl, xh11⟩ := list_cons' xh10
  obtain ⟨x12, xp12, rfl, xh12⟩ := list_cons' xh11
  obtain ⟨x13, xp13, rfl, xh13⟩ := list_cons' xh12
  obtain ⟨x14, xp14, rfl, xh14⟩ := list_cons' xh13
  obtain ⟨x15, xp15, rfl, xh15⟩ := list_cons' xh14
  obtain ⟨x16, xp16, rfl, xh16⟩ := list_cons' xh15
  obtain ⟨x17, xp17, rfl, xh17⟩ := list_cons' xh16
  obtain ⟨x18, xp18, rfl, xh18⟩ := list_cons' xh17
  obtain ⟨x19, xp19, rfl, xh19⟩ := list_cons' xh18
  obtain ⟨x20, xp20, rfl, xh20⟩ := list_cons' xh19
  obtain ⟨x21, xp21, rfl, xh21⟩ := list_cons' xh20
  obtain ⟨x22, xp22, rfl, xh22⟩ := list_cons' xh21
  obtain ⟨x23, xp23, rfl, xh23⟩ := list_cons' xh22
  obtain ⟨x24, xp24, rfl, xh24⟩ := list_cons' xh23
  obtain ⟨x25, xp25, rfl, xh25⟩ := list_cons' xh24
  obtain ⟨x26, xp26, rfl, xh26⟩ := list_cons' xh25
  obtain ⟨x27, xp27, rfl, xh27⟩ := list_cons' xh26
  obtain ⟨x28, xp28, rfl, xh28⟩ := list_cons' xh27
  obtain ⟨x29, xp29, rfl, xh29⟩ := list_cons' xh28
  obtain ⟨x30, xp30, rfl, xh30⟩ := list_cons' xh29
  obtain ⟨x31, xp31, rfl, xh31⟩ := list_cons' xh30
  obtain rfl := List.eq_nil_of_length_eq_zero xh31
  kernel_rfl
end Go.Proofs.Ytoeinolekpmbbaa
/-
  Messages: slices.Clone of names and of rows of bytes.
-/
namespace Go.Proofs.Ytoeinolekpmbbaa
open Go.ChangeShapes Go.WideShapes Go.ChangeAt Go.RowKit
variable {A : Nat → Prop}

theorem infoIdG : (Try.prog.info? 27).map (fun i => (i.zero, i.size, i.bytes)) = some (some (.agg (U8s (List.replicate 32 0)).toArray), 32, 32) := by kernel_rfl
theorem infoRowG : (Try.prog.info? 56).map (fun i => (i.zero, i.size, i.bytes)) = some (some (.slice none 0 0), 1, 24) := by kernel_rfl
theorem flat_inv : ∀ {ids : List (List Int)}, (∀ x ∈ ids, x.length = 32) → ∀ {k : Nat} {y : Int}, ids.flatten[k]? = some y → ∃ i j x, k = i * 32 + j ∧ ids[i]? = some x ∧ x[j]? = some y
  | [], _, k, y, h => by cases h
  | x :: r, hl, k, y, h => by
    have h32 := hl x (List.mem_cons_self ..)
    rw [List.flatten_cons] at h
    by_cases hk : k < 32
    · rw [List.getElem?_append_left (by omega)] at h
      exact ⟨0, k, x, by omega, rfl, h⟩
    · rw [List.getElem?_append_right (by omega), h32] at h
      obtain ⟨i, j, x', e, h1, h2⟩ := flat_inv (fun z hz => hl z (List.mem_cons_of_mem _ hz)) h
      exact ⟨i + 1, j, x', by omega, h1, h2⟩
theorem flat_length {ids : List (List Int)} (hl : ∀ x ∈ ids, x.length = 32) : ids.flatten.length = ids.length * 32 := by
  induction ids with
  | nil => rfl
  | cons x r ih => rw [List.flatten_cons, List.length_append, hl x (List.mem_cons_self ..), ih (fun y hy => hl y (List.mem_cons_of_mem _ hy)), List.length_cons]; omega

set_option maxRecDepth 100000 in
set_option maxHeartbeats 1600000 in
theorem cloneI_any {v : Value} {ids : List (List Int)} {w : World} (hs : SeesI A w v ids) (hl : ∀ x ∈ ids, x.length = 32) (hn : ids.length ≤ 1000000) :
    Calls Try.prog 36 #[v] w fun e w' => ∃ v', e = .returned v' ∧ OwnG 27 32 w' w.heap.size v' ids.length (U8s ids.flatten) ∧ Kp (fun _ => False) w w' := by
  have hq := fun (w : World) (a : Option Addr) (n c : Nat) => Lib.run_eql_slice_nil (P := Try.prog) w 23 27 a n c 0 0 Try.underlying23
  rcases hs with ⟨rfl, rfl⟩ | ⟨ad, cap, rfl, h1, h2, _, h4⟩
  · go_enter Try.func36, Try.ntmps36
    go_wp2_with fail
    go_ret
    exact ⟨_, rfl, OwnG.nil _ _ _ _, Kp.refl _ _⟩
  · have hk : Kp (fun _ => False) w (w.alloc (.cells #[] 27)) := (Kp.refl _ _).alloc _
    by_cases h0 : 1 ≤ ids.length
    · have src : Src Try.prog 32 23 (.slice (some ad) ids.length cap) ids.length (U8s ids.flatten) (w.alloc (.cells #[] 27)) :=
        Src.ofSlice _ Try.underlying23 ad ids.length cap (U8s ids.flatten) (by rw [U8s_length, flat_length hl]) (fun k u hu => by
          obtain ⟨y, hy, rfl⟩ := U8s_inv hu
          obtain ⟨i, j, x, rfl, hi, hj⟩ := flat_inv hl hy
          have hc := h4 i x hi j y hj
          rw [hk.cell (lt_of_cell hc) (fun f => f)]
          exact hc) (U8s_one _)
      obtain ⟨v', w2, hap, ho, k2⟩ := app_new Try.underlying23 infoIdG (by kernel_rfl) (some ⟨w.heap.size, 0, none⟩) src h0 hn (by omega)
      have HF := Lib.hid (show OwnG 27 32 w2 w.heap.size v' ids.length (U8s ids.flatten) ∧ Kp (fun _ => False) w w2 from by
        refine ⟨?_, hk.trans k2 (fun _ _ h => h)⟩
        obtain ⟨e1, e2 | ⟨g, c', rest, e2, e3, e4⟩⟩ := ho
        · exact ⟨e1, .inl e2⟩
        · exact ⟨e1, .inr ⟨g, c', rest, e2, Nat.le_trans hk.size e3, e4⟩⟩)
      obtain ⟨a3, c3, rfl⟩ := ho.form
      clear ho k2 hk h4
      go_enter Try.func36, Try.ntmps36
      go_wp2_with (at_builtin; refine Lib.wpList_append_run _ rfl _ _ _ _ rfl _ _ rfl rfl _ _ (hap _) ?_)
      go_ret
      exact ⟨_, rfl, HF.out⟩
    · obtain rfl : ids = [] := List.eq_nil_of_length_eq_zero (by omega)
      have hap := app_zero Try.underlying23 infoIdG (w.alloc (.cells #[] 27)) (some ⟨w.heap.size, 0, none⟩) (some ad) cap
      have HK := Lib.hid hk
      have HO := Lib.hid (show OwnG 27 32 (w.alloc (.cells #[] 27)) w.heap.size (.slice (some ⟨w.heap.size, 0, none⟩) 0 0) 0 [] from
        ⟨rfl, .inr ⟨w.heap.size, 0, [], rfl, Nat.le_refl _, new_blk _ _, rfl, Nat.le_refl _, Nat.zero_le _⟩⟩)
      clear hk h4
      go_enter Try.func36, Try.ntmps36
      go_wp2_with (at_builtin; refine Lib.wpList_append_run _ rfl _ _ _ _ rfl _ _ rfl rfl _ _ (hap _) ?_)
      go_ret
      exact ⟨_, rfl, HO.out, HK.out⟩

end Go.Proofs.Ytoeinolekpmbbaa
/-
  The arguments of the laws of layer 1: bytes, and a list of items, as they lie in memory.
-/
namespace Go.Proofs.Ytoeinolekpmbbaa
open Go.ChangeShapes Go.WideShapes Go.ChangeAt Go.RowKit

theorem Try.cellsOf8 : Try.prog.cellsOf 5 = 1 := by kernel_rfl
theorem wf_u8 {x : Int} (h : (Lit.int .u8 x).wf = true) : 0 ≤ x ∧ x ≤ 255 := by simpa [Lit.wf, IntKind.min, IntKind.max, IntKind.signed, IntKind.bits] using h
theorem wf_u64 {x : Int} (h : (Lit.int .u64 x).wf = true) : 0 ≤ x ∧ x ≤ 18446744073709551615 := by simpa [Lit.wf, IntKind.min, IntKind.max, IntKind.signed, IntKind.bits] using h
theorem wf_i64 {x : Int} (h : (Lit.int .i64 x).wf = true) : -9223372036854775808 ≤ x ∧ x ≤ 9223372036854775807 := by simpa [Lit.wf, IntKind.min, IntKind.max, IntKind.signed, IntKind.bits] using h

theorem open_bytes {H : Type} {enc : TypeId × Value → H} {W : World} {base : Nat} {spare : Nat → Bool} {held : Bool} {fuel : Nat} {v : Value} {x : DataW H × List MemPlace} (h : DataW.trod enc Try.prog W base spare held fuel 56 [v] = some x) :
    ∃ xs, Sees W v xs ∧ Rng xs := by
  rcases open_ints Try.underlying56 Try.underlying5 Try.cellsOf8 h with ⟨hc, _⟩ | ⟨a, len, cap, zs, hc, _, hl, hm, hz, _, hcell, hwz⟩
  · exact ⟨[], .inl ⟨by simpa using hc, rfl⟩, fun _ h => by cases h⟩
  · have hlz : len ≤ zs.length := by rw [hz]; split <;> omega
    refine ⟨zs.take len, .inr ⟨a, cap, ?_, ?_, hm, fun i y hi => ?_⟩, fun y hy => wf_u8 (hwz y (List.mem_of_mem_take hy))⟩
    · rw [List.length_take, Nat.min_eq_left hlz]; simpa using hc
    · rw [List.length_take]; omega
    · have hi' := (List.getElem?_eq_some_iff.1 hi).1
      rw [List.length_take] at hi'
      rw [hcell i (by omega)]
      rw [List.getElem?_take_of_lt (by omega)] at hi
      simp [List.getD, hi]

structure Itm where
  d : Int
  V : Int
  n : Int
  b : Value
  xs : List Int
/-- an item at a place of a list of items -/
structure ItmAt (W : World) (a : Addr) (i : Nat) (it : Itm) : Prop where
  c0 : W.cell? (a.add (i * 4 + 0)) = some (.int .i64 it.d)
  c1 : W.cell? (a.add (i * 4 + 1)) = some (.int .u64 it.V)
  c2 : W.cell? (a.add (i * 4 + 2)) = some it.b
  c3 : W.cell? (a.add (i * 4 + 3)) = some (.int .i64 it.n)
structure Good (W : World) (it : Itm) : Prop where
  dr : -9223372036854775808 ≤ it.d ∧ it.d ≤ 9223372036854775807
  vr : 0 ≤ it.V ∧ it.V ≤ 18446744073709551615
  nr : -9223372036854775808 ≤ it.n ∧ it.n ≤ 9223372036854775807
  sees : Sees W it.b it.xs
  rng : Rng it.xs
def ItemsAt (W : World) (lv : Value) (its : List Itm) : Prop :=
  (lv = .slice none 0 0 ∧ its = []) ∨ ∃ a cap, lv = .slice (some a) its.length cap ∧ its.length ≤ cap ∧ cap ≤ maxLen ∧ ∀ i it, its[i]? = some it → ItmAt W a i it ∧ Good W it

theorem Try.cellsInt : Try.prog.cellsOf 3 = 1 := by kernel_rfl
theorem Try.cellsU64 : Try.prog.cellsOf 93 = 1 := by kernel_rfl
theorem Try.cellsBytes : Try.prog.cellsOf 56 = 1 := by kernel_rfl
end Go.Proofs.Ytoeinolekpmbbaa
/-
  A message among a law's arguments.
-/
namespace Go.Proofs.Ytoeinolekpmbbaa
open Go.ChangeShapes Go.WideShapes Go.ChangeAt Go.RowKit

theorem Try.cellsIdM : Try.prog.cellsOf 27 = 32 := by kernel_rfl
theorem Try.cellsByM : Try.prog.cellsOf 56 = 1 := by kernel_rfl
theorem Try.cellsIdsM : Try.prog.cellsOf 23 = 1 := by kernel_rfl
theorem Try.cellsIntM : Try.prog.cellsOf 3 = 1 := by kernel_rfl
theorem Try.cellsI64M : Try.prog.cellsOf 2 = 1 := by kernel_rfl
theorem wf_i64' {x : Int} (h : (Lit.int .i64 x).wf = true) : -9223372036854775808 ≤ x ∧ x ≤ 9223372036854775807 := by simpa [Lit.wf, IntKind.min, IntKind.max, IntKind.signed, IntKind.bits] using h
theorem open_id_cells {H : Type} {enc : TypeId × Value → H} {W : World} {base : Nat} {spare : Nat → Bool} {held : Bool} {fuel : Nat} {l : List Value} {x : DataW H × List MemPlace} (hf : DataW.trod enc Try.prog W base spare held fuel 27 l = some x) :
    ∃ xs, l = U8s xs ∧ xs.length = 32 ∧ Rng xs := by
  obtain ⟨xs, m, _, _, hlen, hxs, hel⟩ := DataW.trod_array Try.underlying27 hf
  rw [Try.cellsOf8] at hel
  rw [Try.cellsIdM] at hlen
  have hpick : ∀ k, k ≤ 32 → ∃ zs : List Int, zs.length = k ∧ l.take k = U8s zs ∧ Rng zs := by
    intro k
    induction k with
    | zero => intro _; exact ⟨[], rfl, rfl, fun _ h => by cases h⟩
    | succ k ih =>
      intro hk
      obtain ⟨zs, h1, h2, h3⟩ := ih (by omega)
      have he := hel k (by omega)
      rw [List.getElem?_eq_getElem (by omega)] at he
      obtain ⟨z, hz, _, hw⟩ := DataW.trod_int Try.underlying5 he
      have hk' : k < l.length := by omega
      have hz1 : l[k] = .int .u8 z := by
        rw [Nat.mul_one, List.drop_eq_getElem_cons hk', List.take_succ_cons, List.take_zero] at hz
        exact (List.cons.inj hz).1
      refine ⟨zs ++ [z], by simp [h1], ?_, h3.append (fun x hx => by rw [List.mem_singleton.1 hx]; exact wf_u8 hw)⟩
      rw [List.take_succ_eq_append_getElem hk', h2, hz1]
      simp [U8s]
  obtain ⟨zs, h1, h2, h3⟩ := hpick 32 (Nat.le_refl _)
  rw [List.take_of_length_le (by omega)] at h2
  exact ⟨zs, h2, h1, h3⟩
theorem pick_all {T : Type} {len : Nat} {R : Nat → T → Prop} (hall : ∀ i, i < len → ∃ x, R i x) : ∃ l : List T, l.length = len ∧ ∀ i x, l[i]? = some x → R i x := by
  have hp : ∀ k, k ≤ len → ∃ l : List T, l.length = k ∧ ∀ i x, l[i]? = some x → R i x := by
    intro k
    induction k with
    | zero => intro _; exact ⟨[], rfl, fun i x h => by cases h⟩
    | succ k ih =>
      intro hk
      obtain ⟨l, h1, h2⟩ := ih (by omega)
      obtain ⟨y, hy⟩ := hall k (by omega)
      refine ⟨l ++ [y], by simp [h1], fun i x hx => ?_⟩
      rcases Nat.lt_or_ge i l.length with h | h
      · rw [List.getElem?_append_left h] at hx; exact h2 i x hx
      · rw [List.getElem?_append_right h] at hx
        have h0 : i - l.length = 0 := by have := (List.getElem?_eq_some_iff.1 hx).1; simp at this; omega
        rw [h0] at hx
        have e : i = k := by omega
        cases hx
        rw [e]; exact hy
  exact hp len (Nat.le_refl _)
theorem open_ids {H : Type} {enc : TypeId × Value → H} {W : World} {base : Nat} {spare : Nat → Bool} {held : Bool} {fuel : Nat} {v : Value} {x : DataW H × List MemPlace} (h : DataW.trod enc Try.prog W base spare held fuel 23 [v] = some x) :
    ∃ ids, SeesI (fun _ => True) W v ids ∧ ∀ y ∈ ids, y.length = 32 ∧ Rng y := by
  rcases Deep.open_slice Try.underlying23 h with ⟨hc, _⟩ | ⟨a, len, cap, m, n, D, Pl, hc, _, hl, hm, hmm, _, hi⟩
  · exact ⟨[], .inl ⟨by simpa using hc, rfl⟩, fun y hy => by cases hy⟩
  · have hlm : len ≤ m := by rw [hmm]; split <;> omega
    obtain ⟨ids, h1, h2⟩ := pick_all (len := len) (R := fun i (xs : List Int) => (xs.length = 32 ∧ Rng xs) ∧ ∀ j u, xs[j]? = some u → W.cell? (a.add (i * 32 + j)) = some (.int .u8 u)) (fun i hil => by
      obtain ⟨cs, hcs, ht⟩ := hi i (by omega)
      rw [Try.cellsIdM] at hcs
      obtain ⟨xs, hxs, hl32, hr⟩ := open_id_cells ht
      obtain ⟨hn, _, hat⟩ := World.cells?_some hcs
      have ha : ∀ j, (a.add (i * 32)).add j = a.add (i * 32 + j) := fun j => Deep.add_add a _ _
      refine ⟨xs, ⟨hl32, hr⟩, fun j u hj => ?_⟩
      have hjl := (List.getElem?_eq_some_iff.1 hj).1
      rw [← ha, hat j (by omega), hxs]
      exact U8s_get hj)
    refine ⟨ids, .inr ⟨a, cap, by rw [h1]; simpa using hc, by omega, hm, fun _ => trivial, fun i x hx => (h2 i x hx).2⟩, fun y hy => ?_⟩
    obtain ⟨i, hi'⟩ := List.getElem?_of_mem hy
    exact (h2 i y hi').1
end Go.Proofs.Ytoeinolekpmbbaa
