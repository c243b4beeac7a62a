/-
  Contracts of package sha: right, word, setWord, spread.
-/
import Derived.Test.YtleapcbkkggecaaRows
import Derived.Test.YtleapcbkkggecaaMem
import Derived.Test.YtleapcbkkggecaaSp
import Derived.Test.YtleapcbkkggecaaSq
import Derived.WalkKit
import Derived.ProofKit
import Derived.Outline
import Derived.Lib.Hide
import Derived.WalkLawsBesides
import Derived.WalkSpells
import Derived.Laws.Rows
import Derived.Laws.Tables
import Derived.Deep.MidRow
import Derived.Deep.DeepMust
import Derived.Deep.QuietTactic
import Derived.BigQuiet
import Derived.StillTailTactics
import Derived.IntWalk
namespace Go.Proofs.Ytleapcbkkggecaa
open Go.ChangeShapes Go.WideShapes Go.ChangeAt Go.RowKit

theorem turn_count (n : Int) (h0 : 1 ≤ n) (h1 : n ≤ 31) : bits .and .u64 (IntKind.u64.wrap (-n)) 31 = 32 - n := by
  have e : IntKind.u64.wrap (-n) = 18446744073709551616 - n := by simp [IntKind.wrap, IntKind.bits, IntKind.signed]; omega
  rw [e, u64_and _ _ (by omega) (by omega) (by omega) (by omega), show (31 : Int).toNat = 31 from rfl, nat_mask5]
  omega

theorem or_wd (a b c d : Int) (ha : 0 ≤ a ∧ a ≤ 255) (hb : 0 ≤ b ∧ b ≤ 255) (hc : 0 ≤ c ∧ c ≤ 255) (hd : 0 ≤ d ∧ d ≤ 255) :
    bits .or .u32 (bits .or .u32 (bits .or .u32 (a * 16777216) (b * 65536)) (c * 256)) d = wd a b c d := by
  obtain ⟨a, rfl⟩ := Int.eq_ofNat_of_zero_le ha.1
  obtain ⟨b, rfl⟩ := Int.eq_ofNat_of_zero_le hb.1
  obtain ⟨c, rfl⟩ := Int.eq_ofNat_of_zero_le hc.1
  obtain ⟨d, rfl⟩ := Int.eq_ofNat_of_zero_le hd.1
  have j1 : a * 16777216 ||| b * 65536 = a * 16777216 + b * 65536 := nat_join 24 _ _ (by omega) (by omega)
  have j2 : a * 16777216 + b * 65536 ||| c * 256 = a * 16777216 + b * 65536 + c * 256 := nat_join 16 _ _ (by omega) (by omega)
  have j3 : a * 16777216 + b * 65536 + c * 256 ||| d = a * 16777216 + b * 65536 + c * 256 + d := nat_join 8 _ _ (by omega) (by omega)
  rw [show (a : Int) * 16777216 = ((a * 16777216 : Nat) : Int) by omega, show (b : Int) * 65536 = ((b * 65536 : Nat) : Int) by omega, show (c : Int) * 256 = ((c * 256 : Nat) : Int) by omega,
    u32_or_nat _ _ (by omega) (by omega), j1, u32_or_nat _ _ (by omega) (by omega), j2, u32_or_nat _ _ (by omega) (by omega), j3]
  unfold wd; omega

/-- four cells of a row set anew -/
def put4 (l : List Int) (o : Nat) (x : Int) : List Int := l.take o ++ w4 x ++ l.drop (o + 4)
theorem put4_length (l : List Int) (o : Nat) (x : Int) (h : o + 4 ≤ l.length) : (put4 l o x).length = l.length := by
  simp [put4, w4]; omega
theorem put4_rng {l : List Int} (h : Rng l) (o : Nat) {x : Int} (hx : W32 x) : Rng (put4 l o x) := by
  intro y hy
  obtain ⟨h0, h1⟩ := hx
  rcases List.mem_append.1 hy with h2 | h2
  · rcases List.mem_append.1 h2 with h3 | h3
    · exact h y (List.mem_of_mem_take h3)
    · simp only [w4, List.mem_cons, List.not_mem_nil, or_false] at h3
      rcases h3 with h3 | h3 | h3 | h3 <;> subst h3 <;> omega
  · exact h y (List.mem_of_mem_drop h2)
def U32s (xs : List Int) : List Value := xs.map (.int .u32)
theorem U32s_length (xs : List Int) : (U32s xs).length = xs.length := by simp [U32s]
theorem U32s_append (xs ys : List Int) : U32s (xs ++ ys) = U32s xs ++ U32s ys := by simp [U32s]
theorem U32s_get (xs : List Int) (i : Nat) (h : i < xs.length) : (U32s xs).toArray[i]? = some (.int .u32 (xs.getD i 0)) := by
  simp [U32s, h]
theorem U32s_one (xs : List Int) : (U32s xs).toArray.all (·.oneCell') = true :=
  all_oneCell_toArray (fun v hv => by obtain ⟨_, _, rfl⟩ := List.mem_map.1 hv; rfl)

/-- a part of an array that a pointer tells, from l on -/
theorem slice_from {t e : TypeId} {n : Nat} (hu : Try.prog.underlying t = some (.array n e)) (hq : (Try.prog.info? e).map (·.size) = some 1) (g o l : Nat) (L : Int) (hL : L = l) (hl : l < n) (w : World) :
    (Instr.sliceAt t (.pointer (some ⟨g, o, none⟩)) (some (.int .i64 L)) none none).run Try.prog w = .ok (.slice (some ⟨g, o + l, none⟩) (n - l) (n - l)) w := by
  subst hL
  obtain ⟨i, hi, hs⟩ := Option.map_eq_some_iff.1 hq
  have he : Try.prog.elem t = e := by simp [Program.elem, hu]
  have ha : Try.prog.arrayLen t = n := by simp [Program.arrayLen, hu]
  rw [run_sliceAt_array_l w t ⟨g, o, none⟩ (by rw [ha, hu, he]) .i64 l (by omega) (by omega), he, ha]
  simp [sizeOf, typeInfo, hi, hs, slicedAt, Nat.ne_of_gt hl, Addr.add_mid]
/-- a region of reads ahead of its last operations, the world under its name -/
theorem wp_tail {P : Program} {id : Nat} {Q : Exit → Act → World → Prop} {a : Act} {w : World} {l : List Oper} (n : Nat) (hm : P.follows .mixedOrders = true) (hB : Region.lexTailB .any l.toArray n = true)
    (h : wpStill P l.toArray w.drew (fun a' => wpList P l.toArray Q (l.drop n) a' w.drew) (l.take n) a) : (Code.region id l.toArray true).wp P Q a w :=
  wp_region_still_tail n hm hB h
theorem setRow_blk {w : World} {g t : Nat} {old cs : Array Value} {fr : Nat × Nat} (h : w.heap[g]? = some (.cells old t fr)) : (w.setRow g cs).heap[g]? = some (.cells cs t fr) := by
  simp [World.setRow, Array.getElem?_modify, h]
theorem setRow_other_blk {w : World} {g k : Nat} (cs : Array Value) (h : k ≠ g) : (w.setRow g cs).heap[k]? = w.heap[k]? := by
  simp [World.setRow, Array.getElem?_modify, Ne.symm h]
theorem Kp.setRow {F : Nat → Prop} {a w : World} (h : Kp F a w) {g : Nat} (hg : g < a.heap.size → F g) (cs : Array Value) : Kp F a (w.setRow g cs) :=
  h.trans (G := fun k => k = g) ⟨rfl, rfl, rfl, by simp, fun k _ hne => setRow_other_blk cs hne⟩ (fun x hx e => by subst e; exact hg hx)
theorem getD_w32 {l : List Int} (h : Ws l) (i : Nat) : W32 (l.getD i 0) := by
  rw [List.getD_eq_getElem?_getD]
  cases e : l[i]? with
  | none => simp [W32]
  | some x => exact h x (List.mem_of_getElem? e)
end Go.Proofs.Ytleapcbkkggecaa
