/-
  Contracts of package sha: right, word, setWord, spread.
-/
import Derived.Test.YtoognhbdgdfkoaaDoorRows
import Derived.Test.YtoognhbdgdfkoaaDoorMem
import Derived.Test.YtoognhbdgdfkoaaDoorSp
import Derived.Test.YtoognhbdgdfkoaaDoorSq
import Derived.WalkKit
import Derived.ProofKit
import Derived.Outline
import Derived.Lib.Hide
import Derived.WalkLawsBesides
import Derived.WalkSpells
import Derived.Laws.Rows
import Derived.Laws.Tables
import Derived.Deep.MidRow
import Derived.Deep.DeepMust
import Derived.Deep.QuietTactic
import Derived.BigQuiet
import Derived.StillTailTactics
import Derived.IntWalk
namespace Go.Proofs.YtoognhbdgdfkoaaDoor
open Go.ChangeShapes Go.WideShapes Go.ChangeAt Go.RowKit

theorem turn_count (n : Int) (h0 : 1 ≤ n) (h1 : n ≤ 31) : bits .and .u64 (IntKind.u64.wrap (-n)) 31 = 32 - n := by
  have e : IntKind.u64.wrap (-n) = 18446744073709551616 - n := by simp [IntKind.wrap, IntKind.bits, IntKind.signed]; omega
  rw [e, u64_and _ _ (by omega) (by omega) (by omega) (by omega), show (31 : Int).toNat = 31 from rfl, nat_mask5]
  omega

set_option maxHeartbeats 400000 in
theorem rot_any (n x : Int) (hn0 : 1 ≤ n) (hn1 : n ≤ 31) (w : World) :
    Calls Tryd.prog 72 #[.int .u32 x, .int .i64 (-n)] w fun e w' => e = .returned (.int .u32 (rotr n x)) ∧ w = w' := by
  have ht := turn_count n hn0 hn1
  have e1 : min (32 - n).toNat IntKind.u32.bits = (32 - n).toNat := by simp [IntKind.bits]; omega
  have e2 : min n.toNat IntKind.u32.bits = n.toNat := by simp [IntKind.bits]; omega
  have e3 : (32 : Int) - (32 - n) = n := by omega
  go_enter Tryd.func72, Tryd.ntmps72
  go_wp2
  go_ret
  exact ⟨rfl, rfl⟩
set_option maxHeartbeats 400000 in
theorem right_any (n x : Int) (hn0 : 1 ≤ n) (hn1 : n ≤ 31) (w : World) :
    Calls Tryd.prog 70 #[.int .u32 x, .int .i64 n] w fun e w' => e = .returned (.int .u32 (rotr n x)) ∧ w = w' := by
  go_enter Tryd.func70, Tryd.ntmps70
  go_wp2_with (go_at_call 72; refine (rot_any _ _ hn0 hn1 _).mono ?_; rintro e w' ⟨rfl, rfl⟩)
  go_ret
  exact ⟨rfl, rfl⟩

theorem right_q (n x : Int) (hn0 : 1 ≤ n) (hn1 : n ≤ 31) (w : World) :
    Calls Tryd.prog 70 #[.int .u32 x, .int .i64 n] w fun e w' => e = .returned (.int .u32 (rotr n x)) ∧ w' = w :=
  (right_any n x hn0 hn1 w).mono fun _ _ h => ⟨h.1, h.2.symm⟩
theorem or_wd (a b c d : Int) (ha : 0 ≤ a ∧ a ≤ 255) (hb : 0 ≤ b ∧ b ≤ 255) (hc : 0 ≤ c ∧ c ≤ 255) (hd : 0 ≤ d ∧ d ≤ 255) :
    bits .or .u32 (bits .or .u32 (bits .or .u32 (a * 16777216) (b * 65536)) (c * 256)) d = wd a b c d := by
  obtain ⟨a, rfl⟩ := Int.eq_ofNat_of_zero_le ha.1
  obtain ⟨b, rfl⟩ := Int.eq_ofNat_of_zero_le hb.1
  obtain ⟨c, rfl⟩ := Int.eq_ofNat_of_zero_le hc.1
  obtain ⟨d, rfl⟩ := Int.eq_ofNat_of_zero_le hd.1
  have j1 : a * 16777216 ||| b * 65536 = a * 16777216 + b * 65536 := nat_join 24 _ _ (by omega) (by omega)
  have j2 : a * 16777216 + b * 65536 ||| c * 256 = a * 16777216 + b * 65536 + c * 256 := nat_join 16 _ _ (by omega) (by omega)
  have j3 : a * 16777216 + b * 65536 + c * 256 ||| d = a * 16777216 + b * 65536 + c * 256 + d := nat_join 8 _ _ (by omega) (by omega)
  rw [show (a : Int) * 16777216 = ((a * 16777216 : Nat) : Int) by omega, show (b : Int) * 65536 = ((b * 65536 : Nat) : Int) by omega, show (c : Int) * 256 = ((c * 256 : Nat) : Int) by omega,
    u32_or_nat _ _ (by omega) (by omega), j1, u32_or_nat _ _ (by omega) (by omega), j2, u32_or_nat _ _ (by omega) (by omega), j3]
  unfold wd; omega

set_option maxHeartbeats 400000 in
theorem word_any (a b c d : Int) (ha : 0 ≤ a ∧ a ≤ 255) (hb : 0 ≤ b ∧ b ≤ 255) (hc : 0 ≤ c ∧ c ≤ 255) (hd : 0 ≤ d ∧ d ≤ 255) (g o n cp : Nat) (hn : 4 ≤ n) (w : World)
    (h0 : w.cell? ⟨g, o, none⟩ = some (.int .u8 a)) (h1 : w.cell? ⟨g, o + 1, none⟩ = some (.int .u8 b)) (h2 : w.cell? ⟨g, o + 2, none⟩ = some (.int .u8 c)) (h3 : w.cell? ⟨g, o + 3, none⟩ = some (.int .u8 d)) :
    Calls Tryd.prog 71 #[.slice (some ⟨g, o, none⟩) n cp] w fun e w' => e = .returned (.int .u32 (wd a b c d)) ∧ ∃ n, w' = w.drewN n := by
  have HO := Lib.hid (or_wd a b c d ha hb hc hd)
  obtain ⟨ha0, ha1⟩ := ha
  obtain ⟨hb0, hb1⟩ := hb
  obtain ⟨hc0, hc1⟩ := hc
  obtain ⟨hd0, hd1⟩ := hd
  have k1 : (1 : Int) < n := by omega
  have k0 : (0 : Int) < n := by omega
  have k2 : (2 : Int) < n := by omega
  have k3 : (3 : Int) < n := by omega
  go_enter Tryd.func71, Tryd.ntmps71
  go_wp2
  go_quiet (fail)
  go_wp2
  go_ret
  exact ⟨by rw [HO.out]; rfl, _, rfl⟩

set_option maxHeartbeats 400000 in
theorem setWord_any (g t : Nat) (pre mid post : List Value) (n cp : Nat) (x : Int) (hx : W32 x) (hn : 4 ≤ n) (w : World) (hm : mid.length = 4)
    (hg : w.heap[g]? = some (.cells (pre ++ mid ++ post).toArray t (0, 0))) :
    Calls Tryd.prog 64 #[.slice (some ⟨g, pre.length, none⟩) n cp, .int .u32 x] w fun e w' => e = .returned (.tuple #[]) ∧ w'.heap[g]? = some (.cells (pre ++ U8s (w4 x) ++ post).toArray t (0, 0)) ∧ Kp (fun y => y = g) w w' ∧ w'.heap.size = w.heap.size := by
  obtain ⟨h0, h1⟩ := hx
  have k1 : (1 : Int) < n := by omega
  have k0 : (0 : Int) < n := by omega
  have k2 : (2 : Int) < n := by omega
  have k3 : (3 : Int) < n := by omega
  obtain ⟨m0, m1, m2, m3, rfl⟩ : ∃ m0 m1 m2 m3, mid = [m0, m1, m2, m3] := by
    match mid, hm with
    | [m0, m1, m2, m3], _ => exact ⟨m0, m1, m2, m3, rfl⟩
  have c0 : w.cell? ⟨g, pre.length, none⟩ = some m0 := by rw [cell_blk hg]; simp
  have c1 : w.cell? ⟨g, pre.length + 1, none⟩ = some m1 := by rw [cell_blk hg]; simp
  have c2 : w.cell? ⟨g, pre.length + 2, none⟩ = some m2 := by rw [cell_blk hg]; simp
  have c3 : w.cell? ⟨g, pre.length + 3, none⟩ = some m3 := by rw [cell_blk hg]; simp
  have f0 := free_blk hg pre.length
  have f1 := free_blk hg (pre.length + 1)
  have f2 := free_blk hg (pre.length + 2)
  have f3 := free_blk hg (pre.length + 3)
  have hs := setCells_blk g t (U8s (w4 x)) pre [m0, m1, m2, m3] post w hg rfl
  have HS := Lib.hid hs
  clear hg hs hm
  go_enter Tryd.func64, Tryd.ntmps64
  go_wp2
  go_end0
  refine ⟨rfl, ?_⟩
  exact HS.out

/-- four cells of a row set anew -/
def put4 (l : List Int) (o : Nat) (x : Int) : List Int := l.take o ++ w4 x ++ l.drop (o + 4)
theorem put4_length (l : List Int) (o : Nat) (x : Int) (h : o + 4 ≤ l.length) : (put4 l o x).length = l.length := by
  simp [put4, w4]; omega
theorem put4_rng {l : List Int} (h : Rng l) (o : Nat) {x : Int} (hx : W32 x) : Rng (put4 l o x) := by
  intro y hy
  obtain ⟨h0, h1⟩ := hx
  rcases List.mem_append.1 hy with h2 | h2
  · rcases List.mem_append.1 h2 with h3 | h3
    · exact h y (List.mem_of_mem_take h3)
    · simp only [w4, List.mem_cons, List.not_mem_nil, or_false] at h3
      rcases h3 with h3 | h3 | h3 | h3 <;> subst h3 <;> omega
  · exact h y (List.mem_of_mem_drop h2)
theorem setWord_at (g t : Nat) (l : List Int) (o n cp : Nat) (x : Int) (hx : W32 x) (ho : o + 4 ≤ l.length) (hn : 4 ≤ n) (w : World)
    (hg : w.heap[g]? = some (.cells (U8s l).toArray t (0, 0))) :
    Calls Tryd.prog 64 #[.slice (some ⟨g, o, none⟩) n cp, .int .u32 x] w fun e w' => e = .returned (.tuple #[]) ∧ w'.heap[g]? = some (.cells (U8s (put4 l o x)).toArray t (0, 0)) ∧ Kp (fun y => y = g) w w' ∧ w'.heap.size = w.heap.size := by
  have e1 : U8s l = U8s (l.take o) ++ U8s ((l.drop o).take 4) ++ U8s (l.drop (o + 4)) := by
    rw [← U8s_append, ← U8s_append]
    congr 1
    rw [List.append_assoc, ← List.drop_drop, List.take_append_drop, List.take_append_drop]
  have hl : (U8s (l.take o)).length = o := by rw [U8s_length, List.length_take]; omega
  rw [e1] at hg
  have h := setWord_any g t (U8s (l.take o)) (U8s ((l.drop o).take 4)) (U8s (l.drop (o + 4))) n cp x hx hn w (by rw [U8s_length, List.length_take, List.length_drop]; omega) hg
  rw [hl] at h
  refine h.mono fun e w' ⟨h1, h2, h3, h4⟩ => ⟨h1, ?_, h3, h4⟩
  rw [h2, put4, U8s_append, U8s_append]
def U32s (xs : List Int) : List Value := xs.map (.int .u32)
theorem U32s_length (xs : List Int) : (U32s xs).length = xs.length := by simp [U32s]
theorem U32s_append (xs ys : List Int) : U32s (xs ++ ys) = U32s xs ++ U32s ys := by simp [U32s]
theorem U32s_get (xs : List Int) (i : Nat) (h : i < xs.length) : (U32s xs).toArray[i]? = some (.int .u32 (xs.getD i 0)) := by
  simp [U32s, h]
theorem U32s_one (xs : List Int) : (U32s xs).toArray.all (·.oneCell') = true :=
  all_oneCell_toArray (fun v hv => by obtain ⟨_, _, rfl⟩ := List.mem_map.1 hv; rfl)

/-- a part of an array that a pointer tells, from l on -/
theorem slice_from {t e : TypeId} {n : Nat} (hu : Tryd.prog.underlying t = some (.array n e)) (hq : (Tryd.prog.info? e).map (·.size) = some 1) (g o l : Nat) (L : Int) (hL : L = l) (hl : l < n) (w : World) :
    (Instr.sliceAt t (.pointer (some ⟨g, o, none⟩)) (some (.int .i64 L)) none none).run Tryd.prog w = .ok (.slice (some ⟨g, o + l, none⟩) (n - l) (n - l)) w := by
  subst hL
  obtain ⟨i, hi, hs⟩ := Option.map_eq_some_iff.1 hq
  have he : Tryd.prog.elem t = e := by simp [Program.elem, hu]
  have ha : Tryd.prog.arrayLen t = n := by simp [Program.arrayLen, hu]
  rw [run_sliceAt_array_l w t ⟨g, o, none⟩ (by rw [ha, hu, he]) .i64 l (by omega) (by omega), he, ha]
  simp [sizeOf, typeInfo, hi, hs, slicedAt, Nat.ne_of_gt hl, Addr.add_mid]
/-- a region of reads ahead of its last operations, the world under its name -/
theorem wp_tail {P : Program} {id : Nat} {Q : Exit → Act → World → Prop} {a : Act} {w : World} {l : List Oper} (n : Nat) (hm : P.follows .mixedOrders = true) (hB : Region.lexTailB .any l.toArray n = true)
    (h : wpStill P l.toArray w.drew (fun a' => wpList P l.toArray Q (l.drop n) a' w.drew) (l.take n) a) : (Code.region id l.toArray true).wp P Q a w :=
  wp_region_still_tail n hm hB h
/-- 64 words in a block of the call's own: those of l stand; another block waits for all -/
structure SpRel (w : World) (l : List Int) (wr : World) : Prop where
  kp : Kp (fun _ => False) w wr
  out : ∃ old, wr.heap[w.heap.size]? = some (.cells old 87 (0, 0)) ∧ old.size = 64
  row : ∃ r, wr.heap[w.heap.size + 1]? = some (.cells (U32s (l ++ r)).toArray 87 (0, 0)) ∧ (l ++ r).length = 64
theorem SpRel.drewN {w wr : World} {l : List Int} (h : SpRel w l wr) (n : Nat) : SpRel w l (wr.drewN n) := ⟨h.kp.drewN n, h.out, h.row⟩
theorem SpRel.cells {w wr : World} {l : List Int} (h : SpRel w l wr) : (∀ i, i < l.length → wr.cell? ⟨w.heap.size + 1, i, none⟩ = some (.int .u32 (l.getD i 0))) ∧ (∀ i, i < 64 → ∃ v, wr.cell? ⟨w.heap.size + 1, i, none⟩ = some v) ∧ (∀ i, wr.frozen? ⟨w.heap.size + 1, i, none⟩ = false) := by
  obtain ⟨r, hr, hl⟩ := h.row
  refine ⟨fun i hi => ?_, fun i hi => ?_, fun i => free_blk hr i⟩
  · rw [cell_blk hr, U32s_get _ _ (by rw [List.length_append]; omega)]; congr 2; simp [List.getElem?_append_left hi]
  · rw [cell_blk hr, U32s_get _ _ (by omega)]; exact ⟨_, rfl⟩
theorem SpRel.set {w wr : World} {l : List Int} (h : SpRel w l wr) (hl : l.length < 64) (x : Int) : SpRel w (l ++ [x]) (wr.setCell ⟨w.heap.size + 1, l.length, none⟩ (.int .u32 x)) := by
  obtain ⟨r, hr, hn⟩ := h.row
  obtain ⟨old, ho, hz⟩ := h.out
  obtain ⟨y, r', rfl⟩ : ∃ y r', r = y :: r' := by
    cases r with
    | nil => simp at hn; omega
    | cons y r' => exact ⟨y, r', rfl⟩
  refine ⟨h.kp.setCell (fun hlt => absurd hlt (by simp)) _, ⟨old, ?_, hz⟩, ⟨r', ?_, by simp at hn ⊢; omega⟩⟩
  · rw [other_blk ho (by simp)]
  · rw [set_blk hr]; congr 2; apply Array.ext'; simp [U32s]
theorem sp_start (w : World) : SpRel w [] ((w.alloc (.cells (Array.replicate 64 (.int .u32 0)) 87)).alloc (.cells (Array.replicate 64 (.int .u32 0)) 87)) :=
  ⟨((Kp.refl _ w).alloc _).alloc _, ⟨_, old_blk (new_blk _ _) _, by simp⟩, ⟨List.replicate 64 0, by
    have := new_blk (w.alloc (.cells (Array.replicate 64 (.int .u32 0)) 87)) (.cells (Array.replicate 64 (.int .u32 0)) 87)
    rw [World.size_alloc] at this
    rw [this]; congr 2, by simp⟩⟩

theorem setRow_blk {w : World} {g t : Nat} {old cs : Array Value} {fr : Nat × Nat} (h : w.heap[g]? = some (.cells old t fr)) : (w.setRow g cs).heap[g]? = some (.cells cs t fr) := by
  simp [World.setRow, Array.getElem?_modify, h]
theorem setRow_other_blk {w : World} {g k : Nat} (cs : Array Value) (h : k ≠ g) : (w.setRow g cs).heap[k]? = w.heap[k]? := by
  simp [World.setRow, Array.getElem?_modify, Ne.symm h]
theorem Kp.setRow {F : Nat → Prop} {a w : World} (h : Kp F a w) {g : Nat} (hg : g < a.heap.size → F g) (cs : Array Value) : Kp F a (w.setRow g cs) :=
  h.trans (G := fun k => k = g) ⟨rfl, rfl, rfl, by simp, fun k _ hne => setRow_other_blk cs hne⟩ (fun x hx e => by subst e; exact hg hx)
theorem info64 (l : List Int) (h : l.length = 64) : (Tryd.prog.info? 87).map (·.size) = some (U32s l).toArray.size := by
  rw [List.size_toArray, U32s_length, h]; kernel_rfl
theorem getD_w32 {l : List Int} (h : Ws l) (i : Nat) : W32 (l.getD i 0) := by
  rw [List.getD_eq_getElem?_getD]
  cases e : l[i]? with
  | none => simp [W32]
  | some x => exact h x (List.mem_of_getElem? e)
set_option maxRecDepth 100000 in
set_option maxHeartbeats 800000 in
theorem spread_any (bs : List Int) (hb : ∀ x ∈ bs, 0 ≤ x ∧ x ≤ 255) (p o : Nat) (w : World) (hc : ∀ i, i < 64 → w.cell? ⟨p, o + i, none⟩ = some (.int .u8 (bs.getD i 0))) :
    Calls Tryd.prog 69 #[.pointer (some ⟨p, o, none⟩)] w fun e w' => e = .returned (.agg (U32s (sched bs)).toArray) ∧ Kp (fun _ => False) w w' := by
  have HS := Lib.hid (sp_start w)
  have HC := Lib.hid hc
  clear hc
  go_enter Tryd.func69, Tryd.ntmps69
  go_wp2
  go_loopw [4, 10] (fun _ i wr => ∃ k : Nat, k ≤ 16 ∧ i = .int .i64 k ∧ SpRel w (wds bs k) wr) (fun _ i _ => 16 - (intOf i).toNat)
  case atStart => exact ⟨0, by omega, rfl, HS.out⟩
  case round =>
    obtain ⟨k, hk, rfl, hr⟩ := hrel
    by_cases hlt : k < 16
    · have hsl := slice_from (t := 83) Tryd.underlying83 (by kernel_rfl) p o (4 * k) (4 * (k : Int)) (by omega) (by omega)
      have hd : decide ((k : Int) < 16) = true := by simp; omega
      have hcell : ∀ j, j < 64 → wr.cell? ⟨p, o + j, none⟩ = some (.int .u8 (bs.getD j 0)) := fun j hj => by
        have h1 := HC.out j hj
        rw [hr.kp.cell (lt_of_cell h1) (fun f => f)]; exact h1
      have hwd := fun W (hW : ∃ n, W = wr.drewN n) => hW.elim fun n e => (e ▸ (hr.drewN n).set (by rw [wds_length]; omega) (wd (bs.getD (4 * k) 0) (bs.getD (4 * k + 1) 0) (bs.getD (4 * k + 2) 0) (bs.getD (4 * k + 3) 0)) : SpRel w (wds bs (k + 1)) (W.setCell ⟨w.heap.size + 1, (wds bs k).length, none⟩ _))
      rw [wds_length] at hwd
      have HW := Lib.hid hwd
      have HWC := Lib.hid (word_any (bs.getD (4 * k) 0) (bs.getD (4 * k + 1) 0) (bs.getD (4 * k + 2) 0) (bs.getD (4 * k + 3) 0) (getD_byte hb _) (getD_byte hb _) (getD_byte hb _) (getD_byte hb _) p (o + 4 * k) (64 - 4 * k) (64 - 4 * k) (by omega) wr (hcell _ (by omega)) (hcell (4 * k + 1) (by omega)) (hcell (4 * k + 2) (by omega)) (hcell (4 * k + 3) (by omega)))
      obtain ⟨v, hv⟩ := hr.cells.2.1 k (by omega)
      have hf := hr.cells.2.2 k
      clear hcell hwd
      go_wp2_with fail
      refine HWC.out.mono ?_
      rintro e w1 ⟨rfl, n1, rfl⟩
      go_wp2_with fail
      go_roundw
      case rel => exact ⟨k + 1, by omega, by go_num, HW.out _ ⟨_, rfl⟩⟩
      case measure => simp [intOf]; omega
    · obtain rfl : k = 16 := by omega
      rw [show ((16 : Nat) : Int) = 16 from rfl]
      go_wp2_with fail
      clear hlt hk
      go_loopw [5, 6, 7, 8, 9] (fun j _ _ _ _ wr => ∃ n : Nat, n ≤ 48 ∧ j = .int .i64 (n + 16) ∧ SpRel w (ext bs n) wr) (fun j _ _ _ _ _ => 64 - (intOf j).toNat)
      case atStart => exact ⟨0, by omega, rfl, hr⟩
      case round =>
        clear hr
        rename_i wo _
        obtain ⟨n, hn, rfl, hr⟩ := hrel
        by_cases hlt : n < 48
        · obtain ⟨hc, hv, hf⟩ := hr.cells
          rw [ext_length] at hc
          have x15 := hc (n + 1) (by omega)
          have x2 := hc (n + 14) (by omega)
          have x7 := hc (n + 9) (by omega)
          have x16 := hc n (by omega)
          obtain ⟨v, hv⟩ := hv (n + 16) (by omega)
          have hf := hf (n + 16)
          obtain ⟨b15, c15⟩ := getD_w32 (ext_w32 hb n) (n + 1)
          obtain ⟨b2, c2⟩ := getD_w32 (ext_w32 hb n) (n + 14)
          clear hc
          go_wp2_with fail
          go_quiet (fail)
          go_wp2_with (go_at_call 70; refine (right_any _ _ (by omega) (by omega) _).mono ?_; rintro e w' ⟨rfl, rfl⟩)
          have hx : ∀ m, SpRel w (ext bs (n + 1)) ((wr.drewN m).setCell ⟨w.heap.size + 1, n + 16, none⟩ (.int .u32 (nxt (ext bs n) (n + 16)))) := fun m => by
            have := (hr.drewN m).set (by rw [ext_length]; omega) (nxt (ext bs n) (n + 16))
            rw [ext_length, Nat.add_comm 16 n] at this
            exact this
          have HX := Lib.hid hx
          clear hx
          have e7 : IntKind.i64.wrap ((n : Int) + 16 - 7) = n + 9 := by rw [IntWalk.i64_in _ (by omega)]; omega
          have e16 : IntKind.i64.wrap (n : Int) = n := by rw [IntWalk.i64_in _ (by omega)]
          have e17 : IntKind.i64.wrap ((n : Int) + 16) = n + 16 := by rw [IntWalk.i64_in _ (by omega)]
          have p0 : (0 : Int) ≤ n := by omega
          have p7 : (0 : Int) ≤ (n : Int) + 9 := by omega
          have p7' : (n : Int) + 9 < 64 := by omega
          have p7n : ((n : Int) + 9).toNat = n + 9 := by omega
          have p16 : (0 : Int) ≤ (n : Int) + 16 := by omega
          have p16' : (n : Int) + 16 < 64 := by omega
          have p0' : (n : Int) < 64 := by omega
          have p16n : ((n : Int) + 16).toNat = n + 16 := by omega
          refine wp_tail 15 (by kernel_rfl) (by kernel_rfl) ?_
          simp only [List.take_succ_cons, List.take_zero, List.drop_succ_cons, List.drop_zero, World.drew_drewN]
          repeat still_step
          refine wpStill_nil ?_
          clear e7 e16 e17 p7n p16n
          go_wp2
          go_roundw
          case rel => exact ⟨n + 1, by omega, by go_num, HX.out _⟩
          case measure => simp [intOf]; omega
        · obtain rfl : n = 48 := by omega
          rw [show ((48 : Nat) : Int) = 48 from rfl]
          obtain ⟨old, ho, hz⟩ := hr.out
          obtain ⟨r, hw, hl⟩ := hr.row
          obtain rfl : r = [] := by
            rw [List.length_append, ext_length] at hl
            exact List.eq_nil_of_length_eq_zero (by omega)
          rw [List.append_nil] at hw hl
          have HW := Lib.hid hw
          have HO := Lib.hid ho
          have HZ := Lib.hid hz
          have HL := Lib.hid hl
          clear hw ho hz hl HS HC
          go_wp2_with (first
            | (refine wpList_load_row rfl 87 _ rfl (w.heap.size + 1) rfl 87 _ (0, 0) _ HW.out Tryd.underlying87 rfl (info64 _ HL.out) ?_)
            | (refine wpList_store_row rfl 87 _ _ rfl w.heap.size _ rfl rfl 87 _ HO.out (info64 _ HL.out) (by rw [HZ.out]; simp [U32s_length, HL.out]) (U32s_one _) ?_))
          refine bodyPost_ret (v := .agg (U32s (ext bs 48)).toArray) (results_cell_row Tryd.results69 _ _ w.heap.size 87 _ (0, 0) _ rfl (setRow_blk HO.out) Tryd.underlying87 rfl (info64 _ HL.out)) rfl ⟨rfl, ?_⟩
          exact hr.kp.setRow (by simp) _
end Go.Proofs.YtoognhbdgdfkoaaDoor
