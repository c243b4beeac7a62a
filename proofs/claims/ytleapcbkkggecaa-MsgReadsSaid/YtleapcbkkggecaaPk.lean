/-
  Contracts of package pack's packer: setNumber, room, and what puts something.
-/
import Derived.Test.YtleapcbkkggecaaRows
import Derived.Test.YtleapcbkkggecaaMem
import Derived.WalkKit
import Derived.ProofKit
import Derived.Outline
import Derived.Lib.Hide
import Derived.Lib.AppendZerosOnto
import Derived.WalkLawsBesides
import Derived.WalkSpells
import Derived.Deep.DeepMust
import Derived.Test.YtleapcbkkggecaaAp
namespace Go.Proofs.Ytleapcbkkggecaa
open Go.ChangeShapes Go.WideShapes Go.ChangeAt Go.RowKit

/-- behind k rounds of setNumber -/
def SetRel (w : World) (g : Nat) (pre mid post : List Value) (v : Int) (k j : Nat) (wr : World) : Prop :=
  wr.heap[g]? = some (.cells (pre ++ mid.take j ++ U8s (be k v) ++ post).toArray 5 (0, 0)) ∧ Kp (fun x => x = g) w wr ∧ wr.heap.size = w.heap.size
def SetPost (w : World) (g : Nat) (pre : List Value) (n : Nat) (v : Int) (post : List Value) (e : Ending) (w' : World) : Prop :=
  e = .returned (.tuple #[]) ∧ w'.heap[g]? = some (.cells (pre ++ U8s (be n v) ++ post).toArray 5 (0, 0)) ∧ Kp (fun x => x = g) w w' ∧ w'.heap.size = w.heap.size

theorem div_pow (v : Int) (k : Nat) : v / 256 ^ k / 256 = v / 256 ^ (k + 1) := by
  rw [Int.ediv_ediv_of_nonneg (Int.pow_nonneg (by omega)), ← Int.pow_succ]
theorem div_pow_bd {v : Int} (h0 : 0 ≤ v) (hv : v ≤ 18446744073709551615) (k : Nat) : 0 ≤ v / 256 ^ k ∧ v / 256 ^ k ≤ 18446744073709551615 :=
  ⟨Int.ediv_nonneg h0 (Int.pow_nonneg (by omega)), Int.le_trans (Int.ediv_le_self _ h0) hv⟩

set_option maxHeartbeats 400000 in
theorem setNumber_any (g n c : Nat) (pre mid post : List Value) (v : Int) (h0 : 0 ≤ v) (hv : v ≤ 18446744073709551615) (w : World) (hmid : mid.length = n) (hn : n ≤ 9000)
    (hg : w.heap[g]? = some (.cells (pre ++ mid ++ post).toArray 5 (0, 0))) :
    Calls Try.prog 50 #[.slice (some ⟨g, pre.length, none⟩) n c, .int .u64 v] w (SetPost w g pre n v post) := by
  have hstart : SetRel w g pre mid post v 0 n w := by
    refine ⟨?_, Kp.refl _ _, rfl⟩
    rw [hg, List.take_of_length_le (by omega)]; simp [U8s, be]
  have HV := Lib.hid hv
  clear hg hv
  go_enter Try.func50, Try.ntmps50
  go_wp2
  go_loopw [4, 1] (fun i y wr => ∃ (k : Nat) (j : Nat) (x : Int), k + j = n ∧ i = .int .i64 ((j : Int) - 1) ∧ y = .int .u64 x ∧ Hid (x = v / 256 ^ k) ∧ SetRel w g pre mid post v k j wr) (fun i _ _ => (intOf i + 1).toNat)
  case atStart => exact ⟨0, n, v, by omega, rfl, rfl, Lib.hid (by simp), hstart⟩
  case round =>
    obtain ⟨k, j, x, hkj, rfl, rfl, hx, hr⟩ := hrel
    have hxb := div_pow_bd h0 HV.out k
    rw [← hx.out] at hxb
    obtain ⟨hx0, hx1⟩ := hxb
    by_cases hj : 1 ≤ j
    · obtain ⟨i, rfl⟩ : ∃ i, j = i + 1 := ⟨j - 1, by omega⟩
      have hlen : (mid.take (i + 1)).length = i + 1 := by rw [List.length_take]; omega
      obtain ⟨u, hu⟩ := get_mid pre (mid.take (i + 1)) (U8s (be k v)) post i hlen
      have hc : wr.cell? ⟨g, pre.length + i, none⟩ = some u := by rw [cell_blk hr.1, hu]
      have hf : wr.frozen? ⟨g, pre.length + i, none⟩ = false := free_blk hr.1 _
      have hnext : SetRel w g pre mid post v (k + 1) i (wr.setCell ⟨g, pre.length + i, none⟩ (.int .u8 (x % 256))) := by
        refine ⟨?_, hr.2.1.setCell (fun _ => rfl) _, by rw [World.size_setCell]; exact hr.2.2⟩
        rw [set_blk hr.1, set_mid _ _ _ _ _ _ hlen, List.take_take, show min i (i + 1) = i by omega, hx.out]
        rfl
      have hxn : Hid (x / 256 = v / 256 ^ (k + 1)) := Lib.hid (by rw [hx.out, div_pow])
      clear hu hlen hr
      go_wp2
      go_roundw
      case rel => exact ⟨k + 1, i, x / 256, by omega, rfl, rfl, hxn, hnext⟩
      case measure => simp [intOf]
    · obtain rfl : j = 0 := by omega
      obtain rfl : k = n := by omega
      obtain ⟨r1, r2, r3⟩ := hr
      have R1 := Lib.hid r1
      clear r1
      go_wp2
      go_end0
      exact ⟨rfl, by rw [R1.out]; simp, r2, r3⟩

/-! ### the growing of a slice -/
set_option maxHeartbeats 400000 in
theorem grow_room (base : Option Addr) (l c n : Nat) (w : World) (hlc : l ≤ c) (hc63 : c ≤ 9223372036854775807) (hn63 : n ≤ 1000000) (hroom : l + n ≤ c) :
    Calls Try.prog 58 #[.slice base l c, .int .i64 n] w fun e w' => e = .returned (.slice base l c) ∧ w = w' := by
  have h4 : ¬ (0 < (n : Int) - ((c : Int) - (l : Int))) := by omega
  go_enter Try.func58, Try.ntmps58
  go_wp2
  go_ret
  exact ⟨rfl, rfl⟩

/-- a new row: what stood there, then anything -/
def Grew (w : World) (l n : Nat) (cs : List Value) (e : Ending) (w' : World) : Prop :=
  ∃ (G : Nat) (rest : List Value), e = .returned (.slice (some ⟨w.heap.size, 0, none⟩) l G) ∧ w'.heap[w.heap.size]? = some (.cells (cs ++ rest).toArray 5 (0, 0)) ∧ l + n ≤ G ∧ G ≤ maxLen ∧ (cs ++ rest).length = G ∧ Kp (fun _ => False) w w' ∧ w'.heap.size = w.heap.size + 1

set_option maxHeartbeats 1000000 in
theorem grow_grow (base : Option Addr) (l c n : Nat) (cs : List Value) (w : World) (hlc : l ≤ c) (hroom : c < l + n) (hbig : l + n ≤ 1000000)
    (hcl : cs.length = c) (hnil : base = none → c = 0) (hcs : ∀ a, base = some a → ∀ j v, cs[j]? = some v → w.cell? (a.add j) = some v) :
    Calls Try.prog 58 #[.slice base l c, .int .i64 n] w (Grew w l n cs) := by
  obtain ⟨i0, hi0, hz0, hs0, hb0⟩ := info_parts byteInfo
  have h4 : (0 : Int) < (n : Int) - ((c : Int) - (l : Int)) := by omega
  have hck : c + (l + n - c) = l + n := by omega
  have hold : (Builtin.firstCells i0.size c (.slice base c c)).run Try.prog w.drew = .ok cs.toArray w.drew := by
    cases base with
    | none =>
      have h0 := hnil rfl
      subst h0
      have hc0 : cs = [] := List.length_eq_zero_iff.1 hcl
      rw [hc0]
      exact run_firstCells_none w.drew i0.size 0 0 0
    | some a => exact run_firstCells_some w.drew i0.size c a c c cs (by rw [hs0, hcl, Nat.mul_one]) (fun j v hj => hcs a rfl j v hj)
  have hrz : ∀ ty, (Builtin.append_ #[29, 3] ty #[.slice base c c, .int .i64 ((n : Int) - ((c : Int) - (l : Int)))]).run Try.prog w =
      .ok (.slice (some ⟨w.heap.size, 0, none⟩) (l + n) (grownCap w (l + n) c 5)) (w.drew.alloc (.cells (cs.toArray ++ Builtin.zeroCells (Value.int .u8 0).cells (l + n - c) ++ Builtin.zeroCells (Value.int .u8 0).cells (grownCap w (l + n) c 5 - (l + n))) 5)) := fun ty => by
    have h := Lib.run_append_grow_zeros w 29 3 ty 5 i0 (.int .u8 0) .i64 .i64 Try.underlying29 Try.underlying3 hi0 hz0 base c c cs hold (l + n - c) (by omega) (by omega) (by omega) (by omega)
      (by rw [hb0]; omega)
      (by rw [hck]; exact growslice_fits hroom (by rw [hb0]; omega))
    rw [hck] at h
    rw [show (n : Int) - ((c : Int) - (l : Int)) = ((l + n - c : Nat) : Int) by omega]
    exact h
  have hGn : l + n ≤ grownCap w (l + n) c 5 := grownCap_ge w _ _ _
  have hG63 := grownCap_le_maxLen w (l + n) c 5 (by unfold maxLen; omega)
  obtain ⟨G, hG⟩ : ∃ G, G = grownCap w (l + n) c 5 := ⟨_, rfl⟩
  rw [← hG] at hrz hGn hG63
  have hz1 : (Value.int .u8 0).cells.size = 1 := rfl
  obtain ⟨Z, hZ⟩ : ∃ Z, Z = Builtin.zeroCells (Value.int .u8 0).cells (l + n - c) ++ Builtin.zeroCells (Value.int .u8 0).cells (G - (l + n)) := ⟨_, rfl⟩
  have hZn : Z.size = G - c := by rw [hZ, Array.size_append, size_zeroCells, size_zeroCells, hz1]; omega
  have hrz' : ∀ ty, (Builtin.append_ #[29, 3] ty #[.slice base c c, .int .i64 ((n : Int) - ((c : Int) - (l : Int)))]).run Try.prog w =
      .ok (.slice (some ⟨w.heap.size, 0, none⟩) (l + n) G) (w.drew.alloc (.cells (cs ++ Z.toList).toArray 5)) := fun ty => by
    rw [hrz ty, Array.append_assoc, ← hZ]
    congr 3
    apply Array.ext'; simp
  have hfin : Grew w l n cs (.returned (.slice (some ⟨w.heap.size, 0, none⟩) l G)) (w.drew.alloc (.cells (cs ++ Z.toList).toArray 5)) := by
    refine ⟨G, Z.toList, rfl, new_blk w.drew _, hGn, hG63, by simp [hcl, hZn]; omega, (Kp.refl _ _).drew.alloc _, by simp⟩
  have hG64 : G ≤ 9223372036854775807 := by unfold maxLen at hG63; omega
  clear hold hck hG hcs hcl hz1 hZ hZn hrz hG63
  have HF := Lib.hid hfin
  clear hfin
  go_enter Try.func58, Try.ntmps58
  cases base with
  | none =>
    have h0 := hnil rfl
    subst h0
    obtain rfl : l = 0 := by omega
    go_wp2_with (at_builtin; refine Lib.wpList_append_run _ rfl _ _ _ _ rfl _ _ rfl rfl _ _ (hrz' _) ?_)
    all_goals (go_ret; exact HF.out)
  | some a =>
    obtain ⟨ab, ao, asp⟩ := a
    go_wp2_with (at_builtin; refine Lib.wpList_append_run _ rfl _ _ _ _ rfl _ _ rfl rfl _ _ (hrz' _) ?_)
    all_goals (go_ret; exact HF.out)

/-! ### a packer in memory -/
structure PK (w : World) (B p : Nat) (v : Value) (lim : Int) (l : List Int) (e : Int) : Prop where
  cell : w.heap[p]? = some (.cells #[.bool true, .int .i64 lim, v, .int .i64 e] 84 (0, 0))
  own : OwnB w B v l
  ne : v.ownBlock ≠ some p
  base : B ≤ p
  lims : e = 0 → 0 ≤ lim ∧ lim ≤ 8192 ∧ (l.length : Int) ≤ lim
/-- the blocks of a packer -/
def PF (p : Nat) (v : Value) : Nat → Prop := fun k => k = p ∨ v.ownBlock = some k
/-- behind a call of a packer's -/
def PPost (w : World) (B p : Nat) (v : Value) (lim : Int) (r : List Int × Int) (w' : World) : Prop :=
  ∃ v', PK w' B p v' lim r.1 r.2 ∧ Kp (PF p v) w w' ∧ (v'.ownBlock = v.ownBlock ∨ ∀ g, v'.ownBlock = some g → w.heap.size ≤ g)
/-- what is put behind what there is -/
def putS (lim : Int) (l : List Int) (e : Int) (x : List Int) : List Int × Int :=
  if e = 0 then (if (l.length : Int) + x.length ≤ lim then (l ++ x, 0) else (l, 10)) else (l, e)

theorem PK.cells {w : World} {B p : Nat} {v : Value} {lim : Int} {l : List Int} {e : Int} (h : PK w B p v lim l e) :
    w.cell? ⟨p, 0, none⟩ = some (.bool true) ∧ w.cell? ⟨p, 1, none⟩ = some (.int .i64 lim) ∧ w.cell? ⟨p, 2, none⟩ = some v ∧ w.cell? ⟨p, 3, none⟩ = some (.int .i64 e) ∧ (∀ i, w.frozen? ⟨p, i, none⟩ = false) :=
  ⟨by rw [cell_blk h.cell]; rfl, by rw [cell_blk h.cell]; rfl, by rw [cell_blk h.cell]; rfl, by rw [cell_blk h.cell]; rfl, fun i => free_blk h.cell i⟩

def RoomFit (w : World) (B p : Nat) (v : Value) (lim : Int) (l : List Int) (n : Nat) (e : Ending) (w' : World) : Prop :=
  ∃ g cap mid post, e = .returned (.slice (some ⟨g, l.length, none⟩) n (cap - l.length)) ∧
    w'.heap[p]? = some (.cells #[.bool true, .int .i64 lim, .slice (some ⟨g, 0, none⟩) (l.length + n) cap, .int .i64 0] 84 (0, 0)) ∧
    w'.heap[g]? = some (.cells (U8s l ++ mid ++ post).toArray 5 (0, 0)) ∧ mid.length = n ∧ (U8s l ++ mid ++ post).length = cap ∧ cap ≤ maxLen ∧ g ≠ p ∧ B ≤ g ∧ (v.ownBlock = some g ∨ w.heap.size ≤ g) ∧ Kp (PF p v) w w'

set_option maxHeartbeats 400000 in
theorem room_err (n : Int) {w : World} {B p : Nat} {v : Value} {lim : Int} {l : List Int} {e : Int} (h : PK w B p v lim l e) (he : e ≠ 0) :
    Calls Try.prog 51 #[.pointer (some ⟨p, 0, none⟩), .int .i64 n] w fun e w' => e = .returned (.slice none 0 0) ∧ w = w' := by
  obtain ⟨c0, c1, c2, c3, _⟩ := h.cells
  have hb : (e != 0) = true := by simpa using he
  clear h
  go_enter Try.func51, Try.ntmps51
  go_wp2
  go_ret
  exact ⟨rfl, rfl⟩

theorem PK.setErr {w : World} {B p : Nat} {v : Value} {lim : Int} {l : List Int} {e : Int} (h : PK w B p v lim l e) (x : Int) (hx : x ≠ 0) :
    PPost w B p v lim (l, x) (w.setCell ⟨p, 3, none⟩ (.int .i64 x)) := by
  have k : Kp (PF p v) w (w.setCell ⟨p, 3, none⟩ (.int .i64 x)) := (Kp.refl _ _).setCell (fun _ => .inl rfl) _
  refine ⟨v, ⟨?_, ?_, h.ne, h.base, fun h0 => absurd h0 hx⟩, k, .inl rfl⟩
  · rw [set_blk h.cell]; rfl
  · have k' : Kp (fun k => k = p) w (w.setCell ⟨p, 3, none⟩ (.int .i64 x)) := Kp.setCell (F := fun k => k = p) (Kp.refl _ w) (p := ⟨p, 3, none⟩) (fun _ => rfl) _
    exact h.own.kept k' (fun g hg e => h.ne (by rw [hg, e]))

set_option maxHeartbeats 400000 in
theorem room_full (n : Nat) (hn : n ≤ 1000000) {w : World} {B p : Nat} {v : Value} {lim : Int} {l : List Int} (h : PK w B p v lim l 0) (hf : lim < l.length + n) :
    Calls Try.prog 51 #[.pointer (some ⟨p, 0, none⟩), .int .i64 n] w fun e w' => e = .returned (.slice none 0 0) ∧ PPost w B p v lim (l, 10) w' := by
  have hfin := h.setErr 10 (by omega)
  obtain ⟨hl0, hl1, hl2⟩ := h.lims rfl
  obtain ⟨c0, c1, c2, c3, cf⟩ := h.cells
  have cf3 := cf 3
  have hgt : lim - (l.length : Int) < (n : Int) := by omega
  have hv : ∃ a cap, v = .slice a l.length cap := by
    rcases h.own with ⟨h1, h2⟩ | ⟨g, cap, rest, h1, _⟩
    · exact ⟨none, 0, by rw [h1, h2]; rfl⟩
    · exact ⟨_, _, h1⟩
  obtain ⟨a, cap, rfl⟩ := hv
  have HF := Lib.hid hfin
  clear hfin cf h
  go_enter Try.func51, Try.ntmps51
  go_wp2
  go_ret
  exact ⟨rfl, HF.out⟩

/-- the walk's part of room, behind Grow -/
theorem room_close {w w1 : World} {B p : Nat} {v : Value} {lim : Int} {l : List Int} (n : Nat) (h : PK w B p v lim l 0) (g cap : Nat) (rest : List Value) (hn : l.length + n ≤ cap) (hm : cap ≤ maxLen)
    (hg : w1.heap[g]? = some (.cells (U8s l ++ rest).toArray 5 (0, 0))) (hr : (U8s l ++ rest).length = cap) (hB : B ≤ g) (hne : g ≠ p) (hnew : v.ownBlock = some g ∨ w.heap.size ≤ g) (k : Kp (fun _ => False) w w1) :
    RoomFit w B p v lim l n (.returned (.slice (some ⟨g, l.length, none⟩) n (cap - l.length))) (w1.setCell ⟨p, 2, none⟩ (.slice (some ⟨g, 0, none⟩) (l.length + n) cap)) := by
  have hpc := kept_blk h.cell k (by simp)
  have hrl : rest.length = cap - l.length := by rw [List.length_append, U8s_length] at hr; omega
  refine ⟨g, cap, rest.take n, rest.drop n, rfl, ?_, ?_, ?_, ?_, hm, hne, hB, hnew, ?_⟩
  · rw [set_blk hpc]; rfl
  · rw [other_blk hg hne, List.append_assoc, List.take_append_drop]
  · rw [List.length_take]; omega
  · rw [List.append_assoc, List.take_append_drop]; exact hr
  · exact (k.mono (fun _ _ f => f.elim)).setCell (p := ⟨p, 2, none⟩) (fun _ => .inl rfl) _

/-- Grow of a row of one's own -/
def GrowOwn (w : World) (B : Nat) (v : Value) (l : List Int) (n : Nat) (e : Ending) (w' : World) : Prop :=
  ∃ g cap rest, e = .returned (.slice (some ⟨g, 0, none⟩) l.length cap) ∧ l.length + n ≤ cap ∧ cap ≤ maxLen ∧ w'.heap[g]? = some (.cells (U8s l ++ rest).toArray 5 (0, 0)) ∧ (U8s l ++ rest).length = cap ∧
    B ≤ g ∧ (v.ownBlock = some g ∨ w.heap.size = g) ∧ Kp (fun _ => False) w w'
theorem grow_own (n : Nat) (hn : 1 ≤ n) {w : World} {B : Nat} {v : Value} {l : List Int} (hB : B ≤ w.heap.size) (h : OwnB w B v l) (hl : l.length + n ≤ 1000000) :
    Calls Try.prog 58 #[v, .int .i64 n] w (GrowOwn w B v l n) := by
  rcases h with ⟨rfl, rfl⟩ | ⟨g, cap, rest, rfl, h1, h2, h3, h4⟩
  · refine (grow_grow none 0 0 n [] w (by omega) (by omega) (by simp at hl; omega) rfl (fun _ => rfl) (by simp)).mono ?_
    rintro e w1 ⟨G, rest, rfl, hg, hG, hGm, hr, hk, _⟩
    exact ⟨w.heap.size, G, rest, rfl, by simpa using hG, hGm, by simpa [U8s] using hg, by simpa [U8s] using hr, hB, .inr rfl, hk⟩
  · have hlc : l.length ≤ cap := by rw [List.length_append, U8s_length] at h3; omega
    by_cases hroom : l.length + n ≤ cap
    · refine (grow_room _ l.length cap n w hlc (by unfold maxLen at h4; omega) (by omega) hroom).mono ?_
      rintro e w1 ⟨rfl, rfl⟩
      exact ⟨g, cap, rest, rfl, hroom, h4, h2, h3, h1, .inl rfl, Kp.refl _ _⟩
    · refine (grow_grow _ l.length cap n (U8s l ++ rest) w hlc (by omega) hl h3 (by simp) (fun a ha j v hj => ?_)).mono ?_
      · cases ha
        rw [Addr.add_lit, cell_blk h2, Nat.zero_add, List.getElem?_toArray]; exact hj
      · rintro e w1 ⟨G, r2, rfl, hg, hG, hGm, hr, hk, _⟩
        exact ⟨w.heap.size, G, rest ++ r2, rfl, hG, hGm, by rw [← List.append_assoc]; exact hg, by rw [← List.append_assoc]; exact hr, hB, .inr rfl, hk⟩

set_option maxHeartbeats 1000000 in
theorem room_fit (n : Nat) (hn : 1 ≤ n) {w : World} {B p : Nat} {v : Value} {lim : Int} {l : List Int} (hB : B ≤ w.heap.size) (h : PK w B p v lim l 0) (hf : (l.length : Int) + n ≤ lim) :
    Calls Try.prog 51 #[.pointer (some ⟨p, 0, none⟩), .int .i64 n] w (RoomFit w B p v lim l n) := by
  obtain ⟨hl0, hl1, hl2⟩ := h.lims rfl
  obtain ⟨c0, c1, c2, c3, cf⟩ := h.cells
  have cf2 := cf 2
  have hgt : ¬ (lim - (l.length : Int) < (n : Int)) := by omega
  have hpw := lt_of_blk h.cell
  have hgr := grow_own n hn hB h.own (by omega)
  have hv : ∃ a cap, v = .slice a l.length cap := by
    rcases h.own with ⟨h1, h2⟩ | ⟨g, cap, rest, h1, _⟩
    · exact ⟨none, 0, by rw [h1, h2]; rfl⟩
    · exact ⟨_, _, h1⟩
  obtain ⟨a, cap0, rfl⟩ := hv
  have hcl := fun w1 => room_close (w1 := w1) n h
  have HC := Lib.hid hcl
  have HP := Lib.hid h
  have HG := Lib.hid hgr
  clear hcl h cf hgr
  go_enter Try.func51, Try.ntmps51
  go_wp2_with (first | (go_at_call 58; go_must (refine (HG.out).mono ?_; rintro e w1 ⟨g, cap, rest, rfl, hn, hm, hg, hr, hb, hnew, hk⟩; have d2 := (hk.cell (p := ⟨p, 2, none⟩) hpw (by simp)).trans c2; have df2 := (hk.frozen (p := ⟨p, 2, none⟩) hpw (by simp)).trans cf2; have H1 := Lib.hid hg; have H2 := Lib.hid hr; have H3 := Lib.hid hnew; clear hg hr hnew; have hm' : cap ≤ 9223372036854775807 := hm)) | go_in)
  go_ret
  have hs : w.heap.size ≠ p := by omega
  refine HC.out w1 g cap rest hn hm H1.out H2.out hb ?_ ?_ hk
  · rcases H3.out with h | h
    · intro e; subst e; exact HP.out.ne h
    · omega
  · rcases H3.out with h | h
    · exact .inl h
    · exact .inr (by omega)

set_option maxHeartbeats 400000 in
theorem setNumber_nil (v : Int) (w : World) : Calls Try.prog 50 #[.slice none 0 0, .int .u64 v] w fun e w' => e = .returned (.tuple #[]) ∧ w = w' := by
  have hd : ¬ ((0 : Int) ≤ (0 : Int) - 1) := by omega
  go_enter Try.func50, Try.ntmps50
  go_wp2
  go_loop [4] (fun i => i = .int .i64 (-1)) (fun _ => 0)
  case atStart => rfl
  case round =>
    subst hrel
    go_wp2
    go_end0
    exact ⟨rfl, rfl⟩

/-- behind room and setNumber -/
theorem fit_post {w w1 w2 : World} {B p : Nat} {v : Value} {lim : Int} {l : List Int} {n : Nat} {g cap : Nat} {mid post : List Value} (hl : 0 ≤ lim ∧ lim ≤ 8192) (hf : (l.length : Int) + n ≤ lim)
    (hp : w1.heap[p]? = some (.cells #[.bool true, .int .i64 lim, .slice (some ⟨g, 0, none⟩) (l.length + n) cap, .int .i64 0] 84 (0, 0)))
    (hr : mid.length = n) (hc : (U8s l ++ mid ++ post).length = cap) (hm : cap ≤ maxLen) (hne : g ≠ p) (hB : B ≤ g) (hBp : B ≤ p) (hnew : v.ownBlock = some g ∨ w.heap.size ≤ g) (k : Kp (PF p v) w w1)
    (xs : List Int) (hxs : xs.length = n) (h2 : w2.heap[g]? = some (.cells (U8s l ++ U8s xs ++ post).toArray 5 (0, 0))) (k2 : Kp (fun y => y = g) w1 w2) : PPost w B p v lim (putS lim l 0 xs) w2 := by
  have e1 : putS lim l 0 xs = (l ++ xs, 0) := by unfold putS; rw [if_pos rfl, if_pos (by omega)]
  rw [e1]
  have hgF : ∀ y, y < w.heap.size → y = g → PF p v y := by
    intro y hy e
    subst e
    rcases hnew with h | h
    · exact .inr h
    · omega
  refine ⟨.slice (some ⟨g, 0, none⟩) (l.length + n) cap, ⟨kept_blk hp k2 (fun e => hne e.symm), .inr ⟨g, cap, post, ?_, hB, ?_, ?_, hm⟩, ?_, hBp, fun _ => ⟨hl.1, hl.2, ?_⟩⟩, k.trans k2 hgF, ?_⟩
  · rw [List.length_append, hxs]
  · rw [U8s_append]; exact h2
  · rw [← hc]; simp [U8s_length, hr, hxs, Nat.add_assoc]
  · intro e; exact hne (by cases e; rfl)
  · rw [List.length_append, hxs]; omega
  · rcases hnew with h | h
    · exact .inl h.symm
    · exact .inr (fun y e => by cases e; exact h)

/-- behind room of n bytes, whatever there was: there is room, or nothing more is to be done -/
def RoomAny (w : World) (B p : Nat) (v : Value) (lim : Int) (l : List Int) (e : Int) (n : Nat) (r : Ending) (w' : World) : Prop :=
  (e = 0 ∧ (l.length : Int) + n ≤ lim ∧ RoomFit w B p v lim l n r w') ∨ (r = .returned (.slice none 0 0) ∧ ∀ xs : List Int, xs.length = n → PPost w B p v lim (putS lim l e xs) w')
theorem room_any (n : Nat) (hn : 1 ≤ n) (hn2 : n ≤ 1000000) {w : World} {B p : Nat} {v : Value} {lim : Int} {l : List Int} {e : Int} (hB : B ≤ w.heap.size) (h : PK w B p v lim l e) :
    Calls Try.prog 51 #[.pointer (some ⟨p, 0, none⟩), .int .i64 n] w (RoomAny w B p v lim l e n) := by
  by_cases he : e = 0
  · subst he
    by_cases hf : (l.length : Int) + n ≤ lim
    · exact (room_fit n hn hB h hf).mono fun r w' hr => .inl ⟨rfl, hf, hr⟩
    · refine (room_full n hn2 h (by omega)).mono fun r w' hr => .inr ⟨hr.1, fun xs hx => ?_⟩
      have e1 : putS lim l 0 xs = (l, 10) := by unfold putS; rw [if_pos rfl, if_neg (by omega)]
      rw [e1]; exact hr.2
  · refine (room_err n h he).mono ?_
    rintro r w' ⟨rfl, rfl⟩
    refine .inr ⟨rfl, fun xs hx => ?_⟩
    have e1 : putS lim l e xs = (l, e) := by unfold putS; rw [if_neg he]
    rw [e1]; exact ⟨v, h, Kp.refl _ _, .inl rfl⟩

set_option maxHeartbeats 400000 in
theorem putByte_any (x : Int) (hx0 : 0 ≤ x) (hx1 : x ≤ 255) {w : World} {B p : Nat} {v : Value} {lim : Int} {l : List Int} {e : Int} (hB : B ≤ w.heap.size) (h : PK w B p v lim l e) :
    Calls Try.prog 37 #[.pointer (some ⟨p, 0, none⟩), .int .u8 x] w fun r w' => r = .returned (.tuple #[]) ∧ PPost w B p v lim (putS lim l e (be 1 x)) w' := by
  have HX := Lib.hid hx1
  have HR := Lib.hid (room_any 1 (by omega) (by omega) hB h)
  have HP := Lib.hid h
  clear h
  go_enter Try.func37, Try.ntmps37
  go_wp2_with fail
  refine (HR.out).mono ?_
  rintro r w1 (⟨rfl, hf, g, cap, mid, post, rfl, hp, hg, hmid, hc, hm, hne, hBg, hnew, hk⟩ | ⟨rfl, hpp⟩)
  · have HS := Lib.hid (fun c => setNumber_any g 1 c (U8s l) mid post x hx0 (by have := HX.out; omega) w1 hmid (by omega) hg)
    have HFF := Lib.hid (fun w2 hx h2 k2 => fit_post (w := w) (w2 := w2) ⟨((HP.out).lims rfl).1, ((HP.out).lims rfl).2.1⟩ hf hp hmid hc hm hne hBg HP.out.base hnew hk (be 1 x) hx h2 k2)
    have HL := Lib.hid (U8s_length l)
    clear hp hg hc hmid hnew hf
    go_wp2_with fail
    rw [← HL.out]
    refine (HS.out _).mono ?_
    rintro r w2 ⟨rfl, h2, k2, _⟩
    have H2 := Lib.hid h2
    clear h2
    go_wp2_with fail
    go_end0
    exact ⟨rfl, HFF.out w2 (be_length _ _) H2.out k2⟩
  · have HPP := Lib.hid (hpp (be 1 x) (be_length _ _))
    clear hpp
    go_wp2_with fail
    refine (setNumber_nil _ _).mono ?_
    rintro r w2 ⟨rfl, rfl⟩
    go_wp2_with fail
    go_end0
    exact ⟨rfl, HPP.out⟩

set_option maxHeartbeats 400000 in
theorem putInt_any (x : Int) (hx0 : 0 ≤ x) (hx1 : x ≤ 4294967295) {w : World} {B p : Nat} {v : Value} {lim : Int} {l : List Int} {e : Int} (hB : B ≤ w.heap.size) (h : PK w B p v lim l e) :
    Calls Try.prog 38 #[.pointer (some ⟨p, 0, none⟩), .int .u32 x] w fun r w' => r = .returned (.tuple #[]) ∧ PPost w B p v lim (putS lim l e (be 4 x)) w' := by
  have HX := Lib.hid hx1
  have HR := Lib.hid (room_any 4 (by omega) (by omega) hB h)
  have HP := Lib.hid h
  clear h
  go_enter Try.func38, Try.ntmps38
  go_wp2_with fail
  refine (HR.out).mono ?_
  rintro r w1 (⟨rfl, hf, g, cap, mid, post, rfl, hp, hg, hmid, hc, hm, hne, hBg, hnew, hk⟩ | ⟨rfl, hpp⟩)
  · have HS := Lib.hid (fun c => setNumber_any g 4 c (U8s l) mid post x hx0 (by have := HX.out; omega) w1 hmid (by omega) hg)
    have HFF := Lib.hid (fun w2 hx h2 k2 => fit_post (w := w) (w2 := w2) ⟨((HP.out).lims rfl).1, ((HP.out).lims rfl).2.1⟩ hf hp hmid hc hm hne hBg HP.out.base hnew hk (be 4 x) hx h2 k2)
    have HL := Lib.hid (U8s_length l)
    clear hp hg hc hmid hnew hf
    go_wp2_with fail
    rw [← HL.out]
    refine (HS.out _).mono ?_
    rintro r w2 ⟨rfl, h2, k2, _⟩
    have H2 := Lib.hid h2
    clear h2
    go_wp2_with fail
    go_end0
    exact ⟨rfl, HFF.out w2 (be_length _ _) H2.out k2⟩
  · have HPP := Lib.hid (hpp (be 4 x) (be_length _ _))
    clear hpp
    go_wp2_with fail
    refine (setNumber_nil _ _).mono ?_
    rintro r w2 ⟨rfl, rfl⟩
    go_wp2_with fail
    go_end0
    exact ⟨rfl, HPP.out⟩

end Go.Proofs.Ytleapcbkkggecaa
