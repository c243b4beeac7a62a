/-
  back: whether an item is taken as it was put.
-/
import Derived.Test.YtahdnapinlbflaaUc
import Derived.Test.YtahdnapinlbflaaFew
import Derived.Deep.RegionWith
namespace Go.Proofs.Ytahdnapinlbflaa
open Go.ChangeShapes Go.WideShapes Go.ChangeAt Go.RowKit

/-- what an item takes, told by a count of its own bytes -/
def bkL (l : List Int) (e d n : Int) : List Int :=
  if d = 0 then takeL l e n else if d = 1 then takeL l e 1 else if d = 2 then takeL l e 2 else if d = 3 then cntL l e 4 n else if d = 4 then takeL l e 4 else if d = 5 then cntL l e 2 n else if d = 8 then takeL l e 8 else l
def bkE (l : List Int) (e d n : Int) : Int :=
  if d = 0 then takeE l e n else if d = 1 then takeE l e 1 else if d = 2 then takeE l e 2 else if d = 3 then cntE l e 4 n else if d = 4 then takeE l e 4 else if d = 5 then cntE l e 2 n else if d = 8 then takeE l e 8 else e
def bkQ (l : List Int) (e d V : Int) (xs : List Int) : Bool :=
  if d = 0 then decide (takeR l e xs.length = xs) else if d = 1 then val (takeR l e 1) == V % 256 else if d = 2 then val (takeR l e 2) == V % 65536 else if d = 3 then decide (cntR l e 4 xs.length = xs)
  else if d = 4 then val (takeR l e 4) == V % 4294967296 else if d = 5 then (strOfNums (cntR l e 2 xs.length)).toList == (strOfNums xs).toList else if d = 8 then val (takeR l e 8) == V else true
def BackP (w : World) (B u : Nat) (l1 : List Int) (e1 : Int) (q : Bool) (r : Ending) (w' : World) : Prop :=
  r = .returned (.bool q) ∧ (∃ vu', UK w' B u vu' l1 e1) ∧ Kp (fun k => k = u) w w'
theorem back_close {w w0 w2 : World} {B u : Nat} {vu : Value} {l1 : List Int} {e1 : Int} {q : Bool} (k0 : Kp (fun _ => False) w w0) (h : UPost w0 B u vu l1 e1 w2) : BackP w B u l1 e1 q (.returned (.bool q)) w2 := by
  obtain ⟨⟨vu', h1, _⟩, hk⟩ := h
  exact ⟨rfl, ⟨vu', h1⟩, (k0.mono (F := fun k => k = u) (fun _ _ f => f.elim)).trans hk (fun _ _ h => h)⟩

set_option maxHeartbeats 2000000 in
theorem back_1 {w : World} {B u : Nat} {vu : Value} {l : List Int} {e : Int} {b : Value} {xs : List Int} (V n : Int) (hV : 0 ≤ V ∧ V ≤ 18446744073709551615) (hb : Sees w b xs) (hx : Rng xs) (hbu : xs ≠ [] → ∀ g, b.ownBlock = some g → g ≠ u) (_hxl : xs.length ≤ 900000)
    (h : UK w B u vu l e) (hr : Rng l) (_hl : l.length ≤ 1000000000) :
    Calls Try.prog 28 #[.pointer (some ⟨u, 0, none⟩), .agg #[.int .i64 1, .int .u64 V, b, .int .i64 n]] w (BackP w B u (takeL l e 1) (takeE l e 1) (val (takeR l e 1) == V % 256)) := by
  obtain ⟨bp, bc, rfl⟩ := sees_form hb
  have hk0 : Kp (fun _ => False) w (w.alloc (.cells #[.int .i64 1, .int .u64 V, .slice bp xs.length bc, .int .i64 n] 32)) := (Kp.refl _ _).alloc _
  have hk1 := hk0.drew
  have h0 : UK (w.alloc (.cells #[.int .i64 1, .int .u64 V, .slice bp xs.length bc, .int .i64 n] 32)).drew B u vu l e := h.kept hk1 (fun f => f) (fun _ _ _ f => f)
  have hb0 := new_blk w (.cells #[.int .i64 1, .int .u64 V, .slice bp xs.length bc, .int .i64 n] 32)
  have hb1 := hb.kept hk1 (fun _ _ _ f => f)
  have HU := Lib.hid (lt_of_blk h.cell)
  have HK := Lib.hid hk1
  have HB := Lib.hid hb0
  have HBS := Lib.hid (And.intro hb1 hbu)
  have HX := Lib.hid hx
  obtain ⟨hV0, hV1⟩ := hV
  have HC := Lib.hid (uByte_any h0 hr)
  have hlen := takeR_len l e 1
  have hvb := val_bd _ (takeR_rng hr e 1)
  obtain ⟨z, hz⟩ : ∃ z, z = val (takeR l e 1) := ⟨_, rfl⟩
  rw [← hz] at hvb ⊢
  have hz0 := hvb.1
  have HZ := Lib.hid hz
  obtain ⟨q, hq⟩ : ∃ q, q = (z == V % 256) := ⟨_, rfl⟩
  have HQ := Lib.hid hq
  rw [← hq]
  clear h hk0 hk1 h0 hb0 hb1 hb hr hx hbu hlen hvb hz hq
  go_enter Try.func28, Try.ntmps28
  go_wp2
  go_region_with (first
    | (go_at_call 30; refine (HC.out).mono ?_; rintro r w1 ⟨rfl, hp⟩; rw [← HZ.out]; have hbk := kept_blk (w := (w.alloc (.cells #[.int .i64 1, .int .u64 V, .slice bp xs.length bc, .int .i64 n] 32)).drew) HB.out hp.kp (fun hh => by have := HU.out; omega); have c1 : w1.cell? ⟨w.heap.size, 1, none⟩ = some (.int .u64 V) := (cell_blk hbk 1).trans rfl; have c2 : w1.cell? ⟨w.heap.size, 2, none⟩ = some (.slice bp xs.length bc) := (cell_blk hbk 2).trans rfl; have HF := Lib.hid (back_close (q := q) HK.out hp); clear hp hbk))
  all_goals
    go_wp2
    go_ret
    have hf := HF.out
    rw [HQ.out] at hf ⊢
    exact hf

set_option maxHeartbeats 2000000 in
theorem back_2 {w : World} {B u : Nat} {vu : Value} {l : List Int} {e : Int} {b : Value} {xs : List Int} (V n : Int) (hV : 0 ≤ V ∧ V ≤ 18446744073709551615) (hb : Sees w b xs) (hx : Rng xs) (hbu : xs ≠ [] → ∀ g, b.ownBlock = some g → g ≠ u) (_hxl : xs.length ≤ 900000)
    (h : UK w B u vu l e) (hr : Rng l) (_hl : l.length ≤ 1000000000) :
    Calls Try.prog 28 #[.pointer (some ⟨u, 0, none⟩), .agg #[.int .i64 2, .int .u64 V, b, .int .i64 n]] w (BackP w B u (takeL l e 2) (takeE l e 2) (val (takeR l e 2) == V % 65536)) := by
  obtain ⟨bp, bc, rfl⟩ := sees_form hb
  have hk0 : Kp (fun _ => False) w (w.alloc (.cells #[.int .i64 2, .int .u64 V, .slice bp xs.length bc, .int .i64 n] 32)) := (Kp.refl _ _).alloc _
  have hk1 := hk0.drew
  have h0 : UK (w.alloc (.cells #[.int .i64 2, .int .u64 V, .slice bp xs.length bc, .int .i64 n] 32)).drew B u vu l e := h.kept hk1 (fun f => f) (fun _ _ _ f => f)
  have hb0 := new_blk w (.cells #[.int .i64 2, .int .u64 V, .slice bp xs.length bc, .int .i64 n] 32)
  have hb1 := hb.kept hk1 (fun _ _ _ f => f)
  have HU := Lib.hid (lt_of_blk h.cell)
  have HK := Lib.hid hk1
  have HB := Lib.hid hb0
  have HBS := Lib.hid (And.intro hb1 hbu)
  have HX := Lib.hid hx
  obtain ⟨hV0, hV1⟩ := hV
  have HC := Lib.hid (uShort_any h0 hr)
  have hlen := takeR_len l e 2
  have hvb := val_bd _ (takeR_rng hr e 2)
  obtain ⟨z, hz⟩ : ∃ z, z = val (takeR l e 2) := ⟨_, rfl⟩
  rw [← hz] at hvb ⊢
  have hz0 := hvb.1
  have HZ := Lib.hid hz
  obtain ⟨q, hq⟩ : ∃ q, q = (z == V % 65536) := ⟨_, rfl⟩
  have HQ := Lib.hid hq
  rw [← hq]
  clear h hk0 hk1 h0 hb0 hb1 hb hr hx hbu hlen hvb hz hq
  go_enter Try.func28, Try.ntmps28
  go_wp2
  go_region_with (first
    | (go_at_call 31; refine (HC.out).mono ?_; rintro r w1 ⟨rfl, hp⟩; rw [← HZ.out]; have hbk := kept_blk (w := (w.alloc (.cells #[.int .i64 2, .int .u64 V, .slice bp xs.length bc, .int .i64 n] 32)).drew) HB.out hp.kp (fun hh => by have := HU.out; omega); have c1 : w1.cell? ⟨w.heap.size, 1, none⟩ = some (.int .u64 V) := (cell_blk hbk 1).trans rfl; have c2 : w1.cell? ⟨w.heap.size, 2, none⟩ = some (.slice bp xs.length bc) := (cell_blk hbk 2).trans rfl; have HF := Lib.hid (back_close (q := q) HK.out hp); clear hp hbk))
  all_goals
    go_wp2
    go_ret
    have hf := HF.out
    rw [HQ.out] at hf ⊢
    exact hf

set_option maxHeartbeats 2000000 in
theorem back_4 {w : World} {B u : Nat} {vu : Value} {l : List Int} {e : Int} {b : Value} {xs : List Int} (V n : Int) (hV : 0 ≤ V ∧ V ≤ 18446744073709551615) (hb : Sees w b xs) (hx : Rng xs) (hbu : xs ≠ [] → ∀ g, b.ownBlock = some g → g ≠ u) (_hxl : xs.length ≤ 900000)
    (h : UK w B u vu l e) (hr : Rng l) (_hl : l.length ≤ 1000000000) :
    Calls Try.prog 28 #[.pointer (some ⟨u, 0, none⟩), .agg #[.int .i64 4, .int .u64 V, b, .int .i64 n]] w (BackP w B u (takeL l e 4) (takeE l e 4) (val (takeR l e 4) == V % 4294967296)) := by
  obtain ⟨bp, bc, rfl⟩ := sees_form hb
  have hk0 : Kp (fun _ => False) w (w.alloc (.cells #[.int .i64 4, .int .u64 V, .slice bp xs.length bc, .int .i64 n] 32)) := (Kp.refl _ _).alloc _
  have hk1 := hk0.drew
  have h0 : UK (w.alloc (.cells #[.int .i64 4, .int .u64 V, .slice bp xs.length bc, .int .i64 n] 32)).drew B u vu l e := h.kept hk1 (fun f => f) (fun _ _ _ f => f)
  have hb0 := new_blk w (.cells #[.int .i64 4, .int .u64 V, .slice bp xs.length bc, .int .i64 n] 32)
  have hb1 := hb.kept hk1 (fun _ _ _ f => f)
  have HU := Lib.hid (lt_of_blk h.cell)
  have HK := Lib.hid hk1
  have HB := Lib.hid hb0
  have HBS := Lib.hid (And.intro hb1 hbu)
  have HX := Lib.hid hx
  obtain ⟨hV0, hV1⟩ := hV
  have HC := Lib.hid (uInt_any h0 hr)
  have hlen := takeR_len l e 4
  have hvb := val_bd _ (takeR_rng hr e 4)
  obtain ⟨z, hz⟩ : ∃ z, z = val (takeR l e 4) := ⟨_, rfl⟩
  rw [← hz] at hvb ⊢
  have hz0 := hvb.1
  have HZ := Lib.hid hz
  obtain ⟨q, hq⟩ : ∃ q, q = (z == V % 4294967296) := ⟨_, rfl⟩
  have HQ := Lib.hid hq
  rw [← hq]
  clear h hk0 hk1 h0 hb0 hb1 hb hr hx hbu hlen hvb hz hq
  go_enter Try.func28, Try.ntmps28
  go_wp2
  go_region_with (first
    | (go_at_call 32; refine (HC.out).mono ?_; rintro r w1 ⟨rfl, hp⟩; rw [← HZ.out]; have hbk := kept_blk (w := (w.alloc (.cells #[.int .i64 4, .int .u64 V, .slice bp xs.length bc, .int .i64 n] 32)).drew) HB.out hp.kp (fun hh => by have := HU.out; omega); have c1 : w1.cell? ⟨w.heap.size, 1, none⟩ = some (.int .u64 V) := (cell_blk hbk 1).trans rfl; have c2 : w1.cell? ⟨w.heap.size, 2, none⟩ = some (.slice bp xs.length bc) := (cell_blk hbk 2).trans rfl; have HF := Lib.hid (back_close (q := q) HK.out hp); clear hp hbk))
  all_goals
    go_wp2
    go_ret
    have hf := HF.out
    rw [HQ.out] at hf ⊢
    exact hf

set_option maxHeartbeats 2000000 in
theorem back_8 {w : World} {B u : Nat} {vu : Value} {l : List Int} {e : Int} {b : Value} {xs : List Int} (V n : Int) (hV : 0 ≤ V ∧ V ≤ 18446744073709551615) (hb : Sees w b xs) (hx : Rng xs) (hbu : xs ≠ [] → ∀ g, b.ownBlock = some g → g ≠ u) (_hxl : xs.length ≤ 900000)
    (h : UK w B u vu l e) (hr : Rng l) (_hl : l.length ≤ 1000000000) :
    Calls Try.prog 28 #[.pointer (some ⟨u, 0, none⟩), .agg #[.int .i64 8, .int .u64 V, b, .int .i64 n]] w (BackP w B u (takeL l e 8) (takeE l e 8) (val (takeR l e 8) == V)) := by
  obtain ⟨bp, bc, rfl⟩ := sees_form hb
  have hk0 : Kp (fun _ => False) w (w.alloc (.cells #[.int .i64 8, .int .u64 V, .slice bp xs.length bc, .int .i64 n] 32)) := (Kp.refl _ _).alloc _
  have hk1 := hk0.drew
  have h0 : UK (w.alloc (.cells #[.int .i64 8, .int .u64 V, .slice bp xs.length bc, .int .i64 n] 32)).drew B u vu l e := h.kept hk1 (fun f => f) (fun _ _ _ f => f)
  have hb0 := new_blk w (.cells #[.int .i64 8, .int .u64 V, .slice bp xs.length bc, .int .i64 n] 32)
  have hb1 := hb.kept hk1 (fun _ _ _ f => f)
  have HU := Lib.hid (lt_of_blk h.cell)
  have HK := Lib.hid hk1
  have HB := Lib.hid hb0
  have HBS := Lib.hid (And.intro hb1 hbu)
  have HX := Lib.hid hx
  obtain ⟨hV0, hV1⟩ := hV
  have HC := Lib.hid (uLong_any h0 hr)
  have hlen := takeR_len l e 8
  have hvb := val_bd _ (takeR_rng hr e 8)
  obtain ⟨z, hz⟩ : ∃ z, z = val (takeR l e 8) := ⟨_, rfl⟩
  rw [← hz] at hvb ⊢
  have hz0 := hvb.1
  have HZ := Lib.hid hz
  obtain ⟨q, hq⟩ : ∃ q, q = (z == V) := ⟨_, rfl⟩
  have HQ := Lib.hid hq
  rw [← hq]
  clear h hk0 hk1 h0 hb0 hb1 hb hr hx hbu hlen hvb hz hq
  go_enter Try.func28, Try.ntmps28
  go_wp2
  go_region_with (first
    | (go_at_call 33; refine (HC.out).mono ?_; rintro r w1 ⟨rfl, hp⟩; rw [← HZ.out]; have hbk := kept_blk (w := (w.alloc (.cells #[.int .i64 8, .int .u64 V, .slice bp xs.length bc, .int .i64 n] 32)).drew) HB.out hp.kp (fun hh => by have := HU.out; omega); have c1 : w1.cell? ⟨w.heap.size, 1, none⟩ = some (.int .u64 V) := (cell_blk hbk 1).trans rfl; have c2 : w1.cell? ⟨w.heap.size, 2, none⟩ = some (.slice bp xs.length bc) := (cell_blk hbk 2).trans rfl; have HF := Lib.hid (back_close (q := q) HK.out hp); clear hp hbk))
  all_goals
    go_wp2
    go_ret
    have hf := HF.out
    rw [HQ.out] at hf ⊢
    exact hf

set_option maxHeartbeats 2000000 in
theorem back_0 {w : World} {B u : Nat} {vu : Value} {l : List Int} {e : Int} {b : Value} {xs : List Int} (V n : Int) (hV : 0 ≤ V ∧ V ≤ 18446744073709551615) (hb : Sees w b xs) (hx : Rng xs) (hbu : xs ≠ [] → ∀ g, b.ownBlock = some g → g ≠ u) (_hxl : xs.length ≤ 900000)
    (h : UK w B u vu l e) (hr : Rng l) (hl : l.length ≤ 1000000000) :
    Calls Try.prog 28 #[.pointer (some ⟨u, 0, none⟩), .agg #[.int .i64 0, .int .u64 V, b, .int .i64 n]] w (BackP w B u (takeL l e xs.length) (takeE l e xs.length) (decide (takeR l e xs.length = xs))) := by
  obtain ⟨bp, bc, rfl⟩ := sees_form hb
  have hk0 : Kp (fun _ => False) w (w.alloc (.cells #[.int .i64 0, .int .u64 V, .slice bp xs.length bc, .int .i64 n] 32)) := (Kp.refl _ _).alloc _
  have hk1 := hk0.drew
  have h0 : UK (w.alloc (.cells #[.int .i64 0, .int .u64 V, .slice bp xs.length bc, .int .i64 n] 32)).drew B u vu l e := h.kept hk1 (fun f => f) (fun _ _ _ f => f)
  have hb0 := new_blk w (.cells #[.int .i64 0, .int .u64 V, .slice bp xs.length bc, .int .i64 n] 32)
  have hb1 := hb.kept hk1 (fun _ _ _ f => f)
  have HU := Lib.hid (lt_of_blk h.cell)
  have HK := Lib.hid hk1
  have HB := Lib.hid hb0
  have HBS := Lib.hid (And.intro hb1 hbu)
  have HX := Lib.hid hx
  obtain ⟨hV0, hV1⟩ := hV
  have HC := Lib.hid (uFixed_any (xs.length : Int) h0 hl)
  have HR := Lib.hid hr
  obtain ⟨q, hq⟩ : ∃ q, q = (decide (takeR l e xs.length = xs)) := ⟨_, rfl⟩
  have HQ := Lib.hid hq
  rw [← hq]
  clear h hk0 hk1 h0 hb0 hb1 hb hr hl hx hbu hq
  go_enter Try.func28, Try.ntmps28
  go_wp2
  go_region_with (first
    | (go_at_call 34; refine (HC.out).mono ?_; rintro r w1 ⟨rv, rfl, hs, _, hp⟩; have hbk := kept_blk (w := (w.alloc (.cells #[.int .i64 0, .int .u64 V, .slice bp xs.length bc, .int .i64 n] 32)).drew) HB.out hp.kp (fun hh => by have := HU.out; omega); have c1 : w1.cell? ⟨w.heap.size, 1, none⟩ = some (.int .u64 V) := (cell_blk hbk 1).trans rfl; have c2 : w1.cell? ⟨w.heap.size, 2, none⟩ = some (.slice bp xs.length bc) := (cell_blk hbk 2).trans rfl; have HE := Lib.hid (equal_any hs (HBS.out.1.kept hp.kp HBS.out.2) (takeR_rng HR.out e xs.length) HX.out); rw [← HQ.out] at HE; have HF := Lib.hid (back_close (q := q) HK.out hp); clear hs hp hbk)
    | (go_at_call 18; refine (HE.out).mono ?_; rintro r w3 ⟨rfl, rfl⟩))
  all_goals
    go_wp2
    go_ret
    exact HF.out

set_option maxHeartbeats 2000000 in
theorem back_3 {w : World} {B u : Nat} {vu : Value} {l : List Int} {e : Int} {b : Value} {xs : List Int} (V n : Int) (hV : 0 ≤ V ∧ V ≤ 18446744073709551615) (hb : Sees w b xs) (hx : Rng xs) (hbu : xs ≠ [] → ∀ g, b.ownBlock = some g → g ≠ u) (hxl : xs.length ≤ 900000)
    (h : UK w B u vu l e) (hr : Rng l) (hl : l.length ≤ 1000000000) :
    Calls Try.prog 28 #[.pointer (some ⟨u, 0, none⟩), .agg #[.int .i64 3, .int .u64 V, b, .int .i64 n]] w (BackP w B u (cntL l e 4 xs.length) (cntE l e 4 xs.length) (decide (cntR l e 4 xs.length = xs))) := by
  obtain ⟨bp, bc, rfl⟩ := sees_form hb
  have hk0 : Kp (fun _ => False) w (w.alloc (.cells #[.int .i64 3, .int .u64 V, .slice bp xs.length bc, .int .i64 n] 32)) := (Kp.refl _ _).alloc _
  have hk1 := hk0.drew
  have h0 : UK (w.alloc (.cells #[.int .i64 3, .int .u64 V, .slice bp xs.length bc, .int .i64 n] 32)).drew B u vu l e := h.kept hk1 (fun f => f) (fun _ _ _ f => f)
  have hb0 := new_blk w (.cells #[.int .i64 3, .int .u64 V, .slice bp xs.length bc, .int .i64 n] 32)
  have hb1 := hb.kept hk1 (fun _ _ _ f => f)
  have HU := Lib.hid (lt_of_blk h.cell)
  have HK := Lib.hid hk1
  have HB := Lib.hid hb0
  have HBS := Lib.hid (And.intro hb1 hbu)
  have HX := Lib.hid hx
  obtain ⟨hV0, hV1⟩ := hV
  have HC := Lib.hid (uBytes_any (xs.length : Int) (by omega) h0 hr hl)
  have HR := Lib.hid hr
  obtain ⟨q, hq⟩ : ∃ q, q = (decide (cntR l e 4 xs.length = xs)) := ⟨_, rfl⟩
  have HQ := Lib.hid hq
  rw [← hq]
  clear h hk0 hk1 h0 hb0 hb1 hb hr hl hx hbu hq
  go_enter Try.func28, Try.ntmps28
  go_wp2
  go_region_with (first
    | (go_at_call 35; refine (HC.out).mono ?_; rintro r w1 ⟨rv, rfl, hs, _, hp⟩; have hbk := kept_blk (w := (w.alloc (.cells #[.int .i64 3, .int .u64 V, .slice bp xs.length bc, .int .i64 n] 32)).drew) HB.out hp.kp (fun hh => by have := HU.out; omega); have c1 : w1.cell? ⟨w.heap.size, 1, none⟩ = some (.int .u64 V) := (cell_blk hbk 1).trans rfl; have c2 : w1.cell? ⟨w.heap.size, 2, none⟩ = some (.slice bp xs.length bc) := (cell_blk hbk 2).trans rfl; have HE := Lib.hid (equal_any hs (HBS.out.1.kept hp.kp HBS.out.2) (cntR_rng HR.out e 4 xs.length) HX.out); rw [← HQ.out] at HE; have HF := Lib.hid (back_close (q := q) HK.out hp); clear hs hp hbk)
    | (go_at_call 18; refine (HE.out).mono ?_; rintro r w3 ⟨rfl, rfl⟩))
  all_goals
    go_wp2
    go_ret
    exact HF.out

set_option maxHeartbeats 2000000 in
theorem back_5 {w : World} {B u : Nat} {vu : Value} {l : List Int} {e : Int} {b : Value} {xs : List Int} (V n : Int) (hV : 0 ≤ V ∧ V ≤ 18446744073709551615) (hb : Sees w b xs) (hx : Rng xs) (hbu : xs ≠ [] → ∀ g, b.ownBlock = some g → g ≠ u) (hxl : xs.length ≤ 900000)
    (h : UK w B u vu l e) (hr : Rng l) (hl : l.length ≤ 1000000000) :
    Calls Try.prog 28 #[.pointer (some ⟨u, 0, none⟩), .agg #[.int .i64 5, .int .u64 V, b, .int .i64 n]] w (BackP w B u (cntL l e 2 xs.length) (cntE l e 2 xs.length) ((strOfNums (cntR l e 2 xs.length)).toList == (strOfNums xs).toList)) := by
  obtain ⟨bp, bc, rfl⟩ := sees_form hb
  have hk0 : Kp (fun _ => False) w (w.alloc (.cells #[.int .i64 5, .int .u64 V, .slice bp xs.length bc, .int .i64 n] 32)) := (Kp.refl _ _).alloc _
  have hk1 := hk0.drew
  have h0 : UK (w.alloc (.cells #[.int .i64 5, .int .u64 V, .slice bp xs.length bc, .int .i64 n] 32)).drew B u vu l e := h.kept hk1 (fun f => f) (fun _ _ _ f => f)
  have hb0 := new_blk w (.cells #[.int .i64 5, .int .u64 V, .slice bp xs.length bc, .int .i64 n] 32)
  have hb1 := hb.kept hk1 (fun _ _ _ f => f)
  have HU := Lib.hid (lt_of_blk h.cell)
  have HK := Lib.hid hk1
  have HB := Lib.hid hb0
  have HBS := Lib.hid (And.intro hb1 hbu)
  have HX := Lib.hid hx
  obtain ⟨hV0, hV1⟩ := hV
  have HC := Lib.hid (uText_any (xs.length : Int) (by omega) h0 hr hl)
  obtain ⟨q, hq⟩ : ∃ q, q = ((strOfNums (cntR l e 2 xs.length)).toList == (strOfNums xs).toList) := ⟨_, rfl⟩
  have HQ := Lib.hid hq
  rw [← hq]
  have hst0 := run_string_of hb1
  clear h hk0 hk1 h0 hb0 hb1 hb hr hl hx hbu hq
  go_enter Try.func28, Try.ntmps28
  go_wp2
  go_region_with (first
    | (go_at_call 36; refine (HC.out).mono ?_; rintro r w1 ⟨rfl, hp⟩; have hbk := kept_blk (w := (w.alloc (.cells #[.int .i64 5, .int .u64 V, .slice bp xs.length bc, .int .i64 n] 32)).drew) HB.out hp.kp (fun hh => by have := HU.out; omega); have c1 : w1.cell? ⟨w.heap.size, 1, none⟩ = some (.int .u64 V) := (cell_blk hbk 1).trans rfl; have c2 : w1.cell? ⟨w.heap.size, 2, none⟩ = some (.slice bp xs.length bc) := (cell_blk hbk 2).trans rfl; have hst1 := run_string_of (HBS.out.1.kept hp.kp HBS.out.2); have HF := Lib.hid (back_close (q := q) HK.out hp); clear hp hbk))
  all_goals
    go_wp2
    go_ret
    have hf := HF.out
    rw [HQ.out] at hf ⊢
    exact hf

set_option maxHeartbeats 1000000 in
theorem back_else {w : World} {B u : Nat} {vu : Value} {l : List Int} {e : Int} {b : Value} {xs : List Int} (d V n : Int) (hd : d ≠ 0 ∧ d ≠ 1 ∧ d ≠ 2 ∧ d ≠ 3 ∧ d ≠ 4 ∧ d ≠ 5 ∧ d ≠ 8) (hb : Sees w b xs) (h : UK w B u vu l e) :
    Calls Try.prog 28 #[.pointer (some ⟨u, 0, none⟩), .agg #[.int .i64 d, .int .u64 V, b, .int .i64 n]] w (BackP w B u l e true) := by
  obtain ⟨bp, bc, rfl⟩ := sees_form hb
  have hk0 : Kp (fun _ => False) w (w.alloc (.cells #[.int .i64 d, .int .u64 V, .slice bp xs.length bc, .int .i64 n] 32)) := (Kp.refl _ _).alloc _
  have HF := Lib.hid (back_close (q := true) hk0 (UPost.mk (v := vu) ⟨vu, h.kept hk0 (fun f => f) (fun _ _ _ f => f), fun _ => rfl⟩ (Kp.refl _ _)))
  obtain ⟨d0, d1, d2, d3, d4, d5, d8⟩ := hd
  have b0 : (d == 0) = false := by simpa using d0
  have b1 : (d == 1) = false := by simpa using d1
  have b2 : (d == 2) = false := by simpa using d2
  have b3 : (d == 3) = false := by simpa using d3
  have b4 : (d == 4) = false := by simpa using d4
  have b5 : (d == 5) = false := by simpa using d5
  have b8 : (d == 8) = false := by simpa using d8
  clear h hk0 hb d0 d1 d2 d3 d4 d5 d8
  go_enter Try.func28, Try.ntmps28
  go_wp2_with fail
  go_ret
  exact HF.out

theorem back_any {w : World} {B u : Nat} {vu : Value} {l : List Int} {e : Int} {b : Value} {xs : List Int} (d V n : Int) (hV : 0 ≤ V ∧ V ≤ 18446744073709551615) (hb : Sees w b xs) (hx : Rng xs) (hbu : xs ≠ [] → ∀ g, b.ownBlock = some g → g ≠ u) (hxl : xs.length ≤ 900000)
    (h : UK w B u vu l e) (hr : Rng l) (hl : l.length ≤ 1000000000) :
    Calls Try.prog 28 #[.pointer (some ⟨u, 0, none⟩), .agg #[.int .i64 d, .int .u64 V, b, .int .i64 n]] w (BackP w B u (bkL l e d xs.length) (bkE l e d xs.length) (bkQ l e d V xs)) := by
  unfold bkL bkE bkQ
  by_cases d0 : d = 0
  · subst d0; exact back_0 V n hV hb hx hbu hxl h hr hl
  by_cases d1 : d = 1
  · subst d1; exact back_1 V n hV hb hx hbu hxl h hr hl
  by_cases d2 : d = 2
  · subst d2; exact back_2 V n hV hb hx hbu hxl h hr hl
  by_cases d3 : d = 3
  · subst d3; exact back_3 V n hV hb hx hbu hxl h hr hl
  by_cases d4 : d = 4
  · subst d4; exact back_4 V n hV hb hx hbu hxl h hr hl
  by_cases d5 : d = 5
  · subst d5; exact back_5 V n hV hb hx hbu hxl h hr hl
  by_cases d8 : d = 8
  · subst d8; exact back_8 V n hV hb hx hbu hxl h hr hl
  simp only [if_neg d0, if_neg d1, if_neg d2, if_neg d3, if_neg d4, if_neg d5, if_neg d8]
  exact back_else d V n ⟨d0, d1, d2, d3, d4, d5, d8⟩ hb h

end Go.Proofs.Ytahdnapinlbflaa
