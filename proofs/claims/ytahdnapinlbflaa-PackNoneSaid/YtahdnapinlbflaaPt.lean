/-
  Contract of put: an item put into a packer alone.
-/
import Derived.Test.YtahdnapinlbflaaLw
import Derived.Deep.RegionWith
namespace Go.Proofs.Ytahdnapinlbflaa
open Go.ChangeShapes Go.WideShapes Go.ChangeAt Go.RowKit

/-- puts of a new document's packer -/
theorem put_core {w : World} {B p : Nat} {v : Value} {lim : Int} {l : List Int} {e : Int} {b : Value} {xs : List Int} (d V n : Int) (hV0 : 0 ≤ V) (hV1 : V ≤ 18446744073709551615) (hB : B ≤ w.heap.size)
    (h : PK w B p v lim l e) (hs : Sees w b xs) (ho : Away b xs (PF p v)) (hx : xs.length ≤ 900000) {W w1 : World} (hk : Kp (fun _ => False) w W) (hr : RK w1 B W.heap.size (.slice none 0 0) 0 [] 0) (hk1 : Kp (fun _ => False) W w1) :
    Calls Try.prog 13 #[.pointer (some ⟨p, 0, none⟩), .pointer (some ⟨W.heap.size, 0, none⟩), .agg #[.int .i64 d, .int .u64 V, b, .int .i64 n]] w1 (fun r w'' => r = .returned (.tuple #[]) ∧ PPost w B p v lim (itemS lim l e d V xs) w'') := by
  have hkw := hk.trans hk1 (fun _ _ f => f)
  have hst : St w1 B p W.heap.size v (.slice none 0 0) lim l e 0 [] 0 := ⟨h.kept hkw (fun _ _ f => f), hr, fun x hx hq => by
    have h1 := (h.foot x hx).2
    have h2 := hk.size
    rcases hq with rfl | hq
    · omega
    · cases hq⟩
  refine (puts_any d V n hV0 hV1 (Nat.le_trans hB hkw.size) hst (hs.kept hkw (fun _ _ _ f => f)) ho hx).mono ?_
  rintro r w2 ⟨rfl, v', u', hst', k2, f1, _⟩
  refine ⟨rfl, v', hst'.pk, (hkw.mono (F := PF p v) (fun _ _ f => f.elim)).trans k2 (fun x hx hh => ?_), f1.imp id (fun f g hg => Nat.le_trans hkw.size (f g hg))⟩
  rcases hh with hh | rfl | hh
  · exact hh
  · have := hk.size; omega
  · cases hh

set_option maxHeartbeats 2000000 in
theorem put_any {w : World} {B p : Nat} {v : Value} {lim : Int} {l : List Int} {e : Int} {b : Value} {xs : List Int} (d V n : Int) (hV0 : 0 ≤ V) (hV1 : V ≤ 18446744073709551615) (hB : B ≤ w.heap.size)
    (h : PK w B p v lim l e) (hs : Sees w b xs) (ho : Away b xs (PF p v)) (hx : xs.length ≤ 900000) :
    Calls Try.prog 27 #[.pointer (some ⟨p, 0, none⟩), .agg #[.int .i64 d, .int .u64 V, b, .int .i64 n]] w fun r w' => r = .returned (.tuple #[]) ∧ PPost w B p v lim (itemS lim l e d V xs) w' := by
  obtain ⟨a, cap, rfl⟩ := sees_form hs
  have hk0 : Kp (fun _ => False) w (w.alloc (.cells #[.int .i64 d, .int .u64 V, .slice a xs.length cap, .int .i64 n] 32)) := (Kp.refl _ _).alloc _
  have hb0 := new_blk w (.cells #[.int .i64 d, .int .u64 V, .slice a xs.length cap, .int .i64 n] 32)
  have hn0 := (newR_any 0 (w := (w.alloc (.cells #[.int .i64 d, .int .u64 V, .slice a xs.length cap, .int .i64 n] 32)).drew) (B := B) (Nat.le_trans hB hk0.size))
  have hc0 := (fun w1 hr hk1 => put_core d V n hV0 hV1 hB h hs ho hx (W := (w.alloc (.cells #[.int .i64 d, .int .u64 V, .slice a xs.length cap, .int .i64 n] 32)).drew) (w1 := w1) hk0.drew hr hk1)
  simp only [World.size_drew, World.size_alloc] at hn0 hc0
  have HN := Lib.hid hn0
  have HC := Lib.hid hc0
  have HB := Lib.hid hb0
  clear hn0 hc0 h hs ho hk0 hb0 hV1
  go_enter Try.func27, Try.ntmps27
  go_wp2
  go_region_with (first
    | (go_at_call 12; refine (HN.out).mono ?_; rintro r w1 ⟨rfl, hr, hk1, hsz⟩; have hb1 := kept_blk (w := (w.alloc (.cells #[.int .i64 d, .int .u64 V, .slice a xs.length cap, .int .i64 n] 32)).drew) HB.out hk1 (fun f => f); have c0 : w1.cell? ⟨w.heap.size, 0, none⟩ = some (.int .i64 d) := (cell_blk hb1 0).trans rfl; have c1 : w1.cell? ⟨w.heap.size, 1, none⟩ = some (.int .u64 V) := (cell_blk hb1 1).trans rfl; have c2 : w1.cell? ⟨w.heap.size, 2, none⟩ = some (.slice a xs.length cap) := (cell_blk hb1 2).trans rfl; have c3 : w1.cell? ⟨w.heap.size, 3, none⟩ = some (.int .i64 n) := (cell_blk hb1 3).trans rfl; have HP := Lib.hid (HC.out w1 hr hk1); clear hr hk1 hsz hb1)
    | (go_at_call 13; refine (HP.out).mono ?_; rintro r w2 ⟨rfl, hp⟩; have HF := Lib.hid hp; clear hp))
  all_goals
    go_end0
    exact ⟨rfl, HF.out⟩

end Go.Proofs.Ytahdnapinlbflaa
