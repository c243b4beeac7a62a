/-
  PackNone: its walk.
-/
import Derived.Test.YtahdnapinlbflaaNo
import Derived.Test.YtahdnapinlbflaaItems
namespace Go.Proofs.Ytahdnapinlbflaa
open Go.ChangeShapes Go.WideShapes Go.ChangeAt Go.RowKit
set_option linter.unusedVariables false

def PnPost (w : World) (q : Nat) (u : Value) (e : Ending) (w' : World) : Prop := e = .returned (.tuple #[]) ∧ Kp (PF q u) w w'

set_option maxHeartbeats 1000000 in
theorem putsN_0 {w : World} {B q : Nat} {pv u : Value} {lim l2 e2} {b : Value} {xs : List Int} (V n : Int) (hV0 : 0 ≤ V) (hV1 : V ≤ 18446744073709551615) (hB : B ≤ w.heap.size)
    (hp : NP w pv) (h : RK w B q u lim l2 e2) (hs : Sees w b xs) (hx : xs.length ≤ 900000) :
    Calls Try.prog 13 #[pv, .pointer (some ⟨q, 0, none⟩), .agg #[.int .i64 0, .int .u64 V, b, .int .i64 n]] w (PnPost w q u) := by
  obtain ⟨a, cap, rfl⟩ := sees_form hs
  have hk0 : Kp (fun _ => False) w (w.alloc (.cells #[.int .i64 0, .int .u64 V, .slice a xs.length cap, .int .i64 n] 32)) := (Kp.refl _ _).alloc _
  have hB0 := Nat.le_trans hB hk0.size
  have hs0 := hs.kept hk0 (fun _ _ _ f => f)
  have HF := Lib.hid (nFixed a xs.length cap (hp.kept hk0))
  have HR := Lib.hid (rfixed_any hB0 (h.kept hk0 (fun _ _ f => f)) hs0 (by omega))
  have HK0 := Lib.hid hk0
  clear h hp hk0 hs hs0 hV1 hB0
  go_enter Try.func13, Try.ntmps13
  go_wp2_with fail
  refine (HF.out).mono ?_
  rintro r w1 ⟨rfl, rfl⟩
  go_wp2_with fail
  refine (HR.out).mono ?_
  rintro r w2 ⟨rfl, u1, _, hk2, _⟩
  have HST := Lib.hid (((HK0.out).mono (F := PF q u) (fun _ _ f => f.elim)).trans hk2 (fun _ _ h => h))
  clear hk2
  go_wp2_with fail
  go_end0
  exact ⟨rfl, HST.out⟩

set_option maxHeartbeats 1000000 in
theorem putsN_3 {w : World} {B q : Nat} {pv u : Value} {lim l2 e2} {b : Value} {xs : List Int} (V n : Int) (hV0 : 0 ≤ V) (hV1 : V ≤ 18446744073709551615) (hB : B ≤ w.heap.size)
    (hp : NP w pv) (h : RK w B q u lim l2 e2) (hs : Sees w b xs) (hx : xs.length ≤ 900000) :
    Calls Try.prog 13 #[pv, .pointer (some ⟨q, 0, none⟩), .agg #[.int .i64 3, .int .u64 V, b, .int .i64 n]] w (PnPost w q u) := by
  obtain ⟨a, cap, rfl⟩ := sees_form hs
  have hk0 : Kp (fun _ => False) w (w.alloc (.cells #[.int .i64 3, .int .u64 V, .slice a xs.length cap, .int .i64 n] 32)) := (Kp.refl _ _).alloc _
  have hB0 := Nat.le_trans hB hk0.size
  have hs0 := hs.kept hk0 (fun _ _ _ f => f)
  have HF := Lib.hid (nBytes a xs.length cap (hp.kept hk0) hx)
  have HR := Lib.hid (rbytes_any hB0 (h.kept hk0 (fun _ _ f => f)) hs0 hx)
  have HK0 := Lib.hid hk0
  clear h hp hk0 hs hs0 hV1 hB0
  go_enter Try.func13, Try.ntmps13
  go_wp2_with fail
  refine (HF.out).mono ?_
  rintro r w1 ⟨rfl, rfl⟩
  go_wp2_with fail
  refine (HR.out).mono ?_
  rintro r w2 ⟨rfl, u1, _, hk2, _⟩
  have HST := Lib.hid (((HK0.out).mono (F := PF q u) (fun _ _ f => f.elim)).trans hk2 (fun _ _ h => h))
  clear hk2
  go_wp2_with fail
  go_end0
  exact ⟨rfl, HST.out⟩

set_option maxHeartbeats 1000000 in
theorem putsN_5 {w : World} {B q : Nat} {pv u : Value} {lim l2 e2} {b : Value} {xs : List Int} (V n : Int) (hV0 : 0 ≤ V) (hV1 : V ≤ 18446744073709551615) (hB : B ≤ w.heap.size)
    (hp : NP w pv) (h : RK w B q u lim l2 e2) (hs : Sees w b xs) (hx : xs.length ≤ 900000) :
    Calls Try.prog 13 #[pv, .pointer (some ⟨q, 0, none⟩), .agg #[.int .i64 5, .int .u64 V, b, .int .i64 n]] w (PnPost w q u) := by
  obtain ⟨a, cap, rfl⟩ := sees_form hs
  have hk0 : Kp (fun _ => False) w (w.alloc (.cells #[.int .i64 5, .int .u64 V, .slice a xs.length cap, .int .i64 n] 32)) := (Kp.refl _ _).alloc _
  have hB0 := Nat.le_trans hB hk0.size
  have hs0 := hs.kept hk0 (fun _ _ _ f => f)
  have HF := Lib.hid (nText (strOfNums xs) (hp.kept hk0) (by rw [strOfNums_size]; exact hx))
  have HR := Lib.hid (rtext_any hB0 (h.kept hk0 (fun _ _ f => f)) (s := strOfNums xs) (by rw [strOfNums_size]; exact hx))
  have HK0 := Lib.hid hk0
  have hst0 := run_string_of hs0
  clear h hp hk0 hs hs0 hV1 hB0
  go_enter Try.func13, Try.ntmps13
  go_wp2_with fail
  refine (HF.out).mono ?_
  rintro r w1 ⟨rfl, rfl⟩
  go_wp2_with fail
  refine (HR.out).mono ?_
  rintro r w2 ⟨rfl, u1, _, hk2, _⟩
  have HST := Lib.hid (((HK0.out).mono (F := PF q u) (fun _ _ f => f.elim)).trans hk2 (fun _ _ h => h))
  clear hk2
  go_wp2_with fail
  go_end0
  exact ⟨rfl, HST.out⟩

set_option maxHeartbeats 1000000 in
theorem putsN_1 {w : World} {B q : Nat} {pv u : Value} {lim l2 e2} {b : Value} {xs : List Int} (V n : Int) (hV0 : 0 ≤ V) (hV1 : V ≤ 18446744073709551615) (hB : B ≤ w.heap.size)
    (hp : NP w pv) (h : RK w B q u lim l2 e2) (hs : Sees w b xs) (hx : xs.length ≤ 900000) :
    Calls Try.prog 13 #[pv, .pointer (some ⟨q, 0, none⟩), .agg #[.int .i64 1, .int .u64 V, b, .int .i64 n]] w (PnPost w q u) := by
  obtain ⟨a, cap, rfl⟩ := sees_form hs
  have hk0 : Kp (fun _ => False) w (w.alloc (.cells #[.int .i64 1, .int .u64 V, .slice a xs.length cap, .int .i64 n] 32)) := (Kp.refl _ _).alloc _
  have hB0 := Nat.le_trans hB hk0.size
  have hs0 := hs.kept hk0 (fun _ _ _ f => f)
  have HF := Lib.hid (nByte (V % 256) (by omega) (by omega) (hp.kept hk0))
  have HR := Lib.hid (rnum_any 1 (V % 256) (by omega) (by omega) (by omega) hB0 (h.kept hk0 (fun _ _ f => f)))
  have HK0 := Lib.hid hk0
  clear h hp hk0 hs hs0 hV1 hB0
  go_enter Try.func13, Try.ntmps13
  go_wp2_with fail
  refine (HF.out).mono ?_
  rintro r w1 ⟨rfl, rfl⟩
  go_wp2_with fail
  refine (HR.out).mono ?_
  rintro r w2 ⟨rfl, u1, _, hk2, _⟩
  have HST := Lib.hid (((HK0.out).mono (F := PF q u) (fun _ _ f => f.elim)).trans hk2 (fun _ _ h => h))
  clear hk2
  go_wp2_with fail
  go_end0
  exact ⟨rfl, HST.out⟩

set_option maxHeartbeats 1000000 in
theorem putsN_2 {w : World} {B q : Nat} {pv u : Value} {lim l2 e2} {b : Value} {xs : List Int} (V n : Int) (hV0 : 0 ≤ V) (hV1 : V ≤ 18446744073709551615) (hB : B ≤ w.heap.size)
    (hp : NP w pv) (h : RK w B q u lim l2 e2) (hs : Sees w b xs) (hx : xs.length ≤ 900000) :
    Calls Try.prog 13 #[pv, .pointer (some ⟨q, 0, none⟩), .agg #[.int .i64 2, .int .u64 V, b, .int .i64 n]] w (PnPost w q u) := by
  obtain ⟨a, cap, rfl⟩ := sees_form hs
  have hk0 : Kp (fun _ => False) w (w.alloc (.cells #[.int .i64 2, .int .u64 V, .slice a xs.length cap, .int .i64 n] 32)) := (Kp.refl _ _).alloc _
  have hB0 := Nat.le_trans hB hk0.size
  have hs0 := hs.kept hk0 (fun _ _ _ f => f)
  have HF := Lib.hid (nShort (V % 65536) (by omega) (by omega) (hp.kept hk0))
  have HR := Lib.hid (rnum_any 2 (V % 65536) (by omega) (by omega) (by omega) hB0 (h.kept hk0 (fun _ _ f => f)))
  have HK0 := Lib.hid hk0
  clear h hp hk0 hs hs0 hV1 hB0
  go_enter Try.func13, Try.ntmps13
  go_wp2_with fail
  refine (HF.out).mono ?_
  rintro r w1 ⟨rfl, rfl⟩
  go_wp2_with fail
  refine (HR.out).mono ?_
  rintro r w2 ⟨rfl, u1, _, hk2, _⟩
  have HST := Lib.hid (((HK0.out).mono (F := PF q u) (fun _ _ f => f.elim)).trans hk2 (fun _ _ h => h))
  clear hk2
  go_wp2_with fail
  go_end0
  exact ⟨rfl, HST.out⟩

set_option maxHeartbeats 1000000 in
theorem putsN_4 {w : World} {B q : Nat} {pv u : Value} {lim l2 e2} {b : Value} {xs : List Int} (V n : Int) (hV0 : 0 ≤ V) (hV1 : V ≤ 18446744073709551615) (hB : B ≤ w.heap.size)
    (hp : NP w pv) (h : RK w B q u lim l2 e2) (hs : Sees w b xs) (hx : xs.length ≤ 900000) :
    Calls Try.prog 13 #[pv, .pointer (some ⟨q, 0, none⟩), .agg #[.int .i64 4, .int .u64 V, b, .int .i64 n]] w (PnPost w q u) := by
  obtain ⟨a, cap, rfl⟩ := sees_form hs
  have hk0 : Kp (fun _ => False) w (w.alloc (.cells #[.int .i64 4, .int .u64 V, .slice a xs.length cap, .int .i64 n] 32)) := (Kp.refl _ _).alloc _
  have hB0 := Nat.le_trans hB hk0.size
  have hs0 := hs.kept hk0 (fun _ _ _ f => f)
  have HF := Lib.hid (nInt (V % 4294967296) (by omega) (by omega) (hp.kept hk0))
  have HR := Lib.hid (rnum_any 4 (V % 4294967296) (by omega) (by omega) (by omega) hB0 (h.kept hk0 (fun _ _ f => f)))
  have HK0 := Lib.hid hk0
  clear h hp hk0 hs hs0 hV1 hB0
  go_enter Try.func13, Try.ntmps13
  go_wp2_with fail
  refine (HF.out).mono ?_
  rintro r w1 ⟨rfl, rfl⟩
  go_wp2_with fail
  refine (HR.out).mono ?_
  rintro r w2 ⟨rfl, u1, _, hk2, _⟩
  have HST := Lib.hid (((HK0.out).mono (F := PF q u) (fun _ _ f => f.elim)).trans hk2 (fun _ _ h => h))
  clear hk2
  go_wp2_with fail
  go_end0
  exact ⟨rfl, HST.out⟩

set_option maxHeartbeats 1000000 in
theorem putsN_8 {w : World} {B q : Nat} {pv u : Value} {lim l2 e2} {b : Value} {xs : List Int} (V n : Int) (hV0 : 0 ≤ V) (hV1 : V ≤ 18446744073709551615) (hB : B ≤ w.heap.size)
    (hp : NP w pv) (h : RK w B q u lim l2 e2) (hs : Sees w b xs) (hx : xs.length ≤ 900000) :
    Calls Try.prog 13 #[pv, .pointer (some ⟨q, 0, none⟩), .agg #[.int .i64 8, .int .u64 V, b, .int .i64 n]] w (PnPost w q u) := by
  obtain ⟨a, cap, rfl⟩ := sees_form hs
  have hk0 : Kp (fun _ => False) w (w.alloc (.cells #[.int .i64 8, .int .u64 V, .slice a xs.length cap, .int .i64 n] 32)) := (Kp.refl _ _).alloc _
  have hB0 := Nat.le_trans hB hk0.size
  have hs0 := hs.kept hk0 (fun _ _ _ f => f)
  have HF := Lib.hid (nLong V (hp.kept hk0))
  have HR := Lib.hid (rnum_any 8 V hV0 hV1 (by omega) hB0 (h.kept hk0 (fun _ _ f => f)))
  have HK0 := Lib.hid hk0
  clear h hp hk0 hs hs0 hV1 hB0
  go_enter Try.func13, Try.ntmps13
  go_wp2_with fail
  refine (HF.out).mono ?_
  rintro r w1 ⟨rfl, rfl⟩
  go_wp2_with fail
  refine (HR.out).mono ?_
  rintro r w2 ⟨rfl, u1, _, hk2, _⟩
  have HST := Lib.hid (((HK0.out).mono (F := PF q u) (fun _ _ f => f.elim)).trans hk2 (fun _ _ h => h))
  clear hk2
  go_wp2_with fail
  go_end0
  exact ⟨rfl, HST.out⟩

set_option maxHeartbeats 1000000 in
theorem putsN_else {w : World} {q : Nat} {pv u : Value} {b : Value} {xs : List Int} (d V n : Int) (hd : d ≠ 0 ∧ d ≠ 1 ∧ d ≠ 2 ∧ d ≠ 3 ∧ d ≠ 4 ∧ d ≠ 5 ∧ d ≠ 8) (hs : Sees w b xs) :
    Calls Try.prog 13 #[pv, .pointer (some ⟨q, 0, none⟩), .agg #[.int .i64 d, .int .u64 V, b, .int .i64 n]] w (PnPost w q u) := by
  obtain ⟨a, cap, rfl⟩ := sees_form hs
  have hk0 : Kp (PF q u) w (w.alloc (.cells #[.int .i64 d, .int .u64 V, .slice a xs.length cap, .int .i64 n] 32)) := (Kp.refl _ _).alloc _
  have H0 := Lib.hid hk0
  obtain ⟨d0, d1, d2, d3, d4, d5, d8⟩ := hd
  have b0 : (d == 0) = false := by simpa using d0
  have b1 : (d == 1) = false := by simpa using d1
  have b2 : (d == 2) = false := by simpa using d2
  have b3 : (d == 3) = false := by simpa using d3
  have b4 : (d == 4) = false := by simpa using d4
  have b5 : (d == 5) = false := by simpa using d5
  have b8 : (d == 8) = false := by simpa using d8
  clear hk0 hs d0 d1 d2 d3 d4 d5 d8
  go_enter Try.func13, Try.ntmps13
  go_wp2_with fail
  go_end0
  exact ⟨rfl, H0.out⟩
theorem putsN_any {w : World} {B q : Nat} {pv u : Value} {lim l2 e2} {b : Value} {xs : List Int} (d V n : Int) (hV0 : 0 ≤ V) (hV1 : V ≤ 18446744073709551615) (hB : B ≤ w.heap.size)
    (hp : NP w pv) (h : RK w B q u lim l2 e2) (hs : Sees w b xs) (hx : xs.length ≤ 900000) :
    Calls Try.prog 13 #[pv, .pointer (some ⟨q, 0, none⟩), .agg #[.int .i64 d, .int .u64 V, b, .int .i64 n]] w (PnPost w q u) := by
  by_cases d0 : d = 0
  · subst d0; exact putsN_0 V n hV0 hV1 hB hp h hs hx
  by_cases d1 : d = 1
  · subst d1; exact putsN_1 V n hV0 hV1 hB hp h hs hx
  by_cases d2 : d = 2
  · subst d2; exact putsN_2 V n hV0 hV1 hB hp h hs hx
  by_cases d3 : d = 3
  · subst d3; exact putsN_3 V n hV0 hV1 hB hp h hs hx
  by_cases d4 : d = 4
  · subst d4; exact putsN_4 V n hV0 hV1 hB hp h hs hx
  by_cases d5 : d = 5
  · subst d5; exact putsN_5 V n hV0 hV1 hB hp h hs hx
  by_cases d8 : d = 8
  · subst d8; exact putsN_8 V n hV0 hV1 hB hp h hs hx
  exact putsN_else d V n ⟨d0, d1, d2, d3, d4, d5, d8⟩ hs

set_option maxHeartbeats 2000000 in
theorem putN_any {w : World} {pv b : Value} {xs : List Int} (d V n : Int) (hV0 : 0 ≤ V) (hV1 : V ≤ 18446744073709551615) (hp : NP w pv) (hs : Sees w b xs) (hx : xs.length ≤ 900000) :
    Calls Try.prog 27 #[pv, .agg #[.int .i64 d, .int .u64 V, b, .int .i64 n]] w fun r w' => r = .returned (.tuple #[]) ∧ Kp (fun _ => False) w w' := by
  obtain ⟨a, cap, rfl⟩ := sees_form hs
  have hk0 : Kp (fun _ => False) w (w.alloc (.cells #[.int .i64 d, .int .u64 V, .slice a xs.length cap, .int .i64 n] 32)) := (Kp.refl _ _).alloc _
  have hb0 := new_blk w (.cells #[.int .i64 d, .int .u64 V, .slice a xs.length cap, .int .i64 n] 32)
  have hn0 := newR_any 0 (w := (w.alloc (.cells #[.int .i64 d, .int .u64 V, .slice a xs.length cap, .int .i64 n] 32)).drew) (B := w.heap.size) hk0.size
  have hc0 := fun w1 (hr : RK w1 w.heap.size (w.alloc (.cells #[.int .i64 d, .int .u64 V, .slice a xs.length cap, .int .i64 n] 32)).drew.heap.size (.slice none 0 0) 0 [] 0) (hk1 : Kp (fun _ => False) (w.alloc (.cells #[.int .i64 d, .int .u64 V, .slice a xs.length cap, .int .i64 n] 32)).drew w1) =>
    putsN_any d V n hV0 hV1 (hk0.drew.trans hk1 (fun _ _ f => f)).size (hp.kept (hk0.drew.trans hk1 (fun _ _ f => f))) hr (hs.kept (hk0.drew.trans hk1 (fun _ _ f => f)) (fun _ _ _ f => f)) hx
  have hk9 := fun w1 w2 (hk1 : Kp (fun _ => False) (w.alloc (.cells #[.int .i64 d, .int .u64 V, .slice a xs.length cap, .int .i64 n] 32)).drew w1) (hk2 : Kp (PF (w.alloc (.cells #[.int .i64 d, .int .u64 V, .slice a xs.length cap, .int .i64 n] 32)).drew.heap.size (.slice none 0 0)) w1 w2) =>
    show Kp (fun _ => False) w w2 from (hk0.drew.trans hk1 (fun _ _ f => f)).trans hk2 (fun x hx hh => by
      rcases hh with hh | hh
      · rw [World.size_drew, World.size_alloc] at hh; omega
      · cases hh)
  simp only [World.size_drew, World.size_alloc] at hn0 hc0 hk9
  have HN := Lib.hid hn0
  have HC := Lib.hid hc0
  have HK9 := Lib.hid hk9
  have HB := Lib.hid hb0
  clear hn0 hc0 hk9 hp hs hk0 hb0 hV1
  go_enter Try.func27, Try.ntmps27
  go_wp2
  go_region_with (first
    | (go_at_call 12; refine (HN.out).mono ?_; rintro r w1 ⟨rfl, hr, hk1, hsz⟩; have hb1 := kept_blk (w := (w.alloc (.cells #[.int .i64 d, .int .u64 V, .slice a xs.length cap, .int .i64 n] 32)).drew) HB.out hk1 (fun f => f); have c0 : w1.cell? ⟨w.heap.size, 0, none⟩ = some (.int .i64 d) := (cell_blk hb1 0).trans rfl; have c1 : w1.cell? ⟨w.heap.size, 1, none⟩ = some (.int .u64 V) := (cell_blk hb1 1).trans rfl; have c2 : w1.cell? ⟨w.heap.size, 2, none⟩ = some (.slice a xs.length cap) := (cell_blk hb1 2).trans rfl; have c3 : w1.cell? ⟨w.heap.size, 3, none⟩ = some (.int .i64 n) := (cell_blk hb1 3).trans rfl; have HP := Lib.hid (HC.out w1 hr hk1); have HKK := Lib.hid (fun w2 => HK9.out w1 w2 hk1); clear hr hk1 hsz hb1)
    | (go_at_call 13; refine (HP.out).mono ?_; rintro r w2 ⟨rfl, hk2⟩; have HF := Lib.hid (HKK.out w2 hk2); clear hk2))
  all_goals
    go_end0
    exact ⟨rfl, HF.out⟩

set_option maxHeartbeats 4000000 in
set_option maxRecDepth 10000 in
theorem none_law {W : World} {b : Value} {xs : List Int} (d V n : Int) (hV0 : 0 ≤ V) (hV1 : V ≤ 18446744073709551615) (hs : Sees W b xs) :
    Calls Try.prog 8 #[.agg #[.int .i64 d, .int .u64 V, b, .int .i64 n]] W fun r w' => r = .returned (.bool true) ∧ Kp (fun _ => False) W w' := by
  obtain ⟨a, cap, rfl⟩ := sees_form hs
  have HL := Lib.hid (fun w => live_any w)
  have hk0 : Kp (fun _ => False) W (W.alloc (.cells #[.int .i64 d, .int .u64 V, .slice a xs.length cap, .int .i64 n] 32)) := (Kp.refl _ _).alloc _
  have hb0 := new_blk W (.cells #[.int .i64 d, .int .u64 V, .slice a xs.length cap, .int .i64 n] 32)
  have HK0 := Lib.hid hk0
  have HB0 := Lib.hid hb0
  have HS := Lib.hid hs
  have HV := Lib.hid hV1
  clear hk0 hb0 hs hV1
  go_enter Try.func8, Try.ntmps8
  go_wp2_with fail
  refine (HL.out _).mono ?_
  rintro r w1 ⟨rfl, hk1⟩
  have hb1 := kept_blk HB0.out hk1 (fun f => f)
  have c0 : w1.cell? ⟨W.heap.size, 0, none⟩ = some (.int .i64 d) := (cell_blk hb1 0).trans rfl
  have c1 : w1.cell? ⟨W.heap.size, 1, none⟩ = some (.int .u64 V) := (cell_blk hb1 1).trans rfl
  have c2 : w1.cell? ⟨W.heap.size, 2, none⟩ = some (.slice a xs.length cap) := (cell_blk hb1 2).trans rfl
  have c3 : w1.cell? ⟨W.heap.size, 3, none⟩ = some (.int .i64 n) := (cell_blk hb1 3).trans rfl
  have HK1 := Lib.hid ((HK0.out).trans hk1 (fun _ _ f => f))
  have HB1 := Lib.hid hb1
  clear hk1 hb1
  by_cases hbig : (100000 : Int) < (xs.length : Int)
  · go_wp2_with fail
    refine (HL.out _).mono ?_
    rintro r w2 ⟨rfl, hk2⟩
    have HK2 := Lib.hid ((HK1.out).trans hk2 (fun _ _ f => f))
    clear hk2
    go_wp2_with fail
    go_ret
    exact ⟨rfl, HK2.out⟩
  · have hk2 : Kp (fun _ => False) w1 ((w1.alloc (.cells #[.bool false, .int .i64 0, .slice none 0 0, .int .i64 0] 62)).alloc (.cells #[.pointer none, .pointer (some ⟨w1.heap.size, 0, none⟩)] 25)) := ((Kp.refl _ _).alloc _).alloc _
    have hbz : ((w1.alloc (.cells #[.bool false, .int .i64 0, .slice none 0 0, .int .i64 0] 62)).alloc (.cells #[.pointer none, .pointer (some ⟨w1.heap.size, 0, none⟩)] 25)).heap[w1.heap.size]? = some (.cells #[.bool false, .int .i64 0, .slice none 0 0, .int .i64 0] 62 (0, 0)) :=
      kept_blk (new_blk w1 _) ((Kp.refl (fun _ => False) _).alloc _) (fun f => f)
    have hba := new_blk (w1.alloc (.cells #[.bool false, .int .i64 0, .slice none 0 0, .int .i64 0] 62)) (.cells #[.pointer none, .pointer (some ⟨w1.heap.size, 0, none⟩)] 25)
    have hstart := Kp.refl (fun _ => False) ((w1.alloc (.cells #[.bool false, .int .i64 0, .slice none 0 0, .int .i64 0] 62)).alloc (.cells #[.pointer none, .pointer (some ⟨w1.heap.size, 0, none⟩)] 25))
    rw [World.size_alloc] at hba
    have H2 := Lib.hid hk2
    have HBZ := Lib.hid hbz
    have HBA := Lib.hid hba
    have HST := Lib.hid hstart
    have HBIG := Lib.hid hbig
    have hn2 : ¬ (100000 : Int) < (xs.length : Int) := hbig
    clear hk2 hbz hba hstart hbig
    go_wp2_with fail
    go_loopw [22] (fun i wr => ∃ k : Nat, k ≤ 2 ∧ i = .int .i64 k ∧ Hid (Kp (fun _ => False) ((w1.alloc (.cells #[.bool false, .int .i64 0, .slice none 0 0, .int .i64 0] 62)).alloc (.cells #[.pointer none, .pointer (some ⟨w1.heap.size, 0, none⟩)] 25)) wr)) (fun i _ => 2 - (intOf i).toNat)
    case atStart => exact ⟨0, by omega, rfl, HST⟩
    case round =>
      obtain ⟨k, hk, rfl, hrel⟩ := hrel
      have hkw := ((HK1.out).trans (H2.out) (fun _ _ f => f)).trans hrel.out (fun _ _ f => f)
      by_cases hlt : k < 2
      · have hb9 := kept_blk HB1.out ((H2.out).trans hrel.out (fun _ _ f => f)) (fun f => f)
        have e0 : wr.cell? ⟨W.heap.size, 0, none⟩ = some (.int .i64 d) := (cell_blk hb9 0).trans rfl
        have e1 : wr.cell? ⟨W.heap.size, 1, none⟩ = some (.int .u64 V) := (cell_blk hb9 1).trans rfl
        have e2 : wr.cell? ⟨W.heap.size, 2, none⟩ = some (.slice a xs.length cap) := (cell_blk hb9 2).trans rfl
        have e3 : wr.cell? ⟨W.heap.size, 3, none⟩ = some (.int .i64 n) := (cell_blk hb9 3).trans rfl
        obtain ⟨pv, hc, hnp⟩ : ∃ pv, wr.cell? ⟨w1.heap.size + 1, k, none⟩ = some pv ∧ NP wr pv := by
          have hb7 := kept_blk HBA.out hrel.out (fun f => f)
          have hb8 := kept_blk HBZ.out hrel.out (fun f => f)
          rcases (by omega : k = 0 ∨ k = 1) with rfl | rfl
          · exact ⟨_, (cell_blk hb7 0).trans rfl, .inl rfl⟩
          · exact ⟨_, (cell_blk hb7 1).trans rfl, .inr ⟨_, rfl, hb8⟩⟩
        have HP := Lib.hid (putN_any d V n hV0 HV.out hnp ((HS.out).kept hkw (fun _ _ _ f => f)) (by have := HBIG.out; omega))
        have HNP := Lib.hid hnp
        have HREL := hrel
        have HKW := Lib.hid hkw
        clear hb9 hnp hrel hkw
        go_wp2_with fail
        refine (HP.out).mono ?_
        rintro r w3 ⟨rfl, hk3⟩
        have HNP3 := Lib.hid ((HNP.out).kept hk3)
        have HNX := Lib.hid ((HREL.out).trans hk3 (fun _ _ f => f))
        clear hk3
        go_wp2_with fail
        refine (nOut HNP3.out).mono ?_
        rintro r w4 ⟨rfl, rfl⟩
        go_wp2_with fail
        refine (nLen HNP3.out).mono ?_
        rintro r w4 ⟨rfl, rfl⟩
        go_wp2_with fail
        refine (nErr HNP3.out).mono ?_
        rintro r w4 ⟨rfl, rfl⟩
        go_wp2_with fail
        go_roundw
        case rel => exact ⟨k + 1, by omega, by go_num, HNX⟩
        case measure => simp [intOf]; omega
      · have HKO := Lib.hid hkw
        have hb6 := kept_blk HB1.out ((H2.out).trans hrel.out (fun _ _ f => f)) (fun f => f)
        have HB6 := Lib.hid hb6
        clear hrel hkw hb6
        obtain ⟨wo, rfl⟩ : ∃ wo : World, wo = wr := ⟨_, rfl⟩
        have hk2 : Kp (fun _ => False) wo ((wo.alloc (.cells #[.bool false, .slice none 0 0, .int .i64 0] 65)).alloc (.cells #[.pointer none, .pointer (some ⟨wo.heap.size, 0, none⟩)] 44)) := ((Kp.refl _ _).alloc _).alloc _
        have hbz : ((wo.alloc (.cells #[.bool false, .slice none 0 0, .int .i64 0] 65)).alloc (.cells #[.pointer none, .pointer (some ⟨wo.heap.size, 0, none⟩)] 44)).heap[wo.heap.size]? = some (.cells #[.bool false, .slice none 0 0, .int .i64 0] 65 (0, 0)) :=
          kept_blk (new_blk wo _) ((Kp.refl (fun _ => False) _).alloc _) (fun f => f)
        have hba := new_blk (wo.alloc (.cells #[.bool false, .slice none 0 0, .int .i64 0] 65)) (.cells #[.pointer none, .pointer (some ⟨wo.heap.size, 0, none⟩)] 44)
        have hstart := Kp.refl (fun _ => False) ((wo.alloc (.cells #[.bool false, .slice none 0 0, .int .i64 0] 65)).alloc (.cells #[.pointer none, .pointer (some ⟨wo.heap.size, 0, none⟩)] 44))
        rw [World.size_alloc] at hba
        have G2 := Lib.hid hk2
        have GBZ := Lib.hid hbz
        have GBA := Lib.hid hba
        have GST := Lib.hid hstart
        clear hk2 hbz hba hstart
        go_wp2_with fail
        go_loopw [56] (fun i wr => ∃ k : Nat, k ≤ 2 ∧ i = .int .i64 k ∧ Hid (Kp (fun _ => False) ((wo.alloc (.cells #[.bool false, .slice none 0 0, .int .i64 0] 65)).alloc (.cells #[.pointer none, .pointer (some ⟨wo.heap.size, 0, none⟩)] 44)) wr)) (fun i _ => 2 - (intOf i).toNat)
        case atStart => exact ⟨0, by omega, rfl, GST⟩
        case round =>
          obtain ⟨m, hm, rfl, hrel⟩ := hrel
          have hkw := ((HKO.out).trans (G2.out) (fun _ _ f => f)).trans hrel.out (fun _ _ f => f)
          by_cases hlt2 : m < 2
          · have hb9 := kept_blk HB6.out ((G2.out).trans hrel.out (fun _ _ f => f)) (fun f => f)
            have e3 : wr.cell? ⟨W.heap.size, 3, none⟩ = some (.int .i64 n) := (cell_blk hb9 3).trans rfl
            obtain ⟨pv, hc, hnp⟩ : ∃ pv, wr.cell? ⟨wo.heap.size + 1, m, none⟩ = some pv ∧ NU wr pv := by
              have hb7 := kept_blk GBA.out hrel.out (fun f => f)
              have hb8 := kept_blk GBZ.out hrel.out (fun f => f)
              rcases (by omega : m = 0 ∨ m = 1) with rfl | rfl
              · exact ⟨_, (cell_blk hb7 0).trans rfl, .inl rfl⟩
              · exact ⟨_, (cell_blk hb7 1).trans rfl, .inr ⟨_, rfl, hb8⟩⟩
            have HNP := Lib.hid hnp
            have HREL := hrel
            clear hb9 hnp hrel hkw
            go_wp2_with fail
            refine (mByte HNP.out).mono ?_
            rintro r w4 ⟨rfl, rfl⟩
            go_wp2_with fail
            refine (mShort HNP.out).mono ?_
            rintro r w4 ⟨rfl, rfl⟩
            go_wp2_with fail
            refine (mInt HNP.out).mono ?_
            rintro r w4 ⟨rfl, rfl⟩
            go_wp2_with fail
            refine (mLong HNP.out).mono ?_
            rintro r w4 ⟨rfl, rfl⟩
            go_wp2_with fail
            refine (mFixed n HNP.out).mono ?_
            rintro r w4 ⟨rfl, rfl⟩
            go_wp2_with fail
            refine (mBytes n HNP.out).mono ?_
            rintro r w4 ⟨rfl, rfl⟩
            go_wp2_with fail
            refine (mText n HNP.out).mono ?_
            rintro r w4 ⟨rfl, rfl⟩
            go_wp2_with fail
            refine (mRest HNP.out).mono ?_
            rintro r w4 ⟨rfl, rfl⟩
            go_wp2_with fail
            refine (mErr HNP.out).mono ?_
            rintro r w4 ⟨rfl, rfl⟩
            go_wp2_with fail
            refine (mEnd HNP.out).mono ?_
            rintro r w4 ⟨rfl, rfl⟩
            go_wp2_with fail
            go_roundw
            case rel => exact ⟨m + 1, by omega, by go_num, HREL⟩
            case measure => simp [intOf]; omega
          · have HZ := Lib.hid hkw
            clear hrel hkw
            go_wp2_with fail
            go_ret
            exact ⟨rfl, HZ.out⟩

end Go.Proofs.Ytahdnapinlbflaa
