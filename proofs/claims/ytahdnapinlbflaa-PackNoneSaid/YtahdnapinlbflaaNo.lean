/-
  A packer and an unpacker that no call made: nothing is done, and told is that.
-/
import Derived.Test.YtahdnapinlbflaaPt
import Derived.Test.YtahdnapinlbflaaUc
import Derived.Deep.RegionWith
namespace Go.Proofs.Ytahdnapinlbflaa
open Go.ChangeShapes Go.WideShapes Go.ChangeAt Go.RowKit

/-- nil, or a zero struct -/
def NP (w : World) (pv : Value) : Prop := pv = .pointer none ∨ ∃ p, pv = .pointer (some ⟨p, 0, none⟩) ∧ w.heap[p]? = some (.cells #[.bool false, .int .i64 0, .slice none 0 0, .int .i64 0] 62 (0, 0))
def NU (w : World) (uv : Value) : Prop := uv = .pointer none ∨ ∃ p, uv = .pointer (some ⟨p, 0, none⟩) ∧ w.heap[p]? = some (.cells #[.bool false, .slice none 0 0, .int .i64 0] 65 (0, 0))
theorem NP.kept {w w' : World} {pv : Value} (h : NP w pv) (k : Kp (fun _ => False) w w') : NP w' pv := by
  rcases h with h | ⟨p, h, hb⟩
  · exact .inl h
  · exact .inr ⟨p, h, kept_blk hb k (fun f => f)⟩
theorem NU.kept {w w' : World} {pv : Value} (h : NU w pv) (k : Kp (fun _ => False) w w') : NU w' pv := by
  rcases h with h | ⟨p, h, hb⟩
  · exact .inl h
  · exact .inr ⟨p, h, kept_blk hb k (fun f => f)⟩
def Same (w : World) (v : Value) (e : Ending) (w' : World) : Prop := e = .returned v ∧ w = w'

set_option maxHeartbeats 400000 in
theorem nErr {w : World} {pv : Value} (h : NP w pv) : Calls Try.prog 15 #[pv] w (Same w (.int .i64 2)) := by
  rcases h with rfl | ⟨p, rfl, hb⟩
  · go_enter Try.func15, Try.ntmps15
    go_wp2_with go_in
    go_ret
    exact ⟨rfl, rfl⟩
  · have c0 : w.cell? ⟨p, 0, none⟩ = some (.bool false) := by rw [cell_blk hb]; rfl
    have c1 : w.cell? ⟨p, 1, none⟩ = some (.int .i64 0) := by rw [cell_blk hb]; rfl
    have c2 : w.cell? ⟨p, 2, none⟩ = some (.slice none 0 0) := by rw [cell_blk hb]; rfl
    have c3 : w.cell? ⟨p, 3, none⟩ = some (.int .i64 0) := by rw [cell_blk hb]; rfl
    clear hb
    go_enter Try.func15, Try.ntmps15
    go_wp2_with go_in
    go_ret
    exact ⟨rfl, rfl⟩

set_option maxHeartbeats 400000 in
theorem nLen {w : World} {pv : Value} (h : NP w pv) : Calls Try.prog 14 #[pv] w (Same w (.int .i64 0)) := by
  rcases h with rfl | ⟨p, rfl, hb⟩
  · go_enter Try.func14, Try.ntmps14
    go_wp2_with go_in
    go_ret
    exact ⟨rfl, rfl⟩
  · have c0 : w.cell? ⟨p, 0, none⟩ = some (.bool false) := by rw [cell_blk hb]; rfl
    have c1 : w.cell? ⟨p, 1, none⟩ = some (.int .i64 0) := by rw [cell_blk hb]; rfl
    have c2 : w.cell? ⟨p, 2, none⟩ = some (.slice none 0 0) := by rw [cell_blk hb]; rfl
    have c3 : w.cell? ⟨p, 3, none⟩ = some (.int .i64 0) := by rw [cell_blk hb]; rfl
    clear hb
    go_enter Try.func14, Try.ntmps14
    go_wp2_with go_in
    go_ret
    exact ⟨rfl, rfl⟩

set_option maxHeartbeats 400000 in
theorem nOut {w : World} {pv : Value} (h : NP w pv) : Calls Try.prog 16 #[pv] w (Same w (.tuple #[.slice none 0 0, .int .i64 2])) := by
  rcases h with rfl | ⟨p, rfl, hb⟩
  · go_enter Try.func16, Try.ntmps16
    go_wp2_with go_in
    go_ret2
    exact ⟨rfl, rfl⟩
  · have c0 : w.cell? ⟨p, 0, none⟩ = some (.bool false) := by rw [cell_blk hb]; rfl
    have c1 : w.cell? ⟨p, 1, none⟩ = some (.int .i64 0) := by rw [cell_blk hb]; rfl
    have c2 : w.cell? ⟨p, 2, none⟩ = some (.slice none 0 0) := by rw [cell_blk hb]; rfl
    have c3 : w.cell? ⟨p, 3, none⟩ = some (.int .i64 0) := by rw [cell_blk hb]; rfl
    clear hb
    go_enter Try.func16, Try.ntmps16
    go_wp2_with go_in
    go_ret2
    exact ⟨rfl, rfl⟩

set_option maxHeartbeats 400000 in
theorem nRoom {w : World} {pv : Value} (n : Int) (h : NP w pv) : Calls Try.prog 58 #[pv, .int .i64 n] w (Same w (.slice none 0 0)) := by
  rcases h with rfl | ⟨p, rfl, hb⟩
  · go_enter Try.func58, Try.ntmps58
    go_wp2_with go_in
    go_ret
    exact ⟨rfl, rfl⟩
  · have c0 : w.cell? ⟨p, 0, none⟩ = some (.bool false) := by rw [cell_blk hb]; rfl
    have c1 : w.cell? ⟨p, 1, none⟩ = some (.int .i64 0) := by rw [cell_blk hb]; rfl
    have c2 : w.cell? ⟨p, 2, none⟩ = some (.slice none 0 0) := by rw [cell_blk hb]; rfl
    have c3 : w.cell? ⟨p, 3, none⟩ = some (.int .i64 0) := by rw [cell_blk hb]; rfl
    clear hb
    go_enter Try.func58, Try.ntmps58
    go_wp2_with go_in
    go_ret
    exact ⟨rfl, rfl⟩

set_option maxHeartbeats 400000 in
theorem nByte {w : World} {pv : Value} (x : Int) (hx0 : 0 ≤ x) (hx1 : x ≤ 255) (h : NP w pv) : Calls Try.prog 42 #[pv, .int .u8 x] w (Same w (.tuple #[])) := by
  have HR := Lib.hid (fun n => nRoom n h)
  have HE := Lib.hid (nErr h)
  clear h
  go_enter Try.func42, Try.ntmps42
  go_wp2_with fail
  refine (HR.out _).mono ?_
  rintro r w1 ⟨rfl, rfl⟩
  go_wp2_with fail
  refine (setNumber_nil _ _).mono ?_
  rintro r w1 ⟨rfl, rfl⟩
  go_wp2_with fail
  go_end0
  exact ⟨rfl, rfl⟩

set_option maxHeartbeats 400000 in
theorem nShort {w : World} {pv : Value} (x : Int) (hx0 : 0 ≤ x) (hx1 : x ≤ 65535) (h : NP w pv) : Calls Try.prog 37 #[pv, .int .u16 x] w (Same w (.tuple #[])) := by
  have HR := Lib.hid (fun n => nRoom n h)
  have HE := Lib.hid (nErr h)
  clear h
  go_enter Try.func37, Try.ntmps37
  go_wp2_with fail
  refine (HR.out _).mono ?_
  rintro r w1 ⟨rfl, rfl⟩
  go_wp2_with fail
  refine (setNumber_nil _ _).mono ?_
  rintro r w1 ⟨rfl, rfl⟩
  go_wp2_with fail
  go_end0
  exact ⟨rfl, rfl⟩

set_option maxHeartbeats 400000 in
theorem nInt {w : World} {pv : Value} (x : Int) (hx0 : 0 ≤ x) (hx1 : x ≤ 4294967295) (h : NP w pv) : Calls Try.prog 45 #[pv, .int .u32 x] w (Same w (.tuple #[])) := by
  have HR := Lib.hid (fun n => nRoom n h)
  have HE := Lib.hid (nErr h)
  clear h
  go_enter Try.func45, Try.ntmps45
  go_wp2_with fail
  refine (HR.out _).mono ?_
  rintro r w1 ⟨rfl, rfl⟩
  go_wp2_with fail
  refine (setNumber_nil _ _).mono ?_
  rintro r w1 ⟨rfl, rfl⟩
  go_wp2_with fail
  go_end0
  exact ⟨rfl, rfl⟩

set_option maxHeartbeats 400000 in
theorem nLong {w : World} {pv : Value} (x : Int) (h : NP w pv) : Calls Try.prog 47 #[pv, .int .u64 x] w (Same w (.tuple #[])) := by
  have HR := Lib.hid (fun n => nRoom n h)
  have HE := Lib.hid (nErr h)
  clear h
  go_enter Try.func47, Try.ntmps47
  go_wp2_with fail
  refine (HR.out _).mono ?_
  rintro r w1 ⟨rfl, rfl⟩
  go_wp2_with fail
  refine (setNumber_nil _ _).mono ?_
  rintro r w1 ⟨rfl, rfl⟩
  go_wp2_with fail
  go_end0
  exact ⟨rfl, rfl⟩

set_option maxHeartbeats 400000 in
theorem nFixed {w : World} {pv : Value} (a : Option Addr) (n c : Nat) (h : NP w pv) : Calls Try.prog 40 #[pv, .slice a n c] w (Same w (.tuple #[])) := by
  have HR := Lib.hid (fun n => nRoom n h)
  have HE := Lib.hid (nErr h)
  clear h
  go_enter Try.func40, Try.ntmps40
  go_wp2_with fail
  refine (HR.out _).mono ?_
  rintro r w1 ⟨rfl, rfl⟩
  have hcp := run_copy_zero 30 30 Try.underlying30 w none a 0 0 n c (.inl rfl)
  go_wp2_with fail
  go_end0
  exact ⟨rfl, rfl⟩

set_option maxHeartbeats 400000 in
theorem nBytes {w : World} {pv : Value} (a : Option Addr) (n c : Nat) (h : NP w pv) (hn : n ≤ 900000) : Calls Try.prog 38 #[pv, .slice a n c] w (Same w (.tuple #[])) := by
  have HR := Lib.hid (fun n => nRoom n h)
  have HE := Lib.hid (nErr h)
  clear h
  go_enter Try.func38, Try.ntmps38
  go_wp2_with fail
  refine (HR.out _).mono ?_
  rintro r w1 ⟨rfl, rfl⟩
  go_wp2_with fail
  go_end0
  exact ⟨rfl, rfl⟩

set_option maxHeartbeats 400000 in
theorem nText {w : World} {pv : Value} (s : ByteArray) (h : NP w pv) (hn : s.size ≤ 900000) : Calls Try.prog 39 #[pv, .string s] w (Same w (.tuple #[])) := by
  have HR := Lib.hid (fun n => nRoom n h)
  have HE := Lib.hid (nErr h)
  clear h
  go_enter Try.func39, Try.ntmps39
  go_wp2_with fail
  refine (HE.out).mono ?_
  rintro r w1 ⟨rfl, rfl⟩
  go_wp2_with fail
  refine (HR.out _).mono ?_
  rintro r w1 ⟨rfl, rfl⟩
  go_wp2_with fail
  go_end0
  exact ⟨rfl, rfl⟩

set_option maxHeartbeats 400000 in
theorem mErr {w : World} {pv : Value} (h : NU w pv) : Calls Try.prog 24 #[pv] w (Same w (.int .i64 2)) := by
  rcases h with rfl | ⟨p, rfl, hb⟩
  · go_enter Try.func24, Try.ntmps24
    go_wp2_with go_in
    go_ret
    exact ⟨rfl, rfl⟩
  · have c0 : w.cell? ⟨p, 0, none⟩ = some (.bool false) := by rw [cell_blk hb]; rfl
    have c1 : w.cell? ⟨p, 1, none⟩ = some (.slice none 0 0) := by rw [cell_blk hb]; rfl
    have c2 : w.cell? ⟨p, 2, none⟩ = some (.int .i64 0) := by rw [cell_blk hb]; rfl
    clear hb
    go_enter Try.func24, Try.ntmps24
    go_wp2_with go_in
    go_ret
    exact ⟨rfl, rfl⟩

set_option maxHeartbeats 400000 in
theorem mRest {w : World} {pv : Value} (h : NU w pv) : Calls Try.prog 23 #[pv] w (Same w (.int .i64 0)) := by
  rcases h with rfl | ⟨p, rfl, hb⟩
  · go_enter Try.func23, Try.ntmps23
    go_wp2_with go_in
    go_ret
    exact ⟨rfl, rfl⟩
  · have c0 : w.cell? ⟨p, 0, none⟩ = some (.bool false) := by rw [cell_blk hb]; rfl
    have c1 : w.cell? ⟨p, 1, none⟩ = some (.slice none 0 0) := by rw [cell_blk hb]; rfl
    have c2 : w.cell? ⟨p, 2, none⟩ = some (.int .i64 0) := by rw [cell_blk hb]; rfl
    clear hb
    go_enter Try.func23, Try.ntmps23
    go_wp2_with go_in
    go_ret
    exact ⟨rfl, rfl⟩

set_option maxHeartbeats 400000 in
theorem mEnd {w : World} {pv : Value} (h : NU w pv) : Calls Try.prog 25 #[pv] w (Same w (.int .i64 2)) := by
  rcases h with rfl | ⟨p, rfl, hb⟩
  · go_enter Try.func25, Try.ntmps25
    go_wp2_with go_in
    go_ret
    exact ⟨rfl, rfl⟩
  · have c0 : w.cell? ⟨p, 0, none⟩ = some (.bool false) := by rw [cell_blk hb]; rfl
    have c1 : w.cell? ⟨p, 1, none⟩ = some (.slice none 0 0) := by rw [cell_blk hb]; rfl
    have c2 : w.cell? ⟨p, 2, none⟩ = some (.int .i64 0) := by rw [cell_blk hb]; rfl
    clear hb
    go_enter Try.func25, Try.ntmps25
    go_wp2_with go_in
    go_ret
    exact ⟨rfl, rfl⟩

set_option maxHeartbeats 400000 in
theorem mTake {w : World} {pv : Value} (n : Int) (h : NU w pv) : Calls Try.prog 55 #[pv, .int .i64 n] w (Same w (.slice none 0 0)) := by
  rcases h with rfl | ⟨p, rfl, hb⟩
  · go_enter Try.func55, Try.ntmps55
    go_wp2_with go_in
    go_ret
    exact ⟨rfl, rfl⟩
  · have c0 : w.cell? ⟨p, 0, none⟩ = some (.bool false) := by rw [cell_blk hb]; rfl
    have c1 : w.cell? ⟨p, 1, none⟩ = some (.slice none 0 0) := by rw [cell_blk hb]; rfl
    have c2 : w.cell? ⟨p, 2, none⟩ = some (.int .i64 0) := by rw [cell_blk hb]; rfl
    clear hb
    go_enter Try.func55, Try.ntmps55
    go_wp2_with go_in
    go_ret
    exact ⟨rfl, rfl⟩

set_option maxHeartbeats 400000 in
theorem mCounted {w : World} {pv : Value} (hd n : Int) (h : NU w pv) : Calls Try.prog 56 #[pv, .int .i64 hd, .int .i64 n] w (Same w (.slice none 0 0)) := by
  rcases h with rfl | ⟨p, rfl, hb⟩
  · go_enter Try.func56, Try.ntmps56
    go_wp2_with go_in
    go_ret
    exact ⟨rfl, rfl⟩
  · have c0 : w.cell? ⟨p, 0, none⟩ = some (.bool false) := by rw [cell_blk hb]; rfl
    have c1 : w.cell? ⟨p, 1, none⟩ = some (.slice none 0 0) := by rw [cell_blk hb]; rfl
    have c2 : w.cell? ⟨p, 2, none⟩ = some (.int .i64 0) := by rw [cell_blk hb]; rfl
    clear hb
    go_enter Try.func56, Try.ntmps56
    go_wp2_with go_in
    go_ret
    exact ⟨rfl, rfl⟩

theorem numNil (w : World) : Calls Try.prog 54 #[.slice none 0 0] w (Same w (.int .u64 0)) := number_any (xs := []) (.inl ⟨rfl, rfl⟩) (fun _ h => by cases h) (by simp)
set_option maxHeartbeats 400000 in
theorem cloneNil (w : World) : Calls Try.prog 48 #[.slice none 0 0] w (Same w (.slice none 0 0)) := by
  have hq := fun (w : World) (a : Option Addr) (n c : Nat) => Lib.run_eql_slice_nil (P := Try.prog) w 30 5 a n c 0 0 Try.underlying30
  go_enter Try.func48, Try.ntmps48
  go_wp2_with fail
  go_ret
  exact ⟨rfl, rfl⟩

set_option maxHeartbeats 400000 in
theorem mByte {w : World} {pv : Value} (h : NU w pv) : Calls Try.prog 30 #[pv] w (Same w (.int .u8 0)) := by
  have H1 := Lib.hid (mTake 1 h)
  have H2 := Lib.hid (numNil w)
  clear h
  go_enter Try.func30, Try.ntmps30
  go_wp2_with fail
  refine (H1.out).mono ?_
  rintro r w1 ⟨rfl, rfl⟩
  go_wp2_with fail
  refine (H2.out).mono ?_
  rintro r w1 ⟨rfl, rfl⟩
  go_wp2_with fail
  go_ret
  exact ⟨rfl, rfl⟩

set_option maxHeartbeats 400000 in
theorem mShort {w : World} {pv : Value} (h : NU w pv) : Calls Try.prog 31 #[pv] w (Same w (.int .u16 0)) := by
  have H1 := Lib.hid (mTake 2 h)
  have H2 := Lib.hid (numNil w)
  clear h
  go_enter Try.func31, Try.ntmps31
  go_wp2_with fail
  refine (H1.out).mono ?_
  rintro r w1 ⟨rfl, rfl⟩
  go_wp2_with fail
  refine (H2.out).mono ?_
  rintro r w1 ⟨rfl, rfl⟩
  go_wp2_with fail
  go_ret
  exact ⟨rfl, rfl⟩

set_option maxHeartbeats 400000 in
theorem mInt {w : World} {pv : Value} (h : NU w pv) : Calls Try.prog 32 #[pv] w (Same w (.int .u32 0)) := by
  have H1 := Lib.hid (mTake 4 h)
  have H2 := Lib.hid (numNil w)
  clear h
  go_enter Try.func32, Try.ntmps32
  go_wp2_with fail
  refine (H1.out).mono ?_
  rintro r w1 ⟨rfl, rfl⟩
  go_wp2_with fail
  refine (H2.out).mono ?_
  rintro r w1 ⟨rfl, rfl⟩
  go_wp2_with fail
  go_ret
  exact ⟨rfl, rfl⟩

set_option maxHeartbeats 400000 in
theorem mLong {w : World} {pv : Value} (h : NU w pv) : Calls Try.prog 33 #[pv] w (Same w (.int .u64 0)) := by
  have H1 := Lib.hid (mTake 8 h)
  have H2 := Lib.hid (numNil w)
  clear h
  go_enter Try.func33, Try.ntmps33
  go_wp2_with fail
  refine (H1.out).mono ?_
  rintro r w1 ⟨rfl, rfl⟩
  go_wp2_with fail
  refine (H2.out).mono ?_
  rintro r w1 ⟨rfl, rfl⟩
  go_wp2_with fail
  go_ret
  exact ⟨rfl, rfl⟩

set_option maxHeartbeats 400000 in
theorem mFixed {w : World} {pv : Value} (n : Int) (h : NU w pv) : Calls Try.prog 34 #[pv, .int .i64 n] w (Same w (.slice none 0 0)) := by
  have H1 := Lib.hid (mTake n h)
  have H2 := Lib.hid (cloneNil w)
  clear h
  go_enter Try.func34, Try.ntmps34
  go_wp2_with fail
  refine (H1.out).mono ?_
  rintro r w1 ⟨rfl, rfl⟩
  go_wp2_with fail
  refine (H2.out).mono ?_
  rintro r w1 ⟨rfl, rfl⟩
  go_wp2_with fail
  go_ret
  exact ⟨rfl, rfl⟩

set_option maxHeartbeats 400000 in
theorem mBytes {w : World} {pv : Value} (n : Int) (h : NU w pv) : Calls Try.prog 35 #[pv, .int .i64 n] w (Same w (.slice none 0 0)) := by
  have H1 := Lib.hid (mCounted 4 n h)
  have H2 := Lib.hid (cloneNil w)
  clear h
  go_enter Try.func35, Try.ntmps35
  go_wp2_with fail
  refine (H1.out).mono ?_
  rintro r w1 ⟨rfl, rfl⟩
  go_wp2_with fail
  refine (H2.out).mono ?_
  rintro r w1 ⟨rfl, rfl⟩
  go_wp2_with fail
  go_ret
  exact ⟨rfl, rfl⟩

set_option maxHeartbeats 400000 in
theorem mText {w : World} {pv : Value} (n : Int) (h : NU w pv) : Calls Try.prog 36 #[pv, .int .i64 n] w (Same w (.string ByteArray.empty)) := by
  have H1 := Lib.hid (mCounted 2 n h)
  have hst := run_convert_bytes_nil w 30 5 Try.underlying30 Try.underlying5 0 0 9 Try.underlying9
  clear h
  go_enter Try.func36, Try.ntmps36
  go_wp2_with fail
  refine (H1.out).mono ?_
  rintro r w1 ⟨rfl, rfl⟩
  go_wp2_with fail
  go_ret
  exact ⟨rfl, rfl⟩

end Go.Proofs.Ytahdnapinlbflaa
