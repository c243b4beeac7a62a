/-
  Contracts of package pack's packer: a new one, a text put, how many bytes there are, the first error, all bytes.
-/
import Derived.Test.YtleapcbkkggecaaPkB
import Derived.Test.YtleapcbkkggecaaBy
namespace Go.Proofs.Ytleapcbkkggecaa
open Go.ChangeShapes Go.WideShapes Go.ChangeAt Go.RowKit

theorem PK.form {w : World} {B p : Nat} {v : Value} {lim : Int} {l : List Int} {e : Int} (h : PK w B p v lim l e) : ∃ a cap, v = .slice a l.length cap := sees_form h.own.sees

set_option maxHeartbeats 400000 in
theorem newP_any (n : Int) {w : World} {B : Nat} (hB : B ≤ w.heap.size) :
    Calls Try.prog 36 #[.int .i64 n] w fun e w' => e = .returned (.pointer (some ⟨w.heap.size, 0, none⟩)) ∧ PK w' B w.heap.size (.slice none 0 0) n [] (if 0 ≤ n ∧ n ≤ 8192 then 0 else 1) ∧ Kp (fun _ => False) w w' ∧ w'.heap.size = w.heap.size + 1 := by
  have hk : Kp (fun _ => False) w (w.alloc (.cells #[.bool true, .int .i64 n, .slice none 0 0, .int .i64 0] 84)) := (Kp.refl _ _).alloc _
  have hnew := new_blk w (.cells #[.bool true, .int .i64 n, .slice none 0 0, .int .i64 0] 84)
  by_cases hb : 0 ≤ n ∧ n ≤ 8192
  · rw [if_pos hb]
    have hp : PK (w.alloc (.cells #[.bool true, .int .i64 n, .slice none 0 0, .int .i64 0] 84)) B w.heap.size (.slice none 0 0) n [] 0 :=
      ⟨hnew, .inl ⟨rfl, rfl⟩, (fun h => by cases h), hB, fun _ => ⟨hb.1, hb.2, hb.1⟩⟩
    obtain ⟨h0, h1⟩ := hb
    have HP := Lib.hid hp
    clear hp hnew
    go_enter Try.func36, Try.ntmps36
    go_wp2
    go_ret
    exact ⟨rfl, HP.out, hk, by simp⟩
  · rw [if_neg hb]
    have hp : PK (w.alloc (.cells #[.bool true, .int .i64 n, .slice none 0 0, .int .i64 1] 84)) B w.heap.size (.slice none 0 0) n [] 1 :=
      ⟨new_blk w _, .inl ⟨rfl, rfl⟩, (fun h => by cases h), hB, (fun h => by cases h)⟩
    have hk2 : Kp (fun _ => False) w (w.alloc (.cells #[.bool true, .int .i64 n, .slice none 0 0, .int .i64 1] 84)) := (Kp.refl _ _).alloc _
    have HP := Lib.hid hp
    have HK := Lib.hid hk2
    have hor : n < 0 ∨ 0 ≤ n ∧ 8192 < n := by omega
    clear hp hnew hk hk2 hb
    rcases hor with h0 | ⟨h0, h1⟩
    all_goals
      go_enter Try.func36, Try.ntmps36
      go_wp2
      go_ret
      exact ⟨rfl, HP.out, HK.out, by simp⟩

set_option maxHeartbeats 400000 in
theorem perr_any {w : World} {B p : Nat} {v : Value} {lim : Int} {l : List Int} {e : Int} (h : PK w B p v lim l e) :
    Calls Try.prog 55 #[.pointer (some ⟨p, 0, none⟩)] w fun r w' => r = .returned (.int .i64 e) ∧ w = w' := by
  obtain ⟨c0, c1, c2, c3, cf⟩ := h.cells
  clear h cf
  go_enter Try.func55, Try.ntmps55
  go_wp2
  go_ret
  exact ⟨rfl, rfl⟩

/-- all bytes, in new memory, or the error -/
def OutP (w : World) (l : List Int) (e : Int) (r : Ending) (w' : World) : Prop :=
  ∃ v', r = .returned (.tuple #[v', .int .i64 e]) ∧ OwnB w' w.heap.size v' (if e = 0 then l else []) ∧ Kp (fun _ => False) w w'
set_option maxHeartbeats 400000 in
theorem pout_any {w : World} {B p : Nat} {v : Value} {lim : Int} {l : List Int} {e : Int} (h : PK w B p v lim l e) :
    Calls Try.prog 41 #[.pointer (some ⟨p, 0, none⟩)] w (OutP w l e) := by
  obtain ⟨c0, c1, c2, c3, cf⟩ := h.cells
  by_cases he : e = 0
  · subst he
    have HC := Lib.hid (slclone_any h.own.sees (by have := h.lims rfl; omega))
    clear h cf
    go_enter Try.func41, Try.ntmps41
    go_wp2_with (first | (go_at_call 22; go_must (refine (HC.out).mono ?_; rintro e w1 ⟨v', rfl, hown, hk⟩; have HO := Lib.hid hown; clear hown)) | go_in)
    go_ret2
    exact ⟨_, rfl, by rw [if_pos rfl]; exact HO.out, hk⟩
  · have hb : (e != 0) = true := by simpa using he
    clear h cf
    go_enter Try.func41, Try.ntmps41
    go_wp2
    go_ret2
    exact ⟨_, rfl, by rw [if_neg he]; exact .inl ⟨rfl, rfl⟩, Kp.refl _ _⟩

/-! ### texts -/
theorem Bys_length (s : ByteArray) : (Bys s).length = s.size := by
  unfold Bys; rw [List.length_map, Array.length_toList]; rfl
theorem Bys_cells (s : ByteArray) : U8s (Bys s) = byteCells s := by simp [U8s, Bys, byteCells]

theorem run_copy_mid_string (T S : TypeId) (hT : Try.prog.underlying T = some (.slice 5)) {w : World} {g : Nat} {pre mid post : List Value} {s : ByteArray} (n c : Nat) (hg : w.heap[g]? = some (.cells (pre ++ mid ++ post).toArray 5 (0, 0)))
    (hm : mid.length = n) (hx : s.size = n) :
    ∃ w', (∀ ty, (Builtin.copy_ #[T, S] ty #[.slice (some ⟨g, pre.length, none⟩) n c, .string s]).run Try.prog w = .ok (.int .i64 n) w') ∧ CopyPost w g pre (Bys s) post w' := by
  refine ⟨w.setRow g (pre ++ U8s (Bys s) ++ post).toArray, fun ty => ?_, setRow_heap _ _ _ _ _ _ hg, (setRow_kp _ _ _).1, (setRow_kp _ _ _).2⟩
  have h := Lib.run_copy_row_string (P := Try.prog) w T S ty 5 g pre.length n c s (pre ++ mid ++ post).toArray 5 hT byte1 hg (by omega) (by simp; omega)
  have e1 : Lib.byteCells s.data.toList = U8s (Bys s) := by simp [U8s, Bys, Lib.byteCells]
  have hl : (U8s (Bys s)).length = s.size := by rw [U8s_length, Bys_length]
  rw [h, e1, hx]
  rw [show (pre ++ mid ++ post).toArray.toList = pre ++ mid ++ post from rfl, ← hx, ← hl, splice_mid _ _ _ _ (by omega)]
  rfl

/-- a text put: too long, or bytes behind their number -/
def putT (lim : Int) (l : List Int) (e : Int) (s : ByteArray) : List Int × Int :=
  if e = 0 ∧ 65535 < s.size then (l, 3) else putS lim l e (be 2 (s.size : Int) ++ Bys s)

/-! ### append onto a row of one's own; bytes as a string -/
end Go.Proofs.Ytleapcbkkggecaa
