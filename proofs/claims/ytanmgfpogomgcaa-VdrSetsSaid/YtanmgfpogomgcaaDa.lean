/-
  Validators: runes of a text, and whether it may be a name: contracts of the program's and of the document's.
-/
import Derived.Test.YtanmgfpogomgcaaSel
import Derived.Test.YtanmgfpogomgcaaQk
import Derived.Test.YtanmgfpogomgcaaChecked
import Derived.Test.YtanmgfpogomgcaaFrame
import Derived.Lib.Hide
import Derived.Lib.RuneCount
import Derived.Laws.RangeAny
import Derived.Laws.RangeString
import Derived.LoopTactic
namespace Go.Proofs.Ytanmgfpogomgcaa
open Go.RowKit

/-- may a name have this rune -/
def stands (r : Int) : Bool := decide (48 ≤ r ∧ r ≤ 57) || decide (97 ≤ r ∧ r ≤ 122) || decide (r = 45) || decide (192 ≤ r ∧ r ≤ 591 ∧ r ≠ 215 ∧ r ≠ 247)
/-- may a name have all runes from here on -/
def runesOk (s : ByteArray) : Nat → Nat → Bool
  | 0, _ => true
  | fuel + 1, pos => if pos < s.size then stands (Utf8.decode s pos).1 && runesOk s fuel (pos + (Utf8.decode s pos).2) else true
theorem runesOk_end (s : ByteArray) (fuel pos : Nat) (h : ¬ pos < s.size) : runesOk s fuel pos = true := by
  cases fuel <;> simp [runesOk, h]
theorem runesOk_step (s : ByteArray) (fuel pos : Nat) (h : pos < s.size) (hf : s.size ≤ pos + fuel) : ∃ f, fuel = f + 1 ∧ runesOk s fuel pos = (stands (Utf8.decode s pos).1 && runesOk s f (pos + (Utf8.decode s pos).2)) := by
  obtain ⟨f, rfl⟩ : ∃ f, fuel = f + 1 := ⟨fuel - 1, by omega⟩
  exact ⟨f, rfl, by simp [runesOk, h]⟩
/-- may this be a name -/
def nameOk (s : ByteArray) : Bool := decide (1 ≤ Lib.runeCount s ∧ Lib.runeCount s ≤ 16) && runesOk s s.size 0

set_option maxRecDepth 100000 in
set_option maxHeartbeats 800000 in
theorem runes_any (s : ByteArray) (w : World) (hs : s.size < 9223372036854775807) : Calls Try.prog 18 #[.string s] w fun e w' => e = .returned (.int .i64 (Lib.runeCount s)) ∧ Kp (fun _ => False) w w' := by
  go_enter Try.func18, Try.ntmps18
  go_wp2
  go_loopw [3] (fun n w' => ∃ (pos b acc : Nat), w' = w.iter s pos ∧ n = .int .i64 acc ∧ acc + Lib.runeCountFrom s b pos = Lib.runeCount s ∧ s.size ≤ pos + b ∧ acc ≤ pos) (fun _ w' => s.size - w'.iterPos w.heap.size)
  case atStart => exact ⟨0, s.size, 0, rfl, rfl, by simp [Lib.runeCount], by omega, Nat.le_refl _⟩
  case round =>
    obtain ⟨pos, b, acc, rfl, rfl, hc, hb, ha⟩ := hrel
    by_cases hp : pos < s.size
    · have hnx : ∀ ty, (Instr.next (.pointer (some ⟨w.heap.size, 0, none⟩)) true ty).run Try.prog (w.iter s pos) = _ := fun ty => run_next_any w s pos ty hp
      have hwd := Lib.decode_width_pos s pos hp
      go_wp2
      go_roundw
      case rel =>
        cases b with
        | zero => omega
        | succ b =>
          refine ⟨pos + (Utf8.decode s pos).2, b, acc + 1, rfl, by go_num, ?_, by omega, by omega⟩
          rw [← hc]
          simp [Lib.runeCountFrom, hp]
          omega
      case measure =>
        simp
        omega
    · have hnx : ∀ ty, (Instr.next (.pointer (some ⟨w.heap.size, 0, none⟩)) true ty).run Try.prog (w.iter s pos) = _ := fun ty => run_next_end w s pos ty hp
      go_wp2
      go_ret
      rw [Lib.runeCountFrom_end s b pos hp, Nat.add_zero] at hc
      subst hc
      exact ⟨rfl, (Kp.refl _ _).alloc _⟩
set_option maxRecDepth 100000 in
set_option maxHeartbeats 800000 in
theorem rrunes_any (s : ByteArray) (w : World) (hs : s.size < 9223372036854775807) : Calls Try.prog 29 #[.string s] w fun e w' => e = .returned (.int .i64 (Lib.runeCount s)) ∧ Kp (fun _ => False) w w' := by
  go_enter Try.func29, Try.ntmps29
  go_wp2
  go_loopw [3] (fun n w' => ∃ (pos b acc : Nat), w' = w.iter s pos ∧ n = .int .i64 acc ∧ acc + Lib.runeCountFrom s b pos = Lib.runeCount s ∧ s.size ≤ pos + b ∧ acc ≤ pos) (fun _ w' => s.size - w'.iterPos w.heap.size)
  case atStart => exact ⟨0, s.size, 0, rfl, rfl, by simp [Lib.runeCount], by omega, Nat.le_refl _⟩
  case round =>
    obtain ⟨pos, b, acc, rfl, rfl, hc, hb, ha⟩ := hrel
    by_cases hp : pos < s.size
    · have hnx : ∀ ty, (Instr.next (.pointer (some ⟨w.heap.size, 0, none⟩)) true ty).run Try.prog (w.iter s pos) = _ := fun ty => run_next_any w s pos ty hp
      have hwd := Lib.decode_width_pos s pos hp
      go_wp2
      go_roundw
      case rel =>
        cases b with
        | zero => omega
        | succ b =>
          refine ⟨pos + (Utf8.decode s pos).2, b, acc + 1, rfl, by go_num, ?_, by omega, by omega⟩
          rw [← hc]
          simp [Lib.runeCountFrom, hp]
          omega
      case measure =>
        simp
        omega
    · have hnx : ∀ ty, (Instr.next (.pointer (some ⟨w.heap.size, 0, none⟩)) true ty).run Try.prog (w.iter s pos) = _ := fun ty => run_next_end w s pos ty hp
      go_wp2
      go_ret
      rw [Lib.runeCountFrom_end s b pos hp, Nat.add_zero] at hc
      subst hc
      exact ⟨rfl, (Kp.refl _ _).alloc _⟩

set_option maxHeartbeats 800000 in
theorem mayStand_any (r : Int) (w : World) : Calls Try.prog 28 #[.int .i32 r] w fun e w' => e = .returned (.bool (stands r)) ∧ w' = w := by
  have D : stands r = (decide (48 ≤ r ∧ r ≤ 57) || decide (97 ≤ r ∧ r ≤ 122) || decide (r = 45) || decide (192 ≤ r ∧ r ≤ 591 ∧ r ≠ 215 ∧ r ≠ 247)) := rfl
  obtain ⟨z, hz⟩ : ∃ z, z = stands r := ⟨_, rfl⟩
  rw [← hz] at D ⊢
  have D' := Lib.hid D
  clear hz D
  go_enter Try.func28, Try.ntmps28
  go_wp2
  all_goals go_ret
  all_goals (refine ⟨?_, rfl⟩; rw [D'.out]; clear D'; refine congrArg (fun b => Ending.returned (Value.bool b)) ?_; rw [Bool.eq_iff_iff])
  all_goals (simp at *)
  all_goals omega
set_option maxHeartbeats 800000 in
theorem letter_any (r : Int) (w : World) : Calls Try.prog 30 #[.int .i32 r] w fun e w' => e = .returned (.bool (stands r)) ∧ w' = w := by
  have D : stands r = (decide (48 ≤ r ∧ r ≤ 57) || decide (97 ≤ r ∧ r ≤ 122) || decide (r = 45) || decide (192 ≤ r ∧ r ≤ 591 ∧ r ≠ 215 ∧ r ≠ 247)) := rfl
  obtain ⟨z, hz⟩ : ∃ z, z = stands r := ⟨_, rfl⟩
  rw [← hz] at D ⊢
  have D' := Lib.hid D
  clear hz D
  go_enter Try.func30, Try.ntmps30
  go_wp2
  all_goals go_ret
  all_goals (refine ⟨?_, rfl⟩; rw [D'.out]; clear D'; refine congrArg (fun b => Ending.returned (Value.bool b)) ?_; rw [Bool.eq_iff_iff])
  all_goals (simp at *)
  all_goals omega
end Go.Proofs.Ytanmgfpogomgcaa
