/-
  Whether a text may be a name: contracts of the program's Name and of the document's.
-/
import Derived.Test.YtanmgfpogomgcaaDa
namespace Go.Proofs.Ytanmgfpogomgcaa
open Go.RowKit

/-- what Name says -/
def nameE (b : Bool) : Int := cond b 0 50

set_option maxRecDepth 100000 in
set_option maxHeartbeats 1600000 in
theorem name_any (s : ByteArray) (w : World) (hs : s.size < 9223372036854775807) : Calls Try.prog 19 #[.string s] w fun e w' => e = .returned (.int .i64 (nameE (nameOk s))) ∧ Kp (fun _ => False) w w' := by
  have HR := Lib.hid (runes_any s w hs)
  have HL := Lib.hid (fun r w => mayStand_any r w)
  have N0 := fun (h : Lib.runeCount s < 1 ∨ 16 < Lib.runeCount s) => (show nameOk s = false by
    unfold nameOk; rw [decide_eq_false (by omega)]; rfl)
  have N1 := fun (h : ¬ (Lib.runeCount s < 1 ∨ 16 < Lib.runeCount s)) => (show nameOk s = runesOk s s.size 0 by
    unfold nameOk; rw [decide_eq_true (by omega)]; rfl)
  have S := Lib.hid (fun b pos h hb => runesOk_step s b pos h hb)
  have E := Lib.hid (fun b pos h => runesOk_end s b pos h)
  obtain ⟨z, hz⟩ : ∃ z, z = nameOk s := ⟨_, rfl⟩
  rw [← hz] at N0 N1 ⊢
  clear hz
  have M0 := Lib.hid N0
  have M1 := Lib.hid N1
  clear N0 N1
  obtain ⟨n, hn⟩ : ∃ n, n = Lib.runeCount s := ⟨_, rfl⟩
  rw [← hn] at HR M0 M1
  clear hn
  go_enter Try.func19, Try.ntmps19
  go_wp2_with fail
  refine HR.out.mono ?_
  rintro e w1 ⟨rfl, k1⟩
  have K1 := Lib.hid k1
  clear k1
  by_cases hc : n < 1 ∨ 16 < n
  · obtain rfl := M0.out hc
    rcases Nat.lt_or_ge n 1 with h1 | h1
    · have h1' : (n : Int) < 1 := by omega
      go_wp2
      go_ret
      exact ⟨rfl, K1.out⟩
    · have h1' : ¬ (n : Int) < 1 := by omega
      have h2' : (16 : Int) < n := by omega
      go_wp2
      go_ret
      exact ⟨rfl, K1.out⟩
  · obtain rfl := M1.out hc
    have hc1 : ¬ ((n : Int) < 1) := by omega
    have hc2 : ¬ ((16 : Int) < n) := by omega
    go_wp2
    go_loopw [] (fun wr => ∃ (pos b : Nat), wr = w1.iter s pos ∧ s.size ≤ pos + b ∧ Hid (runesOk s s.size 0 = runesOk s b pos)) (fun wr => s.size - wr.iterPos w1.heap.size)
    case atStart => exact ⟨0, s.size, rfl, by omega, Lib.hid rfl⟩
    case round =>
      obtain ⟨pos, b, rfl, hb, hr⟩ := hrel
      by_cases hp : pos < s.size
      · have hnx : ∀ ty, (Instr.next (.pointer (some ⟨w1.heap.size, 0, none⟩)) true ty).run Try.prog (w1.iter s pos) = _ := fun ty => run_next_any w1 s pos ty hp
        have hwd := Lib.decode_width_pos s pos hp
        obtain ⟨f, hf, he⟩ := S.out b pos hp hb
        have HE := Lib.hid he
        clear he
        go_wp2_with fail
        refine (HL.out _ _).mono ?_
        rintro e w2 ⟨rfl, rfl⟩
        obtain ⟨t, ht⟩ : ∃ t, t = stands (Utf8.decode s pos).1 := ⟨_, rfl⟩
        rw [← ht] at HE ⊢
        clear ht
        cases t
        · go_wp2
          go_ret
          exact ⟨by rw [hr.out, HE.out]; rfl, K1.out.alloc _⟩
        · go_wp2
          go_roundw
          case rel => exact ⟨pos + (Utf8.decode s pos).2, f, rfl, by omega, Lib.hid (by rw [hr.out, HE.out]; rfl)⟩
          case measure =>
            simp
            omega
      · have hnx : ∀ ty, (Instr.next (.pointer (some ⟨w1.heap.size, 0, none⟩)) true ty).run Try.prog (w1.iter s pos) = _ := fun ty => run_next_end w1 s pos ty hp
        go_wp2
        go_ret
        exact ⟨by rw [hr.out, E.out b pos hp]; rfl, K1.out.alloc _⟩

set_option maxRecDepth 100000 in
set_option maxHeartbeats 1600000 in
theorem rname_any (s : ByteArray) (w : World) (hs : s.size < 9223372036854775807) : Calls Try.prog 21 #[.string s] w fun e w' => e = .returned (.int .i64 (nameE (nameOk s))) ∧ Kp (fun _ => False) w w' := by
  have HR := Lib.hid (rrunes_any s w hs)
  have HL := Lib.hid (fun r w => letter_any r w)
  have N0 := fun (h : Lib.runeCount s < 1 ∨ 16 < Lib.runeCount s) => (show nameOk s = false by
    unfold nameOk; rw [decide_eq_false (by omega)]; rfl)
  have N1 := fun (h : ¬ (Lib.runeCount s < 1 ∨ 16 < Lib.runeCount s)) => (show nameOk s = runesOk s s.size 0 by
    unfold nameOk; rw [decide_eq_true (by omega)]; rfl)
  have S := Lib.hid (fun b pos h hb => runesOk_step s b pos h hb)
  have E := Lib.hid (fun b pos h => runesOk_end s b pos h)
  obtain ⟨z, hz⟩ : ∃ z, z = nameOk s := ⟨_, rfl⟩
  rw [← hz] at N0 N1 ⊢
  clear hz
  have M0 := Lib.hid N0
  have M1 := Lib.hid N1
  clear N0 N1
  obtain ⟨n, hn⟩ : ∃ n, n = Lib.runeCount s := ⟨_, rfl⟩
  rw [← hn] at HR M0 M1
  clear hn
  go_enter Try.func21, Try.ntmps21
  go_wp2_with fail
  refine HR.out.mono ?_
  rintro e w1 ⟨rfl, k1⟩
  have K1 := Lib.hid k1
  clear k1
  by_cases hc : n < 1 ∨ 16 < n
  · obtain rfl := M0.out hc
    rcases Nat.lt_or_ge n 1 with h1 | h1
    · have h1' : (n : Int) < 1 := by omega
      go_wp2
      go_ret
      exact ⟨rfl, K1.out⟩
    · have h1' : ¬ (n : Int) < 1 := by omega
      have h2' : (16 : Int) < n := by omega
      go_wp2
      go_ret
      exact ⟨rfl, K1.out⟩
  · obtain rfl := M1.out hc
    have hc1 : ¬ ((n : Int) < 1) := by omega
    have hc2 : ¬ ((16 : Int) < n) := by omega
    go_wp2
    go_loopw [] (fun wr => ∃ (pos b : Nat), wr = w1.iter s pos ∧ s.size ≤ pos + b ∧ Hid (runesOk s s.size 0 = runesOk s b pos)) (fun wr => s.size - wr.iterPos w1.heap.size)
    case atStart => exact ⟨0, s.size, rfl, by omega, Lib.hid rfl⟩
    case round =>
      obtain ⟨pos, b, rfl, hb, hr⟩ := hrel
      by_cases hp : pos < s.size
      · have hnx : ∀ ty, (Instr.next (.pointer (some ⟨w1.heap.size, 0, none⟩)) true ty).run Try.prog (w1.iter s pos) = _ := fun ty => run_next_any w1 s pos ty hp
        have hwd := Lib.decode_width_pos s pos hp
        obtain ⟨f, hf, he⟩ := S.out b pos hp hb
        have HE := Lib.hid he
        clear he
        go_wp2_with fail
        refine (HL.out _ _).mono ?_
        rintro e w2 ⟨rfl, rfl⟩
        obtain ⟨t, ht⟩ : ∃ t, t = stands (Utf8.decode s pos).1 := ⟨_, rfl⟩
        rw [← ht] at HE ⊢
        clear ht
        cases t
        · go_wp2
          go_ret
          exact ⟨by rw [hr.out, HE.out]; rfl, K1.out.alloc _⟩
        · go_wp2
          go_roundw
          case rel => exact ⟨pos + (Utf8.decode s pos).2, f, rfl, by omega, Lib.hid (by rw [hr.out, HE.out]; rfl)⟩
          case measure =>
            simp
            omega
      · have hnx : ∀ ty, (Instr.next (.pointer (some ⟨w1.heap.size, 0, none⟩)) true ty).run Try.prog (w1.iter s pos) = _ := fun ty => run_next_end w1 s pos ty hp
        go_wp2
        go_ret
        exact ⟨by rw [hr.out, E.out b pos hp]; rfl, K1.out.alloc _⟩
end Go.Proofs.Ytanmgfpogomgcaa
