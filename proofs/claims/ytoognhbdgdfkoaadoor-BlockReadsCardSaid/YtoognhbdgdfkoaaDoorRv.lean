/-
  Contracts of the document's unpacker (package flurryref01).
-/
import Derived.Test.YtoognhbdgdfkoaaDoorUc
namespace Go.Proofs.YtoognhbdgdfkoaaDoor
open Go.ChangeShapes Go.WideShapes Go.ChangeAt Go.RowKit

set_option maxHeartbeats 1000000 in
theorem val_any {w : World} {b : Value} {xs : List Int} (hs : Sees w b xs) (hr : Rng xs) (h8 : xs.length ≤ 8) :
    Calls Tryd.prog 48 #[b] w fun r w' => r = .returned (.int .u64 (val xs)) ∧ w = w' := by
  obtain ⟨a, cap, rfl⟩ := sees_form hs
  have HS := Lib.hid hs
  have HR := Lib.hid hr
  clear hs hr
  go_enter Tryd.func48, Tryd.ntmps48
  go_wp2
  go_loop [4, 3] (fun i v => ∃ k : Nat, k ≤ xs.length ∧ i = .int .i64 k ∧ v = .int .u64 (val (xs.take k))) (fun i _ => xs.length - (intOf i).toNat)
  case atStart => exact ⟨0, Nat.zero_le _, rfl, rfl⟩
  case round =>
    obtain ⟨k, hk, rfl, rfl⟩ := hrel
    by_cases hlt : k < xs.length
    · have hne : xs ≠ [] := by intro h; subst h; simp at hlt
      have hbd := val_bd (xs.take k) (fun y hy => HR.out y (List.mem_of_mem_take hy))
      have hlen : (xs.take k).length = k := by rw [List.length_take]; omega
      rw [hlen] at hbd
      have hx := HR.out xs[k] (List.getElem_mem hlt)
      have hv7 : val (xs.take k) < 72057594037927936 := by
        have : (256 : Int) ^ k ≤ 256 ^ 7 := pow_le7 k (by omega)
        have e : (256 : Int) ^ 7 = 72057594037927936 := by decide
        omega
      have hnext : val (xs.take (k + 1)) = val (xs.take k) * 256 + xs[k] := by
        rw [List.take_succ_eq_append_getElem hlt, val_snoc]
      obtain ⟨bb, off, hab, hcell⟩ : ∃ bb off, a = some ⟨bb, off, none⟩ ∧ w.cell? ⟨bb, off + k, none⟩ = some (.int .u8 xs[k]) := by
        rcases HS.out with ⟨_, h⟩ | ⟨ad, cap', hv, _, _, hc⟩
        · exact absurd h hne
        · obtain rfl : a = some ad := by injection hv
          have hck := hc k xs[k] (List.getElem?_eq_getElem hlt)
          obtain ⟨x, r, hxr⟩ := List.exists_cons_of_ne_nil hne
          have hsp := spot_of_cell (hc 0 x (by rw [hxr]; rfl))
          obtain ⟨b, off, s⟩ := ad
          have hs' : s = none := by simpa [Addr.add] using hsp
          subst hs'
          exact ⟨b, off, rfl, by rw [Addr.add_lit] at hck; exact hck⟩
      subst hab
      have hv0 := hbd.1
      obtain ⟨x, hxe⟩ : ∃ x, x = xs[k] := ⟨_, rfl⟩
      obtain ⟨z, hze⟩ : ∃ z, z = val (xs.take k) := ⟨_, rfl⟩
      rw [← hxe, ← hze, Int.mul_comm] at hnext
      rw [← hxe] at hcell hx
      rw [← hze] at hv0 hv7
      rw [← hze]
      have HN := Lib.hid hnext
      clear hnext hbd hxe hze hlen hne
      go_wp2
      go_round
      case rel => exact ⟨k + 1, by omega, by go_num, by rw [HN.out]⟩
      case measure => simp [intOf]; omega
    · obtain rfl : k = xs.length := by omega
      go_wp2
      go_ret
      exact ⟨rfl, rfl⟩

end Go.Proofs.YtoognhbdgdfkoaaDoor
