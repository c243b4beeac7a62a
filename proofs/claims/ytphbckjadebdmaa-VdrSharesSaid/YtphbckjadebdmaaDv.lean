/-
  math/bits: Len64, LeadingZeros64.
-/
import Derived.Test.YtphbckjadebdmaaDm
import Derived.Lib.Strings
import Derived.Lib.Slices
import Derived.Lib.Small
import Derived.Lib.Walk
import Derived.Lib.BitFns
namespace Go.Proofs.Ytphbckjadebdmaa
open Go.RowKit

theorem bitLen_aux : ∀ (f x : Nat), x < 2 ^ f → 0 < x → 1 ≤ Lib.bitLenAux f x ∧ Lib.bitLenAux f x ≤ f ∧ 2 ^ (Lib.bitLenAux f x - 1) ≤ x ∧ x < 2 ^ Lib.bitLenAux f x
  | 0, x, h, h0 => by simp at h; omega
  | f + 1, x, h, h0 => by
    unfold Lib.bitLenAux
    rw [if_neg (by omega)]
    by_cases hx : x / 2 = 0
    · have e : Lib.bitLenAux f (x / 2) = 0 := by rw [hx]; cases f <;> simp [Lib.bitLenAux]
      rw [e]
      simp
      omega
    · have h2 : x / 2 < 2 ^ f := by rw [Nat.pow_succ] at h; omega
      obtain ⟨i1, i2, i3, i4⟩ := bitLen_aux f (x / 2) h2 (by omega)
      refine ⟨by omega, by omega, ?_, ?_⟩
      · rw [show 1 + Lib.bitLenAux f (x / 2) - 1 = (Lib.bitLenAux f (x / 2) - 1) + 1 by omega, Nat.pow_succ]
        omega
      · rw [show 1 + Lib.bitLenAux f (x / 2) = Lib.bitLenAux f (x / 2) + 1 by omega, Nat.pow_succ]
        omega
theorem norm_of {y : Nat} (h0 : 0 < y) (h1 : y < 18446744073709551616) : 1 ≤ Lib.bitLen y ∧ Lib.bitLen y ≤ 64 ∧ 9223372036854775808 ≤ y * 2 ^ (64 - Lib.bitLen y) ∧ y * 2 ^ (64 - Lib.bitLen y) < 18446744073709551616 := by
  obtain ⟨h2, h3, h4, h5⟩ := bitLen_aux 64 y (by simpa using h1) h0
  have e : Lib.bitLenAux 64 y = Lib.bitLen y := rfl
  rw [e] at h2 h3 h4 h5
  obtain ⟨n, hn⟩ : ∃ n, n = Lib.bitLen y := ⟨_, rfl⟩
  rw [← hn] at h2 h3 h4 h5 ⊢
  clear hn
  have p1 : 2 ^ (n - 1) * 2 ^ (64 - n) = 9223372036854775808 := by
    rw [← Nat.pow_add, show n - 1 + (64 - n) = 63 by omega]
  have p2 : 2 ^ n * 2 ^ (64 - n) = 18446744073709551616 := by
    rw [← Nat.pow_add, show n + (64 - n) = 64 by omega]
  have q1 := Nat.mul_le_mul_right (2 ^ (64 - n)) h4
  have q2 := Nat.mul_lt_mul_of_pos_right h5 (Nat.pow_pos (n := 64 - n) (by omega : 0 < 2))
  exact ⟨h2, h3, by omega, by omega⟩

theorem tab_size : Lib.len8tab.size = 256 := by decide +kernel
theorem tab_eq : ∀ n : Fin 256, ((Lib.len8tab[n.val]?.map (·.toNat)).getD 0) = Lib.bitLen n.val := by decide +kernel
theorem tab_get (y : Int) (h : y.toNat < Lib.len8tab.size) : ((Lib.len8tab[y.toNat]'h).toNat : Int) = Lib.bitLen y.toNat := by
  have := tab_eq ⟨y.toNat, by rw [tab_size] at h; exact h⟩
  simp only [getElem?_pos Lib.len8tab y.toNat h, Option.map_some, Option.getD_some] at this
  omega
theorem len_way (x b : Int) (k : Nat) (h0 : 0 ≤ x) (h1 : x ≤ 18446744073709551615) (h : 2 ^ k ≤ x.toNat ∨ k = 0) (e : b.toNat = x.toNat / 2 ^ k) (hb0 : 0 ≤ b) (hb1 : b ≤ 255) :
    (Lib.bitLen b.toNat : Int) = (Lib.bitLen x.toNat : Int) - k ∧ Lib.bitLen x.toNat ≤ k + 8 := by
  have l := Lib.bitLen_le8' b hb0 hb1
  rcases h with h | h
  · have := Lib.bitLen_shift k x.toNat h (by omega)
    rw [← e] at this
    omega
  · subst h
    rw [Nat.pow_zero, Nat.div_one] at e
    rw [e] at l ⊢
    omega

set_option maxHeartbeats 4000000 in
set_option maxRecDepth 100000 in
theorem len64_any (x : Int) (w : World) (h0 : 0 ≤ x) (h1 : x ≤ 18446744073709551615) :
    Calls Try.prog 45 #[.int .u64 x] w fun e w' => e = .returned (.int .i64 (Lib.bitLen x.toNat)) ∧ w' = w := by
  have hts := tab_size
  go_enter Try.func45, Try.ntmps45
  go_wp2
  all_goals go_ret
  all_goals (refine ⟨congrArg (fun n => Ending.returned (Value.int IntKind.i64 n)) ?_, rfl⟩)
  all_goals (simp only [tab_get])
  all_goals (unfold wrap64)
  all_goals first
    | (obtain ⟨e, l⟩ := len_way x (x / 4294967296 / 65536 / 256) 56 h0 h1 (by omega) (by omega) (by omega) (by omega); rw [e]; omega)
    | (obtain ⟨e, l⟩ := len_way x (x / 4294967296 / 65536) 48 h0 h1 (by omega) (by omega) (by omega) (by omega); rw [e]; omega)
    | (obtain ⟨e, l⟩ := len_way x (x / 4294967296 / 256) 40 h0 h1 (by omega) (by omega) (by omega) (by omega); rw [e]; omega)
    | (obtain ⟨e, l⟩ := len_way x (x / 4294967296) 32 h0 h1 (by omega) (by omega) (by omega) (by omega); rw [e]; omega)
    | (obtain ⟨e, l⟩ := len_way x (x / 65536 / 256) 24 h0 h1 (by omega) (by omega) (by omega) (by omega); rw [e]; omega)
    | (obtain ⟨e, l⟩ := len_way x (x / 65536) 16 h0 h1 (by omega) (by omega) (by omega) (by omega); rw [e]; omega)
    | (obtain ⟨e, l⟩ := len_way x (x / 256) 8 h0 h1 (by omega) (by omega) (by omega) (by omega); rw [e]; omega)
    | (obtain ⟨e, l⟩ := len_way x (x) 0 h0 h1 (by omega) (by omega) (by omega) (by omega); rw [e]; omega)

set_option maxHeartbeats 4000000 in
set_option maxRecDepth 100000 in
theorem lz64_any (y : Nat) (w : World) (h0 : 0 < y) (h1 : y < 18446744073709551616) :
    Calls Try.prog 44 #[.int .u64 y] w fun e w' => ∃ s : Nat, e = .returned (.int .i64 s) ∧ s < 64 ∧ 9223372036854775808 ≤ y * 2 ^ s ∧ y * 2 ^ s < 18446744073709551616 ∧ w' = w := by
  have HL := Lib.hid (len64_any y w (by omega) (by omega))
  obtain ⟨n1, n2, n3, n4⟩ := norm_of h0 h1
  have HN := Lib.hid (show Lib.bitLen y ≤ 64 ∧ 9223372036854775808 ≤ y * 2 ^ (64 - Lib.bitLen y) ∧ y * 2 ^ (64 - Lib.bitLen y) < 18446744073709551616 from ⟨n2, n3, n4⟩)
  rw [Int.toNat_natCast] at HL
  obtain ⟨b, hb⟩ : ∃ b, b = Lib.bitLen y := ⟨_, rfl⟩
  rw [← hb] at HL HN n1 n2
  clear hb n3 n4
  go_enter Try.func44, Try.ntmps44
  go_wp2_with fail
  refine HL.out.mono ?_
  rintro e w' ⟨rfl, rfl⟩
  go_wp2_with fail
  go_ret
  refine ⟨64 - b, ?_, by omega, HN.out.2.1, HN.out.2.2, rfl⟩
  refine congrArg (fun n => Ending.returned (Value.int IntKind.i64 n)) ?_
  omega
end Go.Proofs.Ytphbckjadebdmaa
