/-
  Plain facts on numbers' bytes: the number of its bytes, the bytes of their number.
-/
import Derived.Test.YtleapcbkkggecaaUc
namespace Go.Proofs.Ytleapcbkkggecaa
open Go.RowKit

theorem val_shift (xs : List Int) : ∀ v : Int, xs.foldl (fun v x => v * 256 + x) v = v * 256 ^ xs.length + val xs := by
  induction xs with
  | nil => intro v; simp [val]
  | cons x xs ih =>
    intro v
    have h1 : val (x :: xs) = (0 * 256 + x) * 256 ^ xs.length + val xs := by rw [val, List.foldl_cons, ih]
    rw [List.foldl_cons, ih, h1, List.length_cons, Int.pow_succ, Int.add_mul, Int.mul_assoc, Int.mul_comm 256, Int.zero_mul, Int.zero_add, Int.add_assoc]
theorem val_cons (x : Int) (xs : List Int) : val (x :: xs) = x * 256 ^ xs.length + val xs := by
  have := val_shift xs (0 * 256 + x)
  rw [val, List.foldl_cons, this]
  rw [Int.zero_mul, Int.zero_add]
theorem val_be (n : Nat) (v : Int) (h : 0 ≤ v) : val (be n v) = v % 256 ^ n := by
  obtain ⟨m, rfl⟩ := Int.eq_ofNat_of_zero_le h
  induction n with
  | zero => simp [be, val]
  | succ n ih =>
    rw [be, val_cons, be_length, ih]
    have hN : m % 256 ^ (n + 1) = m % 256 ^ n + 256 ^ n * (m / 256 ^ n % 256) := Nat.mod_pow_succ
    have hI := congrArg (fun z : Nat => (z : Int)) hN
    simp only [Int.natCast_emod, Int.natCast_ediv, Int.natCast_pow, Int.natCast_add, Int.natCast_mul] at hI
    have e : ((256 : Nat) : Int) = 256 := rfl
    rw [e] at hI
    rw [hI, Int.mul_comm (256 ^ n)]
    omega

theorem take_app (x rest : List Int) : takeE (x ++ rest) 0 x.length = 0 ∧ takeR (x ++ rest) 0 x.length = x ∧ takeL (x ++ rest) 0 x.length = rest := by
  have h : takeE (x ++ rest) 0 x.length = 0 := by unfold takeE; rw [if_neg (by simp), if_neg (by omega), if_neg (by rw [List.length_append]; omega)]
  refine ⟨h, ?_, ?_⟩
  · unfold takeR; rw [if_pos h, Int.toNat_natCast, List.take_left]
  · unfold takeL; rw [if_pos h, Int.toNat_natCast, List.drop_left]
theorem take_short {l : List Int} {n : Nat} (h : l.length < n) : takeE l 0 n = 11 := by
  unfold takeE; rw [if_neg (by simp), if_neg (by omega), if_pos (by omega)]
theorem digit_mod (m n k : Nat) (hk : k + 1 ≤ n) : m % 256 ^ n / 256 ^ k % 256 = m / 256 ^ k % 256 := by
  have e1 : 256 ^ n = 256 ^ k * (256 * 256 ^ (n - k - 1)) := by
    rw [← Nat.pow_succ', ← Nat.pow_add]; congr 1; omega
  rw [e1, Nat.mod_mul_right_div_self, Nat.mod_mul_right_mod]
theorem be_mod (n : Nat) (a : Int) (h : 0 ≤ a) : be n (a % 256 ^ n) = be n a := by
  suffices h : ∀ k, k ≤ n → be k (a % 256 ^ n) = be k a from h n (Nat.le_refl n)
  intro k
  induction k with
  | zero => intro _; rfl
  | succ k ih =>
    intro hk
    obtain ⟨m, rfl⟩ := Int.eq_ofNat_of_zero_le h
    have h1 : ((m : Int) % 256 ^ n / 256 ^ k % 256) = (m : Int) / 256 ^ k % 256 := by
      have h := congrArg (fun z : Nat => (z : Int)) (digit_mod m n k hk)
      simp only [Int.natCast_emod, Int.natCast_ediv, Int.natCast_pow] at h
      exact h
    rw [be, be, ih (by omega), h1]
theorem be_val : ∀ (xs : List Int), Rng xs → be xs.length (val xs) = xs
  | [], _ => rfl
  | x :: xs, h => by
    have hx := h x (List.mem_cons_self ..)
    have hr : Rng xs := fun y hy => h y (List.mem_cons_of_mem _ hy)
    have hb := val_bd xs hr
    have ih := be_val xs hr
    rw [List.length_cons, be, val_cons]
    generalize hA : (256 : Int) ^ xs.length = A at hb
    have hA0 : 0 < A := by omega
    have h0 : 0 ≤ x * A := Int.mul_nonneg hx.1 (by omega)
    have e1 : (x * A + val xs) / A = x := by
      rw [Int.add_comm, Int.add_mul_ediv_right _ _ (by omega), Int.ediv_eq_zero_of_lt hb.1 hb.2]; omega
    have e2 : (x * A + val xs) % A = val xs := by
      rw [Int.add_comm, Int.add_mul_emod_self_right, Int.emod_eq_of_lt hb.1 hb.2]
    have e3 := be_mod xs.length (x * A + val xs) (by omega)
    rw [hA, e2, ih] at e3
    rw [e1, ← e3, show x % 256 = x by omega]
theorem be_val' {n : Nat} {xs : List Int} (h : Rng xs) (hn : xs.length = n) : be n (val xs) = xs := by subst hn; exact be_val xs h
theorem val_inj {xs ys : List Int} (hx : Rng xs) (hy : Rng ys) (hl : xs.length = ys.length) (h : val xs = val ys) : xs = ys := by
  rw [← be_val xs hx, ← be_val ys hy, hl, h]
end Go.Proofs.Ytleapcbkkggecaa
