/-
  Shares: AtLeast and Need.
-/
import Derived.Test.YtphbckjadebdmaaDw
namespace Go.Proofs.Ytphbckjadebdmaa
open Go.RowKit

theorem div_any (hi lo y : Nat) (w : World) (h1 : hi < y) (hlo : lo < 18446744073709551616) (hy : y < 18446744073709551616) :
    Calls Try.prog 43 #[.int .u64 hi, .int .u64 lo, .int .u64 y] w fun e w' => e = .returned (.tuple #[.int .u64 (((hi * 18446744073709551616 + lo) / y : Nat) : Int), .int .u64 (((hi * 18446744073709551616 + lo) % y : Nat) : Int)]) ∧ Kp (fun _ => False) w w' := by
  rcases Nat.eq_zero_or_pos hi with h | h
  · subst h
    have := div64_low lo y (by omega) (by omega) w (by omega) (by omega)
    rw [Nat.zero_mul, Nat.zero_add, Int.natCast_ediv, Int.natCast_emod]
    exact this
  · exact (div64_any hi lo y w h h1 hlo hy).mono (fun e w' h => ⟨h.1, by rw [h.2]; exact Kp.refl _ _⟩)

/-- is a sum a share -/
def atLeastB (s t n d : Int) : Bool := decide (0 ≤ s ∧ 0 ≤ t ∧ 0 ≤ n ∧ 0 < d ∧ t * n ≤ s * d)
theorem atLeastB_no {s t n d : Int} (h : s < 0 ∨ t < 0 ∨ n < 0 ∨ d ≤ 0) : atLeastB s t n d = false := decide_eq_false (by omega)
theorem atLeastB_nat (S T N D : Nat) (h : 0 < D) : atLeastB S T N D = decide (T * N ≤ S * D) := by
  unfold atLeastB
  rw [Bool.eq_iff_iff, decide_eq_true_eq, decide_eq_true_eq]
  constructor
  · rintro ⟨_, _, _, _, h5⟩
    exact_mod_cast h5
  · intro h5
    exact ⟨by omega, by omega, by omega, by omega, by exact_mod_cast h5⟩
theorem lex_le (P Q : Nat) : decide (Q ≤ P) = (decide (Q / 18446744073709551616 < P / 18446744073709551616) || (decide (P / 18446744073709551616 = Q / 18446744073709551616) && decide (Q % 18446744073709551616 ≤ P % 18446744073709551616))) := by
  rw [Bool.eq_iff_iff]
  simp only [Bool.or_eq_true, Bool.and_eq_true, decide_eq_true_eq]
  omega

set_option maxRecDepth 100000 in
set_option maxHeartbeats 1600000 in
theorem atLeast_any (s t n d : Int) (hs : s ≤ 9223372036854775807) (ht : t ≤ 9223372036854775807) (hn : n ≤ 9223372036854775807) (hd : d ≤ 9223372036854775807) (w : World) :
    Calls Try.prog 29 #[.int .i64 s, .int .i64 t, .int .i64 n, .int .i64 d] w fun e w' => e = .returned (.bool (atLeastB s t n d)) ∧ w' = w := by
  have HN := Lib.hid (fun h => atLeastB_no (s := s) (t := t) (n := n) (d := d) h)
  by_cases h1 : s < 0
  · have HF := Lib.hid (HN.out (.inl h1))
    obtain ⟨z, hz⟩ : ∃ z, z = atLeastB s t n d := ⟨_, rfl⟩
    rw [← hz] at HF ⊢
    clear HN hz
    go_enter Try.func29, Try.ntmps29
    go_wp2
    go_ret
    exact ⟨by rw [HF.out]; rfl, rfl⟩
  by_cases h2 : t < 0
  · have HF := Lib.hid (HN.out (.inr (.inl h2)))
    obtain ⟨z, hz⟩ : ∃ z, z = atLeastB s t n d := ⟨_, rfl⟩
    rw [← hz] at HF ⊢
    clear HN hz
    go_enter Try.func29, Try.ntmps29
    go_wp2
    go_ret
    exact ⟨by rw [HF.out]; rfl, rfl⟩
  by_cases h3 : n < 0
  · have HF := Lib.hid (HN.out (.inr (.inr (.inl h3))))
    obtain ⟨z, hz⟩ : ∃ z, z = atLeastB s t n d := ⟨_, rfl⟩
    rw [← hz] at HF ⊢
    clear HN hz
    go_enter Try.func29, Try.ntmps29
    go_wp2
    go_ret
    exact ⟨by rw [HF.out]; rfl, rfl⟩
  by_cases h4 : d ≤ 0
  · have HF := Lib.hid (HN.out (.inr (.inr (.inr h4))))
    obtain ⟨z, hz⟩ : ∃ z, z = atLeastB s t n d := ⟨_, rfl⟩
    rw [← hz] at HF ⊢
    clear HN hz
    go_enter Try.func29, Try.ntmps29
    go_wp2
    go_ret
    exact ⟨by rw [HF.out]; rfl, rfl⟩
  obtain ⟨S, rfl⟩ : ∃ S : Nat, s = S := ⟨s.toNat, by omega⟩
  obtain ⟨T, rfl⟩ : ∃ T : Nat, t = T := ⟨t.toNat, by omega⟩
  obtain ⟨N, rfl⟩ : ∃ N : Nat, n = N := ⟨n.toNat, by omega⟩
  obtain ⟨D, rfl⟩ : ∃ D : Nat, d = D := ⟨d.toNat, by omega⟩
  have HZ := atLeastB_nat S T N D (by omega)
  have HM1 := Lib.hid (mul64_any S D (by omega) (by omega) w)
  have HM2 := Lib.hid (mul64_any T N (by omega) (by omega) w)
  rw [lex_le] at HZ
  obtain ⟨z, hz⟩ : ∃ z, z = atLeastB S T N D := ⟨_, rfl⟩
  rw [← hz] at HZ ⊢
  obtain ⟨p1, hp1⟩ : ∃ p, p = S * D / 18446744073709551616 := ⟨_, rfl⟩
  obtain ⟨p2, hp2⟩ : ∃ p, p = S * D % 18446744073709551616 := ⟨_, rfl⟩
  obtain ⟨q1, hq1⟩ : ∃ p, p = T * N / 18446744073709551616 := ⟨_, rfl⟩
  obtain ⟨q2, hq2⟩ : ∃ p, p = T * N % 18446744073709551616 := ⟨_, rfl⟩
  rw [← hp1, ← hp2, ← hq1, ← hq2] at HZ
  rw [← hp1, ← hp2] at HM1
  rw [← hq1, ← hq2] at HM2
  have HZ := Lib.hid HZ
  clear HN hz hp1 hp2 hq1 hq2
  go_enter Try.func29, Try.ntmps29
  go_wp2_with fail
  refine HM1.out.mono ?_
  rintro e w2 ⟨rfl, rfl⟩
  go_wp2_with fail
  refine HM2.out.mono ?_
  rintro e w3 ⟨rfl, rfl⟩
  by_cases c1 : q1 < p1
  · have c1' : (q1 : Int) < p1 := by omega
    have HF := Lib.hid (show z = true by rw [HZ.out, decide_eq_true c1]; rfl)
    go_wp2_with fail
    go_ret
    exact ⟨by rw [HF.out]; rfl, rfl⟩
  · have c1' : ¬ (q1 : Int) < p1 := by omega
    by_cases c2 : p1 = q1
    · have c2' : ((p1 : Int) == (q1 : Int)) = true := by simp [c2]
      by_cases c3 : q2 ≤ p2
      · have c3' : (q2 : Int) ≤ p2 := by omega
        have HF := Lib.hid (show z = true by rw [HZ.out, decide_eq_false c1, decide_eq_true c2, decide_eq_true c3]; rfl)
        clear c2
        go_wp2_with fail
        go_ret
        exact ⟨by rw [HF.out]; first | rfl | simp [c3'], rfl⟩
      · have c3' : ¬ (q2 : Int) ≤ p2 := by omega
        have HF := Lib.hid (show z = false by rw [HZ.out, decide_eq_false c1, decide_eq_true c2, decide_eq_false c3]; rfl)
        clear c2
        go_wp2_with fail
        go_ret
        exact ⟨by rw [HF.out]; first | rfl | simp [c3'], rfl⟩
    · have c2' : ((p1 : Int) == (q1 : Int)) = false := by simp; omega
      have HF := Lib.hid (show z = false by rw [HZ.out, decide_eq_false c1, decide_eq_false c2]; rfl)
      clear c2
      go_wp2_with fail
      go_ret
      exact ⟨by rw [HF.out]; rfl, rfl⟩

/-- the least sum that is a share -/
def needI (t n d : Int) : Int := if t < 0 ∨ n < 0 ∨ d < 1 ∨ d < n then -1 else (t * n + d - 1) / d
theorem needI_no {t n d : Int} (h : t < 0 ∨ n < 0 ∨ d < 1 ∨ d < n) : needI t n d = -1 := if_pos h
theorem needI_nat (T N D : Nat) (h : 0 < D) (hn : N ≤ D) : needI T N D = ((T * N / D : Nat) : Int) + (if T * N % D = 0 then 0 else 1) ∧ T * N / D ≤ T ∧ (T * N % D ≠ 0 → T * N / D < T) := by
  have e : T * N = D * (T * N / D) + T * N % D := (Nat.div_add_mod _ _).symm
  have hr := Nat.mod_lt (T * N) h
  have hle : T * N ≤ D * T := by rw [Nat.mul_comm D]; exact Nat.mul_le_mul_left T hn
  obtain ⟨q, hq⟩ : ∃ q, q = T * N / D := ⟨_, rfl⟩
  obtain ⟨r, hr'⟩ : ∃ r, r = T * N % D := ⟨_, rfl⟩
  rw [← hq, ← hr'] at e
  rw [← hr'] at hr
  rw [← hq, ← hr']
  refine ⟨?_, ?_, ?_⟩
  · unfold needI
    rw [if_neg (by omega)]
    have e2 : ((T : Int) * N) = (D : Int) * q + r := by exact_mod_cast e
    rw [e2]
    by_cases h0 : r = 0
    · rw [if_pos h0, h0, show ((D : Int) * q + ((0 : Nat) : Int) + D - 1) = (D - 1) + D * q by omega, Int.add_mul_ediv_left _ _ (by omega), Int.ediv_eq_zero_of_lt (by omega) (by omega)]
      omega
    · rw [if_neg h0, show ((D : Int) * q + (r : Int) + D - 1) = (r - 1) + D * (q + 1) by rw [Int.mul_add]; omega, Int.add_mul_ediv_left _ _ (by omega), Int.ediv_eq_zero_of_lt (by omega) (by omega)]
      omega
  · exact Nat.le_of_mul_le_mul_left (by omega : D * q ≤ D * T) h
  · intro h0
    exact Nat.lt_of_mul_lt_mul_left (a := D) (by omega)

set_option maxRecDepth 100000 in
set_option maxHeartbeats 1600000 in
theorem need_any (t n d : Int) (ht : t ≤ 9223372036854775807) (hn : n ≤ 9223372036854775807) (hd : d ≤ 9223372036854775807) (w : World) :
    Calls Try.prog 31 #[.int .i64 t, .int .i64 n, .int .i64 d] w fun e w' => e = .returned (.int .i64 (needI t n d)) ∧ Kp (fun _ => False) w w' := by
  have HN := Lib.hid (fun h => needI_no (t := t) (n := n) (d := d) h)
  by_cases h2 : t < 0
  · rw [HN.out (.inl h2)]
    go_enter Try.func31, Try.ntmps31
    go_wp2
    go_ret
    exact ⟨rfl, Kp.refl _ _⟩
  by_cases h3 : n < 0
  · rw [HN.out (.inr (.inl h3))]
    go_enter Try.func31, Try.ntmps31
    go_wp2
    go_ret
    exact ⟨rfl, Kp.refl _ _⟩
  by_cases h4 : d < 1
  · rw [HN.out (.inr (.inr (.inl h4)))]
    go_enter Try.func31, Try.ntmps31
    go_wp2
    go_ret
    exact ⟨rfl, Kp.refl _ _⟩
  by_cases h5 : d < n
  · rw [HN.out (.inr (.inr (.inr h5)))]
    go_enter Try.func31, Try.ntmps31
    go_wp2
    go_ret
    exact ⟨rfl, Kp.refl _ _⟩
  obtain ⟨T, rfl⟩ : ∃ T : Nat, t = T := ⟨t.toNat, by omega⟩
  obtain ⟨N, rfl⟩ : ∃ N : Nat, n = N := ⟨n.toNat, by omega⟩
  obtain ⟨D, rfl⟩ : ∃ D : Nat, d = D := ⟨d.toNat, by omega⟩
  obtain ⟨e1, e2, e3⟩ := needI_nat T N D (by omega) (by omega)
  have HM := Lib.hid (mul64_any T N (by omega) (by omega) w)
  have hle : T * N ≤ T * D := Nat.mul_le_mul_left T (by omega)
  have hhi : T * N / 18446744073709551616 < D := by
    refine (Nat.div_lt_iff_lt_mul (by omega)).2 ?_
    have h6 : T * D ≤ 9223372036854775807 * D := Nat.mul_le_mul_right D (by omega)
    have h7 : T * N ≤ 9223372036854775807 * D := Nat.le_trans hle h6
    generalize T * N = Z at h7 ⊢
    omega
  have HD := Lib.hid (div_any (T * N / 18446744073709551616) (T * N % 18446744073709551616) D w hhi (Nat.mod_lt _ (by omega)) (by omega))
  rw [show T * N / 18446744073709551616 * 18446744073709551616 + T * N % 18446744073709551616 = T * N by rw [Nat.mul_comm]; exact Nat.div_add_mod _ _] at HD
  obtain ⟨p1, hp1⟩ : ∃ p, p = T * N / 18446744073709551616 := ⟨_, rfl⟩
  obtain ⟨p2, hp2⟩ : ∃ p, p = T * N % 18446744073709551616 := ⟨_, rfl⟩
  obtain ⟨q, hq⟩ : ∃ p, p = T * N / D := ⟨_, rfl⟩
  obtain ⟨r, hr⟩ : ∃ p, p = T * N % D := ⟨_, rfl⟩
  rw [← hp1, ← hp2] at HM HD
  rw [← hq, ← hr] at HD e1
  rw [← hq] at e2 e3
  rw [← hr] at e3
  rw [e1]
  clear HN hp1 hp2 hq hr e1 hle hhi
  by_cases h0 : r = 0
  · have h0' : ¬ (0 : Int) < r := by omega
    rw [if_pos h0, Int.add_zero]
    clear e3 h0
    go_enter Try.func31, Try.ntmps31
    go_wp2_with fail
    refine HM.out.mono ?_
    rintro e w2 ⟨rfl, rfl⟩
    go_wp2_with fail
    refine HD.out.mono ?_
    rintro e w3 ⟨rfl, k3⟩
    have K3 := Lib.hid k3
    clear k3
    go_wp2_with fail
    go_ret
    exact ⟨rfl, K3.out⟩
  · have h0' : (0 : Int) < r := by omega
    have hqT := e3 h0
    rw [if_neg h0]
    clear e3 h0
    go_enter Try.func31, Try.ntmps31
    go_wp2_with fail
    refine HM.out.mono ?_
    rintro e w2 ⟨rfl, rfl⟩
    go_wp2_with fail
    refine HD.out.mono ?_
    rintro e w3 ⟨rfl, k3⟩
    have K3 := Lib.hid k3
    clear k3
    go_wp2_with fail
    go_ret
    exact ⟨rfl, K3.out⟩
end Go.Proofs.Ytphbckjadebdmaa
