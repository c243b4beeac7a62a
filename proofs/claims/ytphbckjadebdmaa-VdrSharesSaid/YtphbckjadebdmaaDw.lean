/-
  math/bits: Div64.
-/
import Derived.Test.YtphbckjadebdmaaDv
import Derived.Deep.Cut
namespace Go.Proofs.Ytphbckjadebdmaa
open Go.RowKit

/-- what is divided and what divides, moved up by s bits, in halves of words -/
structure Norm (hi lo y s v v1 v0 u3 l l1 l0 : Nat) : Prop where
  vs : v = y * 2 ^ s
  vh : v = v1 * 4294967296 + v0
  v0l : v0 < 4294967296
  v1l : v1 < 4294967296
  v1g : 2147483648 ≤ v1
  ul : u3 < v
  lh : l = l1 * 4294967296 + l0
  l1l : l1 < 4294967296
  l0l : l0 < 4294967296
  all : (u3 * 4294967296 + l1) * 4294967296 + l0 = (hi * 18446744073709551616 + lo) * 2 ^ s
  e1 : IntKind.u64.wrap ((y : Int) * 2 ^ s) = (v : Int)
  e2 : (v : Int) / 4294967296 = (v1 : Int)
  e3 : bits BinOp.and IntKind.u64 (v : Int) 4294967295 = (v0 : Int)
  e4 : bits BinOp.or IntKind.u64 (IntKind.u64.wrap ((hi : Int) * 2 ^ s)) ((lo : Int) / 2 ^ (64 - s)) = (u3 : Int)
  e5 : IntKind.u64.wrap ((lo : Int) * 2 ^ s) = (l : Int)
  e6 : (l : Int) / 4294967296 = (l1 : Int)
  e7 : bits BinOp.and IntKind.u64 (l : Int) 4294967295 = (l0 : Int)
theorem norm_all {hi lo y s : Nat} (h1 : hi < y) (hlo : lo < 18446744073709551616) (hs : s < 64) (hn1 : 9223372036854775808 ≤ y * 2 ^ s) (hn2 : y * 2 ^ s < 18446744073709551616) :
    ∃ v v1 v0 u3 l l1 l0 : Nat, Norm hi lo y s v v1 v0 u3 l l1 l0 := by
  have hp : 0 < 2 ^ s := Nat.pow_pos (by omega)
  have p64 : 2 ^ s * 2 ^ (64 - s) = 18446744073709551616 := by rw [← Nat.pow_add, show s + (64 - s) = 64 by omega]
  have hp2 : 0 < 2 ^ (64 - s) := Nat.pow_pos (by omega)
  have hd : lo / 2 ^ (64 - s) < 2 ^ s := Nat.div_lt_of_lt_mul (by rw [Nat.mul_comm]; omega)
  have hhv : (hi + 1) * 2 ^ s ≤ y * 2 ^ s := Nat.mul_le_mul_right _ h1
  rw [Nat.add_mul, Nat.one_mul] at hhv
  have hls : lo * 2 ^ s / 18446744073709551616 = lo / 2 ^ (64 - s) := by rw [← p64, Nat.mul_comm lo, Nat.mul_div_mul_left _ _ hp]
  have c2 : ((2 ^ s : Nat) : Int) = (2 : Int) ^ s := by simp
  have c3 : ((2 ^ (64 - s) : Nat) : Int) = (2 : Int) ^ (64 - s) := by simp
  refine ⟨y * 2 ^ s, y * 2 ^ s / 4294967296, y * 2 ^ s % 4294967296, hi * 2 ^ s + lo / 2 ^ (64 - s), lo * 2 ^ s % 18446744073709551616, lo * 2 ^ s % 18446744073709551616 / 4294967296, lo * 2 ^ s % 18446744073709551616 % 4294967296, ?_⟩
  refine ⟨rfl, by omega, by omega, by omega, by omega, by omega, by omega, by omega, by omega, ?_, ?_, ?_, ?_, ?_, ?_, ?_, ?_⟩
  · rw [Nat.add_mul (hi * 18446744073709551616), Nat.mul_right_comm hi]
    omega
  · rw [← c2, Mul64.mulN, Mul64.wrapN _ hn2]
  · omega
  · exact Mul64.maskN _ hn2
  · rw [← c2, ← c3, Mul64.mulN, Mul64.wrapN _ (by omega), ← Int.natCast_ediv]
    have h := bits_or_u64_nat (hi * 2 ^ s) (lo / 2 ^ (64 - s)) (by omega) (by have := Nat.div_le_self lo (2 ^ (64 - s)); omega)
    rw [h, Nat.mul_comm hi, ← Nat.two_pow_add_eq_or_of_lt hd]
  · rw [← c2, Mul64.mulN, Mul64.wrapM]
  · omega
  · exact Mul64.maskN _ (by omega)

/-- a digit that was guessed is no smaller than the true one; it goes on being so -/
theorem digit_dec {v v1 v0 un u1 q r : Nat} (hv : v = v1 * 4294967296 + v0) (hq : q * v1 + r = un) (h0 : 0 < v) (hu : un < v) (hu1 : u1 < 4294967296) (h : 4294967296 ≤ q ∨ r * 4294967296 + u1 < q * v0) : (un * 4294967296 + u1) / v + 1 ≤ q := by
  rcases h with h | h
  · have hlt : (un * 4294967296 + u1) / v < 4294967296 := (Nat.div_lt_iff_lt_mul h0).2 (by omega)
    generalize (un * 4294967296 + u1) / v = t at hlt ⊢
    omega
  · have h2 : un * 4294967296 + u1 < q * v := by
      have e : q * v = q * v1 * 4294967296 + q * v0 := by rw [hv, Nat.mul_add, Nat.mul_assoc]
      rw [e, ← hq, Nat.add_mul, Nat.add_assoc]
      exact Nat.add_lt_add_left h _
    exact Nat.succ_le_of_lt ((Nat.div_lt_iff_lt_mul h0).2 h2)
theorem digit_exit {v v1 v0 un u1 q r : Nat} (hv : v = v1 * 4294967296 + v0) (hq : q * v1 + r = un) (h0 : 0 < v) (h : q * v0 ≤ r * 4294967296 + u1) : q ≤ (un * 4294967296 + u1) / v := by
  refine (Nat.le_div_iff_mul_le h0).2 ?_
  rw [hv, Nat.mul_add, ← Nat.mul_assoc, ← hq, Nat.add_mul]
  omega
/-- the first guess -/
theorem digit_first {v v1 v0 un u1 : Nat} (hv : v = v1 * 4294967296 + v0) (h0 : v0 < 4294967296) (h1 : 2147483648 ≤ v1) (hu : un < v) (hu1 : u1 < 4294967296) : (un * 4294967296 + u1) / v ≤ un / v1 ∧ un / v1 ≤ 4294967297 := by
  constructor
  · refine (Nat.le_div_iff_mul_le (by omega)).2 ?_
    have h2 := Nat.div_mul_le_self (un * 4294967296 + u1) v
    generalize (un * 4294967296 + u1) / v = t at h2 ⊢
    rw [hv, Nat.mul_add, ← Nat.mul_assoc] at h2
    generalize t * v1 = a at h2 ⊢
    omega
  · have h2 := Nat.div_mul_le_self un v1
    refine Nat.le_of_lt_succ ((Nat.div_lt_iff_lt_mul (by omega)).2 ?_)
    omega

theorem lt_digit {un v u1 : Nat} (h : un < v) (h1 : u1 < 4294967296) : un * 4294967296 + u1 < 4294967296 * v := by omega
theorem div_fin {hi lo y s v v1 v0 u3 l l1 l0 t1 un t2 rr : Nat} (N : Norm hi lo y s v v1 v0 u3 l l1 l0) (h1 : t1 * v + un = u3 * 4294967296 + l1) (h2 : t2 * v + rr = un * 4294967296 + l0) (hr : rr < v) :
    Ending.returned (.tuple #[.int .u64 ((t1 : Int) * 4294967296 + t2), .int .u64 ((rr : Int) / 2 ^ s)]) = Ending.returned (.tuple #[.int .u64 (((hi * 18446744073709551616 + lo) / y : Nat) : Int), .int .u64 (((hi * 18446744073709551616 + lo) % y : Nat) : Int)]) := by
  have hp : 0 < 2 ^ s := Nat.pow_pos (by omega)
  have hall := N.all
  have hvs := N.vs
  obtain ⟨U, hU⟩ : ∃ U, U = hi * 18446744073709551616 + lo := ⟨_, rfl⟩
  rw [← hU] at hall ⊢
  have e : U * 2 ^ s = (t1 * 4294967296 + t2) * v + rr := by
    rw [← hall, ← h1, Nat.add_mul, Nat.add_assoc, ← h2, Nat.add_mul, Nat.mul_right_comm, Nat.add_assoc]
  have hd : U * 2 ^ s / v = t1 * 4294967296 + t2 := by
    rw [e, Nat.mul_comm, Nat.mul_add_div (by omega), Nat.div_eq_of_lt hr, Nat.add_zero]
  have hm : U * 2 ^ s % v = rr := by
    rw [e, Nat.mul_comm, Nat.mul_add_mod, Nat.mod_eq_of_lt hr]
  rw [hvs, Nat.mul_div_mul_right _ _ hp] at hd
  rw [hvs, Nat.mul_mod_mul_right] at hm
  have c2 : ((2 ^ s : Nat) : Int) = (2 : Int) ^ s := by simp
  have hq : ((rr : Int) / 2 ^ s) = ((U % y : Nat) : Int) := by
    rw [← c2, ← Int.natCast_ediv, ← hm, Nat.mul_div_cancel _ hp]
  rw [hq, hd]
  simp

set_option maxHeartbeats 8000000 in
set_option maxRecDepth 100000 in
theorem div64_any (hi lo y : Nat) (w : World) (h0 : 0 < hi) (h1 : hi < y) (hlo : lo < 18446744073709551616) (hy : y < 18446744073709551616) :
    Calls Try.prog 43 #[.int .u64 hi, .int .u64 lo, .int .u64 y] w fun e w' => e = .returned (.tuple #[.int .u64 (((hi * 18446744073709551616 + lo) / y : Nat) : Int), .int .u64 (((hi * 18446744073709551616 + lo) % y : Nat) : Int)]) ∧ w' = w := by
  have HL := Lib.hid (lz64_any y w (by omega) hy)
  have e1 : ((y : Int) == 0) = false := by simp; omega
  have e2 : ¬ (y : Int) ≤ hi := by omega
  have e3 : ((hi : Int) == 0) = false := by simp; omega
  go_enter Try.func43, Try.ntmps43
  go_wp2_with fail
  refine HL.out.mono ?_
  rintro e w' ⟨s, rfl, hs, hn1, hn2, rfl⟩
  obtain ⟨v, v1, v0, u3, l, l1, l0, N⟩ := norm_all h1 hlo hs hn1 hn2
  have HN := Lib.hid N
  clear hn1 hn2
  go_upto_region 15 with fail
  simp only [N.e1, N.e2, N.e3, N.e4, N.e5, N.e6, N.e7]
  have b1 := N.v1l
  have b2 := N.v1g
  have b3 := N.v0l
  have b4 := N.l1l
  have b5 := N.l0l
  have b6 : u3 < 18446744073709551616 := by have := N.vh; have := N.ul; omega
  have bv : v < 18446744073709551616 := by have := N.vh; omega
  have hv0 : 0 < v := by have := N.vh; omega
  have d1 : ((v1 : Int) == 0) = false := by simp; omega
  have d2 : (v1 : Int) ≠ 0 := by omega
  have hulqa : u3 < v := HN.out.ul
  have q0qa : ((u3 : Int) / (v1 : Int)) = ((u3 / v1 : Nat) : Int) := by simp
  have hdfqa := digit_first (u1 := l1) HN.out.vh b3 b2 hulqa (by omega)
  have hdmqa := Nat.div_add_mod u3 v1
  have hmlqa := Nat.mod_lt u3 (show 0 < v1 by omega)
  obtain ⟨qa, hqqa⟩ : ∃ q, q = u3 / v1 := ⟨_, rfl⟩
  obtain ⟨ra, hrqa⟩ : ∃ r, r = u3 % v1 := ⟨_, rfl⟩
  obtain ⟨t1, htqa⟩ : ∃ t, t = (u3 * 4294967296 + l1) / v := ⟨_, rfl⟩
  rw [← hqqa] at q0qa hdfqa hdmqa
  rw [← hrqa] at hmlqa hdmqa
  rw [← htqa] at hdfqa
  have HEqa := Lib.hid (show qa * v1 + ra = u3 by rw [Nat.mul_comm]; exact hdmqa)
  have HTqa := Lib.hid htqa
  have HUqa := Lib.hid hulqa
  have HFqa := Lib.hid hdfqa.1
  have hq2qa : qa ≤ 4294967297 := hdfqa.2
  have hr2qa : ra < v1 := hmlqa
  obtain ⟨pqa, hpqa⟩ : ∃ p, p = qa * v1 := ⟨_, rfl⟩
  have hppqa : pqa + ra = u3 := by rw [hpqa]; exact HEqa.out
  have m1qa : IntKind.u64.wrap ((qa : Int) * (v1 : Int)) = (pqa : Int) := by rw [Mul64.mulN, ← hpqa, Mul64.wrapN _ (by omega)]
  have m2qa : ((u3 : Int) - (pqa : Int)) = (ra : Int) := by omega
  clear hdfqa hdmqa hqqa hrqa htqa hmlqa hulqa hpqa hppqa
  have ht1l : t1 < 4294967296 := by rw [HTqa.out]; exact (Nat.div_lt_iff_lt_mul hv0).2 (lt_digit HN.out.ul (by omega))
  clear N
  go_wp2_with fail
  go_loopw [15, 16] (fun qv rv wx => ∃ q r : Nat, qv = .int .u64 q ∧ rv = .int .u64 r ∧ q ≤ 4294967297 ∧ r < 4294967296 ∧ wx = w' ∧ Hid (q * v1 + r = u3) ∧ Hid (t1 ≤ q)) (fun qv _ _ => (intOf qv).toNat)
  case atStart => exact ⟨qa, ra, rfl, rfl, hq2qa, by omega, rfl, HEqa, HFqa⟩
  case round =>
    obtain ⟨q, r, rfl, rfl, hql, hrl, rfl, hqr, htq⟩ := hrel
    by_cases hbig : 4294967296 ≤ q
    · have hbig' : (4294967296 : Int) ≤ q := by omega
      have hdec := digit_dec HN.out.vh hqr.out (by omega : 0 < v) HUqa.out (by omega : l1 < 4294967296) (.inl hbig)
      rw [← HTqa.out] at hdec
      have hq1 : 1 ≤ q := by omega
      by_cases hbr : r + v1 < 4294967296
      · have HQR := Lib.hid (show (q - 1) * v1 + (r + v1) = u3 by
          have := hqr.out
          obtain ⟨q', rfl⟩ : ∃ q', q = q' + 1 := ⟨q - 1, by omega⟩
          rw [Nat.add_sub_cancel]
          rw [Nat.add_mul] at this
          omega)
        have HTQ := Lib.hid (show t1 ≤ q - 1 by omega)
        have HBR := Lib.hid hbr
        have hbr' : ¬ (4294967296 : Int) ≤ (r : Int) + (v1 : Int) := by omega
        clear hdec hbr
        clear hbig
        go_wp2_with fail
        go_roundw
        case rel => exact ⟨q - 1, r + v1, by go_num, by go_num, by omega, HBR.out, by first | rfl | trivial, HQR, HTQ⟩
        case measure => simp [intOf]; omega
      · have hqt : q = t1 + 1 := by
          obtain ⟨q', rfl⟩ : ∃ q', q = q' + 1 := ⟨q - 1, by omega⟩
          have h1 : q' * v1 + (r + v1) = u3 := by
            have := hqr.out
            rw [Nat.add_mul] at this
            omega
          have h2 : q' * v0 ≤ (r + v1) * 4294967296 + l1 := by
            have := Nat.mul_le_mul (show q' ≤ 4294967296 by omega) (show v0 ≤ 4294967295 by omega)
            omega
          have h3 := digit_exit (u1 := l1) HN.out.vh h1 (by omega) h2
          rw [← HTqa.out] at h3
          omega
        have hbr' : (4294967296 : Int) ≤ (r : Int) + (v1 : Int) := by omega
        have mqt : ((q : Int) - 1) = (t1 : Int) := by omega
        clear hdec hbr hqt
        clear hbig
        have hdvqa := Nat.div_add_mod (u3 * 4294967296 + l1) v
        have hmvqa := Nat.mod_lt (u3 * 4294967296 + l1) (show 0 < v by omega)
        rw [← HTqa.out] at hdvqa
        obtain ⟨un2, hnuqa⟩ : ∃ n, n = (u3 * 4294967296 + l1) % v := ⟨_, rfl⟩
        rw [← hnuqa] at hdvqa hmvqa
        obtain ⟨aqa, haqa⟩ : ∃ a, a = u3 * 4294967296 % 18446744073709551616 := ⟨_, rfl⟩
        obtain ⟨cqa, hcqa⟩ : ∃ a, a = (aqa + l1) % 18446744073709551616 := ⟨_, rfl⟩
        obtain ⟨Pqa, hPqa⟩ : ∃ a, a = t1 * v := ⟨_, rfl⟩
        obtain ⟨eqa, heqa⟩ : ∃ a, a = Pqa % 18446744073709551616 := ⟨_, rfl⟩
        have n1qa : IntKind.u64.wrap ((u3 : Int) * 4294967296) = (aqa : Int) := by rw [IntKind.wrap_u64]; omega
        have n2qa : IntKind.u64.wrap ((aqa : Int) + (l1 : Int)) = (cqa : Int) := by rw [IntKind.wrap_u64]; omega
        have n3qa : IntKind.u64.wrap ((t1 : Int) * (v : Int)) = (eqa : Int) := by rw [Mul64.mulN, ← hPqa, Mul64.wrapM, heqa]
        have n4qa : IntKind.u64.wrap ((cqa : Int) - (eqa : Int)) = (un2 : Int) := by
          rw [Nat.mul_comm, ← hPqa] at hdvqa
          rw [IntKind.wrap_u64]
          omega
        have HDVqa := Lib.hid (show t1 * v + un2 = u3 * 4294967296 + l1 by rw [Nat.mul_comm]; exact hdvqa)
        have HMVqa := Lib.hid hmvqa
        clear hdvqa hmvqa hnuqa haqa hcqa heqa hPqa
        have hulqb : un2 < v := HMVqa.out
        have q0qb : ((un2 : Int) / (v1 : Int)) = ((un2 / v1 : Nat) : Int) := by simp
        have hdfqb := digit_first (u1 := l0) HN.out.vh b3 b2 hulqb (by omega)
        have hdmqb := Nat.div_add_mod un2 v1
        have hmlqb := Nat.mod_lt un2 (show 0 < v1 by omega)
        obtain ⟨qb, hqqb⟩ : ∃ q, q = un2 / v1 := ⟨_, rfl⟩
        obtain ⟨rb, hrqb⟩ : ∃ r, r = un2 % v1 := ⟨_, rfl⟩
        obtain ⟨t2, htqb⟩ : ∃ t, t = (un2 * 4294967296 + l0) / v := ⟨_, rfl⟩
        rw [← hqqb] at q0qb hdfqb hdmqb
        rw [← hrqb] at hmlqb hdmqb
        rw [← htqb] at hdfqb
        have HEqb := Lib.hid (show qb * v1 + rb = un2 by rw [Nat.mul_comm]; exact hdmqb)
        have HTqb := Lib.hid htqb
        have HUqb := Lib.hid hulqb
        have HFqb := Lib.hid hdfqb.1
        have hq2qb : qb ≤ 4294967297 := hdfqb.2
        have hr2qb : rb < v1 := hmlqb
        obtain ⟨pqb, hpqb⟩ : ∃ p, p = qb * v1 := ⟨_, rfl⟩
        have hppqb : pqb + rb = un2 := by rw [hpqb]; exact HEqb.out
        have m1qb : IntKind.u64.wrap ((qb : Int) * (v1 : Int)) = (pqb : Int) := by rw [Mul64.mulN, ← hpqb, Mul64.wrapN _ (by omega)]
        have m2qb : ((un2 : Int) - (pqb : Int)) = (rb : Int) := by omega
        clear hdfqb hdmqb hqqb hrqb htqb hmlqb hulqb hpqb hppqb
        have HTLb := Lib.hid (show t2 < 4294967296 by rw [HTqb.out]; exact (Nat.div_lt_iff_lt_mul hv0).2 (lt_digit HMVqa.out (by omega)))
        have ht2l := HTLb.out
        go_wp2_with fail
        go_loopw [16, 18] (fun rv qv wx => ∃ q r : Nat, qv = .int .u64 q ∧ rv = .int .u64 r ∧ q ≤ 4294967297 ∧ r < 4294967296 ∧ wx = wr ∧ Hid (q * v1 + r = un2) ∧ Hid (t2 ≤ q)) (fun _ qv _ => (intOf qv).toNat)
        case atStart => exact ⟨qb, rb, rfl, rfl, hq2qb, by omega, rfl, HEqb, HFqb⟩
        case round =>
          obtain ⟨q, r, rfl, rfl, hql, hrl, rfl, hqr, htq⟩ := hrel
          by_cases hbig : 4294967296 ≤ q
          · have hbig' : (4294967296 : Int) ≤ q := by omega
            have hdec := digit_dec HN.out.vh hqr.out (by omega : 0 < v) HUqb.out (by omega : l0 < 4294967296) (.inl hbig)
            rw [← HTqb.out] at hdec
            have hq1 : 1 ≤ q := by omega
            by_cases hbr : r + v1 < 4294967296
            · have HQR := Lib.hid (show (q - 1) * v1 + (r + v1) = un2 by
                have := hqr.out
                obtain ⟨q', rfl⟩ : ∃ q', q = q' + 1 := ⟨q - 1, by omega⟩
                rw [Nat.add_sub_cancel]
                rw [Nat.add_mul] at this
                omega)
              have HTQ := Lib.hid (show t2 ≤ q - 1 by omega)
              have HBR := Lib.hid hbr
              have hbr' : ¬ (4294967296 : Int) ≤ (r : Int) + (v1 : Int) := by omega
              clear hdec hbr
              clear hbig
              go_wp2_with fail
              go_roundw
              case rel => exact ⟨q - 1, r + v1, by go_num, by go_num, by omega, HBR.out, by first | rfl | trivial, HQR, HTQ⟩
              case measure => simp [intOf]; omega
            · have hqt : q = t2 + 1 := by
                obtain ⟨q', rfl⟩ : ∃ q', q = q' + 1 := ⟨q - 1, by omega⟩
                have h1 : q' * v1 + (r + v1) = un2 := by
                  have := hqr.out
                  rw [Nat.add_mul] at this
                  omega
                have h2 : q' * v0 ≤ (r + v1) * 4294967296 + l0 := by
                  have := Nat.mul_le_mul (show q' ≤ 4294967296 by omega) (show v0 ≤ 4294967295 by omega)
                  omega
                have h3 := digit_exit (u1 := l0) HN.out.vh h1 (by omega) h2
                rw [← HTqb.out] at h3
                omega
              have hbr' : (4294967296 : Int) ≤ (r : Int) + (v1 : Int) := by omega
              have mqt : ((q : Int) - 1) = (t2 : Int) := by omega
              clear hdec hbr hqt
              clear hbig
              have hdvqb := Nat.div_add_mod (un2 * 4294967296 + l0) v
              have hmvqb := Nat.mod_lt (un2 * 4294967296 + l0) (show 0 < v by omega)
              rw [← HTqb.out] at hdvqb
              obtain ⟨rr, hnuqb⟩ : ∃ n, n = (un2 * 4294967296 + l0) % v := ⟨_, rfl⟩
              rw [← hnuqb] at hdvqb hmvqb
              obtain ⟨aqb, haqb⟩ : ∃ a, a = un2 * 4294967296 % 18446744073709551616 := ⟨_, rfl⟩
              obtain ⟨cqb, hcqb⟩ : ∃ a, a = (aqb + l0) % 18446744073709551616 := ⟨_, rfl⟩
              obtain ⟨Pqb, hPqb⟩ : ∃ a, a = t2 * v := ⟨_, rfl⟩
              obtain ⟨eqb, heqb⟩ : ∃ a, a = Pqb % 18446744073709551616 := ⟨_, rfl⟩
              have n1qb : IntKind.u64.wrap ((un2 : Int) * 4294967296) = (aqb : Int) := by rw [IntKind.wrap_u64]; omega
              have n2qb : IntKind.u64.wrap ((aqb : Int) + (l0 : Int)) = (cqb : Int) := by rw [IntKind.wrap_u64]; omega
              have n3qb : IntKind.u64.wrap ((t2 : Int) * (v : Int)) = (eqb : Int) := by rw [Mul64.mulN, ← hPqb, Mul64.wrapM, heqb]
              have n4qb : IntKind.u64.wrap ((cqb : Int) - (eqb : Int)) = (rr : Int) := by
                rw [Nat.mul_comm, ← hPqb] at hdvqb
                rw [IntKind.wrap_u64]
                omega
              have HDVqb := Lib.hid (show t2 * v + rr = un2 * 4294967296 + l0 by rw [Nat.mul_comm]; exact hdvqb)
              have HMVqb := Lib.hid hmvqb
              clear hdvqb hmvqb hnuqb haqb hcqb heqb hPqb
              go_wp2_with fail
              go_ret2
              exact ⟨div_fin HN.out HDVqa.out HDVqb.out HMVqb.out, rfl⟩
          · have hbig' : ¬ (4294967296 : Int) ≤ q := by omega
            obtain ⟨P, hP⟩ : ∃ P, P = q * v0 := ⟨_, rfl⟩
            have hPl : P < 18446744073709551616 := by
              have := Nat.mul_le_mul (show q ≤ 4294967295 by omega) (show v0 ≤ 4294967295 by omega)
              omega
            have mP : IntKind.u64.wrap ((q : Int) * (v0 : Int)) = (P : Int) := by rw [Mul64.mulN, ← hP, Mul64.wrapN _ hPl]
            by_cases hgt : r * 4294967296 + l0 < P
            · have hgt' : (4294967296 : Int) * r + l0 < P := by omega
              have hdec := digit_dec HN.out.vh hqr.out (by omega : 0 < v) HUqb.out (by omega : l0 < 4294967296) (.inr (by rw [← hP]; exact hgt))
              rw [← HTqb.out] at hdec
              have hq1 : 1 ≤ q := by omega
              by_cases hbr : r + v1 < 4294967296
              · have HQR := Lib.hid (show (q - 1) * v1 + (r + v1) = un2 by
                  have := hqr.out
                  obtain ⟨q', rfl⟩ : ∃ q', q = q' + 1 := ⟨q - 1, by omega⟩
                  rw [Nat.add_sub_cancel]
                  rw [Nat.add_mul] at this
                  omega)
                have HTQ := Lib.hid (show t2 ≤ q - 1 by omega)
                have HBR := Lib.hid hbr
                have hbr' : ¬ (4294967296 : Int) ≤ (r : Int) + (v1 : Int) := by omega
                clear hdec hbr
                clear hbig hgt hP
                go_wp2_with fail
                go_roundw
                case rel => exact ⟨q - 1, r + v1, by go_num, by go_num, by omega, HBR.out, by first | rfl | trivial, HQR, HTQ⟩
                case measure => simp [intOf]; omega
              · have hqt : q = t2 + 1 := by
                  obtain ⟨q', rfl⟩ : ∃ q', q = q' + 1 := ⟨q - 1, by omega⟩
                  have h1 : q' * v1 + (r + v1) = un2 := by
                    have := hqr.out
                    rw [Nat.add_mul] at this
                    omega
                  have h2 : q' * v0 ≤ (r + v1) * 4294967296 + l0 := by
                    have := Nat.mul_le_mul (show q' ≤ 4294967296 by omega) (show v0 ≤ 4294967295 by omega)
                    omega
                  have h3 := digit_exit (u1 := l0) HN.out.vh h1 (by omega) h2
                  rw [← HTqb.out] at h3
                  omega
                have hbr' : (4294967296 : Int) ≤ (r : Int) + (v1 : Int) := by omega
                have mqt : ((q : Int) - 1) = (t2 : Int) := by omega
                clear hdec hbr hqt
                clear hbig hgt hP
                have hdvqb := Nat.div_add_mod (un2 * 4294967296 + l0) v
                have hmvqb := Nat.mod_lt (un2 * 4294967296 + l0) (show 0 < v by omega)
                rw [← HTqb.out] at hdvqb
                obtain ⟨rr, hnuqb⟩ : ∃ n, n = (un2 * 4294967296 + l0) % v := ⟨_, rfl⟩
                rw [← hnuqb] at hdvqb hmvqb
                obtain ⟨aqb, haqb⟩ : ∃ a, a = un2 * 4294967296 % 18446744073709551616 := ⟨_, rfl⟩
                obtain ⟨cqb, hcqb⟩ : ∃ a, a = (aqb + l0) % 18446744073709551616 := ⟨_, rfl⟩
                obtain ⟨Pqb, hPqb⟩ : ∃ a, a = t2 * v := ⟨_, rfl⟩
                obtain ⟨eqb, heqb⟩ : ∃ a, a = Pqb % 18446744073709551616 := ⟨_, rfl⟩
                have n1qb : IntKind.u64.wrap ((un2 : Int) * 4294967296) = (aqb : Int) := by rw [IntKind.wrap_u64]; omega
                have n2qb : IntKind.u64.wrap ((aqb : Int) + (l0 : Int)) = (cqb : Int) := by rw [IntKind.wrap_u64]; omega
                have n3qb : IntKind.u64.wrap ((t2 : Int) * (v : Int)) = (eqb : Int) := by rw [Mul64.mulN, ← hPqb, Mul64.wrapM, heqb]
                have n4qb : IntKind.u64.wrap ((cqb : Int) - (eqb : Int)) = (rr : Int) := by
                  rw [Nat.mul_comm, ← hPqb] at hdvqb
                  rw [IntKind.wrap_u64]
                  omega
                have HDVqb := Lib.hid (show t2 * v + rr = un2 * 4294967296 + l0 by rw [Nat.mul_comm]; exact hdvqb)
                have HMVqb := Lib.hid hmvqb
                clear hdvqb hmvqb hnuqb haqb hcqb heqb hPqb
                go_wp2_with fail
                go_ret2
                exact ⟨div_fin HN.out HDVqa.out HDVqb.out HMVqb.out, rfl⟩
            · have hgt' : ¬ (4294967296 : Int) * r + l0 < P := by omega
              have hqt : t2 = q := by
                have h3 := digit_exit (u1 := l0) HN.out.vh hqr.out (by omega) (by rw [← hP]; omega)
                rw [← HTqb.out] at h3
                have := htq.out
                omega
              subst hqt
              clear hP hbig hgt
              have hdvqb := Nat.div_add_mod (un2 * 4294967296 + l0) v
              have hmvqb := Nat.mod_lt (un2 * 4294967296 + l0) (show 0 < v by omega)
              rw [← HTqb.out] at hdvqb
              obtain ⟨rr, hnuqb⟩ : ∃ n, n = (un2 * 4294967296 + l0) % v := ⟨_, rfl⟩
              rw [← hnuqb] at hdvqb hmvqb
              obtain ⟨aqb, haqb⟩ : ∃ a, a = un2 * 4294967296 % 18446744073709551616 := ⟨_, rfl⟩
              obtain ⟨cqb, hcqb⟩ : ∃ a, a = (aqb + l0) % 18446744073709551616 := ⟨_, rfl⟩
              obtain ⟨Pqb, hPqb⟩ : ∃ a, a = t2 * v := ⟨_, rfl⟩
              obtain ⟨eqb, heqb⟩ : ∃ a, a = Pqb % 18446744073709551616 := ⟨_, rfl⟩
              have n1qb : IntKind.u64.wrap ((un2 : Int) * 4294967296) = (aqb : Int) := by rw [IntKind.wrap_u64]; omega
              have n2qb : IntKind.u64.wrap ((aqb : Int) + (l0 : Int)) = (cqb : Int) := by rw [IntKind.wrap_u64]; omega
              have n3qb : IntKind.u64.wrap ((t2 : Int) * (v : Int)) = (eqb : Int) := by rw [Mul64.mulN, ← hPqb, Mul64.wrapM, heqb]
              have n4qb : IntKind.u64.wrap ((cqb : Int) - (eqb : Int)) = (rr : Int) := by
                rw [Nat.mul_comm, ← hPqb] at hdvqb
                rw [IntKind.wrap_u64]
                omega
              have HDVqb := Lib.hid (show t2 * v + rr = un2 * 4294967296 + l0 by rw [Nat.mul_comm]; exact hdvqb)
              have HMVqb := Lib.hid hmvqb
              clear hdvqb hmvqb hnuqb haqb hcqb heqb hPqb
              go_wp2_with fail
              go_ret2
              exact ⟨div_fin HN.out HDVqa.out HDVqb.out HMVqb.out, rfl⟩
    · have hbig' : ¬ (4294967296 : Int) ≤ q := by omega
      obtain ⟨P, hP⟩ : ∃ P, P = q * v0 := ⟨_, rfl⟩
      have hPl : P < 18446744073709551616 := by
        have := Nat.mul_le_mul (show q ≤ 4294967295 by omega) (show v0 ≤ 4294967295 by omega)
        omega
      have mP : IntKind.u64.wrap ((q : Int) * (v0 : Int)) = (P : Int) := by rw [Mul64.mulN, ← hP, Mul64.wrapN _ hPl]
      by_cases hgt : r * 4294967296 + l1 < P
      · have hgt' : (4294967296 : Int) * r + l1 < P := by omega
        have hdec := digit_dec HN.out.vh hqr.out (by omega : 0 < v) HUqa.out (by omega : l1 < 4294967296) (.inr (by rw [← hP]; exact hgt))
        rw [← HTqa.out] at hdec
        have hq1 : 1 ≤ q := by omega
        by_cases hbr : r + v1 < 4294967296
        · have HQR := Lib.hid (show (q - 1) * v1 + (r + v1) = u3 by
            have := hqr.out
            obtain ⟨q', rfl⟩ : ∃ q', q = q' + 1 := ⟨q - 1, by omega⟩
            rw [Nat.add_sub_cancel]
            rw [Nat.add_mul] at this
            omega)
          have HTQ := Lib.hid (show t1 ≤ q - 1 by omega)
          have HBR := Lib.hid hbr
          have hbr' : ¬ (4294967296 : Int) ≤ (r : Int) + (v1 : Int) := by omega
          clear hdec hbr
          clear hbig hgt hP
          go_wp2_with fail
          go_roundw
          case rel => exact ⟨q - 1, r + v1, by go_num, by go_num, by omega, HBR.out, by first | rfl | trivial, HQR, HTQ⟩
          case measure => simp [intOf]; omega
        · have hqt : q = t1 + 1 := by
            obtain ⟨q', rfl⟩ : ∃ q', q = q' + 1 := ⟨q - 1, by omega⟩
            have h1 : q' * v1 + (r + v1) = u3 := by
              have := hqr.out
              rw [Nat.add_mul] at this
              omega
            have h2 : q' * v0 ≤ (r + v1) * 4294967296 + l1 := by
              have := Nat.mul_le_mul (show q' ≤ 4294967296 by omega) (show v0 ≤ 4294967295 by omega)
              omega
            have h3 := digit_exit (u1 := l1) HN.out.vh h1 (by omega) h2
            rw [← HTqa.out] at h3
            omega
          have hbr' : (4294967296 : Int) ≤ (r : Int) + (v1 : Int) := by omega
          have mqt : ((q : Int) - 1) = (t1 : Int) := by omega
          clear hdec hbr hqt
          clear hbig hgt hP
          have hdvqa := Nat.div_add_mod (u3 * 4294967296 + l1) v
          have hmvqa := Nat.mod_lt (u3 * 4294967296 + l1) (show 0 < v by omega)
          rw [← HTqa.out] at hdvqa
          obtain ⟨un2, hnuqa⟩ : ∃ n, n = (u3 * 4294967296 + l1) % v := ⟨_, rfl⟩
          rw [← hnuqa] at hdvqa hmvqa
          obtain ⟨aqa, haqa⟩ : ∃ a, a = u3 * 4294967296 % 18446744073709551616 := ⟨_, rfl⟩
          obtain ⟨cqa, hcqa⟩ : ∃ a, a = (aqa + l1) % 18446744073709551616 := ⟨_, rfl⟩
          obtain ⟨Pqa, hPqa⟩ : ∃ a, a = t1 * v := ⟨_, rfl⟩
          obtain ⟨eqa, heqa⟩ : ∃ a, a = Pqa % 18446744073709551616 := ⟨_, rfl⟩
          have n1qa : IntKind.u64.wrap ((u3 : Int) * 4294967296) = (aqa : Int) := by rw [IntKind.wrap_u64]; omega
          have n2qa : IntKind.u64.wrap ((aqa : Int) + (l1 : Int)) = (cqa : Int) := by rw [IntKind.wrap_u64]; omega
          have n3qa : IntKind.u64.wrap ((t1 : Int) * (v : Int)) = (eqa : Int) := by rw [Mul64.mulN, ← hPqa, Mul64.wrapM, heqa]
          have n4qa : IntKind.u64.wrap ((cqa : Int) - (eqa : Int)) = (un2 : Int) := by
            rw [Nat.mul_comm, ← hPqa] at hdvqa
            rw [IntKind.wrap_u64]
            omega
          have HDVqa := Lib.hid (show t1 * v + un2 = u3 * 4294967296 + l1 by rw [Nat.mul_comm]; exact hdvqa)
          have HMVqa := Lib.hid hmvqa
          clear hdvqa hmvqa hnuqa haqa hcqa heqa hPqa
          have hulqb : un2 < v := HMVqa.out
          have q0qb : ((un2 : Int) / (v1 : Int)) = ((un2 / v1 : Nat) : Int) := by simp
          have hdfqb := digit_first (u1 := l0) HN.out.vh b3 b2 hulqb (by omega)
          have hdmqb := Nat.div_add_mod un2 v1
          have hmlqb := Nat.mod_lt un2 (show 0 < v1 by omega)
          obtain ⟨qb, hqqb⟩ : ∃ q, q = un2 / v1 := ⟨_, rfl⟩
          obtain ⟨rb, hrqb⟩ : ∃ r, r = un2 % v1 := ⟨_, rfl⟩
          obtain ⟨t2, htqb⟩ : ∃ t, t = (un2 * 4294967296 + l0) / v := ⟨_, rfl⟩
          rw [← hqqb] at q0qb hdfqb hdmqb
          rw [← hrqb] at hmlqb hdmqb
          rw [← htqb] at hdfqb
          have HEqb := Lib.hid (show qb * v1 + rb = un2 by rw [Nat.mul_comm]; exact hdmqb)
          have HTqb := Lib.hid htqb
          have HUqb := Lib.hid hulqb
          have HFqb := Lib.hid hdfqb.1
          have hq2qb : qb ≤ 4294967297 := hdfqb.2
          have hr2qb : rb < v1 := hmlqb
          obtain ⟨pqb, hpqb⟩ : ∃ p, p = qb * v1 := ⟨_, rfl⟩
          have hppqb : pqb + rb = un2 := by rw [hpqb]; exact HEqb.out
          have m1qb : IntKind.u64.wrap ((qb : Int) * (v1 : Int)) = (pqb : Int) := by rw [Mul64.mulN, ← hpqb, Mul64.wrapN _ (by omega)]
          have m2qb : ((un2 : Int) - (pqb : Int)) = (rb : Int) := by omega
          clear hdfqb hdmqb hqqb hrqb htqb hmlqb hulqb hpqb hppqb
          have HTLb := Lib.hid (show t2 < 4294967296 by rw [HTqb.out]; exact (Nat.div_lt_iff_lt_mul hv0).2 (lt_digit HMVqa.out (by omega)))
          have ht2l := HTLb.out
          go_wp2_with fail
          go_loopw [16, 18] (fun rv qv wx => ∃ q r : Nat, qv = .int .u64 q ∧ rv = .int .u64 r ∧ q ≤ 4294967297 ∧ r < 4294967296 ∧ wx = wr ∧ Hid (q * v1 + r = un2) ∧ Hid (t2 ≤ q)) (fun _ qv _ => (intOf qv).toNat)
          case atStart => exact ⟨qb, rb, rfl, rfl, hq2qb, by omega, rfl, HEqb, HFqb⟩
          case round =>
            obtain ⟨q, r, rfl, rfl, hql, hrl, rfl, hqr, htq⟩ := hrel
            by_cases hbig : 4294967296 ≤ q
            · have hbig' : (4294967296 : Int) ≤ q := by omega
              have hdec := digit_dec HN.out.vh hqr.out (by omega : 0 < v) HUqb.out (by omega : l0 < 4294967296) (.inl hbig)
              rw [← HTqb.out] at hdec
              have hq1 : 1 ≤ q := by omega
              by_cases hbr : r + v1 < 4294967296
              · have HQR := Lib.hid (show (q - 1) * v1 + (r + v1) = un2 by
                  have := hqr.out
                  obtain ⟨q', rfl⟩ : ∃ q', q = q' + 1 := ⟨q - 1, by omega⟩
                  rw [Nat.add_sub_cancel]
                  rw [Nat.add_mul] at this
                  omega)
                have HTQ := Lib.hid (show t2 ≤ q - 1 by omega)
                have HBR := Lib.hid hbr
                have hbr' : ¬ (4294967296 : Int) ≤ (r : Int) + (v1 : Int) := by omega
                clear hdec hbr
                clear hbig
                go_wp2_with fail
                go_roundw
                case rel => exact ⟨q - 1, r + v1, by go_num, by go_num, by omega, HBR.out, by first | rfl | trivial, HQR, HTQ⟩
                case measure => simp [intOf]; omega
              · have hqt : q = t2 + 1 := by
                  obtain ⟨q', rfl⟩ : ∃ q', q = q' + 1 := ⟨q - 1, by omega⟩
                  have h1 : q' * v1 + (r + v1) = un2 := by
                    have := hqr.out
                    rw [Nat.add_mul] at this
                    omega
                  have h2 : q' * v0 ≤ (r + v1) * 4294967296 + l0 := by
                    have := Nat.mul_le_mul (show q' ≤ 4294967296 by omega) (show v0 ≤ 4294967295 by omega)
                    omega
                  have h3 := digit_exit (u1 := l0) HN.out.vh h1 (by omega) h2
                  rw [← HTqb.out] at h3
                  omega
                have hbr' : (4294967296 : Int) ≤ (r : Int) + (v1 : Int) := by omega
                have mqt : ((q : Int) - 1) = (t2 : Int) := by omega
                clear hdec hbr hqt
                clear hbig
                have hdvqb := Nat.div_add_mod (un2 * 4294967296 + l0) v
                have hmvqb := Nat.mod_lt (un2 * 4294967296 + l0) (show 0 < v by omega)
                rw [← HTqb.out] at hdvqb
                obtain ⟨rr, hnuqb⟩ : ∃ n, n = (un2 * 4294967296 + l0) % v := ⟨_, rfl⟩
                rw [← hnuqb] at hdvqb hmvqb
                obtain ⟨aqb, haqb⟩ : ∃ a, a = un2 * 4294967296 % 18446744073709551616 := ⟨_, rfl⟩
                obtain ⟨cqb, hcqb⟩ : ∃ a, a = (aqb + l0) % 18446744073709551616 := ⟨_, rfl⟩
                obtain ⟨Pqb, hPqb⟩ : ∃ a, a = t2 * v := ⟨_, rfl⟩
                obtain ⟨eqb, heqb⟩ : ∃ a, a = Pqb % 18446744073709551616 := ⟨_, rfl⟩
                have n1qb : IntKind.u64.wrap ((un2 : Int) * 4294967296) = (aqb : Int) := by rw [IntKind.wrap_u64]; omega
                have n2qb : IntKind.u64.wrap ((aqb : Int) + (l0 : Int)) = (cqb : Int) := by rw [IntKind.wrap_u64]; omega
                have n3qb : IntKind.u64.wrap ((t2 : Int) * (v : Int)) = (eqb : Int) := by rw [Mul64.mulN, ← hPqb, Mul64.wrapM, heqb]
                have n4qb : IntKind.u64.wrap ((cqb : Int) - (eqb : Int)) = (rr : Int) := by
                  rw [Nat.mul_comm, ← hPqb] at hdvqb
                  rw [IntKind.wrap_u64]
                  omega
                have HDVqb := Lib.hid (show t2 * v + rr = un2 * 4294967296 + l0 by rw [Nat.mul_comm]; exact hdvqb)
                have HMVqb := Lib.hid hmvqb
                clear hdvqb hmvqb hnuqb haqb hcqb heqb hPqb
                go_wp2_with fail
                go_ret2
                exact ⟨div_fin HN.out HDVqa.out HDVqb.out HMVqb.out, rfl⟩
            · have hbig' : ¬ (4294967296 : Int) ≤ q := by omega
              obtain ⟨P, hP⟩ : ∃ P, P = q * v0 := ⟨_, rfl⟩
              have hPl : P < 18446744073709551616 := by
                have := Nat.mul_le_mul (show q ≤ 4294967295 by omega) (show v0 ≤ 4294967295 by omega)
                omega
              have mP : IntKind.u64.wrap ((q : Int) * (v0 : Int)) = (P : Int) := by rw [Mul64.mulN, ← hP, Mul64.wrapN _ hPl]
              by_cases hgt : r * 4294967296 + l0 < P
              · have hgt' : (4294967296 : Int) * r + l0 < P := by omega
                have hdec := digit_dec HN.out.vh hqr.out (by omega : 0 < v) HUqb.out (by omega : l0 < 4294967296) (.inr (by rw [← hP]; exact hgt))
                rw [← HTqb.out] at hdec
                have hq1 : 1 ≤ q := by omega
                by_cases hbr : r + v1 < 4294967296
                · have HQR := Lib.hid (show (q - 1) * v1 + (r + v1) = un2 by
                    have := hqr.out
                    obtain ⟨q', rfl⟩ : ∃ q', q = q' + 1 := ⟨q - 1, by omega⟩
                    rw [Nat.add_sub_cancel]
                    rw [Nat.add_mul] at this
                    omega)
                  have HTQ := Lib.hid (show t2 ≤ q - 1 by omega)
                  have HBR := Lib.hid hbr
                  have hbr' : ¬ (4294967296 : Int) ≤ (r : Int) + (v1 : Int) := by omega
                  clear hdec hbr
                  clear hbig hgt hP
                  go_wp2_with fail
                  go_roundw
                  case rel => exact ⟨q - 1, r + v1, by go_num, by go_num, by omega, HBR.out, by first | rfl | trivial, HQR, HTQ⟩
                  case measure => simp [intOf]; omega
                · have hqt : q = t2 + 1 := by
                    obtain ⟨q', rfl⟩ : ∃ q', q = q' + 1 := ⟨q - 1, by omega⟩
                    have h1 : q' * v1 + (r + v1) = un2 := by
                      have := hqr.out
                      rw [Nat.add_mul] at this
                      omega
                    have h2 : q' * v0 ≤ (r + v1) * 4294967296 + l0 := by
                      have := Nat.mul_le_mul (show q' ≤ 4294967296 by omega) (show v0 ≤ 4294967295 by omega)
                      omega
                    have h3 := digit_exit (u1 := l0) HN.out.vh h1 (by omega) h2
                    rw [← HTqb.out] at h3
                    omega
                  have hbr' : (4294967296 : Int) ≤ (r : Int) + (v1 : Int) := by omega
                  have mqt : ((q : Int) - 1) = (t2 : Int) := by omega
                  clear hdec hbr hqt
                  clear hbig hgt hP
                  have hdvqb := Nat.div_add_mod (un2 * 4294967296 + l0) v
                  have hmvqb := Nat.mod_lt (un2 * 4294967296 + l0) (show 0 < v by omega)
                  rw [← HTqb.out] at hdvqb
                  obtain ⟨rr, hnuqb⟩ : ∃ n, n = (un2 * 4294967296 + l0) % v := ⟨_, rfl⟩
                  rw [← hnuqb] at hdvqb hmvqb
                  obtain ⟨aqb, haqb⟩ : ∃ a, a = un2 * 4294967296 % 18446744073709551616 := ⟨_, rfl⟩
                  obtain ⟨cqb, hcqb⟩ : ∃ a, a = (aqb + l0) % 18446744073709551616 := ⟨_, rfl⟩
                  obtain ⟨Pqb, hPqb⟩ : ∃ a, a = t2 * v := ⟨_, rfl⟩
                  obtain ⟨eqb, heqb⟩ : ∃ a, a = Pqb % 18446744073709551616 := ⟨_, rfl⟩
                  have n1qb : IntKind.u64.wrap ((un2 : Int) * 4294967296) = (aqb : Int) := by rw [IntKind.wrap_u64]; omega
                  have n2qb : IntKind.u64.wrap ((aqb : Int) + (l0 : Int)) = (cqb : Int) := by rw [IntKind.wrap_u64]; omega
                  have n3qb : IntKind.u64.wrap ((t2 : Int) * (v : Int)) = (eqb : Int) := by rw [Mul64.mulN, ← hPqb, Mul64.wrapM, heqb]
                  have n4qb : IntKind.u64.wrap ((cqb : Int) - (eqb : Int)) = (rr : Int) := by
                    rw [Nat.mul_comm, ← hPqb] at hdvqb
                    rw [IntKind.wrap_u64]
                    omega
                  have HDVqb := Lib.hid (show t2 * v + rr = un2 * 4294967296 + l0 by rw [Nat.mul_comm]; exact hdvqb)
                  have HMVqb := Lib.hid hmvqb
                  clear hdvqb hmvqb hnuqb haqb hcqb heqb hPqb
                  go_wp2_with fail
                  go_ret2
                  exact ⟨div_fin HN.out HDVqa.out HDVqb.out HMVqb.out, rfl⟩
              · have hgt' : ¬ (4294967296 : Int) * r + l0 < P := by omega
                have hqt : t2 = q := by
                  have h3 := digit_exit (u1 := l0) HN.out.vh hqr.out (by omega) (by rw [← hP]; omega)
                  rw [← HTqb.out] at h3
                  have := htq.out
                  omega
                subst hqt
                clear hP hbig hgt
                have hdvqb := Nat.div_add_mod (un2 * 4294967296 + l0) v
                have hmvqb := Nat.mod_lt (un2 * 4294967296 + l0) (show 0 < v by omega)
                rw [← HTqb.out] at hdvqb
                obtain ⟨rr, hnuqb⟩ : ∃ n, n = (un2 * 4294967296 + l0) % v := ⟨_, rfl⟩
                rw [← hnuqb] at hdvqb hmvqb
                obtain ⟨aqb, haqb⟩ : ∃ a, a = un2 * 4294967296 % 18446744073709551616 := ⟨_, rfl⟩
                obtain ⟨cqb, hcqb⟩ : ∃ a, a = (aqb + l0) % 18446744073709551616 := ⟨_, rfl⟩
                obtain ⟨Pqb, hPqb⟩ : ∃ a, a = t2 * v := ⟨_, rfl⟩
                obtain ⟨eqb, heqb⟩ : ∃ a, a = Pqb % 18446744073709551616 := ⟨_, rfl⟩
                have n1qb : IntKind.u64.wrap ((un2 : Int) * 4294967296) = (aqb : Int) := by rw [IntKind.wrap_u64]; omega
                have n2qb : IntKind.u64.wrap ((aqb : Int) + (l0 : Int)) = (cqb : Int) := by rw [IntKind.wrap_u64]; omega
                have n3qb : IntKind.u64.wrap ((t2 : Int) * (v : Int)) = (eqb : Int) := by rw [Mul64.mulN, ← hPqb, Mul64.wrapM, heqb]
                have n4qb : IntKind.u64.wrap ((cqb : Int) - (eqb : Int)) = (rr : Int) := by
                  rw [Nat.mul_comm, ← hPqb] at hdvqb
                  rw [IntKind.wrap_u64]
                  omega
                have HDVqb := Lib.hid (show t2 * v + rr = un2 * 4294967296 + l0 by rw [Nat.mul_comm]; exact hdvqb)
                have HMVqb := Lib.hid hmvqb
                clear hdvqb hmvqb hnuqb haqb hcqb heqb hPqb
                go_wp2_with fail
                go_ret2
                exact ⟨div_fin HN.out HDVqa.out HDVqb.out HMVqb.out, rfl⟩
      · have hgt' : ¬ (4294967296 : Int) * r + l1 < P := by omega
        have hqt : t1 = q := by
          have h3 := digit_exit (u1 := l1) HN.out.vh hqr.out (by omega) (by rw [← hP]; omega)
          rw [← HTqa.out] at h3
          have := htq.out
          omega
        subst hqt
        clear hP hbig hgt
        have hdvqa := Nat.div_add_mod (u3 * 4294967296 + l1) v
        have hmvqa := Nat.mod_lt (u3 * 4294967296 + l1) (show 0 < v by omega)
        rw [← HTqa.out] at hdvqa
        obtain ⟨un2, hnuqa⟩ : ∃ n, n = (u3 * 4294967296 + l1) % v := ⟨_, rfl⟩
        rw [← hnuqa] at hdvqa hmvqa
        obtain ⟨aqa, haqa⟩ : ∃ a, a = u3 * 4294967296 % 18446744073709551616 := ⟨_, rfl⟩
        obtain ⟨cqa, hcqa⟩ : ∃ a, a = (aqa + l1) % 18446744073709551616 := ⟨_, rfl⟩
        obtain ⟨Pqa, hPqa⟩ : ∃ a, a = t1 * v := ⟨_, rfl⟩
        obtain ⟨eqa, heqa⟩ : ∃ a, a = Pqa % 18446744073709551616 := ⟨_, rfl⟩
        have n1qa : IntKind.u64.wrap ((u3 : Int) * 4294967296) = (aqa : Int) := by rw [IntKind.wrap_u64]; omega
        have n2qa : IntKind.u64.wrap ((aqa : Int) + (l1 : Int)) = (cqa : Int) := by rw [IntKind.wrap_u64]; omega
        have n3qa : IntKind.u64.wrap ((t1 : Int) * (v : Int)) = (eqa : Int) := by rw [Mul64.mulN, ← hPqa, Mul64.wrapM, heqa]
        have n4qa : IntKind.u64.wrap ((cqa : Int) - (eqa : Int)) = (un2 : Int) := by
          rw [Nat.mul_comm, ← hPqa] at hdvqa
          rw [IntKind.wrap_u64]
          omega
        have HDVqa := Lib.hid (show t1 * v + un2 = u3 * 4294967296 + l1 by rw [Nat.mul_comm]; exact hdvqa)
        have HMVqa := Lib.hid hmvqa
        clear hdvqa hmvqa hnuqa haqa hcqa heqa hPqa
        have hulqb : un2 < v := HMVqa.out
        have q0qb : ((un2 : Int) / (v1 : Int)) = ((un2 / v1 : Nat) : Int) := by simp
        have hdfqb := digit_first (u1 := l0) HN.out.vh b3 b2 hulqb (by omega)
        have hdmqb := Nat.div_add_mod un2 v1
        have hmlqb := Nat.mod_lt un2 (show 0 < v1 by omega)
        obtain ⟨qb, hqqb⟩ : ∃ q, q = un2 / v1 := ⟨_, rfl⟩
        obtain ⟨rb, hrqb⟩ : ∃ r, r = un2 % v1 := ⟨_, rfl⟩
        obtain ⟨t2, htqb⟩ : ∃ t, t = (un2 * 4294967296 + l0) / v := ⟨_, rfl⟩
        rw [← hqqb] at q0qb hdfqb hdmqb
        rw [← hrqb] at hmlqb hdmqb
        rw [← htqb] at hdfqb
        have HEqb := Lib.hid (show qb * v1 + rb = un2 by rw [Nat.mul_comm]; exact hdmqb)
        have HTqb := Lib.hid htqb
        have HUqb := Lib.hid hulqb
        have HFqb := Lib.hid hdfqb.1
        have hq2qb : qb ≤ 4294967297 := hdfqb.2
        have hr2qb : rb < v1 := hmlqb
        obtain ⟨pqb, hpqb⟩ : ∃ p, p = qb * v1 := ⟨_, rfl⟩
        have hppqb : pqb + rb = un2 := by rw [hpqb]; exact HEqb.out
        have m1qb : IntKind.u64.wrap ((qb : Int) * (v1 : Int)) = (pqb : Int) := by rw [Mul64.mulN, ← hpqb, Mul64.wrapN _ (by omega)]
        have m2qb : ((un2 : Int) - (pqb : Int)) = (rb : Int) := by omega
        clear hdfqb hdmqb hqqb hrqb htqb hmlqb hulqb hpqb hppqb
        have HTLb := Lib.hid (show t2 < 4294967296 by rw [HTqb.out]; exact (Nat.div_lt_iff_lt_mul hv0).2 (lt_digit HMVqa.out (by omega)))
        have ht2l := HTLb.out
        go_wp2_with fail
        go_loopw [16, 18] (fun rv qv wx => ∃ q r : Nat, qv = .int .u64 q ∧ rv = .int .u64 r ∧ q ≤ 4294967297 ∧ r < 4294967296 ∧ wx = wr ∧ Hid (q * v1 + r = un2) ∧ Hid (t2 ≤ q)) (fun _ qv _ => (intOf qv).toNat)
        case atStart => exact ⟨qb, rb, rfl, rfl, hq2qb, by omega, rfl, HEqb, HFqb⟩
        case round =>
          obtain ⟨q, r, rfl, rfl, hql, hrl, rfl, hqr, htq⟩ := hrel
          by_cases hbig : 4294967296 ≤ q
          · have hbig' : (4294967296 : Int) ≤ q := by omega
            have hdec := digit_dec HN.out.vh hqr.out (by omega : 0 < v) HUqb.out (by omega : l0 < 4294967296) (.inl hbig)
            rw [← HTqb.out] at hdec
            have hq1 : 1 ≤ q := by omega
            by_cases hbr : r + v1 < 4294967296
            · have HQR := Lib.hid (show (q - 1) * v1 + (r + v1) = un2 by
                have := hqr.out
                obtain ⟨q', rfl⟩ : ∃ q', q = q' + 1 := ⟨q - 1, by omega⟩
                rw [Nat.add_sub_cancel]
                rw [Nat.add_mul] at this
                omega)
              have HTQ := Lib.hid (show t2 ≤ q - 1 by omega)
              have HBR := Lib.hid hbr
              have hbr' : ¬ (4294967296 : Int) ≤ (r : Int) + (v1 : Int) := by omega
              clear hdec hbr
              clear hbig
              go_wp2_with fail
              go_roundw
              case rel => exact ⟨q - 1, r + v1, by go_num, by go_num, by omega, HBR.out, by first | rfl | trivial, HQR, HTQ⟩
              case measure => simp [intOf]; omega
            · have hqt : q = t2 + 1 := by
                obtain ⟨q', rfl⟩ : ∃ q', q = q' + 1 := ⟨q - 1, by omega⟩
                have h1 : q' * v1 + (r + v1) = un2 := by
                  have := hqr.out
                  rw [Nat.add_mul] at this
                  omega
                have h2 : q' * v0 ≤ (r + v1) * 4294967296 + l0 := by
                  have := Nat.mul_le_mul (show q' ≤ 4294967296 by omega) (show v0 ≤ 4294967295 by omega)
                  omega
                have h3 := digit_exit (u1 := l0) HN.out.vh h1 (by omega) h2
                rw [← HTqb.out] at h3
                omega
              have hbr' : (4294967296 : Int) ≤ (r : Int) + (v1 : Int) := by omega
              have mqt : ((q : Int) - 1) = (t2 : Int) := by omega
              clear hdec hbr hqt
              clear hbig
              have hdvqb := Nat.div_add_mod (un2 * 4294967296 + l0) v
              have hmvqb := Nat.mod_lt (un2 * 4294967296 + l0) (show 0 < v by omega)
              rw [← HTqb.out] at hdvqb
              obtain ⟨rr, hnuqb⟩ : ∃ n, n = (un2 * 4294967296 + l0) % v := ⟨_, rfl⟩
              rw [← hnuqb] at hdvqb hmvqb
              obtain ⟨aqb, haqb⟩ : ∃ a, a = un2 * 4294967296 % 18446744073709551616 := ⟨_, rfl⟩
              obtain ⟨cqb, hcqb⟩ : ∃ a, a = (aqb + l0) % 18446744073709551616 := ⟨_, rfl⟩
              obtain ⟨Pqb, hPqb⟩ : ∃ a, a = t2 * v := ⟨_, rfl⟩
              obtain ⟨eqb, heqb⟩ : ∃ a, a = Pqb % 18446744073709551616 := ⟨_, rfl⟩
              have n1qb : IntKind.u64.wrap ((un2 : Int) * 4294967296) = (aqb : Int) := by rw [IntKind.wrap_u64]; omega
              have n2qb : IntKind.u64.wrap ((aqb : Int) + (l0 : Int)) = (cqb : Int) := by rw [IntKind.wrap_u64]; omega
              have n3qb : IntKind.u64.wrap ((t2 : Int) * (v : Int)) = (eqb : Int) := by rw [Mul64.mulN, ← hPqb, Mul64.wrapM, heqb]
              have n4qb : IntKind.u64.wrap ((cqb : Int) - (eqb : Int)) = (rr : Int) := by
                rw [Nat.mul_comm, ← hPqb] at hdvqb
                rw [IntKind.wrap_u64]
                omega
              have HDVqb := Lib.hid (show t2 * v + rr = un2 * 4294967296 + l0 by rw [Nat.mul_comm]; exact hdvqb)
              have HMVqb := Lib.hid hmvqb
              clear hdvqb hmvqb hnuqb haqb hcqb heqb hPqb
              go_wp2_with fail
              go_ret2
              exact ⟨div_fin HN.out HDVqa.out HDVqb.out HMVqb.out, rfl⟩
          · have hbig' : ¬ (4294967296 : Int) ≤ q := by omega
            obtain ⟨P, hP⟩ : ∃ P, P = q * v0 := ⟨_, rfl⟩
            have hPl : P < 18446744073709551616 := by
              have := Nat.mul_le_mul (show q ≤ 4294967295 by omega) (show v0 ≤ 4294967295 by omega)
              omega
            have mP : IntKind.u64.wrap ((q : Int) * (v0 : Int)) = (P : Int) := by rw [Mul64.mulN, ← hP, Mul64.wrapN _ hPl]
            by_cases hgt : r * 4294967296 + l0 < P
            · have hgt' : (4294967296 : Int) * r + l0 < P := by omega
              have hdec := digit_dec HN.out.vh hqr.out (by omega : 0 < v) HUqb.out (by omega : l0 < 4294967296) (.inr (by rw [← hP]; exact hgt))
              rw [← HTqb.out] at hdec
              have hq1 : 1 ≤ q := by omega
              by_cases hbr : r + v1 < 4294967296
              · have HQR := Lib.hid (show (q - 1) * v1 + (r + v1) = un2 by
                  have := hqr.out
                  obtain ⟨q', rfl⟩ : ∃ q', q = q' + 1 := ⟨q - 1, by omega⟩
                  rw [Nat.add_sub_cancel]
                  rw [Nat.add_mul] at this
                  omega)
                have HTQ := Lib.hid (show t2 ≤ q - 1 by omega)
                have HBR := Lib.hid hbr
                have hbr' : ¬ (4294967296 : Int) ≤ (r : Int) + (v1 : Int) := by omega
                clear hdec hbr
                clear hbig hgt hP
                go_wp2_with fail
                go_roundw
                case rel => exact ⟨q - 1, r + v1, by go_num, by go_num, by omega, HBR.out, by first | rfl | trivial, HQR, HTQ⟩
                case measure => simp [intOf]; omega
              · have hqt : q = t2 + 1 := by
                  obtain ⟨q', rfl⟩ : ∃ q', q = q' + 1 := ⟨q - 1, by omega⟩
                  have h1 : q' * v1 + (r + v1) = un2 := by
                    have := hqr.out
                    rw [Nat.add_mul] at this
                    omega
                  have h2 : q' * v0 ≤ (r + v1) * 4294967296 + l0 := by
                    have := Nat.mul_le_mul (show q' ≤ 4294967296 by omega) (show v0 ≤ 4294967295 by omega)
                    omega
                  have h3 := digit_exit (u1 := l0) HN.out.vh h1 (by omega) h2
                  rw [← HTqb.out] at h3
                  omega
                have hbr' : (4294967296 : Int) ≤ (r : Int) + (v1 : Int) := by omega
                have mqt : ((q : Int) - 1) = (t2 : Int) := by omega
                clear hdec hbr hqt
                clear hbig hgt hP
                have hdvqb := Nat.div_add_mod (un2 * 4294967296 + l0) v
                have hmvqb := Nat.mod_lt (un2 * 4294967296 + l0) (show 0 < v by omega)
                rw [← HTqb.out] at hdvqb
                obtain ⟨rr, hnuqb⟩ : ∃ n, n = (un2 * 4294967296 + l0) % v := ⟨_, rfl⟩
                rw [← hnuqb] at hdvqb hmvqb
                obtain ⟨aqb, haqb⟩ : ∃ a, a = un2 * 4294967296 % 18446744073709551616 := ⟨_, rfl⟩
                obtain ⟨cqb, hcqb⟩ : ∃ a, a = (aqb + l0) % 18446744073709551616 := ⟨_, rfl⟩
                obtain ⟨Pqb, hPqb⟩ : ∃ a, a = t2 * v := ⟨_, rfl⟩
                obtain ⟨eqb, heqb⟩ : ∃ a, a = Pqb % 18446744073709551616 := ⟨_, rfl⟩
                have n1qb : IntKind.u64.wrap ((un2 : Int) * 4294967296) = (aqb : Int) := by rw [IntKind.wrap_u64]; omega
                have n2qb : IntKind.u64.wrap ((aqb : Int) + (l0 : Int)) = (cqb : Int) := by rw [IntKind.wrap_u64]; omega
                have n3qb : IntKind.u64.wrap ((t2 : Int) * (v : Int)) = (eqb : Int) := by rw [Mul64.mulN, ← hPqb, Mul64.wrapM, heqb]
                have n4qb : IntKind.u64.wrap ((cqb : Int) - (eqb : Int)) = (rr : Int) := by
                  rw [Nat.mul_comm, ← hPqb] at hdvqb
                  rw [IntKind.wrap_u64]
                  omega
                have HDVqb := Lib.hid (show t2 * v + rr = un2 * 4294967296 + l0 by rw [Nat.mul_comm]; exact hdvqb)
                have HMVqb := Lib.hid hmvqb
                clear hdvqb hmvqb hnuqb haqb hcqb heqb hPqb
                go_wp2_with fail
                go_ret2
                exact ⟨div_fin HN.out HDVqa.out HDVqb.out HMVqb.out, rfl⟩
            · have hgt' : ¬ (4294967296 : Int) * r + l0 < P := by omega
              have hqt : t2 = q := by
                have h3 := digit_exit (u1 := l0) HN.out.vh hqr.out (by omega) (by rw [← hP]; omega)
                rw [← HTqb.out] at h3
                have := htq.out
                omega
              subst hqt
              clear hP hbig hgt
              have hdvqb := Nat.div_add_mod (un2 * 4294967296 + l0) v
              have hmvqb := Nat.mod_lt (un2 * 4294967296 + l0) (show 0 < v by omega)
              rw [← HTqb.out] at hdvqb
              obtain ⟨rr, hnuqb⟩ : ∃ n, n = (un2 * 4294967296 + l0) % v := ⟨_, rfl⟩
              rw [← hnuqb] at hdvqb hmvqb
              obtain ⟨aqb, haqb⟩ : ∃ a, a = un2 * 4294967296 % 18446744073709551616 := ⟨_, rfl⟩
              obtain ⟨cqb, hcqb⟩ : ∃ a, a = (aqb + l0) % 18446744073709551616 := ⟨_, rfl⟩
              obtain ⟨Pqb, hPqb⟩ : ∃ a, a = t2 * v := ⟨_, rfl⟩
              obtain ⟨eqb, heqb⟩ : ∃ a, a = Pqb % 18446744073709551616 := ⟨_, rfl⟩
              have n1qb : IntKind.u64.wrap ((un2 : Int) * 4294967296) = (aqb : Int) := by rw [IntKind.wrap_u64]; omega
              have n2qb : IntKind.u64.wrap ((aqb : Int) + (l0 : Int)) = (cqb : Int) := by rw [IntKind.wrap_u64]; omega
              have n3qb : IntKind.u64.wrap ((t2 : Int) * (v : Int)) = (eqb : Int) := by rw [Mul64.mulN, ← hPqb, Mul64.wrapM, heqb]
              have n4qb : IntKind.u64.wrap ((cqb : Int) - (eqb : Int)) = (rr : Int) := by
                rw [Nat.mul_comm, ← hPqb] at hdvqb
                rw [IntKind.wrap_u64]
                omega
              have HDVqb := Lib.hid (show t2 * v + rr = un2 * 4294967296 + l0 by rw [Nat.mul_comm]; exact hdvqb)
              have HMVqb := Lib.hid hmvqb
              clear hdvqb hmvqb hnuqb haqb hcqb heqb hPqb
              go_wp2_with fail
              go_ret2
              exact ⟨div_fin HN.out HDVqa.out HDVqb.out HMVqb.out, rfl⟩
end Go.Proofs.Ytphbckjadebdmaa
