/-
  VdrNeed: the law's walk.
-/
import Derived.Test.YtphbckjadebdmaaDx
import Derived.Test.YtphbckjadebdmaaDz
namespace Go.Proofs.Ytphbckjadebdmaa
open Go.ChangeShapes Go.WideShapes Go.ChangeAt Go.RowKit

/-- a share -/
structure Shr where
  t : Int
  n : Int
  d : Int
structure Shr.wf (x : Shr) : Prop where
  t0 : -9223372036854775808 ≤ x.t
  t1 : x.t ≤ 9223372036854775807
  n0 : -9223372036854775808 ≤ x.n
  n1 : x.n ≤ 9223372036854775807
  d0 : -9223372036854775808 ≤ x.d
  d1 : x.d ≤ 9223372036854775807
def shrC (x : Shr) : List Value := [.int .i64 x.t, .int .i64 x.n, .int .i64 x.d]
theorem Try.cellsShr : Try.prog.cellsOf 49 = 3 := by kernel_rfl
theorem shrFields : ∃ f0 f1 f2 : Field, Try.prog.underlying 49 = some (.struct #[f0, f1, f2]) ∧ f0.type = 2 ∧ f1.type = 2 ∧ f2.type = 2 ∧ f0.offset = 0 ∧ f1.offset = 1 ∧ f2.offset = 2 :=
  ⟨_, _, _, Try.underlying49, rfl, rfl, rfl, rfl, rfl, rfl⟩
theorem Try.cellsI64S : Try.prog.cellsOf 2 = 1 := by kernel_rfl
theorem wf_i64S {x : Int} (h : (Lit.int .i64 x).wf = true) : -9223372036854775808 ≤ x ∧ x ≤ 9223372036854775807 := by simpa [Lit.wf, IntKind.min, IntKind.max, IntKind.signed, IntKind.bits] using h
theorem open_shareV {H : Type} {enc : TypeId × Value → H} {W : World} {base : Nat} {spare : Nat → Bool} {held : Bool} {v : Value} {d : DataW H} {p : List MemPlace} (hv : Value.okWide Try.prog W .any base 49 v) (h : DataW.Trod enc Try.prog W 0 spare held 49 v d p) :
    ∃ x : Shr, v = .agg (shrC x).toArray ∧ x.wf := by
  obtain ⟨cs, rfl, hsz⟩ := okWide_struct Try.underlying49 hv
  obtain ⟨fuel, hf⟩ := h
  obtain ⟨f0, f1, f2, hu, t0, t1, t2, o0, o1, o2⟩ := shrFields
  obtain ⟨ys, n, _, _, hlen, hyl, hf⟩ := DataW.trod_struct hu (show DataW.trod enc Try.prog W 0 spare held fuel 49 cs.toList = some (d, p) from hf)
  rw [Try.cellsShr] at hlen
  obtain ⟨csl⟩ := cs
  simp only at hlen hf
  obtain ⟨v0, v1, v2, rfl⟩ : ∃ v0 v1 v2, csl = [v0, v1, v2] := by
    match csl, hlen with
    | [v0, v1, v2], _ => exact ⟨v0, v1, v2, rfl⟩
  obtain ⟨y0, y1, y2, rfl⟩ : ∃ y0 y1 y2, ys = [y0, y1, y2] := by
    match ys, hyl with
    | [v0, v1, v2], _ => exact ⟨v0, v1, v2, rfl⟩
  have g0 := hf 0 f0 rfl
  have g1 := hf 1 f1 rfl
  have g2 := hf 2 f2 rfl
  rw [t0, o0, Try.cellsI64S] at g0
  rw [t1, o1, Try.cellsI64S] at g1
  rw [t2, o2, Try.cellsI64S] at g2
  obtain ⟨T, e0, _, w0⟩ := DataW.trod_int Try.underlying2 g0
  obtain ⟨N, e1, _, w1⟩ := DataW.trod_int Try.underlying2 g1
  obtain ⟨D, e2, _, w2⟩ := DataW.trod_int Try.underlying2 g2
  simp at e0 e1 e2
  subst e0 e1 e2
  exact ⟨⟨T, N, D⟩, rfl, (wf_i64S w0).1, (wf_i64S w0).2, (wf_i64S w1).1, (wf_i64S w1).2, (wf_i64S w2).1, (wf_i64S w2).2⟩

theorem qdst (s : Nat) {P : Program} {C : World → Prop} {a : Act} {K : Act → Prop} {op : Op} {ty : TypeId} {pos : String} {af : Array Edge} {g : Option (Nat × Bool)}
    (h : (⟨some s, op, ty, pos, af, g⟩ : Oper).quiet P a C K) : (⟨some s, op, ty, pos, af, g⟩ : Oper).quiet P a C K := h

theorem needI_ok {t n d : Int} (h : ¬ (t < 0 ∨ n < 0 ∨ d < 1 ∨ d < n)) : 0 ≤ needI t n d ∧ needI t n d ≤ t ∧ atLeastB (needI t n d) t n d = true ∧ atLeastB (needI t n d - 1) t n d = false := by
  have hd : 0 < d := by omega
  have e : needI t n d = (t * n + d - 1) / d := if_neg h
  have hx : 0 ≤ t * n := Int.mul_nonneg (by omega) (by omega)
  have hxd : t * n ≤ t * d := Int.mul_le_mul_of_nonneg_left (by omega) (by omega)
  rw [e]
  have h1 := Int.mul_ediv_add_emod (t * n + d - 1) d
  have h2 := Int.emod_nonneg (t * n + d - 1) (show d ≠ 0 by omega)
  have h3 := Int.emod_lt_of_pos (t * n + d - 1) hd
  have h4 : 0 ≤ (t * n + d - 1) / d := Int.ediv_nonneg (by omega) (by omega)
  have h5 : (t * n + d - 1) / d ≤ t := by
    have h6 : (t * n + d - 1) / d ≤ (d * t + (d - 1)) / d := Int.ediv_le_ediv hd (by rw [Int.mul_comm d t]; omega)
    have h7 : (d * t + (d - 1)) / d = t := by
      rw [show d * t + (d - 1) = (d - 1) + d * t by omega, Int.add_mul_ediv_left (d - 1) t (show d ≠ 0 by omega), Int.ediv_eq_zero_of_lt (a := d - 1) (by omega) (by omega)]
      omega
    rw [h7] at h6
    exact h6
  generalize (t * n + d - 1) / d = c at *
  generalize (t * n + d - 1) % d = m at *
  refine ⟨h4, h5, ?_, ?_⟩
  · refine decide_eq_true ⟨h4, by omega, by omega, hd, ?_⟩
    rw [Int.mul_comm c d]
    omega
  · refine decide_eq_false ?_
    rintro ⟨_, _, _, _, h6⟩
    rw [Int.sub_mul, Int.one_mul, Int.mul_comm c d] at h6
    omega
theorem needI_mono {t n d t' n' : Int} (h : ¬ (t < 0 ∨ n < 0 ∨ d < 1 ∨ d < n)) (ht : t ≤ t') (hn : n ≤ n') (hn' : n' ≤ d) : needI t n d ≤ needI t' n' d := by
  have e : needI t n d = (t * n + d - 1) / d := if_neg h
  have e' : needI t' n' d = (t' * n' + d - 1) / d := if_neg (by omega)
  rw [e, e']
  refine Int.ediv_le_ediv (by omega) ?_
  have h1 : t * n ≤ t * n' := Int.mul_le_mul_of_nonneg_left hn (by omega)
  have h2 : t * n' ≤ t' * n' := Int.mul_le_mul_of_nonneg_right ht (by omega)
  omega

end Go.Proofs.Ytphbckjadebdmaa
