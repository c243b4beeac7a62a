/-
  Messages: contract of the document's num.
-/
import Derived.Test.YtleapcbkkggecaaUc
import Derived.Test.YtleapcbkkggecaaMq
namespace Go.Proofs.Ytleapcbkkggecaa
open Go.ChangeShapes Go.WideShapes Go.ChangeAt Go.RowKit

def numAt (b : List Int) (k : Nat) : Int := if k + 4 ≤ b.length then val ((b.drop k).take 4) else -1
theorem val4 (a b c d : Int) : val [a, b, c, d] = a * 16777216 + b * 65536 + c * 256 + d := by simp [val]; omega
theorem take4 {b : List Int} {k : Nat} (h : k + 4 ≤ b.length) : (b.drop k).take 4 = [b[k], b[k + 1], b[k + 2], b[k + 3]] := by
  rw [List.drop_eq_getElem_cons (by omega), List.drop_eq_getElem_cons (show k + 1 < b.length by omega), List.drop_eq_getElem_cons (show k + 1 + 1 < b.length by omega), List.drop_eq_getElem_cons (show k + 1 + 1 + 1 < b.length by omega)]
  rfl
set_option maxRecDepth 100000 in
set_option maxHeartbeats 1600000 in
theorem mnum_any {b : List Int} {v : Value} (hr : Rng b) (hl : b.length ≤ 1000000) (k : Nat) (hk : k ≤ 2000000) {w : World} (hs : Sees w v b) :
    Calls Try.prog 35 #[v, .int .i64 (k : Int)] w fun e w' => e = .returned (.int .i64 (numAt b k)) ∧ ∃ n, w' = w.drewN n := by
  obtain ⟨a0, c0, rfl⟩ := sees_form hs
  by_cases h1 : b.length < k
  · have e1 : numAt b k = -1 := by unfold numAt; rw [if_neg (by omega)]
    rw [e1]
    have h1' : (b.length : Int) < (k : Int) := by omega
    clear hs e1 h1 hr
    go_enter Try.func35, Try.ntmps35
    go_wp2
    go_ret
    exact ⟨rfl, 0, rfl⟩
  · by_cases h2 : b.length < k + 4
    · have e1 : numAt b k = -1 := by unfold numAt; rw [if_neg (by omega)]
      rw [e1]
      have h1' : ¬ (b.length : Int) < (k : Int) := by omega
      have h2' : (b.length : Int) - (k : Int) < 4 := by omega
      clear hs e1 h1 h2 hr
      go_enter Try.func35, Try.ntmps35
      go_wp2
      go_ret
      exact ⟨rfl, 0, rfl⟩
    · have hk4 : k + 4 ≤ b.length := by omega
      obtain ⟨g, o, c, he, hlc, hcm⟩ := hs.lit (by rintro rfl; simp at hk4)
      injection he with e1 _ e3
      subst e1 e3
      have hcell : ∀ j (hj : j < b.length), w.cell? ⟨g, o + j, none⟩ = some (.int .u8 b[j]) := by
        intro j hj
        rcases hs with ⟨h, _⟩ | ⟨ad, cap, hv, _, _, hc⟩
        · cases h
        · obtain ⟨rfl, _⟩ : (⟨g, o, none⟩ : Addr) = ad ∧ c0 = cap := by injection hv with a _ b; exact ⟨by injection a, b⟩
          have := hc j b[j] (List.getElem?_eq_getElem hj)
          rwa [Addr.add_lit] at this
      have r0 := hr b[k] (List.getElem_mem (by omega))
      have r1 := hr b[k + 1] (List.getElem_mem (by omega))
      have r2 := hr b[k + 2] (List.getElem_mem (by omega))
      have r3 := hr b[k + 3] (List.getElem_mem (by omega))
      have c0' := hcell k (by omega)
      have c1' := hcell (k + 1) (by omega)
      have c2' := hcell (k + 2) (by omega)
      have c3' := hcell (k + 3) (by omega)
      have e1 : numAt b k = b[k] * 16777216 + b[k + 1] * 65536 + b[k + 2] * 256 + b[k + 3] := by
        unfold numAt; rw [if_pos hk4, take4 hk4, val4]
      obtain ⟨x0, hx0⟩ : ∃ x, x = b[k] := ⟨_, rfl⟩
      obtain ⟨x1, hx1⟩ : ∃ x, x = b[k + 1] := ⟨_, rfl⟩
      obtain ⟨x2, hx2⟩ : ∃ x, x = b[k + 2] := ⟨_, rfl⟩
      obtain ⟨x3, hx3⟩ : ∃ x, x = b[k + 3] := ⟨_, rfl⟩
      rw [← hx0] at r0 c0' e1
      rw [← hx1] at r1 c1' e1
      rw [← hx2] at r2 c2' e1
      rw [← hx3] at r3 c3' e1
      rw [e1]
      have h1' : ¬ (b.length : Int) < (k : Int) := by omega
      have h2' : ¬ (b.length : Int) - (k : Int) < 4 := by omega
      have hcm' : c0 ≤ 9223372036854775807 := hcm
      clear hs hr hcell e1 hx0 hx1 hx2 hx3
      go_enter Try.func35, Try.ntmps35
      go_wp2_with (go_quiet (fail))
      go_ret
      exact ⟨rfl, _, rfl⟩
end Go.Proofs.Ytleapcbkkggecaa
