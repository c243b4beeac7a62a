/-
  The order of names, as plain lists: turned, by a third one, of texts.
-/
import Derived.Test.YtopckankheljhaaDoorRc
namespace Go.Proofs.YtopckankheljhaaDoor
open Go.RowKit

theorem cmpI_turn : ∀ (a b : List Int), cmpI b a = -cmpI a b
  | [], [] => rfl
  | [], _ :: _ => rfl
  | _ :: _, [] => rfl
  | x :: a, y :: b => by
    have ih := cmpI_turn a b
    simp only [cmpI]
    by_cases h1 : x < y
    · simp [h1, show ¬ y < x by omega]
    · by_cases h2 : y < x
      · simp [h1, h2]
      · simp [h1, h2, ih]
theorem cmpI_zero : ∀ (a b : List Int), a.length = b.length → (cmpI a b = 0 ↔ a = b)
  | [], [], _ => by simp [cmpI]
  | [], _ :: _, h => by simp at h
  | _ :: _, [], h => by simp at h
  | x :: a, y :: b, h => by
    have ih := cmpI_zero a b (by simpa using h)
    simp only [cmpI]
    by_cases h1 : x < y
    · simp [h1]; intro e; omega
    · by_cases h2 : y < x
      · simp [h1, h2]; intro e; omega
      · simp [h1, h2, ih]; intro _; omega
theorem cmpI_trans : ∀ (a b c : List Int), (cmpI a b ≤ 0 → cmpI b c ≤ 0 → cmpI a c ≤ 0)
  | [], [], [] => by simp [cmpI]
  | [], [], _ :: _ => by simp [cmpI]
  | [], _ :: _, [] => by simp [cmpI]
  | [], _ :: _, _ :: _ => by simp [cmpI]
  | _ :: _, [], _ => by simp [cmpI]
  | _ :: _, _ :: _, [] => by simp [cmpI]
  | x :: a, y :: b, z :: c => by
    have ih := cmpI_trans a b c
    simp only [cmpI]
    by_cases h1 : x < y <;> by_cases h2 : y < x <;> by_cases h3 : y < z <;> by_cases h4 : z < y <;> by_cases h5 : x < z <;> by_cases h6 : z < x <;> simp_all <;> omega
theorem cmpI_trans' (a b c : List Int) (h1 : 0 ≤ cmpI a b) (h2 : 0 ≤ cmpI b c) : 0 ≤ cmpI a c := by
  have := cmpI_trans c b a (by rw [cmpI_turn]; omega) (by rw [cmpI_turn]; omega)
  rw [cmpI_turn] at this
  omega
theorem dg_lt {m n : Int} (h1 : m < n) : dg m < dg n := by unfold dg; split <;> split <;> omega
theorem hex_cmp : ∀ (a b : List Int), a.length = b.length → Rng a → Rng b → cmpI (hexI a) (hexI b) = cmpI a b
  | [], [], _, _, _ => rfl
  | [], _ :: _, h, _, _ => by simp at h
  | _ :: _, [], h, _, _ => by simp at h
  | x :: a, y :: b, h, ha, hb => by
    have ih := hex_cmp a b (by simpa using h) (fun z hz => ha z (List.mem_cons_of_mem _ hz)) (fun z hz => hb z (List.mem_cons_of_mem _ hz))
    have hx := ha x (List.mem_cons_self ..)
    have hy := hb y (List.mem_cons_self ..)
    have ex : hexI (x :: a) = dg (x / 16) :: dg (x % 16) :: hexI a := rfl
    have ey : hexI (y :: b) = dg (y / 16) :: dg (y % 16) :: hexI b := rfl
    rw [ex, ey]
    simp only [cmpI, ih]
    rcases Int.lt_trichotomy (x / 16) (y / 16) with h1 | h1 | h1
    · have := dg_lt h1
      rw [if_pos this, if_pos (by omega)]
    · rw [h1]
      rw [if_neg (by omega), if_neg (by omega)]
      rcases Int.lt_trichotomy (x % 16) (y % 16) with h2 | h2 | h2
      · have := dg_lt h2
        rw [if_pos this, if_pos (by omega)]
      · rw [h2, if_neg (by omega), if_neg (by omega), if_neg (by omega), if_neg (by omega)]
      · have := dg_lt h2
        rw [if_neg (by omega), if_pos this, if_neg (by omega), if_pos (by omega)]
    · have := dg_lt h1
      rw [if_neg (by omega), if_pos this, if_neg (by omega), if_pos (by omega)]
theorem less_cmp : ∀ (xs ys : List Int), Rng xs → Rng ys → Op.bytesLess (strOfNums xs).toList (strOfNums ys).toList = decide (cmpI xs ys < 0) := by
  intro xs ys hx hy
  rw [Lib.toList_data, Lib.toList_data, strOfNums_data, strOfNums_data]
  induction xs generalizing ys with
  | nil =>
    cases ys with
    | nil => rfl
    | cons y ys => rfl
  | cons x xs ih =>
    cases ys with
    | nil => rfl
    | cons y ys =>
      have ih := ih ys (fun z hz => hx z (List.mem_cons_of_mem _ hz)) (fun z hz => hy z (List.mem_cons_of_mem _ hz))
      have hx0 := hx x (List.mem_cons_self ..)
      have hy0 := hy y (List.mem_cons_self ..)
      simp only [List.map_cons, cmpI]
      have e1 : (UInt8.ofNat x.toNat < UInt8.ofNat y.toNat) ↔ x < y := by
        rw [UInt8.lt_iff_toNat_lt]; simp only [UInt8.toNat_ofNat']; omega
      have e2 : (UInt8.ofNat x.toNat = UInt8.ofNat y.toNat) ↔ x = y := by
        rw [← UInt8.toNat_inj]; simp only [UInt8.toNat_ofNat']; omega
      have e3 : (UInt8.ofNat x.toNat == UInt8.ofNat y.toNat) = decide (x = y) := by
        rw [Bool.eq_iff_iff]; simp [e2]
      simp only [Op.bytesLess, ih, e1, e3]
      by_cases h1 : x < y
      · simp [h1]
      · by_cases h2 : y < x
        · simp [h1, h2, show ¬ x = y by omega]
        · simp [show x = y by omega]
end Go.Proofs.YtopckankheljhaaDoor
