/-
  SampleOnce: the sort of a row of one's own, and the law's walk.
-/
import Derived.Test.YtpadabmbblcklaaEr
import Derived.Test.YtpadabmbblcklaaEk
import Derived.Test.YtpadabmbblcklaaSo
import Derived.Sort.OwnSortedInts
namespace Go.Proofs.Ytpadabmbblcklaa
open Go.RowKit

/-- in order -/
def sortZ (l : List Int) : List Int := l.mergeSort (fun x y => decide (x ≤ y))
theorem sortZ_length (l : List Int) : (sortZ l).length = l.length := List.length_mergeSort _
theorem sortZ_perm (l : List Int) : (sortZ l).Perm l := List.mergeSort_perm _ _
theorem sortZ_rise {l : List Int} (h : l.Nodup) : (sortZ l).Pairwise (· < ·) := by
  have h1 : (sortZ l).Pairwise (fun a b => decide (a ≤ b) = true) := List.pairwise_mergeSort (fun a b c h1 h2 => by simp at h1 h2 ⊢; omega) (fun a b => by simp; omega) l
  have h2 : (sortZ l).Nodup := (sortZ_perm l).nodup_iff.2 h
  exact List.Pairwise.imp₂ (fun a b h1 h2 => by simp at h1; omega) h1 h2
theorem rise_lo {l : List Int} (h : l.Pairwise (· < ·)) : ∀ {lo : Int} (i : Nat) (x : Int), (∀ y ∈ l, lo ≤ y) → l[i]? = some x → lo + i ≤ x := by
  induction l with
  | nil => intro lo i x _ hx; cases hx
  | cons y r ih =>
    intro lo i x hlo hx
    have hc := List.pairwise_cons.1 h
    cases i with
    | zero => cases hx; have := hlo y (by simp); omega
    | succ i =>
      have := ih hc.2 (lo := lo + 1) i x (fun z hz => by have := hc.1 z hz; have := hlo y (by simp); omega) hx
      omega
theorem rise_hi {l : List Int} (h : l.Pairwise (· < ·)) {t : Int} (ht : ∀ y ∈ l, y < t) : ∀ (i : Nat) (x : Int), l[i]? = some x → x ≤ t - (l.length - i) := by
  induction l with
  | nil => intro i x hx; cases hx
  | cons y r ih =>
    intro i x hx
    have hc := List.pairwise_cons.1 h
    have i2 := ih hc.2 (fun z hz => ht z (List.mem_cons_of_mem _ hz))
    cases i with
    | zero =>
      cases hx
      cases r with
      | nil => have := ht y (by simp); simp; omega
      | cons z r' =>
        have := i2 0 z rfl
        have := hc.1 z (by simp)
        simp at *
        omega
    | succ i => have := i2 i x hx; simp; omega
theorem rise_ne {l : List Int} (h : l.Pairwise (· < ·)) {i : Nat} {x y : Int} (hx : l[i]? = some x) (hy : l[i + 1]? = some y) : x < y := by
  obtain ⟨h1, e1⟩ := List.getElem?_eq_some_iff.1 hx
  obtain ⟨h2, e2⟩ := List.getElem?_eq_some_iff.1 hy
  rw [← e1, ← e2]
  exact List.pairwise_iff_getElem.1 h i (i + 1) h1 h2 (by omega)

theorem sort_any {v : Value} {l : List Int} {B : Nat} {w : World} (hs : SeesZ .i64 w v l) (ho : l ≠ [] → OwnG 2 1 w B v l.length (encZ .i64 l)) (hl : l.length ≤ 1000000) :
    Calls Try.prog 26 #[v] w fun e w' => e = .returned (.tuple #[]) ∧ SeesZ .i64 w' v (sortZ l) ∧ Kp (fun k => v.ownBlock = some k) w w' := by
  by_cases h0 : l = []
  · subst h0
    obtain ⟨a, c, rfl, _⟩ := hs.form
    refine (show Calls Try.prog 26 #[.slice a 0 c] w _ from AnyM.slices_Sort_int_none sortL a c w).mono ?_
    rintro e w' ⟨rfl, rfl⟩
    exact ⟨rfl, by rw [show sortZ [] = [] by simp [sortZ]]; exact hs, Kp.refl _ _⟩
  · obtain ⟨hcl, ⟨_, h⟩ | ⟨g, cap, rest, rfl, h1, h2, h3, h4, h5⟩⟩ := ho h0
    · exact absurd (List.eq_nil_of_length_eq_zero h) h0
    · have hH := Go.holds_of_blockI (ss := l) h2 (by
        show List.take l.length (encZ .i64 l ++ rest) = _
        rw [List.take_append_of_le_length (by rw [encZ_length]; omega), List.take_of_length_le (by rw [encZ_length]; omega)]; rfl)
      refine (show Calls Try.prog 26 #[.slice (some ⟨g, 0, none⟩) l.length cap] w _ from AnyM.slices_Sort_int sortL g 0 cap l w hH (lt_of_blk h2) (by omega)).mono ?_
      rintro e w' ⟨rfl, n, os, rfl⟩
      refine ⟨rfl, ?_, (Kp.of_grownBy (Go.grownBy_sortedI _)).mono (fun x _ e => by cases e; rfl)⟩
      have hb := Go.heap_sortedI (n := n) (os := os) (sortZ l).toArray h2
      have hsz : (encZ .i64 l ++ rest).toArray.size = cap := by rw [List.size_toArray]; omega
      refine ⟨_, cap, by rw [sortZ_length], by rw [sortZ_length]; exact h4, h5, (fun e => by cases e), fun i x hi => ⟨g, 0, rfl, ?_⟩⟩
      have hil := (List.getElem?_eq_some_iff.1 hi).1
      have ht := Go.take_putCellsI (encZ .i64 l ++ rest).toArray (sortZ l) (by rw [hsz, sortZ_length]; exact h4)
      have : ((Sort.putCells (Value.int .i64) 0 (sortZ l).toArray (encZ .i64 l ++ rest).toArray).toList.take (sortZ l).length)[i]? = some (.int .i64 x) := by rw [ht, List.getElem?_map, hi]; rfl
      rw [List.getElem?_take_of_lt hil, Array.getElem?_toList] at this
      rw [Nat.zero_add]
      exact (cell_blk hb i).trans this
theorem unitsU_why {t k : Int} {ds : List Int} (h : ¬ (unitsU t k ds).2 = 0) : (unitsU t k ds).2 = 1 ∨ ((unitsU t k ds).2 = 60 ∧ t < k) := by
  unfold unitsU at h ⊢
  split
  · exact .inl rfl
  · rename_i h1
    rw [if_neg h1] at h
    split
    · rename_i h2; exact .inr ⟨rfl, h2⟩
    · rename_i h2; rw [if_neg h2] at h; exact absurd rfl h
/-- what is left to the walk -/
theorem once_cases (t k : Int) (ds : List Int) :
    (∃ ue, ¬ ue = 0 ∧ unitsU t k ds = ([], ue) ∧ (ue = 1 ∨ (¬ ue = 1 ∧ t < k))) ∨
    (∃ (us : List Int) (n : Nat), k = n ∧ us.length = n ∧ n ≤ 64 ∧ unitsU t n ds = (us, 0) ∧ us.Nodup ∧ (∀ u ∈ us, 0 ≤ u ∧ u < t)) := by
  by_cases h0 : (unitsU t k ds).2 = 0
  · right
    obtain ⟨h1, h2, h3, h4⟩ := unitsU_ok h0
    have hk0 : 0 ≤ k := by
      unfold unitsU at h0
      split at h0
      · cases h0
      · omega
    have hkn : k = (k.toNat : Int) := by omega
    exact ⟨(unitsU t k ds).1, k.toNat, hkn, h1, h2, by rw [← hkn, ← h0], h3, h4⟩
  · left
    refine ⟨_, h0, by rw [← unitsU_err h0], ?_⟩
    rcases unitsU_why h0 with h | ⟨h, h'⟩
    · exact .inl h
    · exact .inr ⟨by rw [h]; decide, h'⟩

set_option maxRecDepth 100000 in
set_option maxHeartbeats 8000000 in
theorem once_law {v : Value} {ds : List Int} {w : World} (t k : Int) (hs : SeesZ .u64 w v ds) (hz : ZOk 0 18446744073709551615 ds) :
    Calls Try.prog 6 #[.int .i64 t, .int .i64 k, v] w fun e w' => e = .returned (.bool true) ∧ Kp (fun _ => False) w w' := by
  have HB := Lib.hid (fun w => begun_any w)
  have HU := Lib.hid (fun w' (kp : Kp (fun _ => False) w w') => units_any (hs.kept kp) hz t k)
  obtain ⟨a, c, rfl, hlc, hmax, _⟩ := hs.form
  clear hs hz
  have hl0 : (0 : Int) ≤ ds.length := by omega
  by_cases hbig : 300 < (ds.length : Int)
  · go_enter Try.func6, Try.ntmps6
    go_wp2_with fail
    refine (HB.out w).mono ?_
    rintro e w2 ⟨rfl, k2⟩
    have K2 := Lib.hid k2
    clear k2
    go_wp2_with fail
    refine (HB.out w2).mono ?_
    rintro e w3 ⟨rfl, k3⟩
    have K3 := Lib.hid (K2.out.trans k3 (fun _ _ f => f))
    clear k3
    go_wp2_with fail
    go_ret
    exact ⟨rfl, K3.out⟩
  rcases once_cases t k ds with ⟨ue, hue, he, hwhy⟩ | ⟨us, n, rfl, hun, hn64, he, hnd, hur⟩
  · rw [he] at HU
    have hne : (ue != 0) = true := by simp [hue]
    clear he hue
    rcases hwhy with rfl | ⟨h1, h2⟩
    · go_enter Try.func6, Try.ntmps6
      go_wp2_with fail
      refine (HB.out w).mono ?_
      rintro e w2 ⟨rfl, k2⟩
      have H2 := Lib.hid (HU.out w2 k2)
      have K2 := Lib.hid k2
      clear k2
      go_wp2_with fail
      refine H2.out.mono ?_
      rintro e w3 ⟨v3, rfl, s3, _, k3⟩
      obtain ⟨a3, c3, rfl, _⟩ := s3.form
      have K3 := Lib.hid (K2.out.trans k3 (fun _ _ f => f))
      clear k3 s3
      go_wp2_with fail
      go_ret
      exact ⟨rfl, K3.out⟩
    · have h1' : (ue == 1) = false := by simp [h1]
      clear h1
      go_enter Try.func6, Try.ntmps6
      go_wp2_with fail
      refine (HB.out w).mono ?_
      rintro e w2 ⟨rfl, k2⟩
      have H2 := Lib.hid (HU.out w2 k2)
      have K2 := Lib.hid k2
      clear k2
      go_wp2_with fail
      refine H2.out.mono ?_
      rintro e w3 ⟨v3, rfl, s3, _, k3⟩
      obtain ⟨a3, c3, rfl, _⟩ := s3.form
      have K3 := Lib.hid (K2.out.trans k3 (fun _ _ f => f))
      clear k3 s3
      go_wp2_with fail
      go_ret
      exact ⟨rfl, K3.out⟩
  · rw [he] at HU
    obtain ⟨S, hS⟩ : ∃ S, S = sortZ us := ⟨_, rfl⟩
    have hsr := sortZ_rise hnd
    have hSl : S.length = n := by rw [hS, sortZ_length, hun]
    rw [← hS] at hsr
    have hSr : ∀ y ∈ S, 0 ≤ y ∧ y < t := fun y hy => hur y ((sortZ_perm us).mem_iff.1 (hS ▸ hy))
    have HR := Lib.hid (fun (i : Nat) (x : Int) (h : S[i]? = some x) => (show (0 ≤ x ∧ x < t) ∧ (t = n → x = i) from
      ⟨hSr x (List.mem_of_getElem? h), fun htn => by
        have h1 := rise_lo hsr (lo := 0) i x (fun y hy => (hSr y hy).1) h
        have h2 := rise_hi hsr (fun y hy => (hSr y hy).2) i x h
        omega⟩))
    have HN := Lib.hid (fun (i : Nat) (x y : Int) (hx : S[i]? = some x) (hy : S[i + 1]? = some y) => rise_ne hsr hx hy)
    have HUN := Lib.hid hun
    have HSL := Lib.hid hSl
    have HHS := Lib.hid hS
    have hn0 : (0 : Int) ≤ n := by omega
    clear he hnd hur hS hsr hSl hSr hun
    go_enter Try.func6, Try.ntmps6
    go_wp2_with fail
    refine (HB.out w).mono ?_
    rintro e w2 ⟨rfl, k2⟩
    have H2 := Lib.hid (HU.out w2 k2)
    have K2 := Lib.hid k2
    clear k2
    go_wp2_with fail
    refine H2.out.mono ?_
    rintro e w3 ⟨v3, rfl, s3, _, k3⟩
    have K3 := Lib.hid (K2.out.trans k3 (fun _ _ f => f))
    have HC := Lib.hid (cloneQ_any s3 (by rw [HUN.out]; omega))
    obtain ⟨a3, c3, rfl, _⟩ := s3.form
    rw [HUN.out] at HC ⊢
    clear k3 s3
    go_wp2_with fail
    refine HC.out.mono ?_
    rintro e w4 ⟨v4, rfl, s4, o4, b4, k4⟩
    have HSO := Lib.hid (sort_any (B := w3.heap.size) s4 (fun h => by rw [HUN.out]; exact o4.out h) (by rw [HUN.out]; omega))
    rw [← HHS.out] at HSO
    have K4 := Lib.hid (K3.out.trans k4 (fun _ _ f => f))
    have B4 := Lib.hid b4
    have HW3 := Lib.hid (show w.heap.size ≤ w3.heap.size from K3.out.size)
    clear s4 o4 b4 k4
    go_wp2_with fail
    refine HSO.out.mono ?_
    rintro e w5 ⟨rfl, s5, k5⟩
    have K5 := Lib.hid (K4.out.trans k5 (fun x hx h => by have := B4.out x h; have := HW3.out; omega))
    have S5 := Lib.hid s5
    obtain ⟨a5, c5, rfl, hlc5, hmax5, _⟩ := s5.form
    rw [HSL.out] at hlc5 S5 ⊢
    clear s5 k5
    go_wp2_with fail
    go_loopw [51] (fun iv wr => ∃ (i : Nat), i ≤ n ∧ iv = .int .i64 i ∧ wr = w5) (fun iv _ => n - (intOf iv).toNat)
    case atStart => exact ⟨0, by omega, rfl, rfl⟩
    case round =>
      obtain ⟨i, hi, rfl, rfl⟩ := hrel
      by_cases hlt : i < n
      · obtain ⟨x, hx⟩ : ∃ x, S[i]? = some x := ⟨S[i]'(by rw [HSL.out]; exact hlt), List.getElem?_eq_getElem _⟩
        obtain ⟨g, off, rfl, hc⟩ := S5.out.at hx
        obtain ⟨⟨hx0, hx1⟩, hxi⟩ := HR.out i x hx
        have hx2 : ¬ t ≤ x := by omega
        have hx3 : ¬ x < 0 := by omega
        by_cases hi0 : i = 0
        · have hi1 : ¬ (0 < (i : Int)) := by omega
          clear hx hi0
          by_cases htn : t = n
          · obtain rfl : x = (i : Int) := hxi htn
            clear hxi
            subst htn
            go_wp2_with fail
            go_roundw
            case rel => exact ⟨i + 1, by omega, by go_num, by first | rfl | trivial⟩
            case measure => simp [intOf]; omega
          · have htb : (t == n) = false := by simp [htn]
            clear htn hxi
            go_wp2_with fail
            go_roundw
            case rel => exact ⟨i + 1, by omega, by go_num, by first | rfl | trivial⟩
            case measure => simp [intOf]; omega
        · obtain ⟨j, rfl⟩ : ∃ j, i = j + 1 := ⟨i - 1, by omega⟩
          obtain ⟨y, hy⟩ : ∃ y, S[j]? = some y := ⟨S[j]'(by rw [HSL.out]; omega), List.getElem?_eq_getElem _⟩
          obtain ⟨g', off', e, hcy⟩ := S5.out.at hy
          cases e
          have hyx := HN.out j y x hy hx
          have hyb : (y == x) = false := by simp; omega
          clear hx hy hi0
          by_cases htn : t = n
          · obtain rfl : x = (j : Int) + 1 := by have := hxi htn; omega
            clear hxi
            subst htn
            go_wp2_with fail
            go_roundw
            case rel => exact ⟨j + 2, by omega, by go_num, by first | rfl | trivial⟩
            case measure => simp [intOf]; omega
          · have htb : (t == n) = false := by simp [htn]
            clear htn hxi
            go_wp2_with fail
            refine ⟨⟨j + 2, by omega, by go_num, by first | rfl | trivial⟩, by simp [intOf]; omega⟩
      · obtain rfl : i = n := by omega
        go_wp2_with fail
        go_ret
        exact ⟨rfl, K5.out⟩
end Go.Proofs.Ytpadabmbblcklaa
