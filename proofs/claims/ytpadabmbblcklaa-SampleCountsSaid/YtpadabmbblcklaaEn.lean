/-
  Sums of weights; whose a unit is.
-/
import Derived.Test.YtpadabmbblcklaaEo
import Derived.Test.YtpadabmbblcklaaEd
import Derived.WalkMore
namespace Go.Proofs.Ytpadabmbblcklaa
open Go.RowKit

theorem drop_at {l : List Int} {k : Nat} {x : Int} (h : l[k]? = some x) : l.drop k = x :: l.drop (k + 1) := by
  obtain ⟨hk, e⟩ := List.getElem?_eq_some_iff.1 h
  rw [List.drop_eq_getElem_cons hk, e]
theorem wtsMay_no {l : List Int} (h : l.length < 1 ∨ 32 < l.length) : wtsMay l = false := by
  cases e : wtsMay l with
  | false => rfl
  | true =>
    have g := wtsMay_iff.1 e
    have := g.one
    have := g.most
    omega
theorem wtsMay_bad {l : List Int} {k : Nat} {x : Int} (hk : l[k]? = some x) (h : x < 1 ∨ 4611686018427387903 - sumQ (l.take k) < x) : wtsMay l = false := by
  cases e : wtsMay l with
  | false => rfl
  | true =>
    have g := (wtsMay_iff.1 e).ok
    rw [wtsOk_no hk h] at g
    cases g
theorem wtsMay_yes {l : List Int} (h1 : 1 ≤ l.length) (h2 : l.length ≤ 32) (h : ∀ (k : Nat) (x : Int), k < l.length → l[k]? = some x → 1 ≤ x ∧ x ≤ 4611686018427387903 - sumQ (l.take k)) : wtsMay l = true :=
  wtsMay_iff.2 ⟨h1, h2, wtsOk_yes (fun k x hx => h k x (List.getElem?_eq_some_iff.1 hx).1 hx)⟩

set_option maxRecDepth 100000 in
set_option maxHeartbeats 1600000 in
theorem sum_any {v : Value} {l : List Int} {w : World} (hs : SeesZ .i64 w v l) (hz : ZOk (-9223372036854775808) 9223372036854775807 l) :
    Calls Try.prog 32 #[v] w fun e w' => e = .returned (.tuple #[.int .i64 (sumE l).1, .int .i64 (sumE l).2]) ∧ Kp (fun _ => False) w w' := by
  obtain ⟨a, c, rfl, hlc, hmax, _⟩ := hs.form
  obtain ⟨q1, h1⟩ : ∃ q, q = (sumE l).1 := ⟨_, rfl⟩
  obtain ⟨q2, h2⟩ : ∃ q, q = (sumE l).2 := ⟨_, rfl⟩
  rw [← h1, ← h2]
  have HBad := Lib.hid (fun (h : wtsMay l = false) => (show q1 = 0 ∧ q2 = 1 by rw [h1, h2]; unfold sumE; rw [h]; exact ⟨rfl, rfl⟩))
  have HGood := Lib.hid (fun (h : wtsMay l = true) => (show q1 = sumQ l ∧ q2 = 0 by rw [h1, h2]; unfold sumE; rw [h]; exact ⟨rfl, rfl⟩))
  have HS := Lib.hid hs
  have HR := Lib.hid (fun (k : Nat) (x : Int) (h : l[k]? = some x) => hz x (List.mem_of_getElem? h))
  clear h1 h2 hs hz
  have hl0 : (0 : Int) ≤ l.length := by omega
  by_cases hn1 : l.length < 1
  · obtain ⟨rfl, rfl⟩ := HBad.out (wtsMay_no (.inl hn1))
    have hn1' : (l.length : Int) < 1 := by omega
    go_enter Try.func32, Try.ntmps32
    go_wp2
    go_ret2
    exact ⟨rfl, Kp.refl _ _⟩
  by_cases hn2 : 32 < l.length
  · obtain ⟨rfl, rfl⟩ := HBad.out (wtsMay_no (.inr hn2))
    have hn2' : 32 < (l.length : Int) := by omega
    have hn1' : ¬ (l.length : Int) < 1 := by omega
    go_enter Try.func32, Try.ntmps32
    go_wp2
    go_ret2
    exact ⟨rfl, Kp.refl _ _⟩
  have hn1' : ¬ (l.length : Int) < 1 := by omega
  have hn2' : ¬ 32 < (l.length : Int) := by omega
  go_enter Try.func32, Try.ntmps32
  go_wp2
  go_loopw [4, 17] (fun sv iv wr => ∃ (k : Nat) (s : Int), k ≤ l.length ∧ iv = .int .i64 k ∧ sv = .int .i64 s ∧ (0 ≤ s ∧ s ≤ 4611686018427387903) ∧ wr = w ∧ Hid (s = sumQ (l.take k)) ∧
    Hid (∀ (j : Nat) (x : Int), j < k → l[j]? = some x → 1 ≤ x ∧ x ≤ 4611686018427387903 - sumQ (l.take j))) (fun _ iv _ => l.length - (intOf iv).toNat)
  case atStart => exact ⟨0, 0, by omega, rfl, rfl, by omega, rfl, Lib.hid (by simp [sumQ]), Lib.hid (fun j x h => by omega)⟩
  case round =>
    obtain ⟨k, s, hk, rfl, rfl, ⟨hs0, hs1⟩, rfl, hsm, hall⟩ := hrel
    by_cases hlt : k < l.length
    · obtain ⟨x, hx⟩ : ∃ x, l[k]? = some x := ⟨l[k], by simp⟩
      obtain ⟨g, off, rfl, hc⟩ := HS.out.at hx
      have HX := Lib.hid hx
      obtain ⟨hx0, hx1⟩ := HR.out k x hx
      clear hx
      by_cases hneg : x < 1
      · obtain ⟨rfl, rfl⟩ := HBad.out (wtsMay_bad HX.out (.inl hneg))
        go_wp2
        go_ret2
        exact ⟨rfl, Kp.refl _ _⟩
      · by_cases hbig : 4611686018427387903 - s < x
        · obtain ⟨rfl, rfl⟩ := HBad.out (wtsMay_bad HX.out (.inr (by rw [← hsm.out]; exact hbig)))
          go_wp2
          go_ret2
          exact ⟨rfl, Kp.refl _ _⟩
        · have HSM := Lib.hid (show s + x = sumQ (l.take (k + 1)) by rw [sumQ_take HX.out, ← hsm.out])
          have HALL := Lib.hid (show ∀ (j : Nat) (y : Int), j < k + 1 → l[j]? = some y → 1 ≤ y ∧ y ≤ 4611686018427387903 - sumQ (l.take j) from fun j y hj hy => by
            rcases Nat.lt_or_ge j k with h | h
            · exact hall.out j y h hy
            · obtain rfl : j = k := by omega
              rw [HX.out] at hy
              cases hy
              rw [← hsm.out]; omega)
          go_wp2
          go_roundw
          case rel => exact ⟨k + 1, s + x, by omega, by go_num, rfl, by omega, by first | rfl | trivial, HSM, HALL⟩
          case measure => simp [intOf]; omega
    · obtain rfl : k = l.length := by omega
      obtain ⟨e1, rfl⟩ := HGood.out (wtsMay_yes (by omega) (by omega) (fun j x h => hall.out j x h))
      have HE := Lib.hid (show q1 = s by rw [e1, hsm.out, List.take_length])
      clear e1
      go_wp2
      go_ret2
      exact ⟨by rw [HE.out]; rfl, Kp.refl _ _⟩

set_option maxRecDepth 100000 in
set_option maxHeartbeats 1600000 in
theorem rsumQ_any {v : Value} {l : List Int} {w : World} (hs : SeesZ .i64 w v l) (hz : ZOk (-9223372036854775808) 9223372036854775807 l) :
    Calls Try.prog 34 #[v] w fun e w' => e = .returned (.tuple #[.int .i64 (sumE l).1, .bool (wtsMay l)]) ∧ Kp (fun _ => False) w w' := by
  obtain ⟨a, c, rfl, hlc, hmax, _⟩ := hs.form
  obtain ⟨q1, h1⟩ : ∃ q, q = (sumE l).1 := ⟨_, rfl⟩
  obtain ⟨q2, h2⟩ : ∃ q, q = wtsMay l := ⟨_, rfl⟩
  rw [← h1, ← h2]
  have HBad := Lib.hid (fun (h : wtsMay l = false) => (show q1 = 0 ∧ q2 = false by rw [h1, h2, h]; unfold sumE; rw [h]; exact ⟨rfl, rfl⟩))
  have HGood := Lib.hid (fun (h : wtsMay l = true) => (show q1 = sumQ l ∧ q2 = true by rw [h1, h2, h]; unfold sumE; rw [h]; exact ⟨rfl, rfl⟩))
  have HS := Lib.hid hs
  have HR := Lib.hid (fun (k : Nat) (x : Int) (h : l[k]? = some x) => hz x (List.mem_of_getElem? h))
  clear h1 h2 hs hz
  have hl0 : (0 : Int) ≤ l.length := by omega
  by_cases hn1 : l.length < 1
  · obtain ⟨rfl, rfl⟩ := HBad.out (wtsMay_no (.inl hn1))
    have hn1' : (l.length : Int) < 1 := by omega
    go_enter Try.func34, Try.ntmps34
    go_wp2
    go_ret2
    exact ⟨rfl, Kp.refl _ _⟩
  by_cases hn2 : 32 < l.length
  · obtain ⟨rfl, rfl⟩ := HBad.out (wtsMay_no (.inr hn2))
    have hn2' : 32 < (l.length : Int) := by omega
    have hn1' : ¬ (l.length : Int) < 1 := by omega
    go_enter Try.func34, Try.ntmps34
    go_wp2
    go_ret2
    exact ⟨rfl, Kp.refl _ _⟩
  have hn1' : ¬ (l.length : Int) < 1 := by omega
  have hn2' : ¬ 32 < (l.length : Int) := by omega
  go_enter Try.func34, Try.ntmps34
  go_wp2
  go_loopw [4, 5] (fun sv iv wr => ∃ (k : Nat) (s : Int), k ≤ l.length ∧ iv = .int .i64 k ∧ sv = .int .i64 s ∧ (0 ≤ s ∧ s ≤ 4611686018427387903) ∧ wr = w ∧ Hid (s = sumQ (l.take k)) ∧
    Hid (∀ (j : Nat) (x : Int), j < k → l[j]? = some x → 1 ≤ x ∧ x ≤ 4611686018427387903 - sumQ (l.take j))) (fun _ iv _ => l.length - (intOf iv).toNat)
  case atStart => exact ⟨0, 0, by omega, rfl, rfl, by omega, rfl, Lib.hid (by simp [sumQ]), Lib.hid (fun j x h => by omega)⟩
  case round =>
    obtain ⟨k, s, hk, rfl, rfl, ⟨hs0, hs1⟩, rfl, hsm, hall⟩ := hrel
    by_cases hlt : k < l.length
    · obtain ⟨x, hx⟩ : ∃ x, l[k]? = some x := ⟨l[k], by simp⟩
      obtain ⟨g, off, rfl, hc⟩ := HS.out.at hx
      have HX := Lib.hid hx
      obtain ⟨hx0, hx1⟩ := HR.out k x hx
      clear hx
      by_cases hneg : x < 1
      · obtain ⟨rfl, rfl⟩ := HBad.out (wtsMay_bad HX.out (.inl hneg))
        go_wp2
        go_ret2
        exact ⟨rfl, Kp.refl _ _⟩
      · by_cases hbig : 4611686018427387903 - s < x
        · obtain ⟨rfl, rfl⟩ := HBad.out (wtsMay_bad HX.out (.inr (by rw [← hsm.out]; exact hbig)))
          go_wp2
          go_ret2
          exact ⟨rfl, Kp.refl _ _⟩
        · have HSM := Lib.hid (show s + x = sumQ (l.take (k + 1)) by rw [sumQ_take HX.out, ← hsm.out])
          have HALL := Lib.hid (show ∀ (j : Nat) (y : Int), j < k + 1 → l[j]? = some y → 1 ≤ y ∧ y ≤ 4611686018427387903 - sumQ (l.take j) from fun j y hj hy => by
            rcases Nat.lt_or_ge j k with h | h
            · exact hall.out j y h hy
            · obtain rfl : j = k := by omega
              rw [HX.out] at hy
              cases hy
              rw [← hsm.out]; omega)
          go_wp2
          go_roundw
          case rel => exact ⟨k + 1, s + x, by omega, by go_num, rfl, by omega, by first | rfl | trivial, HSM, HALL⟩
          case measure => simp [intOf]; omega
    · obtain rfl : k = l.length := by omega
      obtain ⟨e1, rfl⟩ := HGood.out (wtsMay_yes (by omega) (by omega) (fun j x h => hall.out j x h))
      have HE := Lib.hid (show q1 = s by rw [e1, hsm.out, List.take_length])
      clear e1
      go_wp2
      go_ret2
      exact ⟨by rw [HE.out]; rfl, Kp.refl _ _⟩

theorem ownGo_cons (k : Nat) (x : Int) (r : List Int) (q : Int) : ownGo k (x :: r) q = if q < x then (k : Int) else ownGo (k + 1) r (q - x) := rfl

set_option maxRecDepth 100000 in
set_option maxHeartbeats 1600000 in
theorem owner_any {v : Value} {l : List Int} {w : World} (hs : SeesZ .i64 w v l) (hp : ∀ x ∈ l, 1 ≤ x) (hm : sumQ l ≤ 4611686018427387903) (u : Int) (h0 : 0 ≤ u) (hu : u < sumQ l) :
    Calls Try.prog 33 #[v, .int .i64 u] w fun e w' => e = .returned (.int .i64 (ownQ l u)) ∧ Kp (fun _ => False) w w' := by
  obtain ⟨a, c, rfl, hlc, hmax, _⟩ := hs.form
  obtain ⟨z, hz⟩ : ∃ z, z = ownQ l u := ⟨_, rfl⟩
  rw [← hz]
  have HZ := Lib.hid (show z = ownGo 0 (l.drop 0) u by rw [hz]; rfl)
  have HS := Lib.hid hs
  have HP := Lib.hid (fun (k : Nat) (x : Int) (h : l[k]? = some x) => hp x (List.mem_of_getElem? h))
  have HU := Lib.hid (show u < sumQ (l.drop 0) from hu)
  have hu1 : u ≤ 4611686018427387903 := by omega
  clear hz hs hp hm hu
  go_enter Try.func33, Try.ntmps33
  go_wp2
  go_step3
  go_wp2
  go_step3
  go_wp2
  go_loopw [1, 10] (fun uv iv wr => ∃ (k : Nat) (q : Int), k ≤ l.length ∧ iv = .int .i64 k ∧ uv = .int .i64 q ∧ (0 ≤ q ∧ q ≤ 4611686018427387903) ∧ wr = w ∧ Hid (z = ownGo k (l.drop k) q) ∧ Hid (q < sumQ (l.drop k))) (fun _ iv _ => l.length - (intOf iv).toNat)
  case atStart => exact ⟨0, u, by omega, rfl, rfl, by omega, rfl, HZ, HU⟩
  case round =>
    obtain ⟨k, q, hk, rfl, rfl, ⟨hq0, hq1⟩, rfl, hzo, hqs⟩ := hrel
    by_cases hlt : k < l.length
    · obtain ⟨x, hx⟩ : ∃ x, l[k]? = some x := ⟨l[k], by simp⟩
      obtain ⟨g, off, rfl, hc⟩ := HS.out.at hx
      have hx1 := HP.out k x hx
      have hd := drop_at hx
      have hzo1 := hzo.out
      have hqs1 := hqs.out
      rw [hd] at hzo1 hqs1
      rw [ownGo_cons] at hzo1
      unfold sumQ at hqs1
      clear hx hd
      by_cases hqx : q < x
      · rw [if_pos hqx] at hzo1
        have HF := Lib.hid hzo1
        clear hzo1 hqs1
        go_wp2
        simp only [Exit.noGoto]
        go_ret
        exact ⟨by rw [HF.out]; rfl, Kp.refl _ _⟩
      · rw [if_neg hqx] at hzo1
        have HF := Lib.hid hzo1
        have HQ := Lib.hid (show q - x < sumQ (l.drop (k + 1)) by omega)
        clear hzo1 hqs1
        go_wp2
        go_roundw
        case rel => exact ⟨k + 1, q - x, by omega, by go_num, rfl, by omega, by first | rfl | trivial, HF, HQ⟩
        case measure => simp [intOf]; omega
    · exfalso
      have := hqs.out
      rw [List.drop_of_length_le (by omega)] at this
      simp [sumQ] at this
      omega

set_option maxRecDepth 100000 in
set_option maxHeartbeats 1600000 in
theorem Owner_any {v : Value} {l : List Int} {w : World} (hs : SeesZ .i64 w v l) (hz : ZOk (-9223372036854775808) 9223372036854775807 l) (u : Int) :
    Calls Try.prog 16 #[v, .int .i64 u] w fun e w' => e = .returned (.tuple #[.int .i64 (ownE l u).1, .int .i64 (ownE l u).2]) ∧ Kp (fun _ => False) w w' := by
  have HC := Lib.hid (sum_any hs hz)
  have HO := Lib.hid (fun w' (k : Kp (fun _ => False) w w') (h : GoodW l) (h0 : 0 ≤ u) (hu : u < sumQ l) => owner_any (hs.kept k) h.pos h.sum u h0 hu)
  obtain ⟨a, c, rfl, hlc, hmax, _⟩ := hs.form
  obtain ⟨q1, h1⟩ : ∃ q, q = (ownE l u).1 := ⟨_, rfl⟩
  obtain ⟨q2, h2⟩ : ∃ q, q = (ownE l u).2 := ⟨_, rfl⟩
  rw [← h1, ← h2]
  obtain ⟨S, hS⟩ : ∃ S, S = sumQ l := ⟨_, rfl⟩
  cases hm : wtsMay l
  · have e1 : (sumE l).1 = 0 := by unfold sumE; rw [hm]; rfl
    have e2 : (sumE l).2 = 1 := by unfold sumE; rw [hm]; rfl
    rw [e1, e2] at HC
    obtain rfl : q1 = 0 := by rw [h1]; unfold ownE; rw [hm]; rfl
    obtain rfl : q2 = 1 := by rw [h2]; unfold ownE; rw [hm]; rfl
    clear h1 h2 hs hz hm e1 e2
    go_enter Try.func16, Try.ntmps16
    go_wp2_with fail
    refine HC.out.mono ?_
    rintro e w2 ⟨rfl, k2⟩
    have K2 := Lib.hid k2
    clear k2
    go_wp2_with fail
    go_ret2
    exact ⟨rfl, K2.out⟩
  · have e1 : (sumE l).1 = S := by rw [hS]; unfold sumE; rw [hm]; rfl
    have e2 : (sumE l).2 = 0 := by unfold sumE; rw [hm]; rfl
    rw [e1, e2] at HC
    have G := wtsMay_iff.1 hm
    have hE : ownE l u = if u < 0 ∨ S ≤ u then (0, 4) else (ownQ l u, 0) := by rw [hS]; unfold ownE; rw [hm]; rfl
    rw [hE] at h1 h2
    rw [← hS] at HO
    have HOO := Lib.hid (fun w' (k : Kp (fun _ => False) w w') => HO.out w' k G)
    clear hs hz hm e1 e2 hE hS G HO
    by_cases hu0 : u < 0
    · rw [if_pos (.inl hu0)] at h1 h2
      subst h1 h2
      go_enter Try.func16, Try.ntmps16
      go_wp2_with fail
      refine HC.out.mono ?_
      rintro e w2 ⟨rfl, k2⟩
      have K2 := Lib.hid k2
      clear k2
      go_wp2_with fail
      go_ret2
      exact ⟨rfl, K2.out⟩
    · by_cases hu1 : S ≤ u
      · rw [if_pos (.inr hu1)] at h1 h2
        subst h1 h2
        go_enter Try.func16, Try.ntmps16
        go_wp2_with fail
        refine HC.out.mono ?_
        rintro e w2 ⟨rfl, k2⟩
        have K2 := Lib.hid k2
        clear k2
        go_wp2_with fail
        go_ret2
        exact ⟨rfl, K2.out⟩
      · rw [if_neg (by omega)] at h1 h2
        subst h2
        have HF := Lib.hid h1
        clear h1
        go_enter Try.func16, Try.ntmps16
        go_wp2_with fail
        refine HC.out.mono ?_
        rintro e w2 ⟨rfl, k2⟩
        have K2 := Lib.hid k2
        clear k2
        have HO2 := Lib.hid (HOO.out _ K2.out (by omega) (by omega))
        go_wp2_with fail
        refine HO2.out.mono ?_
        rintro e w3 ⟨rfl, k3⟩
        have K3 := Lib.hid (K2.out.trans k3 (fun _ _ f => f))
        clear k3
        go_wp2_with fail
        go_ret2
        exact ⟨by rw [HF.out]; rfl, K3.out⟩

set_option maxRecDepth 100000 in
set_option maxHeartbeats 1600000 in
theorem rOwner_any {v : Value} {l : List Int} {w : World} (hs : SeesZ .i64 w v l) (hz : ZOk (-9223372036854775808) 9223372036854775807 l) (u : Int) :
    Calls Try.prog 17 #[v, .int .i64 u] w fun e w' => e = .returned (.tuple #[.int .i64 (ownE l u).1, .int .i64 (ownE l u).2]) ∧ Kp (fun _ => False) w w' := by
  have HC := Lib.hid (rsumQ_any hs hz)
  have HS := Lib.hid (fun w' (k : Kp (fun _ => False) w w') => hs.kept k)
  obtain ⟨a, c, rfl, hlc, hmax, _⟩ := hs.form
  obtain ⟨q1, h1⟩ : ∃ q, q = (ownE l u).1 := ⟨_, rfl⟩
  obtain ⟨q2, h2⟩ : ∃ q, q = (ownE l u).2 := ⟨_, rfl⟩
  rw [← h1, ← h2]
  obtain ⟨S, hS⟩ : ∃ S, S = sumQ l := ⟨_, rfl⟩
  cases hm : wtsMay l
  · have e1 : (sumE l).1 = 0 := by unfold sumE; rw [hm]; rfl
    rw [e1, hm] at HC
    obtain rfl : q1 = 0 := by rw [h1]; unfold ownE; rw [hm]; rfl
    obtain rfl : q2 = 1 := by rw [h2]; unfold ownE; rw [hm]; rfl
    clear h1 h2 hs hz hm e1
    go_enter Try.func17, Try.ntmps17
    go_wp2_with fail
    refine HC.out.mono ?_
    rintro e w2 ⟨rfl, k2⟩
    have K2 := Lib.hid k2
    clear k2
    go_wp2_with fail
    go_ret2
    exact ⟨rfl, K2.out⟩
  · have e1 : (sumE l).1 = S := by rw [hS]; unfold sumE; rw [hm]; rfl
    rw [e1, hm] at HC
    have G := wtsMay_iff.1 hm
    have hE : ownE l u = if u < 0 ∨ S ≤ u then (0, 4) else (ownQ l u, 0) := by rw [hS]; unfold ownE; rw [hm]; rfl
    rw [hE] at h1 h2
    have HP := Lib.hid (fun (k : Nat) (x : Int) (h : l[k]? = some x) => G.pos x (List.mem_of_getElem? h))
    have HSS := Lib.hid hS
    have hSM : S ≤ 4611686018427387903 := by rw [hS]; exact G.sum
    have h32 := G.most
    clear hs hz hm e1 hE hS G
    by_cases hu0 : u < 0
    · rw [if_pos (.inl hu0)] at h1 h2
      subst h1 h2
      go_enter Try.func17, Try.ntmps17
      go_wp2_with fail
      refine HC.out.mono ?_
      rintro e w2 ⟨rfl, k2⟩
      have K2 := Lib.hid k2
      clear k2
      go_wp2_with fail
      go_ret2
      exact ⟨rfl, K2.out⟩
    · by_cases hu1 : S ≤ u
      · rw [if_pos (.inr hu1)] at h1 h2
        subst h1 h2
        go_enter Try.func17, Try.ntmps17
        go_wp2_with fail
        refine HC.out.mono ?_
        rintro e w2 ⟨rfl, k2⟩
        have K2 := Lib.hid k2
        clear k2
        go_wp2_with fail
        go_ret2
        exact ⟨rfl, K2.out⟩
      · rw [if_neg (by omega)] at h1 h2
        subst h2
        have HF := Lib.hid (show q1 = ownGo 0 (l.drop 0) u by rw [h1]; rfl)
        have HU := Lib.hid (show u < sumQ (l.drop 0) by show u < sumQ l; rw [← HSS.out]; omega)
        clear h1
        go_enter Try.func17, Try.ntmps17
        go_wp2_with fail
        refine HC.out.mono ?_
        rintro e w2 ⟨rfl, k2⟩
        have K2 := Lib.hid k2
        have HS2 := Lib.hid (HS.out _ k2)
        clear k2
        go_wp2_with fail
        go_loopw [1, 8] (fun uv iv wr => ∃ (k : Nat) (q : Int), k ≤ l.length ∧ iv = .int .i64 k ∧ uv = .int .i64 q ∧ (0 ≤ q ∧ q ≤ 4611686018427387903) ∧ wr = w2 ∧ Hid (q1 = ownGo k (l.drop k) q) ∧ Hid (q < sumQ (l.drop k))) (fun _ iv _ => l.length - (intOf iv).toNat)
        case atStart => exact ⟨0, u, by omega, rfl, rfl, by omega, rfl, HF, HU⟩
        case round =>
          obtain ⟨k, q, hk, rfl, rfl, ⟨hq0, hq1⟩, rfl, hzo, hqs⟩ := hrel
          by_cases hlt : k < l.length
          · obtain ⟨x, hx⟩ : ∃ x, l[k]? = some x := ⟨l[k], by simp⟩
            obtain ⟨g, off, rfl, hc⟩ := HS2.out.at hx
            have hx1 := HP.out k x hx
            have hd := drop_at hx
            have hzo1 := hzo.out
            have hqs1 := hqs.out
            rw [hd] at hzo1 hqs1
            rw [ownGo_cons] at hzo1
            unfold sumQ at hqs1
            clear hx hd
            by_cases hqx : q < x
            · rw [if_pos hqx] at hzo1
              have HFF := Lib.hid hzo1
              clear hzo1 hqs1
              go_wp2
              go_ret2
              exact ⟨by rw [HFF.out]; rfl, K2.out⟩
            · rw [if_neg hqx] at hzo1
              have HFF := Lib.hid hzo1
              have HQ := Lib.hid (show q - x < sumQ (l.drop (k + 1)) by omega)
              clear hzo1 hqs1
              go_wp2
              go_roundw
              case rel => exact ⟨k + 1, q - x, by omega, by go_num, rfl, by omega, by first | rfl | trivial, HFF, HQ⟩
              case measure => simp [intOf]; omega
          · exfalso
            have := hqs.out
            rw [List.drop_of_length_le (by omega)] at this
            simp [sumQ] at this
            omega
end Go.Proofs.Ytpadabmbblcklaa
